/- A rule's bars and a rule, as the program reads them. -/
import Derived.Test.YtklakcnapdhcnaaDoorRdpS
namespace Go.Proofs.YtklakcnapdhcnaaDoor.Pas
open Go.RowKit
set_option linter.unusedVariables false
theorem Bx.drew {w : World} {A : Nat} {s : ByteArray} {q : Bool} (h : Bx w A s q) : Bx w.drew A s q := h
theorem Kx.drew {A : Nat} {w w' : World} (h : Kx A w w') : Kx A w w'.drew := ⟨h.bel.trans ⟨rfl, rfl, rfl, Nat.le_refl _, fun _ _ => rfl⟩, h.oth⟩
def brs (c : Nat) : ByteArray := ⟨(List.replicate c 124).toArray⟩
theorem repeat_big (c : Nat) (w : World) (hc : c ≤ 1048576) : Calls Tryd.prog 32 #[.string ⟨#[124]⟩, .int .i64 (c : Int)] w fun e w' => e = .returned (.string (brs c)) ∧ Below w.heap.size w w' := by
  refine (Any.strings_Repeat Tryd.laysRepeat extraR ⟨#[124]⟩ c w (by omega) (by show 1 * c ≤ _; omega)).mono ?_
  rintro e w' ⟨rfl, hb⟩
  refine ⟨?_, hb⟩
  have e : (⟨#[124]⟩ : ByteArray).data.toList = [124] := rfl
  rw [e, rep_is]
  rfl
theorem brs_size (c : Nat) : (brs c).size = c := by
  show (List.replicate c (124 : UInt8)).toArray.size = c
  simp
theorem brs_nums (c : Nat) : (⟨#[32]⟩ : ByteArray) ++ brs c = strOfNums (32 :: List.replicate c 124) := by
  apply ByteArray.ext
  unfold strOfNums brs
  simp [ByteArray.data_append]
theorem bt_brs (c k : Nat) (h : k < c + 1) : bt ((⟨#[32]⟩ : ByteArray) ++ brs c) k = if k = 0 then 32 else 124 := by
  rw [brs_nums]
  have := bt_nums (32 :: List.replicate c 124) k (by simp; omega) (by intro x hx; simp at hx; omega)
  cases k with
  | zero => simp at this ⊢; omega
  | succ k => simp at this ⊢; omega
theorem brs_all (c : Nat) : ((⟨#[32]⟩ : ByteArray) ++ brs c).size = c + 1 := by rw [ByteArray.size_append, brs_size]; show 1 + c = c + 1; omega
/-- The rest of the line is a blank and bars. -/
theorem rest_bars (t : ByteArray) (i : Nat) (h : i + 1 < t.size) : (t.extract i t.size = ((⟨#[32]⟩ : ByteArray) ++ brs (t.size - i - 1))) ↔ endB t i = true := by
  unfold endB
  rw [decide_eq_false (p := i = t.size) (by omega), decide_eq_true (p := i + 1 < t.size) h, Bool.false_or, Bool.true_and, Bool.and_eq_true, beq_iff_eq, decide_eq_true_eq, (barsTo_le t _ (i + 1) (Nat.le_refl _) (by omega)).2.2]
  constructor
  · intro e
    have g : ∀ k, k < t.size - i → bt t (i + k) = if k = 0 then 32 else 124 := by
      intro k hk
      rw [← bt_ext t i k (by omega), e]
      exact bt_brs _ _ (by omega)
    refine ⟨by simpa using g 0 (by omega), fun k h1 h2 => ?_⟩
    have := g (k - i) (by omega)
    rw [if_neg (by omega)] at this
    rw [← this]; congr 1; omega
  · rintro ⟨h1, h2⟩
    refine ba_ext (by rw [brs_all, ext_size]; omega) (fun k hk => ?_)
    rw [ext_size] at hk
    rw [bt_ext t i k (by omega), bt_brs _ _ (by omega)]
    by_cases hk0 : k = 0
    · rw [if_pos hk0, hk0]; exact h1
    · rw [if_neg hk0]; exact h2 _ (by omega) (by omega)
theorem endB_all (t : ByteArray) : endB t t.size = true := by unfold endB; simp
theorem endB_one (t : ByteArray) (i : Nat) (h : i + 1 = t.size) : endB t i = false := by
  unfold endB
  rw [decide_eq_false (p := i = t.size) (by omega), decide_eq_false (p := i + 1 < t.size) (by omega)]; rfl
set_option maxRecDepth 100000 in
set_option maxHeartbeats 4000000 in
/-- takeAgain. -/
theorem again_any (A i : Nat) (t : ByteArray) (q : Bool) (w : World) (ht : t.size ≤ 1048576) (hi : i ≤ t.size) (hB : Bx w A (t.extract i t.size) q) :
    Calls Tryd.prog 70 #[.pointer (some ⟨A, 0, none⟩)] w fun e w' => e = .returned (.int .i64 (if i = t.size then 0 else ((t.size - i - 1 : Nat) : Int))) ∧ Bx w' A (t.extract i t.size) (q || !endB t i) ∧ Kx A w w' := by
  have hA := hB.lt
  have HB := hide hB
  obtain ⟨c0, c1, f0, f1⟩ := two_cellsR hB
  clear hB
  by_cases h0 : i = t.size
  · have hE := empty_eqR (b := t.extract i t.size) (by rw [ext_size]; omega)
    rw [if_pos h0, h0, endB_all]
    rw [h0] at hE c0 HB
    generalize t.extract t.size t.size = s at *
    clear h0
    go_enter Tryd.func70, Tryd.ntmps70
    go_wp2
    go_ret
    exact ⟨rfl, by rw [Bool.not_true, Bool.or_false]; exact unhide HB, Kx.refl _ _⟩
  · rw [if_neg h0]
    have hE := empty_neR (b := t.extract i t.size) (by rw [ext_size]; omega)
    have hsz := ext_size t i
    by_cases h1 : i + 1 = t.size
    · rw [endB_one t i h1]
      have e1 : t.size - i - 1 = 0 := by omega
      have es : (t.extract i t.size).size = 1 := by omega
      rw [e1]
      clear hsz e1
      generalize t.extract i t.size = s at *
      clear h0 h1
      go_enter Tryd.func70, Tryd.ntmps70
      have B2 := hide ((unhide HB).drew.put1 true)
      have K2 := hide ((Kx.refl A w).drew.put 1 (.bool true))
      go_wp2_with fail
      refine wp_region_held_drew (S := fun w' => w'.cell? ⟨A, 0, none⟩ = some (.string s)) (by kernel_rfl) (by first | go_keep | exact c0) (fun hHeld => ?_)
      refine tkP (i := 0) (d := some 15) (v := ?_) rfl rfl (by kernel_rfl) (by kernel_rfl) (by kernel_rfl) (fun _ _ _ h => h) (Or.inl ⟨by rfl, ?_⟩) (by assumption) ?_
      rotate_left
      · intro w hSw; (try dsimp only at hSw); go_simp; try with_reducible rfl
      try simp only [Act.put, List.setIfInBounds_toArray, List.set_cons_zero, List.set_cons_succ]
      refine tkP (i := 1) (d := some 16) (v := ?_) rfl rfl (by kernel_rfl) (by kernel_rfl) (by kernel_rfl) (fun _ _ _ h => h) (Or.inl ⟨by rfl, ?_⟩) (by assumption) ?_
      rotate_left
      · intro w hSw; (try dsimp only at hSw); go_simp; try with_reducible rfl
      try simp only [Act.put, List.setIfInBounds_toArray, List.set_cons_zero, List.set_cons_succ]
      refine tkP (i := 2) (d := some 17) (v := ?_) rfl rfl (by kernel_rfl) (by kernel_rfl) (by kernel_rfl) (fun _ _ _ h => h) (Or.inl ⟨by rfl, ?_⟩) (by assumption) ?_
      rotate_left
      · intro w hSw; (try dsimp only at hSw); go_simp; try with_reducible rfl
      try simp only [Act.put, List.setIfInBounds_toArray, List.set_cons_zero, List.set_cons_succ]
      refine tkP (i := 3) (d := some 18) (v := undef) rfl rfl (by kernel_rfl) (by kernel_rfl) (by kernel_rfl) (fun _ _ _ h => h) (Or.inr ⟨by rfl, rfl⟩) (by assumption) ?_
      try simp only [Act.put, List.setIfInBounds_toArray, List.set_cons_zero, List.set_cons_succ]
      refine tkP (i := 4) (d := some 19) (v := undef) rfl rfl (by kernel_rfl) (by kernel_rfl) (by kernel_rfl) (fun _ _ _ h => h) (Or.inr ⟨by rfl, rfl⟩) (by assumption) ?_
      try simp only [Act.put, List.setIfInBounds_toArray, List.set_cons_zero, List.set_cons_succ]
      refine tkP (i := 5) (d := some 20) (v := undef) rfl rfl (by kernel_rfl) (by kernel_rfl) (by kernel_rfl) (fun _ _ _ h => h) (Or.inr ⟨by rfl, rfl⟩) (by assumption) ?_
      try simp only [Act.put, List.setIfInBounds_toArray, List.set_cons_zero, List.set_cons_succ]
      refine tkP (i := 6) (d := some 21) (v := undef) rfl rfl (by kernel_rfl) (by kernel_rfl) (by kernel_rfl) (fun _ _ _ h => h) (Or.inr ⟨by rfl, rfl⟩) (by assumption) ?_
      try simp only [Act.put, List.setIfInBounds_toArray, List.set_cons_zero, List.set_cons_succ]
      refine tkP (i := 7) (d := some 22) (v := undef) rfl rfl (by kernel_rfl) (by kernel_rfl) (by kernel_rfl) (fun _ _ _ h => h) (Or.inr ⟨by rfl, rfl⟩) (by assumption) ?_
      try simp only [Act.put, List.setIfInBounds_toArray, List.set_cons_zero, List.set_cons_succ]
      refine tkP (i := 8) (d := some 23) (v := undef) rfl rfl (by kernel_rfl) (by kernel_rfl) (by kernel_rfl) (fun _ _ _ h => h) (Or.inr ⟨by rfl, rfl⟩) (by assumption) ?_
      try simp only [Act.put, List.setIfInBounds_toArray, List.set_cons_zero, List.set_cons_succ]
      refine tkP (i := 9) (d := some 24) (v := undef) rfl rfl (by kernel_rfl) (by kernel_rfl) (by kernel_rfl) (fun _ _ _ h => h) (Or.inr ⟨by rfl, rfl⟩) (by assumption) ?_
      try simp only [Act.put, List.setIfInBounds_toArray, List.set_cons_zero, List.set_cons_succ]
      refine tkP (i := 10) (d := some 25) (v := undef) rfl rfl (by kernel_rfl) (by kernel_rfl) (by kernel_rfl) (fun _ _ _ h => h) (Or.inr ⟨by rfl, rfl⟩) (by assumption) ?_
      try simp only [Act.put, List.setIfInBounds_toArray, List.set_cons_zero, List.set_cons_succ]
      refine tkP (i := 11) (d := some 26) (v := ?_) rfl rfl (by kernel_rfl) (by kernel_rfl) (by kernel_rfl) (fun _ _ _ h => h) (Or.inl ⟨by rfl, ?_⟩) (by assumption) ?_
      rotate_left
      · intro w hSw; (try dsimp only at hSw); go_simp; try with_reducible rfl
      try simp only [Act.put, List.setIfInBounds_toArray, List.set_cons_zero, List.set_cons_succ]
      refine wpAnyH_done (by kernel_rfl) ?_ _
      go_wp2
      go_ret
      exact ⟨rfl, by rw [Bool.not_false, Bool.or_true]; exact unhide B2, unhide K2⟩
    · have RB := rest_bars t i (by omega)
      have CR := hide (fun W => repeat_big (t.size - i - 1) W (by omega))
      have HC : Hid ((t.size - i - 1) + 1 = (t.extract i t.size).size) := hide (by omega)
      have hc1 : 1 ≤ t.size - i - 1 := by omega
      have hc2 : t.size - i - 1 ≤ 1048576 := by omega
      have hbz := brs_size (t.size - i - 1)
      clear hsz
      generalize t.extract i t.size = s at *
      generalize t.size - i - 1 = c at *
      generalize endB t i = en at *
      clear h0 h1
      have hsz : s.size = c + 1 := (unhide HC).symm
      have HAD := fun W => run_string_add_sum (P := Tryd.prog) W (⟨#[32]⟩ : ByteArray) (brs c) (by rw [hbz]; show 1 + c ≤ _; omega)
      have HQ : (s.toList == ((⟨#[32]⟩ : ByteArray) ++ brs c).toList) = en := by
        rw [str_beq, Bool.eq_iff_iff, decide_eq_true_eq]; exact RB
      clear RB HC
      generalize (⟨#[32]⟩ : ByteArray) ++ brs c = u at *
      have hcz : ((c : Int) == 0) = false := by rw [beq_eq_false_iff_ne]; omega
      cases en with
      | true =>
        go_enter Tryd.func70, Tryd.ntmps70
        go_wp2_with fail
        refine wp_region_held_drew (S := fun w' => w'.cell? ⟨A, 0, none⟩ = some (.string s)) (by kernel_rfl) (by first | go_keep | exact c0) (fun hHeld => ?_)
        refine tkP (i := 0) (d := some 15) (v := ?_) rfl rfl (by kernel_rfl) (by kernel_rfl) (by kernel_rfl) (fun _ _ _ h => h) (Or.inl ⟨by rfl, ?_⟩) (by assumption) ?_
        rotate_left
        · intro w hSw; (try dsimp only at hSw); go_simp; try with_reducible rfl
        try simp only [Act.put, List.setIfInBounds_toArray, List.set_cons_zero, List.set_cons_succ]
        refine tkP (i := 1) (d := some 16) (v := ?_) rfl rfl (by kernel_rfl) (by kernel_rfl) (by kernel_rfl) (fun _ _ _ h => h) (Or.inl ⟨by rfl, ?_⟩) (by assumption) ?_
        rotate_left
        · intro w hSw; (try dsimp only at hSw); go_simp; try with_reducible rfl
        try simp only [Act.put, List.setIfInBounds_toArray, List.set_cons_zero, List.set_cons_succ]
        refine tkP (i := 2) (d := some 17) (v := ?_) rfl rfl (by kernel_rfl) (by kernel_rfl) (by kernel_rfl) (fun _ _ _ h => h) (Or.inl ⟨by rfl, ?_⟩) (by assumption) ?_
        rotate_left
        · intro w hSw; (try dsimp only at hSw); go_simp; try with_reducible rfl
        try simp only [Act.put, List.setIfInBounds_toArray, List.set_cons_zero, List.set_cons_succ]
        refine tkP (i := 3) (d := some 18) (v := ?_) rfl rfl (by kernel_rfl) (by kernel_rfl) (by kernel_rfl) (fun _ _ _ h => h) (Or.inl ⟨by rfl, ?_⟩) (by assumption) ?_
        rotate_left
        · intro w hSw; (try dsimp only at hSw); go_simp; try with_reducible rfl
        try simp only [Act.put, List.setIfInBounds_toArray, List.set_cons_zero, List.set_cons_succ]
        refine tkP (i := 4) (d := some 19) (v := ?_) rfl rfl (by kernel_rfl) (by kernel_rfl) (by kernel_rfl) (fun _ _ _ h => h) (Or.inl ⟨by rfl, ?_⟩) (by assumption) ?_
        rotate_left
        · intro w hSw; (try dsimp only at hSw); go_simp; try with_reducible rfl
        try simp only [Act.put, List.setIfInBounds_toArray, List.set_cons_zero, List.set_cons_succ]
        refine tkP (i := 5) (d := some 20) (v := ?_) rfl rfl (by kernel_rfl) (by kernel_rfl) (by kernel_rfl) (fun _ _ _ h => h) (Or.inl ⟨by rfl, ?_⟩) (by assumption) ?_
        rotate_left
        · intro w hSw; (try dsimp only at hSw); go_simp; try with_reducible rfl
        try simp only [Act.put, List.setIfInBounds_toArray, List.set_cons_zero, List.set_cons_succ]
        refine tkP (i := 6) (d := some 21) (v := ?_) rfl rfl (by kernel_rfl) (by kernel_rfl) (by kernel_rfl) (fun _ _ _ h => h) (Or.inl ⟨by rfl, ?_⟩) (by assumption) ?_
        rotate_left
        · intro w hSw; (try dsimp only at hSw); go_simp; try with_reducible rfl
        try simp only [Act.put, List.setIfInBounds_toArray, List.set_cons_zero, List.set_cons_succ]
        refine tkP (i := 7) (d := some 22) (v := ?_) rfl rfl (by kernel_rfl) (by kernel_rfl) (by kernel_rfl) (fun _ _ _ h => h) (Or.inl ⟨by rfl, ?_⟩) (by assumption) ?_
        rotate_left
        · intro w hSw; (try dsimp only at hSw); go_simp; try with_reducible rfl
        try simp only [Act.put, List.setIfInBounds_toArray, List.set_cons_zero, List.set_cons_succ]
        refine wpAnyH_ready (rs := [8]) (by kernel_rfl) (by simp) (AllReadyH.cons rfl (fun K hK => ?_) AllReadyH.nil)
        go_simp
        go_at_call 32
        refine ((unhide CR) _).mono ?_
        rintro e w2 ⟨rfl, hb2⟩
        have hb3 := (drewB w).trans hb2
        have k2 : Bx w2 A s q := (hb3.block A hA).trans (unhide HB)
        obtain ⟨d0, d1, g0, g1⟩ := two_cellsR k2
        have K2 := hide ((Kx.refl A w).of hb3 (Nat.le_of_lt hA))
        have B2 := hide k2
        clear hb2 hb3 k2
        try go_wp2_with fail
        refine hK.out _ _ d0 (fun hHeld5 => ?_)
        clear hK K
        try simp only [Act.put, List.setIfInBounds_toArray, List.set_cons_zero, List.set_cons_succ]
        refine tkP (i := 9) (d := some 24) (v := ?_) rfl rfl (by kernel_rfl) (by kernel_rfl) (by kernel_rfl) (fun _ _ _ h => h) (Or.inl ⟨by rfl, ?_⟩) (by assumption) ?_
        rotate_left
        · intro w hSw; (try dsimp only at hSw); go_simp; try with_reducible rfl
        try simp only [Act.put, List.setIfInBounds_toArray, List.set_cons_zero, List.set_cons_succ]
        refine tkP (i := 10) (d := some 25) (v := ?_) rfl rfl (by kernel_rfl) (by kernel_rfl) (by kernel_rfl) (fun _ _ _ h => h) (Or.inl ⟨by rfl, ?_⟩) (by assumption) ?_
        rotate_left
        · intro w hSw; (try dsimp only at hSw); go_simp; try with_reducible rfl
        try simp only [Act.put, List.setIfInBounds_toArray, List.set_cons_zero, List.set_cons_succ]
        refine tkP (i := 11) (d := some 26) (v := ?_) rfl rfl (by kernel_rfl) (by kernel_rfl) (by kernel_rfl) (fun _ _ _ h => h) (Or.inl ⟨by rfl, ?_⟩) (by assumption) ?_
        rotate_left
        · intro w hSw; (try dsimp only at hSw); go_simp; try with_reducible rfl
        try simp only [Act.put, List.setIfInBounds_toArray, List.set_cons_zero, List.set_cons_succ]
        refine wpAnyH_done (by kernel_rfl) ?_ _
        go_wp2
        go_ret
        exact ⟨rfl, by rw [Bool.not_true, Bool.or_false]; exact unhide B2, unhide K2⟩
      | false =>
        go_enter Tryd.func70, Tryd.ntmps70
        go_wp2_with fail
        refine wp_region_held_drew (S := fun w' => w'.cell? ⟨A, 0, none⟩ = some (.string s)) (by kernel_rfl) (by first | go_keep | exact c0) (fun hHeld => ?_)
        refine tkP (i := 0) (d := some 15) (v := ?_) rfl rfl (by kernel_rfl) (by kernel_rfl) (by kernel_rfl) (fun _ _ _ h => h) (Or.inl ⟨by rfl, ?_⟩) (by assumption) ?_
        rotate_left
        · intro w hSw; (try dsimp only at hSw); go_simp; try with_reducible rfl
        try simp only [Act.put, List.setIfInBounds_toArray, List.set_cons_zero, List.set_cons_succ]
        refine tkP (i := 1) (d := some 16) (v := ?_) rfl rfl (by kernel_rfl) (by kernel_rfl) (by kernel_rfl) (fun _ _ _ h => h) (Or.inl ⟨by rfl, ?_⟩) (by assumption) ?_
        rotate_left
        · intro w hSw; (try dsimp only at hSw); go_simp; try with_reducible rfl
        try simp only [Act.put, List.setIfInBounds_toArray, List.set_cons_zero, List.set_cons_succ]
        refine tkP (i := 2) (d := some 17) (v := ?_) rfl rfl (by kernel_rfl) (by kernel_rfl) (by kernel_rfl) (fun _ _ _ h => h) (Or.inl ⟨by rfl, ?_⟩) (by assumption) ?_
        rotate_left
        · intro w hSw; (try dsimp only at hSw); go_simp; try with_reducible rfl
        try simp only [Act.put, List.setIfInBounds_toArray, List.set_cons_zero, List.set_cons_succ]
        refine tkP (i := 3) (d := some 18) (v := ?_) rfl rfl (by kernel_rfl) (by kernel_rfl) (by kernel_rfl) (fun _ _ _ h => h) (Or.inl ⟨by rfl, ?_⟩) (by assumption) ?_
        rotate_left
        · intro w hSw; (try dsimp only at hSw); go_simp; try with_reducible rfl
        try simp only [Act.put, List.setIfInBounds_toArray, List.set_cons_zero, List.set_cons_succ]
        refine tkP (i := 4) (d := some 19) (v := ?_) rfl rfl (by kernel_rfl) (by kernel_rfl) (by kernel_rfl) (fun _ _ _ h => h) (Or.inl ⟨by rfl, ?_⟩) (by assumption) ?_
        rotate_left
        · intro w hSw; (try dsimp only at hSw); go_simp; try with_reducible rfl
        try simp only [Act.put, List.setIfInBounds_toArray, List.set_cons_zero, List.set_cons_succ]
        refine tkP (i := 5) (d := some 20) (v := ?_) rfl rfl (by kernel_rfl) (by kernel_rfl) (by kernel_rfl) (fun _ _ _ h => h) (Or.inl ⟨by rfl, ?_⟩) (by assumption) ?_
        rotate_left
        · intro w hSw; (try dsimp only at hSw); go_simp; try with_reducible rfl
        try simp only [Act.put, List.setIfInBounds_toArray, List.set_cons_zero, List.set_cons_succ]
        refine tkP (i := 6) (d := some 21) (v := ?_) rfl rfl (by kernel_rfl) (by kernel_rfl) (by kernel_rfl) (fun _ _ _ h => h) (Or.inl ⟨by rfl, ?_⟩) (by assumption) ?_
        rotate_left
        · intro w hSw; (try dsimp only at hSw); go_simp; try with_reducible rfl
        try simp only [Act.put, List.setIfInBounds_toArray, List.set_cons_zero, List.set_cons_succ]
        refine tkP (i := 7) (d := some 22) (v := ?_) rfl rfl (by kernel_rfl) (by kernel_rfl) (by kernel_rfl) (fun _ _ _ h => h) (Or.inl ⟨by rfl, ?_⟩) (by assumption) ?_
        rotate_left
        · intro w hSw; (try dsimp only at hSw); go_simp; try with_reducible rfl
        try simp only [Act.put, List.setIfInBounds_toArray, List.set_cons_zero, List.set_cons_succ]
        refine wpAnyH_ready (rs := [8]) (by kernel_rfl) (by simp) (AllReadyH.cons rfl (fun K hK => ?_) AllReadyH.nil)
        go_simp
        go_at_call 32
        refine ((unhide CR) _).mono ?_
        rintro e w2 ⟨rfl, hb2⟩
        have hb3 := (drewB w).trans hb2
        have k2 : Bx w2 A s q := (hb3.block A hA).trans (unhide HB)
        obtain ⟨d0, d1, g0, g1⟩ := two_cellsR k2
        have K2 := hide ((Kx.refl A w).of hb3 (Nat.le_of_lt hA))
        have B2 := hide k2
        clear hb2 hb3 k2
        try go_wp2_with fail
        refine hK.out _ _ d0 (fun hHeld5 => ?_)
        clear hK K
        try simp only [Act.put, List.setIfInBounds_toArray, List.set_cons_zero, List.set_cons_succ]
        refine tkP (i := 9) (d := some 24) (v := ?_) rfl rfl (by kernel_rfl) (by kernel_rfl) (by kernel_rfl) (fun _ _ _ h => h) (Or.inl ⟨by rfl, ?_⟩) (by assumption) ?_
        rotate_left
        · intro w hSw; (try dsimp only at hSw); go_simp; try with_reducible rfl
        try simp only [Act.put, List.setIfInBounds_toArray, List.set_cons_zero, List.set_cons_succ]
        refine tkP (i := 10) (d := some 25) (v := ?_) rfl rfl (by kernel_rfl) (by kernel_rfl) (by kernel_rfl) (fun _ _ _ h => h) (Or.inl ⟨by rfl, ?_⟩) (by assumption) ?_
        rotate_left
        · intro w hSw; (try dsimp only at hSw); go_simp; try with_reducible rfl
        try simp only [Act.put, List.setIfInBounds_toArray, List.set_cons_zero, List.set_cons_succ]
        refine tkP (i := 11) (d := some 26) (v := ?_) rfl rfl (by kernel_rfl) (by kernel_rfl) (by kernel_rfl) (fun _ _ _ h => h) (Or.inl ⟨by rfl, ?_⟩) (by assumption) ?_
        rotate_left
        · intro w hSw; (try dsimp only at hSw); go_simp; try with_reducible rfl
        try simp only [Act.put, List.setIfInBounds_toArray, List.set_cons_zero, List.set_cons_succ]
        refine wpAnyH_done (by kernel_rfl) ?_ _
        have B3 := hide ((unhide B2).put1 true)
        have K3 := hide ((unhide K2).put 1 (.bool true))
        go_wp2
        go_ret
        exact ⟨rfl, by rw [Bool.not_false, Bool.or_true]; exact unhide B3, unhide K3⟩
end Go.Proofs.YtklakcnapdhcnaaDoor.Pas
