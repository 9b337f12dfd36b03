/- Marks that are right, one and a row, as both sides ask. -/
import Derived.Test.YtaipnmmlfbfcnaaDoorRpfN
import Derived.Deep.RegionHeld3
import Derived.Deep.Cut
namespace Go.Proofs.YtaipnmmlfbfcnaaDoor.Rop
open Go.RowKit Rwc
set_option linter.unusedVariables false
theorem tkM {P : Program} {ops : Array Oper} {Q : Exit → Act → World → Prop} {md : Region.Mode} {S : World → Prop} {i : Nat} {oi : Oper} {d : Option Tmp} {v : Value} {fuel : Nat} {listed : Array Bool} {a : Act} {w : World} (hi : ops[i]? = some oi) (hd : oi.dst = d)
    (hs : Region.noSelect ops = true) (hf : Region.free md ops listed i = true) (hr : (Region.ready md ops listed).contains i = true)
    (hQ : ∀ c a w, Q (.panic c) (a.put d v) w → Q (.panic c) a w) (hy : YieldsIf P ops S oi v a) (hS : S w)
    (h : wpAnyH P md ops Q S fuel (listed.setIfInBounds i true) (a.put d v) w) : wpAnyH P md ops Q S (fuel + 1) listed a w := by
  subst hd
  exact wpAnyH_take hi hs hf hr hQ hy hS h
theorem mkB_no {m : Mk} {n : Nat} (h : nmB m.name = false) : mkB m n = false := by unfold mkB; rw [h]; rfl
theorem mkB_yes {m : Mk} {n : Nat} (h : nmB m.name = true) : mkB m n = (decide (0 ≤ m.pl) && decide (m.pl ≤ (n : Int))) := by unfold mkB; rw [h]; rfl
set_option maxRecDepth 100000 in
set_option maxHeartbeats 1000000 in
theorem markI (m : Mk) (n : Nat) (w : World) (hs : m.name.size ≤ 1048576) (hn : n ≤ 1048576) : Calls Tryd.prog 60 #[mk_v m, .int .i64 (n : Int)] w fun e w' => e = .returned (.bool (mkB m n)) ∧ Below w.heap.size w w' := by
  obtain ⟨nm, p, st⟩ := m
  have CN := hide (fun W => nameI nm W hs)
  have CW := hide (fun W => within_any p 0 (n : Int) W)
  unfold mk_v
  simp only at *
  have hA : Below w.heap.size w (w.alloc (.cells #[.string nm, .int .i64 p, .bool st] 48)) := (Below.refl _ _).alloc (Nat.le_refl _) _
  have hg := heap_new w (.cells #[.string nm, .int .i64 p, .bool st] 48)
  have hz : w.heap.size < (w.alloc (.cells #[.string nm, .int .i64 p, .bool st] 48)).heap.size := by simp
  cases hb : nmB nm
  · rw [mkB_no hb]
    rw [hb] at CN
    clear hb
    go_enter Tryd.func60, Tryd.ntmps60
    go_wp2_with (go_at_call 73; refine ((unhide CN) _).mono ?_; rintro e w2 ⟨rfl, hb2⟩; have B2 := hide (hA.trans (hb2.mono hA.size)); clear hb2)
    go_ret
    exact ⟨rfl, unhide B2⟩
  · rw [mkB_yes hb]
    rw [hb] at CN
    clear hb
    simp only
    generalize (decide (0 ≤ p) && decide (p ≤ (n : Int))) = R at *
    go_enter Tryd.func60, Tryd.ntmps60
    go_wp2_with (first
      | (go_at_call 73; refine ((unhide CN) _).mono ?_; rintro e w2 ⟨rfl, hb2⟩; have B2 := hide (hA.trans (hb2.mono hA.size)); obtain ⟨c0, c1, c2, _⟩ := three_cells ((hb2.block w.heap.size hz).trans hg); clear hb2)
      | (go_at_call 32; refine ((unhide CW) _).mono ?_; rintro e w3 ⟨rfl, hw⟩; obtain rfl := hw.symm; clear hw))
    go_ret
    exact ⟨rfl, unhide B2⟩
set_option maxRecDepth 100000 in
set_option maxHeartbeats 1000000 in
theorem markS1 (m : Mk) (n : Nat) (w : World) (hs : m.name.size ≤ 1048576) (hn : n ≤ 1048576) : Calls Tryd.prog 25 #[mk_v m, .int .i64 (n : Int)] w fun e w' => e = .returned (.bool (mkB m n)) ∧ Below w.heap.size w w' := by
  obtain ⟨nm, p, st⟩ := m
  have CN := hide (fun W => nameS nm W hs)
  unfold mk_v
  simp only at *
  have hA : Hid (Below w.heap.size w (w.alloc (.cells #[.string nm, .int .i64 p, .bool st] 48))) := hide ((Below.refl _ _).alloc (Nat.le_refl _) _)
  cases hb : nmB nm
  · rw [mkB_no hb]
    rw [hb] at CN
    clear hb
    go_enter Tryd.func25, Tryd.ntmps25
    go_wp2_with (go_at_call 40; refine ((unhide CN) _).mono ?_; rintro e w2 ⟨rfl, hw⟩; obtain rfl := hw.symm; clear hw)
    go_ret
    exact ⟨rfl, unhide hA⟩
  · rw [mkB_yes hb]
    rw [hb] at CN
    clear hb
    simp only
    by_cases h1 : 0 ≤ p
    · by_cases h2 : p ≤ (n : Int)
      · have h1b := decide_eq_true h1
        have h2b := decide_eq_true h2
        rw [h1b, h2b]
        go_enter Tryd.func25, Tryd.ntmps25
        go_wp2_with (go_at_call 40; refine ((unhide CN) _).mono ?_; rintro e w2 ⟨rfl, hw⟩; obtain rfl := hw.symm; clear hw)
        go_ret
        exact ⟨rfl, unhide hA⟩
      · have h1b := decide_eq_true h1
        have h2b := decide_eq_false h2
        rw [h1b, h2b]
        go_enter Tryd.func25, Tryd.ntmps25
        go_wp2_with (go_at_call 40; refine ((unhide CN) _).mono ?_; rintro e w2 ⟨rfl, hw⟩; obtain rfl := hw.symm; clear hw)
        go_ret
        exact ⟨rfl, unhide hA⟩
    · have h1b := decide_eq_false h1
      rw [h1b]
      go_enter Tryd.func25, Tryd.ntmps25
      go_wp2_with (go_at_call 40; refine ((unhide CN) _).mono ?_; rintro e w2 ⟨rfl, hw⟩; obtain rfl := hw.symm; clear hw)
      go_ret
      exact ⟨rfl, unhide hA⟩
theorem mk1_bad {M : List Mk} {n k : Nat} (h : mkB (mk_g M k) n = false) : mk1 M n k = false := by unfold mk1; rw [h]; rfl
theorem mk1_first {M : List Mk} {n : Nat} (h : mkB (mk_g M 0) n = true) : mk1 M n 0 = true := by unfold mk1; rw [h]; rfl
theorem mk1_next {M : List Mk} {n k : Nat} (h : mkB (mk_g M (k + 1)) n = true) : mk1 M n (k + 1) = !(geB (mk_g M k).name (mk_g M (k + 1)).name) := by
  unfold mk1
  rw [h, decide_eq_true (Nat.succ_pos k)]
  simp
/-- A row of marks that is read while things are laid behind it. -/
theorem mk_rd {B : Nat} {w W : World} {v : Value} {M : List Mk} (h : mk_At B w v M) (hb : Below w.heap.size w W) {k : Nat} (hk : k < M.length) : ∃ b off cap, v = .slice (some ⟨b, off, none⟩) M.length cap ∧ b < w.heap.size ∧ ∀ i, i < M.length → mk_C W b (off + i * 3) (mk_g M i) := by
  obtain ⟨a, cap, rfl, h⟩ := h
  rcases h with rfl | ⟨b, off, rfl, hB, hbs, hc⟩
  · simp at hk
  · exact ⟨b, off, cap, rfl, hbs, fun i hi => mk_C_block (hc i hi) (hb.block b hbs)⟩
set_option maxRecDepth 100000 in
set_option maxHeartbeats 8000000 in
theorem areMarksI (v : Value) (M : List Mk) (n B : Nat) (w : World) (hv : mk_At B w v M) (hn : n ≤ 1048576) (hf : ∀ i, i < M.length → (mk_g M i).name.size ≤ 1048576) (hM : M.length ≤ 1048576) :
    Calls Tryd.prog 44 #[v, .int .i64 (n : Int)] w fun e w' => e = .returned (.bool (decide (M.length ≤ 100) && mksR M n 0)) ∧ Below w.heap.size w w' := by
  have HV := hide hv
  have HF := hide hf
  obtain ⟨a, cap, rfl⟩ := mk_form hv
  clear hv hf
  by_cases h100 : 100 < M.length
  · rw [decide_eq_false (show ¬ M.length ≤ 100 by omega)]
    have hi : (100 : Int) < (M.length : Int) := by omega
    go_enter Tryd.func44, Tryd.ntmps44
    go_wp2
    go_ret
    exact ⟨by simp, Below.refl _ _⟩
  rw [decide_eq_true (show M.length ≤ 100 by omega), Bool.true_and]
  have hi : ¬ (100 : Int) < (M.length : Int) := by omega
  have hib : decide ((100 : Int) < (M.length : Int)) = false := decide_eq_false hi
  have HR0 : Hid (mksR M n 0 = mksR M n 0) := hide rfl
  generalize hR : mksR M n 0 = R at HR0 ⊢
  have HRR := hide hR
  clear hR HR0
  go_enter Tryd.func44, Tryd.ntmps44
  go_wp2
  go_loopw [5, 6, 12] (fun v5 v6 iv wr => ∃ i : Nat, i ≤ M.length ∧ iv = .int .i64 (i : Int) ∧ Hid (mksR M n i = R) ∧ Hid (Below w.heap.size w wr)) (fun _ _ iv _ => (M.length - intOf iv).toNat)
  case atStart => exact ⟨0, by omega, rfl, HRR, hide (Below.refl _ _)⟩
  case round =>
    obtain ⟨i, hi2, rfl, HR, HB⟩ := hrel
    by_cases hlt : i < M.length
    · obtain ⟨b, off, cp, he, hbw, hcs⟩ := mk_rd (unhide HV) (unhide HB) hlt
      injection he with he1 _ he2
      subst he1 he2
      have hlt' : (i : Int) < (M.length : Int) := by omega
      have h0i : (0 : Int) ≤ (i : Int) := by omega
      obtain ⟨d0, d1, d2⟩ := hcs i hlt
      have CM := hide (fun W => markI (mk_g M i) n W ((unhide HF) i hlt) hn)
      have HY := hide (mksR_yes M n i hlt)
      have HX := hide (mksR_no M n i hlt)
      have HBAD := hide (mk1_bad (M := M) (n := n) (k := i))
      have HFST : Hid (i = 0 → mkB (mk_g M i) n = true → mk1 M n i = true) := hide (fun e h => by subst e; exact mk1_first h)
      have HNX : Hid (∀ k, i = k + 1 → mkB (mk_g M i) n = true → mk1 M n i = !(geB (mk_g M k).name (mk_g M i).name)) := hide (fun k e h => by subst e; exact mk1_next h)
      have HZ : Hid (∀ k, k < M.length → wr.cell? ⟨b, off + k * 3, none⟩ = some (.string (mk_g M k).name)) := hide (fun k hk => (hcs k hk).1)
      clear hcs
      generalize hm : mk_g M i = mm at *
      clear hm
      obtain ⟨nm, pl, st⟩ := mm
      unfold mk_v at CM
      simp only at d0 d1 d2 CM
      have hbs := (unhide HB).size
      go_upto_region 6 with fail
      have hnew := heap_new wr (.cells #[.string nm, .int .i64 pl, .bool st] 48)
      have HB3 := hide ((unhide HB).trans (((Below.refl wr.heap.size wr).alloc (Nat.le_refl _) (.cells #[.string nm, .int .i64 pl, .bool st] 48)).mono hbs))
      have hkeep : Hid (∀ k : Nat, k < M.length → (wr.alloc (.cells #[.string nm, .int .i64 pl, .bool st] 48)).cell? ⟨b, off + k * 3, none⟩ = some (.string (mk_g M k).name)) := hide (fun k hk => (((Below.refl wr.heap.size wr).alloc (Nat.le_refl _) _).cell (p := ⟨b, off + k * 3, none⟩) (by show b < wr.heap.size; omega)).trans ((unhide HZ) k hk))
      have hg3 : wr.heap.size < (wr.alloc (.cells #[.string nm, .int .i64 pl, .bool st] 48)).heap.size := by simp
      have hbw3 : b < (wr.alloc (.cells #[.string nm, .int .i64 pl, .bool st] 48)).heap.size := by simp; omega
      generalize wr.alloc (.cells #[.string nm, .int .i64 pl, .bool st] 48) = w3 at *
      generalize wr.heap.size = g at *
      obtain ⟨y0, y1, y2, _⟩ := three_cells hnew
      clear hnew d0 d1 d2 HZ
      cases hok : mkB ⟨nm, pl, st⟩ n
      · have HR2 : Hid (R = false) := hide (by rw [← unhide HR, (unhide HX) ((unhide HBAD) hok)])
        rw [hok] at CM
        clear hok HBAD HX HY HFST HNX
        have hU : undef = Value.tuple #[] := rfl
        have K0 : (fun w' : World => w'.cell? ⟨g, 0, none⟩ = some (.string nm) ∧ w'.cell? ⟨g, 1, none⟩ = some (.int .i64 pl) ∧ w'.cell? ⟨g, 2, none⟩ = some (.bool st)) w3 := ⟨y0, y1, y2⟩
        refine wp_region_held_drew (S := fun w' => w'.cell? ⟨g, 0, none⟩ = some (.string nm) ∧ w'.cell? ⟨g, 1, none⟩ = some (.int .i64 pl) ∧ w'.cell? ⟨g, 2, none⟩ = some (.bool st)) (by kernel_rfl) (by first | go_keep | exact K0) (fun hHeld => ?_)
        refine tkM (i := 0) (d := some 17) (v := ?_) rfl rfl (by kernel_rfl) (by kernel_rfl) (by kernel_rfl) (fun _ _ _ h => h) (Or.inl ⟨by rfl, ?_⟩) (by assumption) ?_
        rotate_left
        · intro w hSw; (try dsimp only at hSw); go_simp; try with_reducible rfl
        try simp only [Act.put, List.setIfInBounds_toArray, List.set_cons_zero, List.set_cons_succ]
        refine tkM (i := 1) (d := some 18) (v := ?_) rfl rfl (by kernel_rfl) (by kernel_rfl) (by kernel_rfl) (fun _ _ _ h => h) (Or.inl ⟨by rfl, ?_⟩) (by assumption) ?_
        rotate_left
        · intro w hSw; (try dsimp only at hSw); go_simp; try with_reducible rfl
        try simp only [Act.put, List.setIfInBounds_toArray, List.set_cons_zero, List.set_cons_succ]
        refine wpAnyH_ready (rs := [2]) (by kernel_rfl) (by simp) (AllReadyH.cons rfl (fun Kq hK => ?_) AllReadyH.nil)
        go_simp
        go_at_call 60
        refine ((unhide CM) _).mono ?_
        rintro e w4 ⟨rfl, hb4⟩
        have hb5 := ((Below.refl w3.heap.size w3).trans (bdrew (Below.refl w3.heap.size w3) 1)).trans hb4
        have K4 : (fun w' : World => w'.cell? ⟨g, 0, none⟩ = some (.string nm) ∧ w'.cell? ⟨g, 1, none⟩ = some (.int .i64 pl) ∧ w'.cell? ⟨g, 2, none⟩ = some (.bool st)) w4 := ⟨(hb5.cell (p := ⟨g, 0, none⟩) hg3).trans y0, (hb5.cell (p := ⟨g, 1, none⟩) hg3).trans y1, (hb5.cell (p := ⟨g, 2, none⟩) hg3).trans y2⟩
        have HB4 := hide ((unhide HB3).trans (hb5.mono (unhide HB3).size))
        clear hb4 hb5
        try go_wp2_with fail
        refine hK.out _ _ K4 (fun hHeld4 => ?_)
        clear hK Kq
        try simp only [Act.put, List.setIfInBounds_toArray, List.set_cons_zero, List.set_cons_succ]
        refine tkM (i := 3) (d := some 20) (v := ?_) rfl rfl (by kernel_rfl) (by kernel_rfl) (by kernel_rfl) (fun _ _ _ h => h) (Or.inl ⟨by rfl, ?_⟩) (by assumption) ?_
        rotate_left
        · intro w hSw; (try dsimp only at hSw); go_simp; try with_reducible rfl
        try simp only [Act.put, List.setIfInBounds_toArray, List.set_cons_zero, List.set_cons_succ]
        refine tkM (i := 4) (d := some 21) (v := ?_) rfl rfl (by kernel_rfl) (by kernel_rfl) (by kernel_rfl) (fun _ _ _ h => h) (Or.inl ⟨by rfl, ?_⟩) (by assumption) ?_
        rotate_left
        · intro w hSw; (try dsimp only at hSw); go_simp; try with_reducible rfl
        try simp only [Act.put, List.setIfInBounds_toArray, List.set_cons_zero, List.set_cons_succ]
        refine tkM (i := 5) (d := some 22) (v := undef) rfl rfl (by kernel_rfl) (by kernel_rfl) (by kernel_rfl) (fun _ _ _ h => h) (Or.inr ⟨by rfl, rfl⟩) (by assumption) ?_
        try simp only [Act.put, List.setIfInBounds_toArray, List.set_cons_zero, List.set_cons_succ]
        refine tkM (i := 6) (d := some 23) (v := undef) rfl rfl (by kernel_rfl) (by kernel_rfl) (by kernel_rfl) (fun _ _ _ h => h) (Or.inr ⟨by rfl, rfl⟩) (by assumption) ?_
        try simp only [Act.put, List.setIfInBounds_toArray, List.set_cons_zero, List.set_cons_succ]
        refine tkM (i := 7) (d := some 24) (v := undef) rfl rfl (by kernel_rfl) (by kernel_rfl) (by kernel_rfl) (fun _ _ _ h => h) (Or.inr ⟨by rfl, rfl⟩) (by assumption) ?_
        try simp only [Act.put, List.setIfInBounds_toArray, List.set_cons_zero, List.set_cons_succ]
        refine tkM (i := 8) (d := some 25) (v := undef) rfl rfl (by kernel_rfl) (by kernel_rfl) (by kernel_rfl) (fun _ _ _ h => h) (Or.inr ⟨by rfl, rfl⟩) (by assumption) ?_
        try simp only [Act.put, List.setIfInBounds_toArray, List.set_cons_zero, List.set_cons_succ]
        refine tkM (i := 9) (d := some 26) (v := undef) rfl rfl (by kernel_rfl) (by kernel_rfl) (by kernel_rfl) (fun _ _ _ h => h) (Or.inr ⟨by rfl, rfl⟩) (by assumption) ?_
        try simp only [Act.put, List.setIfInBounds_toArray, List.set_cons_zero, List.set_cons_succ]
        refine tkM (i := 10) (d := some 27) (v := undef) rfl rfl (by kernel_rfl) (by kernel_rfl) (by kernel_rfl) (fun _ _ _ h => h) (Or.inr ⟨by rfl, rfl⟩) (by assumption) ?_
        try simp only [Act.put, List.setIfInBounds_toArray, List.set_cons_zero, List.set_cons_succ]
        refine tkM (i := 11) (d := some 28) (v := undef) rfl rfl (by kernel_rfl) (by kernel_rfl) (by kernel_rfl) (fun _ _ _ h => h) (Or.inr ⟨by rfl, rfl⟩) (by assumption) ?_
        try simp only [Act.put, List.setIfInBounds_toArray, List.set_cons_zero, List.set_cons_succ]
        refine tkM (i := 12) (d := some 29) (v := undef) rfl rfl (by kernel_rfl) (by kernel_rfl) (by kernel_rfl) (fun _ _ _ h => h) (Or.inr ⟨by rfl, rfl⟩) (by assumption) ?_
        try simp only [Act.put, List.setIfInBounds_toArray, List.set_cons_zero, List.set_cons_succ]
        refine tkM (i := 13) (d := some 30) (v := undef) rfl rfl (by kernel_rfl) (by kernel_rfl) (by kernel_rfl) (fun _ _ _ h => h) (Or.inr ⟨by rfl, rfl⟩) (by assumption) ?_
        try simp only [Act.put, List.setIfInBounds_toArray, List.set_cons_zero, List.set_cons_succ]
        refine tkM (i := 14) (d := some 31) (v := undef) rfl rfl (by kernel_rfl) (by kernel_rfl) (by kernel_rfl) (fun _ _ _ h => h) (Or.inr ⟨by rfl, rfl⟩) (by assumption) ?_
        try simp only [Act.put, List.setIfInBounds_toArray, List.set_cons_zero, List.set_cons_succ]
        refine tkM (i := 15) (d := some 32) (v := undef) rfl rfl (by kernel_rfl) (by kernel_rfl) (by kernel_rfl) (fun _ _ _ h => h) (Or.inr ⟨by rfl, rfl⟩) (by assumption) ?_
        try simp only [Act.put, List.setIfInBounds_toArray, List.set_cons_zero, List.set_cons_succ]
        refine tkM (i := 16) (d := some 33) (v := undef) rfl rfl (by kernel_rfl) (by kernel_rfl) (by kernel_rfl) (fun _ _ _ h => h) (Or.inr ⟨by rfl, rfl⟩) (by assumption) ?_
        try simp only [Act.put, List.setIfInBounds_toArray, List.set_cons_zero, List.set_cons_succ]
        refine tkM (i := 17) (d := some 34) (v := undef) rfl rfl (by kernel_rfl) (by kernel_rfl) (by kernel_rfl) (fun _ _ _ h => h) (Or.inr ⟨by rfl, rfl⟩) (by assumption) ?_
        try simp only [Act.put, List.setIfInBounds_toArray, List.set_cons_zero, List.set_cons_succ]
        refine tkM (i := 18) (d := some 35) (v := ?_) rfl rfl (by kernel_rfl) (by kernel_rfl) (by kernel_rfl) (fun _ _ _ h => h) (Or.inl ⟨by rfl, ?_⟩) (by assumption) ?_
        rotate_left
        · intro w hSw; (try dsimp only at hSw); go_simp; try with_reducible rfl
        try simp only [Act.put, List.setIfInBounds_toArray, List.set_cons_zero, List.set_cons_succ]
        refine wpAnyH_done (by kernel_rfl) ?_ _
        go_wp2
        go_ret
        exact ⟨by rw [unhide HR2]; rfl, unhide HB4⟩
      · rw [hok] at CM
        cases i with
        | zero =>
          have HR2 : Hid (mksR M n (0 + 1) = R) := hide (by rw [← unhide HR, (unhide HY) ((unhide HFST) rfl hok)])
          clear hok HBAD HX HY HFST HNX
          have K0 : (fun w' : World => w'.cell? ⟨g, 0, none⟩ = some (.string nm) ∧ w'.cell? ⟨g, 1, none⟩ = some (.int .i64 pl) ∧ w'.cell? ⟨g, 2, none⟩ = some (.bool st)) w3 := ⟨y0, y1, y2⟩
          refine wp_region_held_drew (S := fun w' => w'.cell? ⟨g, 0, none⟩ = some (.string nm) ∧ w'.cell? ⟨g, 1, none⟩ = some (.int .i64 pl) ∧ w'.cell? ⟨g, 2, none⟩ = some (.bool st)) (by kernel_rfl) (by first | go_keep | exact K0) (fun hHeld => ?_)
          refine tkM (i := 0) (d := some 17) (v := ?_) rfl rfl (by kernel_rfl) (by kernel_rfl) (by kernel_rfl) (fun _ _ _ h => h) (Or.inl ⟨by rfl, ?_⟩) (by assumption) ?_
          rotate_left
          · intro w hSw; (try dsimp only at hSw); go_simp; try with_reducible rfl
          try simp only [Act.put, List.setIfInBounds_toArray, List.set_cons_zero, List.set_cons_succ]
          refine tkM (i := 1) (d := some 18) (v := ?_) rfl rfl (by kernel_rfl) (by kernel_rfl) (by kernel_rfl) (fun _ _ _ h => h) (Or.inl ⟨by rfl, ?_⟩) (by assumption) ?_
          rotate_left
          · intro w hSw; (try dsimp only at hSw); go_simp; try with_reducible rfl
          try simp only [Act.put, List.setIfInBounds_toArray, List.set_cons_zero, List.set_cons_succ]
          refine wpAnyH_ready (rs := [2]) (by kernel_rfl) (by simp) (AllReadyH.cons rfl (fun Kq hK => ?_) AllReadyH.nil)
          go_simp
          go_at_call 60
          refine ((unhide CM) _).mono ?_
          rintro e w4 ⟨rfl, hb4⟩
          have hb5 := ((Below.refl w3.heap.size w3).trans (bdrew (Below.refl w3.heap.size w3) 1)).trans hb4
          have K4 : (fun w' : World => w'.cell? ⟨g, 0, none⟩ = some (.string nm) ∧ w'.cell? ⟨g, 1, none⟩ = some (.int .i64 pl) ∧ w'.cell? ⟨g, 2, none⟩ = some (.bool st)) w4 := ⟨(hb5.cell (p := ⟨g, 0, none⟩) hg3).trans y0, (hb5.cell (p := ⟨g, 1, none⟩) hg3).trans y1, (hb5.cell (p := ⟨g, 2, none⟩) hg3).trans y2⟩
          have HB4 := hide ((unhide HB3).trans (hb5.mono (unhide HB3).size))
          clear hb4 hb5
          try go_wp2_with fail
          refine hK.out _ _ K4 (fun hHeld4 => ?_)
          clear hK Kq
          try simp only [Act.put, List.setIfInBounds_toArray, List.set_cons_zero, List.set_cons_succ]
          refine tkM (i := 3) (d := some 20) (v := ?_) rfl rfl (by kernel_rfl) (by kernel_rfl) (by kernel_rfl) (fun _ _ _ h => h) (Or.inl ⟨by rfl, ?_⟩) (by assumption) ?_
          rotate_left
          · intro w hSw; (try dsimp only at hSw); go_simp; try with_reducible rfl
          try simp only [Act.put, List.setIfInBounds_toArray, List.set_cons_zero, List.set_cons_succ]
          refine tkM (i := 4) (d := some 21) (v := ?_) rfl rfl (by kernel_rfl) (by kernel_rfl) (by kernel_rfl) (fun _ _ _ h => h) (Or.inl ⟨by rfl, ?_⟩) (by assumption) ?_
          rotate_left
          · intro w hSw; (try dsimp only at hSw); go_simp; try with_reducible rfl
          try simp only [Act.put, List.setIfInBounds_toArray, List.set_cons_zero, List.set_cons_succ]
          refine tkM (i := 5) (d := some 22) (v := ?_) rfl rfl (by kernel_rfl) (by kernel_rfl) (by kernel_rfl) (fun _ _ _ h => h) (Or.inl ⟨by rfl, ?_⟩) (by assumption) ?_
          rotate_left
          · intro w hSw; (try dsimp only at hSw); go_simp; try with_reducible rfl
          try simp only [Act.put, List.setIfInBounds_toArray, List.set_cons_zero, List.set_cons_succ]
          refine tkM (i := 6) (d := some 23) (v := ?_) rfl rfl (by kernel_rfl) (by kernel_rfl) (by kernel_rfl) (fun _ _ _ h => h) (Or.inl ⟨by rfl, ?_⟩) (by assumption) ?_
          rotate_left
          · intro w hSw; (try dsimp only at hSw); go_simp; try with_reducible rfl
          try simp only [Act.put, List.setIfInBounds_toArray, List.set_cons_zero, List.set_cons_succ]
          refine tkM (i := 7) (d := some 24) (v := ?_) rfl rfl (by kernel_rfl) (by kernel_rfl) (by kernel_rfl) (fun _ _ _ h => h) (Or.inl ⟨by rfl, ?_⟩) (by assumption) ?_
          rotate_left
          · intro w hSw; (try dsimp only at hSw); go_simp; try with_reducible rfl
          try simp only [Act.put, List.setIfInBounds_toArray, List.set_cons_zero, List.set_cons_succ]
          refine tkM (i := 8) (d := some 25) (v := undef) rfl rfl (by kernel_rfl) (by kernel_rfl) (by kernel_rfl) (fun _ _ _ h => h) (Or.inr ⟨by rfl, rfl⟩) (by assumption) ?_
          try simp only [Act.put, List.setIfInBounds_toArray, List.set_cons_zero, List.set_cons_succ]
          refine tkM (i := 9) (d := some 26) (v := undef) rfl rfl (by kernel_rfl) (by kernel_rfl) (by kernel_rfl) (fun _ _ _ h => h) (Or.inr ⟨by rfl, rfl⟩) (by assumption) ?_
          try simp only [Act.put, List.setIfInBounds_toArray, List.set_cons_zero, List.set_cons_succ]
          refine tkM (i := 10) (d := some 27) (v := undef) rfl rfl (by kernel_rfl) (by kernel_rfl) (by kernel_rfl) (fun _ _ _ h => h) (Or.inr ⟨by rfl, rfl⟩) (by assumption) ?_
          try simp only [Act.put, List.setIfInBounds_toArray, List.set_cons_zero, List.set_cons_succ]
          refine tkM (i := 11) (d := some 28) (v := undef) rfl rfl (by kernel_rfl) (by kernel_rfl) (by kernel_rfl) (fun _ _ _ h => h) (Or.inr ⟨by rfl, rfl⟩) (by assumption) ?_
          try simp only [Act.put, List.setIfInBounds_toArray, List.set_cons_zero, List.set_cons_succ]
          refine tkM (i := 12) (d := some 29) (v := undef) rfl rfl (by kernel_rfl) (by kernel_rfl) (by kernel_rfl) (fun _ _ _ h => h) (Or.inr ⟨by rfl, rfl⟩) (by assumption) ?_
          try simp only [Act.put, List.setIfInBounds_toArray, List.set_cons_zero, List.set_cons_succ]
          refine tkM (i := 13) (d := some 30) (v := undef) rfl rfl (by kernel_rfl) (by kernel_rfl) (by kernel_rfl) (fun _ _ _ h => h) (Or.inr ⟨by rfl, rfl⟩) (by assumption) ?_
          try simp only [Act.put, List.setIfInBounds_toArray, List.set_cons_zero, List.set_cons_succ]
          refine tkM (i := 14) (d := some 31) (v := undef) rfl rfl (by kernel_rfl) (by kernel_rfl) (by kernel_rfl) (fun _ _ _ h => h) (Or.inr ⟨by rfl, rfl⟩) (by assumption) ?_
          try simp only [Act.put, List.setIfInBounds_toArray, List.set_cons_zero, List.set_cons_succ]
          refine tkM (i := 15) (d := some 32) (v := undef) rfl rfl (by kernel_rfl) (by kernel_rfl) (by kernel_rfl) (fun _ _ _ h => h) (Or.inr ⟨by rfl, rfl⟩) (by assumption) ?_
          try simp only [Act.put, List.setIfInBounds_toArray, List.set_cons_zero, List.set_cons_succ]
          refine tkM (i := 16) (d := some 33) (v := undef) rfl rfl (by kernel_rfl) (by kernel_rfl) (by kernel_rfl) (fun _ _ _ h => h) (Or.inr ⟨by rfl, rfl⟩) (by assumption) ?_
          try simp only [Act.put, List.setIfInBounds_toArray, List.set_cons_zero, List.set_cons_succ]
          refine tkM (i := 17) (d := some 34) (v := ?_) rfl rfl (by kernel_rfl) (by kernel_rfl) (by kernel_rfl) (fun _ _ _ h => h) (Or.inl ⟨by rfl, ?_⟩) (by assumption) ?_
          rotate_left
          · intro w hSw; (try dsimp only at hSw); go_simp; try with_reducible rfl
          try simp only [Act.put, List.setIfInBounds_toArray, List.set_cons_zero, List.set_cons_succ]
          refine tkM (i := 18) (d := some 35) (v := ?_) rfl rfl (by kernel_rfl) (by kernel_rfl) (by kernel_rfl) (fun _ _ _ h => h) (Or.inl ⟨by rfl, ?_⟩) (by assumption) ?_
          rotate_left
          · intro w hSw; (try dsimp only at hSw); go_simp; try with_reducible rfl
          try simp only [Act.put, List.setIfInBounds_toArray, List.set_cons_zero, List.set_cons_succ]
          refine wpAnyH_done (by kernel_rfl) ?_ _
          go_wp2
          go_roundw
          case rel => exact ⟨0 + 1, by omega, by go_num, HR2, HB4⟩
          case measure => simp [intOf]; omega
        | succ m =>
          have hm2 : m < M.length := by omega
          have z0 := (unhide hkeep) m hm2
          have HGE : Hid (mk1 M n (m + 1) = !(geB (mk_g M m).name nm)) := hide ((unhide HNX) m rfl hok)
          have hm1 : ((m + 1 : Nat) : Int) - 1 = (m : Int) := by omega
          have hm1' : (m : Int) + 1 - 1 = (m : Int) := by omega
          have hm0 : (0 : Int) < (m : Int) + 1 := by omega
          have hm0' : decide ((0 : Int) < (m : Int) + 1) = true := decide_eq_true hm0
          have hml : (m : Int) < (M.length : Int) := by omega
          have hmn : (0 : Int) ≤ (m : Int) := by omega
          have hwm : IntKind.i64.wrap (m : Int) = (m : Int) := by rw [IntKind.wrap_i64]; omega
          generalize (mk_g M m).name = pn at *
          cases hge : geB pn nm
          · have hq : Op.bytesLess pn.toList nm.toList = true := by unfold geB at hge; simpa using hge
            have HR2 : Hid (mksR M n (m + 1 + 1) = R) := hide (by rw [← unhide HR, (unhide HY) (by rw [unhide HGE, hge]; rfl)])
            clear hok HBAD HX HY HFST HNX HGE hge hkeep
            have K0 : (fun w' : World => w'.cell? ⟨g, 0, none⟩ = some (.string nm) ∧ w'.cell? ⟨g, 1, none⟩ = some (.int .i64 pl) ∧ w'.cell? ⟨g, 2, none⟩ = some (.bool st) ∧ w'.cell? ⟨b, off + m * 3, none⟩ = some (.string pn)) w3 := ⟨y0, y1, y2, z0⟩
            refine wp_region_held_drew (S := fun w' => w'.cell? ⟨g, 0, none⟩ = some (.string nm) ∧ w'.cell? ⟨g, 1, none⟩ = some (.int .i64 pl) ∧ w'.cell? ⟨g, 2, none⟩ = some (.bool st) ∧ w'.cell? ⟨b, off + m * 3, none⟩ = some (.string pn)) (by kernel_rfl) (by first | go_keep | exact K0) (fun hHeld => ?_)
            refine tkM (i := 0) (d := some 17) (v := ?_) rfl rfl (by kernel_rfl) (by kernel_rfl) (by kernel_rfl) (fun _ _ _ h => h) (Or.inl ⟨by rfl, ?_⟩) (by assumption) ?_
            rotate_left
            · intro w hSw; (try dsimp only at hSw); go_simp; try with_reducible rfl
            try simp only [Act.put, List.setIfInBounds_toArray, List.set_cons_zero, List.set_cons_succ]
            refine tkM (i := 1) (d := some 18) (v := ?_) rfl rfl (by kernel_rfl) (by kernel_rfl) (by kernel_rfl) (fun _ _ _ h => h) (Or.inl ⟨by rfl, ?_⟩) (by assumption) ?_
            rotate_left
            · intro w hSw; (try dsimp only at hSw); go_simp; try with_reducible rfl
            try simp only [Act.put, List.setIfInBounds_toArray, List.set_cons_zero, List.set_cons_succ]
            refine wpAnyH_ready (rs := [2]) (by kernel_rfl) (by simp) (AllReadyH.cons rfl (fun Kq hK => ?_) AllReadyH.nil)
            go_simp
            go_at_call 60
            refine ((unhide CM) _).mono ?_
            rintro e w4 ⟨rfl, hb4⟩
            have hb5 := ((Below.refl w3.heap.size w3).trans (bdrew (Below.refl w3.heap.size w3) 1)).trans hb4
            have K4 : (fun w' : World => w'.cell? ⟨g, 0, none⟩ = some (.string nm) ∧ w'.cell? ⟨g, 1, none⟩ = some (.int .i64 pl) ∧ w'.cell? ⟨g, 2, none⟩ = some (.bool st) ∧ w'.cell? ⟨b, off + m * 3, none⟩ = some (.string pn)) w4 := ⟨(hb5.cell (p := ⟨g, 0, none⟩) hg3).trans y0, (hb5.cell (p := ⟨g, 1, none⟩) hg3).trans y1, (hb5.cell (p := ⟨g, 2, none⟩) hg3).trans y2, (hb5.cell (p := ⟨b, off + m * 3, none⟩) hbw3).trans z0⟩
            have HB4 := hide ((unhide HB3).trans (hb5.mono (unhide HB3).size))
            clear hb4 hb5
            try go_wp2_with fail
            refine hK.out _ _ K4 (fun hHeld4 => ?_)
            clear hK Kq
            try simp only [Act.put, List.setIfInBounds_toArray, List.set_cons_zero, List.set_cons_succ]
            refine tkM (i := 3) (d := some 20) (v := ?_) rfl rfl (by kernel_rfl) (by kernel_rfl) (by kernel_rfl) (fun _ _ _ h => h) (Or.inl ⟨by rfl, ?_⟩) (by assumption) ?_
            rotate_left
            · intro w hSw; (try dsimp only at hSw); go_simp; try with_reducible rfl
            try simp only [Act.put, List.setIfInBounds_toArray, List.set_cons_zero, List.set_cons_succ]
            refine tkM (i := 4) (d := some 21) (v := ?_) rfl rfl (by kernel_rfl) (by kernel_rfl) (by kernel_rfl) (fun _ _ _ h => h) (Or.inl ⟨by rfl, ?_⟩) (by assumption) ?_
            rotate_left
            · intro w hSw; (try dsimp only at hSw); go_simp; try with_reducible rfl
            try simp only [Act.put, List.setIfInBounds_toArray, List.set_cons_zero, List.set_cons_succ]
            refine tkM (i := 5) (d := some 22) (v := ?_) rfl rfl (by kernel_rfl) (by kernel_rfl) (by kernel_rfl) (fun _ _ _ h => h) (Or.inl ⟨by rfl, ?_⟩) (by assumption) ?_
            rotate_left
            · intro w hSw; (try dsimp only at hSw); go_simp; try with_reducible rfl
            try simp only [Act.put, List.setIfInBounds_toArray, List.set_cons_zero, List.set_cons_succ]
            refine tkM (i := 6) (d := some 23) (v := ?_) rfl rfl (by kernel_rfl) (by kernel_rfl) (by kernel_rfl) (fun _ _ _ h => h) (Or.inl ⟨by rfl, ?_⟩) (by assumption) ?_
            rotate_left
            · intro w hSw; (try dsimp only at hSw); go_simp; try with_reducible rfl
            try simp only [Act.put, List.setIfInBounds_toArray, List.set_cons_zero, List.set_cons_succ]
            refine tkM (i := 7) (d := some 24) (v := ?_) rfl rfl (by kernel_rfl) (by kernel_rfl) (by kernel_rfl) (fun _ _ _ h => h) (Or.inl ⟨by rfl, ?_⟩) (by assumption) ?_
            rotate_left
            · intro w hSw; (try dsimp only at hSw); go_simp; try with_reducible rfl
            try simp only [Act.put, List.setIfInBounds_toArray, List.set_cons_zero, List.set_cons_succ]
            refine tkM (i := 8) (d := some 25) (v := ?_) rfl rfl (by kernel_rfl) (by kernel_rfl) (by kernel_rfl) (fun _ _ _ h => h) (Or.inl ⟨by rfl, ?_⟩) (by assumption) ?_
            rotate_left
            · intro w hSw; (try dsimp only at hSw); go_simp; try with_reducible rfl
            try simp only [Act.put, List.setIfInBounds_toArray, List.set_cons_zero, List.set_cons_succ]
            refine tkM (i := 9) (d := some 26) (v := ?_) rfl rfl (by kernel_rfl) (by kernel_rfl) (by kernel_rfl) (fun _ _ _ h => h) (Or.inl ⟨by rfl, ?_⟩) (by assumption) ?_
            rotate_left
            · intro w hSw; (try dsimp only at hSw); go_simp; try with_reducible rfl
            try simp only [Act.put, List.setIfInBounds_toArray, List.set_cons_zero, List.set_cons_succ]
            refine tkM (i := 10) (d := some 27) (v := ?_) rfl rfl (by kernel_rfl) (by kernel_rfl) (by kernel_rfl) (fun _ _ _ h => h) (Or.inl ⟨by rfl, ?_⟩) (by assumption) ?_
            rotate_left
            · intro w hSw; (try dsimp only at hSw); go_simp; try with_reducible rfl
            try simp only [Act.put, List.setIfInBounds_toArray, List.set_cons_zero, List.set_cons_succ]
            refine tkM (i := 11) (d := some 28) (v := ?_) rfl rfl (by kernel_rfl) (by kernel_rfl) (by kernel_rfl) (fun _ _ _ h => h) (Or.inl ⟨by rfl, ?_⟩) (by assumption) ?_
            rotate_left
            · intro w hSw; (try dsimp only at hSw); go_simp; try with_reducible rfl
            try simp only [Act.put, List.setIfInBounds_toArray, List.set_cons_zero, List.set_cons_succ]
            refine tkM (i := 12) (d := some 29) (v := ?_) rfl rfl (by kernel_rfl) (by kernel_rfl) (by kernel_rfl) (fun _ _ _ h => h) (Or.inl ⟨by rfl, ?_⟩) (by assumption) ?_
            rotate_left
            · intro w hSw; (try dsimp only at hSw); go_simp; try with_reducible rfl
            try simp only [Act.put, List.setIfInBounds_toArray, List.set_cons_zero, List.set_cons_succ]
            refine tkM (i := 13) (d := some 30) (v := ?_) rfl rfl (by kernel_rfl) (by kernel_rfl) (by kernel_rfl) (fun _ _ _ h => h) (Or.inl ⟨by rfl, ?_⟩) (by assumption) ?_
            rotate_left
            · intro w hSw; (try dsimp only at hSw); go_simp; try with_reducible rfl
            try simp only [Act.put, List.setIfInBounds_toArray, List.set_cons_zero, List.set_cons_succ]
            refine tkM (i := 14) (d := some 31) (v := ?_) rfl rfl (by kernel_rfl) (by kernel_rfl) (by kernel_rfl) (fun _ _ _ h => h) (Or.inl ⟨by rfl, ?_⟩) (by assumption) ?_
            rotate_left
            · intro w hSw; (try dsimp only at hSw); go_simp; try with_reducible rfl
            try simp only [Act.put, List.setIfInBounds_toArray, List.set_cons_zero, List.set_cons_succ]
            refine tkM (i := 15) (d := some 32) (v := ?_) rfl rfl (by kernel_rfl) (by kernel_rfl) (by kernel_rfl) (fun _ _ _ h => h) (Or.inl ⟨by rfl, ?_⟩) (by assumption) ?_
            rotate_left
            · intro w hSw; (try dsimp only at hSw); go_simp; try with_reducible rfl
            try simp only [Act.put, List.setIfInBounds_toArray, List.set_cons_zero, List.set_cons_succ]
            refine tkM (i := 16) (d := some 33) (v := ?_) rfl rfl (by kernel_rfl) (by kernel_rfl) (by kernel_rfl) (fun _ _ _ h => h) (Or.inl ⟨by rfl, ?_⟩) (by assumption) ?_
            rotate_left
            · intro w hSw; (try dsimp only at hSw); go_simp; try with_reducible rfl
            try simp only [Act.put, List.setIfInBounds_toArray, List.set_cons_zero, List.set_cons_succ]
            refine tkM (i := 17) (d := some 34) (v := ?_) rfl rfl (by kernel_rfl) (by kernel_rfl) (by kernel_rfl) (fun _ _ _ h => h) (Or.inl ⟨by rfl, ?_⟩) (by assumption) ?_
            rotate_left
            · intro w hSw; (try dsimp only at hSw); go_simp; try with_reducible rfl
            try simp only [Act.put, List.setIfInBounds_toArray, List.set_cons_zero, List.set_cons_succ]
            refine tkM (i := 18) (d := some 35) (v := ?_) rfl rfl (by kernel_rfl) (by kernel_rfl) (by kernel_rfl) (fun _ _ _ h => h) (Or.inl ⟨by rfl, ?_⟩) (by assumption) ?_
            rotate_left
            · intro w hSw; (try dsimp only at hSw); go_simp; try with_reducible rfl
            try simp only [Act.put, List.setIfInBounds_toArray, List.set_cons_zero, List.set_cons_succ]
            refine wpAnyH_done (by kernel_rfl) ?_ _
            go_wp2
            go_roundw
            case rel => exact ⟨m + 1 + 1, by omega, by go_num, HR2, HB4⟩
            case measure => simp [intOf]; omega
          · have hq : Op.bytesLess pn.toList nm.toList = false := by unfold geB at hge; simpa using hge
            have HR2 : Hid (R = false) := hide (by rw [← unhide HR, (unhide HX) (by rw [unhide HGE, hge]; rfl)])
            clear hok HBAD HX HY HFST HNX HGE hge hkeep
            have K0 : (fun w' : World => w'.cell? ⟨g, 0, none⟩ = some (.string nm) ∧ w'.cell? ⟨g, 1, none⟩ = some (.int .i64 pl) ∧ w'.cell? ⟨g, 2, none⟩ = some (.bool st) ∧ w'.cell? ⟨b, off + m * 3, none⟩ = some (.string pn)) w3 := ⟨y0, y1, y2, z0⟩
            refine wp_region_held_drew (S := fun w' => w'.cell? ⟨g, 0, none⟩ = some (.string nm) ∧ w'.cell? ⟨g, 1, none⟩ = some (.int .i64 pl) ∧ w'.cell? ⟨g, 2, none⟩ = some (.bool st) ∧ w'.cell? ⟨b, off + m * 3, none⟩ = some (.string pn)) (by kernel_rfl) (by first | go_keep | exact K0) (fun hHeld => ?_)
            refine tkM (i := 0) (d := some 17) (v := ?_) rfl rfl (by kernel_rfl) (by kernel_rfl) (by kernel_rfl) (fun _ _ _ h => h) (Or.inl ⟨by rfl, ?_⟩) (by assumption) ?_
            rotate_left
            · intro w hSw; (try dsimp only at hSw); go_simp; try with_reducible rfl
            try simp only [Act.put, List.setIfInBounds_toArray, List.set_cons_zero, List.set_cons_succ]
            refine tkM (i := 1) (d := some 18) (v := ?_) rfl rfl (by kernel_rfl) (by kernel_rfl) (by kernel_rfl) (fun _ _ _ h => h) (Or.inl ⟨by rfl, ?_⟩) (by assumption) ?_
            rotate_left
            · intro w hSw; (try dsimp only at hSw); go_simp; try with_reducible rfl
            try simp only [Act.put, List.setIfInBounds_toArray, List.set_cons_zero, List.set_cons_succ]
            refine wpAnyH_ready (rs := [2]) (by kernel_rfl) (by simp) (AllReadyH.cons rfl (fun Kq hK => ?_) AllReadyH.nil)
            go_simp
            go_at_call 60
            refine ((unhide CM) _).mono ?_
            rintro e w4 ⟨rfl, hb4⟩
            have hb5 := ((Below.refl w3.heap.size w3).trans (bdrew (Below.refl w3.heap.size w3) 1)).trans hb4
            have K4 : (fun w' : World => w'.cell? ⟨g, 0, none⟩ = some (.string nm) ∧ w'.cell? ⟨g, 1, none⟩ = some (.int .i64 pl) ∧ w'.cell? ⟨g, 2, none⟩ = some (.bool st) ∧ w'.cell? ⟨b, off + m * 3, none⟩ = some (.string pn)) w4 := ⟨(hb5.cell (p := ⟨g, 0, none⟩) hg3).trans y0, (hb5.cell (p := ⟨g, 1, none⟩) hg3).trans y1, (hb5.cell (p := ⟨g, 2, none⟩) hg3).trans y2, (hb5.cell (p := ⟨b, off + m * 3, none⟩) hbw3).trans z0⟩
            have HB4 := hide ((unhide HB3).trans (hb5.mono (unhide HB3).size))
            clear hb4 hb5
            try go_wp2_with fail
            refine hK.out _ _ K4 (fun hHeld4 => ?_)
            clear hK Kq
            try simp only [Act.put, List.setIfInBounds_toArray, List.set_cons_zero, List.set_cons_succ]
            refine tkM (i := 3) (d := some 20) (v := ?_) rfl rfl (by kernel_rfl) (by kernel_rfl) (by kernel_rfl) (fun _ _ _ h => h) (Or.inl ⟨by rfl, ?_⟩) (by assumption) ?_
            rotate_left
            · intro w hSw; (try dsimp only at hSw); go_simp; try with_reducible rfl
            try simp only [Act.put, List.setIfInBounds_toArray, List.set_cons_zero, List.set_cons_succ]
            refine tkM (i := 4) (d := some 21) (v := ?_) rfl rfl (by kernel_rfl) (by kernel_rfl) (by kernel_rfl) (fun _ _ _ h => h) (Or.inl ⟨by rfl, ?_⟩) (by assumption) ?_
            rotate_left
            · intro w hSw; (try dsimp only at hSw); go_simp; try with_reducible rfl
            try simp only [Act.put, List.setIfInBounds_toArray, List.set_cons_zero, List.set_cons_succ]
            refine tkM (i := 5) (d := some 22) (v := ?_) rfl rfl (by kernel_rfl) (by kernel_rfl) (by kernel_rfl) (fun _ _ _ h => h) (Or.inl ⟨by rfl, ?_⟩) (by assumption) ?_
            rotate_left
            · intro w hSw; (try dsimp only at hSw); go_simp; try with_reducible rfl
            try simp only [Act.put, List.setIfInBounds_toArray, List.set_cons_zero, List.set_cons_succ]
            refine tkM (i := 6) (d := some 23) (v := ?_) rfl rfl (by kernel_rfl) (by kernel_rfl) (by kernel_rfl) (fun _ _ _ h => h) (Or.inl ⟨by rfl, ?_⟩) (by assumption) ?_
            rotate_left
            · intro w hSw; (try dsimp only at hSw); go_simp; try with_reducible rfl
            try simp only [Act.put, List.setIfInBounds_toArray, List.set_cons_zero, List.set_cons_succ]
            refine tkM (i := 7) (d := some 24) (v := ?_) rfl rfl (by kernel_rfl) (by kernel_rfl) (by kernel_rfl) (fun _ _ _ h => h) (Or.inl ⟨by rfl, ?_⟩) (by assumption) ?_
            rotate_left
            · intro w hSw; (try dsimp only at hSw); go_simp; try with_reducible rfl
            try simp only [Act.put, List.setIfInBounds_toArray, List.set_cons_zero, List.set_cons_succ]
            refine tkM (i := 8) (d := some 25) (v := ?_) rfl rfl (by kernel_rfl) (by kernel_rfl) (by kernel_rfl) (fun _ _ _ h => h) (Or.inl ⟨by rfl, ?_⟩) (by assumption) ?_
            rotate_left
            · intro w hSw; (try dsimp only at hSw); go_simp; try with_reducible rfl
            try simp only [Act.put, List.setIfInBounds_toArray, List.set_cons_zero, List.set_cons_succ]
            refine tkM (i := 9) (d := some 26) (v := ?_) rfl rfl (by kernel_rfl) (by kernel_rfl) (by kernel_rfl) (fun _ _ _ h => h) (Or.inl ⟨by rfl, ?_⟩) (by assumption) ?_
            rotate_left
            · intro w hSw; (try dsimp only at hSw); go_simp; try with_reducible rfl
            try simp only [Act.put, List.setIfInBounds_toArray, List.set_cons_zero, List.set_cons_succ]
            refine tkM (i := 10) (d := some 27) (v := ?_) rfl rfl (by kernel_rfl) (by kernel_rfl) (by kernel_rfl) (fun _ _ _ h => h) (Or.inl ⟨by rfl, ?_⟩) (by assumption) ?_
            rotate_left
            · intro w hSw; (try dsimp only at hSw); go_simp; try with_reducible rfl
            try simp only [Act.put, List.setIfInBounds_toArray, List.set_cons_zero, List.set_cons_succ]
            refine tkM (i := 11) (d := some 28) (v := ?_) rfl rfl (by kernel_rfl) (by kernel_rfl) (by kernel_rfl) (fun _ _ _ h => h) (Or.inl ⟨by rfl, ?_⟩) (by assumption) ?_
            rotate_left
            · intro w hSw; (try dsimp only at hSw); go_simp; try with_reducible rfl
            try simp only [Act.put, List.setIfInBounds_toArray, List.set_cons_zero, List.set_cons_succ]
            refine tkM (i := 12) (d := some 29) (v := ?_) rfl rfl (by kernel_rfl) (by kernel_rfl) (by kernel_rfl) (fun _ _ _ h => h) (Or.inl ⟨by rfl, ?_⟩) (by assumption) ?_
            rotate_left
            · intro w hSw; (try dsimp only at hSw); go_simp; try with_reducible rfl
            try simp only [Act.put, List.setIfInBounds_toArray, List.set_cons_zero, List.set_cons_succ]
            refine tkM (i := 13) (d := some 30) (v := ?_) rfl rfl (by kernel_rfl) (by kernel_rfl) (by kernel_rfl) (fun _ _ _ h => h) (Or.inl ⟨by rfl, ?_⟩) (by assumption) ?_
            rotate_left
            · intro w hSw; (try dsimp only at hSw); go_simp; try with_reducible rfl
            try simp only [Act.put, List.setIfInBounds_toArray, List.set_cons_zero, List.set_cons_succ]
            refine tkM (i := 14) (d := some 31) (v := ?_) rfl rfl (by kernel_rfl) (by kernel_rfl) (by kernel_rfl) (fun _ _ _ h => h) (Or.inl ⟨by rfl, ?_⟩) (by assumption) ?_
            rotate_left
            · intro w hSw; (try dsimp only at hSw); go_simp; try with_reducible rfl
            try simp only [Act.put, List.setIfInBounds_toArray, List.set_cons_zero, List.set_cons_succ]
            refine tkM (i := 15) (d := some 32) (v := ?_) rfl rfl (by kernel_rfl) (by kernel_rfl) (by kernel_rfl) (fun _ _ _ h => h) (Or.inl ⟨by rfl, ?_⟩) (by assumption) ?_
            rotate_left
            · intro w hSw; (try dsimp only at hSw); go_simp; try with_reducible rfl
            try simp only [Act.put, List.setIfInBounds_toArray, List.set_cons_zero, List.set_cons_succ]
            refine tkM (i := 16) (d := some 33) (v := ?_) rfl rfl (by kernel_rfl) (by kernel_rfl) (by kernel_rfl) (fun _ _ _ h => h) (Or.inl ⟨by rfl, ?_⟩) (by assumption) ?_
            rotate_left
            · intro w hSw; (try dsimp only at hSw); go_simp; try with_reducible rfl
            try simp only [Act.put, List.setIfInBounds_toArray, List.set_cons_zero, List.set_cons_succ]
            refine tkM (i := 17) (d := some 34) (v := ?_) rfl rfl (by kernel_rfl) (by kernel_rfl) (by kernel_rfl) (fun _ _ _ h => h) (Or.inl ⟨by rfl, ?_⟩) (by assumption) ?_
            rotate_left
            · intro w hSw; (try dsimp only at hSw); go_simp; try with_reducible rfl
            try simp only [Act.put, List.setIfInBounds_toArray, List.set_cons_zero, List.set_cons_succ]
            refine tkM (i := 18) (d := some 35) (v := ?_) rfl rfl (by kernel_rfl) (by kernel_rfl) (by kernel_rfl) (fun _ _ _ h => h) (Or.inl ⟨by rfl, ?_⟩) (by assumption) ?_
            rotate_left
            · intro w hSw; (try dsimp only at hSw); go_simp; try with_reducible rfl
            try simp only [Act.put, List.setIfInBounds_toArray, List.set_cons_zero, List.set_cons_succ]
            refine wpAnyH_done (by kernel_rfl) ?_ _
            go_wp2
            go_ret
            exact ⟨by rw [unhide HR2]; rfl, unhide HB4⟩
    · have HR2 : Hid (R = true) := hide (by rw [← unhide HR, mksR_end M n i hlt])
      obtain rfl : i = M.length := by omega
      go_wp2
      go_ret
      exact ⟨by rw [unhide HR2]; rfl, unhide HB⟩
end Go.Proofs.YtaipnmmlfbfcnaaDoor.Rop
