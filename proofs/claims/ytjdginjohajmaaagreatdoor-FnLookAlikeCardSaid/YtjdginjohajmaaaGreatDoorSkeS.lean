/- What a point shows, as the specification tells it. -/
import Derived.Test.YtjdginjohajmaaaGreatDoorSkeK
import Derived.Test.YtjdginjohajmaaaGreatDoorMC
namespace Go.Proofs.YtjdginjohajmaaaGreatDoor.Ske
open Go.RowKit
set_option linter.unusedVariables false
theorem lk_spec (p : Int) (h : 0 ≤ p) : lk p = (if 0 < Cas.bl p ∧ p ≤ Cas.bl p + 5 then 65 + p - Cas.bl p else if 0 < Cas.bl p ∧ Cas.bl p + 32 ≤ p ∧ p ≤ Cas.bl p + 37 then 97 + p - Cas.bl p - 32
    else if 0 < Cas.bl p ∧ p = Cas.bl p + 97 then 102 else if p = 1280 ∨ dg p = 0 then 111 else if (p = 73 ∨ p = 1281) ∨ dg p = 1 then 108 else if 1 < dg p then 48 + dg p else if catI p = 2 then 32 else p) := by
  have e1 : (512 ≤ twin p ∧ twin p ≤ 517) ↔ (0 < Cas.bl p ∧ p ≤ Cas.bl p + 5) := by unfold twin Cas.bl; split <;> split <;> omega
  have e2 : (544 ≤ twin p ∧ twin p ≤ 549) ↔ (0 < Cas.bl p ∧ Cas.bl p + 32 ≤ p ∧ p ≤ Cas.bl p + 37) := by unfold twin Cas.bl; split <;> split <;> omega
  have e3 : twin p = 609 ↔ (0 < Cas.bl p ∧ p = Cas.bl p + 97) := by unfold twin Cas.bl; split <;> split <;> omega
  have e4 : 0 < Cas.bl p → twin p = 512 + p - Cas.bl p := by unfold twin Cas.bl; split <;> split <;> omega
  unfold lk
  by_cases h1 : 0 < Cas.bl p ∧ p ≤ Cas.bl p + 5
  · rw [if_pos h1, if_pos (e1.2 h1), e4 h1.1]; omega
  rw [if_neg h1, if_neg (fun g => h1 (e1.1 g))]
  by_cases h2 : 0 < Cas.bl p ∧ Cas.bl p + 32 ≤ p ∧ p ≤ Cas.bl p + 37
  · rw [if_pos h2, if_pos (e2.2 h2), e4 h2.1]; omega
  rw [if_neg h2, if_neg (fun g => h2 (e2.1 g))]
  by_cases h3 : 0 < Cas.bl p ∧ p = Cas.bl p + 97
  · rw [if_pos h3, if_pos (e3.2 h3)]
  rw [if_neg h3, if_neg (fun g => h3 (e3.1 g))]
theorem blkS (p : Int) (w : World) (h0 : 0 ≤ p) (h1 : p ≤ 1114111) : Calls Tryz.prog 69 #[.int .i64 p] w fun e w' => e = .returned (.int .i64 (Cas.bl p)) ∧ w' = w := by
  have eq : p.tdiv 256 = p / 256 := Int.tdiv_eq_ediv_of_nonneg h0
  by_cases c : p < 512
  · rw [show Cas.bl p = 0 by unfold Cas.bl; rw [if_pos (.inl c)]]
    go_enter Tryz.func69, Tryz.ntmps69
    go_wp2
    go_ret
    exact ⟨rfl, rfl⟩
  · by_cases c2 : 1280 ≤ p
    · rw [show Cas.bl p = 0 by unfold Cas.bl; rw [if_pos (.inr c2)]]
      go_enter Tryz.func69, Tryz.ntmps69
      go_wp2
      go_ret
      exact ⟨rfl, rfl⟩
    · rw [show Cas.bl p = p / 256 * 256 by unfold Cas.bl; rw [if_neg (by omega)]]
      have q0 : 0 ≤ p / 256 := by omega
      have q1 : p / 256 ≤ 10 := by omega
      generalize p / 256 = q at *
      go_enter Tryz.func69, Tryz.ntmps69
      go_wp2
      go_ret
      exact ⟨rfl, rfl⟩
theorem cat_eq (p : Int) : (known p).1 = catI p := (fine p).1.symm
theorem digS (p : Int) (w : World) (h0 : 0 ≤ p) (h1 : p ≤ 1114111) : Calls Tryz.prog 71 #[.int .i64 p] w fun e w' => e = .returned (.int .i64 (dg p)) ∧ Below w.heap.size w w' := by
  have C := hide (specCat p w)
  rw [cat_eq] at C
  have e1 : p.tmod 16 = p % 16 := Int.tmod_eq_emod_of_nonneg h0
  have e2 : (p % 16).tmod 10 = p % 16 % 10 := Int.tmod_eq_emod_of_nonneg (by omega)
  by_cases c : catI p = 8
  · rw [(dg_is c).1]
    have n : (catI p != 8) = false := by rw [c]; rfl
    have r0 : 0 ≤ p % 16 := by omega
    have r1 : p % 16 ≤ 15 := by omega
    clear c
    generalize catI p = k at *
    generalize p % 16 = q at *
    go_enter Tryz.func71, Tryz.ntmps71
    go_wp2_with (go_at_call 53; refine (unhide C).mono ?_; rintro e w1 ⟨rfl, hb1⟩)
    go_ret
    exact ⟨ret_int (by first | exact e2 | rfl), hb1⟩
  · rw [dg_not c]
    have n : (catI p != 8) = true := by simpa using c
    clear c e1 e2
    generalize catI p = k at *
    go_enter Tryz.func71, Tryz.ntmps71
    go_wp2_with (go_at_call 53; refine (unhide C).mono ?_; rintro e w1 ⟨rfl, hb1⟩)
    go_ret
    exact ⟨rfl, hb1⟩
/-- A row that a call made and that can be read. -/
def Sn (w w' : World) (e : Ending) (L : List Int) : Prop := ∃ g c, e = .returned (.slice (some ⟨g, 0, none⟩) L.length c) ∧ (∀ (j : Nat) (u : Value), (L.map (Value.int .i64))[j]? = some u → w'.cell? ((⟨g, 0, none⟩ : Addr).add j) = some u) ∧ Below w.heap.size w w'
theorem al1 (w : World) (a : Obj) : Below w.heap.size w (w.alloc a) := (Below.refl _ _).alloc (Nat.le_refl _) _
theorem sn_one (w w1 : World) (x : Int) (h : Below w.heap.size w w1) : Sn w (w1.alloc (.cells #[.int .i64 x] 2)) (.returned (.slice (some ⟨w1.heap.size, 0, none⟩) 1 1)) [x] :=
  ⟨_, _, rfl, one_new _ _ _, j2 h (al1 _ _)⟩
theorem sn_none (w w1 : World) (h : Below w.heap.size w w1) : Sn w (w1.alloc (.cells #[] 2)) (.returned (.slice (some ⟨w1.heap.size, 0, none⟩) 0 0)) [] :=
  ⟨_, _, rfl, fun j u hj => by simp at hj, j2 h (al1 _ _)⟩
set_option maxRecDepth 100000 in
theorem sn_n1 (X : List Int) (p b c d : Int) (w : World) (p0 : 0 ≤ p) (p1 : p ≤ 1114111) (b0 : 0 ≤ b) (b1 : b ≤ 1280) (d0 : -1 ≤ d) (d1 : d ≤ 9)
    (CC : Hid (Calls Tryz.prog 53 #[.int .i64 p] w fun e w' => e = .returned (.int .i64 c) ∧ Below w.heap.size w w')) (CB : Hid (∀ W, Calls Tryz.prog 69 #[.int .i64 p] W fun e w' => e = .returned (.int .i64 b) ∧ w' = W)) (CW : Hid (∀ W, Calls Tryz.prog 70 #[.int .i64 p] W fun e w' => NewRow W w' e X)) (CD : Hid (∀ W, Calls Tryz.prog 71 #[.int .i64 p] W fun e w' => e = .returned (.int .i64 d) ∧ Below W.heap.size W w'))
    (k1 : (c == 1) = true) :
    Calls Tryz.prog 42 #[.int .i64 p] w fun e w' => Sn w w' e [] := by
  have hU : undef = Value.tuple #[] := rfl
  go_enter Tryz.func42, Tryz.ntmps42
  go_wp2_with (first
    | (go_at_call 53; refine (unhide CC).mono ?_; rintro e w1 ⟨rfl, hb1⟩; have B1 := hide hb1; clear hb1)
    | (go_at_call 69; refine ((unhide CB) _).mono ?_; rintro e w' ⟨rfl, hw⟩; obtain rfl := hw.symm; clear hw)
    | (go_at_call 70; refine ((unhide CW) _).mono ?_; rintro e w2 ⟨v2, rfl, ho2, hb2⟩; have B2 := hide (j2 (unhide B1) hb2); obtain ⟨a2, c2, rfl, _⟩ := IntsAt.owned ho2; clear ho2 hb2)
  )
  go_ret
  exact sn_none _ _ (unhide B2)
set_option maxRecDepth 100000 in
theorem sn_n2 (X : List Int) (p b c d : Int) (w : World) (p0 : 0 ≤ p) (p1 : p ≤ 1114111) (b0 : 0 ≤ b) (b1 : b ≤ 1280) (d0 : -1 ≤ d) (d1 : d ≤ 9)
    (CC : Hid (Calls Tryz.prog 53 #[.int .i64 p] w fun e w' => e = .returned (.int .i64 c) ∧ Below w.heap.size w w')) (CB : Hid (∀ W, Calls Tryz.prog 69 #[.int .i64 p] W fun e w' => e = .returned (.int .i64 b) ∧ w' = W)) (CW : Hid (∀ W, Calls Tryz.prog 70 #[.int .i64 p] W fun e w' => NewRow W w' e X)) (CD : Hid (∀ W, Calls Tryz.prog 71 #[.int .i64 p] W fun e w' => e = .returned (.int .i64 d) ∧ Below W.heap.size W w'))
    (k1 : (c == 1) = false)
    (k2 : (c == 11) = true) :
    Calls Tryz.prog 42 #[.int .i64 p] w fun e w' => Sn w w' e [] := by
  have hU : undef = Value.tuple #[] := rfl
  go_enter Tryz.func42, Tryz.ntmps42
  go_wp2_with (first
    | (go_at_call 53; refine (unhide CC).mono ?_; rintro e w1 ⟨rfl, hb1⟩; have B1 := hide hb1; clear hb1)
    | (go_at_call 69; refine ((unhide CB) _).mono ?_; rintro e w' ⟨rfl, hw⟩; obtain rfl := hw.symm; clear hw)
    | (go_at_call 70; refine ((unhide CW) _).mono ?_; rintro e w2 ⟨v2, rfl, ho2, hb2⟩; have B2 := hide (j2 (unhide B1) hb2); obtain ⟨a2, c2, rfl, _⟩ := IntsAt.owned ho2; clear ho2 hb2)
  )
  go_ret
  exact sn_none _ _ (unhide B2)
set_option maxRecDepth 100000 in
theorem sn_w1 (X : List Int) (p b c d : Int) (w : World) (p0 : 0 ≤ p) (p1 : p ≤ 1114111) (b0 : 0 ≤ b) (b1 : b ≤ 1280) (d0 : -1 ≤ d) (d1 : d ≤ 9)
    (CC : Hid (Calls Tryz.prog 53 #[.int .i64 p] w fun e w' => e = .returned (.int .i64 c) ∧ Below w.heap.size w w')) (CB : Hid (∀ W, Calls Tryz.prog 69 #[.int .i64 p] W fun e w' => e = .returned (.int .i64 b) ∧ w' = W)) (CW : Hid (∀ W, Calls Tryz.prog 70 #[.int .i64 p] W fun e w' => NewRow W w' e X)) (CD : Hid (∀ W, Calls Tryz.prog 71 #[.int .i64 p] W fun e w' => e = .returned (.int .i64 d) ∧ Below W.heap.size W w'))
    (k1 : (c == 1) = false)
    (k2 : (c == 11) = false)
    (hb : 0 < b)
    (q1 : p ≤ b + 5) :
    Calls Tryz.prog 42 #[.int .i64 p] w fun e w' => Sn w w' e [65 + p - b] := by
  have hU : undef = Value.tuple #[] := rfl
  go_enter Tryz.func42, Tryz.ntmps42
  go_wp2_with (first
    | (go_at_call 53; refine (unhide CC).mono ?_; rintro e w1 ⟨rfl, hb1⟩; have B1 := hide hb1; clear hb1)
    | (go_at_call 69; refine ((unhide CB) _).mono ?_; rintro e w' ⟨rfl, hw⟩; obtain rfl := hw.symm; clear hw)
    | (go_at_call 70; refine ((unhide CW) _).mono ?_; rintro e w2 ⟨v2, rfl, ho2, hb2⟩; have B2 := hide (j2 (unhide B1) hb2); obtain ⟨a2, c2, rfl, _⟩ := IntsAt.owned ho2; clear ho2 hb2)
  )
  go_ret
  exact sn_one _ _ _ (unhide B2)
set_option maxRecDepth 100000 in
theorem sn_w2 (X : List Int) (p b c d : Int) (w : World) (p0 : 0 ≤ p) (p1 : p ≤ 1114111) (b0 : 0 ≤ b) (b1 : b ≤ 1280) (d0 : -1 ≤ d) (d1 : d ≤ 9)
    (CC : Hid (Calls Tryz.prog 53 #[.int .i64 p] w fun e w' => e = .returned (.int .i64 c) ∧ Below w.heap.size w w')) (CB : Hid (∀ W, Calls Tryz.prog 69 #[.int .i64 p] W fun e w' => e = .returned (.int .i64 b) ∧ w' = W)) (CW : Hid (∀ W, Calls Tryz.prog 70 #[.int .i64 p] W fun e w' => NewRow W w' e X)) (CD : Hid (∀ W, Calls Tryz.prog 71 #[.int .i64 p] W fun e w' => e = .returned (.int .i64 d) ∧ Below W.heap.size W w'))
    (k1 : (c == 1) = false)
    (k2 : (c == 11) = false)
    (hb : 0 < b)
    (q1 : ¬ p ≤ b + 5)
    (q2 : b + 32 ≤ p)
    (q3 : p ≤ b + 37) :
    Calls Tryz.prog 42 #[.int .i64 p] w fun e w' => Sn w w' e [97 + p - b - 32] := by
  have hU : undef = Value.tuple #[] := rfl
  go_enter Tryz.func42, Tryz.ntmps42
  go_wp2_with (first
    | (go_at_call 53; refine (unhide CC).mono ?_; rintro e w1 ⟨rfl, hb1⟩; have B1 := hide hb1; clear hb1)
    | (go_at_call 69; refine ((unhide CB) _).mono ?_; rintro e w' ⟨rfl, hw⟩; obtain rfl := hw.symm; clear hw)
    | (go_at_call 70; refine ((unhide CW) _).mono ?_; rintro e w2 ⟨v2, rfl, ho2, hb2⟩; have B2 := hide (j2 (unhide B1) hb2); obtain ⟨a2, c2, rfl, _⟩ := IntsAt.owned ho2; clear ho2 hb2)
  )
  go_ret
  exact sn_one _ _ _ (unhide B2)
set_option maxRecDepth 100000 in
theorem sn_w3 (X : List Int) (p b c d : Int) (w : World) (p0 : 0 ≤ p) (p1 : p ≤ 1114111) (b0 : 0 ≤ b) (b1 : b ≤ 1280) (d0 : -1 ≤ d) (d1 : d ≤ 9)
    (CC : Hid (Calls Tryz.prog 53 #[.int .i64 p] w fun e w' => e = .returned (.int .i64 c) ∧ Below w.heap.size w w')) (CB : Hid (∀ W, Calls Tryz.prog 69 #[.int .i64 p] W fun e w' => e = .returned (.int .i64 b) ∧ w' = W)) (CW : Hid (∀ W, Calls Tryz.prog 70 #[.int .i64 p] W fun e w' => NewRow W w' e X)) (CD : Hid (∀ W, Calls Tryz.prog 71 #[.int .i64 p] W fun e w' => e = .returned (.int .i64 d) ∧ Below W.heap.size W w'))
    (k1 : (c == 1) = false)
    (k2 : (c == 11) = false)
    (hb : 0 < b)
    (q1 : ¬ p ≤ b + 5)
    (q2 : b + 32 ≤ p)
    (q3 : ¬ p ≤ b + 37)
    (q4 : (p == b + 97) = true) :
    Calls Tryz.prog 42 #[.int .i64 p] w fun e w' => Sn w w' e [102] := by
  have hU : undef = Value.tuple #[] := rfl
  go_enter Tryz.func42, Tryz.ntmps42
  go_wp2_with (first
    | (go_at_call 53; refine (unhide CC).mono ?_; rintro e w1 ⟨rfl, hb1⟩; have B1 := hide hb1; clear hb1)
    | (go_at_call 69; refine ((unhide CB) _).mono ?_; rintro e w' ⟨rfl, hw⟩; obtain rfl := hw.symm; clear hw)
    | (go_at_call 70; refine ((unhide CW) _).mono ?_; rintro e w2 ⟨v2, rfl, ho2, hb2⟩; have B2 := hide (j2 (unhide B1) hb2); obtain ⟨a2, c2, rfl, _⟩ := IntsAt.owned ho2; clear ho2 hb2)
  )
  go_ret
  exact sn_one _ _ _ (unhide B2)
set_option maxRecDepth 100000 in
theorem sn_r1z (X : List Int) (p b c d : Int) (w : World) (p0 : 0 ≤ p) (p1 : p ≤ 1114111) (b0 : 0 ≤ b) (b1 : b ≤ 1280) (d0 : -1 ≤ d) (d1 : d ≤ 9)
    (CC : Hid (Calls Tryz.prog 53 #[.int .i64 p] w fun e w' => e = .returned (.int .i64 c) ∧ Below w.heap.size w w')) (CB : Hid (∀ W, Calls Tryz.prog 69 #[.int .i64 p] W fun e w' => e = .returned (.int .i64 b) ∧ w' = W)) (CW : Hid (∀ W, Calls Tryz.prog 70 #[.int .i64 p] W fun e w' => NewRow W w' e X)) (CD : Hid (∀ W, Calls Tryz.prog 71 #[.int .i64 p] W fun e w' => e = .returned (.int .i64 d) ∧ Below W.heap.size W w'))
    (k1 : (c == 1) = false)
    (k2 : (c == 11) = false)
    (hb : ¬ 0 < b)
    (e8 : (c == 8) = true)
    (f0 : (d == 0) = true) :
    Calls Tryz.prog 42 #[.int .i64 p] w fun e w' => Sn w w' e [111] := by
  have hU : undef = Value.tuple #[] := rfl
  have TOD : True := trivial
  go_enter Tryz.func42, Tryz.ntmps42
  go_wp2_with (first
    | (go_at_call 53; refine (unhide CC).mono ?_; rintro e w1 ⟨rfl, hb1⟩; have B1 := hide hb1; clear hb1)
    | (go_at_call 69; refine ((unhide CB) _).mono ?_; rintro e w' ⟨rfl, hw⟩; obtain rfl := hw.symm; clear hw)
    | (go_at_call 70; refine ((unhide CW) _).mono ?_; rintro e w2 ⟨v2, rfl, ho2, hb2⟩; have B2 := hide (j2 (unhide B1) hb2); obtain ⟨a2, c2, rfl, _⟩ := IntsAt.owned ho2; clear ho2 hb2)
    | (clear TOD; go_at_call 71; refine ((unhide CD) _).mono ?_; rintro e wd0 ⟨rfl, hbd⟩; have BD0 := hide (j2 (unhide B2) hbd); clear hbd))
  go_ret
  exact sn_one _ _ _ (unhide BD0)
set_option maxRecDepth 100000 in
theorem sn_r3z (X : List Int) (p b c d : Int) (w : World) (p0 : 0 ≤ p) (p1 : p ≤ 1114111) (b0 : 0 ≤ b) (b1 : b ≤ 1280) (d0 : -1 ≤ d) (d1 : d ≤ 9)
    (CC : Hid (Calls Tryz.prog 53 #[.int .i64 p] w fun e w' => e = .returned (.int .i64 c) ∧ Below w.heap.size w w')) (CB : Hid (∀ W, Calls Tryz.prog 69 #[.int .i64 p] W fun e w' => e = .returned (.int .i64 b) ∧ w' = W)) (CW : Hid (∀ W, Calls Tryz.prog 70 #[.int .i64 p] W fun e w' => NewRow W w' e X)) (CD : Hid (∀ W, Calls Tryz.prog 71 #[.int .i64 p] W fun e w' => e = .returned (.int .i64 d) ∧ Below W.heap.size W w'))
    (k1 : (c == 1) = false)
    (k2 : (c == 11) = false)
    (hb : ¬ 0 < b)
    (e8 : (c == 8) = true)
    (f0 : (d == 0) = false)
    (f1 : (d == 1) = true)
    (r2 : (p == 1280) = false)
    (r4 : (p == 73) = false)
    (r5 : (p == 1281) = false) :
    Calls Tryz.prog 42 #[.int .i64 p] w fun e w' => Sn w w' e [108] := by
  have hU : undef = Value.tuple #[] := rfl
  have TOD : True := trivial
  have TOE : True := trivial
  go_enter Tryz.func42, Tryz.ntmps42
  go_wp2_with (first
    | (go_at_call 53; refine (unhide CC).mono ?_; rintro e w1 ⟨rfl, hb1⟩; have B1 := hide hb1; clear hb1)
    | (go_at_call 69; refine ((unhide CB) _).mono ?_; rintro e w' ⟨rfl, hw⟩; obtain rfl := hw.symm; clear hw)
    | (go_at_call 70; refine ((unhide CW) _).mono ?_; rintro e w2 ⟨v2, rfl, ho2, hb2⟩; have B2 := hide (j2 (unhide B1) hb2); obtain ⟨a2, c2, rfl, _⟩ := IntsAt.owned ho2; clear ho2 hb2)
    | (clear TOD; go_at_call 71; refine ((unhide CD) _).mono ?_; rintro e wd0 ⟨rfl, hbd⟩; have BD0 := hide (j2 (unhide B2) hbd); clear hbd)
    | (clear TOE; go_at_call 71; refine ((unhide CD) _).mono ?_; rintro e wd1 ⟨rfl, hbd⟩; have BD1 := hide (j2 (unhide BD0) hbd); clear hbd))
  go_ret
  exact sn_one _ _ _ (unhide BD1)
set_option maxRecDepth 100000 in
theorem sn_r6z (X : List Int) (p b c d : Int) (w : World) (p0 : 0 ≤ p) (p1 : p ≤ 1114111) (b0 : 0 ≤ b) (b1 : b ≤ 1280) (d0 : -1 ≤ d) (d1 : d ≤ 9)
    (CC : Hid (Calls Tryz.prog 53 #[.int .i64 p] w fun e w' => e = .returned (.int .i64 c) ∧ Below w.heap.size w w')) (CB : Hid (∀ W, Calls Tryz.prog 69 #[.int .i64 p] W fun e w' => e = .returned (.int .i64 b) ∧ w' = W)) (CW : Hid (∀ W, Calls Tryz.prog 70 #[.int .i64 p] W fun e w' => NewRow W w' e X)) (CD : Hid (∀ W, Calls Tryz.prog 71 #[.int .i64 p] W fun e w' => e = .returned (.int .i64 d) ∧ Below W.heap.size W w'))
    (k1 : (c == 1) = false)
    (k2 : (c == 11) = false)
    (hb : ¬ 0 < b)
    (e8 : (c == 8) = true)
    (f0 : (d == 0) = false)
    (f1 : (d == 1) = false)
    (r2 : (p == 1280) = false)
    (r4 : (p == 73) = false)
    (r5 : (p == 1281) = false) :
    Calls Tryz.prog 42 #[.int .i64 p] w fun e w' => Sn w w' e [48 + d] := by
  have hU : undef = Value.tuple #[] := rfl
  have TOD : True := trivial
  have TOE : True := trivial
  have TOF : True := trivial
  go_enter Tryz.func42, Tryz.ntmps42
  go_wp2_with (first
    | (go_at_call 53; refine (unhide CC).mono ?_; rintro e w1 ⟨rfl, hb1⟩; have B1 := hide hb1; clear hb1)
    | (go_at_call 69; refine ((unhide CB) _).mono ?_; rintro e w' ⟨rfl, hw⟩; obtain rfl := hw.symm; clear hw)
    | (go_at_call 70; refine ((unhide CW) _).mono ?_; rintro e w2 ⟨v2, rfl, ho2, hb2⟩; have B2 := hide (j2 (unhide B1) hb2); obtain ⟨a2, c2, rfl, _⟩ := IntsAt.owned ho2; clear ho2 hb2)
    | (clear TOD; go_at_call 71; refine ((unhide CD) _).mono ?_; rintro e wd0 ⟨rfl, hbd⟩; have BD0 := hide (j2 (unhide B2) hbd); clear hbd)
    | (clear TOE; go_at_call 71; refine ((unhide CD) _).mono ?_; rintro e wd1 ⟨rfl, hbd⟩; have BD1 := hide (j2 (unhide BD0) hbd); clear hbd)
    | (clear TOF; go_at_call 71; refine ((unhide CD) _).mono ?_; rintro e wd2 ⟨rfl, hbd⟩; have BD2 := hide (j2 (unhide BD1) hbd); clear hbd))
  go_ret
  exact sn_one _ _ _ (unhide BD2)
set_option maxRecDepth 100000 in
theorem sn_r7z (X : List Int) (p b c d : Int) (w : World) (p0 : 0 ≤ p) (p1 : p ≤ 1114111) (b0 : 0 ≤ b) (b1 : b ≤ 1280) (d0 : -1 ≤ d) (d1 : d ≤ 9)
    (CC : Hid (Calls Tryz.prog 53 #[.int .i64 p] w fun e w' => e = .returned (.int .i64 c) ∧ Below w.heap.size w w')) (CB : Hid (∀ W, Calls Tryz.prog 69 #[.int .i64 p] W fun e w' => e = .returned (.int .i64 b) ∧ w' = W)) (CW : Hid (∀ W, Calls Tryz.prog 70 #[.int .i64 p] W fun e w' => NewRow W w' e X)) (CD : Hid (∀ W, Calls Tryz.prog 71 #[.int .i64 p] W fun e w' => e = .returned (.int .i64 d) ∧ Below W.heap.size W w'))
    (k1 : (c == 1) = false)
    (k2 : (c == 11) = false)
    (hb : ¬ 0 < b)
    (e8 : (c == 8) = false)
    (r2 : (p == 1280) = false)
    (r4 : (p == 73) = false)
    (r5 : (p == 1281) = false)
    (e2 : (c == 2) = true) :
    Calls Tryz.prog 42 #[.int .i64 p] w fun e w' => Sn w w' e [32] := by
  have hU : undef = Value.tuple #[] := rfl
  go_enter Tryz.func42, Tryz.ntmps42
  go_wp2_with (first
    | (go_at_call 53; refine (unhide CC).mono ?_; rintro e w1 ⟨rfl, hb1⟩; have B1 := hide hb1; clear hb1)
    | (go_at_call 69; refine ((unhide CB) _).mono ?_; rintro e w' ⟨rfl, hw⟩; obtain rfl := hw.symm; clear hw)
    | (go_at_call 70; refine ((unhide CW) _).mono ?_; rintro e w2 ⟨v2, rfl, ho2, hb2⟩; have B2 := hide (j2 (unhide B1) hb2); obtain ⟨a2, c2, rfl, _⟩ := IntsAt.owned ho2; clear ho2 hb2)
  )
  go_ret
  exact sn_one _ _ _ (unhide B2)
set_option maxRecDepth 100000 in
theorem sn_r9z (X : List Int) (p b c d : Int) (w : World) (p0 : 0 ≤ p) (p1 : p ≤ 1114111) (b0 : 0 ≤ b) (b1 : b ≤ 1280) (d0 : -1 ≤ d) (d1 : d ≤ 9)
    (CC : Hid (Calls Tryz.prog 53 #[.int .i64 p] w fun e w' => e = .returned (.int .i64 c) ∧ Below w.heap.size w w')) (CB : Hid (∀ W, Calls Tryz.prog 69 #[.int .i64 p] W fun e w' => e = .returned (.int .i64 b) ∧ w' = W)) (CW : Hid (∀ W, Calls Tryz.prog 70 #[.int .i64 p] W fun e w' => NewRow W w' e X)) (CD : Hid (∀ W, Calls Tryz.prog 71 #[.int .i64 p] W fun e w' => e = .returned (.int .i64 d) ∧ Below W.heap.size W w'))
    (k1 : (c == 1) = false)
    (k2 : (c == 11) = false)
    (hb : ¬ 0 < b)
    (e8 : (c == 8) = false)
    (r2 : (p == 1280) = false)
    (r4 : (p == 73) = false)
    (r5 : (p == 1281) = false)
    (e2 : (c == 2) = false)
    (hX : X = []) :
    Calls Tryz.prog 42 #[.int .i64 p] w fun e w' => Sn w w' e [p] := by
  have hU : undef = Value.tuple #[] := rfl
  subst hX
  go_enter Tryz.func42, Tryz.ntmps42
  go_wp2_with (first
    | (go_at_call 53; refine (unhide CC).mono ?_; rintro e w1 ⟨rfl, hb1⟩; have B1 := hide hb1; clear hb1)
    | (go_at_call 69; refine ((unhide CB) _).mono ?_; rintro e w' ⟨rfl, hw⟩; obtain rfl := hw.symm; clear hw)
    | (go_at_call 70; refine ((unhide CW) _).mono ?_; rintro e w2 ⟨v2, rfl, ho2, hb2⟩; have B2 := hide (j2 (unhide B1) hb2); obtain ⟨a2, c2, rfl, _⟩ := IntsAt.owned ho2; clear ho2 hb2)
  )
  go_ret
  exact sn_one _ _ _ (unhide B2)
set_option maxRecDepth 100000 in
theorem sn_r1m (X : List Int) (p b c d : Int) (w : World) (p0 : 0 ≤ p) (p1 : p ≤ 1114111) (b0 : 0 ≤ b) (b1 : b ≤ 1280) (d0 : -1 ≤ d) (d1 : d ≤ 9)
    (CC : Hid (Calls Tryz.prog 53 #[.int .i64 p] w fun e w' => e = .returned (.int .i64 c) ∧ Below w.heap.size w w')) (CB : Hid (∀ W, Calls Tryz.prog 69 #[.int .i64 p] W fun e w' => e = .returned (.int .i64 b) ∧ w' = W)) (CW : Hid (∀ W, Calls Tryz.prog 70 #[.int .i64 p] W fun e w' => NewRow W w' e X)) (CD : Hid (∀ W, Calls Tryz.prog 71 #[.int .i64 p] W fun e w' => e = .returned (.int .i64 d) ∧ Below W.heap.size W w'))
    (k1 : (c == 1) = false)
    (k2 : (c == 11) = false)
    (hb : 0 < b)
    (q1 : ¬ p ≤ b + 5)
    (q2 : ¬ b + 32 ≤ p)
    (q4 : (p == b + 97) = false)
    (e8 : (c == 8) = true)
    (f0 : (d == 0) = true) :
    Calls Tryz.prog 42 #[.int .i64 p] w fun e w' => Sn w w' e [111] := by
  have hU : undef = Value.tuple #[] := rfl
  have TOD : True := trivial
  go_enter Tryz.func42, Tryz.ntmps42
  go_wp2_with (first
    | (go_at_call 53; refine (unhide CC).mono ?_; rintro e w1 ⟨rfl, hb1⟩; have B1 := hide hb1; clear hb1)
    | (go_at_call 69; refine ((unhide CB) _).mono ?_; rintro e w' ⟨rfl, hw⟩; obtain rfl := hw.symm; clear hw)
    | (go_at_call 70; refine ((unhide CW) _).mono ?_; rintro e w2 ⟨v2, rfl, ho2, hb2⟩; have B2 := hide (j2 (unhide B1) hb2); obtain ⟨a2, c2, rfl, _⟩ := IntsAt.owned ho2; clear ho2 hb2)
    | (clear TOD; go_at_call 71; refine ((unhide CD) _).mono ?_; rintro e wd0 ⟨rfl, hbd⟩; have BD0 := hide (j2 (unhide B2) hbd); clear hbd))
  go_ret
  exact sn_one _ _ _ (unhide BD0)
set_option maxRecDepth 100000 in
theorem sn_r3m (X : List Int) (p b c d : Int) (w : World) (p0 : 0 ≤ p) (p1 : p ≤ 1114111) (b0 : 0 ≤ b) (b1 : b ≤ 1280) (d0 : -1 ≤ d) (d1 : d ≤ 9)
    (CC : Hid (Calls Tryz.prog 53 #[.int .i64 p] w fun e w' => e = .returned (.int .i64 c) ∧ Below w.heap.size w w')) (CB : Hid (∀ W, Calls Tryz.prog 69 #[.int .i64 p] W fun e w' => e = .returned (.int .i64 b) ∧ w' = W)) (CW : Hid (∀ W, Calls Tryz.prog 70 #[.int .i64 p] W fun e w' => NewRow W w' e X)) (CD : Hid (∀ W, Calls Tryz.prog 71 #[.int .i64 p] W fun e w' => e = .returned (.int .i64 d) ∧ Below W.heap.size W w'))
    (k1 : (c == 1) = false)
    (k2 : (c == 11) = false)
    (hb : 0 < b)
    (q1 : ¬ p ≤ b + 5)
    (q2 : ¬ b + 32 ≤ p)
    (q4 : (p == b + 97) = false)
    (e8 : (c == 8) = true)
    (f0 : (d == 0) = false)
    (f1 : (d == 1) = true)
    (r2 : (p == 1280) = false)
    (r4 : (p == 73) = false)
    (r5 : (p == 1281) = false) :
    Calls Tryz.prog 42 #[.int .i64 p] w fun e w' => Sn w w' e [108] := by
  have hU : undef = Value.tuple #[] := rfl
  have TOD : True := trivial
  have TOE : True := trivial
  go_enter Tryz.func42, Tryz.ntmps42
  go_wp2_with (first
    | (go_at_call 53; refine (unhide CC).mono ?_; rintro e w1 ⟨rfl, hb1⟩; have B1 := hide hb1; clear hb1)
    | (go_at_call 69; refine ((unhide CB) _).mono ?_; rintro e w' ⟨rfl, hw⟩; obtain rfl := hw.symm; clear hw)
    | (go_at_call 70; refine ((unhide CW) _).mono ?_; rintro e w2 ⟨v2, rfl, ho2, hb2⟩; have B2 := hide (j2 (unhide B1) hb2); obtain ⟨a2, c2, rfl, _⟩ := IntsAt.owned ho2; clear ho2 hb2)
    | (clear TOD; go_at_call 71; refine ((unhide CD) _).mono ?_; rintro e wd0 ⟨rfl, hbd⟩; have BD0 := hide (j2 (unhide B2) hbd); clear hbd)
    | (clear TOE; go_at_call 71; refine ((unhide CD) _).mono ?_; rintro e wd1 ⟨rfl, hbd⟩; have BD1 := hide (j2 (unhide BD0) hbd); clear hbd))
  go_ret
  exact sn_one _ _ _ (unhide BD1)
set_option maxRecDepth 100000 in
theorem sn_r6m (X : List Int) (p b c d : Int) (w : World) (p0 : 0 ≤ p) (p1 : p ≤ 1114111) (b0 : 0 ≤ b) (b1 : b ≤ 1280) (d0 : -1 ≤ d) (d1 : d ≤ 9)
    (CC : Hid (Calls Tryz.prog 53 #[.int .i64 p] w fun e w' => e = .returned (.int .i64 c) ∧ Below w.heap.size w w')) (CB : Hid (∀ W, Calls Tryz.prog 69 #[.int .i64 p] W fun e w' => e = .returned (.int .i64 b) ∧ w' = W)) (CW : Hid (∀ W, Calls Tryz.prog 70 #[.int .i64 p] W fun e w' => NewRow W w' e X)) (CD : Hid (∀ W, Calls Tryz.prog 71 #[.int .i64 p] W fun e w' => e = .returned (.int .i64 d) ∧ Below W.heap.size W w'))
    (k1 : (c == 1) = false)
    (k2 : (c == 11) = false)
    (hb : 0 < b)
    (q1 : ¬ p ≤ b + 5)
    (q2 : ¬ b + 32 ≤ p)
    (q4 : (p == b + 97) = false)
    (e8 : (c == 8) = true)
    (f0 : (d == 0) = false)
    (f1 : (d == 1) = false)
    (r2 : (p == 1280) = false)
    (r4 : (p == 73) = false)
    (r5 : (p == 1281) = false) :
    Calls Tryz.prog 42 #[.int .i64 p] w fun e w' => Sn w w' e [48 + d] := by
  have hU : undef = Value.tuple #[] := rfl
  have TOD : True := trivial
  have TOE : True := trivial
  have TOF : True := trivial
  go_enter Tryz.func42, Tryz.ntmps42
  go_wp2_with (first
    | (go_at_call 53; refine (unhide CC).mono ?_; rintro e w1 ⟨rfl, hb1⟩; have B1 := hide hb1; clear hb1)
    | (go_at_call 69; refine ((unhide CB) _).mono ?_; rintro e w' ⟨rfl, hw⟩; obtain rfl := hw.symm; clear hw)
    | (go_at_call 70; refine ((unhide CW) _).mono ?_; rintro e w2 ⟨v2, rfl, ho2, hb2⟩; have B2 := hide (j2 (unhide B1) hb2); obtain ⟨a2, c2, rfl, _⟩ := IntsAt.owned ho2; clear ho2 hb2)
    | (clear TOD; go_at_call 71; refine ((unhide CD) _).mono ?_; rintro e wd0 ⟨rfl, hbd⟩; have BD0 := hide (j2 (unhide B2) hbd); clear hbd)
    | (clear TOE; go_at_call 71; refine ((unhide CD) _).mono ?_; rintro e wd1 ⟨rfl, hbd⟩; have BD1 := hide (j2 (unhide BD0) hbd); clear hbd)
    | (clear TOF; go_at_call 71; refine ((unhide CD) _).mono ?_; rintro e wd2 ⟨rfl, hbd⟩; have BD2 := hide (j2 (unhide BD1) hbd); clear hbd))
  go_ret
  exact sn_one _ _ _ (unhide BD2)
set_option maxRecDepth 100000 in
theorem sn_r7m (X : List Int) (p b c d : Int) (w : World) (p0 : 0 ≤ p) (p1 : p ≤ 1114111) (b0 : 0 ≤ b) (b1 : b ≤ 1280) (d0 : -1 ≤ d) (d1 : d ≤ 9)
    (CC : Hid (Calls Tryz.prog 53 #[.int .i64 p] w fun e w' => e = .returned (.int .i64 c) ∧ Below w.heap.size w w')) (CB : Hid (∀ W, Calls Tryz.prog 69 #[.int .i64 p] W fun e w' => e = .returned (.int .i64 b) ∧ w' = W)) (CW : Hid (∀ W, Calls Tryz.prog 70 #[.int .i64 p] W fun e w' => NewRow W w' e X)) (CD : Hid (∀ W, Calls Tryz.prog 71 #[.int .i64 p] W fun e w' => e = .returned (.int .i64 d) ∧ Below W.heap.size W w'))
    (k1 : (c == 1) = false)
    (k2 : (c == 11) = false)
    (hb : 0 < b)
    (q1 : ¬ p ≤ b + 5)
    (q2 : ¬ b + 32 ≤ p)
    (q4 : (p == b + 97) = false)
    (e8 : (c == 8) = false)
    (r2 : (p == 1280) = false)
    (r4 : (p == 73) = false)
    (r5 : (p == 1281) = false)
    (e2 : (c == 2) = true) :
    Calls Tryz.prog 42 #[.int .i64 p] w fun e w' => Sn w w' e [32] := by
  have hU : undef = Value.tuple #[] := rfl
  go_enter Tryz.func42, Tryz.ntmps42
  go_wp2_with (first
    | (go_at_call 53; refine (unhide CC).mono ?_; rintro e w1 ⟨rfl, hb1⟩; have B1 := hide hb1; clear hb1)
    | (go_at_call 69; refine ((unhide CB) _).mono ?_; rintro e w' ⟨rfl, hw⟩; obtain rfl := hw.symm; clear hw)
    | (go_at_call 70; refine ((unhide CW) _).mono ?_; rintro e w2 ⟨v2, rfl, ho2, hb2⟩; have B2 := hide (j2 (unhide B1) hb2); obtain ⟨a2, c2, rfl, _⟩ := IntsAt.owned ho2; clear ho2 hb2)
  )
  go_ret
  exact sn_one _ _ _ (unhide B2)
set_option maxRecDepth 100000 in
theorem sn_r9m (X : List Int) (p b c d : Int) (w : World) (p0 : 0 ≤ p) (p1 : p ≤ 1114111) (b0 : 0 ≤ b) (b1 : b ≤ 1280) (d0 : -1 ≤ d) (d1 : d ≤ 9)
    (CC : Hid (Calls Tryz.prog 53 #[.int .i64 p] w fun e w' => e = .returned (.int .i64 c) ∧ Below w.heap.size w w')) (CB : Hid (∀ W, Calls Tryz.prog 69 #[.int .i64 p] W fun e w' => e = .returned (.int .i64 b) ∧ w' = W)) (CW : Hid (∀ W, Calls Tryz.prog 70 #[.int .i64 p] W fun e w' => NewRow W w' e X)) (CD : Hid (∀ W, Calls Tryz.prog 71 #[.int .i64 p] W fun e w' => e = .returned (.int .i64 d) ∧ Below W.heap.size W w'))
    (k1 : (c == 1) = false)
    (k2 : (c == 11) = false)
    (hb : 0 < b)
    (q1 : ¬ p ≤ b + 5)
    (q2 : ¬ b + 32 ≤ p)
    (q4 : (p == b + 97) = false)
    (e8 : (c == 8) = false)
    (r2 : (p == 1280) = false)
    (r4 : (p == 73) = false)
    (r5 : (p == 1281) = false)
    (e2 : (c == 2) = false)
    (hX : X = []) :
    Calls Tryz.prog 42 #[.int .i64 p] w fun e w' => Sn w w' e [p] := by
  have hU : undef = Value.tuple #[] := rfl
  subst hX
  go_enter Tryz.func42, Tryz.ntmps42
  go_wp2_with (first
    | (go_at_call 53; refine (unhide CC).mono ?_; rintro e w1 ⟨rfl, hb1⟩; have B1 := hide hb1; clear hb1)
    | (go_at_call 69; refine ((unhide CB) _).mono ?_; rintro e w' ⟨rfl, hw⟩; obtain rfl := hw.symm; clear hw)
    | (go_at_call 70; refine ((unhide CW) _).mono ?_; rintro e w2 ⟨v2, rfl, ho2, hb2⟩; have B2 := hide (j2 (unhide B1) hb2); obtain ⟨a2, c2, rfl, _⟩ := IntsAt.owned ho2; clear ho2 hb2)
  )
  go_ret
  exact sn_one _ _ _ (unhide B2)
set_option maxRecDepth 100000 in
theorem sn_r1h (X : List Int) (p b c d : Int) (w : World) (p0 : 0 ≤ p) (p1 : p ≤ 1114111) (b0 : 0 ≤ b) (b1 : b ≤ 1280) (d0 : -1 ≤ d) (d1 : d ≤ 9)
    (CC : Hid (Calls Tryz.prog 53 #[.int .i64 p] w fun e w' => e = .returned (.int .i64 c) ∧ Below w.heap.size w w')) (CB : Hid (∀ W, Calls Tryz.prog 69 #[.int .i64 p] W fun e w' => e = .returned (.int .i64 b) ∧ w' = W)) (CW : Hid (∀ W, Calls Tryz.prog 70 #[.int .i64 p] W fun e w' => NewRow W w' e X)) (CD : Hid (∀ W, Calls Tryz.prog 71 #[.int .i64 p] W fun e w' => e = .returned (.int .i64 d) ∧ Below W.heap.size W w'))
    (k1 : (c == 1) = false)
    (k2 : (c == 11) = false)
    (hb : 0 < b)
    (q1 : ¬ p ≤ b + 5)
    (q2 : b + 32 ≤ p)
    (q3 : ¬ p ≤ b + 37)
    (q4 : (p == b + 97) = false)
    (e8 : (c == 8) = true)
    (f0 : (d == 0) = true) :
    Calls Tryz.prog 42 #[.int .i64 p] w fun e w' => Sn w w' e [111] := by
  have hU : undef = Value.tuple #[] := rfl
  have TOD : True := trivial
  go_enter Tryz.func42, Tryz.ntmps42
  go_wp2_with (first
    | (go_at_call 53; refine (unhide CC).mono ?_; rintro e w1 ⟨rfl, hb1⟩; have B1 := hide hb1; clear hb1)
    | (go_at_call 69; refine ((unhide CB) _).mono ?_; rintro e w' ⟨rfl, hw⟩; obtain rfl := hw.symm; clear hw)
    | (go_at_call 70; refine ((unhide CW) _).mono ?_; rintro e w2 ⟨v2, rfl, ho2, hb2⟩; have B2 := hide (j2 (unhide B1) hb2); obtain ⟨a2, c2, rfl, _⟩ := IntsAt.owned ho2; clear ho2 hb2)
    | (clear TOD; go_at_call 71; refine ((unhide CD) _).mono ?_; rintro e wd0 ⟨rfl, hbd⟩; have BD0 := hide (j2 (unhide B2) hbd); clear hbd))
  go_ret
  exact sn_one _ _ _ (unhide BD0)
set_option maxRecDepth 100000 in
theorem sn_r3h (X : List Int) (p b c d : Int) (w : World) (p0 : 0 ≤ p) (p1 : p ≤ 1114111) (b0 : 0 ≤ b) (b1 : b ≤ 1280) (d0 : -1 ≤ d) (d1 : d ≤ 9)
    (CC : Hid (Calls Tryz.prog 53 #[.int .i64 p] w fun e w' => e = .returned (.int .i64 c) ∧ Below w.heap.size w w')) (CB : Hid (∀ W, Calls Tryz.prog 69 #[.int .i64 p] W fun e w' => e = .returned (.int .i64 b) ∧ w' = W)) (CW : Hid (∀ W, Calls Tryz.prog 70 #[.int .i64 p] W fun e w' => NewRow W w' e X)) (CD : Hid (∀ W, Calls Tryz.prog 71 #[.int .i64 p] W fun e w' => e = .returned (.int .i64 d) ∧ Below W.heap.size W w'))
    (k1 : (c == 1) = false)
    (k2 : (c == 11) = false)
    (hb : 0 < b)
    (q1 : ¬ p ≤ b + 5)
    (q2 : b + 32 ≤ p)
    (q3 : ¬ p ≤ b + 37)
    (q4 : (p == b + 97) = false)
    (e8 : (c == 8) = true)
    (f0 : (d == 0) = false)
    (f1 : (d == 1) = true)
    (r2 : (p == 1280) = false)
    (r4 : (p == 73) = false)
    (r5 : (p == 1281) = false) :
    Calls Tryz.prog 42 #[.int .i64 p] w fun e w' => Sn w w' e [108] := by
  have hU : undef = Value.tuple #[] := rfl
  have TOD : True := trivial
  have TOE : True := trivial
  go_enter Tryz.func42, Tryz.ntmps42
  go_wp2_with (first
    | (go_at_call 53; refine (unhide CC).mono ?_; rintro e w1 ⟨rfl, hb1⟩; have B1 := hide hb1; clear hb1)
    | (go_at_call 69; refine ((unhide CB) _).mono ?_; rintro e w' ⟨rfl, hw⟩; obtain rfl := hw.symm; clear hw)
    | (go_at_call 70; refine ((unhide CW) _).mono ?_; rintro e w2 ⟨v2, rfl, ho2, hb2⟩; have B2 := hide (j2 (unhide B1) hb2); obtain ⟨a2, c2, rfl, _⟩ := IntsAt.owned ho2; clear ho2 hb2)
    | (clear TOD; go_at_call 71; refine ((unhide CD) _).mono ?_; rintro e wd0 ⟨rfl, hbd⟩; have BD0 := hide (j2 (unhide B2) hbd); clear hbd)
    | (clear TOE; go_at_call 71; refine ((unhide CD) _).mono ?_; rintro e wd1 ⟨rfl, hbd⟩; have BD1 := hide (j2 (unhide BD0) hbd); clear hbd))
  go_ret
  exact sn_one _ _ _ (unhide BD1)
set_option maxRecDepth 100000 in
theorem sn_r6h (X : List Int) (p b c d : Int) (w : World) (p0 : 0 ≤ p) (p1 : p ≤ 1114111) (b0 : 0 ≤ b) (b1 : b ≤ 1280) (d0 : -1 ≤ d) (d1 : d ≤ 9)
    (CC : Hid (Calls Tryz.prog 53 #[.int .i64 p] w fun e w' => e = .returned (.int .i64 c) ∧ Below w.heap.size w w')) (CB : Hid (∀ W, Calls Tryz.prog 69 #[.int .i64 p] W fun e w' => e = .returned (.int .i64 b) ∧ w' = W)) (CW : Hid (∀ W, Calls Tryz.prog 70 #[.int .i64 p] W fun e w' => NewRow W w' e X)) (CD : Hid (∀ W, Calls Tryz.prog 71 #[.int .i64 p] W fun e w' => e = .returned (.int .i64 d) ∧ Below W.heap.size W w'))
    (k1 : (c == 1) = false)
    (k2 : (c == 11) = false)
    (hb : 0 < b)
    (q1 : ¬ p ≤ b + 5)
    (q2 : b + 32 ≤ p)
    (q3 : ¬ p ≤ b + 37)
    (q4 : (p == b + 97) = false)
    (e8 : (c == 8) = true)
    (f0 : (d == 0) = false)
    (f1 : (d == 1) = false)
    (r2 : (p == 1280) = false)
    (r4 : (p == 73) = false)
    (r5 : (p == 1281) = false) :
    Calls Tryz.prog 42 #[.int .i64 p] w fun e w' => Sn w w' e [48 + d] := by
  have hU : undef = Value.tuple #[] := rfl
  have TOD : True := trivial
  have TOE : True := trivial
  have TOF : True := trivial
  go_enter Tryz.func42, Tryz.ntmps42
  go_wp2_with (first
    | (go_at_call 53; refine (unhide CC).mono ?_; rintro e w1 ⟨rfl, hb1⟩; have B1 := hide hb1; clear hb1)
    | (go_at_call 69; refine ((unhide CB) _).mono ?_; rintro e w' ⟨rfl, hw⟩; obtain rfl := hw.symm; clear hw)
    | (go_at_call 70; refine ((unhide CW) _).mono ?_; rintro e w2 ⟨v2, rfl, ho2, hb2⟩; have B2 := hide (j2 (unhide B1) hb2); obtain ⟨a2, c2, rfl, _⟩ := IntsAt.owned ho2; clear ho2 hb2)
    | (clear TOD; go_at_call 71; refine ((unhide CD) _).mono ?_; rintro e wd0 ⟨rfl, hbd⟩; have BD0 := hide (j2 (unhide B2) hbd); clear hbd)
    | (clear TOE; go_at_call 71; refine ((unhide CD) _).mono ?_; rintro e wd1 ⟨rfl, hbd⟩; have BD1 := hide (j2 (unhide BD0) hbd); clear hbd)
    | (clear TOF; go_at_call 71; refine ((unhide CD) _).mono ?_; rintro e wd2 ⟨rfl, hbd⟩; have BD2 := hide (j2 (unhide BD1) hbd); clear hbd))
  go_ret
  exact sn_one _ _ _ (unhide BD2)
set_option maxRecDepth 100000 in
theorem sn_r7h (X : List Int) (p b c d : Int) (w : World) (p0 : 0 ≤ p) (p1 : p ≤ 1114111) (b0 : 0 ≤ b) (b1 : b ≤ 1280) (d0 : -1 ≤ d) (d1 : d ≤ 9)
    (CC : Hid (Calls Tryz.prog 53 #[.int .i64 p] w fun e w' => e = .returned (.int .i64 c) ∧ Below w.heap.size w w')) (CB : Hid (∀ W, Calls Tryz.prog 69 #[.int .i64 p] W fun e w' => e = .returned (.int .i64 b) ∧ w' = W)) (CW : Hid (∀ W, Calls Tryz.prog 70 #[.int .i64 p] W fun e w' => NewRow W w' e X)) (CD : Hid (∀ W, Calls Tryz.prog 71 #[.int .i64 p] W fun e w' => e = .returned (.int .i64 d) ∧ Below W.heap.size W w'))
    (k1 : (c == 1) = false)
    (k2 : (c == 11) = false)
    (hb : 0 < b)
    (q1 : ¬ p ≤ b + 5)
    (q2 : b + 32 ≤ p)
    (q3 : ¬ p ≤ b + 37)
    (q4 : (p == b + 97) = false)
    (e8 : (c == 8) = false)
    (r2 : (p == 1280) = false)
    (r4 : (p == 73) = false)
    (r5 : (p == 1281) = false)
    (e2 : (c == 2) = true) :
    Calls Tryz.prog 42 #[.int .i64 p] w fun e w' => Sn w w' e [32] := by
  have hU : undef = Value.tuple #[] := rfl
  go_enter Tryz.func42, Tryz.ntmps42
  go_wp2_with (first
    | (go_at_call 53; refine (unhide CC).mono ?_; rintro e w1 ⟨rfl, hb1⟩; have B1 := hide hb1; clear hb1)
    | (go_at_call 69; refine ((unhide CB) _).mono ?_; rintro e w' ⟨rfl, hw⟩; obtain rfl := hw.symm; clear hw)
    | (go_at_call 70; refine ((unhide CW) _).mono ?_; rintro e w2 ⟨v2, rfl, ho2, hb2⟩; have B2 := hide (j2 (unhide B1) hb2); obtain ⟨a2, c2, rfl, _⟩ := IntsAt.owned ho2; clear ho2 hb2)
  )
  go_ret
  exact sn_one _ _ _ (unhide B2)
set_option maxRecDepth 100000 in
theorem sn_r9h (X : List Int) (p b c d : Int) (w : World) (p0 : 0 ≤ p) (p1 : p ≤ 1114111) (b0 : 0 ≤ b) (b1 : b ≤ 1280) (d0 : -1 ≤ d) (d1 : d ≤ 9)
    (CC : Hid (Calls Tryz.prog 53 #[.int .i64 p] w fun e w' => e = .returned (.int .i64 c) ∧ Below w.heap.size w w')) (CB : Hid (∀ W, Calls Tryz.prog 69 #[.int .i64 p] W fun e w' => e = .returned (.int .i64 b) ∧ w' = W)) (CW : Hid (∀ W, Calls Tryz.prog 70 #[.int .i64 p] W fun e w' => NewRow W w' e X)) (CD : Hid (∀ W, Calls Tryz.prog 71 #[.int .i64 p] W fun e w' => e = .returned (.int .i64 d) ∧ Below W.heap.size W w'))
    (k1 : (c == 1) = false)
    (k2 : (c == 11) = false)
    (hb : 0 < b)
    (q1 : ¬ p ≤ b + 5)
    (q2 : b + 32 ≤ p)
    (q3 : ¬ p ≤ b + 37)
    (q4 : (p == b + 97) = false)
    (e8 : (c == 8) = false)
    (r2 : (p == 1280) = false)
    (r4 : (p == 73) = false)
    (r5 : (p == 1281) = false)
    (e2 : (c == 2) = false)
    (hX : X = []) :
    Calls Tryz.prog 42 #[.int .i64 p] w fun e w' => Sn w w' e [p] := by
  have hU : undef = Value.tuple #[] := rfl
  subst hX
  go_enter Tryz.func42, Tryz.ntmps42
  go_wp2_with (first
    | (go_at_call 53; refine (unhide CC).mono ?_; rintro e w1 ⟨rfl, hb1⟩; have B1 := hide hb1; clear hb1)
    | (go_at_call 69; refine ((unhide CB) _).mono ?_; rintro e w' ⟨rfl, hw⟩; obtain rfl := hw.symm; clear hw)
    | (go_at_call 70; refine ((unhide CW) _).mono ?_; rintro e w2 ⟨v2, rfl, ho2, hb2⟩; have B2 := hide (j2 (unhide B1) hb2); obtain ⟨a2, c2, rfl, _⟩ := IntsAt.owned ho2; clear ho2 hb2)
  )
  go_ret
  exact sn_one _ _ _ (unhide B2)
set_option maxRecDepth 100000 in
theorem sn_r2 (X : List Int) (p b c d : Int) (w : World) (p0 : 0 ≤ p) (p1 : p ≤ 1114111) (b0 : 0 ≤ b) (b1 : b ≤ 1280) (d0 : -1 ≤ d) (d1 : d ≤ 9)
    (CC : Hid (Calls Tryz.prog 53 #[.int .i64 p] w fun e w' => e = .returned (.int .i64 c) ∧ Below w.heap.size w w')) (CB : Hid (∀ W, Calls Tryz.prog 69 #[.int .i64 p] W fun e w' => e = .returned (.int .i64 b) ∧ w' = W)) (CW : Hid (∀ W, Calls Tryz.prog 70 #[.int .i64 p] W fun e w' => NewRow W w' e X)) (CD : Hid (∀ W, Calls Tryz.prog 71 #[.int .i64 p] W fun e w' => e = .returned (.int .i64 d) ∧ Below W.heap.size W w'))
    (k1 : (c == 1) = false)
    (k2 : (c == 11) = false)
    (hb : ¬ 0 < b)
    (e8 : (c == 8) = false)
    (r2 : (p == 1280) = true) :
    Calls Tryz.prog 42 #[.int .i64 p] w fun e w' => Sn w w' e [111] := by
  have hU : undef = Value.tuple #[] := rfl
  go_enter Tryz.func42, Tryz.ntmps42
  go_wp2_with (first
    | (go_at_call 53; refine (unhide CC).mono ?_; rintro e w1 ⟨rfl, hb1⟩; have B1 := hide hb1; clear hb1)
    | (go_at_call 69; refine ((unhide CB) _).mono ?_; rintro e w' ⟨rfl, hw⟩; obtain rfl := hw.symm; clear hw)
    | (go_at_call 70; refine ((unhide CW) _).mono ?_; rintro e w2 ⟨v2, rfl, ho2, hb2⟩; have B2 := hide (j2 (unhide B1) hb2); obtain ⟨a2, c2, rfl, _⟩ := IntsAt.owned ho2; clear ho2 hb2)
  )
  go_ret
  exact sn_one _ _ _ (unhide B2)
set_option maxRecDepth 100000 in
theorem sn_r4 (X : List Int) (p b c d : Int) (w : World) (p0 : 0 ≤ p) (p1 : p ≤ 1114111) (b0 : 0 ≤ b) (b1 : b ≤ 1280) (d0 : -1 ≤ d) (d1 : d ≤ 9)
    (CC : Hid (Calls Tryz.prog 53 #[.int .i64 p] w fun e w' => e = .returned (.int .i64 c) ∧ Below w.heap.size w w')) (CB : Hid (∀ W, Calls Tryz.prog 69 #[.int .i64 p] W fun e w' => e = .returned (.int .i64 b) ∧ w' = W)) (CW : Hid (∀ W, Calls Tryz.prog 70 #[.int .i64 p] W fun e w' => NewRow W w' e X)) (CD : Hid (∀ W, Calls Tryz.prog 71 #[.int .i64 p] W fun e w' => e = .returned (.int .i64 d) ∧ Below W.heap.size W w'))
    (k1 : (c == 1) = false)
    (k2 : (c == 11) = false)
    (hb : ¬ 0 < b)
    (e8 : (c == 8) = false)
    (r2 : (p == 1280) = false)
    (r4 : (p == 73) = true) :
    Calls Tryz.prog 42 #[.int .i64 p] w fun e w' => Sn w w' e [108] := by
  have hU : undef = Value.tuple #[] := rfl
  go_enter Tryz.func42, Tryz.ntmps42
  go_wp2_with (first
    | (go_at_call 53; refine (unhide CC).mono ?_; rintro e w1 ⟨rfl, hb1⟩; have B1 := hide hb1; clear hb1)
    | (go_at_call 69; refine ((unhide CB) _).mono ?_; rintro e w' ⟨rfl, hw⟩; obtain rfl := hw.symm; clear hw)
    | (go_at_call 70; refine ((unhide CW) _).mono ?_; rintro e w2 ⟨v2, rfl, ho2, hb2⟩; have B2 := hide (j2 (unhide B1) hb2); obtain ⟨a2, c2, rfl, _⟩ := IntsAt.owned ho2; clear ho2 hb2)
  )
  go_ret
  exact sn_one _ _ _ (unhide B2)
set_option maxRecDepth 100000 in
theorem sn_r5 (X : List Int) (p b c d : Int) (w : World) (p0 : 0 ≤ p) (p1 : p ≤ 1114111) (b0 : 0 ≤ b) (b1 : b ≤ 1280) (d0 : -1 ≤ d) (d1 : d ≤ 9)
    (CC : Hid (Calls Tryz.prog 53 #[.int .i64 p] w fun e w' => e = .returned (.int .i64 c) ∧ Below w.heap.size w w')) (CB : Hid (∀ W, Calls Tryz.prog 69 #[.int .i64 p] W fun e w' => e = .returned (.int .i64 b) ∧ w' = W)) (CW : Hid (∀ W, Calls Tryz.prog 70 #[.int .i64 p] W fun e w' => NewRow W w' e X)) (CD : Hid (∀ W, Calls Tryz.prog 71 #[.int .i64 p] W fun e w' => e = .returned (.int .i64 d) ∧ Below W.heap.size W w'))
    (k1 : (c == 1) = false)
    (k2 : (c == 11) = false)
    (hb : ¬ 0 < b)
    (e8 : (c == 8) = false)
    (r2 : (p == 1280) = false)
    (r4 : (p == 73) = false)
    (r5 : (p == 1281) = true) :
    Calls Tryz.prog 42 #[.int .i64 p] w fun e w' => Sn w w' e [108] := by
  have hU : undef = Value.tuple #[] := rfl
  go_enter Tryz.func42, Tryz.ntmps42
  go_wp2_with (first
    | (go_at_call 53; refine (unhide CC).mono ?_; rintro e w1 ⟨rfl, hb1⟩; have B1 := hide hb1; clear hb1)
    | (go_at_call 69; refine ((unhide CB) _).mono ?_; rintro e w' ⟨rfl, hw⟩; obtain rfl := hw.symm; clear hw)
    | (go_at_call 70; refine ((unhide CW) _).mono ?_; rintro e w2 ⟨v2, rfl, ho2, hb2⟩; have B2 := hide (j2 (unhide B1) hb2); obtain ⟨a2, c2, rfl, _⟩ := IntsAt.owned ho2; clear ho2 hb2)
  )
  go_ret
  exact sn_one _ _ _ (unhide B2)
theorem cat73 : catI 73 ≠ 8 ∧ catI 1281 ≠ 8 ∧ catI 1280 ≠ 8 := by decide +kernel
/-- l19Seen of a point that is no symbol with parts. -/
theorem seen0 (p : Int) (w : World) (p0 : 0 ≤ p) (p1 : p ≤ 1114111) (hw : wideZ p = [] ∨ catI p ≠ 10) : Calls Tryz.prog 42 #[.int .i64 p] w fun e w' => Sn w w' e (see p) := by
  have CC := hide (specCat p w)
  rw [cat_eq] at CC
  have CB := hide (fun W => blkS p W p0 p1)
  have CW := hide (fun W => wideS p W ⟨p0, p1⟩)
  have hwk := wide_kind p
  have CD := hide (fun W => digS p W p0 p1)
  have hd := dg_bd p
  by_cases hn : catI p = 1 ∨ catI p = 11
  · rw [see_none hn]
    obtain ⟨b0, b1⟩ : 0 ≤ Cas.bl p ∧ Cas.bl p ≤ 1280 := by unfold Cas.bl; split <;> omega
    generalize Cas.bl p = b at *
    generalize dg p = d at *
    generalize catI p = c at *
    rcases hn with h | h
    · exact sn_n1 _ p b c d w p0 p1 b0 b1 hd.1 hd.2 CC CB CW CD (bt' h)
    · exact sn_n2 _ p b c d w p0 p1 b0 b1 hd.1 hd.2 CC CB CW CD (bf (by omega)) (bt' h)
  rw [see_one hn hw, lk_spec p p0]
  have hX : catI p ≠ 8 → catI p ≠ 2 → wideZ p = [] := fun a b => by
    apply Classical.byContradiction
    intro h
    rcases hwk h with g | g | g
    · rcases hw with e | e
      · exact h e
      · exact e g
    · exact b g
    · exact a g
  have k1 : (catI p == 1) = false := bf (fun h => hn (.inl h))
  have k2 : (catI p == 11) = false := bf (fun h => hn (.inr h))
  have hbz : 0 < Cas.bl p → 512 ≤ p ∧ p < 1280 ∧ Cas.bl p ≤ p := by unfold Cas.bl; split <;> omega
  have hz73 : catI p = 8 → p ≠ 73 ∧ p ≠ 1281 ∧ p ≠ 1280 := fun h => ⟨fun e => cat73.1 (e ▸ h), fun e => cat73.2.1 (e ▸ h), fun e => cat73.2.2 (e ▸ h)⟩
  have hdn : catI p ≠ 8 → dg p = -1 := dg_not
  have hdy : catI p = 8 → 0 ≤ dg p := fun h => (dg_is h).2
  obtain ⟨b0, b1⟩ : 0 ≤ Cas.bl p ∧ Cas.bl p ≤ 1280 := by unfold Cas.bl; split <;> omega
  clear hn hw hwk
  generalize wideZ p = X at *
  generalize Cas.bl p = b at *
  generalize dg p = d at *
  generalize catI p = c at *
  by_cases h1 : 0 < b ∧ p ≤ b + 5
  · rw [if_pos h1]; exact sn_w1 _ p b c d w p0 p1 b0 b1 hd.1 hd.2 CC CB CW CD k1 k2 h1.1 h1.2
  rw [if_neg h1]
  by_cases h2 : 0 < b ∧ b + 32 ≤ p ∧ p ≤ b + 37
  · rw [if_pos h2]; exact sn_w2 _ p b c d w p0 p1 b0 b1 hd.1 hd.2 CC CB CW CD k1 k2 h2.1 (fun g => h1 ⟨h2.1, g⟩) h2.2.1 h2.2.2
  rw [if_neg h2]
  by_cases h3 : 0 < b ∧ p = b + 97
  · rw [if_pos h3]; exact sn_w3 _ p b c d w p0 p1 b0 b1 hd.1 hd.2 CC CB CW CD k1 k2 h3.1 (by omega) (by omega) (by omega) (bt' h3.2)
  rw [if_neg h3]
  by_cases hb : 0 < b
  · have g := hbz hb
    by_cases hm : b + 32 ≤ p
    · by_cases e8 : c = 8
      · have z := hz73 e8
        have y := hdy e8
        by_cases f0 : d = 0
        · rw [if_pos (.inr f0)]; exact sn_r1h _ p b c d w p0 p1 b0 b1 hd.1 hd.2 CC CB CW CD k1 k2 hb (by omega) hm (by omega) (bf (by omega)) (bt' e8) (bt' f0)
        rw [if_neg (by omega)]
        by_cases f1 : d = 1
        · rw [if_pos (.inr f1)]; exact sn_r3h _ p b c d w p0 p1 b0 b1 hd.1 hd.2 CC CB CW CD k1 k2 hb (by omega) hm (by omega) (bf (by omega)) (bt' e8) (bf f0) (bt' f1) (bf z.2.2) (bf z.1) (bf z.2.1)
        rw [if_neg (by omega), if_pos (by omega)]
        exact sn_r6h _ p b c d w p0 p1 b0 b1 hd.1 hd.2 CC CB CW CD k1 k2 hb (by omega) hm (by omega) (bf (by omega)) (bt' e8) (bf f0) (bf f1) (bf z.2.2) (bf z.1) (bf z.2.1)
      · have y := hdn e8
        rw [if_neg (by omega), if_neg (by omega), if_neg (by omega)]
        by_cases e2 : c = 2
        · rw [if_pos e2]; exact sn_r7h _ p b c d w p0 p1 b0 b1 hd.1 hd.2 CC CB CW CD k1 k2 hb (by omega) hm (by omega) (bf (by omega)) (bf e8) (bf (by omega)) (bf (by omega)) (bf (by omega)) (bt' e2)
        · rw [if_neg e2]; exact sn_r9h _ p b c d w p0 p1 b0 b1 hd.1 hd.2 CC CB CW CD k1 k2 hb (by omega) hm (by omega) (bf (by omega)) (bf e8) (bf (by omega)) (bf (by omega)) (bf (by omega)) (bf e2) (hX e8 e2)
    · by_cases e8 : c = 8
      · have z := hz73 e8
        have y := hdy e8
        by_cases f0 : d = 0
        · rw [if_pos (.inr f0)]; exact sn_r1m _ p b c d w p0 p1 b0 b1 hd.1 hd.2 CC CB CW CD k1 k2 hb (by omega) hm (bf (by omega)) (bt' e8) (bt' f0)
        rw [if_neg (by omega)]
        by_cases f1 : d = 1
        · rw [if_pos (.inr f1)]; exact sn_r3m _ p b c d w p0 p1 b0 b1 hd.1 hd.2 CC CB CW CD k1 k2 hb (by omega) hm (bf (by omega)) (bt' e8) (bf f0) (bt' f1) (bf z.2.2) (bf z.1) (bf z.2.1)
        rw [if_neg (by omega), if_pos (by omega)]
        exact sn_r6m _ p b c d w p0 p1 b0 b1 hd.1 hd.2 CC CB CW CD k1 k2 hb (by omega) hm (bf (by omega)) (bt' e8) (bf f0) (bf f1) (bf z.2.2) (bf z.1) (bf z.2.1)
      · have y := hdn e8
        rw [if_neg (by omega), if_neg (by omega), if_neg (by omega)]
        by_cases e2 : c = 2
        · rw [if_pos e2]; exact sn_r7m _ p b c d w p0 p1 b0 b1 hd.1 hd.2 CC CB CW CD k1 k2 hb (by omega) hm (bf (by omega)) (bf e8) (bf (by omega)) (bf (by omega)) (bf (by omega)) (bt' e2)
        · rw [if_neg e2]; exact sn_r9m _ p b c d w p0 p1 b0 b1 hd.1 hd.2 CC CB CW CD k1 k2 hb (by omega) hm (bf (by omega)) (bf e8) (bf (by omega)) (bf (by omega)) (bf (by omega)) (bf e2) (hX e8 e2)
  · by_cases e8 : c = 8
    · have z := hz73 e8
      have y := hdy e8
      by_cases f0 : d = 0
      · rw [if_pos (.inr f0)]; exact sn_r1z _ p b c d w p0 p1 b0 b1 hd.1 hd.2 CC CB CW CD k1 k2 hb (bt' e8) (bt' f0)
      rw [if_neg (by omega)]
      by_cases f1 : d = 1
      · rw [if_pos (.inr f1)]; exact sn_r3z _ p b c d w p0 p1 b0 b1 hd.1 hd.2 CC CB CW CD k1 k2 hb (bt' e8) (bf f0) (bt' f1) (bf z.2.2) (bf z.1) (bf z.2.1)
      rw [if_neg (by omega), if_pos (by omega)]
      exact sn_r6z _ p b c d w p0 p1 b0 b1 hd.1 hd.2 CC CB CW CD k1 k2 hb (bt' e8) (bf f0) (bf f1) (bf z.2.2) (bf z.1) (bf z.2.1)
    · have y := hdn e8
      by_cases f2 : p = 1280
      · rw [if_pos (.inl f2)]; exact sn_r2 _ p b c d w p0 p1 b0 b1 hd.1 hd.2 CC CB CW CD k1 k2 hb (bf e8) (bt' f2)
      rw [if_neg (by omega)]
      by_cases f4 : p = 73
      · rw [if_pos (.inl (.inl f4))]; exact sn_r4 _ p b c d w p0 p1 b0 b1 hd.1 hd.2 CC CB CW CD k1 k2 hb (bf e8) (bf f2) (bt' f4)
      by_cases f5 : p = 1281
      · rw [if_pos (.inl (.inr f5))]; exact sn_r5 _ p b c d w p0 p1 b0 b1 hd.1 hd.2 CC CB CW CD k1 k2 hb (bf e8) (bf f2) (bf f4) (bt' f5)
      rw [if_neg (by omega), if_neg (by omega)]
      by_cases e2 : c = 2
      · rw [if_pos e2]; exact sn_r7z _ p b c d w p0 p1 b0 b1 hd.1 hd.2 CC CB CW CD k1 k2 hb (bf e8) (bf (by omega)) (bf (by omega)) (bf (by omega)) (bt' e2)
      · rw [if_neg e2]; exact sn_r9z _ p b c d w p0 p1 b0 b1 hd.1 hd.2 CC CB CW CD k1 k2 hb (bf e8) (bf (by omega)) (bf (by omega)) (bf (by omega)) (bf e2) (hX e8 e2)
end Go.Proofs.YtjdginjohajmaaaGreatDoor.Ske
