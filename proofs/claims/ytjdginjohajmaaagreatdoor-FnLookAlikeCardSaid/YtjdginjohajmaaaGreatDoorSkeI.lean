/- What a point looks like, as the program tells it. -/
import Derived.Test.YtjdginjohajmaaaGreatDoorSkeP
import Derived.Test.YtjdginjohajmaaaGreatDoorMA
import Derived.Test.YtjdginjohajmaaaGreatDoorAppG
namespace Go.Proofs.YtjdginjohajmaaaGreatDoor.Ske
open Go.RowKit
set_option linter.unusedVariables false
theorem j2 {w w1 w2 : World} (h : Below w.heap.size w w1) (k : Below w1.heap.size w1 w2) : Below w.heap.size w w2 := h.trans (k.mono h.size)
set_option maxRecDepth 100000 in
theorem digI (p : Int) (w : World) (ht : TabAt w) : Calls Tryz.prog 85 #[.int .i64 p] w fun e w' => e = .returned (.int .i64 (dg p)) ∧ Below w.heap.size w w' := by
  have H := hide ht
  clear ht
  have hbd := row_bd (twin p)
  have hF : rowF (twin p) = (rowOf (twin p)).1 := rfl
  have f0 : 0 ≤ rowF (twin p) := by omega
  have f1 : rowF (twin p) ≤ 65535 := by omega
  clear hbd
  have hC : catI p = rowC (twin p) := rfl
  by_cases c : catI p = 8
  · have hd := ((fine p).2.2.1 c).1
    rw [← hF] at hd
    have d0 : 0 ≤ twin p - rowF (twin p) := by omega
    have d1 : twin p - rowF (twin p) ≤ 9 := by omega
    have c' : (rowC (twin p) != 8) = false := by rw [← hC, c]; decide
    have HD := hide hd
    have HC := hide c
    clear hd hF hC c
    go_enter Tryz.func85, Tryz.ntmps85
    go_wp2_with (first | (go_at_call 47; refine (twin_any p _).mono ?_; rintro e w' ⟨rfl, rfl⟩) | (go_at_call 48; refine (row_any (twin p) _ (unhide H)).mono ?_; rintro e w' ⟨rfl, hb⟩))
    go_ret
    exact ⟨ret_int (by unfold dg; rw [if_pos (unhide HC)]; exact unhide HD), hb.alloc hb.size _⟩
  · have c' : (rowC (twin p) != 8) = true := by rw [← hC]; simpa using c
    have HC := hide c
    clear hF hC c
    go_enter Tryz.func85, Tryz.ntmps85
    go_wp2_with (first | (go_at_call 47; refine (twin_any p _).mono ?_; rintro e w' ⟨rfl, rfl⟩) | (go_at_call 48; refine (row_any (twin p) _ (unhide H)).mono ?_; rintro e w' ⟨rfl, hb⟩))
    go_ret
    exact ⟨ret_int (by unfold dg; rw [if_neg (unhide HC)]), hb.alloc hb.size _⟩
theorem spcI (p : Int) (w : World) (ht : TabAt w) : Calls Tryz.prog 86 #[.int .i64 p] w fun e w' => e = .returned (.bool (catI p == 2)) ∧ Below w.heap.size w w' := by
  have C := hide (implCat p w ht)
  clear ht
  generalize catI p = c at *
  go_enter Tryz.func86, Tryz.ntmps86
  go_wp2_with (go_at_call 46; refine (unhide C).mono ?_; rintro e w1 ⟨rfl, hb1⟩)
  go_ret
  exact ⟨rfl, hb1⟩
set_option maxRecDepth 100000 in
theorem lkI_a (p t d c : Int) (w : World) (hp0 : 0 ≤ p) (hp1 : p ≤ 1114111) (ht0 : 0 ≤ t) (ht1 : t ≤ 1114111) (hd0 : -1 ≤ d) (hd1 : d ≤ 9)
    (CT : Hid (∀ W, Calls Tryz.prog 47 #[.int .i64 p] W fun e w' => e = .returned (.int .i64 t) ∧ w' = W)) (CD : Hid (Calls Tryz.prog 85 #[.int .i64 p] w fun e w' => e = .returned (.int .i64 d) ∧ Below w.heap.size w w')) (CS : Hid (∀ W, Below w.heap.size w W → Calls Tryz.prog 86 #[.int .i64 p] W fun e w' => e = .returned (.bool (c == 2)) ∧ Below W.heap.size W w'))
    (h1 : 512 ≤ t ∧ t ≤ 517) :
    Calls Tryz.prog 63 #[.int .i64 p] w fun e w' => e = .returned (.int .i64 (65 + t - 512)) ∧ Below w.heap.size w w' := by
  have hU : undef = Value.tuple #[] := rfl
  have TOK : True := trivial
  go_enter Tryz.func63, Tryz.ntmps63
  go_wp2_with (first
    | (go_at_call 47; refine ((unhide CT) _).mono ?_; rintro e w' ⟨rfl, hw⟩; obtain rfl := hw.symm; clear hw)
    | (go_at_call 85; refine (unhide CD).mono ?_; rintro e w1 ⟨rfl, hb1⟩; have B1 := hide hb1; clear hb1)
    | (clear TOK; go_at_call 84; refine (within_t _ _ _ _ h1).mono ?_; rintro e w' ⟨rfl, hw⟩; obtain rfl := hw.symm; clear hw)
    | (go_at_call 86; refine ((unhide CS) _ (unhide B1)).mono ?_; rintro e w2 ⟨rfl, hb2⟩; have B2 := hide (j2 (unhide B1) hb2); clear hb2))
  go_ret
  exact ⟨rfl, unhide B1⟩
set_option maxRecDepth 100000 in
theorem lkI_b (p t d c : Int) (w : World) (hp0 : 0 ≤ p) (hp1 : p ≤ 1114111) (ht0 : 0 ≤ t) (ht1 : t ≤ 1114111) (hd0 : -1 ≤ d) (hd1 : d ≤ 9)
    (CT : Hid (∀ W, Calls Tryz.prog 47 #[.int .i64 p] W fun e w' => e = .returned (.int .i64 t) ∧ w' = W)) (CD : Hid (Calls Tryz.prog 85 #[.int .i64 p] w fun e w' => e = .returned (.int .i64 d) ∧ Below w.heap.size w w')) (CS : Hid (∀ W, Below w.heap.size w W → Calls Tryz.prog 86 #[.int .i64 p] W fun e w' => e = .returned (.bool (c == 2)) ∧ Below W.heap.size W w'))
    (h1 : ¬ (512 ≤ t ∧ t ≤ 517))
    (h2 : 544 ≤ t ∧ t ≤ 549) :
    Calls Tryz.prog 63 #[.int .i64 p] w fun e w' => e = .returned (.int .i64 (97 + t - 544)) ∧ Below w.heap.size w w' := by
  have hU : undef = Value.tuple #[] := rfl
  have TOK : True := trivial
  go_enter Tryz.func63, Tryz.ntmps63
  go_wp2_with (first
    | (go_at_call 47; refine ((unhide CT) _).mono ?_; rintro e w' ⟨rfl, hw⟩; obtain rfl := hw.symm; clear hw)
    | (go_at_call 85; refine (unhide CD).mono ?_; rintro e w1 ⟨rfl, hb1⟩; have B1 := hide hb1; clear hb1)
    | (clear TOK; go_at_call 84; refine (within_f _ _ _ _ h1).mono ?_; rintro e w' ⟨rfl, hw⟩; obtain rfl := hw.symm; clear hw)
    | (go_at_call 84; refine (within_t _ _ _ _ h2).mono ?_; rintro e w' ⟨rfl, hw⟩; obtain rfl := hw.symm; clear hw)
    | (go_at_call 86; refine ((unhide CS) _ (unhide B1)).mono ?_; rintro e w2 ⟨rfl, hb2⟩; have B2 := hide (j2 (unhide B1) hb2); clear hb2))
  go_ret
  exact ⟨rfl, unhide B1⟩
set_option maxRecDepth 100000 in
theorem lkI_c (p t d c : Int) (w : World) (hp0 : 0 ≤ p) (hp1 : p ≤ 1114111) (ht0 : 0 ≤ t) (ht1 : t ≤ 1114111) (hd0 : -1 ≤ d) (hd1 : d ≤ 9)
    (CT : Hid (∀ W, Calls Tryz.prog 47 #[.int .i64 p] W fun e w' => e = .returned (.int .i64 t) ∧ w' = W)) (CD : Hid (Calls Tryz.prog 85 #[.int .i64 p] w fun e w' => e = .returned (.int .i64 d) ∧ Below w.heap.size w w')) (CS : Hid (∀ W, Below w.heap.size w W → Calls Tryz.prog 86 #[.int .i64 p] W fun e w' => e = .returned (.bool (c == 2)) ∧ Below W.heap.size W w'))
    (h1 : ¬ (512 ≤ t ∧ t ≤ 517))
    (h2 : ¬ (544 ≤ t ∧ t ≤ 549))
    (h3 : (t == 609) = true) :
    Calls Tryz.prog 63 #[.int .i64 p] w fun e w' => e = .returned (.int .i64 (102)) ∧ Below w.heap.size w w' := by
  have hU : undef = Value.tuple #[] := rfl
  have TOK : True := trivial
  go_enter Tryz.func63, Tryz.ntmps63
  go_wp2_with (first
    | (go_at_call 47; refine ((unhide CT) _).mono ?_; rintro e w' ⟨rfl, hw⟩; obtain rfl := hw.symm; clear hw)
    | (go_at_call 85; refine (unhide CD).mono ?_; rintro e w1 ⟨rfl, hb1⟩; have B1 := hide hb1; clear hb1)
    | (clear TOK; go_at_call 84; refine (within_f _ _ _ _ h1).mono ?_; rintro e w' ⟨rfl, hw⟩; obtain rfl := hw.symm; clear hw)
    | (go_at_call 84; refine (within_f _ _ _ _ h2).mono ?_; rintro e w' ⟨rfl, hw⟩; obtain rfl := hw.symm; clear hw)
    | (go_at_call 86; refine ((unhide CS) _ (unhide B1)).mono ?_; rintro e w2 ⟨rfl, hb2⟩; have B2 := hide (j2 (unhide B1) hb2); clear hb2))
  go_ret
  exact ⟨rfl, unhide B1⟩
set_option maxRecDepth 100000 in
theorem lkI_d (p t d c : Int) (w : World) (hp0 : 0 ≤ p) (hp1 : p ≤ 1114111) (ht0 : 0 ≤ t) (ht1 : t ≤ 1114111) (hd0 : -1 ≤ d) (hd1 : d ≤ 9)
    (CT : Hid (∀ W, Calls Tryz.prog 47 #[.int .i64 p] W fun e w' => e = .returned (.int .i64 t) ∧ w' = W)) (CD : Hid (Calls Tryz.prog 85 #[.int .i64 p] w fun e w' => e = .returned (.int .i64 d) ∧ Below w.heap.size w w')) (CS : Hid (∀ W, Below w.heap.size w W → Calls Tryz.prog 86 #[.int .i64 p] W fun e w' => e = .returned (.bool (c == 2)) ∧ Below W.heap.size W w'))
    (h1 : ¬ (512 ≤ t ∧ t ≤ 517))
    (h2 : ¬ (544 ≤ t ∧ t ≤ 549))
    (h3 : (t == 609) = false)
    (h4 : (p == 1280) = true) :
    Calls Tryz.prog 63 #[.int .i64 p] w fun e w' => e = .returned (.int .i64 (111)) ∧ Below w.heap.size w w' := by
  have hU : undef = Value.tuple #[] := rfl
  have TOK : True := trivial
  go_enter Tryz.func63, Tryz.ntmps63
  go_wp2_with (first
    | (go_at_call 47; refine ((unhide CT) _).mono ?_; rintro e w' ⟨rfl, hw⟩; obtain rfl := hw.symm; clear hw)
    | (go_at_call 85; refine (unhide CD).mono ?_; rintro e w1 ⟨rfl, hb1⟩; have B1 := hide hb1; clear hb1)
    | (clear TOK; go_at_call 84; refine (within_f _ _ _ _ h1).mono ?_; rintro e w' ⟨rfl, hw⟩; obtain rfl := hw.symm; clear hw)
    | (go_at_call 84; refine (within_f _ _ _ _ h2).mono ?_; rintro e w' ⟨rfl, hw⟩; obtain rfl := hw.symm; clear hw)
    | (go_at_call 86; refine ((unhide CS) _ (unhide B1)).mono ?_; rintro e w2 ⟨rfl, hb2⟩; have B2 := hide (j2 (unhide B1) hb2); clear hb2))
  go_ret
  exact ⟨rfl, unhide B1⟩
set_option maxRecDepth 100000 in
theorem lkI_e (p t d c : Int) (w : World) (hp0 : 0 ≤ p) (hp1 : p ≤ 1114111) (ht0 : 0 ≤ t) (ht1 : t ≤ 1114111) (hd0 : -1 ≤ d) (hd1 : d ≤ 9)
    (CT : Hid (∀ W, Calls Tryz.prog 47 #[.int .i64 p] W fun e w' => e = .returned (.int .i64 t) ∧ w' = W)) (CD : Hid (Calls Tryz.prog 85 #[.int .i64 p] w fun e w' => e = .returned (.int .i64 d) ∧ Below w.heap.size w w')) (CS : Hid (∀ W, Below w.heap.size w W → Calls Tryz.prog 86 #[.int .i64 p] W fun e w' => e = .returned (.bool (c == 2)) ∧ Below W.heap.size W w'))
    (h1 : ¬ (512 ≤ t ∧ t ≤ 517))
    (h2 : ¬ (544 ≤ t ∧ t ≤ 549))
    (h3 : (t == 609) = false)
    (h4 : (p == 1280) = false)
    (h5 : (d == 0) = true) :
    Calls Tryz.prog 63 #[.int .i64 p] w fun e w' => e = .returned (.int .i64 (111)) ∧ Below w.heap.size w w' := by
  have hU : undef = Value.tuple #[] := rfl
  have TOK : True := trivial
  go_enter Tryz.func63, Tryz.ntmps63
  go_wp2_with (first
    | (go_at_call 47; refine ((unhide CT) _).mono ?_; rintro e w' ⟨rfl, hw⟩; obtain rfl := hw.symm; clear hw)
    | (go_at_call 85; refine (unhide CD).mono ?_; rintro e w1 ⟨rfl, hb1⟩; have B1 := hide hb1; clear hb1)
    | (clear TOK; go_at_call 84; refine (within_f _ _ _ _ h1).mono ?_; rintro e w' ⟨rfl, hw⟩; obtain rfl := hw.symm; clear hw)
    | (go_at_call 84; refine (within_f _ _ _ _ h2).mono ?_; rintro e w' ⟨rfl, hw⟩; obtain rfl := hw.symm; clear hw)
    | (go_at_call 86; refine ((unhide CS) _ (unhide B1)).mono ?_; rintro e w2 ⟨rfl, hb2⟩; have B2 := hide (j2 (unhide B1) hb2); clear hb2))
  go_ret
  exact ⟨rfl, unhide B1⟩
set_option maxRecDepth 100000 in
theorem lkI_f (p t d c : Int) (w : World) (hp0 : 0 ≤ p) (hp1 : p ≤ 1114111) (ht0 : 0 ≤ t) (ht1 : t ≤ 1114111) (hd0 : -1 ≤ d) (hd1 : d ≤ 9)
    (CT : Hid (∀ W, Calls Tryz.prog 47 #[.int .i64 p] W fun e w' => e = .returned (.int .i64 t) ∧ w' = W)) (CD : Hid (Calls Tryz.prog 85 #[.int .i64 p] w fun e w' => e = .returned (.int .i64 d) ∧ Below w.heap.size w w')) (CS : Hid (∀ W, Below w.heap.size w W → Calls Tryz.prog 86 #[.int .i64 p] W fun e w' => e = .returned (.bool (c == 2)) ∧ Below W.heap.size W w'))
    (h1 : ¬ (512 ≤ t ∧ t ≤ 517))
    (h2 : ¬ (544 ≤ t ∧ t ≤ 549))
    (h3 : (t == 609) = false)
    (h4 : (p == 1280) = false)
    (h5 : (d == 0) = false)
    (h6 : (p == 73) = true) :
    Calls Tryz.prog 63 #[.int .i64 p] w fun e w' => e = .returned (.int .i64 (108)) ∧ Below w.heap.size w w' := by
  have hU : undef = Value.tuple #[] := rfl
  have TOK : True := trivial
  go_enter Tryz.func63, Tryz.ntmps63
  go_wp2_with (first
    | (go_at_call 47; refine ((unhide CT) _).mono ?_; rintro e w' ⟨rfl, hw⟩; obtain rfl := hw.symm; clear hw)
    | (go_at_call 85; refine (unhide CD).mono ?_; rintro e w1 ⟨rfl, hb1⟩; have B1 := hide hb1; clear hb1)
    | (clear TOK; go_at_call 84; refine (within_f _ _ _ _ h1).mono ?_; rintro e w' ⟨rfl, hw⟩; obtain rfl := hw.symm; clear hw)
    | (go_at_call 84; refine (within_f _ _ _ _ h2).mono ?_; rintro e w' ⟨rfl, hw⟩; obtain rfl := hw.symm; clear hw)
    | (go_at_call 86; refine ((unhide CS) _ (unhide B1)).mono ?_; rintro e w2 ⟨rfl, hb2⟩; have B2 := hide (j2 (unhide B1) hb2); clear hb2))
  go_ret
  exact ⟨rfl, unhide B1⟩
set_option maxRecDepth 100000 in
theorem lkI_g (p t d c : Int) (w : World) (hp0 : 0 ≤ p) (hp1 : p ≤ 1114111) (ht0 : 0 ≤ t) (ht1 : t ≤ 1114111) (hd0 : -1 ≤ d) (hd1 : d ≤ 9)
    (CT : Hid (∀ W, Calls Tryz.prog 47 #[.int .i64 p] W fun e w' => e = .returned (.int .i64 t) ∧ w' = W)) (CD : Hid (Calls Tryz.prog 85 #[.int .i64 p] w fun e w' => e = .returned (.int .i64 d) ∧ Below w.heap.size w w')) (CS : Hid (∀ W, Below w.heap.size w W → Calls Tryz.prog 86 #[.int .i64 p] W fun e w' => e = .returned (.bool (c == 2)) ∧ Below W.heap.size W w'))
    (h1 : ¬ (512 ≤ t ∧ t ≤ 517))
    (h2 : ¬ (544 ≤ t ∧ t ≤ 549))
    (h3 : (t == 609) = false)
    (h4 : (p == 1280) = false)
    (h5 : (d == 0) = false)
    (h6 : (p == 73) = false)
    (h7 : (p == 1281) = true) :
    Calls Tryz.prog 63 #[.int .i64 p] w fun e w' => e = .returned (.int .i64 (108)) ∧ Below w.heap.size w w' := by
  have hU : undef = Value.tuple #[] := rfl
  have TOK : True := trivial
  go_enter Tryz.func63, Tryz.ntmps63
  go_wp2_with (first
    | (go_at_call 47; refine ((unhide CT) _).mono ?_; rintro e w' ⟨rfl, hw⟩; obtain rfl := hw.symm; clear hw)
    | (go_at_call 85; refine (unhide CD).mono ?_; rintro e w1 ⟨rfl, hb1⟩; have B1 := hide hb1; clear hb1)
    | (clear TOK; go_at_call 84; refine (within_f _ _ _ _ h1).mono ?_; rintro e w' ⟨rfl, hw⟩; obtain rfl := hw.symm; clear hw)
    | (go_at_call 84; refine (within_f _ _ _ _ h2).mono ?_; rintro e w' ⟨rfl, hw⟩; obtain rfl := hw.symm; clear hw)
    | (go_at_call 86; refine ((unhide CS) _ (unhide B1)).mono ?_; rintro e w2 ⟨rfl, hb2⟩; have B2 := hide (j2 (unhide B1) hb2); clear hb2))
  go_ret
  exact ⟨rfl, unhide B1⟩
set_option maxRecDepth 100000 in
theorem lkI_h (p t d c : Int) (w : World) (hp0 : 0 ≤ p) (hp1 : p ≤ 1114111) (ht0 : 0 ≤ t) (ht1 : t ≤ 1114111) (hd0 : -1 ≤ d) (hd1 : d ≤ 9)
    (CT : Hid (∀ W, Calls Tryz.prog 47 #[.int .i64 p] W fun e w' => e = .returned (.int .i64 t) ∧ w' = W)) (CD : Hid (Calls Tryz.prog 85 #[.int .i64 p] w fun e w' => e = .returned (.int .i64 d) ∧ Below w.heap.size w w')) (CS : Hid (∀ W, Below w.heap.size w W → Calls Tryz.prog 86 #[.int .i64 p] W fun e w' => e = .returned (.bool (c == 2)) ∧ Below W.heap.size W w'))
    (h1 : ¬ (512 ≤ t ∧ t ≤ 517))
    (h2 : ¬ (544 ≤ t ∧ t ≤ 549))
    (h3 : (t == 609) = false)
    (h4 : (p == 1280) = false)
    (h5 : (d == 0) = false)
    (h6 : (p == 73) = false)
    (h7 : (p == 1281) = false)
    (h8 : (d == 1) = true) :
    Calls Tryz.prog 63 #[.int .i64 p] w fun e w' => e = .returned (.int .i64 (108)) ∧ Below w.heap.size w w' := by
  have hU : undef = Value.tuple #[] := rfl
  have TOK : True := trivial
  go_enter Tryz.func63, Tryz.ntmps63
  go_wp2_with (first
    | (go_at_call 47; refine ((unhide CT) _).mono ?_; rintro e w' ⟨rfl, hw⟩; obtain rfl := hw.symm; clear hw)
    | (go_at_call 85; refine (unhide CD).mono ?_; rintro e w1 ⟨rfl, hb1⟩; have B1 := hide hb1; clear hb1)
    | (clear TOK; go_at_call 84; refine (within_f _ _ _ _ h1).mono ?_; rintro e w' ⟨rfl, hw⟩; obtain rfl := hw.symm; clear hw)
    | (go_at_call 84; refine (within_f _ _ _ _ h2).mono ?_; rintro e w' ⟨rfl, hw⟩; obtain rfl := hw.symm; clear hw)
    | (go_at_call 86; refine ((unhide CS) _ (unhide B1)).mono ?_; rintro e w2 ⟨rfl, hb2⟩; have B2 := hide (j2 (unhide B1) hb2); clear hb2))
  go_ret
  exact ⟨rfl, unhide B1⟩
set_option maxRecDepth 100000 in
theorem lkI_i (p t d c : Int) (w : World) (hp0 : 0 ≤ p) (hp1 : p ≤ 1114111) (ht0 : 0 ≤ t) (ht1 : t ≤ 1114111) (hd0 : -1 ≤ d) (hd1 : d ≤ 9)
    (CT : Hid (∀ W, Calls Tryz.prog 47 #[.int .i64 p] W fun e w' => e = .returned (.int .i64 t) ∧ w' = W)) (CD : Hid (Calls Tryz.prog 85 #[.int .i64 p] w fun e w' => e = .returned (.int .i64 d) ∧ Below w.heap.size w w')) (CS : Hid (∀ W, Below w.heap.size w W → Calls Tryz.prog 86 #[.int .i64 p] W fun e w' => e = .returned (.bool (c == 2)) ∧ Below W.heap.size W w'))
    (h1 : ¬ (512 ≤ t ∧ t ≤ 517))
    (h2 : ¬ (544 ≤ t ∧ t ≤ 549))
    (h3 : (t == 609) = false)
    (h4 : (p == 1280) = false)
    (h5 : (d == 0) = false)
    (h6 : (p == 73) = false)
    (h7 : (p == 1281) = false)
    (h8 : (d == 1) = false)
    (h9 : 1 < d) :
    Calls Tryz.prog 63 #[.int .i64 p] w fun e w' => e = .returned (.int .i64 (48 + d)) ∧ Below w.heap.size w w' := by
  have hU : undef = Value.tuple #[] := rfl
  have TOK : True := trivial
  go_enter Tryz.func63, Tryz.ntmps63
  go_wp2_with (first
    | (go_at_call 47; refine ((unhide CT) _).mono ?_; rintro e w' ⟨rfl, hw⟩; obtain rfl := hw.symm; clear hw)
    | (go_at_call 85; refine (unhide CD).mono ?_; rintro e w1 ⟨rfl, hb1⟩; have B1 := hide hb1; clear hb1)
    | (clear TOK; go_at_call 84; refine (within_f _ _ _ _ h1).mono ?_; rintro e w' ⟨rfl, hw⟩; obtain rfl := hw.symm; clear hw)
    | (go_at_call 84; refine (within_f _ _ _ _ h2).mono ?_; rintro e w' ⟨rfl, hw⟩; obtain rfl := hw.symm; clear hw)
    | (go_at_call 86; refine ((unhide CS) _ (unhide B1)).mono ?_; rintro e w2 ⟨rfl, hb2⟩; have B2 := hide (j2 (unhide B1) hb2); clear hb2))
  go_ret
  exact ⟨rfl, unhide B1⟩
set_option maxRecDepth 100000 in
theorem lkI_j (p t d c : Int) (w : World) (hp0 : 0 ≤ p) (hp1 : p ≤ 1114111) (ht0 : 0 ≤ t) (ht1 : t ≤ 1114111) (hd0 : -1 ≤ d) (hd1 : d ≤ 9)
    (CT : Hid (∀ W, Calls Tryz.prog 47 #[.int .i64 p] W fun e w' => e = .returned (.int .i64 t) ∧ w' = W)) (CD : Hid (Calls Tryz.prog 85 #[.int .i64 p] w fun e w' => e = .returned (.int .i64 d) ∧ Below w.heap.size w w')) (CS : Hid (∀ W, Below w.heap.size w W → Calls Tryz.prog 86 #[.int .i64 p] W fun e w' => e = .returned (.bool (c == 2)) ∧ Below W.heap.size W w'))
    (h1 : ¬ (512 ≤ t ∧ t ≤ 517))
    (h2 : ¬ (544 ≤ t ∧ t ≤ 549))
    (h3 : (t == 609) = false)
    (h4 : (p == 1280) = false)
    (h5 : (d == 0) = false)
    (h6 : (p == 73) = false)
    (h7 : (p == 1281) = false)
    (h8 : (d == 1) = false)
    (h9 : ¬ 1 < d)
    (hc : (c == 2) = true) :
    Calls Tryz.prog 63 #[.int .i64 p] w fun e w' => e = .returned (.int .i64 (32)) ∧ Below w.heap.size w w' := by
  have hU : undef = Value.tuple #[] := rfl
  have TOK : True := trivial
  rw [hc] at CS
  clear hc
  go_enter Tryz.func63, Tryz.ntmps63
  go_wp2_with (first
    | (go_at_call 47; refine ((unhide CT) _).mono ?_; rintro e w' ⟨rfl, hw⟩; obtain rfl := hw.symm; clear hw)
    | (go_at_call 85; refine (unhide CD).mono ?_; rintro e w1 ⟨rfl, hb1⟩; have B1 := hide hb1; clear hb1)
    | (clear TOK; go_at_call 84; refine (within_f _ _ _ _ h1).mono ?_; rintro e w' ⟨rfl, hw⟩; obtain rfl := hw.symm; clear hw)
    | (go_at_call 84; refine (within_f _ _ _ _ h2).mono ?_; rintro e w' ⟨rfl, hw⟩; obtain rfl := hw.symm; clear hw)
    | (go_at_call 86; refine ((unhide CS) _ (unhide B1)).mono ?_; rintro e w2 ⟨rfl, hb2⟩; have B2 := hide (j2 (unhide B1) hb2); clear hb2))
  go_ret
  exact ⟨rfl, unhide B2⟩
set_option maxRecDepth 100000 in
theorem lkI_k (p t d c : Int) (w : World) (hp0 : 0 ≤ p) (hp1 : p ≤ 1114111) (ht0 : 0 ≤ t) (ht1 : t ≤ 1114111) (hd0 : -1 ≤ d) (hd1 : d ≤ 9)
    (CT : Hid (∀ W, Calls Tryz.prog 47 #[.int .i64 p] W fun e w' => e = .returned (.int .i64 t) ∧ w' = W)) (CD : Hid (Calls Tryz.prog 85 #[.int .i64 p] w fun e w' => e = .returned (.int .i64 d) ∧ Below w.heap.size w w')) (CS : Hid (∀ W, Below w.heap.size w W → Calls Tryz.prog 86 #[.int .i64 p] W fun e w' => e = .returned (.bool (c == 2)) ∧ Below W.heap.size W w'))
    (h1 : ¬ (512 ≤ t ∧ t ≤ 517))
    (h2 : ¬ (544 ≤ t ∧ t ≤ 549))
    (h3 : (t == 609) = false)
    (h4 : (p == 1280) = false)
    (h5 : (d == 0) = false)
    (h6 : (p == 73) = false)
    (h7 : (p == 1281) = false)
    (h8 : (d == 1) = false)
    (h9 : ¬ 1 < d)
    (hc : (c == 2) = false) :
    Calls Tryz.prog 63 #[.int .i64 p] w fun e w' => e = .returned (.int .i64 (p)) ∧ Below w.heap.size w w' := by
  have hU : undef = Value.tuple #[] := rfl
  have TOK : True := trivial
  rw [hc] at CS
  clear hc
  go_enter Tryz.func63, Tryz.ntmps63
  go_wp2_with (first
    | (go_at_call 47; refine ((unhide CT) _).mono ?_; rintro e w' ⟨rfl, hw⟩; obtain rfl := hw.symm; clear hw)
    | (go_at_call 85; refine (unhide CD).mono ?_; rintro e w1 ⟨rfl, hb1⟩; have B1 := hide hb1; clear hb1)
    | (clear TOK; go_at_call 84; refine (within_f _ _ _ _ h1).mono ?_; rintro e w' ⟨rfl, hw⟩; obtain rfl := hw.symm; clear hw)
    | (go_at_call 84; refine (within_f _ _ _ _ h2).mono ?_; rintro e w' ⟨rfl, hw⟩; obtain rfl := hw.symm; clear hw)
    | (go_at_call 86; refine ((unhide CS) _ (unhide B1)).mono ?_; rintro e w2 ⟨rfl, hb2⟩; have B2 := hide (j2 (unhide B1) hb2); clear hb2))
  go_ret
  exact ⟨rfl, unhide B2⟩
theorem bf {a b : Int} (h : ¬ a = b) : (a == b) = false := by rw [beq_eq_false_iff_ne]; exact h
theorem bt' {a b : Int} (h : a = b) : (a == b) = true := by rw [beq_iff_eq]; exact h
theorem tw_bd (p : Int) (h : 0 ≤ p ∧ p ≤ 1114111) : 0 ≤ twin p ∧ twin p ≤ 1114111 := by unfold twin; split <;> omega
/-- lookOf. -/
theorem lookI (p : Int) (w : World) (hp : 0 ≤ p ∧ p ≤ 1114111) (ht : TabAt w) : Calls Tryz.prog 63 #[.int .i64 p] w fun e w' => e = .returned (.int .i64 (lk p)) ∧ Below w.heap.size w w' := by
  have CT := hide (fun W => twin_any p W)
  have CD := hide (digI p w ht)
  have CS := hide (fun W (h : Below w.heap.size w W) => spcI p W (ht.below h))
  have hd := dg_bd p
  have htw := tw_bd p hp
  have HL : lk p = _ := rfl
  unfold lk at HL ⊢
  clear HL
  generalize twin p = t at *
  generalize dg p = d at *
  generalize catI p = c at *
  by_cases h1 : 512 ≤ t ∧ t ≤ 517
  · rw [if_pos h1]; exact lkI_a p t d c w hp.1 hp.2 htw.1 htw.2 hd.1 hd.2 CT CD CS h1
  rw [if_neg h1]
  by_cases h2 : 544 ≤ t ∧ t ≤ 549
  · rw [if_pos h2]; exact lkI_b p t d c w hp.1 hp.2 htw.1 htw.2 hd.1 hd.2 CT CD CS h1 h2
  rw [if_neg h2]
  by_cases h3 : t = 609
  · rw [if_pos h3]; exact lkI_c p t d c w hp.1 hp.2 htw.1 htw.2 hd.1 hd.2 CT CD CS h1 h2 (bt' h3)
  rw [if_neg h3]
  by_cases h4 : p = 1280
  · rw [if_pos (.inl h4)]; exact lkI_d p t d c w hp.1 hp.2 htw.1 htw.2 hd.1 hd.2 CT CD CS h1 h2 (bf h3) (bt' h4)
  by_cases h5 : d = 0
  · rw [if_pos (.inr h5)]; exact lkI_e p t d c w hp.1 hp.2 htw.1 htw.2 hd.1 hd.2 CT CD CS h1 h2 (bf h3) (bf h4) (bt' h5)
  rw [if_neg (by rintro (h | h); exact h4 h; exact h5 h)]
  by_cases h6 : p = 73
  · rw [if_pos (.inl (.inl h6))]; exact lkI_f p t d c w hp.1 hp.2 htw.1 htw.2 hd.1 hd.2 CT CD CS h1 h2 (bf h3) (bf h4) (bf h5) (bt' h6)
  by_cases h7 : p = 1281
  · rw [if_pos (.inl (.inr h7))]; exact lkI_g p t d c w hp.1 hp.2 htw.1 htw.2 hd.1 hd.2 CT CD CS h1 h2 (bf h3) (bf h4) (bf h5) (bf h6) (bt' h7)
  by_cases h8 : d = 1
  · rw [if_pos (.inr h8)]; exact lkI_h p t d c w hp.1 hp.2 htw.1 htw.2 hd.1 hd.2 CT CD CS h1 h2 (bf h3) (bf h4) (bf h5) (bf h6) (bf h7) (bt' h8)
  rw [if_neg (by rintro ((h | h) | h); exact h6 h; exact h7 h; exact h8 h)]
  by_cases h9 : 1 < d
  · rw [if_pos h9]; exact lkI_i p t d c w hp.1 hp.2 htw.1 htw.2 hd.1 hd.2 CT CD CS h1 h2 (bf h3) (bf h4) (bf h5) (bf h6) (bf h7) (bf h8) h9
  rw [if_neg h9]
  by_cases hc : c = 2
  · rw [if_pos hc]; exact lkI_j p t d c w hp.1 hp.2 htw.1 htw.2 hd.1 hd.2 CT CD CS h1 h2 (bf h3) (bf h4) (bf h5) (bf h6) (bf h7) (bf h8) h9 (bt' hc)
  · rw [if_neg hc]; exact lkI_k p t d c w hp.1 hp.2 htw.1 htw.2 hd.1 hd.2 CT CD CS h1 h2 (bf h3) (bf h4) (bf h5) (bf h6) (bf h7) (bf h8) h9 (bf hc)
end Go.Proofs.YtjdginjohajmaaaGreatDoor.Ske
