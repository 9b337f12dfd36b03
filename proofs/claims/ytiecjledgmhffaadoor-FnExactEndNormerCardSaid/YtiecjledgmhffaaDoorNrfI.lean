/- NormerFault of the program, and the law. -/
import Derived.Test.YtiecjledgmhffaaDoorNrfS
import Derived.Test.YtiecjledgmhffaaDoorShelf
namespace Go.Proofs.YtiecjledgmhffaaDoor
open Go.RowKit
set_option maxHeartbeats 2000000 in
set_option maxRecDepth 100000 in
theorem nfI_go (f : Int) (s : ByteArray) (w : World) (hf : isF f = true) (hs : s.size ≤ 1000) (hT : Lib.Utf8Tabs (Tryd.laysValid_ren.g 3) (Tryd.laysValid_ren.g 4) w) :
    Calls Tryd.prog 12 #[.agg #[.int .i64 f, .string s]] w fun e w' => e = .returned (.int .i64 (nfOut f s)) ∧ Below w.heap.size w w' := by
  have mixed := mixedO
  have CF := hide (fun W => isFormI f W)
  have cV : Calls Tryd.prog 25 #[.string s] (w.alloc (.cells #[.int .i64 f, .string s] 28)) _ := Any.utf8_ValidString Tryd.laysValid s (w.alloc (.cells #[.int .i64 f, .string s] 28)) (by omega) (Utf8Tabs_below hT (one_below _ _))
  have hvb : Lib.validD s.data.toList = vB s := rfl
  rw [hvb] at cV
  have CV := hide cV
  rw [hf] at CF
  clear cV hvb hT
  cases hv : vB s with
  | false =>
    have HR := hide (nf_bad (f := f) (s := s) (.inr (.inr (.inl hv))))
    rw [hv] at CV
    clear hf hv
    go_enter Tryd.func12, Tryd.ntmps12
    go_wp2_with (first | (go_at_call 24; refine ((unhide CF) _).mono ?_; rintro e w1 ⟨rfl, hw1⟩; replace hw1 := hw1.symm; subst hw1) | (go_at_call 25; refine (unhide CV).mono ?_; rintro e w2 ⟨rfl, hb2⟩))
    go_ret
    exact ⟨ret_int (unhide HR).symm, (one_below w _).trans (hb2.mono (by simp))⟩
  | true =>
    rw [hv] at CV
    have HBad := hide (fun h => nf_bad (f := f) (s := s) (.inr (.inr (.inr h))))
    have HGood := hide (fun h => nf_good hf hs hv h)
    have C1 := hide (fun W => implPoints s W (by omega))
    have hpl := pts_le s
    have hk : isK f = true ↔ f = 3 ∨ f = 4 := by simp [isK]
    have CL := hide (fun (W : World) (B : Nat) (v : Value) (ho : W.ownsRow B 2 1 v (pts s).length ((pts s).map (Value.int .i64))) => lastSafeI f (isK f) hk B _ v (pts s) W ho (by omega))
    clear hf hv hk hpl
    generalize lastTo (isK f) (pts s) (pts s).length = z at *
    generalize nfOut f s = R at *
    generalize pts s = X at *
    go_enter Tryd.func12, Tryd.ntmps12
    go_wp2_with (first | (go_at_call 24; refine ((unhide CF) _).mono ?_; rintro e w1 ⟨rfl, hw1⟩; replace hw1 := hw1.symm; subst hw1) | (go_at_call 25; refine (unhide CV).mono ?_; rintro e w2 ⟨rfl, hb2⟩; have f0 := hb2.cell (p := ⟨w.heap.size, 0, none⟩) (by simp); have f1 := hb2.cell (p := ⟨w.heap.size, 1, none⟩) (by simp); have B2 := hide ((one_below w (.cells #[.int .i64 f, .string s] 28)).trans (hb2.mono (by simp))); clear hb2; simp at f0 f1) | fail)
    have hfl := block_lt_of_cell f0
    have hb0 := (unhide B2).size
    have hz : (0 < z ∧ R = 1) ∨ (¬ 0 < z ∧ R = 0) := by
      by_cases h : 0 < z
      · exact .inl ⟨h, (unhide HBad) h⟩
      · exact .inr ⟨h, (unhide HGood) (by omega)⟩
    clear HBad HGood CF CV
    rcases hz with ⟨hz, hr⟩ | ⟨hz, hr⟩
    all_goals
      have HR := hide hr
      clear hr
      go_upto_region 3 with fail
      go_region_law (first
        | (refine step_call rfl 26 #[.tmp 22] #[9] rfl #[.string s] (by simp [Act.eval]) (by kernel_rfl) (((unhide C1) _).mono ?_); rintro e w3 ⟨v, rfl, ho3, hb3⟩; have q0 := (hb3.cell (p := ⟨w.heap.size, 0, none⟩) hfl).trans f0; have O3 := hide ho3; have B3 := hide ((bdrew (unhide B2) _).trans (hb3.mono (unhide B2).size)); clear ho3 hb3; refine ⟨_, rfl, ?_⟩)
        | (refine step_call rfl 34 #[.tmp 20, .tmp 23] #[2, 41] rfl #[.int .i64 f, v] (by simp [Act.eval]) (by kernel_rfl) (((unhide CL) _ _ _ (unhide O3)).mono ?_); rintro e w4 ⟨rfl, hb4⟩; have B4 := hide ((unhide B3).trans (hb4.mono (unhide B3).size)); clear hb4; refine ⟨_, rfl, ?_⟩))
      all_goals
        go_wp2
        go_ret
        exact ⟨ret_int (unhide HR).symm, unhide B4⟩
set_option maxRecDepth 100000 in
theorem implNF (f : Int) (s : ByteArray) (w : World) (hT : Lib.Utf8Tabs (Tryd.laysValid_ren.g 3) (Tryd.laysValid_ren.g 4) w) :
    Calls Tryd.prog 12 #[.agg #[.int .i64 f, .string s]] w fun e w' => e = .returned (.int .i64 (nfOut f s)) ∧ Below w.heap.size w w' := by
  have CF := hide (fun W => isFormI f W)
  cases hf : isF f with
  | false =>
    have HR := hide (nf_bad (f := f) (s := s) (.inl hf))
    rw [hf] at CF
    clear hf hT
    go_enter Tryd.func12, Tryd.ntmps12
    go_wp2_with (go_at_call 24; refine ((unhide CF) _).mono ?_; rintro e w1 ⟨rfl, hw1⟩; replace hw1 := hw1.symm; subst hw1)
    go_ret
    exact ⟨ret_int (unhide HR).symm, one_below _ _⟩
  | true =>
    by_cases hs : 1000 < s.size
    · have HR := hide (nf_bad (f := f) (s := s) (.inr (.inl hs)))
      have hs' : (1000 : Int) < (s.size : Int) := by omega
      rw [hf] at CF
      clear hf hT
      go_enter Tryd.func12, Tryd.ntmps12
      go_wp2_with (go_at_call 24; refine ((unhide CF) _).mono ?_; rintro e w1 ⟨rfl, hw1⟩; replace hw1 := hw1.symm; subst hw1)
      go_ret
      exact ⟨ret_int (unhide HR).symm, one_below _ _⟩
    · exact nfI_go f s w hf (by omega) hT
theorem szN (f : Int) (s : ByteArray) (w : World) (hs : s.size ≤ 1048576) : Calls Tryd.prog 9 #[.agg #[.int .i64 f, .string s], .int .i64 1048576] w fun e w' => e = .returned (.int .i64 (1048576 - (s.size : Int))) ∧ Below w.heap.size w w' := by
  go_enter Tryd.func9, Tryd.ntmps9
  go_wp2
  go_ret
  exact ⟨rfl, one_below _ _⟩
theorem szN_big (f : Int) (s : ByteArray) (w : World) (hs : 1048576 < s.size) (hs2 : (s.size : Int) ≤ 9223372036854775807) : Calls Tryd.prog 9 #[.agg #[.int .i64 f, .string s], .int .i64 1048576] w fun e w' => e = .returned (.int .i64 (-1)) ∧ Below w.heap.size w w' := by
  go_enter Tryd.func9, Tryd.ntmps9
  go_wp2
  go_ret
  exact ⟨rfl, one_below _ _⟩
theorem toN (f : Int) (s : ByteArray) (w : World) : Calls Tryd.prog 11 #[.agg #[.int .i64 f, .string s]] w fun e w' => e = .returned (.agg #[.int .i64 f, .string s]) ∧ Below w.heap.size w w' := by
  go_enter Tryd.func11, Tryd.ntmps11
  go_wp2
  go_returns
  exact ⟨rfl, (((Below.refl _ _).alloc (Nat.le_refl _) _).alloc (by simp) _).alloc (by simp; omega) _⟩
set_option maxRecDepth 100000 in
theorem lawNF (f : Int) (s : ByteArray) (w : World) (hm : s.size ≤ maxLen) (hT : Lib.Utf8Tabs (Tryd.laysValid_ren.g 3) (Tryd.laysValid_ren.g 4) w) :
    Calls Tryd.prog 4 #[.agg #[.int .i64 f, .string s]] w fun e w' => e = .returned (.bool true) ∧ Below w.heap.size w w' := by
  unfold maxLen at hm
  by_cases hs : 1048576 < s.size
  · have CZ := hide (fun W => szN_big f s W hs (by omega))
    clear hT
    go_enter Tryd.func4, Tryd.ntmps4
    go_wp2_with (go_at_call 9; refine ((unhide CZ) _).mono ?_; rintro e w1 ⟨rfl, hb1⟩)
    go_ret
    exact ⟨rfl, (one_below w _).trans (hb1.mono (by simp))⟩
  · have CZ := hide (fun W => szN f s W (by omega))
    have CT := hide (fun W => toN f s W)
    have CS := hide (fun W => specNF f s W)
    have CI := hide (fun W (h : Below w.heap.size w W) => implNF f s W (Utf8Tabs_below hT h))
    have hz : ¬ ((1048576 : Int) - (s.size : Int) < 0) := by omega
    clear hT
    generalize nfOut f s = R at *
    go_enter Tryd.func4, Tryd.ntmps4
    go_wp2_with fail
    refine ((unhide CZ) _).mono ?_
    rintro e w1 ⟨rfl, hb1⟩
    have f0 := hb1.cell (p := ⟨w.heap.size, 0, none⟩) (by simp)
    have f1 := hb1.cell (p := ⟨w.heap.size, 1, none⟩) (by simp)
    simp at f0 f1
    have B1 := hide ((one_below w (.cells #[.int .i64 f, .string s] 25)).trans (hb1.mono (by simp)))
    clear hb1 CZ
    go_wp2_with fail
    refine ((unhide CT) _).mono ?_
    rintro e w2 ⟨rfl, hb2⟩
    have g0 := (hb2.cell (p := ⟨w.heap.size, 0, none⟩) (block_lt_of_cell f0)).trans f0
    have g1 := (hb2.cell (p := ⟨w.heap.size, 1, none⟩) (block_lt_of_cell f1)).trans f1
    have B2 := hide ((unhide B1).trans (hb2.mono (unhide B1).size))
    clear hb2 f0 f1 B1
    go_wp2_with fail
    refine ((unhide CS) _).mono ?_
    rintro e w3 ⟨rfl, hb3⟩
    have f0 := (hb3.cell (p := ⟨w.heap.size, 0, none⟩) (block_lt_of_cell g0)).trans g0
    have f1 := (hb3.cell (p := ⟨w.heap.size, 1, none⟩) (block_lt_of_cell g1)).trans g1
    have B3 := hide ((unhide B2).trans (hb3.mono (unhide B2).size))
    clear hb3 g0 g1 B2 CS
    go_wp2_with fail
    refine ((unhide CT) _).mono ?_
    rintro e w4 ⟨rfl, hb4⟩
    have B4 := hide ((unhide B3).trans (hb4.mono (unhide B3).size))
    clear hb4 f0 f1 B3
    go_wp2_with fail
    refine ((unhide CI) _ (unhide B4)).mono ?_
    rintro e w5 ⟨rfl, hb5⟩
    have B5 := hide ((unhide B4).trans (hb5.mono (unhide B4).size))
    clear hb5 B4 CI CT
    go_wp2
    go_ret
    exact ⟨rfl, unhide B5⟩
end Go.Proofs.YtiecjledgmhffaaDoor
