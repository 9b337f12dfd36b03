/- Whether a rule fits: the program's fits. -/
import Derived.Test.YtccnjjkechdknaaRulF
import Derived.Stop.Asserts
namespace Go.Proofs.Ytccnjjkechdknaa.Rul
open Go.RowKit
set_option linter.unusedVariables false
theorem meth_taken (a b c d : Value) (W : World) : (method 231 106 (.agg #[a, b, c, d]) "loop.example/g00044/impl.taken").run Try.prog W = .ok (82, .agg #[a, b]) W := by kernel_rfl
theorem meth_put (a b c d : Value) (W : World) : (method 231 106 (.agg #[a, b, c, d]) "loop.example/g00044/impl.put").run Try.prog W = .ok (81, .agg #[a, b]) W := by kernel_rfl
theorem meth_stands (a b c d : Value) (W : World) : (method 231 106 (.agg #[a, b, c, d]) "loop.example/g00044/impl.standsBetween").run Try.prog W = .ok (83, .agg #[a, b, c, d]) W := by kernel_rfl
theorem meth_takenP (a b : Value) (W : World) : (method 231 104 (.agg #[a, b]) "loop.example/g00044/impl.taken").run Try.prog W = .ok (82, .agg #[a, b]) W := by kernel_rfl
theorem meth_putP (a b : Value) (W : World) : (method 231 104 (.agg #[a, b]) "loop.example/g00044/impl.put").run Try.prog W = .ok (81, .agg #[a, b]) W := by kernel_rfl
theorem nil_stands (a b c d : Value) (W : World) : (nilAhead 231 106 (.agg #[a, b, c, d]) "loop.example/g00044/impl.standsBetween").run Try.prog W = .ok (some false) W := by kernel_rfl
theorem assert_plain (x : Value) (W : World) : (Instr.typeAssert (.iface 104 x) 94 111 true).run Try.prog W = .ok (.tuple #[.nilIface, .bool false]) W := run_typeAssert_lacksB Try.underlying111 (by kernel_rfl) (by kernel_rfl) x 94 W
theorem assert_ctx (x : Value) (W : World) : (Instr.typeAssert (.iface 106 x) 94 111 true).run Try.prog W = .ok (.tuple #[.iface 106 x, .bool true]) W := by kernel_rfl
set_option maxRecDepth 100000 in
set_option maxHeartbeats 4000000 in
theorem fits_plain (ai ap : Option Addr) (np ci cp : Nat) (I : List Int) (dv : Value) (b off r c : Nat) (R : List Gl) (w : World) (hI : IntsAt w (.slice ai I.length ci) I) (hR : GA w (.slice (some ⟨b, off, none⟩) r c) R) (lI : I.length ≤ 8) (lR : R.length ≤ 1048576) :
    Calls Try.prog 61 #[.iface 104 (.agg #[.slice ai I.length ci, .slice ap np cp]), dv, .slice (some ⟨b, off, none⟩) r c] w fun e w' => e = .returned (.bool (atq R 0 I)) ∧ Below w.heap.size w w' := by
  have CT := hide (taken_any ai ap I.length np ci cp w)
  have CB := hide (fun W (hb : Below w.heap.size w W) => begin_any _ _ R I W (hR.below hb) (hI.below hb) lR (by omega))
  have M1 := fun W => meth_takenP (.slice ai I.length ci) (.slice ap np cp) W
  have TA := fun W => assert_plain (.agg #[.slice ai I.length ci, .slice ap np cp]) W
  clear hI hR
  cases hz : atq R 0 I
  all_goals
    rw [hz] at CB
    go_enter Try.func61, Try.ntmps61
    go_wp2_with fail
    refine (unhide CT).mono ?_
    rintro e w1 ⟨rfl, hb1⟩
    have B1 := hide hb1
    clear hb1 CT
    go_wp2_with fail
    refine ((unhide CB) _ (unhide B1)).mono ?_
    rintro e w2 ⟨rfl, e2⟩
    have e3 := e2.symm
    subst e3
    clear e2 CB
    go_wp2
    go_ret
    exact ⟨rfl, unhide B1⟩
theorem and_eq {x y z : Bool} (hx : x = true) (hy : y = z) : (x && y) = z := by rw [hx, hy]; rfl
set_option maxRecDepth 100000 in
set_option maxHeartbeats 8000000 in
theorem fits_ctx (ai ap aa ab : Option Addr) (np ci cp ca cb : Nat) (A I B : List Int) (db doff dn dc : Nat) (b off r c : Nat) (D R : List Gl) (w : World)
    (hI : IntsAt w (.slice ai I.length ci) I) (hA : IntsAt w (.slice aa A.length ca) A) (hB : IntsAt w (.slice ab B.length cb) B)
    (hD : GA w (.slice (some ⟨db, doff, none⟩) dn dc) D) (hdn : dn = D.length) (hdc : dn ≤ dc)
    (hR : GA w (.slice (some ⟨b, off, none⟩) r c) R) (hr : r = R.length) (hrc : r ≤ c) (lI : I.length ≤ 8) (lA : A.length ≤ 4) (lB : B.length ≤ 4) (lR : R.length ≤ 1048576) (lD : D.length ≤ 1048576) :
    Calls Try.prog 61 #[.iface 106 (.agg #[.slice ai I.length ci, .slice ap np cp, .slice aa A.length ca, .slice ab B.length cb]), .slice (some ⟨db, doff, none⟩) dn dc, .slice (some ⟨b, off, none⟩) r c] w fun e w' => e = .returned (.bool (atq R 0 I && stB A B D (R.drop I.length))) ∧ Below w.heap.size w w' := by
  have CT := hide (taken_any ai ap I.length np ci cp w)
  have CB := hide (fun W (hb : Below w.heap.size w W) => begin_any _ _ R I W (hR.below hb) (hI.below hb) lR (by omega))
  have TA := fun W => assert_ctx (.agg #[.slice ai I.length ci, .slice ap np cp, .slice aa A.length ca, .slice ab B.length cb]) W
  have M1 := fun W => meth_taken (.slice ai I.length ci) (.slice ap np cp) (.slice aa A.length ca) (.slice ab B.length cb) W
  have M2 := fun W => meth_stands (.slice ai I.length ci) (.slice ap np cp) (.slice aa A.length ca) (.slice ab B.length cb) W
  have M3 := fun W => nil_stands (.slice ai I.length ci) (.slice ap np cp) (.slice aa A.length ca) (.slice ab B.length cb) W
  have CT2 := hide (fun W => taken_any ai ap I.length np ci cp W)
  cases hz : atq R 0 I
  · rw [hz] at CB
    clear hI hA hB hD hR hdn hr hz
    rw [Bool.false_and]
    go_enter Try.func61, Try.ntmps61
    go_wp2_with fail
    refine (unhide CT).mono ?_
    rintro e w1 ⟨rfl, hb1⟩
    have B1 := hide hb1
    clear hb1 CT
    go_wp2_with fail
    refine ((unhide CB) _ (unhide B1)).mono ?_
    rintro e w2 ⟨rfl, e2⟩
    have e3 := e2.symm
    subst e3
    clear e2 CB
    go_wp2
    go_ret
    exact ⟨rfl, unhide B1⟩
  · rw [hz] at CB
    have hIR := atq_le hz
    rw [Bool.true_and]
    have t1 : (0 : Int) ≤ (I.length : Int) := by omega
    have t2 : (I.length : Int) ≤ (r : Int) := by omega
    have t3 : I.length ≤ r := by omega
    have t4 : (r : Int) ≤ (c : Int) := by omega
    have hdl : (R.drop I.length).length ≤ 1048576 := by rw [List.length_drop]; omega
    by_cases hcap : c = I.length
    · have e2 : r = I.length := by omega
      have e3 : R.drop I.length = [] := List.drop_eq_nil_of_le (by omega)
      have CS := hide (fun W (hb : Below w.heap.size w W) => stands_any (.slice ai I.length ci) (.slice ap np cp) aa ab ca cb A B db doff dn dc (.slice (some ⟨b, off, none⟩) 0 0) D (R.drop I.length) W (hA.below hb) (hB.below hb) (hD.below hb) hdn (by rw [e3]; exact GA.empty _ _ _) lA lB lD hdl hdc)
      generalize stB A B D (R.drop I.length) = Z at *
      clear hI hA hB hD hR hdl e3 hz hdn hr hIR
      subst e2
      subst hcap
      go_enter Try.func61, Try.ntmps61
      go_wp2_with fail
      refine (unhide CT).mono ?_
      rintro e w1 ⟨rfl, hb1⟩
      have B1 := hide hb1
      clear hb1 CT
      go_wp2_with fail
      refine ((unhide CB) _ (unhide B1)).mono ?_
      rintro e w2 ⟨rfl, e2⟩
      have e3 := e2.symm
      subst e3
      clear e2 CB
      go_upto_region 5 with fail
      have KS : True := trivial
      refine wp_region_held_drew (S := fun _ => True) (by kernel_rfl) (by first | go_keep | exact trivial) (fun hHeld => ?_)
      refine tkR (i := 0) (d := some 20) (v := ?_) rfl rfl (by kernel_rfl) (by kernel_rfl) (by kernel_rfl) (fun _ _ _ h => h) (Or.inl ⟨by rfl, ?_⟩) (by assumption) ?_
      rotate_left
      · intro w hSw; (try dsimp only at hSw); go_simp; try with_reducible rfl
      try simp only [Act.put, List.setIfInBounds_toArray, List.set_cons_zero, List.set_cons_succ]
      refine tkR (i := 1) (d := some 21) (v := ?_) rfl rfl (by kernel_rfl) (by kernel_rfl) (by kernel_rfl) (fun _ _ _ h => h) (Or.inl ⟨by rfl, ?_⟩) (by assumption) ?_
      rotate_left
      · intro w hSw; (try dsimp only at hSw); go_simp; try with_reducible rfl
      try simp only [Act.put, List.setIfInBounds_toArray, List.set_cons_zero, List.set_cons_succ]
      refine tkR (i := 2) (d := some 22) (v := ?_) rfl rfl (by kernel_rfl) (by kernel_rfl) (by kernel_rfl) (fun _ _ _ h => h) (Or.inl ⟨by rfl, ?_⟩) (by assumption) ?_
      rotate_left
      · intro w hSw; (try dsimp only at hSw); go_simp; try with_reducible rfl
      try simp only [Act.put, List.setIfInBounds_toArray, List.set_cons_zero, List.set_cons_succ]
      refine tkR (i := 3) (d := some 23) (v := ?_) rfl rfl (by kernel_rfl) (by kernel_rfl) (by kernel_rfl) (fun _ _ _ h => h) (Or.inl ⟨by rfl, ?_⟩) (by assumption) ?_
      rotate_left
      · intro w hSw; (try dsimp only at hSw); go_simp; try with_reducible rfl
      try simp only [Act.put, List.setIfInBounds_toArray, List.set_cons_zero, List.set_cons_succ]
      refine tkR (i := 7) (d := some 27) (v := ?_) rfl rfl (by kernel_rfl) (by kernel_rfl) (by kernel_rfl) (fun _ _ _ h => h) (Or.inl ⟨by rfl, ?_⟩) (by assumption) ?_
      rotate_left
      · intro w hSw; (try dsimp only at hSw); go_simp; try with_reducible rfl
      try simp only [Act.put, List.setIfInBounds_toArray, List.set_cons_zero, List.set_cons_succ]
      refine tkR (i := 8) (d := some 28) (v := ?_) rfl rfl (by kernel_rfl) (by kernel_rfl) (by kernel_rfl) (fun _ _ _ h => h) (Or.inl ⟨by rfl, ?_⟩) (by assumption) ?_
      rotate_left
      · intro w hSw; (try dsimp only at hSw); go_simp; try with_reducible rfl
      try simp only [Act.put, List.setIfInBounds_toArray, List.set_cons_zero, List.set_cons_succ]
      refine tkR (i := 9) (d := some 29) (v := ?_) rfl rfl (by kernel_rfl) (by kernel_rfl) (by kernel_rfl) (fun _ _ _ h => h) (Or.inl ⟨by rfl, ?_⟩) (by assumption) ?_
      rotate_left
      · intro w hSw; (try dsimp only at hSw); go_simp; try with_reducible rfl
      try simp only [Act.put, List.setIfInBounds_toArray, List.set_cons_zero, List.set_cons_succ]
      refine wpAnyH_ready (rs := [4]) (by kernel_rfl) (by simp) (AllReadyH.cons rfl (fun K hK => ?_) AllReadyH.nil)
      go_simp
      go_at_call 82
      refine ((unhide CT2) _).mono ?_
      rintro e w4 ⟨rfl, hb4⟩
      have B4 := hide ((unhide B1).trans (((drew_bel _).trans hb4).mono (unhide B1).size))
      clear hb4
      try go_wp2_with fail
      refine hK.out _ _ trivial (fun hHeld4 => ?_)
      clear hK K
      try simp only [Act.put, List.setIfInBounds_toArray, List.set_cons_zero, List.set_cons_succ]
      refine tkR (i := 5) (d := some 25) (v := ?_) rfl rfl (by kernel_rfl) (by kernel_rfl) (by kernel_rfl) (fun _ _ _ h => h) (Or.inl ⟨by rfl, ?_⟩) (by assumption) ?_
      rotate_left
      · intro w hSw; (try dsimp only at hSw); go_simp; try with_reducible rfl
      try simp only [Act.put, List.setIfInBounds_toArray, List.set_cons_zero, List.set_cons_succ]
      refine tkR (i := 6) (d := some 26) (v := ?_) rfl rfl (by kernel_rfl) (by kernel_rfl) (by kernel_rfl) (fun _ _ _ h => h) (Or.inl ⟨by rfl, ?_⟩) (by assumption) ?_
      rotate_left
      · intro w hSw; (try dsimp only at hSw); go_simp; try with_reducible rfl
      try simp only [Act.put, List.setIfInBounds_toArray, List.set_cons_zero, List.set_cons_succ]
      refine wpAnyH_ready (rs := [10]) (by kernel_rfl) (by simp) (AllReadyH.cons rfl (fun K hK => ?_) AllReadyH.nil)
      go_simp
      go_at_call 83
      refine ((unhide CS) _ (unhide B4)).mono ?_
      rintro e w5 ⟨rfl, hb5⟩
      have B5 := hide ((unhide B4).trans (hb5.mono (unhide B4).size))
      clear hb5
      try go_wp2_with fail
      refine hK.out _ _ trivial (fun hHeld10 => ?_)
      clear hK K
      try simp only [Act.put, List.setIfInBounds_toArray, List.set_cons_zero, List.set_cons_succ]
      refine tkR (i := 11) (d := some 6) (v := ?_) rfl rfl (by kernel_rfl) (by kernel_rfl) (by kernel_rfl) (fun _ _ _ h => h) (Or.inl ⟨by rfl, ?_⟩) (by assumption) ?_
      rotate_left
      · intro w hSw; (try dsimp only at hSw); go_simp; try with_reducible rfl
      try simp only [Act.put, List.setIfInBounds_toArray, List.set_cons_zero, List.set_cons_succ]
      refine wpAnyH_done (by kernel_rfl) ?_ _
      go_wp2
      go_ret
      exact ⟨rfl, unhide B5⟩
    · have hcap' : ¬ (c : Int) = (I.length : Int) := by omega
      have CS := hide (fun W (hb : Below w.heap.size w W) => stands_any (.slice ai I.length ci) (.slice ap np cp) aa ab ca cb A B db doff dn dc _ D (R.drop I.length) W (hA.below hb) (hB.below hb) (hD.below hb) hdn ((hR.below hb).cut (c' := c - I.length) t3) lA lB lD hdl hdc)
      generalize stB A B D (R.drop I.length) = Z at *
      clear hI hA hB hD hR hdl hz hdn hr hIR
      go_enter Try.func61, Try.ntmps61
      go_wp2_with fail
      refine (unhide CT).mono ?_
      rintro e w1 ⟨rfl, hb1⟩
      have B1 := hide hb1
      clear hb1 CT
      go_wp2_with fail
      refine ((unhide CB) _ (unhide B1)).mono ?_
      rintro e w2 ⟨rfl, e2⟩
      have e3 := e2.symm
      subst e3
      clear e2 CB
      go_upto_region 5 with fail
      have KS : True := trivial
      refine wp_region_held_drew (S := fun _ => True) (by kernel_rfl) (by first | go_keep | exact trivial) (fun hHeld => ?_)
      refine tkR (i := 0) (d := some 20) (v := ?_) rfl rfl (by kernel_rfl) (by kernel_rfl) (by kernel_rfl) (fun _ _ _ h => h) (Or.inl ⟨by rfl, ?_⟩) (by assumption) ?_
      rotate_left
      · intro w hSw; (try dsimp only at hSw); go_simp; try with_reducible rfl
      try simp only [Act.put, List.setIfInBounds_toArray, List.set_cons_zero, List.set_cons_succ]
      refine tkR (i := 1) (d := some 21) (v := ?_) rfl rfl (by kernel_rfl) (by kernel_rfl) (by kernel_rfl) (fun _ _ _ h => h) (Or.inl ⟨by rfl, ?_⟩) (by assumption) ?_
      rotate_left
      · intro w hSw; (try dsimp only at hSw); go_simp; try with_reducible rfl
      try simp only [Act.put, List.setIfInBounds_toArray, List.set_cons_zero, List.set_cons_succ]
      refine tkR (i := 2) (d := some 22) (v := ?_) rfl rfl (by kernel_rfl) (by kernel_rfl) (by kernel_rfl) (fun _ _ _ h => h) (Or.inl ⟨by rfl, ?_⟩) (by assumption) ?_
      rotate_left
      · intro w hSw; (try dsimp only at hSw); go_simp; try with_reducible rfl
      try simp only [Act.put, List.setIfInBounds_toArray, List.set_cons_zero, List.set_cons_succ]
      refine tkR (i := 3) (d := some 23) (v := ?_) rfl rfl (by kernel_rfl) (by kernel_rfl) (by kernel_rfl) (fun _ _ _ h => h) (Or.inl ⟨by rfl, ?_⟩) (by assumption) ?_
      rotate_left
      · intro w hSw; (try dsimp only at hSw); go_simp; try with_reducible rfl
      try simp only [Act.put, List.setIfInBounds_toArray, List.set_cons_zero, List.set_cons_succ]
      refine tkR (i := 7) (d := some 27) (v := ?_) rfl rfl (by kernel_rfl) (by kernel_rfl) (by kernel_rfl) (fun _ _ _ h => h) (Or.inl ⟨by rfl, ?_⟩) (by assumption) ?_
      rotate_left
      · intro w hSw; (try dsimp only at hSw); go_simp; try with_reducible rfl
      try simp only [Act.put, List.setIfInBounds_toArray, List.set_cons_zero, List.set_cons_succ]
      refine tkR (i := 8) (d := some 28) (v := ?_) rfl rfl (by kernel_rfl) (by kernel_rfl) (by kernel_rfl) (fun _ _ _ h => h) (Or.inl ⟨by rfl, ?_⟩) (by assumption) ?_
      rotate_left
      · intro w hSw; (try dsimp only at hSw); go_simp; try with_reducible rfl
      try simp only [Act.put, List.setIfInBounds_toArray, List.set_cons_zero, List.set_cons_succ]
      refine tkR (i := 9) (d := some 29) (v := ?_) rfl rfl (by kernel_rfl) (by kernel_rfl) (by kernel_rfl) (fun _ _ _ h => h) (Or.inl ⟨by rfl, ?_⟩) (by assumption) ?_
      rotate_left
      · intro w hSw; (try dsimp only at hSw); go_simp; try with_reducible rfl
      try simp only [Act.put, List.setIfInBounds_toArray, List.set_cons_zero, List.set_cons_succ]
      refine wpAnyH_ready (rs := [4]) (by kernel_rfl) (by simp) (AllReadyH.cons rfl (fun K hK => ?_) AllReadyH.nil)
      go_simp
      go_at_call 82
      refine ((unhide CT2) _).mono ?_
      rintro e w4 ⟨rfl, hb4⟩
      have B4 := hide ((unhide B1).trans (((drew_bel _).trans hb4).mono (unhide B1).size))
      clear hb4
      try go_wp2_with fail
      refine hK.out _ _ trivial (fun hHeld4 => ?_)
      clear hK K
      try simp only [Act.put, List.setIfInBounds_toArray, List.set_cons_zero, List.set_cons_succ]
      refine tkR (i := 5) (d := some 25) (v := ?_) rfl rfl (by kernel_rfl) (by kernel_rfl) (by kernel_rfl) (fun _ _ _ h => h) (Or.inl ⟨by rfl, ?_⟩) (by assumption) ?_
      rotate_left
      · intro w hSw; (try dsimp only at hSw); go_simp; try with_reducible rfl
      try simp only [Act.put, List.setIfInBounds_toArray, List.set_cons_zero, List.set_cons_succ]
      refine tkR (i := 6) (d := some 26) (v := ?_) rfl rfl (by kernel_rfl) (by kernel_rfl) (by kernel_rfl) (fun _ _ _ h => h) (Or.inl ⟨by rfl, ?_⟩) (by assumption) ?_
      rotate_left
      · intro w hSw; (try dsimp only at hSw); go_simp; try with_reducible rfl
      try simp only [Act.put, List.setIfInBounds_toArray, List.set_cons_zero, List.set_cons_succ]
      refine wpAnyH_ready (rs := [10]) (by kernel_rfl) (by simp) (AllReadyH.cons rfl (fun K hK => ?_) AllReadyH.nil)
      go_simp
      go_at_call 83
      refine ((unhide CS) _ (unhide B4)).mono ?_
      rintro e w5 ⟨rfl, hb5⟩
      have B5 := hide ((unhide B4).trans (hb5.mono (unhide B4).size))
      clear hb5
      try go_wp2_with fail
      refine hK.out _ _ trivial (fun hHeld10 => ?_)
      clear hK K
      try simp only [Act.put, List.setIfInBounds_toArray, List.set_cons_zero, List.set_cons_succ]
      refine tkR (i := 11) (d := some 6) (v := ?_) rfl rfl (by kernel_rfl) (by kernel_rfl) (by kernel_rfl) (fun _ _ _ h => h) (Or.inl ⟨by rfl, ?_⟩) (by assumption) ?_
      rotate_left
      · intro w hSw; (try dsimp only at hSw); go_simp; try with_reducible rfl
      try simp only [Act.put, List.setIfInBounds_toArray, List.set_cons_zero, List.set_cons_succ]
      refine wpAnyH_done (by kernel_rfl) ?_ _
      go_wp2
      go_ret
      exact ⟨rfl, unhide B5⟩
theorem fit_eq {A I B : List Int} {G D : List Gl} {i : Nat} (hi : i ≤ G.length) : (atq (G.drop i) 0 I && stB A B D ((G.drop i).drop I.length)) = fit A I B G i D := by
  unfold fit stB
  rw [atq_drop G i I hi]
  cases h : atq G i I
  · rfl
  · rw [List.drop_drop, atq_drop G _ B (by have := atq_le h; omega)]
end Go.Proofs.Ytccnjjkechdknaa.Rul
