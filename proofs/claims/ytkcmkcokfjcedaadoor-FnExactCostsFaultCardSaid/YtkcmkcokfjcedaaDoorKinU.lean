/- CostsFault of the specification, all ways. -/
import Derived.Test.YtkcmkcokfjcedaaDoorKinS
namespace Go.Proofs.YtkcmkcokfjcedaaDoor.Kin
open Go.RowKit
set_option linter.unusedVariables false
set_option maxRecDepth 100000 in
set_option maxHeartbeats 40000000 in
theorem specC (p d c k t : Int) (v : Value) (K : List ByteArray) (w : World) (hv : StrsAt w v K) (hl : K.length ≤ 1048576) (hs : ∀ i, i < K.length → (nthS K i).size ≤ 1048576) :
    Calls Tryd.prog 5 #[.agg #[.int .i64 p, .int .i64 d, .int .i64 c, .int .i64 k, .int .i64 t, v]] w fun e w' => e = .returned (.int .i64 (cft p d c k t K)) ∧ Below w.heap.size w w' := by
  have hU : undef = Value.tuple #[] := rfl
  have HV := hide hv
  have HS := hide hs
  have B1 := fun (a : Option Addr) (cap : Nat) => hide ((Below.refl w.heap.size w).alloc (Nat.le_refl _) (.cells #[.int .i64 p, .int .i64 d, .int .i64 c, .int .i64 k, .int .i64 t, .slice a K.length cap] 27))
  have hbn := fun h => rgt_no (K := K) (bnd_not (p := p) (d := d) (c := c) (k := k) (t := t) h)
  have HBN := hide hbn
  obtain ⟨a, cap, rfl, _⟩ := hv
  replace B1 := B1 a cap
  clear hs hbn
  cases hp : inb p with
  | false =>
    have HE := hide ((unhide HBN) (fun h => inb_no hp (by omega)))
    go_enter Tryd.func5, Tryd.ntmps5
    go_wp2_with (go_at_call 10; refine (inb_any _ _).mono ?_; rintro e w4 ⟨rfl, e4⟩; have e5 := e4.symm; subst e5; clear e4)
    go_ret
    exact ⟨by rw [unhide HE]; rfl, unhide B1⟩
  | true =>
    cases hd : inb d with
    | false =>
      have HE := hide ((unhide HBN) (fun h => inb_no hd (by omega)))
      go_enter Tryd.func5, Tryd.ntmps5
      go_wp2_with (go_at_call 10; refine (inb_any _ _).mono ?_; rintro e w4 ⟨rfl, e4⟩; have e5 := e4.symm; subst e5; clear e4)
      go_ret
      exact ⟨by rw [unhide HE]; rfl, unhide B1⟩
    | true =>
      cases hc : inb c with
      | false =>
        have HE := hide ((unhide HBN) (fun h => inb_no hc (by omega)))
        go_enter Tryd.func5, Tryd.ntmps5
        go_wp2_with (go_at_call 10; refine (inb_any _ _).mono ?_; rintro e w4 ⟨rfl, e4⟩; have e5 := e4.symm; subst e5; clear e4)
        go_ret
        exact ⟨by rw [unhide HE]; rfl, unhide B1⟩
      | true =>
        cases hk : inb k with
        | false =>
          have HE := hide ((unhide HBN) (fun h => inb_no hk (by omega)))
          go_enter Tryd.func5, Tryd.ntmps5
          go_wp2_with (go_at_call 10; refine (inb_any _ _).mono ?_; rintro e w4 ⟨rfl, e4⟩; have e5 := e4.symm; subst e5; clear e4)
          go_ret
          exact ⟨by rw [unhide HE]; rfl, unhide B1⟩
        | true =>
          cases ht : inb t with
          | false =>
            have HE := hide ((unhide HBN) (fun h => inb_no ht (by omega)))
            go_enter Tryd.func5, Tryd.ntmps5
            go_wp2_with (go_at_call 10; refine (inb_any _ _).mono ?_; rintro e w4 ⟨rfl, e4⟩; have e5 := e4.symm; subst e5; clear e4)
            go_ret
            exact ⟨by rw [unhide HE]; rfl, unhide B1⟩
          | true =>
            have HP := hide (inb_of hp)
            have HD := hide (inb_of hd)
            by_cases z1 : p = 0
            · have HE := hide ((unhide HBN) (fun h => by omega))
              subst z1
              go_enter Tryd.func5, Tryd.ntmps5
              go_wp2_with (go_at_call 10; refine (inb_any _ _).mono ?_; rintro e w4 ⟨rfl, e4⟩; have e5 := e4.symm; subst e5; clear e4)
              go_ret
              exact ⟨by rw [unhide HE]; rfl, unhide B1⟩
            · have z1' : (p == 0) = false := by simpa using z1
              by_cases z2 : d = 0
              · have HE := hide ((unhide HBN) (fun h => by omega))
                subst z2
                go_enter Tryd.func5, Tryd.ntmps5
                go_wp2_with (go_at_call 10; refine (inb_any _ _).mono ?_; rintro e w4 ⟨rfl, e4⟩; have e5 := e4.symm; subst e5; clear e4)
                go_ret
                exact ⟨by rw [unhide HE]; rfl, unhide B1⟩
              · have z2' : (d == 0) = false := by simpa using z2
                by_cases z3 : c < k
                · have HE := hide ((unhide HBN) (fun h => by omega))
                  go_enter Tryd.func5, Tryd.ntmps5
                  go_wp2_with (go_at_call 10; refine (inb_any _ _).mono ?_; rintro e w4 ⟨rfl, e4⟩; have e5 := e4.symm; subst e5; clear e4)
                  go_ret
                  exact ⟨by rw [unhide HE]; rfl, unhide B1⟩
                · have z3' : ¬ c < k := z3
                  obtain ⟨u1, u2⟩ := unhide HP
                  obtain ⟨u3, u4⟩ := unhide HD
                  by_cases z4 : p + d < c
                  · have HE := hide ((unhide HBN) (fun h => by omega))
                    go_enter Tryd.func5, Tryd.ntmps5
                    go_wp2_with (go_at_call 10; refine (inb_any _ _).mono ?_; rintro e w4 ⟨rfl, e4⟩; have e5 := e4.symm; subst e5; clear e4)
                    go_ret
                    exact ⟨by rw [unhide HE]; rfl, unhide B1⟩
                  · have z4' : ¬ p + d < c := z4
                    have hbt : bnd p d c k t = true := decide_eq_true ⟨inb_of hp, inb_of hd, inb_of hc, inb_of hk, inb_of ht, z1, z2, by omega, by omega⟩
                    by_cases z5 : 50 < K.length
                    · have HE : Hid (cft p d c k t K = 1) := hide (by unfold cft rgt; rw [decide_eq_false (show ¬ K.length ≤ 50 by omega)]; simp)
                      have z5' : (50 : Int) < (K.length : Int) := by omega
                      go_enter Tryd.func5, Tryd.ntmps5
                      go_wp2_with (go_at_call 10; refine (inb_any _ _).mono ?_; rintro e w4 ⟨rfl, e4⟩; have e5 := e4.symm; subst e5; clear e4)
                      go_ret
                      exact ⟨by rw [unhide HE]; rfl, unhide B1⟩
                    · have z5' : ¬ (50 : Int) < (K.length : Int) := by omega
                      exact specOk p d c k t _ K w (unhide HV) hl (unhide HS) hp hd hc hk ht z1 z2 z3 z4 z5
end Go.Proofs.YtkcmkcokfjcedaaDoor.Kin
