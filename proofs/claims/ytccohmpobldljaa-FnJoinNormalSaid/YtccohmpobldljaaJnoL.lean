/- The law of texts joined. -/
import Derived.Test.YtccohmpobldljaaStaP
import Derived.Test.YtccohmpobldljaaStaE
import Derived.Test.YtccohmpobldljaaJoiL
import Derived.Test.YtccohmpobldljaaNmlL
namespace Go.Proofs.Ytccohmpobldljaa
open Go.RowKit
set_option linter.unusedVariables false
theorem isN_f {f : Int} {a : ByteArray} (h : isN f a = true) : isF f = true ∧ strOfNums (nrmT f a) = a := by
  unfold isN at h
  simp only [Bool.and_eq_true, decide_eq_true_eq] at h
  exact ⟨h.1.1, h.2⟩
theorem join_nf {f : Int} {a b : ByteArray} (ha : isN f a = true) (hb : isN f b = true) (hs : a.size + b.size ≤ 65536) : nf f (a ++ b) = strOfNums (joinOut f a b) := by
  have e := pts_app (well_text (isN_f ha).2) (well_text (isN_f hb).2)
  unfold nf nmlOut joinOut
  rw [if_neg (by rw [(isN_f ha).1, ByteArray.size_append]; simp; omega), if_pos ⟨ha, hb⟩]
  unfold nrmT
  rw [e]
theorem f_cases {f : Int} (h : isF f = true) : f = 1 ∨ f = 2 ∨ f = 3 ∨ f = 4 := by
  have := of_decide_eq_true h
  omega
theorem isN_empty {f : Int} (h : isF f = true) : isN f ⟨#[]⟩ = true := by
  rcases f_cases h with rfl | rfl | rfl | rfl <;> rfl
theorem nf_normal {f : Int} (s : ByteArray) (h : isF f = true) : isN f (nf f s) = true := by
  by_cases e : nf f s = ⟨#[]⟩
  · rw [e]; exact isN_empty h
  · exact nf_isN s (f_cases h) (.inl e)
theorem join_size (f : Int) (a b : ByteArray) : (strOfNums (joinOut f a b)).size ≤ 65536 := by
  rw [strOfNums_size]
  unfold joinOut small
  split
  · split
    · simp
    · omega
  · simp
set_option maxHeartbeats 4000000 in
set_option maxRecDepth 100000 in
theorem lawJoinN (a : Option Addr) (len cap : Nat) (w : World) (hc : Dr.CodeIn w a len) (hl0 : len ≤ maxLen) :
    Calls Try.prog 3 #[.slice a len cap] w fun e w' => e = .returned (.bool true) ∧ Below w.heap.size w w' := by
  unfold maxLen at hl0
  by_cases hl : 1048576 < len
  · have hl' : (1048576 : Int) < (len : Int) := by omega
    go_enter Try.func3, Try.ntmps3
    go_wp2
    go_ret
    exact ⟨rfl, Below.refl _ _⟩
  · have hl' : ¬ (1048576 : Int) < (len : Int) := by omega
    have CD := hide (Dr.drawJN_any w a len cap (by omega) hc)
    clear hc
    go_enter Try.func3, Try.ntmps3
    go_wp2_with fail
    refine (unhide CD).mono ?_
    rintro e w1 ⟨f, x, y, rfl, hx, hy, hb1⟩
    have HB := hide hb1
    clear CD hb1
    have KA := hide (fun W => implJoin f x y W (by omega) (by omega))
    have KB := hide (fun W => specJoin f x y W (by omega) (by omega))
    have KC := hide (fun W => specIsN f x W (by omega))
    have KD := hide (fun W => specIsN f y W (by omega))
    have KE : Hid (∀ W, (x ++ y).size ≤ 1048576 → Calls Try.prog 8 #[.int .i64 f, .string (x ++ y)] W fun e w' => e = .returned (.string (nf f (x ++ y))) ∧ Below W.heap.size W w') := hide (fun W h => implNormalize f (x ++ y) W h)
    have hjs := join_size f x y
    have KF := hide (fun W => implIsN f (strOfNums (joinOut f x y)) W (by omega))
    have NJ := hide (fun h1 h2 hs => join_nf (f := f) (a := x) (b := y) h1 h2 hs)
    have NN := hide (fun h => nf_normal (f := f) (x ++ y) h)
    have NF := hide (fun h => (isN_f (f := f) (a := x) h).1)
    have hadd := fun W (h : x.size + y.size ≤ 100000000) => run_string_add_sum (P := Try.prog) W x y (by omega)
    generalize strOfNums (joinOut f x y) = J at *
    go_wp2_with fail
    refine ((unhide KA) _).mono ?_
    rintro e w2 ⟨rfl, hb⟩
    replace HB := hide ((unhide HB).trans (hb.mono (unhide HB).size))
    clear hb KA
    go_wp2_with fail
    refine ((unhide KB) _).mono ?_
    rintro e w3 ⟨rfl, hb⟩
    replace HB := hide ((unhide HB).trans (hb.mono (unhide HB).size))
    clear hb KB
    cases hnx : isN f x with
    | false =>
      have hU : undef = Value.tuple #[] := rfl
      rw [hnx] at KC
      clear hnx NJ NN NF KD KE KF
      go_wp2_with fail
      refine ((unhide KC) _).mono ?_
      rintro e w4 ⟨rfl, hb⟩
      replace HB := hide ((unhide HB).trans (hb.mono (unhide HB).size))
      clear hb KC
      go_wp2
      go_ret
      exact ⟨rfl, unhide HB⟩
    | true =>
      have NJ1 := hide ((unhide NJ) hnx)
      have hF := (unhide NF) hnx
      rw [hnx] at KC
      go_wp2_with fail
      refine ((unhide KC) _).mono ?_
      rintro e w4 ⟨rfl, hb⟩
      replace HB := hide ((unhide HB).trans (hb.mono (unhide HB).size))
      clear hb KC hnx NJ NF
      cases hny : isN f y with
      | false =>
        have hU : undef = Value.tuple #[] := rfl
        rw [hny] at KD
        clear hny NJ1 NN KE KF
        go_wp2_with fail
        refine ((unhide KD) _).mono ?_
        rintro e w5 ⟨rfl, hb⟩
        replace HB := hide ((unhide HB).trans (hb.mono (unhide HB).size))
        clear hb KD
        go_wp2
        go_ret
        exact ⟨rfl, unhide HB⟩
      | true =>
        have NJ2 := hide ((unhide NJ1) hny)
        rw [hny] at KD
        go_wp2_with fail
        refine ((unhide KD) _).mono ?_
        rintro e w5 ⟨rfl, hb⟩
        replace HB := hide ((unhide HB).trans (hb.mono (unhide HB).size))
        clear hb KD hny NJ1
        by_cases hbig : 65536 < x.size + y.size
        · have hbig' : (65536 : Int) < (x.size : Int) + (y.size : Int) := by omega
          go_wp2
          go_ret
          exact ⟨rfl, unhide HB⟩
        · have hbig' : ¬ (65536 : Int) < (x.size : Int) + (y.size : Int) := by omega
          have eJ := (unhide NJ2) (by omega)
          have NN2 := (unhide NN) hF
          have hsz : (x ++ y).size ≤ 1048576 := by rw [ByteArray.size_append]; omega
          have KE2 := hide (fun W => (unhide KE) W hsz)
          have hadd2 := fun W => hadd W (by omega)
          rw [eJ] at NN2 KE2
          rw [NN2] at KF
          generalize x ++ y = XY at *
          clear NJ2 NN KE eJ NN2 hadd
          go_wp2_with fail
          refine ((unhide KE2) _).mono ?_
          rintro e w6 ⟨rfl, hb⟩
          replace HB := hide ((unhide HB).trans (hb.mono (unhide HB).size))
          clear hb KE2
          go_wp2_with fail
          refine ((unhide KF) _).mono ?_
          rintro e w7 ⟨rfl, hb⟩
          replace HB := hide ((unhide HB).trans (hb.mono (unhide HB).size))
          clear hb KF
          go_wp2
          go_ret
          exact ⟨rfl, unhide HB⟩
end Go.Proofs.Ytccohmpobldljaa
