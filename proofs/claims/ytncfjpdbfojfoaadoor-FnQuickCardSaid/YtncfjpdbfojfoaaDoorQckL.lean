/- The law of the quick check. -/
import Derived.Test.YtncfjpdbfojfoaaDoorQckZ
import Derived.Test.YtncfjpdbfojfoaaDoorQckD
import Derived.Test.YtncfjpdbfojfoaaDoorQckI
import Derived.Test.YtncfjpdbfojfoaaDoorQckS
namespace Go.Proofs.YtncfjpdbfojfoaaDoor
open Go.RowKit
set_option linter.unusedVariables false
set_option maxHeartbeats 4000000 in
set_option maxRecDepth 100000 in
theorem lawQuickFn (a : Option Addr) (len cap : Nat) (w : World) (hc : Dr.CodeIn w a len) (hl0 : len ≤ maxLen) (hT : Lib.Utf8Tabs (Tryd.laysValid_ren.g 3) (Tryd.laysValid_ren.g 4) w) :
    Calls Tryd.prog 3 #[.slice a len cap] w fun e w' => e = .returned (.bool true) ∧ Below w.heap.size w w' := by
  unfold maxLen at hl0
  by_cases hl : 1048576 < len
  · have hl' : (1048576 : Int) < (len : Int) := by omega
    go_enter Tryd.func3, Tryd.ntmps3
    go_wp2
    go_ret
    exact ⟨rfl, Below.refl _ _⟩
  · have hl' : ¬ (1048576 : Int) < (len : Int) := by omega
    have CD := hide (Dr.drawQ_any w a len cap (by omega) hc)
    have HT := hide hT
    clear hc hT
    go_enter Tryd.func3, Tryd.ntmps3
    go_wp2_with fail
    refine (unhide CD).mono ?_
    rintro e w1 ⟨f, s, rfl, hs, hb1⟩
    have HB := hide hb1
    clear CD hb1
    have KA := hide (fun W (h : Below w.heap.size w W) => implQuick f s W (by omega) (Utf8Tabs_below (unhide HT) h))
    have KB := hide (fun W => specQuick f s W (by omega))
    have KC := hide (fun W => implIsN f s W (by omega))
    have Y := hide (fun h => quick_yes (f := f) (s := s) h)
    have NO := hide (fun h => quick_no (f := f) (s := s) h)
    generalize qckOut f s = q at *
    have hqq : (q != q) = false := by simp
    go_wp2_with fail
    refine ((unhide KA) _ (unhide HB)).mono ?_
    rintro e w2 ⟨rfl, hb⟩
    replace HB := hide ((unhide HB).trans (hb.mono (unhide HB).size))
    clear hb KA
    go_wp2_with fail
    refine ((unhide KB) _).mono ?_
    rintro e w3 ⟨rfl, hb⟩
    replace HB := hide ((unhide HB).trans (hb.mono (unhide HB).size))
    clear hb KB
    by_cases q1 : q = 1
    · subst q1
      rw [(unhide Y) rfl] at KC
      clear Y NO
      go_wp2_with fail
      refine ((unhide KC) _).mono ?_
      rintro e w4 ⟨rfl, hb⟩
      replace HB := hide ((unhide HB).trans (hb.mono (unhide HB).size))
      clear hb KC
      go_wp2
      go_ret
      exact ⟨rfl, unhide HB⟩
    · by_cases q2 : q = 2
      · subst q2
        rw [(unhide NO) rfl] at KC
        clear Y NO
        go_wp2_with fail
        refine ((unhide KC) _).mono ?_
        rintro e w4 ⟨rfl, hb⟩
        replace HB := hide ((unhide HB).trans (hb.mono (unhide HB).size))
        clear hb KC
        go_wp2
        go_ret
        exact ⟨rfl, unhide HB⟩
      · have q1' : (q == 1) = false := by simpa using q1
        have q2' : (q == 2) = false := by simpa using q2
        clear Y NO KC
        go_wp2
        go_ret
        exact ⟨rfl, unhide HB⟩
end Go.Proofs.YtncfjpdbfojfoaaDoor
