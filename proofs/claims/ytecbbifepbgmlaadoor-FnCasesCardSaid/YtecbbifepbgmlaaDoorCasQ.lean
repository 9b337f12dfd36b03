/- Points, as the program and the specification tell them. -/
import Derived.Test.YtecbbifepbgmlaaDoorML
namespace Go.Proofs.YtecbbifepbgmlaaDoor
namespace Cas
open Go.RowKit
set_option maxRecDepth 100000 in
theorem ispt_s (p : Int) (w : World) (h : pt p) : Calls Tryd.prog 20 #[.int .i64 p] w fun e w' => e = .returned (.bool true) ∧ w' = w := by
  obtain ⟨h1, h2, h3⟩ := h
  by_cases h4 : p < 55296
  · clear h3
    go_enter Tryd.func20, Tryd.ntmps20
    go_wp2
    go_ret
    exact ⟨rfl, rfl⟩
  · have h5 : 57343 < p := by omega
    clear h3
    go_enter Tryd.func20, Tryd.ntmps20
    go_wp2
    go_ret
    exact ⟨rfl, rfl⟩
set_option maxRecDepth 100000 in
theorem ispt_i (p : Int) (w : World) (h : pt p) : Calls Tryd.prog 12 #[.int .i64 p] w fun e w' => e = .returned (.bool true) ∧ w' = w := by
  obtain ⟨h1, h2, h3⟩ := h
  by_cases h4 : p < 55296
  · clear h3
    go_enter Tryd.func12, Tryd.ntmps12
    go_wp2
    go_ret
    exact ⟨rfl, rfl⟩
  · have h5 : 57343 < p := by omega
    clear h3
    go_enter Tryd.func12, Tryd.ntmps12
    go_wp2
    go_ret
    exact ⟨rfl, rfl⟩
set_option maxRecDepth 100000 in
theorem nopt_s (p : Int) (w : World) (h : ¬ pt p) : Calls Tryd.prog 20 #[.int .i64 p] w fun e w' => e = .returned (.bool false) ∧ w' = w := by
  unfold pt at h
  by_cases h1 : 0 ≤ p
  · by_cases h2 : p ≤ 1114111
    · have h3 : ¬ p < 55296 := by omega
      have h4 : ¬ 57343 < p := by omega
      clear h
      go_enter Tryd.func20, Tryd.ntmps20
      go_wp2
      go_ret
      exact ⟨rfl, rfl⟩
    · clear h
      go_enter Tryd.func20, Tryd.ntmps20
      go_wp2
      go_ret
      exact ⟨rfl, rfl⟩
  · clear h
    go_enter Tryd.func20, Tryd.ntmps20
    go_wp2
    go_ret
    exact ⟨rfl, rfl⟩
set_option maxRecDepth 100000 in
theorem nopt_i (p : Int) (w : World) (h : ¬ pt p) : Calls Tryd.prog 12 #[.int .i64 p] w fun e w' => e = .returned (.bool false) ∧ w' = w := by
  unfold pt at h
  by_cases h1 : 0 ≤ p
  · by_cases h2 : p ≤ 1114111
    · have h3 : ¬ p < 55296 := by omega
      have h4 : ¬ 57343 < p := by omega
      clear h
      go_enter Tryd.func12, Tryd.ntmps12
      go_wp2
      go_ret
      exact ⟨rfl, rfl⟩
    · clear h
      go_enter Tryd.func12, Tryd.ntmps12
      go_wp2
      go_ret
      exact ⟨rfl, rfl⟩
  · clear h
    go_enter Tryd.func12, Tryd.ntmps12
    go_wp2
    go_ret
    exact ⟨rfl, rfl⟩
end Cas
end Go.Proofs.YtecbbifepbgmlaaDoor
