/- What FnJoinNormal draws. -/
import Derived.Test.YtncfjpdbfojfoaaDoorDEqv
import Derived.Test.YtncfjpdbfojfoaaDoorNmlS
import Derived.Handy
namespace Go.Proofs.YtncfjpdbfojfoaaDoor.Dr
open Go.RowKit
set_option linter.unusedVariables false
set_option maxHeartbeats 2000000 in
theorem normForm_any (w : World) (src : Nat) (a : Option Addr) (len cap : Nat) (size : Int) (hl : len ≤ 1048576) (h : SrcAt w src a len cap size) :
    Calls Tryd.prog 9 #[.pointer (some ⟨src, 0, none⟩)] w fun e w' => ∃ f : Int, e = .returned (.int .i64 f) ∧ SrcAt w' src a len cap size ∧ w.grownBy w' (some src) := by
  have CO := hide (one_any w src a len cap size 20 (by omega) (by omega) hl h)
  have NN := hide (fun (most : Int) W (h1 : 0 < most) (h2 : most ≤ 1000000) (q : SrcAt W src a len cap size) => n_nat W src a len cap size most h1 h2 hl q)
  clear h
  go_enter Tryd.func9, Tryd.ntmps9
  go_wp2_with fail
  refine (unhide CO).mono ?_
  rintro e w1 ⟨b, rfl, hs1, hg1⟩
  have S1 := hide hs1
  have G1 := hide hg1
  clear hs1 hg1 CO
  cases b with
  | true =>
    go_wp2_with fail
    refine ((unhide NN) _ _ (by omega) (by omega) (unhide S1)).mono ?_
    rintro e w2 ⟨r, rfl, hr, hs2, hg2⟩
    have S2 := hide hs2
    have G2 := hide (grown_trans (unhide G1) hg2)
    clear hs2 hg2
    go_wp2
    go_ret
    exact ⟨_, rfl, unhide S2, unhide G2⟩
  | false =>
    go_wp2_with fail
    refine ((unhide NN) _ _ (by omega) (by omega) (unhide S1)).mono ?_
    rintro e w2 ⟨r, rfl, hr, hs2, hg2⟩
    have S2 := hide hs2
    have G2 := hide (grown_trans (unhide G1) hg2)
    clear hs2 hg2
    go_wp2
    go_ret
    exact ⟨_, rfl, unhide S2, unhide G2⟩
theorem grown_on {w w' : World} {src B : Nat} (h : w.grownBy w' (some src)) (hB : B ≤ src) (hs : src < w.heap.size) : Below B w w' :=
  ⟨h.os, h.tape, h.output, by have := h.size; omega, fun k hk => h.block k (by omega) (fun e => by injection e with e; omega)⟩
end Go.Proofs.YtncfjpdbfojfoaaDoor.Dr
