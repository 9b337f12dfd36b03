/- TextOf of the program, of the specification, and their law. -/
import Derived.Test.YtdooabbhjikecaaDoorNTextE
namespace Go.Proofs.YtdooabbhjikecaaDoor
open Go.RowKit
theorem isPt_broken : isPt 65533 = true := by decide
theorem enc_bad (p : Int) (h : isPt p = false) : Lib.encodeRuneZ 65533 = Lib.encodeRuneZ p := by
  have hn : ¬ (0 ≤ p ∧ p ≤ 1114111 ∧ (p < 55296 ∨ 57343 < p)) := fun hh => by rw [(isPt_iff p).2 hh] at h; cases h
  rw [Lib.encodeRuneZ_bad (r := p) (by omega), Lib.encodeRuneZ_three (r := 65533) (.inr (by omega))]
  rfl
theorem impl_step {w wr w2 : World} {v' : Value} {l : List Int} {k : Nat} {r : Int} (hk : k < l.length) (he : Lib.encodeRuneZ r = Lib.encodeRuneZ (nth l k)) (hb : Below w.heap.size w wr)
    (ho2 : w2.ownsRow w.heap.size 5 1 v' ((textL (l.take k)).length + (Lib.encodeRuneZ r).length) ((textL (l.take k)).map (Value.int .u8) ++ runeCells r))
    (hb2 : Below w.heap.size wr w2) : w2.ownsRow w.heap.size 5 1 v' (textL (l.take (k + 1))).length ((textL (l.take (k + 1))).map (Value.int .u8)) ∧ Below w.heap.size w w2 := by
  refine ⟨?_, hb.trans hb2⟩
  rw [textL_snoc l k hk, List.length_append, List.map_append, ← he]
  exact ho2
theorem small_any (s : ByteArray) (w : World) (h : s.size ≤ 65536) : Calls Tryd.prog 8 #[.string s] w fun e w' => e = .returned (.string s) ∧ w' = w := by
  go_enter Tryd.func8, Tryd.ntmps8
  go_wp2
  go_ret
  exact ⟨rfl, rfl⟩
end Go.Proofs.YtdooabbhjikecaaDoor
