/- The rule of the low line. -/
import Derived.Test.YtdgafmhjbgddkaaDoorWrdR
import Derived.Deep.Quiet
namespace Go.Proofs.YtdgafmhjbgddkaaDoor
namespace Wrd
open Go.RowKit
open Chr (cat ctl mrk bel1)
theorem bdn (w : World) (n : Nat) : Below w.heap.size w (w.drewN n) := ⟨rfl, rfl, rfl, Nat.le_refl _, fun _ _ => rfl⟩
set_option maxRecDepth 100000 in
set_option maxHeartbeats 4000000 in
theorem rl5 (x : WPl) (w : World) (ht : TabAt w) : Calls Tryd.prog 61 #[wpV x] w fun e w' => e = .returned (.bool (rl 5 x)) ∧ Below w.heap.size w w' := by
  obtain ⟨b, l, r, h, n⟩ := x
  have T := hide (ht.alloc (.cells #[.int .i64 b, .int .i64 l, .int .i64 r, .int .i64 h, .bool n] 62))
  have B := hide (bel1 w (.cells #[.int .i64 b, .int .i64 l, .int .i64 r, .int .i64 h, .bool n] 62))
  clear ht
  unfold wpV rl
  simp only
  have CL := hide (fun W (h : TabAt W) => lodB l W h)
  have CR := hide (fun W (h : TabAt W) => lodB r W h)
  replace T := hide (fun k => (unhide T).below (w' := World.drewN (w.alloc (.cells #[.int .i64 b, .int .i64 l, .int .i64 r, .int .i64 h, .bool n] 62)) k) (bdn _ k))
  replace B := hide (fun k => jn (unhide B) (bdn _ k))
  generalize lod l = cl at *
  generalize lod r = cr at *
  cases h1 : (r == 95) <;> cases h2 : (l == 95) <;> cases cl
  all_goals
    go_enter Tryd.func61, Tryd.ntmps61
    go_wp2
    go_quiet (fail)
    go_wp2_with (first | (go_at_call_of 45 l; refine ((unhide CL) _ ((unhide T) _)).mono ?_; rintro e w2 ⟨rfl, hb2⟩; have B2 := hide (jn ((unhide B) _) hb2); clear hb2) | (go_at_call_of 45 r; refine ((unhide CR) _ ((unhide T) _)).mono ?_; rintro e w2 ⟨rfl, hb2⟩; have B2 := hide (jn ((unhide B) _) hb2); clear hb2))
    go_ret
    exact ⟨rfl, by first | exact unhide B2 | exact (unhide B) _⟩
end Wrd
end Go.Proofs.YtdgafmhjbgddkaaDoor
