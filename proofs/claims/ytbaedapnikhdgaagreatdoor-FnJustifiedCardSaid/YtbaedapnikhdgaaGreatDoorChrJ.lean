/- A place and what it is moved to; the rules of characters, each by itself, as the program tells them. -/
import Derived.Test.YtbaedapnikhdgaaGreatDoorChrI
namespace Go.Proofs.YtbaedapnikhdgaaGreatDoor
namespace Chr
open Go.RowKit
def plC (x : Pl) : Array Value := #[.int .i64 x.l, .int .i64 x.r, .int .i64 x.b, .int .i64 (x.f : Int), .bool x.d]
def plV (x : Pl) : Value := .agg #[.int .i64 x.l, .int .i64 x.r, .int .i64 x.b, .int .i64 (x.f : Int), .bool x.d]
theorem TabAt.ex {w : World} (h : TabAt w) (o : Obj) : TabAt (w.alloc o) := h.alloc o
theorem ret_pl {a b : Pl} (h : a = b) : (Ending.returned (plV a) : Ending) = .returned (plV b) := by rw [h]
theorem below3 (w : World) (a b c : Obj) : Below w.heap.size w (((w.alloc a).alloc b).alloc c) := (((Below.refl _ _).alloc (Nat.le_refl _) _).alloc (by simp) _).alloc (by simp; omega) _
theorem below4 (w : World) (a b c d : Obj) : Below w.heap.size w ((((w.alloc a).alloc b).alloc c).alloc d) := (below3 w a b c).alloc (by simp; omega) _
set_option maxRecDepth 100000 in
set_option maxHeartbeats 2000000 in
theorem moved_any (x : Pl) (n : Int) (w : World) (ht : TabAt w) (hf : x.f ≤ 100000) : Calls Tryz.prog 45 #[plV x, .int .i64 n] w fun e w' => e = .returned (plV (mov x n)) ∧ Below w.heap.size w w' := by
  obtain ⟨l, r, b, f, d⟩ := x
  simp only at hf
  have H := hide ht
  clear ht
  have H3 : Hid (∀ a b c, TabAt (((w.alloc a).alloc b).alloc c)) := hide (fun a b c => (((unhide H).alloc a).alloc b).alloc c)
  clear H
  have CM := hide (fun W h => isMark_any l W h)
  have CF := hide (fun W => isFlag_any r W)
  have HM : Hid (mov ⟨l, r, b, f, d⟩ n = ⟨r, n, if mrk l then b else l, if flg r then f + 1 else 0, r == 1584 || r == 1585 && d⟩) := hide rfl
  unfold plV
  simp only
  generalize mov ⟨l, r, b, f, d⟩ n = M at *
  cases h1 : mrk l <;> cases h2 : flg r <;> cases h3 : (r == 1584) <;> cases h4 : (r == 1585)
  all_goals
    rw [h1] at CM HM
    rw [h2] at CF HM
    rw [h3, h4] at HM
    go_enter Tryz.func45, Tryz.ntmps45
    go_wp2_with (first | (go_at_call 73; refine ((unhide CM) _ ((unhide H3) _ _ _)).mono ?_; rintro e w2 ⟨rfl, o2, rfl⟩) | (go_at_call 74; refine ((unhide CF) _).mono ?_; rintro e w3 ⟨rfl, rfl⟩))
    refine bodyPost_ret (by simp [results, Tryz.results45, go_sem]; try rfl) rfl ?_
    exact ⟨by rw [unhide HM]; rfl, below4 _ _ _ _ _⟩
end Chr
end Go.Proofs.YtbaedapnikhdgaaGreatDoor
