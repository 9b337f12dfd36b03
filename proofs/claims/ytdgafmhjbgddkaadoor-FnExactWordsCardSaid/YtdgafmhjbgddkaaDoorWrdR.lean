/- The rules of words, each by itself, as the program tells them. -/
import Derived.Test.YtdgafmhjbgddkaaDoorWrdI
import Derived.Test.YtdgafmhjbgddkaaDoorChrR
namespace Go.Proofs.YtdgafmhjbgddkaaDoor
namespace Wrd
open Go.RowKit
open Chr (cat ctl mrk bel1)
/-- A place between two points of a word's row: the point before the left one, the left, the right, the one behind; within a character. -/
structure WPl where
  b : Int
  l : Int
  r : Int
  h : Int
  n : Bool
def wpC (x : WPl) : Array Value := #[.int .i64 x.b, .int .i64 x.l, .int .i64 x.r, .int .i64 x.h, .bool x.n]
def wpV (x : WPl) : Value := .agg #[.int .i64 x.b, .int .i64 x.l, .int .i64 x.r, .int .i64 x.h, .bool x.n]
def rl (k : Nat) (x : WPl) : Bool :=
  match k with
  | 0 => x.n
  | 1 => ctl x.l || ctl x.r
  | 2 => cat x.l == 2 && cat x.r == 2
  | 3 => lod x.l && lod x.r
  | 4 => joi x.b x.l x.r || joi x.l x.r x.h
  | 5 => (x.r == 95 && (x.l == 95 || lod x.l)) || (x.l == 95 && lod x.r)
  | _ => scr x.l == 8 && scr x.r == 8
def decI (x : WPl) : Bool := if rl 0 x then false else if rl 1 x then true else if rl 2 x then false else if rl 3 x then false else if rl 4 x then false else if rl 5 x then false else if rl 6 x then false else true
def Silent (k : Nat) (x : WPl) : Prop := ∀ j, j < k → rl j x = false
theorem Silent.succ {k : Nat} {x : WPl} (h : Silent k x) (hk : rl k x = false) : Silent (k + 1) x := by
  intro j hj
  by_cases e : j = k
  · rw [e]; exact hk
  · exact h j (by omega)
theorem dec_hit {k : Nat} {x : WPl} (hk : k < 7) (h : Silent k x) (hr : rl k x = true) : decI x = (k == 1) := by
  unfold decI
  have e : k = 0 ∨ k = 1 ∨ k = 2 ∨ k = 3 ∨ k = 4 ∨ k = 5 ∨ k = 6 := by omega
  rcases e with rfl | rfl | rfl | rfl | rfl | rfl | rfl
  · simp [hr]
  · simp [hr, h 0 (by decide)]
  · simp [hr, h 0 (by decide), h 1 (by decide)]
  · simp [hr, h 0 (by decide), h 1 (by decide), h 2 (by decide)]
  · simp [hr, h 0 (by decide), h 1 (by decide), h 2 (by decide), h 3 (by decide)]
  · simp [hr, h 0 (by decide), h 1 (by decide), h 2 (by decide), h 3 (by decide), h 4 (by decide)]
  · simp [hr, h 0 (by decide), h 1 (by decide), h 2 (by decide), h 3 (by decide), h 4 (by decide), h 5 (by decide)]
theorem dec_none {x : WPl} (h : Silent 7 x) : decI x = true := by
  unfold decI
  simp [h 0 (by decide), h 1 (by decide), h 2 (by decide), h 3 (by decide), h 4 (by decide), h 5 (by decide), h 6 (by decide)]
set_option maxRecDepth 100000 in
set_option maxHeartbeats 4000000 in
theorem joiB (a m b : Int) (w : World) (ht : TabAt w) : Calls Tryd.prog 81 #[.int .i64 a, .int .i64 m, .int .i64 b] w fun e w' => e = .returned (.bool (joi a m b)) ∧ Below w.heap.size w w' := by
  have T := hide ht
  have B := hide (Below.refl w.heap.size w)
  clear ht
  have LA := hide (fun W (h : TabAt W) => ltrB a W h)
  have LB := hide (fun W (h : TabAt W) => ltrB b W h)
  have DA := hide (fun W (h : TabAt W) => dgtB a W h)
  have DB := hide (fun W (h : TabAt W) => dgtB b W h)
  have HE : Hid (joi a m b = if m = 39 ∨ m = 58 then ltr a && ltr b else if m = 44 then dgt a && dgt b else if m = 46 then (ltr a && ltr b) || (dgt a && dgt b) else false) := hide rfl
  generalize joi a m b = D at *
  generalize ltr a = la at *
  generalize ltr b = lb at *
  generalize dgt a = da at *
  generalize dgt b = db at *
  by_cases h1 : m = 39 ∨ m = 58
  · have HD : Hid (D = (la && lb)) := hide (by rw [unhide HE, if_pos h1])
    clear HE
    rcases h1 with rfl | rfl
    all_goals
      cases la
      all_goals
        go_enter Tryd.func81, Tryd.ntmps81
        go_wp2_with (first | (go_at_call_of 75 a; refine ((unhide LA) _ (unhide T)).mono ?_; rintro e w2 ⟨rfl, hb2⟩; replace B := hide (jn (unhide B) hb2); replace T := hide ((unhide T).below hb2); clear hb2) | (go_at_call_of 75 b; refine ((unhide LB) _ (unhide T)).mono ?_; rintro e w2 ⟨rfl, hb2⟩; replace B := hide (jn (unhide B) hb2); replace T := hide ((unhide T).below hb2); clear hb2))
        go_ret
        exact ⟨by rw [unhide HD]; rfl, unhide B⟩
  · have h39 : (m == 39) = false := by simp; omega
    have h58 : (m == 58) = false := by simp; omega
    rw [if_neg h1] at HE
    clear h1
    by_cases h2 : m = 44
    · have HD : Hid (D = (da && db)) := hide (by rw [unhide HE, if_pos h2])
      clear HE
      subst h2
      cases da
      all_goals
        go_enter Tryd.func81, Tryd.ntmps81
        go_wp2_with (first | (go_at_call_of 76 a; refine ((unhide DA) _ (unhide T)).mono ?_; rintro e w2 ⟨rfl, hb2⟩; replace B := hide (jn (unhide B) hb2); replace T := hide ((unhide T).below hb2); clear hb2) | (go_at_call_of 76 b; refine ((unhide DB) _ (unhide T)).mono ?_; rintro e w2 ⟨rfl, hb2⟩; replace B := hide (jn (unhide B) hb2); replace T := hide ((unhide T).below hb2); clear hb2))
        go_ret
        exact ⟨by rw [unhide HD]; rfl, unhide B⟩
    · have h44 : (m == 44) = false := by simp; omega
      rw [if_neg h2] at HE
      clear h2
      by_cases h3 : m = 46
      · have HD : Hid (D = ((la && lb) || (da && db))) := hide (by rw [unhide HE, if_pos h3])
        clear HE
        subst h3
        cases la <;> cases lb <;> cases da
        all_goals
          go_enter Tryd.func81, Tryd.ntmps81
          go_wp2_with (first | (go_at_call_of 75 a; refine ((unhide LA) _ (unhide T)).mono ?_; rintro e w2 ⟨rfl, hb2⟩; replace B := hide (jn (unhide B) hb2); replace T := hide ((unhide T).below hb2); clear hb2) | (go_at_call_of 75 b; refine ((unhide LB) _ (unhide T)).mono ?_; rintro e w2 ⟨rfl, hb2⟩; replace B := hide (jn (unhide B) hb2); replace T := hide ((unhide T).below hb2); clear hb2) | (go_at_call_of 76 a; refine ((unhide DA) _ (unhide T)).mono ?_; rintro e w2 ⟨rfl, hb2⟩; replace B := hide (jn (unhide B) hb2); replace T := hide ((unhide T).below hb2); clear hb2) | (go_at_call_of 76 b; refine ((unhide DB) _ (unhide T)).mono ?_; rintro e w2 ⟨rfl, hb2⟩; replace B := hide (jn (unhide B) hb2); replace T := hide ((unhide T).below hb2); clear hb2))
          go_ret
          exact ⟨by rw [unhide HD]; rfl, unhide B⟩
      · have h46 : (m == 46) = false := by simp; omega
        have HD : Hid (D = false) := hide (by rw [unhide HE, if_neg h3])
        clear HE h3
        go_enter Tryd.func81, Tryd.ntmps81
        go_wp2
        go_ret
        exact ⟨by rw [unhide HD]; rfl, unhide B⟩
set_option maxRecDepth 100000 in
theorem rl0 (x : WPl) (w : World) : Calls Tryd.prog 56 #[wpV x] w fun e w' => e = .returned (.bool (rl 0 x)) ∧ Below w.heap.size w w' := by
  obtain ⟨b, l, r, h, n⟩ := x
  unfold wpV rl
  simp only
  go_enter Tryd.func56, Tryd.ntmps56
  go_wp2
  go_ret
  exact ⟨rfl, bel1 _ _⟩
set_option maxRecDepth 100000 in
set_option maxHeartbeats 1000000 in
theorem rl1 (x : WPl) (w : World) (ht : TabAt w) : Calls Tryd.prog 57 #[wpV x] w fun e w' => e = .returned (.bool (rl 1 x)) ∧ Below w.heap.size w w' := by
  obtain ⟨b, l, r, h, n⟩ := x
  have T := hide (ht.alloc (.cells #[.int .i64 b, .int .i64 l, .int .i64 r, .int .i64 h, .bool n] 62))
  have B := hide (bel1 w (.cells #[.int .i64 b, .int .i64 l, .int .i64 r, .int .i64 h, .bool n] 62))
  clear ht
  unfold wpV rl
  simp only
  have CL := hide (fun W (h : TabAt W) => ctlB l W h)
  have CR := hide (fun W (h : TabAt W) => ctlB r W h)
  generalize ctl l = cl at *
  generalize ctl r = cr at *
  cases cl
  all_goals
    go_enter Tryd.func57, Tryd.ntmps57
    go_wp2_with (first | (go_at_call_of 66 l; refine ((unhide CL) _ (unhide T)).mono ?_; rintro e w2 ⟨rfl, hb2⟩; have q2 := hb2.cell (p := ⟨w.heap.size, 2, none⟩) (by simp); simp at q2; replace B := hide (jn (unhide B) hb2); replace T := hide ((unhide T).below hb2); clear hb2) | (go_at_call_of 66 r; refine ((unhide CR) _ (unhide T)).mono ?_; rintro e w2 ⟨rfl, hb2⟩; replace B := hide (jn (unhide B) hb2); replace T := hide ((unhide T).below hb2); clear hb2))
    go_ret
    exact ⟨rfl, unhide B⟩
set_option maxRecDepth 100000 in
set_option maxHeartbeats 1000000 in
theorem rl2 (x : WPl) (w : World) (ht : TabAt w) : Calls Tryd.prog 58 #[wpV x] w fun e w' => e = .returned (.bool (rl 2 x)) ∧ Below w.heap.size w w' := by
  obtain ⟨b, l, r, h, n⟩ := x
  have T := hide (ht.alloc (.cells #[.int .i64 b, .int .i64 l, .int .i64 r, .int .i64 h, .bool n] 62))
  have B := hide (bel1 w (.cells #[.int .i64 b, .int .i64 l, .int .i64 r, .int .i64 h, .bool n] 62))
  clear ht
  unfold wpV rl
  simp only
  have CL := hide (fun W (h : TabAt W) => spaceB l W h)
  have CR := hide (fun W (h : TabAt W) => spaceB r W h)
  generalize (cat l == 2) = cl at *
  generalize (cat r == 2) = cr at *
  cases cl
  all_goals
    go_enter Tryd.func58, Tryd.ntmps58
    go_wp2_with (first | (go_at_call_of 67 l; refine ((unhide CL) _ (unhide T)).mono ?_; rintro e w2 ⟨rfl, hb2⟩; have q2 := hb2.cell (p := ⟨w.heap.size, 2, none⟩) (by simp); simp at q2; replace B := hide (jn (unhide B) hb2); replace T := hide ((unhide T).below hb2); clear hb2) | (go_at_call_of 67 r; refine ((unhide CR) _ (unhide T)).mono ?_; rintro e w2 ⟨rfl, hb2⟩; replace B := hide (jn (unhide B) hb2); replace T := hide ((unhide T).below hb2); clear hb2))
    go_ret
    exact ⟨rfl, unhide B⟩
set_option maxRecDepth 100000 in
set_option maxHeartbeats 1000000 in
theorem rl3 (x : WPl) (w : World) (ht : TabAt w) : Calls Tryd.prog 59 #[wpV x] w fun e w' => e = .returned (.bool (rl 3 x)) ∧ Below w.heap.size w w' := by
  obtain ⟨b, l, r, h, n⟩ := x
  have T := hide (ht.alloc (.cells #[.int .i64 b, .int .i64 l, .int .i64 r, .int .i64 h, .bool n] 62))
  have B := hide (bel1 w (.cells #[.int .i64 b, .int .i64 l, .int .i64 r, .int .i64 h, .bool n] 62))
  clear ht
  unfold wpV rl
  simp only
  have CL := hide (fun W (h : TabAt W) => lodB l W h)
  have CR := hide (fun W (h : TabAt W) => lodB r W h)
  generalize lod l = cl at *
  generalize lod r = cr at *
  cases cl
  all_goals
    go_enter Tryd.func59, Tryd.ntmps59
    go_wp2_with (first | (go_at_call_of 45 l; refine ((unhide CL) _ (unhide T)).mono ?_; rintro e w2 ⟨rfl, hb2⟩; have q2 := hb2.cell (p := ⟨w.heap.size, 2, none⟩) (by simp); simp at q2; replace B := hide (jn (unhide B) hb2); replace T := hide ((unhide T).below hb2); clear hb2) | (go_at_call_of 45 r; refine ((unhide CR) _ (unhide T)).mono ?_; rintro e w2 ⟨rfl, hb2⟩; replace B := hide (jn (unhide B) hb2); replace T := hide ((unhide T).below hb2); clear hb2))
    go_ret
    exact ⟨rfl, unhide B⟩
set_option maxRecDepth 100000 in
set_option maxHeartbeats 1000000 in
theorem rl4 (x : WPl) (w : World) (ht : TabAt w) : Calls Tryd.prog 60 #[wpV x] w fun e w' => e = .returned (.bool (rl 4 x)) ∧ Below w.heap.size w w' := by
  obtain ⟨b, l, r, h, n⟩ := x
  have T := hide (ht.alloc (.cells #[.int .i64 b, .int .i64 l, .int .i64 r, .int .i64 h, .bool n] 62))
  have B := hide (bel1 w (.cells #[.int .i64 b, .int .i64 l, .int .i64 r, .int .i64 h, .bool n] 62))
  clear ht
  unfold wpV rl
  simp only
  have CL := hide (fun W (h : TabAt W) => joiB b l r W h)
  have CR := hide (fun W (k : TabAt W) => joiB l r h W k)
  generalize joi b l r = cl at *
  generalize joi l r h = cr at *
  cases cl
  all_goals
    go_enter Tryd.func60, Tryd.ntmps60
    go_wp2_with (first | (go_at_call_of 81 b; refine ((unhide CL) _ (unhide T)).mono ?_; rintro e w2 ⟨rfl, hb2⟩; have q1 := hb2.cell (p := ⟨w.heap.size, 1, none⟩) (by simp); simp at q1; have q2 := hb2.cell (p := ⟨w.heap.size, 2, none⟩) (by simp); simp at q2; have q3 := hb2.cell (p := ⟨w.heap.size, 3, none⟩) (by simp); simp at q3; replace B := hide (jn (unhide B) hb2); replace T := hide ((unhide T).below hb2); clear hb2) | (go_at_call_of 81 l; refine ((unhide CR) _ (unhide T)).mono ?_; rintro e w2 ⟨rfl, hb2⟩; replace B := hide (jn (unhide B) hb2); replace T := hide ((unhide T).below hb2); clear hb2))
    go_ret
    exact ⟨rfl, unhide B⟩
set_option maxRecDepth 100000 in
set_option maxHeartbeats 1000000 in
theorem rl6 (x : WPl) (w : World) (ht : TabAt w) : Calls Tryd.prog 62 #[wpV x] w fun e w' => e = .returned (.bool (rl 6 x)) ∧ Below w.heap.size w w' := by
  obtain ⟨b, l, r, h, n⟩ := x
  have T := hide (ht.alloc (.cells #[.int .i64 b, .int .i64 l, .int .i64 r, .int .i64 h, .bool n] 62))
  have B := hide (bel1 w (.cells #[.int .i64 b, .int .i64 l, .int .i64 r, .int .i64 h, .bool n] 62))
  clear ht
  unfold wpV rl
  simp only
  have CL := hide (fun W (h : TabAt W) => isPart_any l W h)
  have CR := hide (fun W (h : TabAt W) => isPart_any r W h)
  generalize (scr l == 8) = cl at *
  generalize (scr r == 8) = cr at *
  cases cl
  all_goals
    go_enter Tryd.func62, Tryd.ntmps62
    go_wp2_with (first | (go_at_call_of 46 l; refine ((unhide CL) _ (unhide T)).mono ?_; rintro e w2 ⟨rfl, hb2⟩; have q2 := hb2.cell (p := ⟨w.heap.size, 2, none⟩) (by simp); simp at q2; replace B := hide (jn (unhide B) hb2); replace T := hide ((unhide T).below hb2); clear hb2) | (go_at_call_of 46 r; refine ((unhide CR) _ (unhide T)).mono ?_; rintro e w2 ⟨rfl, hb2⟩; replace B := hide (jn (unhide B) hb2); replace T := hide ((unhide T).below hb2); clear hb2))
    go_ret
    exact ⟨rfl, unhide B⟩
end Wrd
end Go.Proofs.YtdgafmhjbgddkaaDoor
