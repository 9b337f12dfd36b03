/- Marks written into spans, told by the one block that they change; the laws of the sets. -/
import Derived.Test.YtnfdkcphmolkiaaUnlA
import Derived.Test.YtnfdkcphmolkiaaSpnE
namespace Go.Proofs.Ytnfdkcphmolkiaa
open Go.RowKit
theorem ownsRow_at {w w' : World} {B : Nat} {e : TypeId} {s : Nat} {v : Value} {n : Nat} {xs : List Value} (h : w.ownsRow B e s v n xs) (hs : ∀ k, v.ownBlock = some k → w'.heap[k]? = w.heap[k]?) : w'.ownsRow B e s v n xs := by
  refine ⟨h.1, ?_⟩
  rcases h.2 with h' | ⟨g, cap, cur, hv, hg, hh, r⟩
  · exact .inl h'
  · exact .inr ⟨g, cap, cur, hv, hg, (hs g (by rw [hv]; rfl)).trans hh, r⟩
theorem grown_refl (w : World) (r : Option Nat) : w.grownBy w r := ⟨rfl, rfl, rfl, Nat.le_refl _, fun _ _ _ => rfl⟩
theorem grown_set {w w' : World} {g j : Nat} {u : Value} (h : w.grownBy w' (some g)) : w.grownBy (w'.setCell ⟨g, j, none⟩ u) (some g) :=
  ⟨h.os, h.tape, h.output, by simp; exact h.size, fun k hk hne => (heap_setCell_other w' ⟨g, j, none⟩ k u (fun e => hne (by rw [e]))).trans (h.block k hk hne)⟩
set_option maxHeartbeats 4000000 in
theorem markF (base g cap n : Nat) (l : List Int) (m0 : Int) (w : World) (hm : 0 ≤ m0 ∧ m0 ≤ 100000000) (hl : l.length = n * 3) (hn : n ≤ 1048576) (h : Fl w base g cap n l) :
    Calls Try.prog 26 #[.slice (some ⟨g, 0, none⟩) n cap, .int .i64 m0] w fun e w' => e = .returned (.int .i64 (m0 + (n : Int) * 3)) ∧ w.grownBy w' (some g) := by
  have H := hide h
  clear h
  go_enter Try.func26, Try.ntmps26
  go_wp2
  go_loopw [1, 5] (fun m i wr => ∃ (k : Nat) (l' : List Int), k ≤ n ∧ i = .int .i64 k ∧ m = .int .i64 (m0 + (k : Int) * 3) ∧ l'.length = n * 3 ∧ Hid (Fl wr base g cap n l') ∧ Hid (w.grownBy wr (some g))) (fun _ i _ => n - (intOf i).toNat)
  case atStart => exact ⟨0, l, Nat.zero_le _, rfl, by simp, hl, H, hide (grown_refl _ _)⟩
  case round =>
    obtain ⟨k, l', hk, rfl, rfl, hl', HO, HB⟩ := hrel
    clear H
    by_cases hlt : k < n
    · have hlt' : (k : Int) < (n : Int) := by omega
      have F1 : Fl (wr.setCell ⟨g, k * 3, none⟩ (.int .i64 (m0 + (k : Int) * 3))) base g cap n (l'.set (k * 3) (m0 + (k : Int) * 3)) := by
        have := (World.ownsRow.stored (unhide HO) (k * 3) (.int .i64 (m0 + (k : Int) * 3))).1
        rw [← List.map_set] at this
        exact this
      have F2 : Fl ((wr.setCell ⟨g, k * 3, none⟩ (.int .i64 (m0 + (k : Int) * 3))).setCell ⟨g, k * 3 + 1, none⟩ (.int .i64 (m0 + (k : Int) * 3 + 1))) base g cap n ((l'.set (k * 3) (m0 + (k : Int) * 3)).set (k * 3 + 1) (m0 + (k : Int) * 3 + 1)) := by
        have := (World.ownsRow.stored F1 (k * 3 + 1) (.int .i64 (m0 + (k : Int) * 3 + 1))).1
        rw [← List.map_set] at this
        exact this
      have F3 : Fl (((wr.setCell ⟨g, k * 3, none⟩ (.int .i64 (m0 + (k : Int) * 3))).setCell ⟨g, k * 3 + 1, none⟩ (.int .i64 (m0 + (k : Int) * 3 + 1))).setCell ⟨g, k * 3 + 2, none⟩ (.int .i64 (m0 + (k : Int) * 3 + 1 + 1))) base g cap n (((l'.set (k * 3) (m0 + (k : Int) * 3)).set (k * 3 + 1) (m0 + (k : Int) * 3 + 1)).set (k * 3 + 2) (m0 + (k : Int) * 3 + 1 + 1)) := by
        have := (World.ownsRow.stored F2 (k * 3 + 2) (.int .i64 (m0 + (k : Int) * 3 + 1 + 1))).1
        rw [← List.map_set] at this
        exact this
      obtain ⟨x0, p0, q0⟩ := (unhide HO).at (k * 3) (by omega)
      obtain ⟨x1, p1, q1⟩ := F1.at (k * 3 + 1) (by simp; omega)
      obtain ⟨x2, p2, q2⟩ := F2.at (k * 3 + 2) (by simp; omega)
      have HO3 := hide F3
      have HB3 := hide (grown_set (j := k * 3 + 2) (u := .int .i64 (m0 + (k : Int) * 3 + 1 + 1)) (grown_set (j := k * 3 + 1) (u := .int .i64 (m0 + (k : Int) * 3 + 1)) (grown_set (j := k * 3) (u := .int .i64 (m0 + (k : Int) * 3)) (unhide HB))))
      clear F1 F2 F3 HO HB
      go_wp2
      go_roundw
      case rel => exact ⟨k + 1, _, by omega, by go_num, by go_num, by simp; exact hl', HO3, HB3⟩
      case measure => simp [intOf]; omega
    · obtain rfl : k = n := by omega
      go_wp2
      go_ret
      exact ⟨rfl, unhide HB⟩
theorem markN (a : Option Addr) (cap : Nat) (m0 : Int) (w : World) : Calls Try.prog 26 #[.slice a 0 cap, .int .i64 m0] w fun e w' => e = .returned (.int .i64 m0) ∧ w' = w := by
  go_enter Try.func26, Try.ntmps26
  go_wp2
  go_loop [1, 5] (fun m i => m = .int .i64 m0 ∧ i = .int .i64 0) (fun _ _ => 0)
  case atStart => exact ⟨rfl, rfl⟩
  case round =>
    obtain ⟨rfl, rfl⟩ := hrel
    go_wp2
    go_ret
    exact ⟨rfl, rfl⟩
/-- Marks into a row at block g: only that block changes. -/
theorem markG (B g n cap : Nat) (L : List Sp) (m0 : Int) (w : World) (hm : 0 ≤ m0 ∧ m0 ≤ 100000000) (hn : n = L.length) (hl : L.length ≤ 1048576) (h : SpRow w B (.slice (some ⟨g, 0, none⟩) n cap) L) :
    Calls Try.prog 26 #[.slice (some ⟨g, 0, none⟩) n cap, .int .i64 m0] w fun e w' => e = .returned (.int .i64 (m0 + (n : Int) * 3)) ∧ w.grownBy w' (some g) := by
  subst hn
  refine markF B g cap L.length (fl L) m0 w hm (fl_len L) hl ?_
  unfold Fl
  rw [← cells_fl]
  exact h
theorem row_grown {w w' : World} {B g : Nat} {v : Value} {L : List Sp} (h : SpRow w B v L) (hg : w.grownBy w' (some g)) (hne : ∀ k, v.ownBlock = some k → k ≠ g) : SpRow w' B v L :=
  World.ownsRow.kept h hg (.inr (fun e => by
    exact hne g e rfl))
theorem row_belowB {w w' : World} {B N : Nat} {v : Value} {L : List Sp} (h : SpRow w B v L) (hb : Below N w w') (hl : ∀ k, v.ownBlock = some k → k < N) : SpRow w' B v L :=
  ownsRow_at h (fun k hk => hb.block k (hl k hk))
theorem grown_below {w w' : World} {g B : Nat} (h : w.grownBy w' (some g)) (hB : B ≤ g) (hs : B ≤ w.heap.size) : Below B w w' :=
  (Below.refl B w).grown h hs (fun k hk => by injection hk with hk; omega)
end Go.Proofs.Ytnfdkcphmolkiaa
