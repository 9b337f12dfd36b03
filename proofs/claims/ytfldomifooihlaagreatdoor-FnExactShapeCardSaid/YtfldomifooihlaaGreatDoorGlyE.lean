/- Rows of glyphs: two alike, marks, as the laws ask it. -/
import Derived.Test.YtfldomifooihlaaGreatDoorGlyC
import Derived.Deep.RegionWith
namespace Go.Proofs.YtfldomifooihlaaGreatDoor.Gly
open Go.RowKit Chr
set_option linter.unusedVariables false
set_option maxHeartbeats 1000000 in
theorem eqGlyph_any (x f c d e : Int) (w : World) : Calls Tryz.prog 63 #[.agg #[.int .i64 x, .int .i64 f, .int .i64 c, .int .i64 d, .int .i64 e], .agg #[.int .i64 x, .int .i64 f, .int .i64 c, .int .i64 d, .int .i64 e]] w fun r w' => r = .returned (.bool true) ∧ Below w.heap.size w w' := by
  have h1 : (x != x) = false := by simp
  have h2 : (f != f) = false := by simp
  have h3 : (c != c) = false := by simp
  have h4 : (d != d) = false := by simp
  have h5 : (e != e) = false := by simp
  go_enter Tryz.func63, Tryz.ntmps63
  go_wp2
  go_ret
  exact ⟨rfl, ((Below.refl _ _).alloc (Nat.le_refl _) _).alloc (by simp) _⟩
set_option maxHeartbeats 2000000 in
set_option maxRecDepth 100000 in
theorem eqGlyphs_any (v1 v2 : Value) (G : List (Int × Int × Int)) (B1 B2 : Nat) (w : World) (h1 : GR w B1 v1 G) (h2 : GR w B2 v2 G) (hl : G.length ≤ 1048576) :
    Calls Tryz.prog 29 #[v1, v2] w fun e w' => e = .returned (.bool true) ∧ Below w.heap.size w w' := by
  obtain ⟨a1, c1, rfl, hg1⟩ := h1.form
  obtain ⟨a2, c2, rfl, hg2⟩ := h2.form
  have H1 := hide h1
  have H2 := hide h2
  have G1 : Hid (0 < G.length → ∃ b, a1 = some ⟨b, 0, none⟩) := hide (fun h => by
    rcases hg1 with ⟨_, _, e⟩ | ⟨b, e, _⟩
    · rw [e] at h; simp at h
    · exact ⟨b, e⟩)
  have G2 : Hid (0 < G.length → ∃ b, a2 = some ⟨b, 0, none⟩) := hide (fun h => by
    rcases hg2 with ⟨_, _, e⟩ | ⟨b, e, _⟩
    · rw [e] at h; simp at h
    · exact ⟨b, e⟩)
  clear h1 h2 hg1 hg2
  have hne : ((G.length : Int) != (G.length : Int)) = false := by simp
  go_enter Tryz.func29, Tryz.ntmps29
  go_wp2
  go_loopw [5] (fun i wr => ∃ k : Nat, k ≤ G.length ∧ i = .int .i64 k ∧ Hid (Below w.heap.size w wr)) (fun i _ => G.length - (intOf i).toNat)
  case atStart => exact ⟨0, Nat.zero_le _, rfl, hide (Below.refl _ _)⟩
  case round =>
    obtain ⟨k, hk, rfl, HB⟩ := hrel
    by_cases hlt : k < G.length
    · obtain ⟨b1, rfl⟩ := (unhide G1) (by omega)
      obtain ⟨b2, rfl⟩ := (unhide G2) (by omega)
      obtain ⟨x0, x1, x2, x3, x4⟩ := ((unhide H1).below (unhide HB)).five rfl k hlt
      obtain ⟨y0, y1, y2, y3, y4⟩ := ((unhide H2).below (unhide HB)).five rfl k hlt
      have hlt' : (k : Int) < (G.length : Int) := by omega
      have h0k : (0 : Int) ≤ (k : Int) := by omega
      generalize (gat G k).1 = r at *
      generalize (gat G k).2.1 = q at *
      generalize (gat G k).2.2 = t at *
      go_wp2_with fail
      go_region_with (go_at_call 63; refine (eqGlyph_any _ _ _ _ _ _).mono ?_; rintro e w2 ⟨rfl, hb2⟩)
      all_goals
        have HB' := hide ((unhide HB).trans (((drew_bel wr).trans hb2).mono (unhide HB).size))
        clear hb2
        go_wp2
        go_roundw
        case rel => exact ⟨k + 1, by omega, by go_num, HB'⟩
        case measure => simp [intOf]; omega
    · go_wp2
      go_ret
      exact ⟨rfl, unhide HB⟩
/-- The marks 1, 2 and so on. -/
def mks (n : Nat) : List Int := (List.range n).map fun (i : Nat) => 1 + (i : Int)
theorem mks_len (n : Nat) : (mks n).length = n := by simp [mks]
theorem mks_at (n k : Nat) (h : k < n) : nth (mks n) k = 1 + (k : Int) := by simp [mks, nth, List.getD, h]
theorem nth_setG (l : List Int) (i k : Nat) (x : Int) (hi : i < l.length) : nth (l.set i x) k = if k = i then x else nth l k := by
  unfold nth List.getD
  by_cases e : k = i
  · subst e; simp [hi]
  · rw [if_neg e, List.getElem?_set_ne (by omega)]
/-- The first k numbers are marks. -/
def Upm (F : List Int) (k : Nat) : Prop := ∀ j, j < k → nth F j = 1 + (j : Int)
theorem Upm.more {F : List Int} {k : Nat} (h : Upm F k) (hk : k < F.length) : Upm (F.set k (1 + (k : Int))) (k + 1) := by
  intro j hj
  rw [nth_setG _ _ _ _ hk]
  by_cases e : j = k
  · rw [if_pos e, e]
  · rw [if_neg e]; exact h j (by omega)
theorem Upm.all {F : List Int} {n : Nat} (h : Upm F n) (hl : F.length = n) : F = mks n := by
  refine List.ext_getElem (by rw [mks_len]; exact hl) (fun k h1 h2 => ?_)
  have := h k (by omega)
  have e := mks_at n k (by omega)
  rw [← e] at this
  simpa [nth, List.getD, h1, h2] using this
/-- A row of m glyphs, its numbers one behind the other. -/
def FR (w : World) (B : Nat) (v : Value) (m : Nat) (F : List Int) : Prop := w.ownsRow B 52 5 v m (F.map (Value.int .i64))
theorem FR.len {w : World} {B : Nat} {v : Value} {m : Nat} {F : List Int} (h : FR w B v m F) : F.length = m * 5 := by have := h.1; simpa using this
theorem FR.cell {w : World} {B g c m : Nat} {F : List Int} (h : FR w B (.slice (some ⟨g, 0, none⟩) m c) m F) (i : Nat) (hi : i < m * 5) : w.cell? ⟨g, i, none⟩ = some (.int .i64 (nth F i)) ∧ w.frozen? ⟨g, i, none⟩ = false := by
  refine ⟨?_, World.ownsRow.frozenAt h i⟩
  have e := h.len
  rw [World.ownsRow.cellAt h i (by omega), List.getElem?_map]
  simp [nth, List.getD, e, hi]
theorem FR.set {w : World} {B g c m : Nat} {F : List Int} (h : FR w B (.slice (some ⟨g, 0, none⟩) m c) m F) (i : Nat) (x : Int) : FR (w.setCell ⟨g, i, none⟩ (.int .i64 x)) B (.slice (some ⟨g, 0, none⟩) m c) m (F.set i x) := by
  unfold FR
  rw [List.map_set]
  exact (World.ownsRow.stored h i (.int .i64 x)).1
end Go.Proofs.YtfldomifooihlaaGreatDoor.Gly
