/- Rows of glyphs, five numbers each: a copy, what is alike, marks. -/
import Derived.Test.YtccnjjkechdknaaRulC
import Derived.Test.YtccnjjkechdknaaAppG
import Derived.Handy
namespace Go.Proofs.Ytccnjjkechdknaa.Rul
open Go.RowKit
set_option linter.unusedVariables false
abbrev Gl := Int × Int × Int × Int × Int
def cel (g : Gl) : List Int := [g.1, g.2.1, g.2.2.1, g.2.2.2.1, g.2.2.2.2]
def flt (G : List Gl) : List Int := G.flatMap cel
theorem flt_app (G H : List Gl) : flt (G ++ H) = flt G ++ flt H := by simp [flt]
theorem flt_one (g : Gl) : flt [g] = cel g := by simp [flt]
theorem flt_len (G : List Gl) : (flt G).length = G.length * 5 := by
  induction G with
  | nil => rfl
  | cons g t ih =>
    have : flt (g :: t) = cel g ++ flt t := by simp [flt]
    rw [this, List.length_append, ih]
    simp [cel]
    omega
def gl0 : Gl := (0, 0, 0, 0, 0)
def gat (G : List Gl) (k : Nat) : Gl := G.getD k gl0
theorem nth_flt (G : List Gl) (k j : Nat) (hk : k < G.length) (hj : j < 5) : nth (flt G) (k * 5 + j) = nth (cel (gat G k)) j := by
  induction G generalizing k with
  | nil => simp at hk
  | cons g t ih =>
    have e : flt (g :: t) = cel g ++ flt t := by simp [flt]
    have el : (cel g).length = 5 := rfl
    rw [e]
    cases k with
    | zero =>
      have : nth (cel g ++ flt t) (0 * 5 + j) = nth (cel g) j := by
        unfold nth List.getD
        rw [Nat.zero_mul, Nat.zero_add, List.getElem?_append_left (by omega)]
      rw [this]
      rfl
    | succ k =>
      have h2 : nth (cel g ++ flt t) ((k + 1) * 5 + j) = nth (flt t) (k * 5 + j) := by
        unfold nth List.getD
        rw [List.getElem?_append_right (by omega), el]
        congr 2
        omega
      rw [h2, ih k (by simpa using hk)]
      rfl
/-- A slice value that holds just the glyphs G. -/
def GA (w : World) (v : Value) (G : List Gl) : Prop :=
  ∃ a cap, v = .slice a G.length cap ∧ (G = [] ∨ ∃ b off, a = some ⟨b, off, none⟩ ∧ b < w.heap.size ∧ ∀ j, j < G.length * 5 → w.cell? ⟨b, off + j, none⟩ = some (.int .i64 (nth (flt G) j)))
theorem GA.below {w w' : World} {v : Value} {G : List Gl} (h : GA w v G) (hb : Below w.heap.size w w') : GA w' v G := by
  obtain ⟨a, cap, rfl, h⟩ := h
  refine ⟨a, cap, rfl, ?_⟩
  rcases h with h | ⟨b, off, rfl, hbs, hc⟩
  · exact .inl h
  · exact .inr ⟨b, off, rfl, Nat.lt_of_lt_of_le hbs hb.size, fun j hj => (hb.cell (p := ⟨b, off + j, none⟩) hbs).trans (hc j hj)⟩
/-- The five numbers of a glyph in memory. -/
def Five (w : World) (b o : Nat) (g : Gl) : Prop := w.cell? ⟨b, o, none⟩ = some (.int .i64 g.1) ∧ w.cell? ⟨b, o + 1, none⟩ = some (.int .i64 g.2.1) ∧ w.cell? ⟨b, o + 2, none⟩ = some (.int .i64 g.2.2.1) ∧ w.cell? ⟨b, o + 3, none⟩ = some (.int .i64 g.2.2.2.1) ∧ w.cell? ⟨b, o + 4, none⟩ = some (.int .i64 g.2.2.2.2)
theorem five_of {w : World} {b off : Nat} {G : List Gl} (hc : ∀ j, j < G.length * 5 → w.cell? ⟨b, off + j, none⟩ = some (.int .i64 (nth (flt G) j))) (k : Nat) (hk : k < G.length) : Five w b (off + k * 5) (gat G k) := by
  have n0 := nth_flt G k 0 hk (by omega)
  have n1 := nth_flt G k 1 hk (by omega)
  have n2 := nth_flt G k 2 hk (by omega)
  have n3 := nth_flt G k 3 hk (by omega)
  have n4 := nth_flt G k 4 hk (by omega)
  have c0 := hc (k * 5 + 0) (by omega)
  have c1 := hc (k * 5 + 1) (by omega)
  have c2 := hc (k * 5 + 2) (by omega)
  have c3 := hc (k * 5 + 3) (by omega)
  have c4 := hc (k * 5 + 4) (by omega)
  rw [n0, ← Nat.add_assoc] at c0
  rw [n1, ← Nat.add_assoc] at c1
  rw [n2, ← Nat.add_assoc] at c2
  rw [n3, ← Nat.add_assoc] at c3
  rw [n4, ← Nat.add_assoc] at c4
  exact ⟨c0, c1, c2, c3, c4⟩
theorem GA.form {w : World} {v : Value} {G : List Gl} (h : GA w v G) : ∃ a cap, v = .slice a G.length cap ∧ ∀ k, k < G.length → ∃ b off, a = some ⟨b, off, none⟩ ∧ b < w.heap.size ∧ Five w b (off + k * 5) (gat G k) := by
  obtain ⟨a, cap, rfl, h⟩ := h
  refine ⟨a, cap, rfl, fun k hk => ?_⟩
  rcases h with rfl | ⟨b, off, rfl, hbs, hc⟩
  · simp at hk
  · exact ⟨b, off, rfl, hbs, five_of hc k hk⟩
theorem Five.below {w w' : World} {b o : Nat} {g : Gl} (h : Five w b o g) (hb : Below w.heap.size w w') (hl : b < w.heap.size) : Five w' b o g :=
  ⟨(hb.cell (p := ⟨b, o, none⟩) hl).trans h.1, (hb.cell (p := ⟨b, o + 1, none⟩) hl).trans h.2.1, (hb.cell (p := ⟨b, o + 2, none⟩) hl).trans h.2.2.1, (hb.cell (p := ⟨b, o + 3, none⟩) hl).trans h.2.2.2.1, (hb.cell (p := ⟨b, o + 4, none⟩) hl).trans h.2.2.2.2⟩
/-- A row of m glyphs of one's own, its numbers one behind the other. -/
def FR (w : World) (B : Nat) (v : Value) (m : Nat) (F : List Int) : Prop := w.ownsRow B 71 5 v m (F.map (Value.int .i64))
theorem FR.len {w : World} {B : Nat} {v : Value} {m : Nat} {F : List Int} (h : FR w B v m F) : F.length = m * 5 := by have := h.1; simpa using this
theorem FR.cell {w : World} {B g c m : Nat} {F : List Int} (h : FR w B (.slice (some ⟨g, 0, none⟩) m c) m F) (i : Nat) (hi : i < m * 5) : w.cell? ⟨g, i, none⟩ = some (.int .i64 (nth F i)) ∧ w.frozen? ⟨g, i, none⟩ = false := by
  refine ⟨?_, World.ownsRow.frozenAt h i⟩
  have e := h.len
  rw [World.ownsRow.cellAt h i (by omega), List.getElem?_map]
  simp [nth, List.getD, e, hi]
theorem FR.set {w : World} {B g c m : Nat} {F : List Int} (h : FR w B (.slice (some ⟨g, 0, none⟩) m c) m F) (i : Nat) (x : Int) : FR (w.setCell ⟨g, i, none⟩ (.int .i64 x)) B (.slice (some ⟨g, 0, none⟩) m c) m (F.set i x) := by
  unfold FR
  rw [List.map_set]
  exact (World.ownsRow.stored h i (.int .i64 x)).1
theorem FR.below {w w' : World} {B : Nat} {v : Value} {m : Nat} {F : List Int} (h : FR w B v m F) (hb : Below w.heap.size w w') : FR w' B v m F := ownsRow_below h hb
def GR (w : World) (B : Nat) (v : Value) (G : List Gl) : Prop := FR w B v G.length (flt G)
theorem GR.below {w w' : World} {B : Nat} {v : Value} {G : List Gl} (h : GR w B v G) (hb : Below w.heap.size w w') : GR w' B v G := ownsRow_below h hb
theorem GR.nil (w : World) (B : Nat) : GR w B (.slice none 0 0) [] := World.ownsRow_nil _ _ _ _
theorem GR.ga {w : World} {B : Nat} {v : Value} {G : List Gl} (h : GR w B v G) : GA w v G := by
  rcases h.2 with ⟨hv, hn⟩ | ⟨g, cap, cur, hv, hg, hh, hc, _⟩
  · exact ⟨none, 0, by rw [hv, hn], .inl (List.eq_nil_of_length_eq_zero hn)⟩
  · subst hv
    exact ⟨_, _, rfl, .inr ⟨g, 0, rfl, (Array.getElem?_eq_some_iff.1 hh).1, fun j hj => by rw [Nat.zero_add]; exact (FR.cell h j hj).1⟩⟩
theorem nth_setR (l : List Int) (i k : Nat) (x : Int) (hi : i < l.length) : nth (l.set i x) k = if k = i then x else nth l k := by
  unfold nth List.getD
  by_cases e : k = i
  · subst e; simp [hi]
  · rw [if_neg e, List.getElem?_set_ne (by omega)]
/-- The first k numbers of F are those of a row f. -/
def Upf (f : Nat → Int) (F : List Int) (k : Nat) : Prop := ∀ j, j < k → nth F j = f j
theorem Upf.more {f : Nat → Int} {F : List Int} {k : Nat} (h : Upf f F k) (hk : k < F.length) : Upf f (F.set k (f k)) (k + 1) := by
  intro j hj
  rw [nth_setR _ _ _ _ hk]
  by_cases e : j = k
  · rw [if_pos e, e]
  · rw [if_neg e]; exact h j (by omega)
theorem Upf.all {f : Nat → Int} {F L : List Int} (h : Upf f F L.length) (hl : F.length = L.length) (hL : ∀ j, j < L.length → nth L j = f j) : F = L := by
  refine List.ext_getElem hl (fun k h1 h2 => ?_)
  have := (h k h2).trans (hL k h2).symm
  simpa [nth, List.getD, h1, h2] using this
theorem Upf.five {f : Nat → Int} {F : List Int} {k : Nat} (h : Upf f F (k * 5)) (hl : k * 5 + 5 ≤ F.length) :
    Upf f (((((F.set (k * 5) (f (k * 5))).set (k * 5 + 1) (f (k * 5 + 1))).set (k * 5 + 2) (f (k * 5 + 2))).set (k * 5 + 3) (f (k * 5 + 3))).set (k * 5 + 4) (f (k * 5 + 4))) ((k + 1) * 5) := by
  have u1 := h.more (by omega)
  have u2 := u1.more (by simp; omega)
  have u3 := u2.more (by simp; omega)
  have u4 := u3.more (by simp; omega)
  have u5 := u4.more (by simp; omega)
  have e : (k + 1) * 5 = k * 5 + 1 + 1 + 1 + 1 + 1 := by omega
  rw [e]
  exact u5
theorem infoG : (Try.prog.info? 71).map (fun i => (i.zero, i.size, i.bytes)) = some (some (.agg #[.int .i64 0, .int .i64 0, .int .i64 0, .int .i64 0, .int .i64 0]), 5, 40) := by kernel_rfl
set_option maxHeartbeats 2000000 in
theorem toGlyph_any (x f c d e : Int) (w : World) : Calls Try.prog 36 #[.agg #[.int .i64 x, .int .i64 f, .int .i64 c, .int .i64 d, .int .i64 e]] w fun r w' => r = .returned (.agg #[.int .i64 x, .int .i64 f, .int .i64 c, .int .i64 d, .int .i64 e]) ∧ Below w.heap.size w w' := by
  go_enter Try.func36, Try.ntmps36
  go_wp2
  go_returns
  exact ⟨rfl, (((Below.refl _ _).alloc (Nat.le_refl _) _).alloc (by simp) _).alloc (by simp; omega) _⟩
theorem made_flat (n : Nat) : (madeCells #[Value.int .i64 0, .int .i64 0, .int .i64 0, .int .i64 0, .int .i64 0] (n * 5)).toList = (List.replicate (n * 5) (0 : Int)).map (Value.int .i64) := by
  apply List.ext_getElem?
  intro i
  unfold madeCells
  rw [Array.toList_map, List.getElem?_map, Array.toList_range, List.map_replicate]
  by_cases h : i < n * 5
  · rw [List.getElem?_range h, List.getElem?_replicate, if_pos h]
    have hm : i % 5 = 0 ∨ i % 5 = 1 ∨ i % 5 = 2 ∨ i % 5 = 3 ∨ i % 5 = 4 := by omega
    rcases hm with hm | hm | hm | hm | hm <;> simp [hm]
  · rw [List.getElem?_eq_none (by simp; omega), List.getElem?_eq_none (by simp; omega)]
    rfl
set_option maxRecDepth 100000 in
set_option maxHeartbeats 4000000 in
theorem toGlyphs_any (v : Value) (G : List Gl) (w : World) (h : GA w v G) (hl : G.length ≤ 1048576) :
    Calls Try.prog 14 #[v] w fun e w' => e = .returned (.slice (some ⟨w.heap.size, 0, none⟩) G.length G.length) ∧ GR w' w.heap.size (.slice (some ⟨w.heap.size, 0, none⟩) G.length G.length) G ∧ Below w.heap.size w w' := by
  obtain ⟨i0, hi, hz0, hz1, hz2⟩ := info_parts infoG
  obtain ⟨a, cap, rfl, hf⟩ := h.form
  have HC := hide hf
  have HFl := hide (flt_len G)
  clear h hf
  go_enter Try.func14, Try.ntmps14
  go_wp2_with (at_make; refine wpList_make_full _ rfl _ _ 40 rfl w.heap.size 71 i0 (.agg #[.int .i64 0, .int .i64 0, .int .i64 0, .int .i64 0, .int .i64 0]) 5 Try.underlying40 hi hz0 hz1 .i64 .i64 _ _ G.length rfl rfl rfl rfl ?b2 ?b3 ?b4 ?_)
  case b2 => rw [hz2]; omega
  case b3 => unfold maxLen; omega
  case b4 => omega
  intro w1 hown hgrow
  have hown' : w1.ownsRow w.heap.size 71 5 (.slice (some ⟨w.heap.size, 0, none⟩) G.length G.length) G.length ((List.replicate (G.length * 5) (0 : Int)).map (Value.int .i64)) := by
    rw [← made_flat]
    exact hown
  have H1 := hide hown'
  have hb1 := hide (made_below hgrow)
  clear hown hown' hgrow
  go_wp2
  go_loopw [4] (fun i wr => ∃ (k : Nat) (F : List Int), k ≤ G.length ∧ i = .int .i64 k ∧ Hid (Upf (nth (flt G)) F (k * 5)) ∧ Hid (FR wr w.heap.size (.slice (some ⟨w.heap.size, 0, none⟩) G.length G.length) G.length F) ∧ Hid (Below w.heap.size w wr)) (fun i _ => G.length - (intOf i).toNat)
  case atStart => exact ⟨0, _, Nat.zero_le _, rfl, hide (fun j hj => by omega), H1, hb1⟩
  case round =>
    obtain ⟨k, F, hk, rfl, HU, HO, HB⟩ := hrel
    clear H1 hb1
    by_cases hlt : k < G.length
    · have hlt' : (k : Int) < (G.length : Int) := by omega
      obtain ⟨b, off, rfl, hbs, hF⟩ := (unhide HC) k hlt
      obtain ⟨d0, d1, d2, d3, d4⟩ := Five.below (w' := wr) (by exact hF) (by exact (unhide HB)) hbs
      have n0 := nth_flt G k 0 hlt (by omega)
      have n1 := nth_flt G k 1 hlt (by omega)
      have n2 := nth_flt G k 2 hlt (by omega)
      have n3 := nth_flt G k 3 hlt (by omega)
      have n4 := nth_flt G k 4 hlt (by omega)
      have HU2 := hide ((unhide HU).five (by have := (unhide HO).len; omega))
      have hFl := (unhide HO).len
      rw [show nth (flt G) (k * 5) = (gat G k).1 from n0, show nth (flt G) (k * 5 + 1) = (gat G k).2.1 from n1, show nth (flt G) (k * 5 + 2) = (gat G k).2.2.1 from n2, show nth (flt G) (k * 5 + 3) = (gat G k).2.2.2.1 from n3, show nth (flt G) (k * 5 + 4) = (gat G k).2.2.2.2 from n4] at HU2
      clear n0 n1 n2 n3 n4 hF HU
      generalize gat G k = r at *
      go_wp2_with fail
      refine (toGlyph_any _ _ _ _ _ _).mono ?_
      rintro e w2 ⟨rfl, hb2⟩
      have HO2 := hide ((unhide HO).below hb2)
      have HB2 := hide ((unhide HB).trans (hb2.mono (unhide HB).size))
      clear hb2 HO HB d0 d1 d2 d3 d4
      obtain ⟨c0, f0⟩ := (unhide HO2).cell (k * 5) (by omega)
      obtain ⟨c1, f1⟩ := (unhide HO2).cell (k * 5 + 1) (by omega)
      obtain ⟨c2, f2⟩ := (unhide HO2).cell (k * 5 + 2) (by omega)
      obtain ⟨c3, f3⟩ := (unhide HO2).cell (k * 5 + 3) (by omega)
      obtain ⟨c4, f4⟩ := (unhide HO2).cell (k * 5 + 4) (by omega)
      have HO3 := hide (((((unhide HO2).set (k * 5) r.1).set (k * 5 + 1) r.2.1).set (k * 5 + 2) r.2.2.1).set (k * 5 + 3) r.2.2.2.1 |>.set (k * 5 + 4) r.2.2.2.2)
      have HB3 := hide ((((((unhide HB2).setCell (p := ⟨w.heap.size, k * 5, none⟩) (Nat.le_refl _) (.int .i64 r.1)).setCell (p := ⟨w.heap.size, k * 5 + 1, none⟩) (Nat.le_refl _) (.int .i64 r.2.1)).setCell (p := ⟨w.heap.size, k * 5 + 2, none⟩) (Nat.le_refl _) (.int .i64 r.2.2.1)).setCell (p := ⟨w.heap.size, k * 5 + 3, none⟩) (Nat.le_refl _) (.int .i64 r.2.2.2.1)).setCell (p := ⟨w.heap.size, k * 5 + 4, none⟩) (Nat.le_refl _) (.int .i64 r.2.2.2.2))
      generalize nth F (k * 5) = z0 at c0
      generalize nth F (k * 5 + 1) = z1 at c1
      generalize nth F (k * 5 + 2) = z2 at c2
      generalize nth F (k * 5 + 3) = z3 at c3
      generalize nth F (k * 5 + 4) = z4 at c4
      clear HO2 HB2 hFl
      go_wp2
      go_roundw
      case rel => exact ⟨k + 1, _, by omega, by go_num, HU2, HO3, HB3⟩
      case measure => simp [intOf]; omega
    · obtain rfl : k = G.length := by omega
      have e : F = flt G := Upf.all (f := nth (flt G)) (by rw [unhide HFl]; exact unhide HU) (by rw [unhide HFl]; exact (unhide HO).len) (fun _ _ => rfl)
      subst e
      go_wp2
      go_ret
      exact ⟨rfl, unhide HO, unhide HB⟩
set_option maxHeartbeats 1000000 in
theorem eqGlyph_any (x f c d e : Int) (w : World) : Calls Try.prog 39 #[.agg #[.int .i64 x, .int .i64 f, .int .i64 c, .int .i64 d, .int .i64 e], .agg #[.int .i64 x, .int .i64 f, .int .i64 c, .int .i64 d, .int .i64 e]] w fun r w' => r = .returned (.bool true) ∧ Below w.heap.size w w' := by
  have h1 : (x != x) = false := by simp
  have h2 : (f != f) = false := by simp
  have h3 : (c != c) = false := by simp
  have h4 : (d != d) = false := by simp
  have h5 : (e != e) = false := by simp
  go_enter Try.func39, Try.ntmps39
  go_wp2
  go_ret
  exact ⟨rfl, ((Below.refl _ _).alloc (Nat.le_refl _) _).alloc (by simp) _⟩
set_option maxHeartbeats 4000000 in
set_option maxRecDepth 100000 in
theorem eqGlyphs_any (v1 v2 : Value) (G : List Gl) (w : World) (h1 : GA w v1 G) (h2 : GA w v2 G) (hl : G.length ≤ 1048576) :
    Calls Try.prog 16 #[v1, v2] w fun e w' => e = .returned (.bool true) ∧ Below w.heap.size w w' := by
  obtain ⟨a1, c1, rfl, hg1⟩ := h1.form
  obtain ⟨a2, c2, rfl, hg2⟩ := h2.form
  have G1 := hide hg1
  have G2 := hide hg2
  clear h1 h2 hg1 hg2
  have hne : ((G.length : Int) != (G.length : Int)) = false := by simp
  go_enter Try.func16, Try.ntmps16
  go_wp2
  go_loopw [5] (fun i wr => ∃ k : Nat, k ≤ G.length ∧ i = .int .i64 k ∧ Hid (Below w.heap.size w wr)) (fun i _ => G.length - (intOf i).toNat)
  case atStart => exact ⟨0, Nat.zero_le _, rfl, hide (Below.refl _ _)⟩
  case round =>
    obtain ⟨k, hk, rfl, HB⟩ := hrel
    by_cases hlt : k < G.length
    · obtain ⟨b1, o1, rfl, hb1, hF1⟩ := (unhide G1) k hlt
      obtain ⟨b2, o2, rfl, hb2, hF2⟩ := (unhide G2) k hlt
      obtain ⟨x0, x1, x2, x3, x4⟩ := hF1.below (unhide HB) hb1
      obtain ⟨y0, y1, y2, y3, y4⟩ := hF2.below (unhide HB) hb2
      have hlt' : (k : Int) < (G.length : Int) := by omega
      have h0k : (0 : Int) ≤ (k : Int) := by omega
      clear hF1 hF2
      generalize (gat G k).1 = r0 at *
      generalize (gat G k).2.1 = r1 at *
      generalize (gat G k).2.2.1 = r2 at *
      generalize (gat G k).2.2.2.1 = r3 at *
      generalize (gat G k).2.2.2.2 = r4 at *
      go_wp2_with fail
      go_region_with (go_at_call 39; refine (eqGlyph_any _ _ _ _ _ _).mono ?_; rintro e w2 ⟨rfl, hb2⟩)
      all_goals
        have HB' := hide ((unhide HB).trans (((drew_bel wr).trans hb2).mono (unhide HB).size))
        clear hb2
        go_wp2
        go_roundw
        case rel => exact ⟨k + 1, by omega, by go_num, HB'⟩
        case measure => simp [intOf]; omega
    · go_wp2
      go_ret
      exact ⟨rfl, unhide HB⟩
/-- The marks m0, m0 + 1 and so on. -/
def mkf (m0 : Int) (j : Nat) : Int := m0 + (j : Int)
def mks (m0 : Int) (n : Nat) : List Int := (List.range n).map (mkf m0)
theorem mks_len (m0 : Int) (n : Nat) : (mks m0 n).length = n := by simp [mks]
theorem mks_at (m0 : Int) (n k : Nat) (h : k < n) : nth (mks m0 n) k = mkf m0 k := by simp [mks, nth, List.getD, h]
set_option maxRecDepth 100000 in
set_option maxHeartbeats 4000000 in
theorem markG_pos (B g cap m : Nat) (m0 : Int) (F : List Int) (w : World) (hm : 0 ≤ m0 ∧ m0 ≤ 100000000) (hn : m ≤ 1048576) (h : FR w B (.slice (some ⟨g, 0, none⟩) m cap) m F) :
    Calls Try.prog 19 #[.slice (some ⟨g, 0, none⟩) m cap, .int .i64 m0] w fun e w' => e = .returned (.int .i64 (m0 + (m : Int) * 5)) ∧ FR w' B (.slice (some ⟨g, 0, none⟩) m cap) m (mks m0 (m * 5)) ∧ w.grownBy w' (some g) := by
  have H := hide h
  clear h
  go_enter Try.func19, Try.ntmps19
  go_wp2
  go_loopw [1, 5] (fun mv i wr => ∃ (k : Nat) (F' : List Int), k ≤ m ∧ i = .int .i64 k ∧ mv = .int .i64 (m0 + (k : Int) * 5) ∧ Hid (Upf (mkf m0) F' (k * 5)) ∧ Hid (FR wr B (.slice (some ⟨g, 0, none⟩) m cap) m F') ∧ Hid (w.grownBy wr (some g))) (fun _ i _ => m - (intOf i).toNat)
  case atStart => exact ⟨0, F, Nat.zero_le _, rfl, by simp, hide (fun j hj => by omega), H, hide (grown_refl _ _)⟩
  case round =>
    obtain ⟨k, F', hk, rfl, rfl, HU, HO, HB⟩ := hrel
    clear H
    by_cases hlt : k < m
    · have hlt' : (k : Int) < (m : Int) := by omega
      have hl := (unhide HO).len
      have e0 : mkf m0 (k * 5) = m0 + (k : Int) * 5 := by unfold mkf; omega
      have e1 : mkf m0 (k * 5 + 1) = m0 + (k : Int) * 5 + 1 := by unfold mkf; omega
      have e2 : mkf m0 (k * 5 + 2) = m0 + (k : Int) * 5 + 1 + 1 := by unfold mkf; omega
      have e3 : mkf m0 (k * 5 + 3) = m0 + (k : Int) * 5 + 1 + 1 + 1 := by unfold mkf; omega
      have e4 : mkf m0 (k * 5 + 4) = m0 + (k : Int) * 5 + 1 + 1 + 1 + 1 := by unfold mkf; omega
      have HU2 := hide ((unhide HU).five (by omega))
      rw [e0, e1, e2, e3, e4] at HU2
      obtain ⟨c0, f0⟩ := (unhide HO).cell (k * 5) (by omega)
      have s1 := (unhide HO).set (k * 5) (m0 + (k : Int) * 5)
      obtain ⟨c1, f1⟩ := s1.cell (k * 5 + 1) (by omega)
      have s2 := s1.set (k * 5 + 1) (m0 + (k : Int) * 5 + 1)
      obtain ⟨c2, f2⟩ := s2.cell (k * 5 + 2) (by omega)
      have s3 := s2.set (k * 5 + 2) (m0 + (k : Int) * 5 + 1 + 1)
      obtain ⟨c3, f3⟩ := s3.cell (k * 5 + 3) (by omega)
      have s4 := s3.set (k * 5 + 3) (m0 + (k : Int) * 5 + 1 + 1 + 1)
      obtain ⟨c4, f4⟩ := s4.cell (k * 5 + 4) (by omega)
      have HO2 := hide (s4.set (k * 5 + 4) (m0 + (k : Int) * 5 + 1 + 1 + 1 + 1))
      have HB2 := hide (grown_set (j := k * 5 + 4) (u := .int .i64 (m0 + (k : Int) * 5 + 1 + 1 + 1 + 1)) (grown_set (j := k * 5 + 3) (u := .int .i64 (m0 + (k : Int) * 5 + 1 + 1 + 1)) (grown_set (j := k * 5 + 2) (u := .int .i64 (m0 + (k : Int) * 5 + 1 + 1)) (grown_set (j := k * 5 + 1) (u := .int .i64 (m0 + (k : Int) * 5 + 1)) (grown_set (j := k * 5) (u := .int .i64 (m0 + (k : Int) * 5)) (unhide HB))))))
      clear s1 s2 s3 s4 HO HB HU hl e0 e1 e2 e3 e4
      go_wp2
      go_roundw
      case rel => exact ⟨k + 1, _, by omega, by go_num, by go_num, HU2, HO2, HB2⟩
      case measure => simp [intOf]; omega
    · obtain rfl : k = m := by omega
      have e : F' = mks m0 (k * 5) := Upf.all (f := mkf m0) (by rw [mks_len]; exact unhide HU) (by rw [mks_len]; exact (unhide HO).len) (fun j hj => mks_at _ _ _ (by rw [mks_len] at hj; exact hj))
      subst e
      go_wp2
      go_ret
      exact ⟨rfl, unhide HO, unhide HB⟩
theorem markG_nil (a : Option Addr) (cap : Nat) (m0 : Int) (w : World) : Calls Try.prog 19 #[.slice a 0 cap, .int .i64 m0] w fun e w' => e = .returned (.int .i64 m0) ∧ w' = w := by
  go_enter Try.func19, Try.ntmps19
  go_wp2
  go_loop [1, 5] (fun m i => m = .int .i64 m0 ∧ i = .int .i64 0) (fun _ _ => 0)
  case atStart => exact ⟨rfl, rfl⟩
  case round =>
    obtain ⟨rfl, rfl⟩ := hrel
    go_wp2
    go_ret
    exact ⟨rfl, rfl⟩
theorem markG (B m : Nat) (v : Value) (m0 : Int) (F : List Int) (w : World) (hm : 0 ≤ m0 ∧ m0 ≤ 100000000) (hn : m ≤ 1048576) (h : FR w B v m F) :
    Calls Try.prog 19 #[v, .int .i64 m0] w fun e w' => e = .returned (.int .i64 (m0 + (m : Int) * 5)) ∧ FR w' B v m (mks m0 (m * 5)) ∧ w.grownBy w' v.ownBlock := by
  rcases h.2 with ⟨rfl, rfl⟩ | ⟨g, cap, cur, rfl, _⟩
  · refine (markG_nil none 0 m0 w).mono ?_
    rintro e w' ⟨rfl, rfl⟩
    exact ⟨by simp, World.ownsRow_nil w' B 71 5, grown_refl _ _⟩
  · exact markG_pos B g cap m m0 F w hm hn h
set_option maxRecDepth 100000 in
set_option maxHeartbeats 4000000 in
theorem heldG (B m : Nat) (v : Value) (w : World) (hn : m ≤ 1048576) (h : FR w B v m (mks 1 (m * 5))) :
    Calls Try.prog 20 #[v, .int .i64 1] w fun e w' => e = .returned (.int .i64 (1 + (m : Int) * 5)) ∧ w' = w := by
  have hform : ∃ a c, v = .slice a m c ∧ (0 < m → ∃ g, a = some ⟨g, 0, none⟩) := by
    rcases h.2 with ⟨hv, hn⟩ | ⟨g, cap, cur, hv, hg, hh, _⟩
    · exact ⟨none, 0, by rw [hv, hn], fun h => by omega⟩
    · exact ⟨_, _, hv, fun _ => ⟨g, rfl⟩⟩
  obtain ⟨a, c, rfl, hg⟩ := hform
  have H := hide h
  have HG := hide hg
  clear h hg
  go_enter Try.func20, Try.ntmps20
  go_wp2
  go_loopw [1, 5] (fun mv i wr => ∃ k : Nat, k ≤ m ∧ i = .int .i64 k ∧ mv = .int .i64 (1 + (k : Int) * 5) ∧ wr = w) (fun _ i _ => m - (intOf i).toNat)
  case atStart => exact ⟨0, Nat.zero_le _, rfl, by simp, rfl⟩
  case round =>
    obtain ⟨k, hk, rfl, rfl, rfl⟩ := hrel
    by_cases hlt : k < m
    · have hlt' : (k : Int) < (m : Int) := by omega
      obtain ⟨g, rfl⟩ := unhide HG (by omega)
      have c0 := ((unhide H).cell (k * 5) (by omega)).1
      have c1 := ((unhide H).cell (k * 5 + 1) (by omega)).1
      have c2 := ((unhide H).cell (k * 5 + 2) (by omega)).1
      have c3 := ((unhide H).cell (k * 5 + 3) (by omega)).1
      have c4 := ((unhide H).cell (k * 5 + 4) (by omega)).1
      rw [mks_at _ _ _ (by omega), show mkf 1 (k * 5) = 1 + (k : Int) * 5 by unfold mkf; omega] at c0
      rw [mks_at _ _ _ (by omega), show mkf 1 (k * 5 + 1) = 1 + (k : Int) * 5 + 1 by unfold mkf; omega] at c1
      rw [mks_at _ _ _ (by omega), show mkf 1 (k * 5 + 2) = 1 + (k : Int) * 5 + 1 + 1 by unfold mkf; omega] at c2
      rw [mks_at _ _ _ (by omega), show mkf 1 (k * 5 + 3) = 1 + (k : Int) * 5 + 1 + 1 + 1 by unfold mkf; omega] at c3
      rw [mks_at _ _ _ (by omega), show mkf 1 (k * 5 + 4) = 1 + (k : Int) * 5 + 1 + 1 + 1 + 1 by unfold mkf; omega] at c4
      have n0 : ((1 + (k : Int) * 5) != (1 + (k : Int) * 5)) = false := by simp
      have n1 : ((1 + (k : Int) * 5 + 1) != (1 + (k : Int) * 5 + 1)) = false := by simp
      have n2 : ((1 + (k : Int) * 5 + 1 + 1) != (1 + (k : Int) * 5 + 1 + 1)) = false := by simp
      have n3 : ((1 + (k : Int) * 5 + 1 + 1 + 1) != (1 + (k : Int) * 5 + 1 + 1 + 1)) = false := by simp
      have n4 : ((1 + (k : Int) * 5 + 1 + 1 + 1 + 1) != (1 + (k : Int) * 5 + 1 + 1 + 1 + 1)) = false := by simp
      go_wp2
      go_roundw
      case rel => exact ⟨k + 1, by omega, by go_num, by go_num, trivial⟩
      case measure => simp [intOf]; omega
    · obtain rfl : k = m := by omega
      go_wp2
      go_ret
      exact ⟨rfl, rfl⟩
set_option maxHeartbeats 1000000 in
theorem szGlyphs_any (a : Option Addr) (n c : Nat) (m : Int) (hm : 0 ≤ m ∧ m ≤ 1048576) (w : World) (hn : n ≤ 9223372036854775807) :
    Calls Try.prog 11 #[.slice a n c, .int .i64 m] w fun e w' => e = .returned (.int .i64 (lf m n)) ∧ w' = w := by
  by_cases h : m - (n : Int) < 0
  · rw [lf_neg h]
    go_enter Try.func11, Try.ntmps11
    go_wp2
    go_ret
    exact ⟨rfl, rfl⟩
  · rw [lf_pos h]
    go_enter Try.func11, Try.ntmps11
    go_wp2
    go_ret
    exact ⟨rfl, rfl⟩
end Go.Proofs.Ytccnjjkechdknaa.Rul
