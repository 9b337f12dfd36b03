/- Several texts in one. -/
import Derived.Test.YtfldomifooihlaaGreatDoorHA
import Derived.Laws.AppendOwnNone
import Derived.Test.YtfldomifooihlaaGreatDoorMG
import Derived.Deep.Cut
/- Vowels that stand ahead of their consonants, told without memory: what is held back, and what is found by going back, are one. -/
namespace Go.Proofs.YtfldomifooihlaaGreatDoor.Gly
open Go.RowKit
set_option linter.unusedVariables false
def vwa (p : Int) : Bool := (decide (1568 ≤ p) && decide (p ≤ 1579)) && decide (p.tmod 2 = 0)
def con (p : Int) : Bool := decide (1536 ≤ p) && decide (p ≤ 1567)
def bin (p : Int) : Bool := p == 1584 || p == 1585
/-- Going back: over strokes and dots to a consonant (false), over dots to a stroke (true). -/
def fS : List Int → Bool → Nat → Nat
  | [], _, s => s
  | x :: t, false, s => if bin x = true then fS t false s else if con x = true then fS t true t.length else s
  | x :: t, true, s => if (x == 1585) = true then fS t true s else if (x == 1584) = true then fS t false s else s
def fA (r : List Int) (s : Nat) : Nat := fS r false s
def fB (r : List Int) (s : Nat) : Nat := fS r true s
theorem fA_nil (s : Nat) : fA [] s = s := rfl
theorem fB_nil (s : Nat) : fB [] s = s := rfl
theorem fA_cons (x : Int) (t : List Int) (s : Nat) : fA (x :: t) s = if bin x = true then fA t s else if con x = true then fB t t.length else s := rfl
theorem fB_cons (x : Int) (t : List Int) (s : Nat) : fB (x :: t) s = if (x == 1585) = true then fB t s else if (x == 1584) = true then fA t s else s := rfl
theorem con_bin {p : Int} (h : con p = true) : bin p = false := by
  unfold con at h; unfold bin
  simp at h ⊢
  omega
theorem vwa_con {p : Int} (h : vwa p = true) : con p = false ∧ bin p = false := by
  unfold vwa at h; unfold con bin
  simp at h ⊢
  omega
/-- Nothing ahead binds. -/
def Stp (r : List Int) : Prop := ∀ s, fB r s = s
theorem stp_of (r : List Int) (h : ∀ s, fA r s = s) : Stp r := by
  induction r with
  | nil => exact fun s => fB_nil s
  | cons x t ih =>
    intro s
    rw [fB_cons]
    by_cases h1 : (x == 1585) = true
    · rw [if_pos h1]
      exact ih (fun s => by
        have := h s
        rw [fA_cons, if_pos (by unfold bin; rw [h1]; simp)] at this
        exact this) s
    · rw [if_neg h1]
      by_cases h2 : (x == 1584) = true
      · rw [if_pos h2]
        have := h s
        rw [fA_cons, if_pos (by unfold bin; rw [h2]; simp)] at this
        exact this
      · rw [if_neg h2]
theorem stp_x {x : Int} {t : List Int} (h : bin x = false) : Stp (x :: t) := by
  intro s
  unfold bin at h
  simp at h
  rw [fB_cons, if_neg (by simpa using h.2), if_neg (by simpa using h.1)]
/-- What is laid, what is held back, and whether it binds. -/
structure St where
  laid : List (Int × Int × Int)
  held : List (Int × Int × Int)
  bd : Bool
def ids (G : List (Int × Int × Int)) : List Int := G.map (·.1)
def settle (s : St) : St := ⟨s.laid ++ s.held, [], false⟩
def lay (s : St) (g : Int × Int × Int) : St :=
  if vwa g.1 = true then ⟨s.laid ++ [g], s.held, s.bd⟩
  else if con g.1 = true then (if s.bd = true then ⟨s.laid, s.held ++ [g], false⟩ else ⟨s.laid ++ s.held, [g], false⟩)
  else if bin g.1 = true ∧ s.held ≠ [] then ⟨s.laid, s.held ++ [g], s.bd || (g.1 == 1584)⟩
  else ⟨s.laid ++ s.held ++ [g], [], false⟩
/-- Where a glyph goes, as the specification tells it. -/
def ins (O : List (Int × Int × Int)) (g : Int × Int × Int) : List (Int × Int × Int) :=
  if vwa g.1 = true then O.take (fA (ids O).reverse O.length) ++ g :: O.drop (fA (ids O).reverse O.length) else O ++ [g]
structure Inv (s : St) : Prop where
  none : s.held = [] → s.bd = false ∧ ∀ n, fA (ids s.laid).reverse n = n
  stp : s.held ≠ [] → Stp (ids s.laid).reverse
  grp : s.held ≠ [] → ∀ z, Stp z → (∀ n, fA ((ids s.held).reverse ++ z) n = z.length) ∧ (s.bd = true → ∀ n, fB ((ids s.held).reverse ++ z) n = z.length) ∧ (s.bd = false → ∀ n, fB ((ids s.held).reverse ++ z) n = n)
theorem ids_snoc (G : List (Int × Int × Int)) (g : Int × Int × Int) : (ids (G ++ [g])).reverse = g.1 :: (ids G).reverse := by simp [ids]
theorem ids_app (G H : List (Int × Int × Int)) : (ids (G ++ H)).reverse = (ids H).reverse ++ (ids G).reverse := by simp [ids]
theorem inv_zero : Inv ⟨[], [], false⟩ := ⟨fun _ => ⟨rfl, fun n => fA_nil n⟩, fun h => absurd rfl h, fun h => absurd rfl h⟩
theorem inv_lay (s : St) (g : Int × Int × Int) (I : Inv s) : Inv (lay s g) := by
  unfold lay
  by_cases hv : vwa g.1 = true
  · rw [if_pos hv]
    obtain ⟨hc, hb⟩ := vwa_con hv
    refine ⟨fun h => ⟨(I.none h).1, fun n => ?_⟩, fun h => ?_, I.grp⟩
    · dsimp only
      rw [ids_snoc, fA_cons, if_neg (by simp [hb]), if_neg (by simp [hc])]
    · dsimp only
      rw [ids_snoc]
      exact stp_x hb
  · rw [if_neg hv]
    by_cases hc : con g.1 = true
    · rw [if_pos hc]
      have hb := con_bin hc
      have one : ∀ z, Stp z → (∀ n, fA (g.1 :: z) n = z.length) ∧ ∀ n, fB (g.1 :: z) n = n := fun z hz =>
        ⟨fun n => by rw [fA_cons, if_neg (by simp [hb]), if_pos hc]; exact hz _, fun n => stp_x hb n⟩
      by_cases hd : s.bd = true
      · rw [if_pos hd]
        have hh : s.held ≠ [] := fun h => by rw [(I.none h).1] at hd; cases hd
        refine ⟨fun h => by simp at h, fun _ => I.stp hh, fun _ z hz => ⟨fun n => ?_, (fun h => by cases h), fun _ n => ?_⟩⟩
        · dsimp only
          rw [ids_snoc, List.cons_append, fA_cons, if_neg (by simp [hb]), if_pos hc]
          exact (I.grp hh z hz).2.1 hd _
        · dsimp only
          rw [ids_snoc, List.cons_append]
          exact stp_x hb n
      · rw [if_neg hd]
        have hd' : s.bd = false := by simpa using hd
        refine ⟨fun h => by simp at h, fun _ => ?_, fun _ z hz => ⟨fun n => ?_, (fun h => by cases h), fun _ n => ?_⟩⟩
        · dsimp only
          rw [ids_app]
          by_cases hh : s.held = []
          · rw [hh]
            exact stp_of _ (I.none hh).2
          · exact fun n => (I.grp hh _ (I.stp hh)).2.2 hd' n
        · exact (one z hz).1 n
        · exact (one z hz).2 n
    · rw [if_neg hc]
      by_cases hb : bin g.1 = true ∧ s.held ≠ []
      · rw [if_pos hb]
        obtain ⟨hb, hh⟩ := hb
        refine ⟨fun h => by simp at h, fun _ => I.stp hh, fun _ z hz => ⟨fun n => ?_, fun h n => ?_, fun h n => ?_⟩⟩
        · dsimp only
          rw [ids_snoc, List.cons_append, fA_cons, if_pos hb]
          exact (I.grp hh z hz).1 n
        · dsimp only at h ⊢
          rw [ids_snoc, List.cons_append, fB_cons]
          by_cases h1 : (g.1 == 1585) = true
          · rw [if_pos h1]
            have h2 : (g.1 == 1584) = false := by simp at h1 ⊢; omega
            rw [h2, Bool.or_false] at h
            exact (I.grp hh z hz).2.1 h n
          · rw [if_neg h1]
            have h2 : (g.1 == 1584) = true := by unfold bin at hb; simpa [h1] using hb
            rw [if_pos h2]
            exact (I.grp hh z hz).1 n
        · dsimp only at h ⊢
          rw [ids_snoc, List.cons_append, fB_cons]
          have h' : s.bd = false ∧ (g.1 == 1584) = false := by simpa using h
          have h1 : (g.1 == 1585) = true := by unfold bin at hb; simpa [h'.2] using hb
          rw [if_pos h1]
          exact (I.grp hh z hz).2.2 h'.1 n
      · rw [if_neg hb]
        refine ⟨fun _ => ⟨rfl, fun n => ?_⟩, fun h => absurd rfl h, fun h => absurd rfl h⟩
        dsimp only
        rw [ids_snoc, fA_cons]
        by_cases h1 : bin g.1 = true
        · have hh : s.held = [] := by
            by_cases e : s.held = []
            · exact e
            · exact absurd ⟨h1, e⟩ hb
          rw [if_pos h1, hh, List.append_nil]
          exact (I.none hh).2 n
        · rw [if_neg h1, if_neg hc]
theorem lay_eq (s : St) (g : Int × Int × Int) (I : Inv s) : (lay s g).laid ++ (lay s g).held = ins (s.laid ++ s.held) g := by
  unfold lay ins
  by_cases hv : vwa g.1 = true
  · rw [if_pos hv, if_pos hv]
    have e : fA (ids (s.laid ++ s.held)).reverse (s.laid ++ s.held).length = s.laid.length := by
      by_cases hh : s.held = []
      · rw [hh, List.append_nil]
        exact (I.none hh).2 _
      · rw [ids_app, ((I.grp hh _ (I.stp hh)).1)]
        simp [ids]
    rw [e]
    simp
  · rw [if_neg hv, if_neg hv]
    by_cases hc : con g.1 = true
    · rw [if_pos hc]
      by_cases hd : s.bd = true
      · rw [if_pos hd]; simp
      · rw [if_neg hd]
    · rw [if_neg hc]
      by_cases hb : bin g.1 = true ∧ s.held ≠ []
      · rw [if_pos hb]; simp
      · rw [if_neg hb]; simp
/-- The state behind the first k glyphs of a row; the row as the specification lays it. -/
def stK (G : List (Int × Int × Int)) : Nat → St
  | 0 => ⟨[], [], false⟩
  | k + 1 => match G[k]? with
    | some g => lay (stK G k) g
    | none => stK G k
def inK (G : List (Int × Int × Int)) : Nat → List (Int × Int × Int)
  | 0 => []
  | k + 1 => match G[k]? with
    | some g => ins (inK G k) g
    | none => inK G k
theorem stK_inv (G : List (Int × Int × Int)) (k : Nat) : Inv (stK G k) := by
  induction k with
  | zero => exact inv_zero
  | succ k ih =>
    rw [stK]
    cases e : G[k]? with
    | none => exact ih
    | some g => exact inv_lay _ g ih
theorem stK_in (G : List (Int × Int × Int)) (k : Nat) : (stK G k).laid ++ (stK G k).held = inK G k := by
  induction k with
  | zero => rfl
  | succ k ih =>
    rw [stK, inK]
    cases e : G[k]? with
    | none => exact ih
    | some g => dsimp only; rw [lay_eq _ g (stK_inv G k), ih]
theorem ins_len (O : List (Int × Int × Int)) (g : Int × Int × Int) (h : fA (ids O).reverse O.length ≤ O.length) : (ins O g).length = O.length + 1 := by
  unfold ins
  split
  · simp; omega
  · simp
end Go.Proofs.YtfldomifooihlaaGreatDoor.Gly
/- Rows of glyphs in memory; the row that is laid while some glyphs are held back. -/
namespace Go.Proofs.YtfldomifooihlaaGreatDoor.Gly
open Go.RowKit
set_option linter.unusedVariables false
theorem infoG : (Tryz.prog.info? 52).map (fun i => (i.zero, i.size, i.bytes)) = some (some (.agg #[.int .i64 0, .int .i64 0, .int .i64 0, .int .i64 0, .int .i64 0]), 5, 40) := by kernel_rfl
/-- The five numbers of a glyph; those of a row of glyphs. -/
def cel (g : Int × Int × Int) : List Int := [g.1, g.2.1, g.2.2, 0, 0]
def flt (G : List (Int × Int × Int)) : List Int := G.flatMap cel
theorem flt_app (G H : List (Int × Int × Int)) : flt (G ++ H) = flt G ++ flt H := by simp [flt]
theorem flt_one (g : Int × Int × Int) : flt [g] = cel g := by simp [flt]
theorem flt_len (G : List (Int × Int × Int)) : (flt G).length = G.length * 5 := by
  induction G with
  | nil => rfl
  | cons g t ih =>
    have : flt (g :: t) = cel g ++ flt t := by simp [flt]
    rw [this, List.length_append, ih]
    simp [cel]
    omega
def gl0 : Int × Int × Int := (0, 0, 0)
def gat (G : List (Int × Int × Int)) (k : Nat) : Int × Int × Int := G.getD k gl0
theorem nth_flt (G : List (Int × Int × Int)) (k j : Nat) (hk : k < G.length) (hj : j < 5) : nth (flt G) (k * 5 + j) = nth (cel (gat G k)) j := by
  induction G generalizing k with
  | nil => simp at hk
  | cons g t ih =>
    have e : flt (g :: t) = cel g ++ flt t := by simp [flt]
    have el : (cel g).length = 5 := rfl
    rw [e]
    cases k with
    | zero =>
      have : nth (cel g ++ flt t) (0 * 5 + j) = nth (cel g) j := by
        unfold nth List.getD
        rw [Nat.zero_mul, Nat.zero_add, List.getElem?_append_left (by omega)]
      rw [this]
      rfl
    | succ k =>
      have h2 : nth (cel g ++ flt t) ((k + 1) * 5 + j) = nth (flt t) (k * 5 + j) := by
        unfold nth List.getD
        rw [List.getElem?_append_right (by omega), el]
        congr 2
        omega
      rw [h2, ih k (by simpa using hk)]
      rfl
theorem rowAt {w w' : World} {B : Nat} {e : TypeId} {s : Nat} {v : Value} {n : Nat} {xs : List Value} (h : w.ownsRow B e s v n xs) (hs : ∀ k, v.ownBlock = some k → w'.heap[k]? = w.heap[k]?) : w'.ownsRow B e s v n xs := by
  refine ⟨h.1, ?_⟩
  rcases h.2 with h' | ⟨g, cap, cur, hv, hg, hh, r⟩
  · exact .inl h'
  · exact .inr ⟨g, cap, cur, hv, hg, (hs g (by rw [hv]; rfl)).trans hh, r⟩
/-- A row of glyphs of the call's own. -/
def GR (w : World) (B : Nat) (v : Value) (G : List (Int × Int × Int)) : Prop := w.ownsRow B 52 5 v G.length ((flt G).map (Value.int .i64))
theorem GR.below {w w' : World} {B : Nat} {v : Value} {G : List (Int × Int × Int)} (h : GR w B v G) (hb : Below w.heap.size w w') : GR w' B v G := ownsRow_below h hb
theorem GR.form {w : World} {B : Nat} {v : Value} {G : List (Int × Int × Int)} (h : GR w B v G) : ∃ a c, v = .slice a G.length c ∧ ((a = none ∧ c = 0 ∧ G = []) ∨ ∃ b, a = some ⟨b, 0, none⟩ ∧ G.length ≤ c ∧ B ≤ b ∧ b < w.heap.size) := by
  rcases h.2 with ⟨hv, hn⟩ | ⟨g, cap, cur, hv, hg, hh, hc, _⟩
  · exact ⟨none, 0, by rw [hv, hn], .inl ⟨rfl, rfl, List.eq_nil_of_length_eq_zero hn⟩⟩
  · exact ⟨_, _, hv, .inr ⟨g, rfl, hc, hg, (Array.getElem?_eq_some_iff.1 hh).1⟩⟩
theorem GR.cell {w : World} {B b c n : Nat} {G : List (Int × Int × Int)} (h : GR w B (.slice (some ⟨b, 0, none⟩) n c) G) (hn : n = G.length) (i : Nat) (hi : i < n * 5) : w.cell? ⟨b, i, none⟩ = some (.int .i64 (nth (flt G) i)) ∧ w.frozen? ⟨b, i, none⟩ = false := by
  subst hn
  refine ⟨?_, World.ownsRow.frozenAt h i⟩
  have e := flt_len G
  rw [World.ownsRow.cellAt h i (by omega), List.getElem?_map]
  simp [nth, List.getD, e, hi]
theorem GR.five {w : World} {B b c n : Nat} {G : List (Int × Int × Int)} (h : GR w B (.slice (some ⟨b, 0, none⟩) n c) G) (hn : n = G.length) (k : Nat) (hk : k < n) :
    w.cell? ⟨b, k * 5, none⟩ = some (.int .i64 (gat G k).1) ∧ w.cell? ⟨b, k * 5 + 1, none⟩ = some (.int .i64 (gat G k).2.1) ∧ w.cell? ⟨b, k * 5 + 2, none⟩ = some (.int .i64 (gat G k).2.2) ∧ w.cell? ⟨b, k * 5 + 3, none⟩ = some (.int .i64 0) ∧ w.cell? ⟨b, k * 5 + 4, none⟩ = some (.int .i64 0) := by
  have n0 := nth_flt G k 0 (by omega) (by omega)
  have n1 := nth_flt G k 1 (by omega) (by omega)
  have n2 := nth_flt G k 2 (by omega) (by omega)
  have n3 := nth_flt G k 3 (by omega) (by omega)
  have n4 := nth_flt G k 4 (by omega) (by omega)
  refine ⟨?_, ?_, ?_, ?_, ?_⟩
  · have := (h.cell hn (k * 5 + 0) (by omega)).1
    rw [n0] at this
    exact this
  · have := (h.cell hn (k * 5 + 1) (by omega)).1
    rw [n1] at this
    exact this
  · have := (h.cell hn (k * 5 + 2) (by omega)).1
    rw [n2] at this
    exact this
  · have := (h.cell hn (k * 5 + 3) (by omega)).1
    rw [n3] at this
    exact this
  · have := (h.cell hn (k * 5 + 4) (by omega)).1
    rw [n4] at this
    exact this
theorem GR.nil (w : World) (B : Nat) : GR w B (.slice none 0 0) [] := World.ownsRow_nil _ _ _ _
/-- The row without its glyphs, in its place. -/
theorem GR.cut {w : World} {B b c n : Nat} {G : List (Int × Int × Int)} (h : GR w B (.slice (some ⟨b, 0, none⟩) n c) G) : GR w B (.slice (some ⟨b, 0, none⟩) 0 c) [] := by
  obtain ⟨h1, h2⟩ := h
  refine ⟨by simp [flt], ?_⟩
  rcases h2 with ⟨e, _⟩ | ⟨g', cap', cur, e, hg, hh, hn, hm, hs, ht⟩
  · cases e
  · injection e with e1 e2 e3
    injection e1 with e1
    injection e1 with e1
    subst e1 e3
    exact .inr ⟨b, c, cur, rfl, hg, hh, by simp, hm, hs, by simp [flt]⟩
/-- The box at g: what is laid, what is held back, whether it binds; since w nothing but the box has changed of what was there. -/
structure BS (w wr : World) (g : Nat) (lv hv : Value) (s : St) : Prop where
  bx : wr.heap[g]? = some (.cells #[lv, hv, .bool s.bd] 100 (0, 0))
  lo : GR wr w.heap.size lv s.laid
  ho : GR wr w.heap.size hv s.held
  gl : g < w.heap.size
  lh : ∀ b, lv.ownBlock = some b → hv.ownBlock ≠ some b
  gr : w.grownBy wr (some g)
theorem grown_bel {w w' w'' : World} {r : Option Nat} (h : w.grownBy w' r) (hb : Below w'.heap.size w' w'') : w.grownBy w'' r :=
  ⟨hb.os.trans h.os, hb.tape.trans h.tape, hb.output.trans h.output, Nat.le_trans h.size hb.size, fun k hk hne => (hb.block k (Nat.lt_of_lt_of_le hk h.size)).trans (h.block k hk hne)⟩
theorem grown_set {w w' : World} {g j : Nat} {u : Value} (h : w.grownBy w' (some g)) : w.grownBy (w'.setCell ⟨g, j, none⟩ u) (some g) :=
  ⟨h.os, h.tape, h.output, by simp; exact h.size, fun k hk hne => (heap_setCell_other w' ⟨g, j, none⟩ k u (fun e => hne (by rw [e]))).trans (h.block k hk hne)⟩
/-- An append to a row of our own changes nothing of what was there. -/
theorem grown_own {w w' w3 : World} {g : Nat} {v : Value} (h : w.grownBy w' (some g)) (hg : w'.grownBy w3 v.ownBlock) (hv : ∀ k, v.ownBlock = some k → w.heap.size ≤ k) : w.grownBy w3 (some g) :=
  ⟨hg.os.trans h.os, hg.tape.trans h.tape, hg.output.trans h.output, Nat.le_trans h.size hg.size, fun k hk hne => (hg.block k (Nat.lt_of_lt_of_le hk h.size) (fun e => by have := hv k e.symm; omega)).trans (h.block k hk hne)⟩
theorem BS.sz {w wr : World} {g : Nat} {lv hv : Value} {s : St} (h : BS w wr g lv hv s) : w.heap.size ≤ wr.heap.size := h.gr.size
theorem BS.lt {w wr : World} {g : Nat} {lv hv : Value} {s : St} (h : BS w wr g lv hv s) : g < wr.heap.size := Nat.lt_of_lt_of_le h.gl h.gr.size
theorem BS.nl {w wr : World} {g : Nat} {lv hv : Value} {s : St} (h : BS w wr g lv hv s) : lv.ownBlock ≠ some g := fun e => by
  have := (World.ownsRow.lt h.lo g e).1
  have := h.gl
  omega
theorem BS.nh {w wr : World} {g : Nat} {lv hv : Value} {s : St} (h : BS w wr g lv hv s) : hv.ownBlock ≠ some g := fun e => by
  have := (World.ownsRow.lt h.ho g e).1
  have := h.gl
  omega
theorem BS.below {w wr w' : World} {g : Nat} {lv hv : Value} {s : St} (h : BS w wr g lv hv s) (hb : Below wr.heap.size wr w') : BS w w' g lv hv s :=
  { h with bx := (hb.block g h.lt).trans h.bx, lo := h.lo.below hb, ho := h.ho.below hb, gr := grown_bel h.gr hb }
theorem box3 {w : World} {g : Nat} {a b c : Value} {t : TypeId} (h : w.heap[g]? = some (.cells #[a, b, c] t (0, 0))) : w.cell? ⟨g, 0, none⟩ = some a ∧ w.cell? ⟨g, 1, none⟩ = some b ∧ w.cell? ⟨g, 2, none⟩ = some c ∧ ∀ i, w.frozen? ⟨g, i, none⟩ = false := by
  refine ⟨?_, ?_, ?_, fun i => ?_⟩ <;> simp [World.cell?, World.frozen?, h]
theorem BS.putL {w wr w3 : World} {g : Nat} {lv hv v' : Value} {s : St} {G : List (Int × Int × Int)} (h : BS w wr g lv hv s) (ho : GR w3 w.heap.size v' G) (hg : wr.grownBy w3 lv.ownBlock) (hk : ∀ k, v'.ownBlock = some k → lv.ownBlock = some k ∨ wr.heap.size ≤ k) :
    BS w (w3.setCell ⟨g, 0, none⟩ v') g v' hv ⟨G, s.held, s.bd⟩ := by
  have hH : ∀ b, hv.ownBlock = some b → b < wr.heap.size := fun b hb => (World.ownsRow.lt h.ho b hb).2
  have hgl := h.gl
  have nv : v'.ownBlock ≠ some g := fun e => by
    have := (World.ownsRow.lt ho g e).1
    omega
  have oth3 : ∀ b, b < wr.heap.size → lv.ownBlock ≠ some b → w3.heap[b]? = wr.heap[b]? := fun b hb hr => hg.block b hb (fun e => hr e.symm)
  have b3 := (oth3 g h.lt h.nl).trans h.bx
  have oth : ∀ b, b ≠ g → (w3.setCell ⟨g, 0, none⟩ v').heap[b]? = w3.heap[b]? := fun b hb => heap_setCell_other w3 ⟨g, 0, none⟩ b v' hb
  refine ⟨?_, ?_, ?_, h.gl, ?_, grown_set (grown_own h.gr hg (fun k e => (World.ownsRow.lt h.lo k e).1))⟩
  · rw [heap_setCell_same _ _ _ _ _ _ b3]; rfl
  · exact rowAt ho (fun k e => oth k (fun e2 => nv (by rw [← e2]; exact e)))
  · exact rowAt h.ho (fun k e => (oth k (fun e2 => h.nh (by rw [← e2]; exact e))).trans (oth3 k (hH k e) (fun e2 => h.lh k e2 e)))
  · intro b hb e
    rcases hk b hb with h1 | h1
    · exact h.lh b h1 e
    · have := hH b e; omega
theorem BS.putH {w wr w3 : World} {g : Nat} {lv hv v' : Value} {s : St} {G : List (Int × Int × Int)} (h : BS w wr g lv hv s) (ho : GR w3 w.heap.size v' G) (hg : wr.grownBy w3 hv.ownBlock) (hk : ∀ k, v'.ownBlock = some k → hv.ownBlock = some k ∨ wr.heap.size ≤ k) :
    BS w (w3.setCell ⟨g, 1, none⟩ v') g lv v' ⟨s.laid, G, s.bd⟩ := by
  have hL : ∀ b, lv.ownBlock = some b → b < wr.heap.size := fun b hb => (World.ownsRow.lt h.lo b hb).2
  have hgl := h.gl
  have nv : v'.ownBlock ≠ some g := fun e => by
    have := (World.ownsRow.lt ho g e).1
    omega
  have oth3 : ∀ b, b < wr.heap.size → hv.ownBlock ≠ some b → w3.heap[b]? = wr.heap[b]? := fun b hb hr => hg.block b hb (fun e => hr e.symm)
  have b3 := (oth3 g h.lt h.nh).trans h.bx
  have oth : ∀ b, b ≠ g → (w3.setCell ⟨g, 1, none⟩ v').heap[b]? = w3.heap[b]? := fun b hb => heap_setCell_other w3 ⟨g, 1, none⟩ b v' hb
  refine ⟨?_, ?_, ?_, h.gl, ?_, grown_set (grown_own h.gr hg (fun k e => (World.ownsRow.lt h.ho k e).1))⟩
  · rw [heap_setCell_same _ _ _ _ _ _ b3]; rfl
  · exact rowAt h.lo (fun k e => (oth k (fun e2 => h.nl (by rw [← e2]; exact e))).trans (oth3 k (hL k e) (fun e2 => h.lh k e e2)))
  · exact rowAt ho (fun k e => oth k (fun e2 => nv (by rw [← e2]; exact e)))
  · intro b hb e
    rcases hk b e with h1 | h1
    · exact h.lh b hb h1
    · have := hL b hb; omega
theorem BS.setB {w wr : World} {g : Nat} {lv hv : Value} {s : St} (h : BS w wr g lv hv s) (x : Bool) : BS w (wr.setCell ⟨g, 2, none⟩ (.bool x)) g lv hv ⟨s.laid, s.held, x⟩ := by
  have oth : ∀ b, b ≠ g → (wr.setCell ⟨g, 2, none⟩ (.bool x)).heap[b]? = wr.heap[b]? := fun b hb => heap_setCell_other wr ⟨g, 2, none⟩ b _ hb
  refine ⟨?_, ?_, ?_, h.gl, h.lh, grown_set h.gr⟩
  · rw [heap_setCell_same _ _ _ _ _ _ h.bx]; rfl
  · exact rowAt h.lo (fun k e => oth k (fun e2 => h.nl (by rw [← e2]; exact e)))
  · exact rowAt h.ho (fun k e => oth k (fun e2 => h.nh (by rw [← e2]; exact e)))
/-- What is held back is let go, in its place. -/
theorem BS.cutH {w wr : World} {g b c n : Nat} {lv : Value} {s : St} (h : BS w wr g lv (.slice (some ⟨b, 0, none⟩) n c) s) : BS w (wr.setCell ⟨g, 1, none⟩ (.slice (some ⟨b, 0, none⟩) 0 c)) g lv (.slice (some ⟨b, 0, none⟩) 0 c) ⟨s.laid, [], s.bd⟩ := by
  have oth : ∀ k, k ≠ g → (wr.setCell ⟨g, 1, none⟩ (.slice (some ⟨b, 0, none⟩) 0 c)).heap[k]? = wr.heap[k]? := fun k hb => heap_setCell_other wr ⟨g, 1, none⟩ k _ hb
  have hb : b ≠ g := fun e => h.nh (by rw [e]; rfl)
  refine ⟨?_, ?_, ?_, h.gl, h.lh, grown_set h.gr⟩
  · rw [heap_setCell_same _ _ _ _ _ _ h.bx]; rfl
  · exact rowAt h.lo (fun k e => oth k (fun e2 => h.nl (by rw [← e2]; exact e)))
  · exact rowAt h.ho.cut (fun k e => oth k (fun e2 => hb (by
      have : b = k := by simpa [Value.ownBlock] using e
      rw [this, e2])))
theorem step_appG {P : Program} {ops : Array Oper} {o : Oper} {a : Act} {w : World} {K : Act → World → Prop} {Q : Exit → Act → World → Prop} {E : Prop}
    (hg : o.guard = none) (s x : Operand) (t : TypeId) (hop : o.op = Op.call { callee := Callee.builtin Builtin.append, args := #[s, x], argTypes := #[t, t] })
    (base : Nat) (e : TypeId) (i : TypeInfo) (z : Value) (size bytes : Nat) (ht : P.underlying t = some (.slice e)) (hi : P.info? e = some i) (hz : i.zero = some z)
    (hsize : i.size = size) (hby : i.bytes = bytes) (hzs : z.cells.size = size) (hsz : 0 < size)
    (v : Value) (n : Nat) (xs : List Value) (hs : a.eval s = v) (hown : w.ownsRow base e size v n xs)
    (ad : Addr) (m c : Nat) (news : List Value) (hx : a.eval x = .slice (some ad) m c) (hl : news.length = m * size) (hnews : ∀ j u, news[j]? = some u → w.cell? (ad.add j) = some u) (h1 : ∀ u ∈ news, u.oneCell' = true)
    (h63 : n + m ≤ maxLen) (hbytes : (n + m) * bytes ≤ 140737488355328) (hbase : base ≤ w.heap.size)
    (h : ∀ v' w', w'.ownsRow base e size v' (n + m) (xs ++ news) → w.grownBy w' v.ownBlock → (∀ k, v'.ownBlock = some k → v.ownBlock = some k ∨ w.heap.size ≤ k) → K (a.put o.dst v') w') :
    if Region.wanted o (yielded ops a.tmps) = true then Oper.wp P o a w K Q else E := by
  have hw : Region.wanted o (yielded ops a.tmps) = true := by simp [Region.wanted, hg]
  rw [if_pos hw]
  obtain ⟨v', w', hr, h2, h3, h4⟩ := app_blockG (P := P) w t o.type e i z size bytes ht hi hz hsize hby hzs hsz base v n xs hown ad m c news hl hnews h1 h63 hbytes hbase
  unfold Oper.wp execOp
  simp only [hop, resolve, invoke, builtin, Sem.run_bind, Sem.run_pure, Result.andThen_ok, List.map_toArray, List.map_cons, List.map_nil, hs, hx, hr]
  exact h v' w' h2 h3 h4
theorem step_appN {P : Program} {ops : Array Oper} {o : Oper} {a : Act} {w : World} {K : Act → World → Prop} {Q : Exit → Act → World → Prop} {E : Prop}
    (hg : o.guard = none) (s x : Operand) (t : TypeId) (hop : o.op = Op.call { callee := Callee.builtin Builtin.append, args := #[s, x], argTypes := #[t, t] })
    (base : Nat) (e : TypeId) (i : TypeInfo) (size : Nat) (ht : P.underlying t = some (.slice e)) (hi : P.info? e = some i)
    (v : Value) (n : Nat) (xs : List Value) (hs : a.eval s = v) (hown : w.ownsRow base e size v n xs) (hx : a.eval x = .slice none 0 0)
    (h : K (a.put o.dst v) w) :
    if Region.wanted o (yielded ops a.tmps) = true then Oper.wp P o a w K Q else E := by
  have hw : Region.wanted o (yielded ops a.tmps) = true := by simp [Region.wanted, hg]
  rw [if_pos hw]
  have hrun := run_append_owned_none (P := P) (w := w) base t o.type e i size ht hi v n xs hown
  unfold Oper.wp
  simp [execOp, hop, resolve, invoke, builtin, hs, hx, hrun, Result.andThen]
  exact h
end Go.Proofs.YtfldomifooihlaaGreatDoor.Gly
/- What the program lays: a glyph more, what is held back let go. -/
namespace Go.Proofs.YtfldomifooihlaaGreatDoor.Gly
open Go.RowKit Chr
set_option linter.unusedVariables false
theorem isVwa_any (p : Int) (w : World) : Calls Tryz.prog 87 #[.int .i64 p] w fun e w' => e = .returned (.bool (vwa p)) ∧ w' = w := by
  have C := hide (fun W => cw_any p 1568 1579 W)
  have HR : Hid (vwa p = ((decide (1568 ≤ p) && decide (p ≤ 1579)) && decide (p.tmod 2 = 0))) := hide rfl
  cases q : (decide (1568 ≤ p) && decide (p ≤ 1579))
  · rw [q] at HR C
    go_enter Tryz.func87, Tryz.ntmps87
    go_wp2_with (go_at_call 50; refine ((unhide C) _).mono ?_; rintro e w' ⟨rfl, rfl⟩)
    go_ret
    exact ⟨by rw [unhide HR]; rfl, rfl⟩
  · have hp : 1568 ≤ p ∧ p ≤ 1579 := by simpa using q
    rw [q] at HR C
    have hm : p.tmod 2 = 0 ∨ p.tmod 2 = 1 := by rw [Int.tmod_eq_emod_of_nonneg (by omega)]; omega
    rcases hm with e | e
    · rw [e] at HR
      go_enter Tryz.func87, Tryz.ntmps87
      go_wp2_with (go_at_call 50; refine ((unhide C) _).mono ?_; rintro e w' ⟨rfl, rfl⟩)
      go_ret
      exact ⟨by rw [unhide HR]; rfl, rfl⟩
    · rw [e] at HR
      go_enter Tryz.func87, Tryz.ntmps87
      go_wp2_with (go_at_call 50; refine ((unhide C) _).mono ?_; rintro e w' ⟨rfl, rfl⟩)
      go_ret
      exact ⟨by rw [unhide HR]; rfl, rfl⟩
theorem isCon_any (p : Int) (w : World) : Calls Tryz.prog 88 #[.int .i64 p] w fun e w' => e = .returned (.bool (con p)) ∧ w' = w := by
  go_enter Tryz.func88, Tryz.ntmps88
  go_wp2_with (go_at_call 50; refine (cw_any _ _ _ _).mono ?_; rintro e w' ⟨rfl, rfl⟩)
  go_ret
  exact ⟨rfl, rfl⟩
theorem isBin_any (p : Int) (w : World) : Calls Tryz.prog 89 #[.int .i64 p] w fun e w' => e = .returned (.bool (bin p)) ∧ w' = w := by
  have HR : Hid (bin p = (p == 1584 || p == 1585)) := hide rfl
  cases q : (p == 1584)
  · rw [q] at HR
    go_enter Tryz.func89, Tryz.ntmps89
    go_wp2
    go_ret
    exact ⟨by rw [unhide HR]; rfl, rfl⟩
  · rw [q] at HR
    go_enter Tryz.func89, Tryz.ntmps89
    go_wp2
    go_ret
    exact ⟨by rw [unhide HR]; rfl, rfl⟩
theorem one_cells (L : List Int) : ∀ u ∈ L.map (Value.int .i64), u.oneCell' = true := by
  intro u hu
  obtain ⟨x, _, rfl⟩ := List.mem_map.1 hu
  rfl
theorem GR.news {w : World} {B b c n : Nat} {G : List (Int × Int × Int)} (h : GR w B (.slice (some ⟨b, 0, none⟩) n c) G) (hn : n = G.length) : ∀ j u, ((flt G).map (Value.int .i64))[j]? = some u → w.cell? ((⟨b, 0, none⟩ : Addr).add j) = some u := by
  subst hn
  intro j u hu
  have hj : j < (flt G).length := by
    have := (List.getElem?_eq_some_iff.1 hu).1
    simpa using this
  have e := flt_len G
  have c := World.ownsRow.cellAt h j (by omega)
  rw [hu] at c
  have ea : (⟨b, 0, none⟩ : Addr).add j = ⟨b, j, none⟩ := by
    simp [Addr.add]
    omega
  rw [ea]
  exact c
theorem grown_refl (w : World) (r : Option Nat) : w.grownBy w r := ⟨rfl, rfl, rfl, Nat.le_refl _, fun _ _ _ => rfl⟩
theorem drew_bel (w : World) : Below w.heap.size w w.drew := ⟨rfl, rfl, rfl, Nat.le_refl _, fun _ _ => rfl⟩
theorem drewN_bel (w : World) (n : Nat) : Below w.heap.size w (w.drewN n) := bdrew (Below.refl _ _) n
theorem GR.app {w : World} {B n : Nat} {v : Value} {G H : List (Int × Int × Int)} (h : w.ownsRow B 52 5 v n ((flt G).map (Value.int .i64) ++ (flt H).map (Value.int .i64))) (hn : n = G.length + H.length) : GR w B v (G ++ H) := by
  unfold GR
  rw [flt_app, List.map_append, List.length_append, ← hn]
  exact h
set_option maxHeartbeats 2000000 in
set_option maxRecDepth 100000 in
theorem settle_any (w0 w : World) (g : Nat) (lv hv : Value) (s : St) (h : BS w0 w g lv hv s) (hl : s.laid.length + s.held.length ≤ 65536) :
    Calls Tryz.prog 58 #[.pointer (some ⟨g, 0, none⟩)] w fun e w' => e = .returned (.tuple #[]) ∧ (∃ lv' hv', BS w0 w' g lv' hv' (settle s)) ∧ w.heap.size ≤ w'.heap.size ∧ ∀ k, k < w.heap.size → k ≠ g → lv.ownBlock ≠ some k → w'.heap[k]? = w.heap[k]? := by
  obtain ⟨i0, hi, hz0, hz1, hz2⟩ := info_parts infoG
  obtain ⟨L, H, d⟩ := s
  have h1 := h.below (drewN_bel w 1)
  have H1 := hide h1
  have hgl := h.lt
  obtain ⟨c0, c1, _, cf⟩ := box3 h.bx
  have cf0 := cf 0
  obtain ⟨ha, hc, rfl, hh⟩ := h.ho.form
  obtain ⟨la, lc, rfl, _⟩ := h.lo.form
  have HH := hide h
  clear h h1 cf
  dsimp only at hl c0 c1
  rcases hh with ⟨rfl, rfl, e⟩ | ⟨b, rfl, hbc, hbw, hbl⟩
  · dsimp only at e
    subst e
    have T1 := hide (((unhide HH).putL (unhide HH).lo (grown_refl _ _) (fun k e => .inl e)).below (drew_bel _))
    have F1 : Hid (∀ k, k ≠ g → (w.setCell ⟨g, 0, none⟩ (.slice la L.length lc)).drew.heap[k]? = w.heap[k]?) := hide (fun k hk => heap_setCell_other w ⟨g, 0, none⟩ k _ hk)
    have Z1 : (w.setCell ⟨g, 0, none⟩ (.slice la L.length lc)).drew.heap.size = w.heap.size := by simp [World.drew]
    go_enter Tryz.func58, Tryz.ntmps58
    go_upto_region 0 with fail
    go_region_law (refine step_appN rfl (.tmp 6) (.tmp 10) 28 rfl w0.heap.size 52 i0 5 Tryz.underlying28 hi _ L.length ((flt L).map (Value.int .i64)) (by simp [Act.eval]) (unhide H1).lo (by simp [Act.eval]) ?_)
    all_goals
      clear HH H1 c0 c1 cf0
      go_upto_region 1 with fail
      generalize (w.setCell ⟨g, 0, none⟩ (.slice la L.length lc)).drew = wa at *
      obtain ⟨_, e1, _, ef⟩ := box3 (unhide T1).bx
      have ef1 := ef 1
      have T2 := hide ((unhide T1).putH (GR.nil wa _) (grown_refl _ _) (fun k e => by simp [Value.ownBlock] at e))
      obtain ⟨_, _, q2, qf⟩ := box3 (unhide T2).bx
      have qf2 := qf 2
      have T3 := hide ((unhide T2).setB false)
      clear ef qf
      go_wp2
      go_end0
      refine ⟨rfl, ⟨_, _, by unfold settle; simpa using unhide T3⟩, by simp [Z1], fun k h1 h2 h3 => ?_⟩
      rw [heap_setCell_other _ ⟨g, 2, none⟩ k _ h2, heap_setCell_other _ ⟨g, 1, none⟩ k _ h2]
      exact unhide F1 k h2
  · go_enter Tryz.func58, Tryz.ntmps58
    go_upto_region 0 with fail
    go_region_law (refine step_appG rfl (.tmp 6) (.tmp 10) 28 rfl w0.heap.size 52 i0 (.agg #[.int .i64 0, .int .i64 0, .int .i64 0, .int .i64 0, .int .i64 0]) 5 40 Tryz.underlying28 hi hz0 hz1 hz2 rfl (by decide) (.slice la L.length lc) L.length ((flt L).map (Value.int .i64)) (by simp [Act.eval]) (unhide H1).lo ⟨b, 0, none⟩ H.length hc ((flt H).map (Value.int .i64)) (by simp [Act.eval]) (by simp [flt_len]) ((unhide H1).ho.news rfl) (one_cells _) (by unfold maxLen; omega) (by omega) (by have := (unhide H1).sz; exact this) ?_; intro v' w3 hown' hgrow hblk; have T1 := hide ((unhide H1).putL (GR.app hown' rfl) hgrow hblk); have G1 := hide hgrow; obtain ⟨va, vc, rfl, hva⟩ := GR.form (GR.app hown' rfl); have bx3 := box3 ((hgrow.block g (unhide H1).lt (fun e => (unhide H1).nl e.symm)).trans (unhide H1).bx); have d0 := bx3.1; have df := bx3.2.2.2 0)
    all_goals
      rw [List.length_append] at T1
      have F1 : Hid (∀ k, k < w.heap.size → k ≠ g → (Value.slice la L.length lc).ownBlock ≠ some k → (w3.setCell ⟨g, 0, none⟩ (.slice va (L.length + H.length) vc)).heap[k]? = w.heap[k]?) := hide (fun k h1 h2 h3 => (heap_setCell_other w3 ⟨g, 0, none⟩ k _ h2).trans ((unhide G1).block k h1 (fun e => h3 e.symm)))
      have Z1 : w.heap.size ≤ (w3.setCell ⟨g, 0, none⟩ (.slice va (L.length + H.length) vc)).heap.size := by
        have := (unhide G1).size
        simpa using this
      clear HH H1 c0 c1 cf0 bx3 d0 df hown' hgrow hblk hva G1
      go_upto_region 1 with fail
      generalize w3.setCell ⟨g, 0, none⟩ (.slice va (L.length + H.length) vc) = wa at *
      obtain ⟨_, e1, _, ef⟩ := box3 (unhide T1).bx
      have ef1 := ef 1
      have T2 := hide ((unhide T1).cutH)
      obtain ⟨_, _, q2, qf⟩ := box3 (unhide T2).bx
      have qf2 := qf 2
      have T3 := hide ((unhide T2).setB false)
      clear ef qf
      go_wp2
      go_end0
      refine ⟨rfl, ⟨_, _, unhide T3⟩, by simp; exact Z1, fun k h1 h2 h3 => ?_⟩
      rw [heap_setCell_other _ ⟨g, 2, none⟩ k _ h2, heap_setCell_other _ ⟨g, 1, none⟩ k _ h2]
      exact unhide F1 k h1 h2 h3
end Go.Proofs.YtfldomifooihlaaGreatDoor.Gly
