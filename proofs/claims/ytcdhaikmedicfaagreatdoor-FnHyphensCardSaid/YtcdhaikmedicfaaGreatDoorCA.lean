/- Several texts in one. -/
import Derived.Test.YtcdhaikmedicfaaGreatDoorND
import Derived.Test.YtcdhaikmedicfaaGreatDoorSA
import Derived.WalkSmall
/- Columns: the cells of a row, in plain texts. -/
namespace Go.Proofs.YtcdhaikmedicfaaGreatDoor
namespace Clm
open Go.RowKit
set_option linter.unusedVariables false
/-- The cells of a row up to a place, and where the next one begins. -/
def cts (x : ByteArray) : Nat → List ByteArray × Nat
  | 0 => ([], 0)
  | i + 1 => if bt x i = 9 then ((cts x i).1 ++ [x.extract (cts x i).2 i], i + 1) else cts x i
theorem cts_yes {x : ByteArray} {i : Nat} (h : bt x i = 9) : cts x (i + 1) = ((cts x i).1 ++ [x.extract (cts x i).2 i], i + 1) := if_pos h
theorem cts_no {x : ByteArray} {i : Nat} (h : ¬ bt x i = 9) : cts x (i + 1) = cts x i := if_neg h
theorem cts_le (x : ByteArray) : ∀ i, (cts x i).2 ≤ i ∧ (cts x i).1.length ≤ (cts x i).2
  | 0 => ⟨Nat.le_refl _, Nat.le_refl _⟩
  | i + 1 => by
    have ih := cts_le x i
    by_cases h : bt x i = 9
    · rw [cts_yes h]
      simp
      omega
    · rw [cts_no h]
      omega
/-- No cell ends between two places: what was told at the first one holds at the second one. -/
theorem cts_skip {x : ByteArray} {a : Nat} : ∀ d, (∀ j, a ≤ j → j < a + d → ¬ bt x j = 9) → cts x (a + d) = cts x a
  | 0, _ => rfl
  | d + 1, h => by
    rw [← Nat.add_assoc, cts_no (h (a + d) (by omega) (by omega))]
    exact cts_skip d (fun j h1 h2 => h j h1 (by omega))
def cel (x : ByteArray) : List ByteArray := (cts x x.size).1
def lst (x : ByteArray) : ByteArray := x.extract (cts x x.size).2 x.size
theorem cts_size (x : ByteArray) : ∀ i, i ≤ x.size → ∀ c ∈ (cts x i).1, c.size ≤ x.size
  | 0, _, c, h => by cases h
  | i + 1, hi, c, h => by
    have ih := cts_size x i (by omega)
    by_cases e : bt x i = 9
    · rw [cts_yes e] at h
      rcases List.mem_append.1 h with h | h
      · exact ih c h
      · rw [List.mem_singleton] at h
        subst h
        rw [ByteArray.size_extract]
        omega
    · rw [cts_no e] at h
      exact ih c h
theorem cel_size (x : ByteArray) (k : Nat) (hk : k < (cel x).length) : (nthS (cel x) k).size ≤ x.size := by
  refine cts_size x x.size (Nat.le_refl _) _ ?_
  unfold nthS
  rw [List.getD_eq_getElem?_getD, List.getElem?_eq_getElem hk]
  exact List.getElem_mem hk
theorem cel_len (x : ByteArray) : (cel x).length ≤ x.size := by
  have := cts_le x x.size
  unfold cel
  omega
theorem lst_size (x : ByteArray) : (lst x).size ≤ x.size := by
  unfold lst
  rw [ByteArray.size_extract]
  omega
end Clm
end Go.Proofs.YtcdhaikmedicfaaGreatDoor
/- Columns: the cells of a row, as the specification cuts them. -/
namespace Go.Proofs.YtcdhaikmedicfaaGreatDoor
namespace Clm
open Go.RowKit
set_option linter.unusedVariables false
set_option linter.unusedSimpArgs false
theorem own_allocC {w : World} {base : Nat} {e : TypeId} {v : Value} {n : Nat} {xs : List Value} (h : w.ownsRow base e 1 v n xs) (o : Obj) : (w.alloc o).ownsRow base e 1 v n xs :=
  ownsRow_below h ((Below.refl _ _).alloc (Nat.le_refl _) o)
theorem form_ownC {w : World} {B n : Nat} {e : TypeId} {v : Value} {xs : List Value} (h : w.ownsRow B e 1 v n xs) : ∃ a cap, v = .slice a n cap := by
  rcases h.2 with ⟨rfl, rfl⟩ | ⟨g, cap, cur, rfl, _⟩
  · exact ⟨_, _, rfl⟩
  · exact ⟨_, _, rfl⟩
/-- A row of texts with one more. -/
theorem row_stepS {w wr w2 : World} {base : Nat} {v v' : Value} {L : List ByteArray} {p : ByteArray} {o : Obj} (hb : Below base w wr) (hB : base ≤ wr.heap.size)
    (ho : wr.ownsRow base 9 1 v L.length (L.map Value.string))
    (ho2 : w2.ownsRow base 9 1 v' (L.length + 1) (L.map Value.string ++ [.string p])) (hg : (wr.alloc o).grownBy w2 v.ownBlock) :
    w2.ownsRow base 9 1 v' (L ++ [p]).length ((L ++ [p]).map Value.string) ∧ Below base w w2 := by
  refine ⟨?_, (hb.alloc hB o).grown hg (by simp; omega) (fun j hj => (ho.lt j hj).1)⟩
  rw [List.length_append, List.map_append]
  exact ho2
def NewS (w w' : World) (e : Ending) (l : List ByteArray) : Prop := ∃ v, e = .returned v ∧ w'.ownsRow w.heap.size 9 1 v l.length (l.map Value.string) ∧ Below w.heap.size w w'
set_option maxRecDepth 100000 in
set_option maxHeartbeats 4000000 in
theorem cutS (x : ByteArray) (hx : x.size ≤ 65536) (w : World) : Calls Tryz.prog 32 #[.string x, .int .u8 9] w fun e w' => NewS w w' e (cel x ++ [lst x]) := by
  obtain ⟨i0, hi, hz0, hz1, hz2⟩ := info_parts info9
  have O0 : Hid ((w.alloc (.cells #[] 9)).ownsRow w.heap.size 9 1 (.slice (some ⟨w.heap.size, 0, none⟩) 0 0) (cts x 0).1.length ((cts x 0).1.map Value.string)) := hide (World.ownsRow_lit w #[] 0 (Nat.le_refl _) (by unfold maxLen; omega) rfl)
  have B0 : Hid (Below w.heap.size w (w.alloc (.cells #[] 9))) := hide ((Below.refl _ _).alloc (Nat.le_refl _) _)
  go_enter Tryz.func32, Tryz.ntmps32
  go_wp2_with fail
  go_loopw [5, 6, 7] (fun v5 v6 v7 wr => ∃ (i a : Nat), i ≤ x.size ∧ v7 = .int .i64 (i : Int) ∧ v6 = .int .i64 (a : Int) ∧ Hid (a = (cts x i).2) ∧ Hid (wr.ownsRow w.heap.size 9 1 v5 (cts x i).1.length ((cts x i).1.map Value.string)) ∧ Hid (Below w.heap.size w wr)) (fun _ _ v _ => x.size - (intOf v).toNat)
  case atStart => exact ⟨0, 0, by omega, rfl, rfl, hide rfl, O0, B0⟩
  case round =>
    obtain ⟨i, a, hi2, rfl, rfl, HA, HO, HB⟩ := hrel
    obtain ⟨va, vc, rfl⟩ := form_ownC (unhide HO)
    have hsz := (unhide HB).size
    have hle := cts_le x i
    have ha : a ≤ i := by rw [unhide HA]; exact hle.1
    have hL : (cts x i).1.length ≤ 65536 := by omega
    by_cases hlt : i < x.size
    · have hI : (i : Int) < (x.size : Int) := by omega
      have haI : (a : Int) ≤ (i : Int) := by omega
      have hiI : (i : Int) ≤ (x.size : Int) := by omega
      have f1 := fun h => bt_get x i h
      have HY : Hid (bt x i = 9 → cts x (i + 1) = ((cts x i).1 ++ [x.extract a i], i + 1)) := hide (fun h => by rw [cts_yes h, ← unhide HA])
      have HN : Hid (¬ bt x i = 9 → cts x (i + 1) = cts x i) := hide (fun h => cts_no h)
      clear hle
      generalize bt x i = b at *
      by_cases hb : b = 9
      · have hb1 : ((b : Int) == 9) = true := by rw [hb]; rfl
        have HC := hide ((unhide HY) hb)
        clear hb HY HN
        go_wp2_with (at_builtin; refine wpList_append_own _ rfl _ _ 23 rfl w.heap.size 9 i0 (.string ⟨#[]⟩) 1 16 Tryz.underlying23 hi hz0 hz1 hz2 rfl (by decide) _ _ _ rfl (own_allocC (unhide HO) _) ⟨wr.heap.size, 0, none⟩ 1 1 [.string (x.extract a i)] rfl rfl ?c1 ?c2 ?c3 ?c4 ?c5 ?_)
        case c1 => exact cell_one_new _ _ _
        case c2 => intro u hu; simp at hu; subst hu; rfl
        case c3 => unfold maxLen; omega
        case c4 => omega
        case c5 => simp; omega
        intro v' w3 hown' hgrow _
        have R := row_stepS (unhide HB) hsz (unhide HO) hown' hgrow
        have R1 : Hid (w3.ownsRow w.heap.size 9 1 v' (cts x (i + 1)).1.length ((cts x (i + 1)).1.map Value.string)) := hide (by rw [unhide HC]; exact R.1)
        have R2 := hide R.2
        have HA2 : Hid (i + 1 = (cts x (i + 1)).2) := hide (by rw [unhide HC])
        clear hown' hgrow R
        go_wp2_with fail
        go_roundw
        case rel => exact ⟨i + 1, i + 1, by omega, by go_num, by go_num, HA2, R1, R2⟩
        case measure => (simp [intOf] <;> omega)
      · have hb1 : ((b : Int) == 9) = false := by rw [beq_eq_false_iff_ne]; omega
        have HC := hide ((unhide HN) hb)
        clear hb HY HN
        go_wp2_with fail
        go_roundw
        case rel => exact ⟨i + 1, a, by omega, by go_num, rfl, hide (by rw [unhide HC]; exact unhide HA), hide (by rw [unhide HC]; exact unhide HO), HB⟩
        case measure => (simp [intOf] <;> omega)
    · obtain rfl : i = x.size := by omega
      have haI : (a : Int) ≤ (x.size : Int) := by omega
      have HX : Hid (x.extract a x.size = lst x) := hide (by unfold lst; rw [← unhide HA])
      go_wp2_with (at_builtin; refine wpList_append_own _ rfl _ _ 23 rfl w.heap.size 9 i0 (.string ⟨#[]⟩) 1 16 Tryz.underlying23 hi hz0 hz1 hz2 rfl (by decide) _ _ _ rfl (own_allocC (unhide HO) _) ⟨wr.heap.size, 0, none⟩ 1 1 [.string (x.extract a x.size)] rfl rfl ?c1 ?c2 ?c3 ?c4 ?c5 ?_)
      case c1 => exact cell_one_new _ _ _
      case c2 => intro u hu; simp at hu; subst hu; rfl
      case c3 => unfold maxLen; omega
      case c4 => omega
      case c5 => simp; omega
      intro v' w3 hown' hgrow _
      have R := row_stepS (unhide HB) hsz (unhide HO) hown' hgrow
      rw [unhide HX] at R
      go_wp2_with fail
      go_ret
      exact ⟨_, rfl, R.1, R.2⟩
end Clm
end Go.Proofs.YtcdhaikmedicfaaGreatDoor
/- Columns: the rows that the specification keeps: the widths, and the cells of all rows. -/
namespace Go.Proofs.YtcdhaikmedicfaaGreatDoor
namespace Clm
open Go.RowKit
set_option linter.unusedVariables false
set_option linter.unusedSimpArgs false
theorem own_atL {w w' : World} {B : Nat} {e : TypeId} {s : Nat} {v : Value} {n : Nat} {xs : List Value} (h : w.ownsRow B e s v n xs) (hs : ∀ k, v.ownBlock = some k → w'.heap[k]? = w.heap[k]?) : w'.ownsRow B e s v n xs := by
  refine ⟨h.1, ?_⟩
  rcases h.2 with h' | ⟨g, cap, cur, hv, hg, hh, r⟩
  · exact .inl h'
  · exact .inr ⟨g, cap, cur, hv, hg, (hs g (by rw [hv]; rfl)).trans hh, r⟩
/-- A row of texts at a value, in a block below the heap's end that is neither of two others. -/
def Tx (B : Nat) (w : World) (u : Value) (l : List ByteArray) (k1 k2 : Option Nat) : Prop :=
  ∃ b c, u = .slice (some ⟨b, 0, none⟩) l.length c ∧ (B ≤ b ∧ b < w.heap.size) ∧ k1 ≠ some b ∧ k2 ≠ some b ∧ ∀ i, i < l.length → w.cell? ⟨b, i, none⟩ = some (.string (nthS l i))
theorem Tx.kept {B : Nat} {w w' : World} {u : Value} {l : List ByteArray} {k1 k2 k1' k2' : Option Nat} (h : Tx B w u l k1 k2) (hs : w.heap.size ≤ w'.heap.size) (hb : ∀ b, b < w.heap.size → k1 ≠ some b → k2 ≠ some b → w'.heap[b]? = w.heap[b]?)
    (h1 : ∀ b, k1' = some b → k1 = some b ∨ w.heap.size ≤ b) (h2 : ∀ b, k2' = some b → k2 = some b ∨ w.heap.size ≤ b) : Tx B w' u l k1' k2' := by
  obtain ⟨b, c, e, ⟨hB, hl⟩, n1, n2, hc⟩ := h
  have hbb := hb b hl n1 n2
  refine ⟨b, c, e, ⟨hB, by omega⟩, fun c1 => ?_, fun c2 => ?_, fun i hi => ?_⟩
  · rcases h1 b c1 with h | h
    · exact n1 h
    · omega
  · rcases h2 b c2 with h | h
    · exact n2 h
    · omega
  · rw [World.cell?_of_block (a := ⟨b, i, none⟩) hbb]
    exact hc i hi
/-- The widths so far, the rows of cells so far. -/
structure Cx (B : Nat) (w : World) (vw : Value) (W : List Int) (vc : Value) (Cs : List Value) (P : List ByteArray) (i : Nat) : Prop where
  ow : w.ownsRow B 2 1 vw W.length (W.map (Value.int .i64))
  oc : w.ownsRow B 23 1 vc i Cs
  ap : ∀ k, vw.ownBlock = some k → vc.ownBlock ≠ some k
  tx : ∀ j, j < i → ∃ u, Cs[j]? = some u ∧ Tx B w u (cel (nthS P j) ++ [lst (nthS P j)]) vw.ownBlock vc.ownBlock
section T
variable {B : Nat} {w w2 : World} {vw vc v' : Value} {W : List Int} {Cs : List Value} {P : List ByteArray} {i : Nat}
theorem Cx.below (h : Cx B w vw W vc Cs P i) (hb : Below w.heap.size w w2) : Cx B w2 vw W vc Cs P i :=
  ⟨ownsRow_below h.ow hb, ownsRow_below h.oc hb, h.ap, fun j hj => by
    obtain ⟨u, h1, h2⟩ := h.tx j hj
    exact ⟨u, h1, h2.kept hb.size (fun b hl _ _ => hb.block b hl) (fun b e => .inl e) (fun b e => .inl e)⟩⟩
theorem Cx.alloc (h : Cx B w vw W vc Cs P i) (o : Obj) : Cx B (w.alloc o) vw W vc Cs P i := h.below ((Below.refl _ _).alloc (Nat.le_refl _) o)
/-- One width more. -/
theorem Cx.addW (h : Cx B w vw W vc Cs P i) (x : Int) (ho : w2.ownsRow B 2 1 v' (W.length + 1) (W.map (Value.int .i64) ++ [.int .i64 x])) (hg : w.grownBy w2 vw.ownBlock) (hk : ∀ k, v'.ownBlock = some k → vw.ownBlock = some k ∨ w.heap.size ≤ k) : Cx B w2 v' (W ++ [x]) vc Cs P i := by
  refine ⟨?_, own_atL h.oc (fun k e => hg.block k (h.oc.lt k e).2 (fun e2 => h.ap k e2.symm e)), fun k e e2 => ?_, fun j hj => ?_⟩
  · rw [List.length_append, List.map_append]; exact ho
  · rcases hk k e with e3 | e3
    · exact h.ap k e3 e2
    · have := (h.oc.lt k e2).2; omega
  · obtain ⟨u, h1, h2⟩ := h.tx j hj
    exact ⟨u, h1, h2.kept hg.size (fun b hl n1 _ => hg.block b hl (fun e => n1 e.symm)) hk (fun b e => .inl e)⟩
/-- One row of cells more. -/
theorem Cx.addC (h : Cx B w vw W vc Cs P i) (u : Value) (hu : Tx B w u (cel (nthS P i) ++ [lst (nthS P i)]) vw.ownBlock vc.ownBlock) (ho : w2.ownsRow B 23 1 v' (i + 1) (Cs ++ [u])) (hg : w.grownBy w2 vc.ownBlock) (hk : ∀ k, v'.ownBlock = some k → vc.ownBlock = some k ∨ w.heap.size ≤ k) : Cx B w2 vw W v' (Cs ++ [u]) P (i + 1) := by
  have hCs : Cs.length = i := by have := h.oc.1; omega
  refine ⟨own_atL h.ow (fun k e => hg.block k (h.ow.lt k e).2 (fun e2 => h.ap k e e2.symm)), ho, fun k e e2 => ?_, fun j hj => ?_⟩
  · rcases hk k e2 with e3 | e3
    · exact h.ap k e e3
    · have := (h.ow.lt k e).2; omega
  · by_cases e : j = i
    · subst e
      exact ⟨u, by rw [List.getElem?_append_right (by omega), hCs]; simp, hu.kept hg.size (fun b hl _ n2 => hg.block b hl (fun e => n2 e.symm)) (fun b e => .inl e) hk⟩
    · obtain ⟨u2, h1, h2⟩ := h.tx j (by omega)
      exact ⟨u2, by rw [List.getElem?_append_left (by omega)]; exact h1, h2.kept hg.size (fun b hl _ n2 => hg.block b hl (fun e => n2 e.symm)) (fun b e => .inl e) hk⟩
/-- A width put in the place of another one. -/
theorem Cx.setW {g c : Nat} (h : Cx B w (.slice (some ⟨g, 0, none⟩) W.length c) W vc Cs P i) (k : Nat) (x : Int) : Cx B (w.setCell ⟨g, k, none⟩ (.int .i64 x)) (.slice (some ⟨g, 0, none⟩) W.length c) (W.set k x) vc Cs P i := by
  have hg : ∀ b, b ≠ g → (w.setCell ⟨g, k, none⟩ (.int .i64 x)).heap[b]? = w.heap[b]? := fun b hb => Below.heap_setCell _ _ _ _ (fun e => hb e)
  refine ⟨?_, own_atL h.oc (fun b e => hg b (fun e2 => h.ap g rfl (by rw [← e2]; exact e))), h.ap, fun j hj => ?_⟩
  · have := (h.ow.stored k (.int .i64 x)).1
    rw [List.length_set, List.map_set]
    exact this
  · obtain ⟨u, h1, h2⟩ := h.tx j hj
    exact ⟨u, h1, h2.kept (by simp) (fun b hl n1 _ => hg b (fun e => n1 (by rw [e]; rfl))) (fun b e => .inl e) (fun b e => .inl e)⟩
end T
end Clm
end Go.Proofs.YtcdhaikmedicfaaGreatDoor
