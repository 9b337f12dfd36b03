/- The box that l09TextOf fills: its rows of classes, of pairs and of open isolates in blocks of their own. -/
import Derived.Test.YtheakbjddonknaaDoorBasV
namespace Go.Proofs.YtheakbjddonknaaDoor.Bs
open Go.RowKit Chr
set_option linter.unusedVariables false
theorem row_at {w w' : World} {B : Nat} {e : TypeId} {s : Nat} {v : Value} {n : Nat} {xs : List Value} (h : w.ownsRow B e s v n xs) (hs : ∀ k, v.ownBlock = some k → w'.heap[k]? = w.heap[k]?) : w'.ownsRow B e s v n xs := by
  refine ⟨h.1, ?_⟩
  rcases h.2 with h' | ⟨g, cap, cur, hv, hg, hh, r⟩
  · exact .inl h'
  · exact .inr ⟨g, cap, cur, hv, hg, (hs g (by rw [hv]; rfl)).trans hh, r⟩
/-- The box at g and its three rows. -/
structure TS (w wr : World) (g : Nat) (pv cv lv fv qv ov : Value) (F Q O : List Int) : Prop where
  bx : wr.heap[g]? = some (.cells #[pv, fv, cv, lv, qv] 35 (0, 0))
  fo : wr.ownsRow w.heap.size 2 1 fv F.length (F.map (Value.int .i64))
  qo : wr.ownsRow w.heap.size 3 1 qv Q.length (Q.map (Value.int .i64))
  oo : wr.ownsRow w.heap.size 3 1 ov O.length (O.map (Value.int .i64))
  gB : w.heap.size ≤ g
  nf : fv.ownBlock ≠ some g
  nq : qv.ownBlock ≠ some g
  no : ov.ownBlock ≠ some g
  fq : ∀ b, fv.ownBlock = some b → qv.ownBlock ≠ some b
  fp : ∀ b, fv.ownBlock = some b → ov.ownBlock ≠ some b
  qp : ∀ b, qv.ownBlock = some b → ov.ownBlock ≠ some b
  bel : Below w.heap.size w wr
theorem TS.lt {w wr : World} {g : Nat} {pv cv lv fv qv ov : Value} {F Q O : List Int} (h : TS w wr g pv cv lv fv qv ov F Q O) : g < wr.heap.size := (Array.getElem?_eq_some_iff.1 h.bx).1
theorem TS.below {w wr w' : World} {g : Nat} {pv cv lv fv qv ov : Value} {F Q O : List Int} (h : TS w wr g pv cv lv fv qv ov F Q O) (hb : Below wr.heap.size wr w') : TS w w' g pv cv lv fv qv ov F Q O :=
  { h with bx := (hb.block g h.lt).trans h.bx, fo := ownsRow_below h.fo hb, qo := ownsRow_below h.qo hb, oo := ownsRow_below h.oo hb, bel := h.bel.trans (hb.mono h.bel.size) }
theorem TS.cells {w wr : World} {g : Nat} {pv cv lv fv qv ov : Value} {F Q O : List Int} (h : TS w wr g pv cv lv fv qv ov F Q O) : wr.cell? ⟨g, 1, none⟩ = some fv ∧ wr.cell? ⟨g, 4, none⟩ = some qv ∧ wr.cell? ⟨g, 2, none⟩ = some cv ∧ ∀ i, wr.frozen? ⟨g, i, none⟩ = false := by
  refine ⟨?_, ?_, ?_, fun i => ?_⟩ <;> simp [World.cell?, World.frozen?, h.bx]
/-- The world behind an append to one of the rows: what is not that row is as it was. -/
theorem TS.other {w wr w3 : World} {g : Nat} {pv cv lv fv qv ov : Value} {F Q O : List Int} {o : Obj} {r : Option Nat} (h : TS w wr g pv cv lv fv qv ov F Q O) (hg : (wr.alloc o).grownBy w3 r) (b : Nat) (hb : b < wr.heap.size) (hr : r ≠ some b) : w3.heap[b]? = wr.heap[b]? := by
  have hal : Below wr.heap.size wr (wr.alloc o) := (Below.refl _ _).alloc (Nat.le_refl _) o
  exact (hg.block b (by have := hal.size; omega) (fun e => hr e.symm)).trans (hal.block b hb)
theorem TS.grow {w wr w3 : World} {g : Nat} {pv cv lv fv qv ov : Value} {F Q O : List Int} {o : Obj} {r : Option Nat} (h : TS w wr g pv cv lv fv qv ov F Q O) (hg : (wr.alloc o).grownBy w3 r) (hr : ∀ k, r = some k → w.heap.size ≤ k) : Below w.heap.size w w3 := by
  have hal : Below wr.heap.size wr (wr.alloc o) := (Below.refl _ _).alloc (Nat.le_refl _) o
  exact (h.bel.trans (hal.mono h.bel.size)).trans ((Below.refl _ _).grown hg (by have := h.bel.size; have := hal.size; omega) hr)
/-- One class more. -/
theorem TS.appF {w wr w3 : World} {g : Nat} {pv cv lv fv qv ov v' : Value} {F Q O : List Int} {x : Int} {o : Obj} (h : TS w wr g pv cv lv fv qv ov F Q O)
    (ho : w3.ownsRow w.heap.size 2 1 v' (F.length + 1) (F.map (Value.int .i64) ++ [.int .i64 x])) (hg : (wr.alloc o).grownBy w3 fv.ownBlock) (hk : ∀ k, v'.ownBlock = some k → fv.ownBlock = some k ∨ wr.heap.size + 1 ≤ k) :
    TS w (w3.setCell ⟨g, 1, none⟩ v') g pv cv lv v' qv ov (F ++ [x]) Q O := by

  have hq : ∀ b, qv.ownBlock = some b → b < wr.heap.size := fun b hb => (World.ownsRow.lt h.qo b hb).2
  have hO : ∀ b, ov.ownBlock = some b → b < wr.heap.size := fun b hb => (World.ownsRow.lt h.oo b hb).2
  have hgl := h.lt
  have nv : v'.ownBlock ≠ some g := fun e => by
    rcases hk g e with h1 | h1
    · exact h.nf h1
    · omega
  have b3 : w3.heap[g]? = some (.cells #[pv, fv, cv, lv, qv] 35 (0, 0)) := (h.other hg g hgl h.nf).trans h.bx
  have oth : ∀ b, b ≠ g → (w3.setCell ⟨g, 1, none⟩ v').heap[b]? = w3.heap[b]? := fun b hb => heap_setCell_other w3 ⟨g, 1, none⟩ b v' hb
  have bel3 := h.grow hg (fun k e => (World.ownsRow.lt h.fo k e).1)
  refine ⟨?_, ?_, ?_, ?_, h.gB, nv, h.nq, h.no, ?_, ?_, h.qp, ?_⟩
  · rw [heap_setCell_same _ _ _ _ _ _ b3]; rfl
  · rw [List.length_append, List.map_append]
    exact row_at ho (fun k e => oth k (fun e2 => nv (by rw [← e2]; exact e)))
  · exact row_at h.qo (fun k e => (oth k (fun e2 => h.nq (by rw [← e2]; exact e))).trans (h.other hg k (hq k e) (fun e2 => h.fq k e2 e)))
  · exact row_at h.oo (fun k e => (oth k (fun e2 => h.no (by rw [← e2]; exact e))).trans (h.other hg k (hO k e) (fun e2 => h.fp k e2 e)))
  · intro b hb e
    rcases hk b hb with h1 | h1
    · exact h.fq b h1 e
    · have := hq b e; omega
  · intro b hb e
    rcases hk b hb with h1 | h1
    · exact h.fp b h1 e
    · have := hO b e; omega
  · exact bel3.setCell (p := ⟨g, 1, none⟩) h.gB v'
/-- One pair more. -/
theorem TS.appQ {w wr w3 : World} {g : Nat} {pv cv lv fv qv ov v' : Value} {F Q O : List Int} {x : Int} {o : Obj} (h : TS w wr g pv cv lv fv qv ov F Q O)
    (ho : w3.ownsRow w.heap.size 3 1 v' (Q.length + 1) (Q.map (Value.int .i64) ++ [.int .i64 x])) (hg : (wr.alloc o).grownBy w3 qv.ownBlock) (hk : ∀ k, v'.ownBlock = some k → qv.ownBlock = some k ∨ wr.heap.size + 1 ≤ k) :
    TS w (w3.setCell ⟨g, 4, none⟩ v') g pv cv lv fv v' ov F (Q ++ [x]) O := by
  have hf : ∀ b, fv.ownBlock = some b → b < wr.heap.size := fun b hb => (World.ownsRow.lt h.fo b hb).2
  have hO : ∀ b, ov.ownBlock = some b → b < wr.heap.size := fun b hb => (World.ownsRow.lt h.oo b hb).2
  have hgl := h.lt
  have nv : v'.ownBlock ≠ some g := fun e => by
    rcases hk g e with h1 | h1
    · exact h.nq h1
    · omega
  have b3 : w3.heap[g]? = some (.cells #[pv, fv, cv, lv, qv] 35 (0, 0)) := (h.other hg g hgl h.nq).trans h.bx
  have oth : ∀ b, b ≠ g → (w3.setCell ⟨g, 4, none⟩ v').heap[b]? = w3.heap[b]? := fun b hb => heap_setCell_other w3 ⟨g, 4, none⟩ b v' hb
  have bel3 := h.grow hg (fun k e => (World.ownsRow.lt h.qo k e).1)
  refine ⟨?_, ?_, ?_, ?_, h.gB, h.nf, nv, h.no, ?_, h.fp, ?_, ?_⟩
  · rw [heap_setCell_same _ _ _ _ _ _ b3]; rfl
  · exact row_at h.fo (fun k e => (oth k (fun e2 => h.nf (by rw [← e2]; exact e))).trans (h.other hg k (hf k e) (fun e2 => h.fq k e e2)))
  · rw [List.length_append, List.map_append]
    exact row_at ho (fun k e => oth k (fun e2 => nv (by rw [← e2]; exact e)))
  · exact row_at h.oo (fun k e => (oth k (fun e2 => h.no (by rw [← e2]; exact e))).trans (h.other hg k (hO k e) (fun e2 => h.qp k e2 e)))
  · intro b hb e
    rcases hk b e with h1 | h1
    · exact h.fq b hb h1
    · have := hf b hb; omega
  · intro b hb e
    rcases hk b hb with h1 | h1
    · exact h.qp b h1 e
    · have := hO b e; omega
  · exact bel3.setCell (p := ⟨g, 4, none⟩) h.gB v'
/-- One open isolate more. -/
theorem TS.appO {w wr w3 : World} {g : Nat} {pv cv lv fv qv ov v' : Value} {F Q O : List Int} {x : Int} {o : Obj} (h : TS w wr g pv cv lv fv qv ov F Q O)
    (ho : w3.ownsRow w.heap.size 3 1 v' (O.length + 1) (O.map (Value.int .i64) ++ [.int .i64 x])) (hg : (wr.alloc o).grownBy w3 ov.ownBlock) (hk : ∀ k, v'.ownBlock = some k → ov.ownBlock = some k ∨ wr.heap.size + 1 ≤ k) :
    TS w w3 g pv cv lv fv qv v' F Q (O ++ [x]) := by
  have hf : ∀ b, fv.ownBlock = some b → b < wr.heap.size := fun b hb => (World.ownsRow.lt h.fo b hb).2
  have hq : ∀ b, qv.ownBlock = some b → b < wr.heap.size := fun b hb => (World.ownsRow.lt h.qo b hb).2
  have hgl := h.lt
  have nv : v'.ownBlock ≠ some g := fun e => by
    rcases hk g e with h1 | h1
    · exact h.no h1
    · omega
  have bel3 := h.grow hg (fun k e => (World.ownsRow.lt h.oo k e).1)
  refine ⟨(h.other hg g hgl h.no).trans h.bx, ?_, ?_, ?_, h.gB, h.nf, h.nq, nv, h.fq, ?_, ?_, bel3⟩
  · exact row_at h.fo (fun k e => h.other hg k (hf k e) (fun e2 => h.fp k e e2))
  · exact row_at h.qo (fun k e => h.other hg k (hq k e) (fun e2 => h.qp k e e2))
  · rw [List.length_append, List.map_append]
    exact ho
  · intro b hb e
    rcases hk b e with h1 | h1
    · exact h.fp b hb h1
    · have := hf b hb; omega
  · intro b hb e
    rcases hk b e with h1 | h1
    · exact h.qp b hb h1
    · have := hq b hb; omega
/-- No isolate open any more. -/
theorem TS.newO {w wr : World} {g : Nat} {pv cv lv fv qv ov : Value} {F Q O : List Int} (h : TS w wr g pv cv lv fv qv ov F Q O) :
    TS w (wr.alloc (.cells #[] 3)) g pv cv lv fv qv (.slice (some ⟨wr.heap.size, 0, none⟩) 0 0) F Q [] := by
  have hf : ∀ b, fv.ownBlock = some b → b < wr.heap.size := fun b hb => (World.ownsRow.lt h.fo b hb).2
  have hq : ∀ b, qv.ownBlock = some b → b < wr.heap.size := fun b hb => (World.ownsRow.lt h.qo b hb).2
  have hgl := h.lt
  have h2 := h.below ((Below.refl _ _).alloc (Nat.le_refl _) (.cells #[] 3))
  have hs := h.bel.size
  refine ⟨h2.bx, h2.fo, h2.qo, ?_, h.gB, h.nf, h.nq, ?_, h.fq, ?_, ?_, h2.bel⟩
  · have := World.ownsRow_lit (e := 3) (size := 1) (base := wr.heap.size) wr #[] 0 (Nat.le_refl _) (by unfold maxLen; omega) rfl
    exact ⟨this.1, this.2.imp_right (fun ⟨a, c, d, e1, e2, r⟩ => ⟨a, c, d, e1, by omega, r⟩)⟩
  · simp [Value.ownBlock]; omega
  · intro b hb e
    simp [Value.ownBlock] at e
    have := hf b hb; omega
  · intro b hb e
    simp [Value.ownBlock] at e
    have := hq b hb; omega
/-- A pair told. -/
theorem TS.setQ {w wr : World} {g b cap : Nat} {pv cv lv fv ov : Value} {F Q O : List Int} (h : TS w wr g pv cv lv fv (.slice (some ⟨b, 0, none⟩) Q.length cap) ov F Q O) (i : Nat) (x : Int) :
    TS w (wr.setCell ⟨b, i, none⟩ (.int .i64 x)) g pv cv lv fv (.slice (some ⟨b, 0, none⟩) Q.length cap) ov F (Q.set i x) O := by
  have hgb : g ≠ b := fun e => h.nq (by rw [e]; rfl)
  have hB := (World.ownsRow.lt h.qo b rfl).1
  have oth : ∀ k, k ≠ b → (wr.setCell ⟨b, i, none⟩ (.int .i64 x)).heap[k]? = wr.heap[k]? := fun k hk => heap_setCell_other wr ⟨b, i, none⟩ k _ hk
  refine ⟨(oth g hgb).trans h.bx, ?_, ?_, ?_, h.gB, h.nf, h.nq, h.no, h.fq, h.fp, h.qp, h.bel.setCell (p := ⟨b, i, none⟩) hB _⟩
  · exact row_at h.fo (fun k e => oth k (fun e2 => h.fq k e (by rw [e2]; rfl)))
  · rw [List.length_set, List.map_set]
    exact (World.ownsRow.stored h.qo i (.int .i64 x)).1
  · exact row_at h.oo (fun k e => oth k (fun e2 => h.qp b rfl (by rw [← e2]; exact e)))
/-- The last open isolate taken off. -/
theorem TS.cutO {w wr : World} {g b cap n : Nat} {pv cv lv fv qv : Value} {F Q O : List Int} {x : Int} (h : TS w wr g pv cv lv fv qv (.slice (some ⟨b, 0, none⟩) n cap) F Q (O ++ [x])) :
    TS w wr g pv cv lv fv qv (.slice (some ⟨b, 0, none⟩) O.length cap) F Q O := by
  refine { h with oo := ?_, no := h.no, fp := h.fp, qp := h.qp }
  obtain ⟨h1, h2⟩ := h.oo
  refine ⟨by simp, ?_⟩
  rcases h2 with ⟨e, _⟩ | ⟨g', cap', cur, e, hg, hh, hn, hm, hs, ht⟩
  · cases e
  · injection e with e1 e2 e3
    injection e1 with e1
    injection e1 with e1
    subst e1 e3
    refine .inr ⟨b, cap, cur, rfl, hg, hh, by simp at hn; omega, hm, hs, ?_⟩
    rw [List.length_append, List.map_append] at ht
    have : cur.toList.take (O.length * 1) = (cur.toList.take ((O.length + [x].length) * 1)).take (O.length * 1) := by
      rw [List.take_take]
      congr 1
      simp
    rw [this, ht, List.take_left' (by simp)]
end Go.Proofs.YtheakbjddonknaaDoor.Bs
