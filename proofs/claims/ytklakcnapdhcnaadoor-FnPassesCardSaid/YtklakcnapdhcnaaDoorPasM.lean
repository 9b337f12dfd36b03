/- Marks written into rules and passes, and found there again. -/
import Derived.Test.YtklakcnapdhcnaaDoorPasI
import Derived.Laws.Concat
namespace Go.Proofs.YtklakcnapdhcnaaDoor.Pas
open Go.RowKit
set_option linter.unusedVariables false
/-- The digits of a number ahead of others. -/
def dgs : Nat → Nat → List Int → List Int
  | 0, _, o => o
  | f + 1, k, o => if k = 0 then o else dgs f (k / 10) ((48 + ((k % 10 : Nat) : Int)) :: o)
theorem dgs_step (f k : Nat) (o : List Int) (h : k ≠ 0) : dgs (f + 1) k o = dgs f (k / 10) ((48 + ((k % 10 : Nat) : Int)) :: o) := if_neg h
theorem dgs_zero (f : Nat) (o : List Int) : dgs f 0 o = o := by cases f <;> rfl
/-- The text that marks place k. -/
def mtx (k : Nat) : ByteArray := strOfNums ([109] ++ dgs k k [])
theorem str_plus (A B : List Int) : strOfNums A ++ strOfNums B = strOfNums (A ++ B) := by
  unfold strOfNums
  apply ByteArray.ext
  simp [ByteArray.data_append]
theorem str_add (A B : List Int) (h : A.length + B.length ≤ 100000000) (W : World) : (Op.stringOp .add (strOfNums A) (strOfNums B)).run Tryd.prog W = .ok (.string (strOfNums (A ++ B))) W := by
  rw [run_string_add_sum W _ _ (by rw [strOfNums_size, strOfNums_size]; omega), str_plus]
theorem al1 (w : World) (a : Obj) : Below w.heap.size w (w.alloc a) := (Below.refl _ _).alloc (Nat.le_refl _) _
/-- The rule that marks from number c on. -/
def mkr (c : Nat) : Ru := (mtx c, mtx (c + 1), mtx (c + 2), mtx (c + 3), ((c + 4 : Nat) : Int))
/-- Rules of which the first k are marked. -/
def mkTo (L : List Ru) (c k : Nat) : List Ru := (List.range L.length).map fun i => if i < k then mkr (c + i * 5) else gr L i
theorem mkTo_len (L : List Ru) (c k : Nat) : (mkTo L c k).length = L.length := by simp [mkTo]
theorem mkTo_at (L : List Ru) (c k i : Nat) (h : i < L.length) : gr (mkTo L c k) i = if i < k then mkr (c + i * 5) else gr L i := by simp [mkTo, gr, List.getD, h]
def mkR (L : List Ru) (c : Nat) : List Ru := mkTo L c L.length
theorem Has.of {xs : List Value} {L M : List Ru} {k : Nat} (h : Has xs L k) (e : ∀ i, i < k → gr M i = gr L i) : Has xs M k := fun i hi => by rw [e i hi]; exact h i hi
theorem Has.mark {xs : List Value} {L : List Ru} {c k : Nat} (h : Has xs (mkTo L c k) L.length) (hk : k < L.length) (hl : xs.length = L.length * 5) : Has (set5 xs (k * 5) (mkr (c + k * 5))) (mkTo L c (k + 1)) L.length := by
  intro i hi
  by_cases e : i = k
  · subst e
    rw [mkTo_at L c (i + 1) i hi, if_pos (by omega)]
    exact set5_at xs (i * 5) _ (by omega)
  · have := h i hi
    rw [mkTo_at L c k i hi] at this
    rw [set5_ne _ _ _ _ (by omega), set5_ne _ _ _ _ (by omega), set5_ne _ _ _ _ (by omega), set5_ne _ _ _ _ (by omega), set5_ne _ _ _ _ (by omega), mkTo_at L c (k + 1) i hi]
    by_cases e2 : i < k
    · rw [if_pos (by omega)]; rw [if_pos e2] at this; exact this
    · rw [if_neg (by omega)]; rw [if_neg e2] at this; exact this
theorem grow_below {w w1 w2 : World} {r : Option Nat} (h : w.grownBy w1 r) (hb : Below w1.heap.size w1 w2) : w.grownBy w2 r := by
  obtain ⟨h1, h2, h3, h4, h5⟩ := h
  exact ⟨hb.os.trans h1, hb.tape.trans h2, hb.output.trans h3, Nat.le_trans h4 hb.size, fun k hk hn => (hb.block k (Nat.lt_of_lt_of_le hk h4)).trans (h5 k hk hn)⟩
theorem grow_refl (w : World) (r : Option Nat) : w.grownBy w r := ⟨rfl, rfl, rfl, Nat.le_refl _, fun _ _ _ => rfl⟩
theorem grow_set {w w' : World} {g j : Nat} {u : Value} (h : w.grownBy w' (some g)) : w.grownBy (w'.setCell ⟨g, j, none⟩ u) (some g) := by
  obtain ⟨h1, h2, h3, h4, h5⟩ := h
  refine ⟨h1, h2, h3, by simpa using h4, fun k hk hn => ?_⟩
  rw [heap_setCell_other w' ⟨g, j, none⟩ k u (by intro e; exact hn (by rw [show g = k from e.symm]))]
  exact h5 k hk hn
theorem five_keep {w w' : World} {b off k c : Nat} (h : (fun w' => w'.cell? ⟨b, off + k * 5, none⟩ = some (.string (mtx (c + k * 5))) ∧ w'.cell? ⟨b, off + k * 5 + 1, none⟩ = some (.string (mtx (c + k * 5 + 1))) ∧ w'.cell? ⟨b, off + k * 5 + 2, none⟩ = some (.string (mtx (c + k * 5 + 2))) ∧ w'.cell? ⟨b, off + k * 5 + 3, none⟩ = some (.string (mtx (c + k * 5 + 3))) ∧ w'.cell? ⟨b, off + k * 5 + 4, none⟩ = some (.int .i64 ((c + k * 5 + 4 : Nat) : Int))) w) (hb : w'.heap[b]? = w.heap[b]?) : (fun w' => w'.cell? ⟨b, off + k * 5, none⟩ = some (.string (mtx (c + k * 5))) ∧ w'.cell? ⟨b, off + k * 5 + 1, none⟩ = some (.string (mtx (c + k * 5 + 1))) ∧ w'.cell? ⟨b, off + k * 5 + 2, none⟩ = some (.string (mtx (c + k * 5 + 2))) ∧ w'.cell? ⟨b, off + k * 5 + 3, none⟩ = some (.string (mtx (c + k * 5 + 3))) ∧ w'.cell? ⟨b, off + k * 5 + 4, none⟩ = some (.int .i64 ((c + k * 5 + 4 : Nat) : Int))) w' :=
  ⟨(World.cell?_of_block (a := ⟨b, off + k * 5, none⟩) hb).trans h.1, (World.cell?_of_block (a := ⟨b, off + k * 5 + 1, none⟩) hb).trans h.2.1, (World.cell?_of_block (a := ⟨b, off + k * 5 + 2, none⟩) hb).trans h.2.2.1, (World.cell?_of_block (a := ⟨b, off + k * 5 + 3, none⟩) hb).trans h.2.2.2.1, (World.cell?_of_block (a := ⟨b, off + k * 5 + 4, none⟩) hb).trans h.2.2.2.2⟩
theorem str_neP (a : ByteArray) (W : World) : (binOp .neq 9 (.string a) (.string a)).run Tryd.prog W = .ok (.bool false) W := by
  go_simp
end Go.Proofs.YtklakcnapdhcnaaDoor.Pas
