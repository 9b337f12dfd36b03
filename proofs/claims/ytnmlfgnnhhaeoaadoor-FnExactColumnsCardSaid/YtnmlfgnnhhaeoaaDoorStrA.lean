/- Rows of texts: read, held against each other, written over by marks that are texts. -/
import Derived.Test.YtnmlfgnnhhaeoaaDoorND
import Derived.Laws.Concat
import Derived.Test.YtnmlfgnnhhaeoaaDoorStpC
namespace Go.Proofs.YtnmlfgnnhhaeoaaDoor
open Go.RowKit
def nthS (l : List ByteArray) (i : Nat) : ByteArray := l.getD i ⟨#[]⟩
/-- A slice value that holds just the texts l. -/
def StrsAt (w : World) (v : Value) (l : List ByteArray) : Prop :=
  ∃ a cap, v = .slice a l.length cap ∧ (l = [] ∨ ∃ b off, a = some ⟨b, off, none⟩ ∧ b < w.heap.size ∧ ∀ i, i < l.length → w.cell? ⟨b, off + i, none⟩ = some (.string (nthS l i)))
theorem StrsAt.below {w w' : World} {v : Value} {l : List ByteArray} (h : StrsAt w v l) (hb : Below w.heap.size w w') : StrsAt w' v l := by
  obtain ⟨a, cap, rfl, h⟩ := h
  refine ⟨a, cap, rfl, ?_⟩
  rcases h with h | ⟨b, off, rfl, hbs, hc⟩
  · exact .inl h
  · exact .inr ⟨b, off, rfl, Nat.lt_of_lt_of_le hbs hb.size, fun i hi => (hb.cell (p := ⟨b, off + i, none⟩) hbs).trans (hc i hi)⟩
theorem StrsAt.owned {w : World} {base : Nat} {v : Value} {l : List ByteArray} {n : Nat} (h : w.ownsRow base 9 1 v n (l.map Value.string)) : StrsAt w v l := by
  have hl : l.length = n := by simpa using h.1
  rcases h.2 with ⟨hv, hn⟩ | ⟨g, cap, cur, hv, hg, hh, hn, hm, hs, ht⟩
  · exact ⟨none, 0, by rw [hv, hl, hn], .inl (List.length_eq_zero_iff.1 (by omega))⟩
  · subst hv
    refine ⟨some ⟨g, 0, none⟩, cap, by rw [hl], .inr ⟨g, 0, rfl, (Array.getElem?_eq_some_iff.1 hh).1, fun i hi => ?_⟩⟩
    have hc := h.cellAt i (by omega)
    rw [Nat.zero_add, hc, List.getElem?_map]
    simp [nthS, List.getD, hi]
theorem info9 : (Tryd.prog.info? 9).map (fun i => (i.zero, i.size, i.bytes)) = some (some (.string ⟨#[]⟩), 1, 16) := by kernel_rfl
/-- The digits of a number ahead of others. -/
def dgs : Nat → Nat → List Int → List Int
  | 0, _, o => o
  | f + 1, k, o => if k = 0 then o else dgs f (k / 10) ((48 + ((k % 10 : Nat) : Int)) :: o)
theorem dgs_step (f k : Nat) (o : List Int) (h : k ≠ 0) : dgs (f + 1) k o = dgs f (k / 10) ((48 + ((k % 10 : Nat) : Int)) :: o) := if_neg h
theorem dgs_zero (f : Nat) (o : List Int) : dgs f 0 o = o := by cases f <;> rfl
/-- The text that marks place k. -/
def mtx (k : Nat) : ByteArray := strOfNums ([109] ++ dgs k k [])
theorem str_plus (A B : List Int) : strOfNums A ++ strOfNums B = strOfNums (A ++ B) := by
  unfold strOfNums
  apply ByteArray.ext
  simp [ByteArray.data_append]
theorem str_add (A B : List Int) (h : A.length + B.length ≤ 100000000) (W : World) : (Op.stringOp .add (strOfNums A) (strOfNums B)).run Tryd.prog W = .ok (.string (strOfNums (A ++ B))) W := by
  rw [run_string_add_sum W _ _ (by rw [strOfNums_size, strOfNums_size]; omega), str_plus]
theorem al1 (w : World) (a : Obj) : Below w.heap.size w (w.alloc a) := (Below.refl _ _).alloc (Nat.le_refl _) _
set_option maxHeartbeats 1000000 in
set_option maxRecDepth 100000 in
theorem markText_any (N : Nat) (w : World) (h0 : 0 < N) (h : N ≤ 4194304) :
    Calls Tryd.prog 19 #[.int .i64 N] w fun e w' => e = .returned (.string (mtx N)) ∧ Below w.heap.size w w' := by
  have hcv := conv1
  have E0 : ({ data := #[] } : ByteArray) = strOfNums [] := rfl
  have E1 : ({ data := #[109] } : ByteArray) = strOfNums [109] := rfl
  have HX : Hid (mtx N = strOfNums ([109] ++ dgs N N [])) := hide rfl
  generalize mtx N = X at *
  go_enter Tryd.func19, Tryd.ntmps19
  go_wp2
  go_loopw [0, 3] (fun nv ov wr => ∃ (f m : Nat) (out : List Int), nv = .int .i64 m ∧ ov = .string (strOfNums out) ∧ m ≤ f ∧ out.length + m ≤ N ∧ Hid (dgs f m out = dgs N N []) ∧ Hid (Below w.heap.size w wr)) (fun nv _ _ => (intOf nv).toNat)
  case atStart => exact ⟨N, N, [], rfl, rfl, Nat.le_refl _, by simp, hide rfl, hide (Below.refl _ _)⟩
  case round =>
    obtain ⟨f, m, out, rfl, rfl, hm, hol, HE, HB⟩ := hrel
    have hadd := fun (x : Int) (W : World) => str_add [x] out (by simp; omega) W
    by_cases h9 : 0 < m
    · obtain ⟨f, rfl⟩ : ∃ f', f = f' + 1 := ⟨f - 1, by omega⟩
      have hr : ((m : Int)).tmod 10 = ((m % 10 : Nat) : Int) := by rw [Int.tmod_eq_emod_of_nonneg (by omega)]; omega
      have hq : ((m : Int)).tdiv 10 = ((m / 10 : Nat) : Int) := by rw [Int.tdiv_eq_ediv_of_nonneg (by omega)]; omega
      have HE2 : Hid (dgs f (m / 10) ((48 + ((m % 10 : Nat) : Int)) :: out) = dgs N N []) := hide (by rw [← unhide HE, dgs_step f m out (by omega)])
      have h10 : m % 10 < 10 := Nat.mod_lt _ (by omega)
      have hq3 : m / 10 < m := Nat.div_lt_self (by omega) (by omega)
      generalize m % 10 = r at *
      generalize m / 10 = q at *
      clear HE
      go_wp2
      go_roundw
      case rel => exact ⟨f, q, (48 + (r : Int)) :: out, rfl, rfl, by omega, by simp; omega, HE2, hide ((unhide HB).trans ((al1 wr _).mono (unhide HB).size))⟩
      case measure => simp [intOf]; omega
    · obtain rfl : m = 0 := by omega
      have HE2 : Hid (X = strOfNums ([109] ++ out)) := hide (by rw [unhide HX, ← unhide HE, dgs_zero])
      have hadd2 := fun (W : World) => str_add [109] out (by simp; omega) W
      clear HE hadd
      go_wp2
      go_ret
      exact ⟨by rw [unhide HE2]; rfl, unhide HB⟩
end Go.Proofs.YtnmlfgnnhhaeoaaDoor
