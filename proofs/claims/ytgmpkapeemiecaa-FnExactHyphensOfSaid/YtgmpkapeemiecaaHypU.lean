/- The digits of a text, as the specification finds them, are those of the tree. -/
import Derived.Test.YtgmpkapeemiecaaHypQ
namespace Go.Proofs.Ytgmpkapeemiecaa
namespace Hyp
open Go.RowKit
set_option linter.unusedVariables false
set_option linter.unusedSimpArgs false
/-- Whether a pattern's letters stand at a place. -/
def mt (t : ByteArray) (s : St) (a : Nat) : Bool := (t.extract a (a + s.L.length)).toList == (strOfNums s.L).toList
def pb (t : ByteArray) (s : St) (R : List Int) : Nat → List Int
  | 0 => R
  | a + 1 => if mt t s a = true then rsk (pb t s R a) a (s.D ++ [s.d]) (s.D ++ [s.d]).length else pb t s R a
def bb (t : ByteArray) (P : List ByteArray) : Nat → List Int
  | 0 => List.replicate (t.size + 1) 0
  | i + 1 => match pat (nthS P i) with
    | some s => pb t s (bb t P i) (t.size + 1 - s.L.length)
    | none => bb t P i
theorem pb_len (t : ByteArray) (s : St) (R : List Int) (n : Nat) : (pb t s R n).length = R.length := by
  induction n with
  | zero => rfl
  | succ n ih =>
    rw [pb]
    split
    · rw [rsk_len, ih]
    · exact ih
theorem bb_len (t : ByteArray) (P : List ByteArray) (i : Nat) : (bb t P i).length = t.size + 1 := by
  induction i with
  | zero => simp [bb]
  | succ i ih =>
    rw [bb]
    split
    · rw [pb_len, ih]
    · exact ih
theorem pb_le (t : ByteArray) {x : ByteArray} {s : St} (hs : pat x = some s) (R : List Int) (hR : R.length = t.size + 1) (j : Nat) (v : Int) : ∀ n, n ≤ t.size + 1 - s.L.length → ((pb t s R n).getD j 0 ≤ v ↔ R.getD j 0 ≤ v ∧ ∀ a, a < n → mt t s a = true → a ≤ j → j - a < (s.D ++ [s.d]).length → (s.D ++ [s.d]).getD (j - a) 0 ≤ v)
  | 0, _ => by
    rw [pb]
    exact ⟨fun h => ⟨h, fun a c => absurd c (by omega)⟩, fun h => h.1⟩
  | n + 1, h => by
    have ih := pb_le t hs R hR j v n (by omega)
    have hl := pat_len hs
    rw [pb]
    by_cases c : mt t s n = true
    · rw [if_pos c, rsk_le (by rw [pb_len, hR]; omega), ih]
      constructor
      · rintro ⟨⟨h1, h2⟩, h3⟩
        refine ⟨h1, fun a c1 c2 => ?_⟩
        by_cases e : a = n
        · subst e; exact h3
        · exact h2 a (by omega) c2
      · rintro ⟨h1, h2⟩
        exact ⟨⟨h1, fun a c1 => h2 a (by omega)⟩, h2 n (by omega) c⟩
    · rw [if_neg c, ih]
      constructor
      · rintro ⟨h1, h2⟩
        refine ⟨h1, fun a c1 c2 => ?_⟩
        by_cases e : a = n
        · subst e; exact absurd c2 c
        · exact h2 a (by omega) c2
      · rintro ⟨h1, h2⟩
        exact ⟨h1, fun a c1 => h2 a (by omega)⟩
theorem bb_le (t : ByteArray) (P : List ByteArray) (j : Nat) (v : Int) : ∀ i, ((bb t P i).getD j 0 ≤ v ↔ 0 ≤ v ∧ ∀ i', i' < i → ∀ s, pat (nthS P i') = some s → ∀ a, a < t.size + 1 - s.L.length → mt t s a = true → a ≤ j → j - a < (s.D ++ [s.d]).length → (s.D ++ [s.d]).getD (j - a) 0 ≤ v)
  | 0 => by
    rw [bb, zeros_at]
    exact ⟨fun h => ⟨h, fun i' c => absurd c (by omega)⟩, fun h => h.1⟩
  | i + 1 => by
    have ih := bb_le t P j v i
    rw [bb]
    cases e : pat (nthS P i) with
    | none =>
      show (bb t P i).getD j 0 ≤ v ↔ _
      rw [ih]
      constructor
      · rintro ⟨h1, h2⟩
        refine ⟨h1, fun i' c s h3 => ?_⟩
        by_cases e2 : i' = i
        · subst e2
          rw [e] at h3
          cases h3
        · exact h2 i' (by omega) s h3
      · rintro ⟨h1, h2⟩
        exact ⟨h1, fun i' c => h2 i' (by omega)⟩
    | some s =>
      show (pb t s (bb t P i) _).getD j 0 ≤ v ↔ _
      rw [pb_le t e _ (bb_len t P i) j v _ (Nat.le_refl _), ih]
      constructor
      · rintro ⟨⟨h1, h2⟩, h3⟩
        refine ⟨h1, fun i' c s' h4 => ?_⟩
        by_cases e2 : i' = i
        · subst e2
          rw [e] at h4
          obtain rfl := Option.some.inj h4
          exact h3
        · exact h2 i' (by omega) s' h4
      · rintro ⟨h1, h2⟩
        exact ⟨⟨h1, fun i' c => h2 i' (by omega)⟩, h2 i (by omega) s e⟩
theorem kd_inj {x y : Int} (hx : ltr x) (hy : ltr y) (h : kd x = kd y) : x = y := by
  unfold kd at h
  unfold ltr at hx hy
  split at h <;> split at h <;> omega
theorem ext_getD {α : Type} (d : α) {X Y : List α} (h : X.length = Y.length) (h2 : ∀ j, j < X.length → X.getD j d = Y.getD j d) : X = Y := by
  apply List.ext_getElem h
  intro j h3 h4
  have := h2 j h3
  simpa [List.getD_eq_getElem?_getD, h3, h4] using this
theorem pth_get (t : ByteArray) (a j : Nat) : ∀ n, j < n → (pth t a n).getD j 0 = kd (bt t (a + j) : Int)
  | 0, h => absurd h (by omega)
  | n + 1, h => by
    rw [pth, List.getD_eq_getElem?_getD]
    by_cases e : j = n
    · subst e
      rw [List.getElem?_append_right (by rw [pth_len]; omega), pth_len]
      simp
    · rw [List.getElem?_append_left (by rw [pth_len]; omega), ← List.getD_eq_getElem?_getD]
      exact pth_get t a j n (by omega)
theorem cut_byte2 (t : ByteArray) (a b i : Nat) (h : a + i < b) (hb : b ≤ t.size) : ((t.extract a b).data.toList.getD i 0).toNat = bt t (a + i) := by
  have e : ∀ (s : ByteArray) (j : Nat) (hj : j < s.size), s.get! j = s.data.toList.getD j 0 := fun s j hj => by
    obtain ⟨⟨l⟩⟩ := s
    show (⟨l⟩ : Array UInt8)[j]! = l.getD j 0
    have hj2 : j < l.length := hj
    simp [List.getD_eq_getElem?_getD, hj2]
  unfold bt
  rw [e t (a + i) (by omega)]
  congr 1
  rw [ByteArray.data_extract]
  have h3 : a + i < t.data.size := by show a + i < t.size; omega
  simp [List.getD_eq_getElem?_getD, List.getElem?_take, List.getElem?_drop, show i < b - a by omega, Array.getElem?_eq_getElem h3]
theorem mt_iff {t : ByteArray} (hl : ∀ i, i < t.size → ltr (bt t i : Int)) {s : St} (hs : ∀ x ∈ s.L, ltr x) {a : Nat} (h : a + s.L.length ≤ t.size) : mt t s a = true ↔ pth t a s.L.length = s.L.map kd := by
  have hX : (t.extract a (a + s.L.length)).toList = (t.extract a (a + s.L.length)).data.toList := ByteArray.toList_eq _
  have hY : (strOfNums s.L).toList = (strOfNums s.L).data.toList := ByteArray.toList_eq _
  have lX : (t.extract a (a + s.L.length)).data.toList.length = s.L.length := by
    rw [Array.length_toList]
    show (t.extract a (a + s.L.length)).size = _
    rw [ByteArray.size_extract]
    omega
  have lY : (strOfNums s.L).data.toList.length = s.L.length := by rw [strOfNums_data, List.length_map]
  have hm : ∀ j, j < s.L.length → (s.L.map kd).getD j 0 = kd (s.L.getD j 0) := fun j hj => by
    simp [List.getD_eq_getElem?_getD, hj]
  have hlt : ∀ j, j < s.L.length → ltr (s.L.getD j 0) := fun j hj => hs _ (by rw [List.getD_eq_getElem?_getD, List.getElem?_eq_getElem hj]; exact List.getElem_mem hj)
  unfold mt
  rw [hX, hY, beq_iff_eq]
  constructor
  · intro e
    refine ext_getD 0 (by rw [pth_len, List.length_map]) fun j hj => ?_
    rw [pth_len] at hj
    rw [pth_get t a j _ hj, hm j hj]
    have h1 := cut_byte2 t a (a + s.L.length) j (by omega) h
    rw [e] at h1
    rw [← h1, byte_at hs j hj]
  · intro e
    refine ext_getD 0 (by rw [lX, lY]) fun j hj => ?_
    rw [lX] at hj
    have h1 := cut_byte2 t a (a + s.L.length) j (by omega) h
    have h2 := byte_at hs j hj
    have h3 := pth_get t a j _ hj
    rw [e, hm j hj] at h3
    have h4 := kd_inj (hlt j hj) (hl (a + j) (by omega)) h3
    apply UInt8.toNat_inj.1
    omega
/-- Both sides' digits. -/
theorem aa_bb {t : ByteArray} (hl : ∀ i, i < t.size → ltr (bt t i : Int)) (P : List ByteArray) (m j : Nat) : (aa (dgs P m) t t.size).getD j 0 = (bb t P m).getD j 0 := by
  have key : ∀ v, (aa (dgs P m) t t.size).getD j 0 ≤ v ↔ (bb t P m).getD j 0 ≤ v := fun v => by
    rw [aa_le (dgs_len P m) t j v _ (Nat.le_refl _), bb_le]
    constructor
    · rintro ⟨h1, h2⟩
      refine ⟨h1, fun i' c s hp a ha hm haj hlt => ?_⟩
      obtain ⟨hpr, hok⟩ := pat_pr hp
      have o := pr_ok hpr
      have h1l : 1 ≤ s.L.length := by
        unfold okP at hok
        simp only [Bool.and_eq_true, decide_eq_true_eq] at hok
        exact hok.2.1
      have hpth := (mt_iff hl o.lt (a := a) (by omega)).1 hm
      exact (dgs_le P _ (j - a) v h1 m).1 (fun L h3 h4 => h2 a (by omega) s.L.length h1l (by omega) L h3 haj h4) i' c s hp hpth.symm hlt
    · rintro ⟨h1, h2⟩
      refine ⟨h1, fun b hb k hk hbk L hL hbj hlt => ?_⟩
      refine (dgs_le P _ (j - b) v h1 m).2 (fun i' c s hp hq hlt2 => ?_) L hL hlt
      have hpr := pr_ok (pat_pr hp).1
      have hlen : s.L.length = k := by
        have := congrArg List.length hq
        rw [List.length_map, pth_len] at this
        exact this
      subst hlen
      exact h2 i' c s hp b (by omega) ((mt_iff hl hpr.lt hbk).2 hq.symm) hbj hlt2
  exact Int.le_antisymm ((key _).2 (Int.le_refl _)) ((key _).1 (Int.le_refl _))
end Hyp
end Go.Proofs.Ytgmpkapeemiecaa
