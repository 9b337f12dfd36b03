/- Several texts in one. -/
import Derived.Test.YtdgafmhjbgddkaaDoorWrdW
import Derived.Test.YtdgafmhjbgddkaaDoorWrdY
import Derived.Test.YtdgafmhjbgddkaaDoorChrX
import Derived.Test.YtdgafmhjbgddkaaDoorAppG
import Derived.Test.YtdgafmhjbgddkaaDoorChrC
/- Places that stand alone, and what is cut there: both sides in plain numbers. -/
namespace Go.Proofs.YtdgafmhjbgddkaaDoor
namespace Wrd
open Chr (cat ctl mrk stb sts ctk cutsL)
set_option linter.unusedVariables false
/-- A point that belongs to no other one. -/
def aln (L : List Int) (i : Nat) : Bool := i == 0 || !blg (nth L i) (nth L (i - 1))
/-- The places of these among the first k points. -/
def alk (L : List Int) : Nat → List Int
  | 0 => []
  | k + 1 => alk L k ++ (if aln L k = true then [(k : Int)] else [])
section A
variable {L : List Int} {k : Nat}
theorem alk_yes (h : aln L k = true) : alk L (k + 1) = alk L k ++ [(k : Int)] := by unfold alk; rw [if_pos h]; cases k <;> rfl
theorem alk_no (h : aln L k = false) : alk L (k + 1) = alk L k := by rw [alk, if_neg (by rw [h]; decide), List.append_nil]
theorem alk_len (L : List Int) (k : Nat) : (alk L k).length ≤ k := by
  induction k with
  | zero => exact Nat.le_refl _
  | succ k ih =>
    cases h : aln L k with
    | true => rw [alk_yes h]; simp; omega
    | false => rw [alk_no h]; omega
theorem alk_mono (L : List Int) (j m : Nat) : ∃ X, alk L (j + m) = alk L j ++ X := by
  induction m with
  | zero => exact ⟨[], by simp⟩
  | succ m ih =>
    obtain ⟨X, hX⟩ := ih
    cases h : aln L (j + m) with
    | true => exact ⟨X ++ [((j + m : Nat) : Int)], by rw [← Nat.add_assoc, alk_yes h, hX, List.append_assoc]⟩
    | false => exact ⟨X, by rw [← Nat.add_assoc, alk_no h, hX]⟩
theorem nth_app_left (A B : List Int) (i : Nat) (h : i < A.length) : nth (A ++ B) i = nth A i := by
  unfold nth
  rw [List.getD_eq_getElem?_getD, List.getD_eq_getElem?_getD, List.getElem?_append_left h]
theorem nth_app_at (A B : List Int) (x : Int) : nth (A ++ x :: B) A.length = x := by
  unfold nth
  rw [List.getD_eq_getElem?_getD, List.getElem?_append_right (Nat.le_refl _), Nat.sub_self]
  rfl
theorem alk_at {j : Nat} (h : j < k) (ha : aln L j = true) : (alk L j).length < (alk L k).length ∧ nth (alk L k) (alk L j).length = (j : Int) := by
  obtain ⟨X, hX⟩ := alk_mono L (j + 1) (k - (j + 1))
  rw [show j + 1 + (k - (j + 1)) = k by omega, alk_yes ha, List.append_assoc] at hX
  rw [hX]
  exact ⟨by simp, nth_app_at _ _ _⟩
theorem alk_inv {i : Nat} : ∀ {k : Nat}, i < (alk L k).length → ∃ j, j < k ∧ aln L j = true ∧ (alk L j).length = i := by
  intro k
  induction k with
  | zero => intro h; simp [alk] at h
  | succ k ih =>
    intro h
    cases ha : aln L k with
    | true =>
      rw [alk_yes ha] at h
      by_cases c : i < (alk L k).length
      · obtain ⟨j, h1, h2, h3⟩ := ih c
        exact ⟨j, by omega, h2, h3⟩
      · exact ⟨k, by omega, ha, by simp at h; omega⟩
    | false =>
      rw [alk_no ha] at h
      obtain ⟨j, h1, h2, h3⟩ := ih h
      exact ⟨j, by omega, h2, h3⟩
end A
/-- All places that stand alone. -/
def alA (L : List Int) : List Int := alk L L.length
theorem alA_at {L : List Int} {i : Nat} (h : i < (alA L).length) : ∃ j, j < L.length ∧ aln L j = true ∧ (alk L j).length = i ∧ nth (alA L) i = (j : Int) := by
  obtain ⟨j, h1, h2, h3⟩ := alk_inv h
  refine ⟨j, h1, h2, h3, ?_⟩
  have := (alk_at h1 h2).2
  rw [h3] at this
  exact this
theorem alA_in (L : List Int) : InL L (alA L) := by
  intro k hk
  obtain ⟨j, h1, _, _, e⟩ := alA_at hk
  rw [e]
  omega
theorem alA_len (L : List Int) : (alA L).length ≤ L.length := alk_len L _
theorem alA_zero {L : List Int} (h : 0 < (alA L).length) : nth (alA L) 0 = 0 := by
  obtain ⟨j, h1, h2, h3, e⟩ := alA_at h
  have := (alk_at (L := L) (k := L.length) (j := 0) (by omega) rfl).2
  exact this
/-- The points that stand alone. -/
def ownL (L : List Int) : List Int := (alA L).map fun a => nth L a.toNat
theorem ownL_len (L : List Int) : (ownL L).length = (alA L).length := by simp [ownL]
theorem ownL_at (L : List Int) (i : Nat) (h : i < (alA L).length) : nth (ownL L) i = ptA L (alA L) i := by
  unfold ptA ownL
  unfold nth
  simp [List.getD, h]
/-- Whether a character starts at the place that stands alone as number i. -/
def chA (L : List Int) (i : Nat) : Bool := stb L (nth (alA L) i).toNat
/-- Whether a piece starts there. -/
def cst (L : List Int) (T : List Tl) (i : Nat) : Bool := i == 0 || cutW T (plc (ownL L) i (chA L i))
theorem plc_same (L : List Int) (i : Nat) (c : Bool) (h0 : 0 < i) (h : i < (alA L).length) : ({ wplA L (alA L) i with n := !c } : WPl) = plc (ownL L) i c := by
  unfold wplA plc
  rw [ownL_len, if_pos (show 1 ≤ i by omega), ← ownL_at L (i - 1) (by omega), ← ownL_at L i h]
  by_cases c1 : 2 ≤ i
  · rw [if_pos c1, if_pos c1, ← ownL_at L (i - 2) (by omega)]
    by_cases c2 : i + 1 < (alA L).length
    · rw [if_pos c2, if_pos c2, ← ownL_at L (i + 1) c2]
    · rw [if_neg c2, if_neg c2]
  · rw [if_neg c1, if_neg c1]
    by_cases c2 : i + 1 < (alA L).length
    · rw [if_pos c2, if_pos c2, ← ownL_at L (i + 1) c2]
    · rw [if_neg c2, if_neg c2]
/-- The row of starts, the first i of them laid. -/
def wB (L : List Int) (T : List Tl) (i : Nat) : List Bool := (List.range L.length).map fun j => aln L j && (decide ((alk L j).length < i) && cst L T (alk L j).length)
theorem wB_len (L : List Int) (T : List Tl) (i : Nat) : (wB L T i).length = L.length := by simp [wB]
theorem wB_at (L : List Int) (T : List Tl) (i j : Nat) (h : j < L.length) : (wB L T i).getD j false = (aln L j && (decide ((alk L j).length < i) && cst L T (alk L j).length)) := by
  simp [wB, List.getD_eq_getElem?_getD, h]
theorem wB_zero (L : List Int) (T : List Tl) : (wB L T 0).map Value.bool = List.replicate L.length (.bool false) := by
  apply List.ext_getElem
  · simp [wB]
  · intro j h1 h2
    simp [wB]
theorem wB_set (L : List Int) (T : List Tl) (i : Nat) (h : i < (alA L).length) : ((wB L T i).map Value.bool).set (nth (alA L) i).toNat (.bool (cst L T i)) = (wB L T (i + 1)).map Value.bool := by
  obtain ⟨j, h1, h2, h3, e⟩ := alA_at h
  rw [e]
  apply List.ext_getElem
  · simp [wB]
  · intro k hk1 hk2
    rw [List.getElem_set]
    have hk : k < L.length := by simpa [wB] using hk2
    by_cases c : j = k
    · subst c
      simp [wB, h2, h3]
    · rw [if_neg (by simpa using c)]
      simp only [wB, List.map_map, List.getElem_map, List.getElem_range, Function.comp]
      congr 1
      cases ha : aln L k with
      | false => rfl
      | true =>
        have hne : ¬ (alk L k).length = i := fun e2 => by
          have := (alk_at (k := L.length) hk ha).2
          rw [e2] at this
          have e3 : nth (alk L L.length) i = (j : Int) := e
          rw [e3] at this
          omega
        have : decide ((alk L k).length < i) = decide ((alk L k).length < i + 1) := decide_eq_decide.2 (by omega)
        rw [this]
/-- The cuts, by the places that stand alone. -/
def outk (s : ByteArray) (T : List Tl) : Nat → List Int
  | 0 => []
  | i + 1 => outk s T i ++ (if cst (pts s) T i = true then [((steps s (nth (alA (pts s)) i).toNat).2 : Int)] else [])
theorem outk_len (s : ByteArray) (T : List Tl) (k : Nat) : (outk s T k).length ≤ k := by
  induction k with
  | zero => exact Nat.le_refl _
  | succ k ih =>
    unfold outk
    split <;> simp <;> omega
theorem ctk_out (s : ByteArray) (T : List Tl) : ∀ j, j ≤ (pts s).length → ctk s (wB (pts s) T (alA (pts s)).length) j = outk s T (alk (pts s) j).length := by
  intro j
  induction j with
  | zero => intro _; rfl
  | succ j ih =>
    intro h
    rw [ctk, ih (by omega), wB_at _ _ _ _ (by omega)]
    cases ha : aln (pts s) j with
    | false => rw [alk_no ha]; simp
    | true =>
      obtain ⟨h1, h2⟩ := alk_at (L := pts s) (k := (pts s).length) (show j < _ by omega) ha
      rw [alk_yes ha, List.length_append]
      show _ = outk s T ((alk (pts s) j).length + 1)
      rw [outk]
      have e : (alA (pts s)).length = (alk (pts s) (pts s).length).length := rfl
      have e2 : nth (alA (pts s)) (alk (pts s) j).length = (j : Int) := h2
      rw [e, decide_eq_true h1, e2]
      simp
/-- What WordCuts tells. -/
def wcA (s : ByteArray) (T : List Tl) : List Int := outk s T (alA (pts s)).length ++ (if 0 < s.size then [(s.size : Int)] else [])
theorem cuts_wcA (s : ByteArray) (T : List Tl) : cutsL s (wB (pts s) T (alA (pts s)).length) = wcA s T := by
  unfold cutsL wcA
  rw [wB_len]
  by_cases h : (pts s).length = 0
  · rw [if_pos h]
    have h2 : ¬ 0 < s.size := fun e => by have := Chr.pts_pos e; omega
    have h3 : (alA (pts s)).length = 0 := by have := alA_len (pts s); omega
    rw [if_neg h2, h3]
    rfl
  · rw [if_neg h, ctk_out s T _ (Nat.le_refl _)]
    have h2 : 0 < s.size := by
      rcases Nat.eq_zero_or_pos s.size with e | e
      · exfalso; apply h
        have := pts_le s
        omega
      · exact e
    rw [if_pos h2]
    rfl
/-- What the program asks of a place is what the specification does. -/
theorem aln_prog (L : List Int) (i : Nat) (h : 0 < i) : aln L i = (ctl (nth L (i - 1)) || ((cat (nth L (i - 1)) == 2) || !mbl (nth L i))) := by
  unfold aln blg
  have : (i == 0) = false := by rw [beq_eq_false_iff_ne]; omega
  rw [this]
  cases ctl (nth L (i - 1)) <;> cases (cat (nth L (i - 1)) == 2) <;> cases mbl (nth L i) <;> rfl
end Wrd
end Go.Proofs.YtdgafmhjbgddkaaDoor
/- Cuts of words, by the program: the places that stand alone, the starts, WordCuts. -/
namespace Go.Proofs.YtdgafmhjbgddkaaDoor
namespace Wrd
open Go.RowKit
open Chr (cat ctl mrk stb sts ctk cutsL BoolsAt cutsAhead_any charStarts_any)
set_option linter.unusedVariables false
theorem info3 : (Tryd.prog.info? 3).map (fun i => (i.zero, i.size, i.bytes)) = some (some (.int .i64 0), 1, 8) := by kernel_rfl
theorem makeI (n : Nat) (hn : n ≤ 65536) (W : World) : (Instr.makeSlice 59 (.int .i64 0) (.int .i64 (n : Int))).run Tryd.prog W = .ok (.slice (some ⟨W.heap.size, 0, none⟩) 0 n) (W.alloc (.cells (List.replicate n (Value.int .i64 0)).toArray 3)) := by
  obtain ⟨i0, hi, hz0, hz1, hz2⟩ := info_parts info3
  have := run_makeSlice (P := Tryd.prog) W 59 3 i0 (.int .i64 0) Tryd.underlying59 hi hz0 .i64 .i64 0 (n : Int) (by omega) (by omega) (by rw [hz1]; omega) (by rw [hz2]; omega) (by omega)
  have e : madeCells #[Value.int .i64 0] n = (List.replicate n (Value.int .i64 0)).toArray := by
    apply Array.toList_inj.1
    rw [toList_madeCells_one]
  rw [hz1] at this
  simp only [Int.toNat_natCast, Nat.mul_one, Int.toNat_zero] at this
  rw [← e]
  exact this
theorem own_made (w : World) (n : Nat) (hn : n ≤ 65536) : (w.alloc (.cells (List.replicate n (Value.int .i64 0)).toArray 3)).ownsRow w.heap.size 3 1 (.slice (some ⟨w.heap.size, 0, none⟩) 0 n) 0 [] := by
  refine ⟨rfl, .inr ⟨w.heap.size, n, (List.replicate n (Value.int .i64 0)).toArray, rfl, Nat.le_refl _, heap_alloc_last _ _, Nat.zero_le _, by unfold maxLen; omega, by simp, by simp⟩⟩
theorem owned_atW {w : World} {base : Nat} {e : TypeId} {v : Value} {l : List Int} {n : Nat} (h : w.ownsRow base e 1 v n (l.map (Value.int .i64))) : IntsAt w v l := by
  have hn : l.length = n := by have := h.1; simpa using this
  rcases h.2 with ⟨hv, h0⟩ | ⟨g, cap, cur, hv, hg, hh, r⟩
  · have : l = [] := List.eq_nil_of_length_eq_zero (by omega)
    subst this
    exact ⟨none, 0, by rw [hv]; rfl, .inl rfl⟩
  · subst hv
    refine ⟨some ⟨g, 0, none⟩, cap, by rw [hn], .inr ⟨g, 0, rfl, (Array.getElem?_eq_some_iff.1 hh).1, fun i hi => ?_⟩⟩
    have c := h.cellAt i (by omega)
    rw [Nat.zero_add, c, List.getElem?_map]
    unfold nth
    rw [List.getD_eq_getElem?_getD, List.getElem?_eq_getElem hi]
    rfl
theorem ownW_below {w w' : World} {base : Nat} {v : Value} {n : Nat} {xs : List Value} (h : w.ownsRow base 3 1 v n xs) (hb : Below w.heap.size w w') : w'.ownsRow base 3 1 v n xs := by
  refine ⟨h.1, ?_⟩
  rcases h.2 with h' | ⟨g, cap, cur, hv, hg, hh, r⟩
  · exact .inl h'
  · exact .inr ⟨g, cap, cur, hv, hg, (hb.block g (Array.getElem?_eq_some_iff.1 hh).1).trans hh, r⟩
theorem growW {w w1 w2 : World} {B : Nat} {v : Value} {n : Nat} {xs : List Value} {o : Obj} (h : w1.ownsRow B 3 1 v n xs) (hb : Below B w w1) (hB : B ≤ w1.heap.size) (hg : (w1.alloc o).grownBy w2 v.ownBlock) : Below B w w2 :=
  (hb.alloc hB o).grown hg (by simp; omega) (fun k e => (h.lt k e).1)
/-- The point ahead. -/
def ahd (L : List Int) (k : Nat) : Int := if k = 0 then -1 else nth L (k - 1)
set_option maxRecDepth 100000 in
set_option maxHeartbeats 8000000 in
theorem placesA (v : Value) (L : List Int) (w : World) (hv : IntsAt w v L) (hL : L.length ≤ 65536) (ht : TabAt w) :
    Calls Tryd.prog 38 #[v] w fun e w' => ∃ u, e = .returned u ∧ w'.ownsRow w.heap.size 3 1 u (alA L).length ((alA L).map (Value.int .i64)) ∧ Below w.heap.size w w' := by
  obtain ⟨i0, hi, hz0, hz1, hz2⟩ := info_parts info3
  obtain ⟨a, cap, rfl, hc⟩ := hv
  have HT := hide ht
  have hmk := makeI L.length hL w
  have O0 : Hid ((w.alloc (.cells (List.replicate L.length (Value.int .i64 0)).toArray 3)).ownsRow w.heap.size 3 1 (.slice (some ⟨w.heap.size, 0, none⟩) 0 L.length) (alk L 0).length ((alk L 0).map (Value.int .i64))) := hide (own_made w L.length hL)
  have B0 := hide ((Below.refl w.heap.size w).alloc (Nat.le_refl _) (.cells (List.replicate L.length (Value.int .i64 0)).toArray 3))
  have HC := hide hc
  clear hc ht
  go_enter Tryd.func38, Tryd.ntmps38
  go_wp2
  go_loopw [3, 4, 12] (fun av pv iv wr => ∃ k : Nat, k ≤ L.length ∧ iv = .int .i64 (k : Int) ∧ pv = .int .i64 (ahd L k) ∧ Hid (wr.ownsRow w.heap.size 3 1 av (alk L k).length ((alk L k).map (Value.int .i64))) ∧ Hid (Below w.heap.size w wr)) (fun _ _ iv _ => L.length - (intOf iv).toNat)
  case atStart => exact ⟨0, Nat.zero_le _, rfl, rfl, O0, B0⟩
  case round =>
    obtain ⟨k, hk, rfl, rfl, HO, HB⟩ := hrel
    clear O0 B0 hmk
    by_cases hlt : k < L.length
    · have hlt' : (k : Int) < (L.length : Int) := by omega
      have h0k : (0 : Int) ≤ (k : Int) := by omega
      have hb : ∃ b off, a = some ⟨b, off, none⟩ ∧ b < w.heap.size ∧ ∀ i, i < L.length → w.cell? ⟨b, off + i, none⟩ = some (.int .i64 (nth L i)) := by
        rcases unhide HC with h | h
        · rw [h] at hlt; simp at hlt
        · exact h
      obtain ⟨b, off, rfl, hbw, hcs⟩ := hb
      have c1 := ((unhide HB).cell (p := ⟨b, off + k, none⟩) hbw).trans (hcs k hlt)
      have hsz := (unhide HB).size
      have hlen := alk_len L k
      have T1 := hide ((unhide HT).below (unhide HB))
      clear hcs
      have HN : Hid (ahd L (k + 1) = nth L k) := hide (by unfold ahd; rw [if_neg (by omega)]; rfl)
      have HY := hide (fun h => alk_yes (L := L) (k := k) h)
      have HF := hide (fun h => alk_no (L := L) (k := k) h)
      by_cases hk0 : k = 0
      · subst hk0
        rw [Nat.add_zero] at c1
        have HA := hide ((unhide HY) rfl)
        clear HY HF
        generalize alk L 0 = X at *
        generalize nth L 0 = p at *
        go_wp2_with (at_builtin; refine wpList_append_own _ rfl _ _ 59 rfl w.heap.size 3 i0 (.int .i64 0) 1 8 Tryd.underlying59 hi hz0 hz1 hz2 rfl (by decide) _ _ _ rfl (owned_alloc (unhide HO) _) ⟨wr.heap.size, 0, none⟩ 1 1 [.int .i64 0] rfl rfl (cell_one_new _ _ _) (by intro u hu; simp at hu; subst hu; rfl) (by unfold maxLen; omega) (by omega) (by simp; omega) ?_)
        intro v' w2 hown hgrow _
        have B2 := hide (growW (unhide HO) (unhide HB) hsz hgrow)
        have O2 : Hid (w2.ownsRow w.heap.size 3 1 v' (alk L (0 + 1)).length ((alk L (0 + 1)).map (Value.int .i64))) := hide (by rw [unhide HA, List.length_append, List.map_append]; exact hown)
        clear hown hgrow
        go_wp2
        go_roundw
        case rel => exact ⟨1, by omega, rfl, by rw [unhide HN], O2, B2⟩
        case measure => simp [intOf]; omega
      · have hk0' : ((k : Int) == 0) = false := by rw [beq_eq_false_iff_ne]; omega
        have hah : ahd L k = nth L (k - 1) := if_neg hk0
        have HP := hide (aln_prog L k (by omega))
        rw [hah]
        clear hah
        generalize nth L (k - 1) = q at *
        generalize nth L k = p at *
        have CC := hide (fun W h => ctlB q W h)
        have CS := hide (fun W h => spaceB q W h)
        have CM := hide (fun W h => mblB p W h)
        cases hc : ctl q with
        | true =>
          rw [hc] at CC HP
          rw [Bool.true_or] at HP
          clear hc CS CM
          have HA := hide ((unhide HY) (unhide HP))
          clear HY HF HP
          go_wp2_with (first
            | (go_at_call 66; refine ((unhide CC) _ (unhide T1)).mono ?_; rintro e w1 ⟨rfl, hb1⟩; replace T1 := hide ((unhide T1).below hb1); replace HO := hide (ownW_below (unhide HO) hb1); replace HB := hide ((unhide HB).trans (hb1.mono (unhide HB).size)); clear hb1)
            | (at_builtin; refine wpList_append_own _ rfl _ _ 59 rfl w.heap.size 3 i0 (.int .i64 0) 1 8 Tryd.underlying59 hi hz0 hz1 hz2 rfl (by decide) _ _ _ rfl (owned_alloc (unhide HO) _) _ 1 1 [.int .i64 (k : Int)] rfl rfl (cell_one_new _ _ _) (by intro u hu; simp at hu; subst hu; rfl) (by unfold maxLen; omega) (by omega) (by have := (unhide HB).size; simp; omega) ?_))
          intro v' w2 hown hgrow _
          have B2 := hide (growW (unhide HO) (unhide HB) (unhide HB).size hgrow)
          have O2 : Hid (w2.ownsRow w.heap.size 3 1 v' (alk L (k + 1)).length ((alk L (k + 1)).map (Value.int .i64))) := hide (by rw [unhide HA, List.length_append, List.map_append]; exact hown)
          clear hown hgrow
          go_wp2
          go_roundw
          case rel => exact ⟨k + 1, by omega, by go_num, by rw [unhide HN], O2, B2⟩
          case measure => simp [intOf]; omega
        | false =>
          rw [hc] at CC HP
          rw [Bool.false_or] at HP
          clear hc
          cases hs : (cat q == 2) with
          | true =>
            rw [hs] at CS HP
            rw [Bool.true_or] at HP
            clear hs CM
            have HA := hide ((unhide HY) (unhide HP))
            clear HY HF HP
            go_wp2_with (first
              | (go_at_call 66; refine ((unhide CC) _ (unhide T1)).mono ?_; rintro e w1 ⟨rfl, hb1⟩; replace T1 := hide ((unhide T1).below hb1); replace HO := hide (ownW_below (unhide HO) hb1); replace HB := hide ((unhide HB).trans (hb1.mono (unhide HB).size)); clear hb1)
              | (go_at_call 67; refine ((unhide CS) _ (unhide T1)).mono ?_; rintro e w1 ⟨rfl, hb1⟩; replace T1 := hide ((unhide T1).below hb1); replace HO := hide (ownW_below (unhide HO) hb1); replace HB := hide ((unhide HB).trans (hb1.mono (unhide HB).size)); clear hb1)
              | (at_builtin; refine wpList_append_own _ rfl _ _ 59 rfl w.heap.size 3 i0 (.int .i64 0) 1 8 Tryd.underlying59 hi hz0 hz1 hz2 rfl (by decide) _ _ _ rfl (owned_alloc (unhide HO) _) _ 1 1 [.int .i64 (k : Int)] rfl rfl (cell_one_new _ _ _) (by intro u hu; simp at hu; subst hu; rfl) (by unfold maxLen; omega) (by omega) (by have := (unhide HB).size; simp; omega) ?_))
            intro v' w2 hown hgrow _
            have B2 := hide (growW (unhide HO) (unhide HB) (unhide HB).size hgrow)
            have O2 : Hid (w2.ownsRow w.heap.size 3 1 v' (alk L (k + 1)).length ((alk L (k + 1)).map (Value.int .i64))) := hide (by rw [unhide HA, List.length_append, List.map_append]; exact hown)
            clear hown hgrow
            go_wp2
            go_roundw
            case rel => exact ⟨k + 1, by omega, by go_num, by rw [unhide HN], O2, B2⟩
            case measure => simp [intOf]; omega
          | false =>
            rw [hs] at CS HP
            rw [Bool.false_or] at HP
            clear hs
            cases hm : mbl p with
            | true =>
              rw [hm] at CM HP
              clear hm
              have HA := hide ((unhide HF) (unhide HP))
              rw [← unhide HA] at HO
              clear HY HF HP HA
              go_wp2_with (first
                | (go_at_call 66; refine ((unhide CC) _ (unhide T1)).mono ?_; rintro e w1 ⟨rfl, hb1⟩; replace T1 := hide ((unhide T1).below hb1); replace HO := hide (ownW_below (unhide HO) hb1); replace HB := hide ((unhide HB).trans (hb1.mono (unhide HB).size)); clear hb1)
                | (go_at_call 67; refine ((unhide CS) _ (unhide T1)).mono ?_; rintro e w1 ⟨rfl, hb1⟩; replace T1 := hide ((unhide T1).below hb1); replace HO := hide (ownW_below (unhide HO) hb1); replace HB := hide ((unhide HB).trans (hb1.mono (unhide HB).size)); clear hb1)
                | (go_at_call 68; refine ((unhide CM) _ (unhide T1)).mono ?_; rintro e w1 ⟨rfl, hb1⟩; replace T1 := hide ((unhide T1).below hb1); replace HO := hide (ownW_below (unhide HO) hb1); replace HB := hide ((unhide HB).trans (hb1.mono (unhide HB).size)); clear hb1))
              go_roundw
              case rel => exact ⟨k + 1, by omega, by go_num, by rw [unhide HN], HO, HB⟩
              case measure => simp [intOf]; omega
            | false =>
              rw [hm] at CM HP
              clear hm
              have HA := hide ((unhide HY) (unhide HP))
              clear HY HF HP
              go_wp2_with (first
                | (go_at_call 66; refine ((unhide CC) _ (unhide T1)).mono ?_; rintro e w1 ⟨rfl, hb1⟩; replace T1 := hide ((unhide T1).below hb1); replace HO := hide (ownW_below (unhide HO) hb1); replace HB := hide ((unhide HB).trans (hb1.mono (unhide HB).size)); clear hb1)
                | (go_at_call 67; refine ((unhide CS) _ (unhide T1)).mono ?_; rintro e w1 ⟨rfl, hb1⟩; replace T1 := hide ((unhide T1).below hb1); replace HO := hide (ownW_below (unhide HO) hb1); replace HB := hide ((unhide HB).trans (hb1.mono (unhide HB).size)); clear hb1)
                | (go_at_call 68; refine ((unhide CM) _ (unhide T1)).mono ?_; rintro e w1 ⟨rfl, hb1⟩; replace T1 := hide ((unhide T1).below hb1); replace HO := hide (ownW_below (unhide HO) hb1); replace HB := hide ((unhide HB).trans (hb1.mono (unhide HB).size)); clear hb1)
                | (at_builtin; refine wpList_append_own _ rfl _ _ 59 rfl w.heap.size 3 i0 (.int .i64 0) 1 8 Tryd.underlying59 hi hz0 hz1 hz2 rfl (by decide) _ _ _ rfl (owned_alloc (unhide HO) _) _ 1 1 [.int .i64 (k : Int)] rfl rfl (cell_one_new _ _ _) (by intro u hu; simp at hu; subst hu; rfl) (by unfold maxLen; omega) (by omega) (by have := (unhide HB).size; simp; omega) ?_))
              intro v' w2 hown hgrow _
              have B2 := hide (growW (unhide HO) (unhide HB) (unhide HB).size hgrow)
              have O2 : Hid (w2.ownsRow w.heap.size 3 1 v' (alk L (k + 1)).length ((alk L (k + 1)).map (Value.int .i64))) := hide (by rw [unhide HA, List.length_append, List.map_append]; exact hown)
              clear hown hgrow
              go_wp2
              go_roundw
              case rel => exact ⟨k + 1, by omega, by go_num, by rw [unhide HN], O2, B2⟩
              case measure => simp [intOf]; omega
    · obtain rfl : k = L.length := by omega
      have hlt' : ¬ (L.length : Int) < (L.length : Int) := by omega
      go_wp2
      go_ret
      exact ⟨_, rfl, unhide HO, unhide HB⟩
end Wrd
end Go.Proofs.YtdgafmhjbgddkaaDoor
/- The starts of words, and WordCuts, by the program. -/
namespace Go.Proofs.YtdgafmhjbgddkaaDoor
namespace Wrd
open Go.RowKit
open Chr (cat ctl mrk stb sts ctk cutsL BoolsAt cutsAhead_any charStarts_any makeB)
set_option linter.unusedVariables false
/-- The row of starts in its block; all other blocks are as they were. -/
structure Ws (w3 wr : World) (g : Nat) (B : List Bool) : Prop where
  row : wr.heap[g]? = some (.cells (B.map Value.bool).toArray 4 (0, 0))
  bel : Below g w3 wr
  oth : ∀ k, k ≠ g → k < w3.heap.size → wr.heap[k]? = w3.heap[k]?
theorem Ws.below {w3 wr w' : World} {g : Nat} {B : List Bool} (h : Ws w3 wr g B) (hb : Below wr.heap.size wr w') : Ws w3 w' g B :=
  ⟨(hb.block g (Array.getElem?_eq_some_iff.1 h.row).1).trans h.row, h.bel.trans (hb.mono (Nat.le_of_lt (Array.getElem?_eq_some_iff.1 h.row).1)), fun k h1 h2 => (hb.block k (Nat.lt_of_lt_of_le h2 h.bel.size)).trans (h.oth k h1 h2)⟩
theorem Ws.room {w3 wr : World} {g : Nat} {B : List Bool} (h : Ws w3 wr g B) (k : Nat) (hk : k < B.length) : (∃ x, wr.cell? ⟨g, k, none⟩ = some x) ∧ wr.frozen? ⟨g, k, none⟩ = false := by
  refine ⟨⟨.bool B[k], ?_⟩, ?_⟩
  · simp [World.cell?, h.row, hk]
  · simp [World.frozen?, h.row]
theorem Ws.put {w3 wr : World} {g : Nat} {B : List Bool} (h : Ws w3 wr g B) (k : Nat) (b : Bool) {C : List Bool} (hC : (B.map Value.bool).set k (.bool b) = C.map Value.bool) : Ws w3 (wr.setCell ⟨g, k, none⟩ (.bool b)) g C := by
  refine ⟨?_, h.bel.setCell (p := ⟨g, k, none⟩) (Nat.le_refl _) _, fun j h1 h2 => (heap_setCell_other wr ⟨g, k, none⟩ j _ h1).trans (h.oth j h1 h2)⟩
  have := heap_setCell_same wr g k _ 4 (.bool b) h.row
  rw [← hC]
  simpa using this
theorem ints_oth {w w' : World} {base : Nat} {v : Value} {l : List Int} {g : Nat} (h : w.ownsRow base 3 1 v l.length (l.map (Value.int .i64))) (hg : g < base) (ho : ∀ k, k ≠ g → k < w.heap.size → w'.heap[k]? = w.heap[k]?) : IntsAt w' v l := by
  refine owned_atW (base := base) (e := 3) (n := l.length) ⟨h.1, ?_⟩
  rcases h.2 with h' | ⟨b, cap, cur, hv, hb, hh, r⟩
  · exact .inl h'
  · exact .inr ⟨b, cap, cur, hv, hb, (ho b (by omega) (Array.getElem?_eq_some_iff.1 hh).1).trans hh, r⟩
theorem chars_cell {W : World} {g j : Nat} {L : List Int} (h : W.heap[g]? = some (.cells ((sts L).map Value.bool).toArray 4 (0, 0))) (hj : j < L.length) : W.cell? ⟨g, j, none⟩ = some (.bool (stb L j)) := by
  simp [World.cell?, h, Chr.sts, hj]
set_option maxRecDepth 100000 in
set_option maxHeartbeats 16000000 in
theorem startsW (v : Value) (L : List Int) (vt : Value) (T : List Tl) (w : World) (hv : IntsAt w v L) (hL : L.length ≤ 65536) (ht : TabAt w) (htl : TlAt w vt T) (hT : T.length ≤ 1048576) :
    Calls Tryd.prog 22 #[v, vt] w fun e w' => ∃ g, e = .returned (.slice (some ⟨g, 0, none⟩) L.length L.length) ∧ BoolsAt w' g (wB L T (alA L).length) ∧ Below w.heap.size w w' := by
  have hAl := alA_len L
  have hAi := alA_in L
  have CS := hide (fun W h1 h2 => charStarts_any v L W h1 hL h2)
  have CP := hide (fun W h1 h2 => placesA v L W h1 hL h2)
  have CW := hide (fun va i W h1 h2 h3 => placeB v va L (alA L) i W h1 h2 h3 hAi (by omega))
  have CC := hide (fun x W h1 h2 h3 => cutsB x w.heap.size vt T W h1 h2 h3 hT)
  have hmk := fun W => makeB L.length hL W
  have HV := hide hv
  have HT := hide ht
  have HTL := hide htl
  obtain ⟨a, cap, rfl, _⟩ := hv
  clear ht htl
  have Br := hide ((Below.refl w.heap.size w).alloc (Nat.le_refl _) (.cells ruleC 74))
  have hRu : Hid (RulAt (w.alloc (.cells ruleC 74)) w.heap.size) := hide (rul_new w)
  have hzr : (w.alloc (.cells ruleC 74)).heap.size = w.heap.size + 1 := by simp
  go_enter Tryd.func22, Tryd.ntmps22
  go_wp2_with (go_at_call 36; refine (rules_any _).mono ?_; rintro e w' ⟨rfl, rfl⟩)
  refine ((unhide CS) _ ((unhide HV).below (unhide Br)) ((unhide HT).below (unhide Br))).mono ?_
  generalize (w.alloc (.cells ruleC 74)) = y0 at *
  rintro e w1 ⟨cc, rfl, hch, hb1⟩
  have B1 := hide ((unhide Br).trans (hb1.mono (by omega)))
  have R1 := hide ((unhide hRu).below hb1)
  have hs1 := hb1.size
  have hcl : y0.heap.size + 1 < w1.heap.size := (Array.getElem?_eq_some_iff.1 hch).1
  have HCH := hide hch
  have hm1 := hmk w1
  have hsw := (unhide B1).size
  clear hb1 hch hmk Br hs1 hzr
  generalize y0.heap.size + 1 = gC at *
  have X2 := (Below.refl w1.heap.size w1).alloc (Nat.le_refl _) (.cells (List.replicate L.length (Value.bool false)).toArray 4)
  have hz2 : (w1.alloc (.cells (List.replicate L.length (Value.bool false)).toArray 4)).heap.size = w1.heap.size + 1 := by simp
  have N2 := heap_alloc_last w1 (.cells (List.replicate L.length (Value.bool false)).toArray 4)
  have B2 := hide ((unhide B1).trans (X2.mono (by omega)))
  go_wp2_with fail
  refine ((unhide CP) _ ((unhide HV).below (unhide B2)) ((unhide HT).below (unhide B2))).mono ?_
  generalize (w1.alloc (.cells (List.replicate L.length (Value.bool false)).toArray 4)) = y2 at *
  rintro e w3 ⟨u, rfl, hown, hb3⟩
  have D3 := hide (X2.trans (hb3.mono (by omega)))
  have hs3 := hb3.size
  have W0 : Hid (Ws w3 w3 w1.heap.size (wB L T 0)) := hide ⟨by rw [wB_zero]; exact (hb3.block w1.heap.size (by omega)).trans N2, Below.refl _ _, fun _ _ _ => rfl⟩
  have HOW := hide hown
  obtain ⟨ua, uc, hue⟩ : ∃ a c, u = .slice a (alA L).length c := by
    obtain ⟨a', c', h', _⟩ := owned_atW hown
    exact ⟨a', c', h'⟩
  subst hue
  clear hown hb3 N2 X2 hm1 CP CS
  go_wp2
  go_loopw [22] (fun iv wr => ∃ i : Nat, i ≤ (alA L).length ∧ iv = .int .i64 (i : Int) ∧ Hid (Ws w3 wr w1.heap.size (wB L T i))) (fun iv _ => (alA L).length - (intOf iv).toNat)
  case atStart => exact ⟨0, Nat.zero_le _, rfl, W0⟩
  case round =>
    obtain ⟨i, hil, rfl, HW⟩ := hrel
    clear W0
    by_cases hlt : i < (alA L).length
    · have hlt' : (i : Int) < ((alA L).length : Int) := by omega
      have h0i : (0 : Int) ≤ (i : Int) := by omega
      have Dw := hide ((unhide D3).trans (unhide HW).bel)
      have hdw := (unhide Dw).size
      have Bw := hide ((unhide B1).trans ((unhide Dw).mono (by omega)))
      obtain ⟨j, hj, hja, hjl, hje⟩ := alA_at hlt
      have hj0 : (0 : Int) ≤ (j : Int) := by omega
      have hjL : (j : Int) < (L.length : Int) := by omega
      have IA := ints_oth (unhide HOW) (show w1.heap.size < y2.heap.size by omega) (unhide HW).oth
      obtain ⟨b2, off2, cap2, hu, hb2s, hc2⟩ := ints_at IA (by omega)
      injection hu with hu1 hu2 hu3
      subst hu1 hu3
      have c2 := hc2 i hlt
      rw [hje] at c2
      have C4 := hide ((unhide CW) _ i wr ((unhide HV).below (unhide Bw)) IA hlt)
      have HCS : Hid (chA L i = stb L j) := hide (by unfold chA; rw [hje]; rfl)
      have HST := hide (wB_set L T i hlt)
      rw [hje] at HST
      have HPL := hide (fun h0 => plc_same L i (stb L j) h0 hlt)
      have HC0 : Hid (cst L T 0 = true) := hide rfl
      have HC1 := hide (fun (h0 : 0 < i) => (show cst L T i = cutW T (plc (ownL L) i (chA L i)) by unfold cst; rw [show (i == 0) = false by rw [beq_eq_false_iff_ne]; omega, Bool.false_or]))
      have hchw : wr.heap[gC]? = some (.cells ((sts L).map Value.bool).toArray 4 (0, 0)) := ((unhide Dw).block _ hcl).trans (unhide HCH)
      have HCW := hide hchw
      clear hc2 hu2 IA hchw
      generalize wplA L (alA L) i = x at *
      unfold wpV at C4
      go_wp2_with fail
      refine (unhide C4).mono ?_
      rintro e w4 ⟨rfl, hb4⟩
      have hs4 := hb4.size
      have HW4 := hide ((unhide HW).below hb4)
      have D4 := hide ((unhide Dw).trans (hb4.mono (by omega)))
      clear hb4 C4 c2 HW
      have H4 := (unhide D4).block _ hcl
      have hgl : w1.heap.size < w4.heap.size := (Array.getElem?_eq_some_iff.1 (unhide HW4).row).1
      have chc := chars_cell (W := w4.alloc (.cells #[.int .i64 x.b, .int .i64 x.l, .int .i64 x.r, .int .i64 x.h, .bool x.n] 62)) (g := gC) (j := j) (L := L) ((Below.heap_alloc _ _ _ (by omega)).trans (H4.trans (unhide HCH))) hj
      have W5 := hide ((unhide HW4).below ((Below.refl _ _).alloc (Nat.le_refl _) (.cells #[.int .i64 x.b, .int .i64 x.l, .int .i64 x.r, .int .i64 x.h, .bool (!stb L j)] 62)))
      have D5 := hide ((unhide D4).trans (((Below.refl w4.heap.size w4).alloc (Nat.le_refl _) (.cells #[.int .i64 x.b, .int .i64 x.l, .int .i64 x.r, .int .i64 x.h, .bool (!stb L j)] 62)).mono (by omega)))
      obtain ⟨⟨ox, rm⟩, rf⟩ := (unhide W5).room j (by rw [wB_len]; exact hj)
      clear H4
      have htn : ((j : Int)).toNat = j := by omega
      rw [htn] at HST
      by_cases hi0 : i = 0
      · subst hi0
        rw [unhide HC0] at HST
        have W6 := hide (((unhide HW4).put j true (unhide HST)).below ((Below.refl _ _).alloc (Nat.le_refl _) (.cells #[.int .i64 x.b, .int .i64 x.l, .int .i64 x.r, .int .i64 x.h, .bool (!stb L j)] 62)))
        clear HST HCS HC1 HPL HW4 W5
        go_wp2
        go_roundw
        case rel => exact ⟨1, by omega, rfl, W6⟩
        case measure => simp [intOf]; omega
      · have hi0' : ((i : Int) == 0) = false := by rw [beq_eq_false_iff_ne]; omega
        have Bq := (unhide B1).trans ((unhide D5).mono hsw)
        have C6 := hide ((unhide CC) { x with n := !stb L j } _ ((unhide HT).below Bq) ((unhide R1).below (unhide D5)) ((unhide HTL).below Bq))
        have HCE : Hid (cutW T { x with n := !stb L j } = cst L T i) := hide (by rw [(unhide HPL) (by omega), (unhide HC1) (by omega), unhide HCS])
        unfold wpV at C6
        rw [unhide HCE] at C6
        simp only at C6
        clear HCE HCS HC1 HPL HW4 rm rf Bq HC0
        generalize cst L T i = z at *
        go_wp2_with fail
        refine (unhide C6).mono ?_
        rintro e w6 ⟨rfl, hb6⟩
        have W6 := hide ((unhide W5).below hb6)
        obtain ⟨⟨oy, rm⟩, rf⟩ := (unhide W6).room j (by rw [wB_len]; exact hj)
        have W7 := hide ((unhide W6).put j z (unhide HST))
        clear hb6 C6 HST W5 W6 D5
        go_wp2
        go_roundw
        case rel => exact ⟨i + 1, by omega, by go_num, W7⟩
        case measure => simp [intOf]; omega
    · obtain rfl : i = (alA L).length := by omega
      have hlt' : ¬ ((alA L).length : Int) < ((alA L).length : Int) := by omega
      have Bz := hide ((unhide B1).trans (((unhide D3).trans (unhide HW).bel).mono hsw))
      have HR := hide (Chr.bools_of (unhide HW).row)
      go_wp2
      go_ret
      exact ⟨_, rfl, unhide HR, unhide Bz⟩
end Wrd
end Go.Proofs.YtdgafmhjbgddkaaDoor
