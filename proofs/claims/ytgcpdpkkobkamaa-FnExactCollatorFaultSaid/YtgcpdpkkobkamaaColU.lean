/- A copy of a row of entries. -/
import Derived.Test.YtgcpdpkkobkamaaColT
namespace Go.Proofs.Ytgcpdpkkobkamaa.Col
open Go.RowKit
set_option linter.unusedVariables false
abbrev Pr := ByteArray × Value
def zp : Pr := (⟨#[]⟩, .slice none 0 0)
def cellsE (P : List Pr) : List Value := P.flatMap fun r => [.string r.1, r.2]
theorem cellsE_len (P : List Pr) : (cellsE P).length = P.length * 2 := by
  induction P with
  | nil => rfl
  | cons a t ih => unfold cellsE at ih ⊢; rw [List.flatMap_cons, List.length_append, ih]; simp; omega
theorem cellsE_app (P Q : List Pr) : cellsE (P ++ Q) = cellsE P ++ cellsE Q := by unfold cellsE; rw [List.flatMap_append]
theorem cellsE_at (P : List Pr) (i : Nat) (hi : i < P.length) : (cellsE P)[i * 2]? = some (.string (P.getD i zp).1) ∧ (cellsE P)[i * 2 + 1]? = some (P.getD i zp).2 := by
  induction P generalizing i with
  | nil => simp at hi
  | cons a t ih =>
    have e : cellsE (a :: t) = .string a.1 :: a.2 :: cellsE t := rfl
    cases i with
    | zero => rw [e]; simp
    | succ i =>
      have := ih i (by simpa using hi)
      rw [e, show (i + 1) * 2 = i * 2 + 1 + 1 by omega]
      simpa using this
theorem rep_cellsE (n : Nat) : cellsE (List.replicate n zp) = (madeCells #[Value.string ⟨#[]⟩, .slice none 0 0] (n * 2)).toList := by
  apply List.ext_getElem?
  intro i
  unfold madeCells
  rw [Array.toList_map, List.getElem?_map, Array.toList_range]
  by_cases h : i < n * 2
  · rw [List.getElem?_range h]
    obtain ⟨h1, h2⟩ := cellsE_at (List.replicate n zp) (i / 2) (by simp; omega)
    have e : (List.replicate n zp).getD (i / 2) zp = zp := by
      rw [List.getD_eq_getElem?_getD, List.getElem?_replicate, if_pos (by omega)]; rfl
    rw [e] at h1 h2
    have hm : i % 2 = 0 ∨ i % 2 = 1 := by omega
    rcases hm with hm | hm
    · rw [show i / 2 * 2 = i by omega] at h1
      rw [h1]; simp [hm, zp]
    · rw [show i / 2 * 2 + 1 = i by omega] at h2
      rw [h2]; simp [hm, zp]
  · rw [List.getElem?_eq_none (by rw [cellsE_len]; simp; omega), List.getElem?_eq_none (by simp; omega)]
    rfl
theorem cellsE_set (A C : List Pr) (r s : Pr) : ((cellsE (A ++ r :: C)).set (A.length * 2) (.string s.1)).set (A.length * 2 + 1) s.2 = cellsE (A ++ s :: C) := by
  rw [cellsE_app, cellsE_app]
  have hl := cellsE_len A
  rw [List.set_append_right _ _ (by omega), List.set_append_right _ _ (by omega)]
  congr 1
  rw [hl, Nat.sub_self, show A.length * 2 + 1 - A.length * 2 = 1 by omega]
  rfl
theorem row_kept {w : World} {g i j : Nat} {v x y : Value} {L : List Sp} (h : SpRow w (g + 1) v L) : SpRow ((w.setCell ⟨g, i, none⟩ x).setCell ⟨g, j, none⟩ y) (g + 1) v L := by
  refine ownsRow_at h fun k hk => ?_
  have hkg : k ≠ g := by
    rcases h.2 with ⟨rfl, _⟩ | ⟨g', cap, cur, rfl, hg, _⟩
    · cases hk
    · cases hk
      show g' ≠ g
      omega
  rw [heap_setCell_other _ ⟨g, j, none⟩ k y (by simpa using hkg), heap_setCell_other _ ⟨g, i, none⟩ k x (by simpa using hkg)]
theorem row2_stored {w : World} {B g n c : Nat} {xs : List Value} (h : w.ownsRow B 36 2 (.slice (some ⟨g, 0, none⟩) n c) n xs) (k : Nat) (x y : Value) :
    ((w.setCell ⟨g, k * 2, none⟩ x).setCell ⟨g, k * 2 + 1, none⟩ y).ownsRow B 36 2 (.slice (some ⟨g, 0, none⟩) n c) n ((xs.set (k * 2) x).set (k * 2 + 1) y) :=
  ((h.stored (k * 2) x).1.stored (k * 2 + 1) y).1
theorem row2_at {w : World} {B g n c : Nat} {xs : List Value} (h : w.ownsRow B 36 2 (.slice (some ⟨g, 0, none⟩) n c) n xs) (j : Nat) (hj : j < n * 2) : ∃ x, w.cell? ⟨g, j, none⟩ = some x ∧ w.frozen? ⟨g, j, none⟩ = false := by
  have hn : xs.length = n * 2 := h.1
  have := h.cellAt j hj
  rw [List.getElem?_eq_getElem (by omega)] at this
  exact ⟨_, this, h.frozenAt j⟩
/-- The row when k entries are copied. -/
def ESt (w0 w : World) (g n : Nat) (E : List En) (k : Nat) : Prop :=
  ∃ P : List Pr, P.length = k ∧ (∀ i, i < k → (P.getD i zp).1 = (ge E i).1 ∧ SpRow w (g + 1) (P.getD i zp).2 (ge E i).2) ∧ w.ownsRow g 36 2 (.slice (some ⟨g, 0, none⟩) n n) n (cellsE (P ++ List.replicate (n - k) zp)) ∧ Below w0.heap.size w0 w
theorem ESt.below {w0 w w' : World} {g n : Nat} {E : List En} {k : Nat} (h : ESt w0 w g n E k) (h0 : w0.heap.size ≤ w.heap.size) (hb : Below w.heap.size w w') : ESt w0 w' g n E k := by
  obtain ⟨P, h1, h2, h3, h4⟩ := h
  exact ⟨P, h1, fun i hi => ⟨(h2 i hi).1, (h2 i hi).2.below hb⟩, ownsRow_below h3 hb, h4.trans (hb.mono h0)⟩
theorem ESt.put {w0 w : World} {n : Nat} {E : List En} {k : Nat} {u : Value} (h : ESt w0 w w0.heap.size n E k) (hk : k < n) (hu : SpRow w (w0.heap.size + 1) u (ge E k).2) :
    ESt w0 ((w.setCell ⟨w0.heap.size, k * 2, none⟩ (.string (ge E k).1)).setCell ⟨w0.heap.size, k * 2 + 1, none⟩ u) w0.heap.size n E (k + 1) := by
  obtain ⟨P, h1, h2, h3, h4⟩ := h
  refine ⟨P ++ [((ge E k).1, u)], by simp [h1], fun i hi => ?_, ?_, ?_⟩
  · by_cases e : i < k
    · have hg : (P ++ [((ge E k).1, u)]).getD i zp = P.getD i zp := by
        rw [List.getD_eq_getElem?_getD, List.getD_eq_getElem?_getD, List.getElem?_append_left (by omega)]
      rw [hg]
      exact ⟨(h2 i e).1, row_kept (h2 i e).2⟩
    · obtain rfl : i = k := by omega
      have hg : (P ++ [((ge E i).1, u)]).getD i zp = ((ge E i).1, u) := by
        rw [List.getD_eq_getElem?_getD, List.getElem?_append_right (by omega), h1, Nat.sub_self]; rfl
      rw [hg]
      exact ⟨rfl, row_kept hu⟩
  · have := row2_stored h3 k (.string (ge E k).1) u
    rw [show n - k = (n - (k + 1)) + 1 by omega, List.replicate_succ] at this
    have e := cellsE_set P (List.replicate (n - (k + 1)) zp) zp ((ge E k).1, u)
    rw [h1] at e
    simp only at e
    rw [e] at this
    rw [List.append_assoc]
    exact this
  · exact (h4.setCell (p := ⟨w0.heap.size, k * 2, none⟩) (Nat.le_refl _) _).setCell (p := ⟨w0.heap.size, k * 2 + 1, none⟩) (Nat.le_refl _) _
theorem ESt.all {w0 w : World} {n : Nat} {E : List En} (h : ESt w0 w w0.heap.size n E n) (hn : n = E.length) : EnAt (Rr w0.heap.size) w (.slice (some ⟨w0.heap.size, 0, none⟩) n n) E := by
  subst hn
  obtain ⟨P, h1, h2, h3, h4⟩ := h
  refine ⟨_, _, rfl, ?_⟩
  by_cases e : E = []
  · exact .inl e
  · have hpos : 0 < E.length := List.length_pos_iff.2 e
    have hlt : w0.heap.size < w.heap.size := (h3.lt w0.heap.size rfl).2
    refine .inr ⟨w0.heap.size, 0, rfl, hlt, fun i hi => ?_⟩
    rw [Nat.sub_self, List.replicate_zero, List.append_nil] at h3
    obtain ⟨c1, c2⟩ := cellsE_at P i (by omega)
    have d1 := h3.cellAt (i * 2) (by omega)
    have d2 := h3.cellAt (i * 2 + 1) (by omega)
    rw [c1] at d1
    rw [c2] at d2
    obtain ⟨q1, q2⟩ := h2 i hi
    rw [q1] at d1
    rw [Nat.zero_add]
    exact ⟨d1, _, d2, down q2 (by omega)⟩
set_option maxRecDepth 100000 in
set_option maxHeartbeats 4000000 in
theorem toEntries_any (v : Value) (E : List En) (w : World) (hv : EnAt SpsAt w v E) (hl : E.length ≤ 1048576) (hs : ∀ i, i < E.length → (ge E i).2.length ≤ 1048576) :
    Calls Try.prog 13 #[v] w fun e w' => e = .returned (.slice (some ⟨w.heap.size, 0, none⟩) E.length E.length) ∧ EnAt (Rr w.heap.size) w' (.slice (some ⟨w.heap.size, 0, none⟩) E.length E.length) E ∧ Below w.heap.size w w' := by
  obtain ⟨i0, hi, hz0, hz1, hz2⟩ := info_parts infoEn
  obtain ⟨a, cap, rfl, hv⟩ := hv
  have HV := hide hv
  have HS := hide hs
  clear hv hs
  go_enter Try.func13, Try.ntmps13
  go_wp2_with (at_make; refine wpList_make_full _ rfl _ _ 27 rfl w.heap.size 36 i0 (.agg #[.string ⟨#[]⟩, .slice none 0 0]) 2 Try.underlying27 hi hz0 hz1 .i64 .i64 _ _ E.length rfl rfl rfl rfl ?b2 ?b3 ?b4 ?_)
  case b2 => rw [hz2]; omega
  case b3 => unfold maxLen; omega
  case b4 => omega
  intro w1 hown hgrow
  rw [← rep_cellsE] at hown
  have H1 : Hid (ESt w w1 w.heap.size E.length E 0) := hide ⟨[], rfl, fun i hi => by omega, by simpa using hown, made_below hgrow⟩
  clear hown hgrow
  go_wp2
  go_loopw [4] (fun i wr => ∃ k : Nat, k ≤ E.length ∧ i = .int .i64 k ∧ Hid (ESt w wr w.heap.size E.length E k)) (fun i _ => E.length - (intOf i).toNat)
  case atStart => exact ⟨0, Nat.zero_le _, rfl, H1⟩
  case round =>
    obtain ⟨k, hk, rfl, HO⟩ := hrel
    clear H1
    obtain ⟨_, _, _, hr3, hr4⟩ := unhide HO
    have hBs := hr4.size
    have hwl : w.heap.size < wr.heap.size := (hr3.lt w.heap.size rfl).2
    by_cases hlt : k < E.length
    · have hlt' : (k : Int) < (E.length : Int) := by omega
      rcases unhide HV with h' | ⟨b, off, rfl, hbs, hc⟩
      · rw [h'] at hlt; simp at hlt
      obtain ⟨c1, u, c2, hu⟩ := hc k hlt
      have d1 := (hr4.cell (p := ⟨b, off + k * 2, none⟩) hbs).trans c1
      have d2 := (hr4.cell (p := ⟨b, off + k * 2 + 1, none⟩) hbs).trans c2
      have CT := hide (fun W h => toEntry_any (ge E k).1 u (ge E k).2 W h ((unhide HS) k hlt))
      have I := hide (hu.below hr4)
      clear c1 c2 hu hc hr3
      have HP := hide (fun W x (h : ESt w W w.heap.size E.length E k) hx => h.put (u := x) hlt hx)
      generalize (ge E k).1 = t at *
      generalize (ge E k).2 = L at *
      go_wp2_with fail
      refine ((unhide CT) _ (unhide I)).mono ?_
      rintro e w2 ⟨x, rfl, ho2, hb2⟩
      have S2 := (unhide HO).below hBs hb2
      obtain ⟨_, _, _, hr5, hr6⟩ := S2
      obtain ⟨x0, p0, q0⟩ := row2_at hr5 (k * 2) (by omega)
      obtain ⟨x1, p1, q1⟩ := row2_at hr5 (k * 2 + 1) (by omega)
      have S3 := hide ((unhide HP) w2 x ((unhide HO).below hBs hb2) (down ho2 (by omega)))
      obtain ⟨y, p2, q2⟩ := row2_at (hr5.stored (k * 2) (.string t)).1 (k * 2 + 1) (by omega)
      obtain ⟨ua, uc, rfl, _⟩ := ho2.form
      clear HO HP CT I hb2 ho2 hr5 hr6 d1 d2
      go_wp2
      go_roundw
      case rel => exact ⟨k + 1, by omega, by go_num, S3⟩
      case measure => simp [intOf]; omega
    · obtain rfl : k = E.length := by omega
      have R := hide ((unhide HO).all rfl)
      have B := hide hr4
      clear hr3 hr4
      go_wp2
      go_ret
      exact ⟨rfl, unhide R, unhide B⟩
end Go.Proofs.Ytgcpdpkkobkamaa.Col
