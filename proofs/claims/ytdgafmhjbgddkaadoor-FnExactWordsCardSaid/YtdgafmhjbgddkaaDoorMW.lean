/- Several texts in one. -/
import Derived.Test.YtdgafmhjbgddkaaDoorChrL
import Derived.Test.YtdgafmhjbgddkaaDoorChsI
import Derived.Test.YtdgafmhjbgddkaaDoorStrB
import Derived.Test.YtdgafmhjbgddkaaDoorMS
import Derived.Deep.Cut
import Derived.Deep.CutRange
import Derived.Test.YtdgafmhjbgddkaaDoorMM
/- The characters of a text: the program and the specification tell the same pieces. The law of Chars. -/
namespace Go.Proofs.YtdgafmhjbgddkaaDoor
namespace Chr
open Go.RowKit
theorem steps_up (s : ByteArray) (n j : Nat) : (steps s n).2 ≤ (steps s (n + j)).2 := by
  induction j with
  | zero => exact Nat.le_refl _
  | succ j ih =>
    refine Nat.le_trans ih ?_
    show _ ≤ (if (steps s (n + j)).2 < s.size then _ else steps s (n + j)).2
    split
    · simp
    · exact Nat.le_refl _
theorem ctk_mem (s : ByteArray) (B : List Bool) (k : Nat) : ∀ x ∈ ctk s B k, ∃ m, m < k ∧ x = ((steps s m).2 : Int) := by
  induction k with
  | zero => intro x hx; cases hx
  | succ k ih =>
    intro x hx
    unfold ctk at hx
    rw [List.mem_append] at hx
    rcases hx with hx | hx
    · obtain ⟨m, hm, e⟩ := ih x hx
      exact ⟨m, by omega, e⟩
    · split at hx
      · exact ⟨k, by omega, by simpa using hx⟩
      · cases hx
theorem ctk_up (s : ByteArray) (B : List Bool) (k : Nat) : (ctk s B k).Pairwise (· ≤ ·) := by
  induction k with
  | zero => exact List.Pairwise.nil
  | succ k ih =>
    unfold ctk
    rw [List.pairwise_append]
    refine ⟨ih, ?_, fun a ha b hb => ?_⟩
    · split
      · simp
      · exact List.Pairwise.nil
    · split at hb
      · obtain ⟨m, hm, rfl⟩ := ctk_mem s B k a ha
        obtain rfl : b = ((steps s k).2 : Int) := by simpa using hb
        have := steps_up s m (k - m)
        rw [show m + (k - m) = k by omega] at this
        omega
      · cases hb
theorem cutsL_mem (s : ByteArray) (B : List Bool) : ∀ x ∈ cutsL s B, ∃ a : Nat, x = (a : Int) ∧ a ≤ s.size := by
  intro x hx
  unfold cutsL at hx
  split at hx
  · cases hx
  · rw [List.mem_append] at hx
    rcases hx with hx | hx
    · obtain ⟨m, _, rfl⟩ := ctk_mem s B _ x hx
      exact ⟨_, rfl, (steps_le s m).1⟩
    · exact ⟨s.size, by simpa using hx, Nat.le_refl _⟩
theorem cutsL_up (s : ByteArray) (B : List Bool) : (cutsL s B).Pairwise (· ≤ ·) := by
  unfold cutsL
  split
  · exact List.Pairwise.nil
  · rw [List.pairwise_append]
    refine ⟨ctk_up s B _, by simp, fun a ha b hb => ?_⟩
    obtain ⟨m, _, rfl⟩ := ctk_mem s B _ a ha
    obtain rfl : b = (s.size : Int) := by simpa using hb
    have := (steps_le s m).1
    omega
theorem cuts_of {s : ByteArray} {C : List Int} (h1 : ∀ x ∈ C, ∃ a : Nat, x = (a : Int) ∧ a ≤ s.size) (h2 : C.Pairwise (· ≤ ·)) : Cuts s C := by
  intro i hi
  have e1 : nth C i = C[i]'(by omega) := by simp [nth, List.getD, show i < C.length by omega]
  have e2 : nth C (i + 1) = C[i + 1] := by simp [nth, List.getD, hi]
  obtain ⟨a, ha, _⟩ := h1 _ (List.getElem_mem (show i < C.length by omega))
  obtain ⟨b, hb, hbs⟩ := h1 _ (List.getElem_mem hi)
  have := List.pairwise_iff_getElem.1 h2 i (i + 1) (by omega) hi (by omega)
  exact ⟨a, b, by rw [e1, ha], by rw [e2, hb], by rw [ha, hb] at this; omega, hbs⟩
theorem cutsOut_ok (s : ByteArray) : Cuts s (cutsOut s) := by
  unfold cutsOut
  split
  · intro i hi; simp at hi
  · exact cuts_of (cutsL_mem s _) (cutsL_up s _)
/-- The characters. -/
def charsOut (s : ByteArray) : List ByteArray := pieces s (cutsOut s)
theorem charsOut_le (s : ByteArray) : (charsOut s).length ≤ 65536 := by
  unfold charsOut
  rw [pieces_len]
  have := cutsOut_le s
  omega
theorem owns_lower {w : World} {B B2 n : Nat} {e : TypeId} {v : Value} {xs : List Value} (h : w.ownsRow B2 e 1 v n xs) (hb : B ≤ B2) : w.ownsRow B e 1 v n xs := by
  refine ⟨h.1, ?_⟩
  rcases h.2 with h' | ⟨g, cap, cur, hv, hg, r⟩
  · exact .inl h'
  · exact .inr ⟨g, cap, cur, hv, Nat.le_trans hb hg, r⟩
theorem nil_pieces (s : ByteArray) (C : List Int) (v : Value) (w : World) (hv : IntsAt w v C) (h : C = []) (k : FuncId) (hk : k = 29) : Calls Tryd.prog k #[.string s, v] w fun e w' => ∃ v', e = .returned v' ∧ w'.ownsRow w.heap.size 9 1 v' (pieces s C).length ((pieces s C).map Value.string) ∧ Below w.heap.size w w' := by
  subst h hk
  obtain ⟨a, cap, rfl, _⟩ := hv
  go_enter Tryd.func29, Tryd.ntmps29
  go_wp2
  refine wp_loop_rounds 1 ?_
  rw [rounds_succ]
  go_wp2
  go_ret
  exact ⟨_, rfl, World.ownsRow_nil _ _ _ _, Below.refl _ _⟩
theorem nil_piecesS (s : ByteArray) (C : List Int) (v : Value) (w : World) (hv : IntsAt w v C) (h : C = []) (k : FuncId) (hk : k = 25) : Calls Tryd.prog k #[.string s, v] w fun e w' => ∃ v', e = .returned v' ∧ StrsAt w' v' (pieces s C) ∧ Below w.heap.size w w' := by
  subst h hk
  obtain ⟨a, cap, rfl, _⟩ := hv
  go_enter Tryd.func25, Tryd.ntmps25
  go_wp2
  refine wp_loop_rounds 1 ?_
  rw [rounds_succ]
  go_wp2
  go_ret
  exact ⟨_, rfl, ⟨_, _, rfl, .inl rfl⟩, al1 _ _⟩
theorem pieces_i (s : ByteArray) (v : Value) (w : World) (hv : IntsAt w v (cutsOut s)) : Calls Tryd.prog 29 #[.string s, v] w fun e w' => ∃ v', e = .returned v' ∧ w'.ownsRow w.heap.size 9 1 v' (charsOut s).length ((charsOut s).map Value.string) ∧ Below w.heap.size w w' := by
  by_cases hb : 65536 < s.size
  · exact nil_pieces s _ v w hv (by unfold cutsOut; rw [if_pos hb]) _ rfl
  · exact piecesI s _ v w hv (cutsOut_le s) (by omega) (cutsOut_ok s)
theorem pieces_s (s : ByteArray) (v : Value) (w : World) (hv : IntsAt w v (cutsOut s)) : Calls Tryd.prog 25 #[.string s, v] w fun e w' => ∃ v', e = .returned v' ∧ StrsAt w' v' (charsOut s) ∧ Below w.heap.size w w' := by
  by_cases hb : 65536 < s.size
  · exact nil_piecesS s _ v w hv (by unfold cutsOut; rw [if_pos hb]) _ rfl
  · exact piecesS s _ v w hv (cutsOut_le s) (cutsOut_ok s)
end Chr
end Go.Proofs.YtdgafmhjbgddkaaDoor
/- Rows of texts that came in: their size, and a copy of them. -/
namespace Go.Proofs.YtdgafmhjbgddkaaDoor
open Go.RowKit
theorem strs_rd {w : World} {v : Value} {L : List ByteArray} (h : StrsAt w v L) (hl : 0 < L.length) : ∃ b off cap, v = .slice (some ⟨b, off, none⟩) L.length cap ∧ b < w.heap.size ∧ ∀ i, i < L.length → w.cell? ⟨b, off + i, none⟩ = some (.string (nthS L i)) := by
  obtain ⟨a, cap, rfl, h⟩ := h
  rcases h with h | ⟨b, off, rfl, hbs, hc⟩
  · rw [h] at hl; simp at hl
  · exact ⟨b, off, cap, rfl, hbs, hc⟩
theorem mem_of_nthS {L : List ByteArray} {x : ByteArray} (h : x ∈ L) : ∃ k, k < L.length ∧ nthS L k = x := by
  obtain ⟨k, hk, e⟩ := List.getElem_of_mem h
  exact ⟨k, hk, by simp [nthS, List.getD, hk, e]⟩
def fillS (l : List ByteArray) (k : Nat) : List ByteArray := l.take k ++ List.replicate (l.length - k) ⟨#[]⟩
theorem fillS_zero (l : List ByteArray) : fillS l 0 = List.replicate l.length ⟨#[]⟩ := by simp [fillS]
theorem fillS_all (l : List ByteArray) : fillS l l.length = l := by simp [fillS]
theorem fillS_set (l : List ByteArray) (k : Nat) (h : k < l.length) (f : ByteArray → Value) : ((fillS l k).map f).set k (f (nthS l k)) = (fillS l (k + 1)).map f := by
  rw [← List.map_set]
  congr 1
  unfold fillS
  have hk : (l.take k).length = k := by simp; omega
  have e1 : l.length - k = (l.length - (k + 1)) + 1 := by omega
  rw [e1, List.replicate_succ, List.set_append_right _ _ (by omega), hk, Nat.sub_self, List.set_cons_zero, List.take_succ_eq_append_getElem h]
  have e2 : nthS l k = l[k] := by simp [nthS, List.getD, h]
  rw [e2, List.append_assoc]
  rfl
theorem fillS_length (l : List ByteArray) (k : Nat) (h : k ≤ l.length) : (fillS l k).length = l.length := by simp [fillS]; omega
theorem madeS {w1 : World} {B : Nat} {v : Value} {l : List ByteArray} (h : w1.ownsRow B 9 1 v l.length (madeCells #[Value.string ⟨#[]⟩] l.length).toList) : w1.ownsRow B 9 1 v l.length ((fillS l 0).map Value.string) := by
  have e : (madeCells #[Value.string ⟨#[]⟩] l.length).toList = (fillS l 0).map Value.string := by
    rw [fillS_zero, List.map_replicate]
    exact toList_madeCells_one _ _
  rw [← e]; exact h
end Go.Proofs.YtdgafmhjbgddkaaDoor
/- Which pieces between cuts of words are words: both sides in plain numbers. -/
namespace Go.Proofs.YtdgafmhjbgddkaaDoor
namespace Wrd
open Go.RowKit
open Chr (cutsL cutsL_mem cutsL_up cuts_of)
set_option linter.unusedVariables false
/-- A point of which a word has one. -/
def wpt (p : Int) : Bool := lod p || (scr p == 8) || (scr p == 9)
theorem wpt_s (p : Int) : ((wcl p == 1) || (wcl p == 2) || (wcl p == 5) || (scr p == 9)) = wpt p := by
  rw [wcl_ltr, wcl_dgt, wcl_run]
  rfl
/-- A text that has such a point. -/
def hasW (x : ByteArray) : Bool := (pts x).any wpt
theorem sub_at (s : ByteArray) (k j : Nat) : ∀ x ∈ (steps s k).1, x ∈ (steps s (k + j)).1 := by
  intro x hx
  induction j with
  | zero => exact hx
  | succ j ih =>
    show x ∈ (if (steps s (k + j)).2 < s.size then _ else steps s (k + j)).1
    split
    · simp [ih]
    · exact ih
theorem in_at (s : ByteArray) (k : Nat) (h : (steps s k).2 < s.size) : (dP s (steps s k).2 : Int) ∈ pts s := by
  have h1 : (dP s (steps s k).2 : Int) ∈ (steps s (k + 1)).1 := by
    rw [steps_next s k h]
    simp
  have h1 := sub_at s (k + 1) s.size _ h1
  have h2 : s.size ≤ (steps s (k + 1 + s.size)).2 := by rcases steps_go s (k + 1 + s.size) with h | h <;> omega
  rwa [steps_pts s _ h2] at h1
theorem has_yes {L : List Int} {p : Int} (hp : p ∈ L) (h : wpt p = true) : L.any wpt = true := List.any_eq_true.2 ⟨p, hp, h⟩
theorem has_no {L : List Int} (h : ∀ p ∈ L, wpt p = false) : L.any wpt = false := by
  cases e : L.any wpt with
  | false => rfl
  | true => obtain ⟨p, hp, hq⟩ := List.any_eq_true.1 e; rw [h p hp] at hq; cases hq
theorem has_take {L : List Int} {k : Nat} (h : k < L.length) : (L.take (k + 1)).any wpt = ((L.take k).any wpt || wpt (nth L k)) := by
  rw [List.take_add_one, List.getElem?_eq_getElem h, List.any_append]
  have : nth L k = L[k] := by unfold nth; rw [List.getD_eq_getElem?_getD, List.getElem?_eq_getElem h]; rfl
  rw [this]
  simp
theorem wcO_cuts (s : ByteArray) (T : List Tl) : Cuts s (wcO s T) := by
  unfold wcO
  split
  · intro i hi; simp at hi
  · rw [← cuts_wcA]
    exact cuts_of (cutsL_mem s _) (cutsL_up s _)
theorem wcO_big {s : ByteArray} {T : List Tl} (h : 65536 < s.size) : wcO s T = [] := if_pos (.inl h)
/-- The words among the first k pieces. -/
def wdk (P : List ByteArray) : Nat → List ByteArray
  | 0 => []
  | k + 1 => wdk P k ++ (if hasW (nthS P k) = true then [nthS P k] else [])
theorem wdk_len (P : List ByteArray) (k : Nat) : (wdk P k).length ≤ k := by
  induction k with
  | zero => simp [wdk]
  | succ k ih =>
    unfold wdk
    rw [List.length_append]
    split <;> simp <;> omega
theorem wdk_yes {P : List ByteArray} {k : Nat} (h : hasW (nthS P k) = true) : wdk P (k + 1) = wdk P k ++ [nthS P k] := by
  show wdk P k ++ _ = _
  rw [if_pos h]
theorem wdk_no {P : List ByteArray} {k : Nat} (h : hasW (nthS P k) = false) : wdk P (k + 1) = wdk P k := by
  show wdk P k ++ _ = _
  rw [if_neg (by rw [h]; simp), List.append_nil]
/-- What Words answers. -/
def wdO (s : ByteArray) (T : List Tl) : List ByteArray := wdk (pieces s (wcO s T)) (pieces s (wcO s T)).length
theorem wpc_len (s : ByteArray) (T : List Tl) : (pieces s (wcO s T)).length ≤ 65536 := by
  rw [pieces_len]
  have := wcO_le s T
  omega
theorem wdO_le (s : ByteArray) (T : List Tl) : (wdO s T).length ≤ 65536 := Nat.le_trans (wdk_len _ _) (wpc_len s T)
theorem wpc_size (s : ByteArray) (T : List Tl) (k : Nat) (hk : k < (pieces s (wcO s T)).length) : (nthS (pieces s (wcO s T)) k).size ≤ 65536 := by
  by_cases h : 65536 < s.size
  · rw [wcO_big h] at hk
    simp [pieces_len] at hk
  · have hk2 := hk
    rw [pieces_len] at hk2
    have e : nthS (pieces s (wcO s T)) k = s.extract (nth (wcO s T) k).toNat (nth (wcO s T) (k + 1)).toNat := by
      unfold nthS
      rw [List.getD_eq_getElem?_getD, List.getElem?_eq_getElem hk]
      simp [pieces, pcs]
    rw [e, ByteArray.size_extract]
    omega
theorem wpieces_i (s : ByteArray) (T : List Tl) (v : Value) (w : World) (hv : IntsAt w v (wcO s T)) : Calls Tryd.prog 29 #[.string s, v] w fun e w' => ∃ v', e = .returned v' ∧ w'.ownsRow w.heap.size 9 1 v' (pieces s (wcO s T)).length ((pieces s (wcO s T)).map Value.string) ∧ Below w.heap.size w w' := by
  by_cases hb : 65536 < s.size
  · exact Chr.nil_pieces s _ v w hv (wcO_big hb) _ rfl
  · exact piecesI s _ v w hv (wcO_le s T) (by omega) (wcO_cuts s T)
theorem wpieces_s (s : ByteArray) (T : List Tl) (v : Value) (w : World) (hv : IntsAt w v (wcO s T)) : Calls Tryd.prog 25 #[.string s, v] w fun e w' => ∃ v', e = .returned v' ∧ StrsAt w' v' (pieces s (wcO s T)) ∧ Below w.heap.size w w' := by
  by_cases hb : 65536 < s.size
  · exact Chr.nil_piecesS s _ v w hv (wcO_big hb) _ rfl
  · exact piecesS s _ v w hv (wcO_le s T) (wcO_cuts s T)
end Wrd
end Go.Proofs.YtdgafmhjbgddkaaDoor
/- Words of the program. -/
namespace Go.Proofs.YtdgafmhjbgddkaaDoor
namespace Wrd
open Go.RowKit
open Chr (cat ctl mrk)
set_option linter.unusedVariables false
set_option maxRecDepth 100000 in
set_option maxHeartbeats 4000000 in
theorem hasI (x : ByteArray) (w : World) (ht : TabAt w) (hs : x.size ≤ 1048576) : Calls Tryd.prog 30 #[.string x] w fun e w' => e = .returned (.bool (hasW x)) ∧ Below w.heap.size w w' := by
  have HT := hide ht
  clear ht
  have HI0 : Hid ((w.iter x 0).heap[w.heap.size]? = some (.stringIter x 0)) := hide (World.iter_heap w x 0)
  have HB0 : Hid (Below w.heap.size w (w.iter x 0)) := hide ((Below.refl _ _).alloc (Nat.le_refl _) _)
  have HAT := hide (in_at x)
  have HYES : Hid (∀ p, p ∈ pts x → wpt p = true → hasW x = true) := hide (fun p hp h => has_yes hp h)
  have HEND : Hid (∀ n, x.size ≤ (steps x n).2 → (∀ p ∈ (steps x n).1, wpt p = false) → hasW x = false) := hide (fun n h1 h2 => by unfold hasW; rw [← steps_pts x n h1]; exact has_no h2)
  generalize hasW x = D at *
  go_enter Tryd.func30, Tryd.ntmps30
  go_wp2
  go_loopw [] (fun wr => ∃ (n pos : Nat), Hid ((steps x n).2 = pos ∧ ∀ p ∈ (steps x n).1, wpt p = false) ∧ pos ≤ x.size ∧ Hid (wr.heap[w.heap.size]? = some (.stringIter x pos)) ∧ Hid (Below w.heap.size w wr)) (fun wr => x.size - wr.iterPos w.heap.size)
  case atStart => exact ⟨0, 0, hide ⟨rfl, fun p hp => by cases hp⟩, by omega, HI0, HB0⟩
  case round =>
    obtain ⟨n, pos, HS, hpos, HI, HB⟩ := hrel
    clear HB0 HI0
    have HM := hide (iterPos_of (unhide HI))
    by_cases hlt : pos < x.size
    · have hbd := dN_bd x pos hlt
      have d1 := hbd.1
      have d2 := hbd.2.1
      have hBs := (unhide HB).size
      have hnx : ∀ ty, (Instr.next (.pointer (some ⟨w.heap.size, 0, none⟩)) true ty).run Tryd.prog wr = .ok (.tuple #[.bool true, .int .i64 pos, .int .i32 (dP x pos)]) (wr.iterAt w.heap.size x (pos + dN x pos)) := fun ty => Lib.run_next_any_at wr _ x pos ty (unhide HI) hlt
      obtain ⟨w2, hw2⟩ : ∃ w2, wr.iterAt w.heap.size x (pos + dN x pos) = w2 := ⟨_, rfl⟩
      rw [hw2] at hnx
      have HI2 : Hid (w2.heap[w.heap.size]? = some (.stringIter x (pos + dN x pos))) := hide (by rw [← hw2]; exact Lib.iterAt_heap wr _ x pos _ (unhide HI))
      have HB2 : Hid (Below w.heap.size wr w2) := hide (by rw [← hw2]; exact Lib.below_iterAt (Below.refl _ _) (Nat.le_refl _) _ _)
      have HB3 := hide ((unhide HB).trans (unhide HB2))
      have HT2 := hide ((unhide HT).below (unhide HB3))
      have hsz2 : w.heap.size < w2.heap.size := (Array.getElem?_eq_some_iff.1 (unhide HI2)).1
      obtain ⟨p, hp⟩ : ∃ p : Int, (dP x pos : Int) = p := ⟨_, rfl⟩
      have HIN : Hid (p ∈ pts x) := hide (by rw [← hp, ← (unhide HS).1]; exact (unhide HAT) n (by rw [(unhide HS).1]; exact hlt))
      have HST : Hid ((steps x (n + 1)).2 = pos + dN x pos ∧ (steps x (n + 1)).1 = (steps x n).1 ++ [p]) := hide (by rw [steps_next x n (by rw [(unhide HS).1]; exact hlt), (unhide HS).1, hp]; exact ⟨rfl, rfl⟩)
      rw [hp] at hnx
      have hp32 : 0 ≤ p ∧ p ≤ 1114111 := by have := hbd.2.2; omega
      obtain ⟨p0, p1⟩ := hp32
      have C1 := hide (fun W h => lodB p W h)
      have C2 := hide (fun W h => isPart_any p W h)
      have C3 := hide (fun W h => ideB p W h)
      have HW : Hid (wpt p = (lod p || (scr p == 8) || (scr p == 9))) := hide rfl
      clear hbd hw2 hp
      generalize hb1 : lod p = b1 at *
      generalize hb2 : (scr p == 8) = b2 at *
      generalize hb3 : (scr p == 9) = b3 at *
      have G1 : ∀ (Bx : Bool), Bx = true → Hid (wpt p = Bx) → D = true := fun Bx h1 h2 => (unhide HYES) p (unhide HIN) (by rw [unhide h2, h1])
      have G0 : Hid (wpt p = false) → Hid ((steps x (n + 1)).2 = pos + dN x pos ∧ ∀ q ∈ (steps x (n + 1)).1, wpt q = false) := fun h => hide ⟨(unhide HST).1, fun q hq => by
        rw [(unhide HST).2, List.mem_append] at hq
        rcases hq with hq | hq
        · exact (unhide HS).2 q hq
        · obtain rfl : q = p := by simpa using hq
          exact unhide h⟩
      have HG1 := hide G1
      have HG0 := hide G0
      clear G1 G0 HST HIN HYES HAT
      cases b1
      · cases b2
        · cases b3
          · have HS2 := (unhide HG0) HW
            go_wp2_with (first
              | (go_at_call 45; refine ((unhide C1) _ (unhide HT2)).mono ?_; rintro e w3 ⟨rfl, hb3⟩; have B3 := hide (jn (unhide HB3) hb3); have I3 := hide ((hb3.block _ hsz2).trans (unhide HI2)); have hsz3 := Nat.lt_of_lt_of_le hsz2 hb3.size; have HT3 := hide ((unhide HT2).below hb3); clear hb3)
              | (go_at_call 46; refine ((unhide C2) _ (unhide HT3)).mono ?_; rintro e w4 ⟨rfl, hb4⟩; have B4 := hide (jn (unhide B3) hb4); have I4 := hide ((hb4.block _ hsz3).trans (unhide I3)); have hsz4 := Nat.lt_of_lt_of_le hsz3 hb4.size; have HT4 := hide ((unhide HT3).below hb4); clear hb4)
              | (go_at_call 47; refine ((unhide C3) _ (unhide HT4)).mono ?_; rintro e w5 ⟨rfl, hb5⟩; have B5 := hide (jn (unhide B4) hb5); have I5 := hide ((hb5.block _ hsz4).trans (unhide I4)); clear hb5))
            have HM3 := hide (iterPos_of (unhide I5))
            go_roundw
            case rel => exact ⟨n + 1, pos + dN x pos, HS2, by omega, I5, B5⟩
            case measure => rw [unhide HM, unhide HM3]; omega
          · have HF : Hid (D = true) := hide ((unhide HG1) _ rfl HW)
            go_wp2_with (first
              | (go_at_call 45; refine ((unhide C1) _ (unhide HT2)).mono ?_; rintro e w3 ⟨rfl, hb3⟩; have B3 := hide (jn (unhide HB3) hb3); have HT3 := hide ((unhide HT2).below hb3); clear hb3)
              | (go_at_call 46; refine ((unhide C2) _ (unhide HT3)).mono ?_; rintro e w4 ⟨rfl, hb4⟩; have B4 := hide (jn (unhide B3) hb4); have HT4 := hide ((unhide HT3).below hb4); clear hb4)
              | (go_at_call 47; refine ((unhide C3) _ (unhide HT4)).mono ?_; rintro e w5 ⟨rfl, hb5⟩; have B5 := hide (jn (unhide B4) hb5); clear hb5))
            go_ret
            exact ⟨by rw [unhide HF]; rfl, unhide B5⟩
        · have HF : Hid (D = true) := hide ((unhide HG1) _ (by rfl) HW)
          go_wp2_with (first
            | (go_at_call 45; refine ((unhide C1) _ (unhide HT2)).mono ?_; rintro e w3 ⟨rfl, hb3⟩; have B3 := hide (jn (unhide HB3) hb3); have HT3 := hide ((unhide HT2).below hb3); clear hb3)
            | (go_at_call 46; refine ((unhide C2) _ (unhide HT3)).mono ?_; rintro e w4 ⟨rfl, hb4⟩; have B4 := hide (jn (unhide B3) hb4); clear hb4))
          go_ret
          exact ⟨by rw [unhide HF]; rfl, unhide B4⟩
      · have HF : Hid (D = true) := hide ((unhide HG1) _ (by rfl) HW)
        go_wp2_with (go_at_call 45; refine ((unhide C1) _ (unhide HT2)).mono ?_; rintro e w3 ⟨rfl, hb3⟩; have B3 := hide (jn (unhide HB3) hb3); clear hb3)
        go_ret
        exact ⟨by rw [unhide HF]; rfl, unhide B3⟩
    · have hnx : ∀ ty, (Instr.next (.pointer (some ⟨w.heap.size, 0, none⟩)) true ty).run Tryd.prog wr = .ok (.tuple #[.bool false]) wr := fun ty => Lib.run_next_end_at wr _ x pos ty (unhide HI) hlt
      have HF : Hid (D = false) := hide ((unhide HEND) n (by rw [(unhide HS).1]; omega) (unhide HS).2)
      go_wp2
      go_ret
      exact ⟨by rw [unhide HF]; rfl, unhide HB⟩
set_option maxRecDepth 100000 in
set_option maxHeartbeats 4000000 in
theorem implW (s : ByteArray) (vt : Value) (T : List Tl) (w : World) (ht : TabAt w) (hs : s.size ≤ 1048576) (htl : TlAt w vt T) (hT : T.length ≤ 1048576) :
    Calls Tryd.prog 15 #[.string s, vt] w fun e w' => ∃ v, e = .returned v ∧ w'.ownsRow w.heap.size 9 1 v (wdO s T).length ((wdO s T).map Value.string) ∧ Below w.heap.size w w' := by
  obtain ⟨i0, hi, hz0, hz1, hz2⟩ := info_parts info9
  have CC := hide (implWC s vt T w ht hs htl hT)
  have CP := hide (fun v W h => wpieces_i s T v W h)
  have HSZ := hide (wpc_size s T)
  have hPl := wpc_len s T
  have HWD : Hid (wdO s T = wdk (pieces s (wcO s T)) (pieces s (wcO s T)).length) := hide rfl
  have HT := hide ht
  obtain ⟨ta, tc, rfl, _⟩ := htl
  clear ht
  generalize pieces s (wcO s T) = P at *
  generalize wdO s T = R at *
  have HO0 : Hid (∀ B W, World.ownsRow W B 9 1 (.slice none 0 0) 0 ((wdk P 0).map Value.string)) := hide (fun B W => World.ownsRow_nil _ _ _ _)
  go_enter Tryd.func15, Tryd.ntmps15
  go_wp2_with (first
    | (go_at_call 8; refine (unhide CC).mono ?_; rintro e w1 ⟨v1, rfl, ho1, hb1⟩; have I1 := hide (IntsAt.owned ho1); have B1 := hide hb1; clear ho1 hb1)
    | (go_at_call 29; refine ((unhide CP) _ _ (unhide I1)).mono ?_; rintro e w2 ⟨v2, rfl, ho2, hb2⟩; have B2 := hide (jn (unhide B1) hb2); have S2 := hide (StrsAt.owned ho2); clear hb2; obtain ⟨a2, c2, rfl, _⟩ := StrsAt.owned ho2; clear ho2))
  go_loopw [5, 14] (fun v x wr => ∃ k : Nat, x = .int .i64 (k : Int) ∧ k ≤ P.length ∧ Hid (wr.ownsRow w2.heap.size 9 1 v (wdk P k).length ((wdk P k).map Value.string)) ∧ Hid (Below w2.heap.size w2 wr)) (fun _ x _ => P.length - (intOf x).toNat)
  case atStart => exact ⟨0, rfl, by omega, hide ((unhide HO0) _ _), hide (Below.refl _ _)⟩
  case round =>
    obtain ⟨k, rfl, hk, HO, HB⟩ := hrel
    clear HO0
    have hBs := (unhide HB).size
    by_cases hlt : k < P.length
    · obtain ⟨b, off, cp, he, hbs, hc⟩ := strs_rd (unhide S2) (by omega)
      cases he
      have c1 := ((unhide HB).cell (p := ⟨b, off + k, none⟩) hbs).trans (hc k hlt)
      have hsz := (unhide HSZ) k hlt
      have HY := hide (fun h => @wdk_yes P k h)
      have HN := hide (fun h => @wdk_no P k h)
      have hwl := wdk_len P k
      obtain ⟨y, hy⟩ : ∃ y, nthS P k = y := ⟨_, rfl⟩
      rw [hy] at c1 hsz HY HN
      have CH := hide (fun W h => hasI y W h (by omega))
      have hlt' : (k : Int) < (P.length : Int) := by omega
      generalize hD : hasW y = D at *
      have HTr := hide (((unhide HT).below (unhide B2)).below (unhide HB))
      obtain ⟨m, hm⟩ : ∃ m, (wdk P k).length = m := ⟨_, rfl⟩
      rw [hm] at HO hwl
      have HM := hide hm
      clear hc hy hm
      cases D
      · have HE : Hid ((wdk P (k + 1)) = wdk P k) := hide ((unhide HN) rfl)
        go_wp2_with (go_at_call 30; refine ((unhide CH) _ (unhide HTr)).mono ?_; rintro e w3 ⟨rfl, hb3⟩; have O3 := hide (ownsRow_below (unhide HO) hb3); have B3 := hide (jn (unhide HB) hb3); clear hb3)
        go_roundw
        case rel => exact ⟨k + 1, by go_num, by omega, hide (by rw [unhide HE, unhide HM]; exact unhide O3), B3⟩
        case measure => simp [intOf]; omega
      · have HE : Hid ((wdk P (k + 1)) = wdk P k ++ [y]) := hide ((unhide HY) rfl)
        go_upto_region 6 with (go_at_call 30; refine ((unhide CH) _ (unhide HTr)).mono ?_; rintro e w3 ⟨rfl, hb3⟩; have O3 := hide (ownsRow_below (unhide HO) hb3); have B3 := hide (jn (unhide HB) hb3); have z3 := hb3.size; clear hb3)
        go_wp2_with (at_builtin; refine wpList_append_own _ rfl _ _ 33 rfl w2.heap.size 9 i0 (.string ⟨#[]⟩) 1 16 Tryd.underlying33 hi hz0 hz1 hz2 rfl (by decide) _ _ _ rfl (ownG_alloc (unhide O3) _) ⟨w3.heap.size, 0, none⟩ 1 1 [.string y] rfl rfl ?c1 ?c2 ?c3 ?c4 ?c5 ?_; rotate_left 5; intro v' w4 hown' hgrow hne)
        case c1 => exact cell_one_new _ _ _
        case c2 => intro u hu; simp at hu; subst hu; rfl
        case c3 => unfold maxLen; omega
        case c4 => omega
        case c5 => simp; omega
        have O4 : Hid (w4.ownsRow w2.heap.size 9 1 v' (wdk P (k + 1)).length ((wdk P (k + 1)).map Value.string)) := hide (by rw [unhide HE, List.map_append, List.length_append, unhide HM]; exact hown')
        have B4 : Hid (Below w2.heap.size w2 w4) := hide (((unhide B3).alloc (by omega) _).grown hgrow (by simp; omega) (fun m hm => ((unhide O3).lt m hm).1))
        clear hown' hgrow
        go_roundw
        case rel => exact ⟨k + 1, by go_num, by omega, O4, B4⟩
        case measure => simp [intOf]; omega
    · obtain rfl : k = P.length := by omega
      have hge : ¬ (P.length : Int) < (P.length : Int) := by omega
      go_wp2_with fail
      go_ret
      exact ⟨_, rfl, by rw [unhide HWD]; exact Chr.owns_lower (unhide HO) (unhide B2).size, jn (unhide B2) (unhide HB)⟩
end Wrd
end Go.Proofs.YtdgafmhjbgddkaaDoor
/- Words of the specification. -/
namespace Go.Proofs.YtdgafmhjbgddkaaDoor
namespace Wrd
open Go.RowKit
set_option linter.unusedVariables false
theorem dr1 (w : World) : Below w.heap.size w w.drew := ⟨rfl, rfl, rfl, Nat.le_refl _, fun _ _ => rfl⟩
set_option maxRecDepth 100000 in
set_option maxHeartbeats 16000000 in
theorem specW (s : ByteArray) (vt : Value) (T : List Tl) (w : World) (hs : s.size ≤ 1048576) (htl : TlAt w vt T) (hT : T.length ≤ 1048576) :
    Calls Tryd.prog 14 #[.string s, vt] w fun e w' => ∃ v, e = .returned v ∧ StrsAt w' v (wdO s T) ∧ Below w.heap.size w w' := by
  have hU : undef = Value.tuple #[] := rfl
  obtain ⟨i0, hi, hz0, hz1, hz2⟩ := info_parts info9
  have CC := hide (specWC s vt T w hs htl hT)
  have CP := hide (fun v W h => wpieces_s s T v W h)
  have HSZ := hide (wpc_size s T)
  have hPl := wpc_len s T
  have HWD : Hid (wdO s T = wdk (pieces s (wcO s T)) (pieces s (wcO s T)).length) := hide rfl
  obtain ⟨ta, tc, rfl, _⟩ := htl
  generalize pieces s (wcO s T) = P at *
  generalize wdO s T = R at *
  go_enter Tryd.func14, Tryd.ntmps14
  go_upto_region 2 with (first
    | (go_at_call 6; refine (unhide CC).mono ?_; rintro e w1 ⟨v1, rfl, ho1, hb1⟩; have I1 := hide ho1; have B1 := hide hb1; clear ho1 hb1)
    | (go_at_call 25; refine ((unhide CP) _ _ (unhide I1)).mono ?_; rintro e w2 ⟨v2, rfl, ho2, hb2⟩; have B2 := hide (jn (unhide B1) hb2); have S2 := hide ho2; clear hb2; obtain ⟨a2, c2, rfl, _⟩ := ho2))
  have O0 : Hid ((w2.alloc (.cells #[] 9)).ownsRow w2.heap.size 9 1 (.slice (some ⟨w2.heap.size, 0, none⟩) 0 0) (wdk P 0).length ((wdk P 0).map Value.string)) := hide (World.ownsRow_lit w2 #[] 0 (Nat.le_refl _) (by unfold maxLen; omega) rfl)
  go_wp2
  go_loopw [6, 7] (fun v x wr => ∃ k : Nat, x = .int .i64 (k : Int) ∧ k ≤ P.length ∧ Hid (wr.ownsRow w2.heap.size 9 1 v (wdk P k).length ((wdk P k).map Value.string)) ∧ Hid (Below w2.heap.size w2 wr)) (fun _ x _ => P.length - (intOf x).toNat)
  case atStart => exact ⟨0, rfl, by omega, O0, hide (al1 _ _)⟩
  case round =>
    obtain ⟨k, rfl, hk, HO, HB⟩ := hrel
    clear O0
    have hBs := (unhide HB).size
    by_cases hlt : k < P.length
    · obtain ⟨b, off, cp, he, hbs, hc⟩ := strs_rd (unhide S2) (by omega)
      cases he
      have c1 := ((unhide HB).cell (p := ⟨b, off + k, none⟩) hbs).trans (hc k hlt)
      have hsz := (unhide HSZ) k hlt
      have HY := hide (fun h => @wdk_yes P k h)
      have HN := hide (fun h => @wdk_no P k h)
      have hwl := wdk_len P k
      obtain ⟨y, hy⟩ : ∃ y, nthS P k = y := ⟨_, rfl⟩
      rw [hy] at c1 hsz HY HN
      have CL := hide (fun W => l01Points y W hsz)
      have hlt' : (k : Int) < (P.length : Int) := by omega
      have HHW : Hid (hasW y = (pts y).any wpt) := hide rfl
      have hql := Nat.le_trans (pts_le y) hsz
      generalize hD : hasW y = D at *
      generalize pts y = Q at *
      obtain ⟨m, hm⟩ : ∃ m, (wdk P k).length = m := ⟨_, rfl⟩
      rw [hm] at HO hwl
      have HM := hide hm
      have S3 := hide hc
      have HYY := hide hy
      clear hc hy hm hD
      go_upto_region 8 with (go_at_call 26; refine ((unhide CL) _).mono ?_; rintro e w3 ⟨v3, rfl, ho3, hb3⟩; have O3 := hide (ownsRow_below (unhide HO) hb3); have B3 := hide (jn (unhide HB) hb3); have I3 := hide (IntsAt.owned ho3); have z3 := hb3.size; clear hb3; obtain ⟨a3, c3, rfl, _⟩ := IntsAt.owned ho3; clear ho3)
      go_wp2_with fail
      go_loopw [9, 10] (fun h x wr' => ∃ (j : Nat) (g : Bool), x = .int .i64 (j : Int) ∧ h = .bool g ∧ j ≤ Q.length ∧ Hid (g = (Q.take j).any wpt) ∧ Hid (Below w3.heap.size w3 wr')) (fun _ x _ => Q.length - (intOf x).toNat)
      case atStart => exact ⟨0, false, rfl, rfl, by omega, hide rfl, hide (Below.refl _ _)⟩
      case round =>
        obtain ⟨j, g, rfl, rfl, hj, HG, HB4⟩ := hrel
        by_cases hjl : j < Q.length
        · obtain ⟨b5, o5, q5, he5, hb5, hc5⟩ := ints_at (unhide I3) (by omega)
          cases he5
          have j1 := ((unhide HB4).cell (p := ⟨b5, o5 + j, none⟩) hb5).trans (hc5 j hjl)
          have HTK := hide (has_take hjl)
          have hjl' : (j : Int) < (Q.length : Int) := by omega
          obtain ⟨p, hp⟩ : ∃ p, nth Q j = p := ⟨_, rfl⟩
          rw [hp] at j1 HTK
          rw [← wpt_s p] at HTK
          have CW := hide (fun W => sWord p W)
          have CS := hide (fun W => scrS_any p W)
          have hb5w := Nat.lt_of_lt_of_le hb5 (unhide HB4).size
          clear hc5 hp
          generalize wcl p = c at *
          generalize scr p = d at *
          go_upto_region 12 with (go_at_call 27; refine ((unhide CW) _).mono ?_; rintro e w5 ⟨rfl, hb6⟩; have B5 := hide (jn (unhide HB4) hb6); have j2 := (hb6.cell (p := ⟨b5, o5 + j, none⟩) hb5w).trans j1; clear hb6)
          have hb1 : ∃ q1, (c == 1) = q1 := ⟨_, rfl⟩
          obtain ⟨q1, e1⟩ := hb1
          have hb2 : ∃ q2, (c == 2) = q2 := ⟨_, rfl⟩
          obtain ⟨q2, e2⟩ := hb2
          have hb3 : ∃ q3, (c == 5) = q3 := ⟨_, rfl⟩
          obtain ⟨q3, e3⟩ := hb3
          have hb4 : ∃ q4, (d == 9) = q4 := ⟨_, rfl⟩
          obtain ⟨q4, e4⟩ := hb4
          rw [e1, e2, e3, e4, ← unhide HG] at HTK
          clear HG j1
          cases g
          · cases q1
            · cases q2
              · cases q3
                · go_wp2_with (go_at_call 28; refine ((unhide CS) _).mono ?_; rintro e w6 ⟨rfl, hb6⟩; have B6 := hide (jn (unhide B5) hb6); clear hb6)
                  go_roundw
                  case rel => exact ⟨j + 1, _, by go_num, rfl, by omega, hide (unhide HTK).symm, B6⟩
                  case measure => simp [intOf]; omega
                · go_wp2
                  go_roundw
                  case rel => exact ⟨j + 1, _, by go_num, rfl, by omega, hide (unhide HTK).symm, B5⟩
                  case measure => simp [intOf]; omega
              · go_wp2
                go_roundw
                case rel => exact ⟨j + 1, _, by go_num, rfl, by omega, hide (unhide HTK).symm, B5⟩
                case measure => simp [intOf]; omega
            · go_wp2
              go_roundw
              case rel => exact ⟨j + 1, _, by go_num, rfl, by omega, hide (unhide HTK).symm, B5⟩
              case measure => simp [intOf]; omega
          · go_wp2
            go_roundw
            case rel => exact ⟨j + 1, _, by go_num, rfl, by omega, hide (unhide HTK).symm, B5⟩
            case measure => simp [intOf]; omega
        · obtain rfl : j = Q.length := by omega
          have hge : ¬ (Q.length : Int) < (Q.length : Int) := by omega
          have HGD : Hid (g = D) := hide (by rw [unhide HHW, unhide HG, List.take_length])
          have B7 := hide (jn (unhide B3) (unhide HB4))
          have O7 := hide (ownsRow_below (unhide O3) (unhide HB4))
          have c7 := (((unhide B7).cell (p := ⟨b, off + k, none⟩) hbs).trans ((unhide S3) k hlt))
          have z7 := (unhide B7).size
          cases D
          · obtain rfl := unhide HGD
            have HE : Hid ((wdk P (k + 1)) = wdk P k) := hide ((unhide HN) rfl)
            go_wp2_with fail
            go_roundw
            case rel => exact ⟨k + 1, by go_num, by omega, hide (by rw [unhide HE, unhide HM]; exact unhide O7), B7⟩
            case measure => simp [intOf]; omega
          · obtain rfl := unhide HGD
            have HE : Hid ((wdk P (k + 1)) = wdk P k ++ [y]) := hide ((unhide HY) rfl)
            rw [unhide HYY] at c7
            go_upto_region 14 with fail
            go_wp2_with (at_builtin; refine wpList_append_own _ rfl _ _ 33 rfl w2.heap.size 9 i0 (.string ⟨#[]⟩) 1 16 Tryd.underlying33 hi hz0 hz1 hz2 rfl (by decide) _ _ _ rfl (ownG_alloc (unhide O7) _) ⟨wr.heap.size, 0, none⟩ 1 1 [.string y] rfl rfl ?c1 ?c2 ?c3 ?c4 ?c5 ?_; rotate_left 5; intro v' w4 hown' hgrow hne)
            case c2 => first | rfl | (intro u hu; simp at hu; subst hu; rfl)
            case c3 => first | omega | (unfold maxLen; omega)
            case c4 => omega
            case c5 => first | omega | (simp; omega)
            have O8 : Hid (w4.ownsRow w2.heap.size 9 1 v' (wdk P (k + 1)).length ((wdk P (k + 1)).map Value.string)) := hide (by rw [unhide HE, List.map_append, List.length_append, unhide HM]; exact hown')
            have B8 : Hid (Below w2.heap.size w2 w4) := hide (((unhide B7).alloc (by omega) _).grown hgrow (by simp; omega) (fun m hm => ((unhide O7).lt m hm).1))
            clear hown' hgrow
            go_roundw
            case rel => exact ⟨k + 1, by go_num, by omega, O8, B8⟩
            case measure => simp [intOf]; omega
    · obtain rfl : k = P.length := by omega
      have hge : ¬ (P.length : Int) < (P.length : Int) := by omega
      go_wp2_with fail
      go_ret
      exact ⟨_, rfl, by rw [unhide HWD]; exact StrsAt.owned (unhide HO), jn (unhide B2) (unhide HB)⟩
end Wrd
end Go.Proofs.YtdgafmhjbgddkaaDoor
/- The law of Words. -/
namespace Go.Proofs.YtdgafmhjbgddkaaDoor
namespace Wrd
open Go.RowKit
set_option linter.unusedVariables false
set_option maxRecDepth 100000 in
set_option maxHeartbeats 16000000 in
theorem lawW (s : ByteArray) (vt : Value) (T : List Tl) (w : World) (hv : TlAt w vt T) (hTl : T.length ≤ 9223372036854775807) (ht : TabAt w) :
    Calls Tryd.prog 4 #[.string s, vt] w fun e w' => e = .returned (.bool true) ∧ Below w.heap.size w w' := by
  have HV := hide hv
  have CZ := hide (szTl vt T 1048576 w hv hTl (Nat.le_refl _))
  obtain ⟨ta, tc, rfl, _⟩ := hv
  by_cases hs : s.size ≤ 1048576
  · have hs' : ¬ (1048576 : Int) < (s.size : Int) := by omega
    have HT := hide ht
    clear ht
    have hn := wdO_le s T
    have CS := fun V W h1 h2 => specW s V T W hs h1 h2
    have CI := fun V W h1 h2 h3 => implW s V T W h1 hs h2 h3
    obtain ⟨L, hL⟩ : ∃ L, wdO s T = L := ⟨_, rfl⟩
    rw [hL] at hn
    simp only [hL] at CS CI
    have SP := hide CS
    have IM := hide CI
    clear CS CI hL hs
    have hm : (1 + (L.length : Int) != 1 + (L.length : Int)) = false := by simp
    have h0 : ¬ (1 + (L.length : Int) < 0) := by omega
    go_enter Tryd.func4, Tryd.ntmps4
    go_wp2_with fail
    refine (unhide CZ).mono ?_
    rintro e w' ⟨r, rfl, hw', hr⟩
    obtain rfl := hw'.symm
    clear hw' CZ
    rcases hr with hr | ⟨hr0, hr1, hT⟩
    · go_wp2
      go_ret
      exact ⟨rfl, Below.refl _ _⟩
    · have hr' : ¬ r < 0 := by omega
      have CT := hide (fun W h => Tlr.toSpans (.slice ta T.length tc) T W h hT)
      have CE := hide (fun V1 V2 W h1 h2 => eqTls V1 V2 T W h1 h2 hT)
      obtain ⟨M, hM⟩ : ∃ M, M = 1 + 3 * T.length := ⟨_, rfl⟩
      have CM := hide (fun B g c xs W h => markTls B g c xs T.length W h hT M hM)
      have hMp : ¬ (M : Int) < 0 := by omega
      clear hM
      go_wp2_with fail
      refine ((unhide CT) _ (unhide HV)).mono ?_
      rintro e w1 ⟨rfl, hp1, hb1⟩
      have B1 := hide hb1
      have P1 := hide hp1
      clear hb1 hp1
      go_wp2_with fail
      refine ((unhide SP) _ _ (SpRow_at (unhide P1)) hT).mono ?_
      rintro e w2 ⟨v0, rfl, ho0, hb2⟩
      have HO0 := hide ho0
      have B2 := hide ((unhide B1).trans (hb2.mono (unhide B1).size))
      clear ho0 hb2 P1 B1
      go_wp2_with fail
      refine ((unhide CT) _ ((unhide HV).below (unhide B2))).mono ?_
      rintro e w3 ⟨rfl, hp3, hb3⟩
      have P3 := hide hp3
      have D3 := hide hb3
      have B3 := hide ((unhide B2).trans (hb3.mono (unhide B2).size))
      have hl3 : w2.heap.size < w3.heap.size := by
        rcases hp3.2 with ⟨e, _⟩ | ⟨g, _, _, e, _, hh, _⟩
        · cases e
        · cases e
          exact (Array.getElem?_eq_some_iff.1 hh).1
      clear hp3 hb3
      go_wp2_with fail
      refine ((unhide IM) _ _ ((unhide HT).below (unhide B3)) (SpRow_at (unhide P3)) hT).mono ?_
      rintro e w4 ⟨g0, rfl, ho4, hb4⟩
      have G4 := hide ho4
      have P4 := hide ((unhide P3).below hb4)
      have D4 := hide ((unhide D3).trans (hb4.mono (by omega)))
      have hs4 := hb4.size
      clear ho4 hb4 P3 D3 B3
      go_wp2_with fail
      refine (eqStrs _ _ L _ (StrsAt.owned (unhide G4)) ((unhide HO0).below (unhide D4)) (by omega)).mono ?_
      rintro e w5 ⟨rfl, hb5⟩
      have G5 := hide (ownsRow_below (unhide G4) hb5)
      have P5 := hide ((unhide P4).below hb5)
      have D5 := hide ((unhide D4).trans (hb5.mono (by omega)))
      have hs5 := hb5.size
      clear hb5 G4 P4 D4
      go_wp2_with fail
      refine ((unhide CT) _ ((unhide HV).below ((unhide B2).trans ((unhide D5).mono (unhide B2).size)))).mono ?_
      rintro e w6 ⟨rfl, hp6, hb6⟩
      have Q6 := hide hp6
      have G6 := hide (ownsRow_below (unhide G5) hb6)
      have P6 := hide ((unhide P5).below hb6)
      have D6 := hide ((unhide D5).trans (hb6.mono (by omega)))
      have hs6 := hb6.size
      clear hb6 hp6 G5 P5 D5
      go_wp2_with fail
      refine ((unhide CE) _ _ _ (SpRow_at (unhide P6)) (SpRow_at (unhide Q6))).mono ?_
      rintro e w7 ⟨rfl, hb7⟩
      have G7 := hide (ownsRow_below (unhide G6) hb7)
      have P7 := hide ((unhide P6).below hb7)
      have D7 := hide ((unhide D6).trans (hb7.mono (by omega)))
      have hs7 := hb7.size
      clear hb7 G6 P6 D6 Q6
      go_wp2_with fail
      refine ((unhide CM) _ _ _ _ _ (unhide P7)).mono ?_
      rintro e w8 ⟨rfl, hm8⟩
      have G8 := hide (own_atS (unhide G7) (fun k e => hm8.oth k (by have := ((unhide G7).lt k e).1; omega)))
      have D8 := hide ((unhide D7).trans hm8.bel)
      have hs8 := hm8.bel.size
      clear hm8 G7 P7 D7
      go_wp2_with fail
      refine (eqStrs _ _ L _ (StrsAt.owned (unhide G8)) ((unhide HO0).below (unhide D8)) (by omega)).mono ?_
      rintro e w9 ⟨rfl, hb9⟩
      have G9 := hide (ownsRow_below (unhide G8) hb9)
      have D9 := hide ((unhide D8).trans (hb9.mono (by omega)))
      have hs9 := hb9.size
      clear hb9 G8 D8
      go_wp2_with fail
      refine (markS_any w3.heap.size g0 L 1 _ (by omega) (by omega) (by omega) (by omega) (unhide G9)).mono ?_
      rintro e w10 ⟨rfl, ho10, hb10⟩
      have G10 := hide ho10
      have D10 := hide ((unhide D9).trans (hb10.mono (by omega)))
      have hs10 := hb10.size
      clear ho10 hb10 G9 D9
      go_wp2_with fail
      refine (heldS_any g0 L.length 1 _ (by omega) (by omega) (by omega) (owned_seqS (unhide G10))).mono ?_
      rintro e w10' ⟨rfl, hbx⟩
      have G10' := hide (ownsRow_below (unhide G10) hbx)
      have D10' := hide ((unhide D10).trans (hbx.mono (by omega)))
      have hs10' := hbx.size
      clear hbx G10 D10
      have B10 := hide ((unhide B2).trans ((unhide D10').mono (unhide B2).size))
      go_wp2_with fail
      refine ((unhide CT) _ ((unhide HV).below (unhide B10))).mono ?_
      rintro e w11 ⟨rfl, hp11, hb11⟩
      have P11 := hide hp11
      have G11 := hide (ownsRow_below (unhide G10') hb11)
      have D11 := hide ((unhide D10').trans (hb11.mono (by omega)))
      have B11 := hide ((unhide B10).trans (hb11.mono (unhide B10).size))
      have hs11 := hb11.size
      clear hp11 hb11 G10' D10' B10
      go_wp2_with fail
      refine ((unhide IM) _ _ ((unhide HT).below (unhide B11)) (SpRow_at (unhide P11)) hT).mono ?_
      rintro e w12 ⟨h12, rfl, ho12, hb12⟩
      have H12 := hide ho12
      have G12 := hide (ownsRow_below (unhide G11) hb12)
      have D12 := hide ((unhide D11).trans (hb12.mono (by omega)))
      have B12 := hide ((unhide B11).trans (hb12.mono (unhide B11).size))
      have hs12 := hb12.size
      clear ho12 hb12 G11 D11 B11 P11
      go_wp2_with fail
      refine (eqStrs _ _ L _ (StrsAt.owned (unhide H12)) ((unhide HO0).below (unhide D12)) (by omega)).mono ?_
      rintro e w13 ⟨rfl, hb13⟩
      have G13 := hide (ownsRow_below (unhide G12) hb13)
      have B13 := hide ((unhide B12).trans (hb13.mono (unhide B12).size))
      clear hb13 G12 D12 B12 H12
      go_wp2_with fail
      refine (heldS_any g0 L.length 1 _ (by omega) (by omega) (by omega) (owned_seqS (unhide G13))).mono ?_
      rintro e w14 ⟨rfl, hb14⟩
      have B14 := hide ((unhide B13).trans (hb14.mono (unhide B13).size))
      clear hb14
      go_wp2
      go_ret
      exact ⟨rfl, unhide B14⟩
  · have hs' : (1048576 : Int) < (s.size : Int) := by omega
    clear ht CZ
    go_enter Tryd.func4, Tryd.ntmps4
    go_wp2
    go_ret
    exact ⟨rfl, Below.refl _ _⟩
end Wrd
end Go.Proofs.YtdgafmhjbgddkaaDoor
