/- DecodeSteps of the program: a machine of labels. -/
import Derived.Test.YtohpifhpfijmcaaDoorStpL
import Derived.Test.YtohpifhpfijmcaaDoorJumps
import Derived.Test.YtohpifhpfijmcaaDoorShfE
import Derived.Lib.VarintBits
namespace Go.Proofs.YtohpifhpfijmcaaDoor
open Go.RowKit
theorem stepOfI (n : Nat) (h : n < 268435456) (w : World) :
    Calls Tryd.prog 39 #[.int .i64 n] w fun e w' => e = .returned (.int .i64 (zag n)) ∧ w = w' := by
  have e1 : (n : Int).tmod 2 = (n : Int) % 2 := Int.tmod_eq_emod_of_nonneg (by omega)
  have e2 : (n : Int).tdiv 2 = (n : Int) / 2 := Int.tdiv_eq_ediv_of_nonneg (by omega)
  have e3 : (-((n : Int) + 1)).tdiv 2 = -(((n : Int) + 1) / 2) := by rw [Int.neg_tdiv, Int.tdiv_eq_ediv_of_nonneg (by omega)]
  by_cases h2 : (n : Int) % 2 = 0
  · have hz : zag n = (n : Int) / 2 := by unfold zag; rw [if_pos h2]
    rw [hz]
    have hb : ((n : Int) % 2 == 0) = true := by rw [h2]; rfl
    clear hz h2
    go_enter Tryd.func39, Tryd.ntmps39
    go_wp2
    go_ret
    exact ⟨rfl, rfl⟩
  · have hz : zag n = -(((n : Int) + 1) / 2) := by unfold zag; rw [if_neg h2]
    rw [hz]
    have hb : ((n : Int) % 2 == 0) = false := by rw [beq_eq_false_iff_ne]; exact h2
    clear hz h2
    go_enter Tryd.func39, Tryd.ntmps39
    go_wp2
    go_ret
    exact ⟨rfl, rfl⟩
theorem dst_bd (s : ByteArray) (n : Nat) : 64 ≤ (dst s n).f ∧ (dst s n).f ≤ 1114112 ∧ (dst s n).i ≤ s.size ∧ (dst s n).l.length ≤ (dst s n).i := by
  induction n with
  | zero => exact ⟨by show (64 : Int) ≤ 64; omega, by show (64 : Int) ≤ 1114112; omega, Nat.zero_le _, Nat.zero_le _⟩
  | succ n ih =>
    by_cases h : (dst s n).i < s.size ∧ bad7 s (dst s n).i = false ∧ isPt ((dst s n).f + zag (num7 s (dst s n).i)) = true
    · rw [dst_succ h.1 h.2.1 h.2.2]
      have hm := mid_bd h.2.2
      have hb := h.2.1
      unfold bad7 at hb
      rw [decide_eq_false_iff_not] at hb
      refine ⟨hm.1, hm.2, ?_, ?_⟩
      · show (dst s n).i + kk s (dst s n).i + 1 ≤ s.size
        omega
      · show ((dst s n).l ++ [_]).length ≤ (dst s n).i + kk s (dst s n).i + 1
        rw [List.length_append, List.length_singleton]; omega
    · have e : dst s (n + 1) = dst s n := by
        have hn : dnext s (dst s n) = none := by unfold dnext; rw [if_neg h]
        exact iter_none (f := dnext s) (n := n) (x := ⟨[], 64, 0⟩) hn 1
      rw [e]; exact ih
theorem or7 (k q x c : Nat) (hc : c = 128 ^ k) (hk : k ≤ 3) (hq : q < c) (hx : x < 128) : bits .or .i64 (q : Int) ((x : Int) * (c : Int)) = ((q + x * c : Nat) : Int) := by
  have e : (2 : Int) ^ (7 * k) = (c : Int) := by
    subst hc
    obtain rfl | rfl | rfl | rfl : k = 0 ∨ k = 1 ∨ k = 2 ∨ k = 3 := by omega
    all_goals rfl
  have hc2 : c ≤ 2097152 := by
    subst hc
    obtain rfl | rfl | rfl | rfl : k = 0 ∨ k = 1 ∨ k = 2 ∨ k = 3 := by omega
    all_goals decide
  have hm : x * c ≤ 127 * 2097152 := Nat.mul_le_mul (by omega) hc2
  have h := bits_join_low .i64 63 (by decide) (fun n h0 h1 => by rw [IntKind.wrap_i64]; omega) (7 * k) (q : Int) ((x : Int) * (c : Int)) (by omega) (by rw [e]; omega) (by omega) (by rw [← Int.natCast_mul]; omega) (by rw [e]; exact Int.mul_emod_left _ _) (by rw [← Int.natCast_mul]; omega)
  rw [h, Int.natCast_add, Int.natCast_mul]
theorem textL_append1 (l : List Int) (p : Int) : textL (l ++ [p]) = textL l ++ Lib.encodeRuneZ p := by unfold textL; rw [List.flatMap_append, List.flatMap_singleton]
/-- What holds at every label: the machine has gone nn steps; the points' bytes are laid; the answer's cells are there. -/
def DRow (s : ByteArray) (w wr : World) (nn i : Nat) (l : List Int) (f : Int) (v : Value) : Prop :=
  dst s nn = ⟨l, f, i⟩ ∧ nn ≤ i ∧ wr.ownsRow w.heap.size 5 1 v (textL l).length ((textL l).map (Value.int .u8)) ∧ Below w.heap.size w wr ∧ wr.heap[w.heap.size]? = some (.cells #[.int .i64 0, .int .i64 0, .string (strOfNums [])] 25)
/-- The frame: what its first slots hold. -/
def Fr (s : ByteArray) (w : World) (a : Act) (v b x n p : Value) : Prop := a = { tmps := #[.string s, a.tmps.getD 1 undef, .pointer (some ⟨w.heap.size, 0, none⟩), v, b, x, n, p, a.tmps.getD 8 undef, a.tmps.getD 9 undef, a.tmps.getD 10 undef, a.tmps.getD 11 undef, a.tmps.getD 12 undef, a.tmps.getD 13 undef, a.tmps.getD 14 undef, a.tmps.getD 15 undef, a.tmps.getD 16 undef, a.tmps.getD 17 undef, a.tmps.getD 18 undef, a.tmps.getD 19 undef, a.tmps.getD 20 undef, a.tmps.getD 21 undef, a.tmps.getD 22 undef, a.tmps.getD 23 undef, a.tmps.getD 24 undef, a.tmps.getD 25 undef, a.tmps.getD 26 undef, a.tmps.getD 27 undef, a.tmps.getD 28 undef, a.tmps.getD 29 undef, a.tmps.getD 30 undef, a.tmps.getD 31 undef, a.tmps.getD 32 undef, a.tmps.getD 33 undef, a.tmps.getD 34 undef, a.tmps.getD 35 undef, a.tmps.getD 36 undef, a.tmps.getD 37 undef, a.tmps.getD 38 undef, a.tmps.getD 39 undef, a.tmps.getD 40 undef, a.tmps.getD 41 undef, a.tmps.getD 42 undef, a.tmps.getD 43 undef, a.tmps.getD 44 undef, a.tmps.getD 45 undef, a.tmps.getD 46 undef, a.tmps.getD 47 undef, a.tmps.getD 48 undef, a.tmps.getD 49 undef, a.tmps.getD 50 undef, a.tmps.getD 51 undef, a.tmps.getD 52 undef, a.tmps.getD 53 undef, a.tmps.getD 54 undef, a.tmps.getD 55 undef, a.tmps.getD 56 undef, a.tmps.getD 57 undef, a.tmps.getD 58 undef, a.tmps.getD 59 undef, a.tmps.getD 60 undef, a.tmps.getD 61 undef, a.tmps.getD 62 undef, a.tmps.getD 63 undef, a.tmps.getD 64 undef, a.tmps.getD 65 undef, a.tmps.getD 66 undef, a.tmps.getD 67 undef, a.tmps.getD 68 undef, a.tmps.getD 69 undef, a.tmps.getD 70 undef, a.tmps.getD 71 undef, a.tmps.getD 72 undef, a.tmps.getD 73 undef, a.tmps.getD 74 undef, a.tmps.getD 75 undef, a.tmps.getD 76 undef, a.tmps.getD 77 undef, a.tmps.getD 78 undef, a.tmps.getD 79 undef], defers := [] }
theorem Fr.open {s : ByteArray} {w : World} {a : Act} {v b x n p : Value} (h : Fr s w a v b x n p) : ∃ u : Nat → Value, a = { tmps := #[.string s, u 1, .pointer (some ⟨w.heap.size, 0, none⟩), v, b, x, n, p, u 8, u 9, u 10, u 11, u 12, u 13, u 14, u 15, u 16, u 17, u 18, u 19, u 20, u 21, u 22, u 23, u 24, u 25, u 26, u 27, u 28, u 29, u 30, u 31, u 32, u 33, u 34, u 35, u 36, u 37, u 38, u 39, u 40, u 41, u 42, u 43, u 44, u 45, u 46, u 47, u 48, u 49, u 50, u 51, u 52, u 53, u 54, u 55, u 56, u 57, u 58, u 59, u 60, u 61, u 62, u 63, u 64, u 65, u 66, u 67, u 68, u 69, u 70, u 71, u 72, u 73, u 74, u 75, u 76, u 77, u 78, u 79], defers := [] } := ⟨fun k => a.tmps.getD k undef, h⟩
def jD (s : ByteArray) (w : World) : Nat → Act → World → Prop
  | 0, a, wr => ∃ (nn i : Nat) (l : List Int) (f : Int) (v b n : Value), Fr s w a v b (.int .i64 i) n (.int .i64 f) ∧ Hid (DRow s w wr nn i l f v)
  | 1, a, wr => ∃ (nn i : Nat) (l : List Int) (f : Int) (v x n p : Value), Fr s w a v (.int .i64 i) x n p ∧ Hid (DRow s w wr nn i l f v) ∧ i < s.size ∧ Hid (bad7 s i = true)
  | 2, a, wr => ∃ (nn i j q : Nat) (l : List Int) (f : Int) (v : Value), Fr s w a v (.int .i64 i) (.int .i64 j) (.int .i64 q) (.int .i64 f) ∧ Hid (DRow s w wr nn i l f v) ∧ i < s.size ∧ i ≤ j ∧ j ≤ i + 4 ∧ j ≤ s.size ∧ Hid (Goon s i (j - i)) ∧ Hid (q = acc7 s i (j - i))
  | 3, a, wr => ∃ (nn i : Nat) (l : List Int) (f : Int) (v x n p : Value), Fr s w a v (.int .i64 i) x n p ∧ Hid (DRow s w wr nn i l f v) ∧ i < s.size ∧ Hid (bad7 s i = false) ∧ Hid (isPt (f + zag (num7 s i)) = false)
  | _, _, _ => False
def muD (s : ByteArray) (l : Nat) (a : Act) : Nat := 2 * (s.size - (intOf (a.tmps.getD 5 undef)).toNat) + (if l = 0 ∨ l = 2 then 1 else 0)
theorem jD_lt {s : ByteArray} {w : World} : ∀ l a wr, jD s w l a wr → l < 4 := by
  intro l a wr h
  match l, h with
  | 0, _ => omega
  | 1, _ => omega
  | 2, _ => omega
  | 3, _ => omega
  | (l + 4), h => exact absurd h (by simp [jD])
set_option maxHeartbeats 4000000 in
set_option maxRecDepth 100000 in
theorem iDecSteps (s : ByteArray) (w : World) (hs : s.size ≤ 65536) :
    Calls Tryd.prog 14 #[.string s] w fun e w' => e = .returned (legV (dans s)) ∧ Below w.heap.size w w' := by
  obtain ⟨i0, hi, hz0, hz1, hz2⟩ := info_parts info5
  go_enter Tryd.func14, Tryd.ntmps14
  go_wp2
  apply wp_fall4 (jD s w) (fun l a _ => muD s l a)
  case h0 => rfl
  case h1 => rfl
  case h2 => rfl
  case h3 => rfl
  case hJ => exact jD_lt
  case first =>
    intro H
    go_wp2_with (at_make; refine wpList_make_own _ rfl _ _ 22 rfl w.heap.size 5 i0 (.int .u8 0) 1 Tryd.underlying22 hi hz0 hz1 .i64 .i64 _ s.size rfl rfl rfl ?b2 ?b3 ?b4 ?_)
    case b2 => rw [hz2]; omega
    case b3 => unfold maxLen; omega
    case b4 => simp
    intro w1 hown hgrow
    have hw1 := (made_below hgrow).size
    have hbl := ((Below.refl w.heap.size w).alloc (Nat.le_refl _) (.cells #[.int .i64 0, .int .i64 0, .string (strOfNums [])] 25)).trans ((made_below hgrow).mono (by simp))
    have hcl : w1.heap[w.heap.size]? = some (.cells #[.int .i64 0, .int .i64 0, .string (strOfNums [])] 25) := ((made_below hgrow).block _ (by simp)).trans (heap_alloc_new _ _)
    have HD : Hid (DRow s w w1 0 0 [] 64 (.slice (some ⟨w.heap.size + 1, 0, none⟩) 0 s.size)) := hide ⟨rfl, Nat.le_refl _, hown, hbl, hcl⟩
    clear hown hgrow hbl hcl
    go_wp2_with fail
    refine (stepsFromI 0 (by omega) (by omega) _).mono ?_
    rintro e w' ⟨rfl, rfl⟩
    have hm0 : mid 0 = 64 := rfl
    go_wp2
    go_step3
    rename_i K hK
    exact hK _ _ (H _ _ ⟨0, 0, [], 64, _, _, _, rfl, HD⟩)
  case p0 =>
    intro H2 a wr hJ
    obtain ⟨nn, i, l, f, v, b, n, HF, HD⟩ := hJ
    obtain ⟨u, rfl⟩ := HF.open
    clear HF
    have HH := hide H2
    clear H2
    go_hide hQ
    have HQ := hide hQ
    clear hQ
    obtain ⟨hd, hnn, hown, hbl, hcl⟩ := unhide HD
    have hbd := dst_bd s nn
    rw [hd] at hbd
    obtain ⟨hf1, hf2, hi1, hl1⟩ := hbd
    have hi2 : i ≤ s.size := hi1
    have hl2 : l.length ≤ i := hl1
    have htl := textL_le l
    have hw := hbl.size
    by_cases he : i = s.size
    · have HA : Hid (dans s = legA (textL l)) := hide (by
        have e := dst_stop (s := s) (n := nn) (by omega) (by rw [hd]; intro h; exact absurd h.1 (by show ¬ i < s.size; omega))
        unfold dans
        rw [e, hd, if_neg (show ¬ i < s.size by omega)]
        rfl)
      have hq : ((i : Int) == (s.size : Int)) = true := by rw [beq_iff_eq]; omega
      have HO := hide hown
      have HB := hide hbl
      have HC := hide hcl
      clear hd hown hbl hcl hf1 hf2 hi1 hl1 he HH HD
      go_wp2_with fail
      refine (legOut_any w.heap.size _ (textL l) _ (unhide HO) (by omega)).mono ?_
      rintro e w3 ⟨rfl, hb3⟩
      have hc3 : w3.heap[w.heap.size]? = some (.cells #[.int .i64 0, .int .i64 0, .string (strOfNums [])] 25) := (hb3.block _ (Array.getElem?_eq_some_iff.1 (unhide HC)).1).trans (unhide HC)
      have HB3 := hide ((unhide HB).trans (hb3.mono (unhide HB).size))
      generalize hx : legA (textL l) = x at *
      obtain ⟨x0, x1, x2⟩ := x
      obtain ⟨c0, c1, c2, z0, z1, z2⟩ := store3 hc3
      obtain ⟨p0, p1, p2⟩ := leg_cells hc3 (.int .i64 x0) (.int .i64 x1) (.string (strOfNums x2))
      clear hb3 hc3 hx HO HB HC
      unfold legV
      go_wp2
      have e9 := unhide HQ
      subst e9
      simp only [jumps]
      refine bodyPost_ret (by simp [results, Tryd.results14, go_sem, p0, p1, p2]; try rfl) rfl ?_
      exact ⟨by rw [unhide HA]; rfl, below_set3 (unhide HB3) _ _ _⟩
    · have hq : ((i : Int) == (s.size : Int)) = false := by rw [beq_eq_false_iff_ne]; omega
      clear hd hown hbl hcl hf1 hf2 hi1 hl1
      go_wp2
      go_step3
      rename_i K hK
      refine hK _ _ ?_
      have e9 := unhide HQ
      subst e9
      refine wp_more ((unhide HH) _ _ ⟨nn, i, i, 0, l, f, _, rfl, HD, by omega, Nat.le_refl _, by omega, by omega, hide (fun j hj => by omega), hide (by rw [Nat.sub_self]; rfl)⟩) (jumps_more fun _ _ _ x => ⟨x.1, Nat.lt_of_lt_of_le x.2 ?_⟩)
      simp [muD, intOf]
  case p1 =>
    intro a wr hJ
    obtain ⟨nn, i, l, f, v, x, n, p, HF, HD, hi2, HE⟩ := hJ
    obtain ⟨u, rfl⟩ := HF.open
    clear HF
    go_hide hQ
    have HQ := hide hQ
    clear hQ
    obtain ⟨hd, hnn, hown, hbl, hcl⟩ := unhide HD
    have HA : Hid (dans s = (3, (i : Int), [])) := hide (by
      have e := dst_stop (s := s) (n := nn) (by omega) (by rw [hd]; intro h; exact absurd h.2.1 (by show ¬ bad7 s i = false; rw [unhide HE]; decide))
      unfold dans
      rw [e, hd, if_pos (show i < s.size from hi2), if_pos (show bad7 s i = true from unhide HE)])
    obtain ⟨c0, c1, c2, z0, z1, z2⟩ := store3 hcl
    obtain ⟨p0, p1, p2⟩ := leg_cells hcl (.int .i64 3) (.int .i64 i) (.string { data := #[] })
    have HB3 := hide hbl
    clear hd hnn hown hbl hcl HD HE
    go_wp2
    have e9 := unhide HQ
    subst e9
    simp only [jumps]
    refine bodyPost_ret (by simp [results, Tryd.results14, go_sem, p0, p1, p2]; try rfl) rfl ?_
    exact ⟨by rw [unhide HA]; rfl, below_set3 (unhide HB3) _ _ _⟩
  case p2 =>
    intro a wr hJ
    obtain ⟨nn, i, j, q, l, f, v, HF, HD, hi2, hij, hj4, hjs, HG, HQ7⟩ := hJ
    obtain ⟨u, rfl⟩ := HF.open
    clear HF
    go_hide hQ
    have HQ := hide hQ
    clear hQ
    by_cases he : j = s.size
    · have hq : ((j : Int) == (s.size : Int)) = true := by rw [beq_iff_eq]; omega
      have HE : Hid (bad7 s i = true) := hide (by
        have e := kk_eq (unhide HG) (by omega) (.inr (.inl (by omega)))
        unfold bad7; rw [e]; exact decide_eq_true (by omega))
      clear HG HQ7
      go_wp2
      go_step3
      have e9 := unhide HQ
      subst e9
      refine ⟨⟨nn, i, l, f, _, _, _, _, rfl, HD, hi2, HE⟩, ?_⟩
      simp [muD, intOf] <;> omega
    have hq : ((j : Int) == (s.size : Int)) = false := by rw [beq_eq_false_iff_ne]; omega
    by_cases h4 : j = i + 4
    · have hq4 : ((j : Int) == (i : Int) + 4) = true := by rw [beq_iff_eq]; omega
      have HE : Hid (bad7 s i = true) := hide (by
        have e := kk_eq (unhide HG) (by omega) (.inl (by omega))
        unfold bad7; rw [e]; exact decide_eq_true (by omega))
      clear HG HQ7
      go_wp2
      go_step3
      have e9 := unhide HQ
      subst e9
      refine ⟨⟨nn, i, l, f, _, _, _, _, rfl, HD, hi2, HE⟩, ?_⟩
      simp [muD, intOf] <;> omega
    have hq4 : ((j : Int) == (i : Int) + 4) = false := by rw [beq_eq_false_iff_ne]; omega
    have f1 : ∀ h, (s[j]'h).toNat = bt s j := fun h => bt_get s j h
    have hbt := bt_lt s j
    have hand := u8_and127 (bt s j) (by omega) (by omega)
    obtain ⟨k, hk⟩ : ∃ k, k = j - i := ⟨_, rfl⟩
    have hk4 : k = 0 ∨ k = 1 ∨ k = 2 ∨ k = 3 := by omega
    rcases hk4 with rfl | rfl | rfl | rfl
    · have hsub : (j : Int) - (i : Int) = 0 := by omega
      have HK : Hid (j - i = 0) := hide hk.symm
      have hq7 : q < 1 := by have := acc7_bd s i (j - i); rw [← unhide HQ7, ← hk] at this; exact this
      obtain ⟨q', hq'⟩ : ∃ q', q' = q + bt s j % 128 * 1 := ⟨_, rfl⟩
      have hor : bits .or .i64 (q : Int) ((bt s j : Int) % 128) = (q' : Int) := by rw [hq']; have := or7 0 q (bt s j % 128) 1 rfl (by omega) hq7 (by omega); simpa using this
      have hqb : q' < 268435456 := by omega
      have HQ8 : Hid (q' = acc7 s i (j - i + 1)) := hide (by
        show q' = acc7 s i (j - i) + bt s (i + (j - i)) % 128 * 128 ^ (j - i)
        rw [← unhide HQ7, ← hk, hq']
        have e : i + 0 = j := by omega
        rw [e])
      clear hk hq' HQ7 hq7
      by_cases ht : 128 ≤ bt s j
      · have ht' : (128 : Int) ≤ (bt s j : Int) := by omega
        have HG2 : Hid (Goon s i (j + 1 - i)) := hide (by
          have := (unhide HG).succ (by omega) (by rw [show i + (j - i) = j by omega]; exact ht)
          rw [show j + 1 - i = j - i + 1 by omega]; exact this)
        have HQ9 : Hid (q' = acc7 s i (j + 1 - i)) := hide (by rw [show j + 1 - i = j - i + 1 by omega]; exact unhide HQ8)
        clear HG HQ8 hbt
        go_wp2
        go_step3
        have e9 := unhide HQ
        subst e9
        refine ⟨⟨nn, i, j + 1, q', l, f, _, rfl, HD, hi2, by omega, by omega, by omega, HG2, HQ9⟩, ?_⟩
        simp [muD, intOf] <;> omega
      have ht' : (bt s j : Int) < 128 := by omega
      have HKK : Hid (kk s i = j - i) := hide (kk_eq (unhide HG) (by omega) (.inr (.inr (by rw [show i + (j - i) = j by omega]; omega))))
      have hge : (j : Int) ≤ (i : Int) := by omega
      have hbz : ((bt s j : Int) == 0) = true ∨ ((bt s j : Int) == 0) = false := by cases ((bt s j : Int) == 0) <;> simp
      rcases hbz with hb0' | hb0'
      all_goals
        have HE : Hid (bad7 s i = false) := hide (by
          have e := unhide HKK
          have e2 := unhide HK
          unfold bad7; rw [e, e2, decide_eq_false_iff_not, show i + 0 = j by omega]; omega)
        have HN7 : Hid (num7 s i = q') := hide (by unfold num7; rw [unhide HKK]; exact (unhide HQ8).symm)
        obtain ⟨hd, hnn, hown, hbl, hcl⟩ := unhide HD
        have hbd := dst_bd s nn
        rw [hd] at hbd
        have hf1 : 64 ≤ f := hbd.1
        have hf2 : f ≤ 1114112 := hbd.2.1
        have hl2 : l.length ≤ i := hbd.2.2.2
        have htl := textL_le l
        have hzb := zag_bd q'
        have hz1 := hzb.1
        have hz2 := hzb.2
        obtain ⟨pp, hpp⟩ : ∃ pp, f + zag (q' : Int) = pp := ⟨_, rfl⟩
        have HPP := hide hpp
        have HO := hide hown
        have HB := hide hbl
        have HC := hide hcl
        have HD0 := hide hd
        have hw := hbl.size
        clear hd hown hbl hcl hbd hzb HG HQ8
        go_wp2_with fail
        refine (stepOfI q' hqb _).mono ?_
        rintro e w2 ⟨rfl, rfl⟩
        by_cases hpt : isPt pp = true
        · have hpb := (isPt_iff pp).1 hpt
          have hp0 := hpb.1
          have hp1 := hpb.2.1
          have HS : Hid (dst s (nn + 1) = ⟨l ++ [pp], mid pp, j + 1⟩) := hide (by
            have e0 := unhide HD0
            have e := dst_succ (s := s) (n := nn) (by rw [e0]; exact hi2) (by rw [e0]; exact unhide HE) (by rw [e0]; show isPt (f + zag (num7 s i)) = true; rw [unhide HN7, unhide HPP]; exact hpt)
            rw [e, e0]
            show DS.mk (l ++ [f + zag (num7 s i)]) (mid (f + zag (num7 s i))) (i + kk s i + 1) = _
            rw [unhide HN7, unhide HPP, unhide HKK, show i + (j - i) + 1 = j + 1 by omega])
          clear hpb
          have HPT := hide hpt
          go_wp2_with fail
          refine (isPointI pp _).mono ?_
          rintro e w2 ⟨rfl, rfl⟩
          have hpt2 := unhide HPT
          go_wp2_with fail
          refine (append_all w.heap.size _ (textL l) pp (unhide HPT) _ (unhide HO) (by omega) (by omega)).mono ?_
          rintro e w3 ⟨v', rfl, ho3, hb3, hk3⟩
          have HD3 : Hid (DRow s w w3 (nn + 1) (j + 1) (l ++ [pp]) (mid pp) v') := hide ⟨unhide HS, by omega, by rw [textL_append1]; exact ho3, (unhide HB).trans hb3, hk3 _ _ (unhide HC) (notRow80 _ _ (by decide))⟩
          clear ho3 hb3 hk3
          go_wp2_with fail
          refine (stepsFromI pp (by omega) (by omega) _).mono ?_
          rintro e w4 ⟨rfl, rfl⟩
          go_wp2
          go_step3
          have e9 := unhide HQ
          subst e9
          refine ⟨⟨nn + 1, j + 1, l ++ [pp], mid pp, _, _, _, rfl, HD3⟩, ?_⟩
          simp [muD, intOf] <;> omega
        · have hpf : isPt pp = false := by simpa using hpt
          have HN : Hid (isPt (f + zag (num7 s i)) = false) := hide (by rw [unhide HN7, unhide HPP]; exact hpf)
          go_wp2_with fail
          refine (isPointI pp _).mono ?_
          rintro e w2 ⟨rfl, rfl⟩
          go_wp2
          go_step3
          have e9 := unhide HQ
          subst e9
          refine ⟨⟨nn, i, l, f, _, _, _, _, rfl, HD, hi2, HE, HN⟩, ?_⟩
          simp [muD, intOf] <;> omega
    · have hsub : (j : Int) - (i : Int) = 1 := by omega
      have HK : Hid (j - i = 1) := hide hk.symm
      have hq7 : q < 128 := by have := acc7_bd s i (j - i); rw [← unhide HQ7, ← hk] at this; exact this
      obtain ⟨q', hq'⟩ : ∃ q', q' = q + bt s j % 128 * 128 := ⟨_, rfl⟩
      have hor : bits .or .i64 (q : Int) ((bt s j : Int) % 128 * 128) = (q' : Int) := by rw [hq']; exact or7 1 q (bt s j % 128) 128 rfl (by omega) hq7 (by omega)
      have hqb : q' < 268435456 := by omega
      have HQ8 : Hid (q' = acc7 s i (j - i + 1)) := hide (by
        show q' = acc7 s i (j - i) + bt s (i + (j - i)) % 128 * 128 ^ (j - i)
        rw [← unhide HQ7, ← hk, hq']
        have e : i + 1 = j := by omega
        rw [e])
      clear hk hq' HQ7 hq7
      by_cases ht : 128 ≤ bt s j
      · have ht' : (128 : Int) ≤ (bt s j : Int) := by omega
        have HG2 : Hid (Goon s i (j + 1 - i)) := hide (by
          have := (unhide HG).succ (by omega) (by rw [show i + (j - i) = j by omega]; exact ht)
          rw [show j + 1 - i = j - i + 1 by omega]; exact this)
        have HQ9 : Hid (q' = acc7 s i (j + 1 - i)) := hide (by rw [show j + 1 - i = j - i + 1 by omega]; exact unhide HQ8)
        clear HG HQ8 hbt
        go_wp2
        go_step3
        have e9 := unhide HQ
        subst e9
        refine ⟨⟨nn, i, j + 1, q', l, f, _, rfl, HD, hi2, by omega, by omega, by omega, HG2, HQ9⟩, ?_⟩
        simp [muD, intOf] <;> omega
      have ht' : (bt s j : Int) < 128 := by omega
      have HKK : Hid (kk s i = j - i) := hide (kk_eq (unhide HG) (by omega) (.inr (.inr (by rw [show i + (j - i) = j by omega]; omega))))
      by_cases hb0 : bt s j = 0
      · have hb0' : ((bt s j : Int) == 0) = true := by rw [beq_iff_eq]; omega
        have hgt : (i : Int) < (j : Int) := by omega
        have HE : Hid (bad7 s i = true) := hide (by
          have e := unhide HKK
          have e2 := unhide HK
          unfold bad7; rw [e, e2]; refine decide_eq_true ?_; rw [show i + 1 = j by omega]; omega)
        clear HG HQ8 hb0
        go_wp2
        go_step3
        have e9 := unhide HQ
        subst e9
        refine ⟨⟨nn, i, l, f, _, _, _, _, rfl, HD, hi2, HE⟩, ?_⟩
        simp [muD, intOf] <;> omega
      have hb0' : ((bt s j : Int) == 0) = false := by rw [beq_eq_false_iff_ne]; omega
      have HE : Hid (bad7 s i = false) := hide (by
        have e := unhide HKK
        have e2 := unhide HK
        unfold bad7; rw [e, e2, decide_eq_false_iff_not, show i + 1 = j by omega]; omega)
      have HN7 : Hid (num7 s i = q') := hide (by unfold num7; rw [unhide HKK]; exact (unhide HQ8).symm)
      obtain ⟨hd, hnn, hown, hbl, hcl⟩ := unhide HD
      have hbd := dst_bd s nn
      rw [hd] at hbd
      have hf1 : 64 ≤ f := hbd.1
      have hf2 : f ≤ 1114112 := hbd.2.1
      have hl2 : l.length ≤ i := hbd.2.2.2
      have htl := textL_le l
      have hzb := zag_bd q'
      have hz1 := hzb.1
      have hz2 := hzb.2
      obtain ⟨pp, hpp⟩ : ∃ pp, f + zag (q' : Int) = pp := ⟨_, rfl⟩
      have HPP := hide hpp
      have HO := hide hown
      have HB := hide hbl
      have HC := hide hcl
      have HD0 := hide hd
      have hw := hbl.size
      clear hd hown hbl hcl hbd hzb HG HQ8
      go_wp2_with fail
      refine (stepOfI q' hqb _).mono ?_
      rintro e w2 ⟨rfl, rfl⟩
      by_cases hpt : isPt pp = true
      · have hpb := (isPt_iff pp).1 hpt
        have hp0 := hpb.1
        have hp1 := hpb.2.1
        have HS : Hid (dst s (nn + 1) = ⟨l ++ [pp], mid pp, j + 1⟩) := hide (by
          have e0 := unhide HD0
          have e := dst_succ (s := s) (n := nn) (by rw [e0]; exact hi2) (by rw [e0]; exact unhide HE) (by rw [e0]; show isPt (f + zag (num7 s i)) = true; rw [unhide HN7, unhide HPP]; exact hpt)
          rw [e, e0]
          show DS.mk (l ++ [f + zag (num7 s i)]) (mid (f + zag (num7 s i))) (i + kk s i + 1) = _
          rw [unhide HN7, unhide HPP, unhide HKK, show i + (j - i) + 1 = j + 1 by omega])
        clear hpb
        have HPT := hide hpt
        go_wp2_with fail
        refine (isPointI pp _).mono ?_
        rintro e w2 ⟨rfl, rfl⟩
        have hpt2 := unhide HPT
        go_wp2_with fail
        refine (append_all w.heap.size _ (textL l) pp (unhide HPT) _ (unhide HO) (by omega) (by omega)).mono ?_
        rintro e w3 ⟨v', rfl, ho3, hb3, hk3⟩
        have HD3 : Hid (DRow s w w3 (nn + 1) (j + 1) (l ++ [pp]) (mid pp) v') := hide ⟨unhide HS, by omega, by rw [textL_append1]; exact ho3, (unhide HB).trans hb3, hk3 _ _ (unhide HC) (notRow80 _ _ (by decide))⟩
        clear ho3 hb3 hk3
        go_wp2_with fail
        refine (stepsFromI pp (by omega) (by omega) _).mono ?_
        rintro e w4 ⟨rfl, rfl⟩
        go_wp2
        go_step3
        have e9 := unhide HQ
        subst e9
        refine ⟨⟨nn + 1, j + 1, l ++ [pp], mid pp, _, _, _, rfl, HD3⟩, ?_⟩
        simp [muD, intOf] <;> omega
      · have hpf : isPt pp = false := by simpa using hpt
        have HN : Hid (isPt (f + zag (num7 s i)) = false) := hide (by rw [unhide HN7, unhide HPP]; exact hpf)
        go_wp2_with fail
        refine (isPointI pp _).mono ?_
        rintro e w2 ⟨rfl, rfl⟩
        go_wp2
        go_step3
        have e9 := unhide HQ
        subst e9
        refine ⟨⟨nn, i, l, f, _, _, _, _, rfl, HD, hi2, HE, HN⟩, ?_⟩
        simp [muD, intOf] <;> omega
    · have hsub : (j : Int) - (i : Int) = 2 := by omega
      have HK : Hid (j - i = 2) := hide hk.symm
      have hq7 : q < 16384 := by have := acc7_bd s i (j - i); rw [← unhide HQ7, ← hk] at this; exact this
      obtain ⟨q', hq'⟩ : ∃ q', q' = q + bt s j % 128 * 16384 := ⟨_, rfl⟩
      have hor : bits .or .i64 (q : Int) ((bt s j : Int) % 128 * 16384) = (q' : Int) := by rw [hq']; exact or7 2 q (bt s j % 128) 16384 rfl (by omega) hq7 (by omega)
      have hqb : q' < 268435456 := by omega
      have HQ8 : Hid (q' = acc7 s i (j - i + 1)) := hide (by
        show q' = acc7 s i (j - i) + bt s (i + (j - i)) % 128 * 128 ^ (j - i)
        rw [← unhide HQ7, ← hk, hq']
        have e : i + 2 = j := by omega
        rw [e])
      clear hk hq' HQ7 hq7
      by_cases ht : 128 ≤ bt s j
      · have ht' : (128 : Int) ≤ (bt s j : Int) := by omega
        have HG2 : Hid (Goon s i (j + 1 - i)) := hide (by
          have := (unhide HG).succ (by omega) (by rw [show i + (j - i) = j by omega]; exact ht)
          rw [show j + 1 - i = j - i + 1 by omega]; exact this)
        have HQ9 : Hid (q' = acc7 s i (j + 1 - i)) := hide (by rw [show j + 1 - i = j - i + 1 by omega]; exact unhide HQ8)
        clear HG HQ8 hbt
        go_wp2
        go_step3
        have e9 := unhide HQ
        subst e9
        refine ⟨⟨nn, i, j + 1, q', l, f, _, rfl, HD, hi2, by omega, by omega, by omega, HG2, HQ9⟩, ?_⟩
        simp [muD, intOf] <;> omega
      have ht' : (bt s j : Int) < 128 := by omega
      have HKK : Hid (kk s i = j - i) := hide (kk_eq (unhide HG) (by omega) (.inr (.inr (by rw [show i + (j - i) = j by omega]; omega))))
      by_cases hb0 : bt s j = 0
      · have hb0' : ((bt s j : Int) == 0) = true := by rw [beq_iff_eq]; omega
        have hgt : (i : Int) < (j : Int) := by omega
        have HE : Hid (bad7 s i = true) := hide (by
          have e := unhide HKK
          have e2 := unhide HK
          unfold bad7; rw [e, e2]; refine decide_eq_true ?_; rw [show i + 2 = j by omega]; omega)
        clear HG HQ8 hb0
        go_wp2
        go_step3
        have e9 := unhide HQ
        subst e9
        refine ⟨⟨nn, i, l, f, _, _, _, _, rfl, HD, hi2, HE⟩, ?_⟩
        simp [muD, intOf] <;> omega
      have hb0' : ((bt s j : Int) == 0) = false := by rw [beq_eq_false_iff_ne]; omega
      have HE : Hid (bad7 s i = false) := hide (by
        have e := unhide HKK
        have e2 := unhide HK
        unfold bad7; rw [e, e2, decide_eq_false_iff_not, show i + 2 = j by omega]; omega)
      have HN7 : Hid (num7 s i = q') := hide (by unfold num7; rw [unhide HKK]; exact (unhide HQ8).symm)
      obtain ⟨hd, hnn, hown, hbl, hcl⟩ := unhide HD
      have hbd := dst_bd s nn
      rw [hd] at hbd
      have hf1 : 64 ≤ f := hbd.1
      have hf2 : f ≤ 1114112 := hbd.2.1
      have hl2 : l.length ≤ i := hbd.2.2.2
      have htl := textL_le l
      have hzb := zag_bd q'
      have hz1 := hzb.1
      have hz2 := hzb.2
      obtain ⟨pp, hpp⟩ : ∃ pp, f + zag (q' : Int) = pp := ⟨_, rfl⟩
      have HPP := hide hpp
      have HO := hide hown
      have HB := hide hbl
      have HC := hide hcl
      have HD0 := hide hd
      have hw := hbl.size
      clear hd hown hbl hcl hbd hzb HG HQ8
      go_wp2_with fail
      refine (stepOfI q' hqb _).mono ?_
      rintro e w2 ⟨rfl, rfl⟩
      by_cases hpt : isPt pp = true
      · have hpb := (isPt_iff pp).1 hpt
        have hp0 := hpb.1
        have hp1 := hpb.2.1
        have HS : Hid (dst s (nn + 1) = ⟨l ++ [pp], mid pp, j + 1⟩) := hide (by
          have e0 := unhide HD0
          have e := dst_succ (s := s) (n := nn) (by rw [e0]; exact hi2) (by rw [e0]; exact unhide HE) (by rw [e0]; show isPt (f + zag (num7 s i)) = true; rw [unhide HN7, unhide HPP]; exact hpt)
          rw [e, e0]
          show DS.mk (l ++ [f + zag (num7 s i)]) (mid (f + zag (num7 s i))) (i + kk s i + 1) = _
          rw [unhide HN7, unhide HPP, unhide HKK, show i + (j - i) + 1 = j + 1 by omega])
        clear hpb
        have HPT := hide hpt
        go_wp2_with fail
        refine (isPointI pp _).mono ?_
        rintro e w2 ⟨rfl, rfl⟩
        have hpt2 := unhide HPT
        go_wp2_with fail
        refine (append_all w.heap.size _ (textL l) pp (unhide HPT) _ (unhide HO) (by omega) (by omega)).mono ?_
        rintro e w3 ⟨v', rfl, ho3, hb3, hk3⟩
        have HD3 : Hid (DRow s w w3 (nn + 1) (j + 1) (l ++ [pp]) (mid pp) v') := hide ⟨unhide HS, by omega, by rw [textL_append1]; exact ho3, (unhide HB).trans hb3, hk3 _ _ (unhide HC) (notRow80 _ _ (by decide))⟩
        clear ho3 hb3 hk3
        go_wp2_with fail
        refine (stepsFromI pp (by omega) (by omega) _).mono ?_
        rintro e w4 ⟨rfl, rfl⟩
        go_wp2
        go_step3
        have e9 := unhide HQ
        subst e9
        refine ⟨⟨nn + 1, j + 1, l ++ [pp], mid pp, _, _, _, rfl, HD3⟩, ?_⟩
        simp [muD, intOf] <;> omega
      · have hpf : isPt pp = false := by simpa using hpt
        have HN : Hid (isPt (f + zag (num7 s i)) = false) := hide (by rw [unhide HN7, unhide HPP]; exact hpf)
        go_wp2_with fail
        refine (isPointI pp _).mono ?_
        rintro e w2 ⟨rfl, rfl⟩
        go_wp2
        go_step3
        have e9 := unhide HQ
        subst e9
        refine ⟨⟨nn, i, l, f, _, _, _, _, rfl, HD, hi2, HE, HN⟩, ?_⟩
        simp [muD, intOf] <;> omega
    · have hsub : (j : Int) - (i : Int) = 3 := by omega
      have HK : Hid (j - i = 3) := hide hk.symm
      have hq7 : q < 2097152 := by have := acc7_bd s i (j - i); rw [← unhide HQ7, ← hk] at this; exact this
      obtain ⟨q', hq'⟩ : ∃ q', q' = q + bt s j % 128 * 2097152 := ⟨_, rfl⟩
      have hor : bits .or .i64 (q : Int) ((bt s j : Int) % 128 * 2097152) = (q' : Int) := by rw [hq']; exact or7 3 q (bt s j % 128) 2097152 rfl (by omega) hq7 (by omega)
      have hqb : q' < 268435456 := by omega
      have HQ8 : Hid (q' = acc7 s i (j - i + 1)) := hide (by
        show q' = acc7 s i (j - i) + bt s (i + (j - i)) % 128 * 128 ^ (j - i)
        rw [← unhide HQ7, ← hk, hq']
        have e : i + 3 = j := by omega
        rw [e])
      clear hk hq' HQ7 hq7
      by_cases ht : 128 ≤ bt s j
      · have ht' : (128 : Int) ≤ (bt s j : Int) := by omega
        have HG2 : Hid (Goon s i (j + 1 - i)) := hide (by
          have := (unhide HG).succ (by omega) (by rw [show i + (j - i) = j by omega]; exact ht)
          rw [show j + 1 - i = j - i + 1 by omega]; exact this)
        have HQ9 : Hid (q' = acc7 s i (j + 1 - i)) := hide (by rw [show j + 1 - i = j - i + 1 by omega]; exact unhide HQ8)
        clear HG HQ8 hbt
        go_wp2
        go_step3
        have e9 := unhide HQ
        subst e9
        refine ⟨⟨nn, i, j + 1, q', l, f, _, rfl, HD, hi2, by omega, by omega, by omega, HG2, HQ9⟩, ?_⟩
        simp [muD, intOf] <;> omega
      have ht' : (bt s j : Int) < 128 := by omega
      have HKK : Hid (kk s i = j - i) := hide (kk_eq (unhide HG) (by omega) (.inr (.inr (by rw [show i + (j - i) = j by omega]; omega))))
      by_cases hb0 : bt s j = 0
      · have hb0' : ((bt s j : Int) == 0) = true := by rw [beq_iff_eq]; omega
        have hgt : (i : Int) < (j : Int) := by omega
        have HE : Hid (bad7 s i = true) := hide (by
          have e := unhide HKK
          have e2 := unhide HK
          unfold bad7; rw [e, e2]; refine decide_eq_true ?_; rw [show i + 3 = j by omega]; omega)
        clear HG HQ8 hb0
        go_wp2
        go_step3
        have e9 := unhide HQ
        subst e9
        refine ⟨⟨nn, i, l, f, _, _, _, _, rfl, HD, hi2, HE⟩, ?_⟩
        simp [muD, intOf] <;> omega
      have hb0' : ((bt s j : Int) == 0) = false := by rw [beq_eq_false_iff_ne]; omega
      have HE : Hid (bad7 s i = false) := hide (by
        have e := unhide HKK
        have e2 := unhide HK
        unfold bad7; rw [e, e2, decide_eq_false_iff_not, show i + 3 = j by omega]; omega)
      have HN7 : Hid (num7 s i = q') := hide (by unfold num7; rw [unhide HKK]; exact (unhide HQ8).symm)
      obtain ⟨hd, hnn, hown, hbl, hcl⟩ := unhide HD
      have hbd := dst_bd s nn
      rw [hd] at hbd
      have hf1 : 64 ≤ f := hbd.1
      have hf2 : f ≤ 1114112 := hbd.2.1
      have hl2 : l.length ≤ i := hbd.2.2.2
      have htl := textL_le l
      have hzb := zag_bd q'
      have hz1 := hzb.1
      have hz2 := hzb.2
      obtain ⟨pp, hpp⟩ : ∃ pp, f + zag (q' : Int) = pp := ⟨_, rfl⟩
      have HPP := hide hpp
      have HO := hide hown
      have HB := hide hbl
      have HC := hide hcl
      have HD0 := hide hd
      have hw := hbl.size
      clear hd hown hbl hcl hbd hzb HG HQ8
      go_wp2_with fail
      refine (stepOfI q' hqb _).mono ?_
      rintro e w2 ⟨rfl, rfl⟩
      by_cases hpt : isPt pp = true
      · have hpb := (isPt_iff pp).1 hpt
        have hp0 := hpb.1
        have hp1 := hpb.2.1
        have HS : Hid (dst s (nn + 1) = ⟨l ++ [pp], mid pp, j + 1⟩) := hide (by
          have e0 := unhide HD0
          have e := dst_succ (s := s) (n := nn) (by rw [e0]; exact hi2) (by rw [e0]; exact unhide HE) (by rw [e0]; show isPt (f + zag (num7 s i)) = true; rw [unhide HN7, unhide HPP]; exact hpt)
          rw [e, e0]
          show DS.mk (l ++ [f + zag (num7 s i)]) (mid (f + zag (num7 s i))) (i + kk s i + 1) = _
          rw [unhide HN7, unhide HPP, unhide HKK, show i + (j - i) + 1 = j + 1 by omega])
        clear hpb
        have HPT := hide hpt
        go_wp2_with fail
        refine (isPointI pp _).mono ?_
        rintro e w2 ⟨rfl, rfl⟩
        have hpt2 := unhide HPT
        go_wp2_with fail
        refine (append_all w.heap.size _ (textL l) pp (unhide HPT) _ (unhide HO) (by omega) (by omega)).mono ?_
        rintro e w3 ⟨v', rfl, ho3, hb3, hk3⟩
        have HD3 : Hid (DRow s w w3 (nn + 1) (j + 1) (l ++ [pp]) (mid pp) v') := hide ⟨unhide HS, by omega, by rw [textL_append1]; exact ho3, (unhide HB).trans hb3, hk3 _ _ (unhide HC) (notRow80 _ _ (by decide))⟩
        clear ho3 hb3 hk3
        go_wp2_with fail
        refine (stepsFromI pp (by omega) (by omega) _).mono ?_
        rintro e w4 ⟨rfl, rfl⟩
        go_wp2
        go_step3
        have e9 := unhide HQ
        subst e9
        refine ⟨⟨nn + 1, j + 1, l ++ [pp], mid pp, _, _, _, rfl, HD3⟩, ?_⟩
        simp [muD, intOf] <;> omega
      · have hpf : isPt pp = false := by simpa using hpt
        have HN : Hid (isPt (f + zag (num7 s i)) = false) := hide (by rw [unhide HN7, unhide HPP]; exact hpf)
        go_wp2_with fail
        refine (isPointI pp _).mono ?_
        rintro e w2 ⟨rfl, rfl⟩
        go_wp2
        go_step3
        have e9 := unhide HQ
        subst e9
        refine ⟨⟨nn, i, l, f, _, _, _, _, rfl, HD, hi2, HE, HN⟩, ?_⟩
        simp [muD, intOf] <;> omega
  case p3 =>
    intro a wr hJ
    obtain ⟨nn, i, l, f, v, x, n, p, HF, HD, hi2, HE, HN⟩ := hJ
    obtain ⟨u, rfl⟩ := HF.open
    clear HF
    go_hide hQ
    have HQ := hide hQ
    clear hQ
    obtain ⟨hd, hnn, hown, hbl, hcl⟩ := unhide HD
    have HA : Hid (dans s = (5, (i : Int), [])) := hide (by
      have e := dst_stop (s := s) (n := nn) (by omega) (by rw [hd]; intro h; exact absurd h.2.2 (by show ¬ isPt (f + zag (num7 s i)) = true; rw [unhide HN]; decide))
      unfold dans
      rw [e, hd, if_pos (show i < s.size from hi2), if_neg (show ¬ bad7 s i = true by rw [unhide HE]; decide)])
    obtain ⟨c0, c1, c2, z0, z1, z2⟩ := store3 hcl
    obtain ⟨p0, p1, p2⟩ := leg_cells hcl (.int .i64 5) (.int .i64 i) (.string { data := #[] })
    have HB3 := hide hbl
    clear hd hnn hown hbl hcl HD HE HN
    go_wp2
    have e9 := unhide HQ
    subst e9
    simp only [jumps]
    refine bodyPost_ret (by simp [results, Tryd.results14, go_sem, p0, p1, p2]; try rfl) rfl ?_
    exact ⟨by rw [unhide HA]; rfl, below_set3 (unhide HB3) _ _ _⟩
theorem iDecSteps_big (s : ByteArray) (w : World) (hs : 65536 < s.size) (hs2 : s.size ≤ 1048576) :
    Calls Tryd.prog 14 #[.string s] w fun e w' => e = .returned (legV (2, 0, [])) ∧ Below w.heap.size w w' := by
  go_enter Tryd.func14, Tryd.ntmps14
  go_wp2
  go_step3
  go_wp2
  rw [Exit.noGoto_ret]
  refine bodyPost_ret (by simp [results, Tryd.results14, go_sem]; try rfl) rfl ?_
  exact ⟨rfl, (Below.refl _ _).alloc (Nat.le_refl _) _⟩
theorem iDecS (s : ByteArray) (w : World) (hs2 : s.size ≤ 1048576) :
    Calls Tryd.prog 14 #[.string s] w fun e w' => e = .returned (legV (stepsD s)) ∧ Below w.heap.size w w' := by
  unfold stepsD
  by_cases h : 65536 < s.size
  · rw [if_pos h]; exact iDecSteps_big s w h hs2
  · rw [if_neg h]; exact iDecSteps s w (by omega)
end Go.Proofs.YtohpifhpfijmcaaDoor
