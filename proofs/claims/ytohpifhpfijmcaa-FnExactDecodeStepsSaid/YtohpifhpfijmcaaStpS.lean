/- DecodeSteps of the specification, and the law. -/
import Derived.Test.YtohpifhpfijmcaaStpI
import Derived.WalkMore
namespace Go.Proofs.Ytohpifhpfijmcaa
open Go.RowKit
theorem orv (k q x : Nat) (hk : k ≤ 3) (hq : q < 128 ^ k) (hx : x < 128) : bits .or .i64 (q : Int) (wrap64 ((x : Int) * 2 ^ (7 * k))) = ((q + x * 128 ^ k : Nat) : Int) := by
  have e : (2 : Int) ^ (7 * k) = ((128 ^ k : Nat) : Int) := by
    obtain rfl | rfl | rfl | rfl : k = 0 ∨ k = 1 ∨ k = 2 ∨ k = 3 := by omega
    all_goals rfl
  have hc2 : 128 ^ k ≤ 2097152 := by
    obtain rfl | rfl | rfl | rfl : k = 0 ∨ k = 1 ∨ k = 2 ∨ k = 3 := by omega
    all_goals decide
  have hm : x * 128 ^ k ≤ 127 * 2097152 := Nat.mul_le_mul (by omega) hc2
  have hw : wrap64 ((x : Int) * 2 ^ (7 * k)) = (x : Int) * ((128 ^ k : Nat) : Int) := by
    rw [e, ← Int.natCast_mul]
    unfold wrap64
    omega
  rw [hw]
  exact or7 k q x (128 ^ k) rfl hk hq hx
set_option maxHeartbeats 8000000 in
set_option maxRecDepth 100000 in
theorem sDecSteps (s : ByteArray) (w : World) (hs : s.size ≤ 65536) :
    Calls Try.prog 15 #[.string s] w fun e w' => e = .returned (legV (dans s)) ∧ Below w.heap.size w w' := by
  obtain ⟨i0, hi, hy0, hy1, hy2⟩ := info_parts info2
  obtain ⟨wR, hwR⟩ : ∃ wR, w.alloc (.cells #[.int .i64 0, .int .i64 0, .string (strOfNums [])] 37) = wR := ⟨_, rfl⟩
  have hRs : wR.heap.size = w.heap.size + 1 := by rw [← hwR]; simp
  have hb0 : Below w.heap.size w wR := by rw [← hwR]; exact (Below.refl _ _).alloc (Nat.le_refl _) _
  have hR0 : wR.heap[w.heap.size]? = some (.cells #[.int .i64 0, .int .i64 0, .string (strOfNums [])] 37) := by rw [← hwR]; exact heap_alloc_new _ _
  have HO0 : Hid ((wR.alloc (.cells #[] 2)).ownsRow (w.heap.size + 1) 2 1 (.slice (some ⟨w.heap.size + 1, 0, none⟩) 0 0) ([] : List Int).length (([] : List Int).map (Value.int .i64))) := hide (by rw [← hRs]; exact World.ownsRow_lit wR #[] 0 (Nat.le_refl _) (by unfold maxLen; omega) rfl)
  have HB0 : Hid (Below (w.heap.size + 1) wR (wR.alloc (.cells #[] 2))) := hide (by rw [← hRs]; exact (Below.refl _ _).alloc (Nat.le_refl _) _)
  have HBW := hide hb0
  have HR0 := hide hR0
  have HRS := hide hRs
  subst hwR
  clear hb0 hR0 hRs
  go_enter Try.func15, Try.ntmps15
  go_wp2
  go_loopw [3, 4, 5] (fun v f i wr => ∃ (nn i' : Nat) (l : List Int) (f' : Int), i = .int .i64 i' ∧ f = .int .i64 f' ∧ Hid (dst s nn = ⟨l, f', i'⟩ ∧ nn ≤ i' ∧ wr.ownsRow (w.heap.size + 1) 2 1 v l.length (l.map (Value.int .i64)) ∧ Below (w.heap.size + 1) (w.alloc (.cells #[.int .i64 0, .int .i64 0, .string (strOfNums [])] 37)) wr)) (fun _ _ i _ => s.size - (intOf i).toNat)
  case atStart => exact ⟨0, 0, [], 64, rfl, rfl, hide ⟨rfl, Nat.le_refl _, unhide HO0, unhide HB0⟩⟩
  case round =>
    obtain ⟨nn, i, l, f, rfl, rfl, HD⟩ := hrel
    clear HO0 HB0
    obtain ⟨hd, hnn, hown, hbl⟩ := unhide HD
    have hbd := dst_bd s nn
    rw [hd] at hbd
    have hf1 : 64 ≤ f := hbd.1
    have hf2 : f ≤ 1114112 := hbd.2.1
    have hi2 : i ≤ s.size := hbd.2.2.1
    have hl2 : l.length ≤ i := hbd.2.2.2
    have htl := textL_le l
    have hb0 := unhide HBW
    have hRs := unhide HRS
    have hcl : wr.heap[w.heap.size]? = some (.cells #[.int .i64 0, .int .i64 0, .string (strOfNums [])] 37) := (hbl.block _ (by omega)).trans (unhide HR0)
    have hws : w.heap.size + 1 ≤ wr.heap.size := by have := hbl.size; omega
    have HOW := hide hown
    have HBL := hide hbl
    have HCL := hide hcl
    have HD0 := hide hd
    clear hbd hd hown hbl hcl hb0 hRs
    by_cases hlt : i < s.size
    · go_wp2
      go_loop [6, 7] (fun n k => ∃ (q k' : Nat), n = .int .i64 q ∧ k = .int .i64 k' ∧ k' ≤ 4 ∧ i + k' ≤ s.size ∧ Hid (Goon s i k') ∧ Hid (q = acc7 s i k')) (fun _ k => 4 - (intOf k).toNat)
      case atStart => exact ⟨0, 0, rfl, rfl, by omega, by omega, hide (fun j hj => by omega), hide rfl⟩
      case round =>
        obtain ⟨q, k, rfl, rfl, hk4, hks, HG, HQ7⟩ := hrel
        have hqb7 : q < 128 ^ k := by rw [unhide HQ7]; exact acc7_bd s i k
        have f1 : ∀ h, (s[i + k]'h).toNat = bt s (i + k) := fun h => bt_get s (i + k) h
        have hbt := bt_lt s (i + k)
        by_cases hk : k = 4
        · have hk' : ((k : Int) == 4) = true := by rw [beq_iff_eq]; omega
          have hk'' : (4 : Int) ≤ (k : Int) := by omega
          by_cases he : i + k = s.size
          · have he' : (s.size : Int) ≤ (i : Int) + (k : Int) := by omega
            have hd := unhide HD0
            have hown := unhide HOW
            have hbl := unhide HBL
            have hcl := unhide HCL
            have hb0 := unhide HBW
            have HE : Hid (bad7 s i = true) := hide (by
              have e := kk_eq (unhide HG) (by omega) (.inl hk)
              unfold bad7; rw [e]; refine decide_eq_true ?_; omega)
            have HA : Hid (dans s = (3, (i : Int), [])) := hide (by
              have e := dst_stop (s := s) (n := nn) (by omega) (by rw [hd]; intro h; exact absurd h.2.1 (by show ¬ bad7 s i = false; rw [unhide HE]; decide))
              unfold dans
              rw [e, hd, if_pos (show i < s.size from hlt), if_pos (show bad7 s i = true from unhide HE)])
            obtain ⟨c0, c1, c2, z0, z1, z2⟩ := store3 hcl
            obtain ⟨p0, p1, p2⟩ := leg_cells hcl (.int .i64 3) (.int .i64 i) (.string { data := #[] })
            have HB3 := hide (hb0.trans (hbl.mono (Nat.le_succ _)))
            clear hk hd hown hbl hcl HE
            go_wp2
            try simp only [Exit.inBlock, Exit.then]
            refine bodyPost_ret (by simp [results, Try.results15, go_sem, p0, p1, p2]; try rfl) rfl ?_
            exact ⟨by rw [unhide HA]; rfl, below_set3 (unhide HB3) _ _ _⟩
          · have he' : (i : Int) + (k : Int) < (s.size : Int) := by omega
            by_cases hb4 : 128 ≤ bt s (i + k)
            all_goals
              first | have hb5 : (128 : Int) ≤ (bt s (i + k) : Int) := by omega | have hb5 : (bt s (i + k) : Int) < 128 := by omega
              have hd := unhide HD0
              have hown := unhide HOW
              have hbl := unhide HBL
              have hcl := unhide HCL
              have hb0 := unhide HBW
              have HE : Hid (bad7 s i = true) := hide (by
                have e := kk_eq (unhide HG) (by omega) (.inl hk)
                unfold bad7; rw [e]; refine decide_eq_true ?_; omega)
              have HA : Hid (dans s = (3, (i : Int), [])) := hide (by
                have e := dst_stop (s := s) (n := nn) (by omega) (by rw [hd]; intro h; exact absurd h.2.1 (by show ¬ bad7 s i = false; rw [unhide HE]; decide))
                unfold dans
                rw [e, hd, if_pos (show i < s.size from hlt), if_pos (show bad7 s i = true from unhide HE)])
              obtain ⟨c0, c1, c2, z0, z1, z2⟩ := store3 hcl
              obtain ⟨p0, p1, p2⟩ := leg_cells hcl (.int .i64 3) (.int .i64 i) (.string { data := #[] })
              have HB3 := hide (hb0.trans (hbl.mono (Nat.le_succ _)))
              clear hk hd hown hbl hcl HE
              go_wp2
              try simp only [Exit.inBlock, Exit.then]
              refine bodyPost_ret (by simp [results, Try.results15, go_sem, p0, p1, p2]; try rfl) rfl ?_
              exact ⟨by rw [unhide HA]; rfl, below_set3 (unhide HB3) _ _ _⟩
        have hk' : ((k : Int) == 4) = false := by rw [beq_eq_false_iff_ne]; omega
        have hk'' : (k : Int) < 4 := by omega
        by_cases he : s.size ≤ i + k
        · have he' : (s.size : Int) ≤ (i : Int) + (k : Int) := by omega
          have heq : ((i : Int) + (k : Int) == (s.size : Int)) = true := by rw [beq_iff_eq]; omega
          have hd := unhide HD0
          have hown := unhide HOW
          have hbl := unhide HBL
          have hcl := unhide HCL
          have hb0 := unhide HBW
          have HE : Hid (bad7 s i = true) := hide (by
            have e := kk_eq (unhide HG) (by omega) (.inr (.inl he))
            unfold bad7; rw [e]; refine decide_eq_true ?_; omega)
          have HA : Hid (dans s = (3, (i : Int), [])) := hide (by
            have e := dst_stop (s := s) (n := nn) (by omega) (by rw [hd]; intro h; exact absurd h.2.1 (by show ¬ bad7 s i = false; rw [unhide HE]; decide))
            unfold dans
            rw [e, hd, if_pos (show i < s.size from hlt), if_pos (show bad7 s i = true from unhide HE)])
          obtain ⟨c0, c1, c2, z0, z1, z2⟩ := store3 hcl
          obtain ⟨p0, p1, p2⟩ := leg_cells hcl (.int .i64 3) (.int .i64 i) (.string { data := #[] })
          have HB3 := hide (hb0.trans (hbl.mono (Nat.le_succ _)))
          clear hd hown hbl hcl HE
          go_wp2
          try simp only [Exit.inBlock, Exit.then]
          refine bodyPost_ret (by simp [results, Try.results15, go_sem, p0, p1, p2]; try rfl) rfl ?_
          exact ⟨by rw [unhide HA]; rfl, below_set3 (unhide HB3) _ _ _⟩
        have he' : (i : Int) + (k : Int) < (s.size : Int) := by omega
        have heq : ((i : Int) + (k : Int) == (s.size : Int)) = false := by rw [beq_eq_false_iff_ne]; omega
        obtain ⟨q', hq'⟩ : ∃ q', q' = q + bt s (i + k) % 128 * 128 ^ k := ⟨_, rfl⟩
        have HQ9 : Hid (q' = acc7 s i (k + 1)) := hide (by
          show q' = acc7 s i k + bt s (i + k) % 128 * 128 ^ k
          rw [← unhide HQ7, hq'])
        have hqb : q' < 268435456 := by
          have h1 := acc7_bd s i (k + 1)
          rw [← unhide HQ9] at h1
          have h2 : 128 ^ (k + 1) ≤ 128 ^ 4 := Nat.pow_le_pow_right (by omega) (by omega)
          exact Nat.lt_of_lt_of_le h1 h2
        by_cases ht : 128 ≤ bt s (i + k)
        · have ht' : (128 : Int) ≤ (bt s (i + k) : Int) := by omega
          have hor : bits .or .i64 (q : Int) (wrap64 (((bt s (i + k) : Int) - 128) * 2 ^ (7 * k))) = (q' : Int) := by
            rw [hq', show ((bt s (i + k) : Int) - 128) = ((bt s (i + k) % 128 : Nat) : Int) by omega]
            exact orv k q (bt s (i + k) % 128) (by omega) hqb7 (by omega)
          have HG2 : Hid (Goon s i (k + 1)) := hide ((unhide HG).succ (by omega) ht)
          clear hq' HG HQ7 hk he hqb7
          go_wp2
          go_round
          case rel => exact ⟨q', k + 1, rfl, by go_num, by omega, by omega, HG2, HQ9⟩
          case measure => simp [intOf] <;> omega
        have ht' : (bt s (i + k) : Int) < 128 := by omega
        have HKK : Hid (kk s i = k) := hide (kk_eq (unhide HG) (by omega) (.inr (.inr (Nat.lt_of_not_le ht))))
        by_cases hb0 : 0 < k ∧ bt s (i + k) = 0
        · have hb0' : ((bt s (i + k) : Int) == 0) = true := by rw [beq_iff_eq]; omega
          have hkp : (0 : Int) < (k : Int) := by omega
          have hbz := hb0
          have hd := unhide HD0
          have hown := unhide HOW
          have hbl := unhide HBL
          have hcl := unhide HCL
          have hb0 := unhide HBW
          have HE : Hid (bad7 s i = true) := hide (by
            have e := unhide HKK
            unfold bad7; rw [e]; refine decide_eq_true ?_; exact .inr (.inr hbz))
          have HA : Hid (dans s = (3, (i : Int), [])) := hide (by
            have e := dst_stop (s := s) (n := nn) (by omega) (by rw [hd]; intro h; exact absurd h.2.1 (by show ¬ bad7 s i = false; rw [unhide HE]; decide))
            unfold dans
            rw [e, hd, if_pos (show i < s.size from hlt), if_pos (show bad7 s i = true from unhide HE)])
          obtain ⟨c0, c1, c2, z0, z1, z2⟩ := store3 hcl
          obtain ⟨p0, p1, p2⟩ := leg_cells hcl (.int .i64 3) (.int .i64 i) (.string { data := #[] })
          have HB3 := hide (hb0.trans (hbl.mono (Nat.le_succ _)))
          clear hbz hd hown hbl hcl HE
          go_wp2
          try simp only [Exit.inBlock, Exit.then]
          refine bodyPost_ret (by simp [results, Try.results15, go_sem, p0, p1, p2]; try rfl) rfl ?_
          exact ⟨by rw [unhide HA]; rfl, below_set3 (unhide HB3) _ _ _⟩
        have hor : bits .or .i64 (q : Int) (wrap64 ((bt s (i + k) : Int) * 2 ^ (7 * k))) = (q' : Int) := by
          rw [hq', show ((bt s (i + k) : Int)) = ((bt s (i + k) % 128 : Nat) : Int) by omega]
          exact orv k q (bt s (i + k) % 128) (by omega) hqb7 (by omega)
        have HE : Hid (bad7 s i = false) := hide (by
          have e := unhide HKK
          unfold bad7; rw [e, decide_eq_false_iff_not]; omega)
        have HN7 : Hid (num7 s i = q') := hide (by unfold num7; rw [unhide HKK]; exact (unhide HQ9).symm)
        clear hq' HG HQ7 hqb7
        obtain ⟨z, hz⟩ : ∃ z, zag (q' : Int) = z := ⟨_, rfl⟩
        have hzb := zag_bd q'
        rw [hz] at hzb
        have hz1 := hzb.1
        have hz2 := hzb.2
        obtain ⟨pp, hpp⟩ : ∃ pp, f + z = pp := ⟨_, rfl⟩
        have HPP : Hid (f + zag (q' : Int) = pp) := hide (by rw [hz]; exact hpp)
        have HZ := hide hz
        clear hzb hz
        have e1 : (q' : Int).tmod 2 = (q' : Int) % 2 := Int.tmod_eq_emod_of_nonneg (by omega)
        have hkz : k = 0 ∨ (0 < k ∧ ¬ bt s (i + k) = 0) := by omega
        have HB0 := hide hb0
        clear hb0
        have h2 : (q' : Int) % 2 = 0 ∨ ¬ (q' : Int) % 2 = 0 := by omega
        rcases hkz with hk0 | ⟨hk0, hb1⟩ <;> rcases h2 with h2 | h2
        all_goals
          first
            | (have hpar : ((q' : Int) % 2 == 1) = false := by rw [beq_eq_false_iff_ne]; omega
               have e2 : (q' : Int).tdiv 2 = z := by rw [Int.tdiv_eq_ediv_of_nonneg (by omega), ← unhide HZ]; unfold zag; rw [if_pos h2])
            | (have hpar : ((q' : Int) % 2 == 1) = true := by rw [beq_iff_eq]; omega
               have e2 : (q' : Int).tdiv 2 = (q' : Int) / 2 := Int.tdiv_eq_ediv_of_nonneg (by omega)
               have e3 : (-((q' : Int) + 1)).tdiv 2 = z := by rw [Int.neg_tdiv, Int.tdiv_eq_ediv_of_nonneg (by omega), ← unhide HZ]; unfold zag; rw [if_neg h2])
          first
            | (have hkp : (k : Int) ≤ 0 := by omega)
            | (have hkp : (0 : Int) < (k : Int) := by omega
               have hb0' : ((bt s (i + k) : Int) == 0) = false := by rw [beq_eq_false_iff_ne]; omega)
          have HK0 := hide hk0
          clear h2 hk0
          try clear hb1
        all_goals
          go_wp2_with fail
          refine (isPointS pp _).mono ?_
          rintro e w2 ⟨rfl, rfl⟩
          by_cases hpt : isPt pp = true
          · have hpb := (isPt_iff pp).1 hpt
            have hp0 := hpb.1
            have hp1 := hpb.2.1
            have HS : Hid (dst s (nn + 1) = ⟨l ++ [pp], mid pp, i + k + 1⟩) := hide (by
              have e0 := unhide HD0
              have e := dst_succ (s := s) (n := nn) (by rw [e0]; exact hlt) (by rw [e0]; exact unhide HE) (by rw [e0]; show isPt (f + zag (num7 s i)) = true; rw [unhide HN7, unhide HPP]; exact hpt)
              rw [e, e0]
              show DS.mk (l ++ [f + zag (num7 s i)]) (mid (f + zag (num7 s i))) (i + kk s i + 1) = _
              rw [unhide HN7, unhide HPP, unhide HKK])
            clear hpb
            go_wp2_with (at_builtin; refine wpList_append_own _ rfl _ _ 26 rfl (w.heap.size + 1) 2 i0 (.int .i64 0) 1 8 Try.underlying26 hi hy0 hy1 hy2 rfl (by decide) _ _ _ rfl (owned_alloc (unhide HOW) _) ⟨w2.heap.size, 0, none⟩ 1 1 [.int .i64 pp] rfl rfl ?c1 ?c2 ?c3 ?c4 ?c5 ?_)
            case c1 => exact cell_one_new _ _ _
            case c2 => intro u hu; simp at hu; subst hu; rfl
            case c3 => unfold maxLen; omega
            case c4 => omega
            case c5 => simp; omega
            intro v' w3 hown' hgrow _
            have R := row_step (unhide HBL) (Below.refl _ _) hws (unhide HOW) hown' hgrow
            have HD3 : Hid (dst s (nn + 1) = ⟨l ++ [pp], mid pp, i + k + 1⟩ ∧ nn + 1 ≤ i + k + 1 ∧ w3.ownsRow (w.heap.size + 1) 2 1 v' (l ++ [pp]).length ((l ++ [pp]).map (Value.int .i64)) ∧ Below (w.heap.size + 1) (w.alloc (.cells #[.int .i64 0, .int .i64 0, .string (strOfNums [])] 37)) w3) := hide ⟨unhide HS, by omega, R.1, R.2⟩
            clear hown' hgrow R
            go_wp2_with fail
            refine (middleS pp (by omega) (by omega) _).mono ?_
            rintro e w4 ⟨rfl, rfl⟩
            go_wp2
            go_roundw
            case rel =>
              have RR : ∃ (nn i' : Nat) (l : List Int) (f' : Int), Value.int .i64 ((i : Int) + (k : Int) + 1) = .int .i64 i' ∧ Value.int .i64 (mid pp) = .int .i64 f' ∧ Hid (dst s nn = ⟨l, f', i'⟩ ∧ nn ≤ i' ∧ w3.ownsRow (w.heap.size + 1) 2 1 v' l.length (l.map (Value.int .i64)) ∧ Below (w.heap.size + 1) (w.alloc (.cells #[.int .i64 0, .int .i64 0, .string (strOfNums [])] 37)) w3) :=
                ⟨nn + 1, i + k + 1, l ++ [pp], mid pp, by go_num, rfl, HD3⟩
              first | exact RR | ((repeat apply Exists.intro); exact ⟨RR, rfl⟩)
            case measure => simp [intOf] <;> omega
          · have hpf : isPt pp = false := by simpa using hpt
            have HN : Hid (isPt (f + zag (num7 s i)) = false) := hide (by rw [unhide HN7, unhide HPP]; exact hpf)
            have hd := unhide HD0
            have hcl := unhide HCL
            have HA : Hid (dans s = (5, (i : Int), [])) := hide (by
              have e := dst_stop (s := s) (n := nn) (by omega) (by rw [hd]; intro h; exact absurd h.2.2 (by show ¬ isPt (f + zag (num7 s i)) = true; rw [unhide HN]; decide))
              unfold dans
              rw [e, hd, if_pos (show i < s.size from hlt), if_neg (show ¬ bad7 s i = true by rw [unhide HE]; decide)])
            obtain ⟨c0, c1, c2, z0, z1, z2⟩ := store3 hcl
            obtain ⟨p0, p1, p2⟩ := leg_cells hcl (.int .i64 5) (.int .i64 i) (.string { data := #[] })
            have HB3 := hide ((unhide HBW).trans ((unhide HBL).mono (Nat.le_succ _)))
            clear hd hcl
            go_wp2
            try simp only [Exit.inBlock, Exit.then]
            refine bodyPost_ret (by simp [results, Try.results15, go_sem, p0, p1, p2]; try rfl) rfl ?_
            exact ⟨by rw [unhide HA]; rfl, below_set3 (unhide HB3) _ _ _⟩
    · have hd := unhide HD0
      have HA : Hid (dans s = legA (textL l)) := hide (by
        have e := dst_stop (s := s) (n := nn) (by omega) (by rw [hd]; intro h; exact absurd h.1 hlt)
        unfold dans
        rw [e, hd, if_neg (show ¬ i < s.size from hlt)]
        rfl)
      clear hd
      go_wp2_with fail
      refine (l01Text _ l _ (IntsAt.owned (unhide HOW)) (by omega)).mono ?_
      rintro e w3 ⟨rfl, hb3⟩
      have hcl : w3.heap[w.heap.size]? = some (.cells #[.int .i64 0, .int .i64 0, .string (strOfNums [])] 37) := (hb3.block _ (by omega)).trans (unhide HCL)
      have HB3 := hide ((unhide HBW).trans (((unhide HBL).trans (hb3.mono hws)).mono (Nat.le_succ _)))
      have hsz := strOfNums_size (textL l)
      obtain ⟨c0, c1, c2, z0, z1, z2⟩ := store3 hcl
      by_cases hbig : 65536 < (textL l).length
      · have HA2 : Hid (dans s = (2, 0, [])) := hide (by rw [unhide HA]; unfold legA; rw [if_pos hbig])
        clear HA
        have HA := HA2
        obtain ⟨p0, p1, p2⟩ := leg_cells hcl (.int .i64 2) (.int .i64 0) (.string { data := #[] })
        clear hb3 hcl
        go_wp2
        try simp only [Exit.inBlock, Exit.then]
        refine bodyPost_ret (by simp [results, Try.results15, go_sem, p0, p1, p2]; try rfl) rfl ?_
        exact ⟨by rw [unhide HA]; rfl, below_set3 (unhide HB3) _ _ _⟩
      · have HA2 : Hid (dans s = (0, 0, textL l)) := hide (by rw [unhide HA]; unfold legA; rw [if_neg hbig])
        clear HA
        have HA := HA2
        obtain ⟨p0, p1, p2⟩ := leg_cells hcl (.int .i64 0) (.int .i64 0) (.string (strOfNums (textL l)))
        clear hb3 hcl
        go_wp2
        try simp only [Exit.inBlock, Exit.then]
        refine bodyPost_ret (by simp [results, Try.results15, go_sem, p0, p1, p2]; try rfl) rfl ?_
        exact ⟨by rw [unhide HA]; rfl, below_set3 (unhide HB3) _ _ _⟩
end Go.Proofs.Ytohpifhpfijmcaa
