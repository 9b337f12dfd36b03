/- EncodeShift of the specification. -/
import Derived.Test.YtohpifhpfijmcaaDoorShfJ
import Derived.WalkMore
namespace Go.Proofs.YtohpifhpfijmcaaDoor
open Go.RowKit
/-- What holds in every round. -/
def SRow (l : List Int) (w1 wr : World) (k : Nat) (out : List Int) (st : Int) (v : Value) : Prop :=
  shAns l = shGo out st k (l.drop k) ∧ out.length ≤ 4 * k ∧ wr.ownsRow w1.heap.size 5 1 v out.length (out.map (Value.int .u8)) ∧ Below w1.heap.size w1 wr
theorem drop_at (l : List Int) (k : Nat) (h : k < l.length) : l.drop k = nth l k :: l.drop (k + 1) := by
  have e : nth l k = l[k] := by simp [nth, List.getD, h]
  rw [e]; exact List.drop_eq_getElem_cons h
theorem own_slice {w : World} {B : Nat} {v : Value} {L : List Int} (h : w.ownsRow B 5 1 v L.length (L.map (Value.int .u8))) : ∃ a c, v = .slice a L.length c := by
  rcases h.2 with ⟨hv, hn⟩ | ⟨g, cap, cur, hv, _⟩
  · exact ⟨none, 0, by rw [hv, hn]⟩
  · exact ⟨_, _, hv⟩
set_option maxHeartbeats 8000000 in
set_option maxRecDepth 100000 in
theorem sEncShift (s : ByteArray) (w : World) (hs : s.size ≤ 65536) :
    Calls Tryd.prog 9 #[.string s] w fun e w' => e = .returned (legV (shAns (pts s))) ∧ Below w.heap.size w w' := by
  obtain ⟨i0, hi, hz0, hz1, hz2⟩ := info_parts info5
  have hle := pts_le s
  have HPT := hide (pts_pt s)
  go_enter Tryd.func9, Tryd.ntmps9
  go_wp2_with fail
  refine (l01Points s _ hs).mono ?_
  rintro e w1 ⟨v, rfl, ho, hb1⟩
  obtain ⟨a, cap, rfl, ha⟩ := IntsAt.owned ho
  have HA := hide ha
  have hw1 : w.heap.size + 1 ≤ w1.heap.size := by have := hb1.size; simpa using this
  have HB1 : Hid (Below w.heap.size w w1) := hide (((Below.refl w.heap.size w).alloc (Nat.le_refl _) (.cells #[.int .i64 0, .int .i64 0, .string (strOfNums [])] 25)).trans (hb1.mono (by simp)))
  have HC1 : Hid (w1.heap[w.heap.size]? = some (.cells #[.int .i64 0, .int .i64 0, .string (strOfNums [])] 25)) := hide ((hb1.block _ (by simp)).trans (heap_alloc_new _ _))
  clear ho ha hb1
  obtain ⟨l, hlq⟩ : ∃ l, pts s = l := ⟨_, rfl⟩
  rw [hlq] at HPT HA hle
  have HL := hide hlq
  rw [hlq]
  clear hlq
  have hll : l.length ≤ 65536 := by omega
  have HS0 : Hid (SRow l w1 (w1.alloc (.cells #[] 5)) 0 [] 0 (.slice (some ⟨w1.heap.size, 0, none⟩) 0 0)) := hide ⟨rfl, by simp, World.ownsRow_lit w1 #[] 0 (Nat.le_refl _) (by unfold maxLen; omega) rfl, (Below.refl _ _).alloc (Nat.le_refl _) _⟩
  go_wp2
  go_loopw [4, 5, 6] (fun v x i wr => ∃ (k : Nat) (out : List Int) (st : Int), x = .int .i64 st ∧ i = .int .i64 k ∧ 0 ≤ st ∧ st ≤ 4 ∧ k ≤ l.length ∧ Hid (SRow l w1 wr k out st v)) (fun _ _ i _ => l.length - (intOf i).toNat)
  case atStart => exact ⟨0, [], 0, rfl, rfl, by omega, by omega, Nat.zero_le _, HS0⟩
  case round =>
    obtain ⟨k, out, st, rfl, rfl, hst0, hst4, hk, HS⟩ := hrel
    clear HS0
    obtain ⟨hA, hO4, hO, hB⟩ := unhide HS
    have hBs := hB.size
    by_cases hlt : k < l.length
    · rcases unhide HA with ha | ⟨b, off, rfl, hbs, hc⟩
      · rw [ha] at hlt; simp at hlt
      have hpb := nth_pt (unhide HPT) k hlt
      rw [drop_at l k hlt] at hA
      obtain ⟨p, hp⟩ : ∃ p, nth l k = p := ⟨_, rfl⟩
      have HNP := hide hp
      rw [hp] at hA hpb
      have hp0 := hpb.1
      have hp1 := hpb.2
      have c1 : wr.cell? ⟨b, off + k, none⟩ = some (.int .i64 p) := by rw [← hp]; exact (hB.cell (p := ⟨b, off + k, none⟩) hbs).trans (hc k hlt)
      have HC := hide hc
      have HAN := hide hA
      have HO := hide hO
      have HB := hide hB
      clear hp hpb hc hA hO hB HS
      by_cases hok : stF st p = st
      · -- written in the state as it is
        have hn : stF st p ≠ -1 := by omega
        have HLB0 := layP_byte hp0 hn
        have HA20 := (unhide HAN).trans (shGo_one hn)
        rw [hok] at HLB0 HA20
        have els : layS st st = [] := by unfold layS; rw [if_pos rfl]
        rw [els, List.append_nil] at HA20
        have HOK := hide hok
        obtain ⟨nx, hnx⟩ : ∃ nx, nx = st := ⟨_, rfl⟩
        subst hnx
        have HLB := hide HLB0
        have HA2 : Hid (shAns l = shGo (out ++ layP nx p) (behind nx p) (k + 1) (l.drop (k + 1))) := hide HA20
        clear hok HLB0 HA20 els hn HAN
        go_wp2_with fail
        refine (in_yes nx p hst0 hp0 (unhide HOK) _).mono ?_
        rintro e w2 ⟨rfl, hb2⟩
        have HO1 := hide (ownsRow_below (unhide HO) hb2)
        have HB4 := hide ((unhide HB).trans (hb2.mono hBs))
        clear hb2 HO HB c1
        go_wp2
        go_loopw [4, 5, 7, 8, 9] (fun v x y z q wq => x = .int .i64 nx ∧ y = .string (strOfNums (layP nx p)) ∧ z = .bool true ∧ q = .int .i64 0 ∧ Hid (wq.ownsRow w1.heap.size 5 1 v out.length (out.map (Value.int .u8))) ∧ Hid (Below w1.heap.size w1 wq)) (fun _ _ _ _ _ _ => 0)
        case atStart => exact ⟨rfl, rfl, rfl, rfl, HO1, HB4⟩
        case round =>
          obtain ⟨rfl, rfl, rfl, rfl, HO2, HB2⟩ := hrel
          clear HO1 HB4
          obtain ⟨T, hT⟩ : ∃ T, T = out := ⟨_, rfl⟩
          subst hT
          have hl4 : T.length ≤ 300000 := by omega
          have hsz := strOfNums_size (layP nx p)
          have lp1 := layP_len nx p
          have hbse := (unhide HB2).size
          go_wp2_with (at_builtin; refine Lib.wpList_append_own_string _ rfl _ _ 22 9 rfl w1.heap.size 5 i0 Tryd.underlying22 Tryd.underlying9 hi hz0 hz1 hz2 _ _ _ rfl (unhide HO2) _ rfl ?d1 ?d2 hbse ?_)
          case d1 => unfold maxLen; omega
          case d2 => omega
          intro v' w3 hown' hgrow _
          have HO3 : Hid (w3.ownsRow w1.heap.size 5 1 v' (T ++ layP nx p).length ((T ++ layP nx p).map (Value.int .u8))) := hide (by
            rw [strCells_nums _ (unhide HLB)] at hown'
            try rw [strOfNums_size] at hown'
            rw [List.length_append, List.map_append]; exact hown')
          have HB3 := hide ((unhide HB2).grown hgrow hbse (fun j hj => ((unhide HO2).lt j hj).1))
          have c2 := ((unhide HB3).cell (p := ⟨b, off + k, none⟩) hbs).trans ((unhide HC) k hlt)
          rw [unhide HNP] at c2
          clear hown' hgrow HO2 HB2
          by_cases h10 : p = 10
          · have hq10 : (p == 10) = true := by rw [beq_iff_eq]; exact h10
            have eb : behind nx p = 0 := by unfold behind; rw [if_pos h10]
            have HS3 : Hid (SRow l w1 w3 (k + 1) (T ++ layP nx p) 0 v') := hide ⟨by rw [unhide HA2, eb], by rw [List.length_append]; omega, unhide HO3, unhide HB3⟩
            clear h10 eb
            go_wp2
            go_roundw
            case rel =>
              have RR : ∃ (k' : Nat) (out : List Int) (st : Int), Value.int .i64 0 = .int .i64 st ∧ Value.int .i64 ((k : Int) + 1) = .int .i64 k' ∧ 0 ≤ st ∧ st ≤ 4 ∧ k' ≤ l.length ∧ Hid (SRow l w1 w3 k' out st v') :=
                ⟨k + 1, _, 0, rfl, by go_num, by omega, by omega, by omega, HS3⟩
              first | exact RR | ((repeat apply Exists.intro); exact ⟨RR, rfl⟩)
            case measure => simp [intOf] <;> omega
          · have hq10 : (p == 10) = false := by rw [beq_eq_false_iff_ne]; exact h10
            have eb : behind nx p = nx := by unfold behind; rw [if_neg h10]
            have HS3 : Hid (SRow l w1 w3 (k + 1) (T ++ layP nx p) nx v') := hide ⟨by rw [unhide HA2, eb], by rw [List.length_append]; omega, unhide HO3, unhide HB3⟩
            clear h10 eb
            go_wp2
            go_roundw
            case rel =>
              have RR : ∃ (k' : Nat) (out : List Int) (st : Int), Value.int .i64 nx = .int .i64 st ∧ Value.int .i64 ((k : Int) + 1) = .int .i64 k' ∧ 0 ≤ st ∧ st ≤ 4 ∧ k' ≤ l.length ∧ Hid (SRow l w1 w3 k' out st v') :=
                ⟨k + 1, _, nx, rfl, by go_num, by omega, by omega, by omega, HS3⟩
              first | exact RR | ((repeat apply Exists.intro); exact ⟨RR, rfl⟩)
            case measure => simp [intOf] <;> omega
      · have hth := stF_there hst0 hst4 hp0 hok
        have hsm : ∀ j, stF j p = stF st p := fun j => stF_same j hth.1
        obtain ⟨nx, hnx⟩ : ∃ nx, stF st p = nx := ⟨_, rfl⟩
        have hnb : nx ≠ -1 → 0 ≤ nx ∧ nx ≤ 4 := by rw [← hnx]; exact stF_bd hst0 hst4 hp0
        rw [hnx] at hsm
        have HSM := hide hsm
        have HOK := hide hok
        have HNX := hide hnx
        have HNB := hide hnb
        clear hok hth hsm hnx hnb
        go_wp2_with fail
        refine (in_no st p hst0 hst4 hp0 (unhide HOK) _).mono ?_
        rintro e w2 ⟨rfl, hb2⟩
        have HO1 := hide (ownsRow_below (unhide HO) hb2)
        have HB4 := hide ((unhide HB).trans (hb2.mono hBs))
        clear hb2 HO HB c1
        go_wp2
        go_loopw [4, 5, 7, 8, 9] (fun v x y z q wq => (∃ j : Nat, j ≤ 5 ∧ q = .int .i64 j ∧ x = .int .i64 st ∧ z = .bool false ∧ (nx = -1 ∨ (j : Int) ≤ nx) ∧ Hid (wq.ownsRow w1.heap.size 5 1 v out.length (out.map (Value.int .u8))) ∧ Hid (Below w1.heap.size w1 wq))
          ∨ (nx ≠ -1 ∧ x = .int .i64 nx ∧ y = .string (strOfNums (layP nx p)) ∧ z = .bool true ∧ q = .int .i64 (nx + 1) ∧ Hid (wq.ownsRow w1.heap.size 5 1 v (out ++ [27, letter nx]).length ((out ++ [27, letter nx]).map (Value.int .u8))) ∧ Hid (Below w1.heap.size w1 wq))) (fun _ _ _ _ q _ => 6 - (intOf q).toNat)
        case atStart => exact .inl ⟨0, by omega, rfl, rfl, rfl, by have := unhide HNB; omega, HO1, HB4⟩
        case round =>
          clear HO1 HB4
          rcases hrel with ⟨j, hj, rfl, rfl, rfl, hjn, HO2, HB2⟩ | ⟨hn1, rfl, rfl, rfl, rfl, HO2, HB2⟩
          · have hbse := (unhide HB2).size
            by_cases hj5 : j = 5
            · -- no state writes it
              have hn1 : nx = -1 := by have := unhide HNB; omega
              have HA9 : Hid (shAns l = (5, (k : Int), [])) := hide ((unhide HAN).trans (shGo_not ((unhide HNX).trans hn1)))
              have hcl := ((unhide HB2).block w.heap.size (by omega)).trans (unhide HC1)
              obtain ⟨c0, c1, c2, z0, z1, z2⟩ := store3 hcl
              obtain ⟨p0, p1, p2⟩ := leg_cells hcl (.int .i64 5) (.int .i64 k) (.string { data := #[] })
              have HBW := hide ((unhide HB1).trans ((unhide HB2).mono (by omega)))
              have hj4 : (4 : Int) < (j : Int) := by omega
              clear hcl hj5 hn1 hjn
              go_wp2
              try simp only [Exit.inBlock, Exit.then]
              refine bodyPost_ret (by simp [results, Tryd.results9, go_sem, p0, p1, p2]; try rfl) rfl ?_
              exact ⟨by rw [unhide HL, unhide HA9]; rfl, below_set3 (unhide HBW) _ _ _⟩
            · have hj4 : (j : Int) ≤ 4 := by omega
              have c1 := ((unhide HB2).cell (p := ⟨b, off + k, none⟩) hbs).trans ((unhide HC) k hlt)
              rw [unhide HNP] at c1
              by_cases hjx : (j : Int) = nx
              · have HJX := hide hjx
                clear hjx hjn hj5
                go_wp2_with fail
                refine (in_yes (j : Int) p (by omega) hp0 (by rw [unhide HSM]; exact (unhide HJX).symm) _).mono ?_
                rintro e w5 ⟨rfl, hb5⟩
                have HO5 := hide (ownsRow_below (unhide HO2) hb5)
                have HB5 := hide ((unhide HB2).trans (hb5.mono hbse))
                have hw5 := (unhide HB5).size
                clear hb5 HO2 HB2 c1
                go_wp2_with fail
                refine (letterS (j : Int) (by omega) (by omega) _).mono ?_
                rintro e w6 ⟨rfl, rfl⟩
                go_wp2_with (at_builtin; refine wpList_append_own _ rfl _ _ 22 rfl w1.heap.size 5 i0 (.int .u8 0) 1 1 Tryd.underlying22 hi hz0 hz1 hz2 rfl (by decide) _ _ _ rfl (owned_alloc (unhide HO5) _) ⟨w5.heap.size, 0, none⟩ 2 2 [.int .u8 27, .int .u8 (letter j)] rfl rfl ?c0 ?c2 ?c3 ?c4 ?c5 ?_)
                case c0 => exact two_new _ _ _ _
                case c2 => intro u hu; simp at hu; rcases hu with rfl | rfl <;> rfl
                case c3 => unfold maxLen; omega
                case c4 => omega
                case c5 => simp; omega
                intro v' w7 hown' hgrow _
                have RL := lay_two hw5 (unhide HO5) hown' hgrow
                have HO7 : Hid (w7.ownsRow w1.heap.size 5 1 v' (out ++ [27, letter j]).length ((out ++ [27, letter j]).map (Value.int .u8))) := hide RL.1
                have HB7 := hide ((unhide HB5).trans RL.2.1)
                clear hown' hgrow RL HO5 HB5
                go_wp2
                go_roundw
                case rel =>
                  have ejx := unhide HJX
                  have RR : (∃ j' : Nat, j' ≤ 5 ∧ Value.int .i64 ((j : Int) + 1) = .int .i64 j' ∧ Value.int .i64 (j : Int) = .int .i64 st ∧ Value.bool true = .bool false ∧ (nx = -1 ∨ (j' : Int) ≤ nx) ∧ Hid (w7.ownsRow w1.heap.size 5 1 v' out.length (out.map (Value.int .u8))) ∧ Hid (Below w1.heap.size w1 w7))
                    ∨ (nx ≠ -1 ∧ Value.int .i64 (j : Int) = .int .i64 nx ∧ Value.string (strOfNums (layP (j : Int) p)) = .string (strOfNums (layP nx p)) ∧ Value.bool true = .bool true ∧ Value.int .i64 ((j : Int) + 1) = .int .i64 (nx + 1) ∧ Hid (w7.ownsRow w1.heap.size 5 1 v' (out ++ [27, letter nx]).length ((out ++ [27, letter nx]).map (Value.int .u8))) ∧ Hid (Below w1.heap.size w1 w7)) :=
                    .inr ⟨by omega, by rw [ejx], by rw [ejx], rfl, by rw [ejx], by rw [ejx] at HO7; exact HO7, HB7⟩
                  first | exact RR | ((repeat apply Exists.intro); exact ⟨RR, rfl⟩)
                case measure => simp [intOf] <;> omega
              · have HJX := hide hjx
                have HJN := hide hjn
                clear hjx hjn hj5
                go_wp2_with fail
                refine (in_no (j : Int) p (by omega) (by omega) hp0 (by rw [unhide HSM]; exact fun e => (unhide HJX) e.symm) _).mono ?_
                rintro e w5 ⟨rfl, hb5⟩
                have HO5 := hide (ownsRow_below (unhide HO2) hb5)
                have HB5 := hide ((unhide HB2).trans (hb5.mono hbse))
                clear hb5 HO2 HB2 c1
                go_wp2
                go_roundw
                case rel =>
                  have j1 := unhide HJX
                  have j2 := unhide HJN
                  have RR : ∀ (v y : Value), Hid (w5.ownsRow w1.heap.size 5 1 v out.length (out.map (Value.int .u8))) → (∃ j' : Nat, j' ≤ 5 ∧ Value.int .i64 ((j : Int) + 1) = .int .i64 j' ∧ Value.int .i64 st = .int .i64 st ∧ Value.bool false = .bool false ∧ (nx = -1 ∨ (j' : Int) ≤ nx) ∧ Hid (w5.ownsRow w1.heap.size 5 1 v out.length (out.map (Value.int .u8))) ∧ Hid (Below w1.heap.size w1 w5))
                    ∨ (nx ≠ -1 ∧ Value.int .i64 st = .int .i64 nx ∧ y = .string (strOfNums (layP nx p)) ∧ Value.bool false = .bool true ∧ Value.int .i64 ((j : Int) + 1) = .int .i64 (nx + 1) ∧ Hid (w5.ownsRow w1.heap.size 5 1 v (out ++ [27, letter nx]).length ((out ++ [27, letter nx]).map (Value.int .u8))) ∧ Hid (Below w1.heap.size w1 w5)) :=
                    fun v y h => .inl ⟨j + 1, by omega, by go_num, rfl, rfl, by omega, h, HB5⟩
                  first | exact RR _ _ HO5 | ((repeat apply Exists.intro); exact ⟨RR _ _ HO5, rfl⟩)
                case measure => simp [intOf] <;> omega
          · have hnb := (unhide HNB) hn1
            have hx0 := hnb.1
            have hx4 := hnb.2
            have hns : stF st p ≠ -1 := by rw [unhide HNX]; exact hn1
            have HLB0 := layP_byte hp0 hns
            have HA20 := (unhide HAN).trans (shGo_one hns)
            rw [unhide HNX] at HLB0 HA20
            have els : layS st nx = [27, letter nx] := by unfold layS; rw [if_neg (fun e => (unhide HOK) ((unhide HNX).trans e.symm))]
            rw [els] at HA20
            have HLB := hide HLB0
            have HA2 := hide HA20
            have hTl : (out ++ [27, letter nx]).length ≤ 4 * k + 2 := by simp; omega
            obtain ⟨T, hT⟩ : ∃ T, T = out ++ [27, letter nx] := ⟨_, rfl⟩
            rw [← hT] at HO2 HA2 hTl
            have hjx : (0 : Int) ≤ nx + 1 := by omega
            clear HLB0 HA20 els hns hnb hT HAN
            have hk4 : nx + 1 ≤ 4 ∨ 4 < nx + 1 := by omega
            rcases hk4 with hk4 | hk4
            all_goals
              have hl4 : T.length ≤ 300000 := by omega
              have hsz := strOfNums_size (layP nx p)
              have lp1 := layP_len nx p
              have hbse := (unhide HB2).size
              go_wp2_with (at_builtin; refine Lib.wpList_append_own_string _ rfl _ _ 22 9 rfl w1.heap.size 5 i0 Tryd.underlying22 Tryd.underlying9 hi hz0 hz1 hz2 _ _ _ rfl (unhide HO2) _ rfl ?d1 ?d2 hbse ?_)
              case d1 => unfold maxLen; omega
              case d2 => omega
              intro v' w3 hown' hgrow _
              have HO3 : Hid (w3.ownsRow w1.heap.size 5 1 v' (T ++ layP nx p).length ((T ++ layP nx p).map (Value.int .u8))) := hide (by
                rw [strCells_nums _ (unhide HLB)] at hown'
                try rw [strOfNums_size] at hown'
                rw [List.length_append, List.map_append]; exact hown')
              have HB3 := hide ((unhide HB2).grown hgrow hbse (fun j hj => ((unhide HO2).lt j hj).1))
              have c2 := ((unhide HB3).cell (p := ⟨b, off + k, none⟩) hbs).trans ((unhide HC) k hlt)
              rw [unhide HNP] at c2
              clear hown' hgrow HO2 HB2
              by_cases h10 : p = 10
              · have hq10 : (p == 10) = true := by rw [beq_iff_eq]; exact h10
                have eb : behind nx p = 0 := by unfold behind; rw [if_pos h10]
                have HS3 : Hid (SRow l w1 w3 (k + 1) (T ++ layP nx p) 0 v') := hide ⟨by rw [unhide HA2, eb], by rw [List.length_append]; omega, unhide HO3, unhide HB3⟩
                clear h10 eb
                go_wp2
                go_roundw
                case rel =>
                  have RR : ∃ (k' : Nat) (out : List Int) (st : Int), Value.int .i64 0 = .int .i64 st ∧ Value.int .i64 ((k : Int) + 1) = .int .i64 k' ∧ 0 ≤ st ∧ st ≤ 4 ∧ k' ≤ l.length ∧ Hid (SRow l w1 w3 k' out st v') :=
                    ⟨k + 1, _, 0, rfl, by go_num, by omega, by omega, by omega, HS3⟩
                  first | exact RR | ((repeat apply Exists.intro); exact ⟨RR, rfl⟩)
                case measure => simp [intOf] <;> omega
              · have hq10 : (p == 10) = false := by rw [beq_eq_false_iff_ne]; exact h10
                have eb : behind nx p = nx := by unfold behind; rw [if_neg h10]
                have HS3 : Hid (SRow l w1 w3 (k + 1) (T ++ layP nx p) nx v') := hide ⟨by rw [unhide HA2, eb], by rw [List.length_append]; omega, unhide HO3, unhide HB3⟩
                clear h10 eb
                go_wp2
                go_roundw
                case rel =>
                  have RR : ∃ (k' : Nat) (out : List Int) (st : Int), Value.int .i64 nx = .int .i64 st ∧ Value.int .i64 ((k : Int) + 1) = .int .i64 k' ∧ 0 ≤ st ∧ st ≤ 4 ∧ k' ≤ l.length ∧ Hid (SRow l w1 w3 k' out st v') :=
                    ⟨k + 1, _, nx, rfl, by go_num, by omega, by omega, by omega, HS3⟩
                  first | exact RR | ((repeat apply Exists.intro); exact ⟨RR, rfl⟩)
                case measure => simp [intOf] <;> omega
    · obtain rfl : k = l.length := by omega
      have hd : l.drop l.length = [] := List.drop_length
      rw [hd] at hA
      have HA3 : Hid (shAns l = legA (out ++ layS st 0)) := hide hA
      have hcl := (hB.block w.heap.size (by omega)).trans (unhide HC1)
      have HO := hide hO
      have HB := hide hB
      have hs0 : st = 0 ∨ ¬ st = 0 := by omega
      clear hA hd HS hO hB
      rcases hs0 with rfl | hs0
      · have e0 : layS 0 0 = [] := by unfold layS; rw [if_pos rfl]
        rw [e0, List.append_nil] at HA3
        have HBW := hide ((unhide HB1).trans ((unhide HB).mono (by omega)))
        obtain ⟨c0, c1, c2, z0, z1, z2⟩ := store3 hcl
        have hcv := conv_owned wr _ _ _ _ (unhide HO)
        obtain ⟨av, cv, hvv⟩ := own_slice (unhide HO)
        subst hvv
        by_cases hbig : 65536 < out.length
        · have HA9 : Hid (shAns l = (2, 0, [])) := hide (by rw [unhide HA3]; unfold legA; rw [if_pos hbig])
          obtain ⟨p0, p1, p2⟩ := leg_cells hcl (.int .i64 2) (.int .i64 0) (.string { data := #[] })
          clear hcl HA3 e0
          go_wp2
          try simp only [Exit.inBlock, Exit.then]
          refine bodyPost_ret (by simp [results, Tryd.results9, go_sem, p0, p1, p2]; try rfl) rfl ?_
          exact ⟨by rw [unhide HL, unhide HA9]; rfl, below_set3 (unhide HBW) _ _ _⟩
        · have HA9 : Hid (shAns l = (0, 0, out)) := hide (by rw [unhide HA3]; unfold legA; rw [if_neg hbig])
          obtain ⟨p0, p1, p2⟩ := leg_cells hcl (.int .i64 0) (.int .i64 0) (.string (strOfNums out))
          clear hcl HA3 e0
          go_wp2
          try simp only [Exit.inBlock, Exit.then]
          refine bodyPost_ret (by simp [results, Tryd.results9, go_sem, p0, p1, p2]; try rfl) rfl ?_
          exact ⟨by rw [unhide HL, unhide HA9]; rfl, below_set3 (unhide HBW) _ _ _⟩
      · have e0 : layS st 0 = [27, 65] := by unfold layS; rw [if_neg hs0]; rfl
        rw [e0] at HA3
        have hq : (st != 0) = true := by simpa using hs0
        clear e0 hs0
        go_wp2_with (at_builtin; refine wpList_append_own _ rfl _ _ 22 rfl w1.heap.size 5 i0 (.int .u8 0) 1 1 Tryd.underlying22 hi hz0 hz1 hz2 rfl (by decide) _ _ _ rfl (owned_alloc (unhide HO) _) ⟨wr.heap.size, 0, none⟩ 2 2 [.int .u8 27, .int .u8 65] rfl rfl ?c0 ?c2 ?c3 ?c4 ?c5 ?_)
        case c0 => exact two_new _ _ _ _
        case c2 => intro u hu; simp at hu; rcases hu with rfl | rfl <;> rfl
        case c3 => unfold maxLen; omega
        case c4 => omega
        case c5 => simp; omega
        intro v' w3 hown' hgrow _
        have RL := lay_two hBs (unhide HO) hown' hgrow
        have hc3 : w3.heap[w.heap.size]? = some (.cells #[.int .i64 0, .int .i64 0, .string (strOfNums [])] 25) := RL.2.2 _ _ hcl (notRow80 _ _ (by decide))
        have HBW := hide ((unhide HB1).trans (((unhide HB).trans RL.2.1).mono (by omega)))
        have hcv := conv_owned w3 _ _ _ _ RL.1
        obtain ⟨av, cv, hvv⟩ := own_slice RL.1
        subst hvv
        obtain ⟨c0, c1, c2, z0, z1, z2⟩ := store3 hc3
        have hTl : (out ++ [27, 65]).length ≤ 300000 := by simp; omega
        generalize out ++ [27, 65] = T at *
        clear hown' hgrow RL hcl
        by_cases hbig : 65536 < T.length
        · have HA9 : Hid (shAns l = (2, 0, [])) := hide (by rw [unhide HA3]; unfold legA; rw [if_pos hbig])
          obtain ⟨p0, p1, p2⟩ := leg_cells hc3 (.int .i64 2) (.int .i64 0) (.string { data := #[] })
          clear hc3 HA3
          go_wp2
          try simp only [Exit.inBlock, Exit.then]
          refine bodyPost_ret (by simp [results, Tryd.results9, go_sem, p0, p1, p2]; try rfl) rfl ?_
          exact ⟨by rw [unhide HL, unhide HA9]; rfl, below_set3 (unhide HBW) _ _ _⟩
        · have HA9 : Hid (shAns l = (0, 0, T)) := hide (by rw [unhide HA3]; unfold legA; rw [if_neg hbig])
          obtain ⟨p0, p1, p2⟩ := leg_cells hc3 (.int .i64 0) (.int .i64 0) (.string (strOfNums T))
          clear hc3 HA3
          go_wp2
          try simp only [Exit.inBlock, Exit.then]
          refine bodyPost_ret (by simp [results, Tryd.results9, go_sem, p0, p1, p2]; try rfl) rfl ?_
          exact ⟨by rw [unhide HL, unhide HA9]; rfl, below_set3 (unhide HBW) _ _ _⟩
end Go.Proofs.YtohpifhpfijmcaaDoor
