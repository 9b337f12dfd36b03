/- EncodeSteps of the specification. -/
import Derived.Test.YtohpifhpfijmcaaDoorStpF
import Derived.WalkMore
namespace Go.Proofs.YtohpifhpfijmcaaDoor
open Go.RowKit
/-- One byte more. -/
theorem lay_stepB {B : Nat} {w wr w2 w3 : World} {s v' : Value} {M : List Int} {x : Int} {o : Obj} (hB : B ≤ w.heap.size) (hb : Below B w wr) (hb2 : Below wr.heap.size wr w2)
    (ho2 : w2.ownsRow B 5 1 s M.length (M.map (Value.int .u8))) (ho3 : w3.ownsRow B 5 1 v' (M.length + 1) (M.map (Value.int .u8) ++ [.int .u8 x])) (hg : (w2.alloc o).grownBy w3 s.ownBlock) :
    w3.ownsRow B 5 1 v' (M ++ [x]).length ((M ++ [x]).map (Value.int .u8)) ∧ Below B w w3 := by
  have hwr := hb.size
  have hw2 := hb2.size
  refine ⟨?_, ?_⟩
  · rw [List.length_append, List.map_append]; exact ho3
  · exact ((hb.trans (hb2.mono (by omega))).alloc (by omega) o).grown hg (by simp; omega) (fun j hj => (ho2.lt j hj).1)
set_option maxHeartbeats 2000000 in
set_option maxRecDepth 100000 in
theorem sEncSteps (s : ByteArray) (w : World) (hs : s.size ≤ 65536) :
    Calls Tryd.prog 15 #[.string s] w fun e w' => e = .returned (.string (strOfNums (small (encSt (pts s)).1))) ∧ Below w.heap.size w w' := by
  obtain ⟨i0, hi, hz0, hz1, hz2⟩ := info_parts info5
  have hle := pts_le s
  have HPT := hide (pts_pt s)
  go_enter Tryd.func15, Tryd.ntmps15
  go_wp2_with fail
  refine (l01Points s _ hs).mono ?_
  rintro e w1 ⟨v, rfl, ho, hb1⟩
  obtain ⟨a, cap, rfl, ha⟩ := IntsAt.owned ho
  have HA := hide ha
  have hw1 := hb1.size
  have HB1 := hide hb1
  clear ho ha hb1
  obtain ⟨l, hlq⟩ : ∃ l, pts s = l := ⟨_, rfl⟩
  rw [hlq] at HPT HA hle
  have HL := hide hlq
  rw [hlq]
  clear hlq
  have hll : l.length ≤ 65536 := by omega
  have HO0 : Hid ((w1.alloc (.cells #[] 5)).ownsRow w1.heap.size 5 1 (.slice (some ⟨w1.heap.size, 0, none⟩) 0 0) (encSt (l.take 0)).1.length ((encSt (l.take 0)).1.map (Value.int .u8))) := hide (World.ownsRow_lit w1 #[] 0 (Nat.le_refl _) (by unfold maxLen; omega) rfl)
  have HB0 : Hid (Below w1.heap.size w1 (w1.alloc (.cells #[] 5))) := hide ((Below.refl _ _).alloc (Nat.le_refl _) _)
  go_wp2
  go_loopw [4, 5, 6] (fun s f i wr => ∃ (k : Nat) (fr : Int), k ≤ l.length ∧ i = .int .i64 k ∧ f = .int .i64 fr ∧ Hid ((encSt (l.take k)).2 = fr) ∧ Hid (wr.ownsRow w1.heap.size 5 1 s (encSt (l.take k)).1.length ((encSt (l.take k)).1.map (Value.int .u8))) ∧ Hid (Below w1.heap.size w1 wr)) (fun _ _ i _ => l.length - (intOf i).toNat)
  case atStart => exact ⟨0, 64, Nat.zero_le _, rfl, rfl, hide rfl, HO0, HB0⟩
  case round =>
    obtain ⟨k, fr, hk, rfl, rfl, HF, HO, HB⟩ := hrel
    clear HO0 HB0
    have hbd0 := encSt_bd (l.take k) (fun x hx => (unhide HPT) x (List.mem_of_mem_take hx))
    rw [unhide HF] at hbd0
    obtain ⟨hf1, hf2, hf3⟩ := hbd0
    have htk : (l.take k).length ≤ k := List.length_take_le _ _
    by_cases hlt : k < l.length
    · rcases unhide HA with ha | ⟨b, off, rfl, hbs, hc⟩
      · rw [ha] at hlt; simp at hlt
      have c1 := ((unhide HB).cell (p := ⟨b, off + k, none⟩) hbs).trans (hc k hlt)
      have hpt : isPt (nth l k) = true := by
        have e : nth l k = l[k] := by simp [nth, List.getD, hlt]
        rw [e]; exact (unhide HPT) _ (List.getElem_mem hlt)
      have hpb := nth_pt (unhide HPT) k hlt
      have hp0 := hpb.1
      have hp1 := hpb.2
      have hzb := zig_bd hpt hf1 hf2
      have HE : Hid (encSt (l.take (k + 1)) = ((encSt (l.take k)).1 ++ vl (zig (nth l k - fr)).toNat, mid (nth l k))) := hide (by rw [encSt_take l k hlt]; unfold stp; rw [unhide HF])
      have hL : (encSt (l.take k)).1.length ≤ 262144 := by omega
      obtain ⟨n0, hn0e⟩ : ∃ n0 : Nat, (zig (nth l k - fr)).toNat = n0 := ⟨_, rfl⟩
      have hz : zig (nth l k - fr) = n0 := by omega
      have hn0 : n0 < 268435456 := by omega
      rw [hn0e] at HE
      have hvl := (vl_len n0 hn0).2
      have HC := hide hc
      have hbse := (unhide HB).size
      clear hn0e hzb hpb hpt hc
      generalize (encSt (l.take k)).1 = L at *
      by_cases hneg : nth l k - fr < 0
      all_goals
        unfold zig at hz
        first | rw [if_pos hneg] at hz | rw [if_neg hneg] at hz
        have HX := hide hz
        clear hz
      all_goals
        go_wp2
        have HO1 : Hid (wr.ownsRow w1.heap.size 5 1 _ (L ++ []).length ((L ++ []).map (Value.int .u8))) := hide (by rw [List.append_nil]; exact unhide HO)
        go_loopw [4, 8] (fun s x wq => ∃ (M : List Int) (m : Nat), Hid (M ++ vl m = vl n0) ∧ m < 268435456 ∧ M.length ≤ 4 ∧ x = .int .i64 m ∧ Hid (wq.ownsRow w1.heap.size 5 1 s (L ++ M).length ((L ++ M).map (Value.int .u8))) ∧ Hid (Below w1.heap.size w1 wq)) (fun _ x _ => (intOf x).toNat)
        case atStart => exact ⟨[], n0, hide rfl, hn0, by simp, by have := unhide HX; go_num, HO1, HB⟩
        case round =>
          obtain ⟨M, m, HV, hm, hM, rfl, HO2, HB2⟩ := hrel
          have hml : M.length + (vl m).length ≤ 4 := by have := congrArg List.length (unhide HV); rw [List.length_append] at this; omega
          have hm1 := (vl_len m hm).1
          have hbs2 := (unhide HB2).size
          have hLM : (L ++ M).length ≤ 1000004 := by simp; omega
          have HT : Hid (∀ x, L ++ (M ++ [x]) = (L ++ M) ++ [x]) := hide fun x => (List.append_assoc _ _ _).symm
          clear HO1 HX HO
          generalize L ++ M = T at *
          by_cases hlt2 : m < 128
          · have HV2 := hide (vl_end (unhide HV) hlt2)
            go_wp2_with (at_builtin; refine wpList_append_own _ rfl _ _ 22 rfl w1.heap.size 5 i0 (.int .u8 0) 1 1 Tryd.underlying22 hi hz0 hz1 hz2 rfl (by decide) _ _ _ rfl (owned_alloc (unhide HO2) _) ⟨wr.heap.size, 0, none⟩ 1 1 [.int .u8 m] rfl rfl ?c1 ?c2 ?c3 ?c4 ?c5 ?_)
            case c1 => exact cell_one_new _ _ _
            case c2 => intro u hu; simp at hu; subst hu; rfl
            case c3 => unfold maxLen; omega
            case c4 => omega
            case c5 => simp; omega
            intro v' w3 hown' hgrow _
            have R := hide (lay_stepB (Nat.le_refl _) (unhide HB2) (Below.refl _ _) (unhide HO2) hown' hgrow)
            clear hown' hgrow
            have HE3 : Hid (w3.ownsRow w1.heap.size 5 1 v' (encSt (l.take (k + 1))).1.length ((encSt (l.take (k + 1))).1.map (Value.int .u8))) := hide (by rw [unhide HE, ← unhide HV2, unhide HT]; exact (unhide R).1)
            have HF3 : Hid ((encSt (l.take (k + 1))).2 = mid (nth l k)) := hide (by rw [unhide HE])
            have HB3 := hide (unhide R).2
            have c2 := ((unhide HB3).cell (p := ⟨b, off + k, none⟩) hbs).trans ((unhide HC) k hlt)
            clear R c1
            go_wp2_with fail
            refine (middleS (nth l k) (by omega) (by omega) _).mono ?_
            rintro e w4 ⟨rfl, rfl⟩
            go_wp2
            go_roundw
            case rel =>
              have RR : ∃ (k' : Nat) (fr : Int), k' ≤ l.length ∧ Value.int .i64 ((k : Int) + 1) = .int .i64 k' ∧ Value.int .i64 (mid (nth l k)) = .int .i64 fr ∧ Hid ((encSt (l.take k')).2 = fr) ∧ Hid (w3.ownsRow w1.heap.size 5 1 v' (encSt (l.take k')).1.length ((encSt (l.take k')).1.map (Value.int .u8))) ∧ Hid (Below w1.heap.size w1 w3) :=
                ⟨k + 1, mid (nth l k), by omega, by go_num, rfl, HF3, HE3, HB3⟩
              first | exact RR | ((repeat apply Exists.intro); exact ⟨RR, rfl⟩)
            case measure => simp [intOf]; omega
          · have HV' := hide (vl_next (unhide HV) hlt2)
            have hm2 := (vl_len (m / 128) (by omega)).1
            have hml2 : M.length + 1 + (vl (m / 128)).length ≤ 4 := by have := congrArg List.length (unhide HV'); simp at this; omega
            go_wp2_with (at_builtin; refine wpList_append_own _ rfl _ _ 22 rfl w1.heap.size 5 i0 (.int .u8 0) 1 1 Tryd.underlying22 hi hz0 hz1 hz2 rfl (by decide) _ _ _ rfl (owned_alloc (unhide HO2) _) ⟨wr.heap.size, 0, none⟩ 1 1 [.int .u8 (128 + (m : Int) % 128)] rfl rfl ?c1 ?c2 ?c3 ?c4 ?c5 ?_)
            case c1 => exact cell_one_new _ _ _
            case c2 => intro u hu; simp at hu; subst hu; rfl
            case c3 => unfold maxLen; omega
            case c4 => omega
            case c5 => simp; omega
            intro v' w3 hown' hgrow _
            have R := hide (lay_stepB (Nat.le_refl _) (unhide HB2) (Below.refl _ _) (unhide HO2) hown' hgrow)
            clear hown' hgrow
            go_wp2
            go_roundw
            case rel =>
              have RR : ∃ (M : List Int) (m' : Nat), Hid (M ++ vl m' = vl n0) ∧ m' < 268435456 ∧ M.length ≤ 4 ∧ Value.int .i64 ((m : Int) / 128) = .int .i64 m' ∧ Hid (w3.ownsRow w1.heap.size 5 1 v' (L ++ M).length ((L ++ M).map (Value.int .u8))) ∧ Hid (Below w1.heap.size w1 w3) :=
                ⟨M ++ [((128 + m % 128 : Nat) : Int)], m / 128, HV', by omega, by simp; omega, by go_num, hide (by rw [unhide HT]; exact (unhide R).1), hide (unhide R).2⟩
              first | exact RR | ((repeat apply Exists.intro); exact ⟨RR, rfl⟩)
            case measure => simp [intOf]; omega
    · obtain rfl : k = l.length := by omega
      have hcv := conv_owned wr _ _ _ _ (unhide HO)
      rw [List.take_length] at hcv hf3
      go_wp2_with fail
      refine (smallS _ (by omega) _).mono ?_
      rintro e w3 ⟨rfl, rfl⟩
      go_wp2
      go_ret
      exact ⟨by rw [unhide HL]; rfl, (unhide HB1).trans ((unhide HB).mono hw1)⟩
end Go.Proofs.YtohpifhpfijmcaaDoor
