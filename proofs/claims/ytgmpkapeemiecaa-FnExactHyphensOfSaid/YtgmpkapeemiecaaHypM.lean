/- The digits of a text, by the tree. -/
import Derived.Test.YtgmpkapeemiecaaHypN
namespace Go.Proofs.Ytgmpkapeemiecaa
namespace Hyp
open Go.RowKit
set_option linter.unusedVariables false
set_option linter.unusedSimpArgs false
set_option maxRecDepth 100000 in
set_option maxHeartbeats 1500000 in
theorem raiseN (g off n cap : Nat) (w : World) : Calls Try.prog 40 #[.slice (some ⟨g, off, none⟩) n cap, .slice none 0 0] w fun e w' => (∃ v, e = .returned v) ∧ w' = w := by
  go_enter Try.func40, Try.ntmps40
  go_wp2_with fail
  refine wp_loop_rounds 1 ?_
  rw [rounds_succ]
  go_wp2_with fail
  refine bodyPost_end (v := .tuple #[]) (by simp [results, Try.f40, go_sem]; try rfl) rfl ⟨⟨_, rfl⟩, rfl⟩
set_option maxRecDepth 100000 in
set_option maxHeartbeats 8000000 in
theorem digitsI (A : Mp) (B b0 : Nat) (d0 : Option (Nat × List Int)) (t : ByteArray) (w : World) (hT : Tr B w A) (h0 : A [] = some (b0, d0)) (hB : B ≤ w.heap.size) (hl : ∀ i, i < t.size → ltr (bt t i : Int)) (hz : t.size ≤ 70000) :
    Calls Try.prog 36 #[.pointer (some ⟨b0, 0, none⟩), .string t] w fun e w' => (∃ g c, e = .returned (.slice (some ⟨g, 0, none⟩) (t.size + 1) c) ∧ w'.heap[g]? = some (.cells (u8s (aa (dgA A) t t.size)).toArray 5 (0, 0)) ∧ w.heap.size ≤ g) ∧ Below w.heap.size w w' := by
  obtain ⟨i0, hi, hz0, hz1, hz2⟩ := info_parts info5h
  have hmx := mixedA
  have HT := hide hT
  have HL := hide hl
  have H0 := hide h0
  clear hT hl h0
  go_enter Try.func36, Try.ntmps36
  go_wp2_with (at_make; refine wpList_make_full _ rfl _ _ 53 rfl w.heap.size 5 i0 (.int .u8 0) 1 Try.underlying53 hi hz0 hz1 .i64 .i64 _ _ (t.size + 1) rfl rfl rfl rfl (by first | (rw [hz2]; omega) | (unfold maxLen; omega) | omega) (by first | (rw [hz2]; omega) | (unfold maxLen; omega) | omega) (by first | (rw [hz2]; omega) | (unfold maxLen; omega) | omega) ?_)
  intro w5 hown hgrow
  have hrow := (own_full hown).2
  rw [made8] at hrow
  have hbm : Below w.heap.size w w5 := ⟨hgrow.os, hgrow.tape, hgrow.output, hgrow.size, fun k hk => hgrow.block k hk (fun c => by cases c)⟩
  have R5 : Hid (w5.heap[w.heap.size]? = some (.cells (u8s (aa (dgA A) t 0)).toArray 5 (0, 0))) := hide hrow
  have B5 := hide hbm
  generalize hg : w.heap.size = g at R5 B5
  have GW : Hid (w.heap.size = g) := hide hg
  clear hown hgrow hrow hbm i0 hi hz0 hz1 hz2
  go_wp2_with fail
  have hBg : B ≤ g := by omega
  clear hg
  go_loopw [16] (fun v16 wr => ∃ a : Nat, a ≤ t.size ∧ v16 = .int .i64 (a : Int) ∧ Hid (wr.heap[g]? = some (.cells (u8s (aa (dgA A) t a)).toArray 5 (0, 0))) ∧ Hid (Below g w wr)) (fun x _ => t.size - (intOf x).toNat)
  case atStart => exact ⟨0, by omega, rfl, R5, B5⟩
  case round =>
    obtain ⟨a, ha, rfl, HR, HB⟩ := hrel
    by_cases hlt : a < t.size
    · have hI : (a : Int) < (t.size : Int) := by omega
      have hxz : (t.extract a t.size).size = t.size - a := by rw [ByteArray.size_extract]; omega
      have HX : Hid (∀ i, i < t.size - a → (((t.extract a t.size).data.toList.getD i 0).toNat : Int) = (bt t (a + i) : Int)) := hide (fun i hi => by rw [cut_byte t a i (by omega)])
      have hcv : ∀ W : World, (convert 9 53 (.string (t.extract a t.size))).run Try.prog W = .ok (.slice (some ⟨W.heap.size, 0, none⟩) (t.extract a t.size).size (grownCap W (t.extract a t.size).size 0 5)) (Lib.bytesWorld W 5 (t.extract a t.size)) := fun W => Lib.run_convert_string_bytes W 9 53 5 (t.extract a t.size) Try.underlying9 Try.underlying53 Try.underlying5
      go_wp2_with fail
      generalize t.extract a t.size = x at *
      obtain ⟨m, hm⟩ : ∃ m, t.size - a = m := ⟨_, rfl⟩
      have HM : Hid (t.size = a + m) := hide (by omega)
      have hmb : m ≤ 70000 := by omega
      rw [hm] at hxz HX
      rw [hm] at *
      obtain ⟨w2, hw2⟩ : ∃ w2, w2 = Lib.bytesWorld wr 5 x := ⟨_, rfl⟩
      rw [← hw2]
      have b2 : Below wr.heap.size wr w2 := by rw [hw2]; exact bwA _ _ _
      have hgw := (unhide HB).size
      have GWn := unhide GW
      have hgl : g < wr.heap.size := lt_of_block (unhide HR)
      have HC : Hid (∀ i, i < m → w2.cell? ⟨wr.heap.size, i, none⟩ = some (.int .u8 (bt t (a + i) : Int))) := hide (fun i hi => by
        rw [hw2, Lib.bytesWorld_cell wr 5 x i (by omega), (unhide HX) i hi])
      have R2 : Hid (w2.heap[g]? = some (.cells (u8s (rr (dgA A) t a (aa (dgA A) t a) 0)).toArray 5 (0, 0))) := hide ((b2.block g hgl).trans (unhide HR))
      have B2 : Hid (Below g w w2) := hide ((unhide HB).trans (b2.mono (by omega)))
      have hbl : wr.heap.size < w2.heap.size := by rw [hw2, Lib.bytesWorld_size]; omega
      generalize grownCap wr m 0 5 = cp
      generalize hq : wr.heap.size = q at *
      have hqw : q < w2.heap.size := hbl
      clear hw2 hcv b2 HX hq hbl HB HR hxz
      go_loopw [7, 25] (fun v7 v25 W => ∃ (n : Nat) (y : Nd), n ≤ m ∧ v25 = .int .i64 (n : Int) ∧ v7 = .pointer (some ⟨y.1, 0, none⟩) ∧ Hid (A (pth t a n) = some y) ∧ Hid (W.heap[g]? = some (.cells (u8s (rr (dgA A) t a (aa (dgA A) t a) n)).toArray 5 (0, 0))) ∧ Hid (Below g w W) ∧ Hid (w2.heap.size ≤ W.heap.size ∧ W.heap[q]? = w2.heap[q]?)) (fun _ v _ => m - (intOf v).toNat)
      case atStart => exact ⟨0, (b0, d0), by omega, rfl, rfl, H0, R2, B2, hide ⟨Nat.le_refl _, rfl⟩⟩
      case round =>
        obtain ⟨n, y, hn, rfl, rfl, HY, HRn, HBn, HQn⟩ := hrel
        have TR := (unhide HT).below (w' := wr) (by rw [GWn]; exact unhide HBn)
        have ny := TR.node _ _ (unhide HY)
        have hwq := (unhide HQn).1
        have HS : Hid (aa (dgA A) t (a + 1) = rr (dgA A) t a (aa (dgA A) t a) m) := hide (by rw [aa, show t.size - a = m by have := unhide HM; omega])
        by_cases hlt2 : n < m
        · have hnI : (n : Int) < (m : Int) := by omega
          have HLE : Hid (n + 1 ≤ m) := hide (by omega)
          have hltr := (unhide HL) (a + n) (by have := unhide HM; omega)
          have cI := (cell_same (unhide HQn).2 n).trans ((unhide HC) n hlt2)
          have CK := hide (fun W => kindH _ hltr W)
          have hk27 := kd_lt hltr
          have HP : Hid (pth t a (n + 1) = pth t a n ++ [kd (bt t (a + n) : Int)]) := hide rfl
          have cc := ny.2.cell.1 _ hk27
          have hk27I : ((kd (bt t (a + n) : Int) : Nat) : Int) < 27 := by omega
          have hk0I : (0 : Int) ≤ ((kd (bt t (a + n) : Int) : Nat) : Int) := by omega
          generalize (bt t (a + n) : Int) = c at *
          generalize kd c = k at *
          clear hltr
          cases hch : A (pth t a n ++ [k]) with
          | none =>
            have ce : chV A (pth t a n) k = .pointer none := by unfold chV; rw [hch]; rfl
            rw [ce] at cc
            have HF : Hid (wr.heap[g]? = some (.cells (u8s (aa (dgA A) t (a + 1))).toArray 5 (0, 0))) := hide (by
              have h1 := rr_stop (unhide HT) t a n (aa (dgA A) t a) (by rw [unhide HP]; exact hch) (m - n)
              rw [show n + (m - n) = m by omega] at h1
              rw [unhide HS, h1]
              exact unhide HRn)
            clear ce hch
            go_upto_region 9 with fail
            go_region_with (go_at_call 39; refine ((unhide CK) _).mono ?_; rintro e w' ⟨rfl, hw⟩; obtain rfl := hw.symm; clear hw)
            all_goals go_wp2_with fail
            go_roundw
            case rel => exact ⟨a + 1, by omega, by go_num, HF, hide (bdrew (unhide HBn) _)⟩
            case measure => simp [intOf]; omega
          | some z =>
            have ce : chV A (pth t a n) k = .pointer (some ⟨z.1, 0, none⟩) := by unfold chV; rw [hch]; rfl
            rw [ce] at cc
            have HZ := hide (show A (pth t a (n + 1)) = some z by rw [unhide HP]; exact hch)
            have nz := TR.node _ _ hch
            have c27 := nz.2.cell.2.1
            have f27 := nz.2.cell.2.2 27
            obtain ⟨z1, z2⟩ := z
            clear ce hch
            cases z2 with
            | none =>
              have c27' : wr.cell? ⟨z1, 27, none⟩ = some (.slice none 0 0) := c27
              clear c27
              have HF : Hid (wr.heap[g]? = some (.cells (u8s (rr (dgA A) t a (aa (dgA A) t a) (n + 1))).toArray 5 (0, 0))) := hide (by
                rw [rr, dgA_none (unhide HZ)]
                exact unhide HRn)
              have CN := hide (fun off cap l W => raiseN g off cap l W)
              go_upto_region 9 with fail
              go_region_with (go_at_call 39; refine ((unhide CK) _).mono ?_; rintro e w' ⟨rfl, hw⟩; obtain rfl := hw.symm; clear hw)
              all_goals
                go_upto_region 11 with fail
                go_region_with (go_at_call 40; refine ((unhide CN) _ _ _ _).mono ?_; rintro e w' ⟨⟨v, rfl⟩, hw⟩; obtain rfl := hw.symm; clear hw)
              all_goals
                go_wp2_with fail
                go_roundw
                case rel => exact ⟨n + 1, (z1, none), unhide HLE, by go_num, rfl, HZ, HF, hide (by first | exact bdrew (bdrew (unhide HBn) _) _ | exact bdrew (unhide HBn) _), HQn⟩
                case measure => have := unhide HLE; simp [intOf]; omega
            | some gl =>
              obtain ⟨hb, O⟩ := gl
              have c27' : wr.cell? ⟨z1, 27, none⟩ = some (.slice (some ⟨hb, 0, none⟩) O.length O.length) := c27
              clear c27
              have dg := TR.dig _ _ _ _ (unhide HZ)
              have HOL : Hid (O.length = n + 2) := hide (by have := dg.2.2; rw [pth_len] at this; exact this)
              have hhg : hb < g := by have := (unhide HT).dlt (unhide HZ); omega
              have CR := hide (fun W (hW : Below wr.heap.size wr W) => raiseH g a (t.size + 1 - a) (t.size + 1 - a) hb 0 O.length (rr (dgA A) t a (aa (dgA A) t a) n) O W ((hW.block _ (by omega)).trans (unhide HRn)) (fun j hj => (hW.cell (p := ⟨hb, 0 + j, none⟩) (by show hb < _; omega)).trans (by rw [Nat.zero_add]; exact row_cell dg.2.1 j hj)) (by omega) (by have := hW.size; omega) (by rw [rr_len, aa_len]; omega) (by have := unhide HOL; have := unhide HM; omega) (by rw [rr_len, aa_len]; omega))
              clear dg
              have HE : Hid (rr (dgA A) t a (aa (dgA A) t a) (n + 1) = rsk (rr (dgA A) t a (aa (dgA A) t a) n) a O O.length) := hide (by rw [rr, dgA_some (unhide HZ)])
              go_upto_region 9 with fail
              go_region_with (go_at_call 39; refine ((unhide CK) _).mono ?_; rintro e w' ⟨rfl, hw⟩; obtain rfl := hw.symm; clear hw)
              all_goals
                go_upto_region 11 with fail
                go_region_with (go_at_call 40; refine ((unhide CR) _ (by first | exact bdrew (bdrew (Below.refl _ _) _) _ | exact bdrew (Below.refl _ _) _)).mono ?_; rintro e w9 ⟨⟨v, rfl⟩, hr9, hg9⟩)
              all_goals
                have HR9 := hide hr9
                have HG9 : Hid (wr.grownBy w9 (some g)) := hide ⟨hg9.os, hg9.tape, hg9.output, hg9.size, hg9.block⟩
                clear hr9 hg9
                go_wp2_with fail
                go_roundw
                case rel => exact ⟨n + 1, (z1, some (hb, O)), unhide HLE, by go_num, rfl, HZ, hide (by rw [unhide HE]; exact unhide HR9), hide (by first | exact bdrew ((unhide HBn).grown (unhide HG9) (by omega) (fun k e => by injection e with e; omega)) _ | exact (unhide HBn).grown (unhide HG9) (by omega) (fun k e => by injection e with e; omega)), hide ⟨Nat.le_trans hwq (unhide HG9).size, ((unhide HG9).block q (by omega) (fun e => by injection e with e; omega)).trans (unhide HQn).2⟩⟩
                case measure => have := unhide HLE; simp [intOf]; omega
        · obtain rfl : n = m := by omega
          have HF : Hid (wr.heap[g]? = some (.cells (u8s (aa (dgA A) t (a + 1))).toArray 5 (0, 0))) := hide (by rw [unhide HS]; exact unhide HRn)
          go_wp2_with fail
          go_roundw
          case rel => exact ⟨a + 1, by omega, by go_num, HF, HBn⟩
          case measure => simp [intOf]; omega
    · obtain rfl : a = t.size := by omega
      go_wp2_with fail
      go_ret
      exact ⟨⟨g, _, rfl, unhide HR, by have := unhide GW; omega⟩, by rw [unhide GW]; exact unhide HB⟩
end Hyp
end Go.Proofs.Ytgmpkapeemiecaa
