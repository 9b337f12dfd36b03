/- Hyphens of a word, as the specification tells them: the walk. -/
import Derived.Test.YtgmpkapeemiecaaHypX
import Derived.BigQuiet
namespace Go.Proofs.Ytgmpkapeemiecaa
namespace Hyp
open Go.RowKit
set_option linter.unusedVariables false
set_option linter.unusedSimpArgs false
theorem wrap64_2 {q : Int} (h0 : 0 ≤ q) (h1 : q < 2) : wrap64 q = q := by
  unfold wrap64
  omega
theorem own_fullI {w : World} {B g n : Nat} {xs : List Value} (h : w.ownsRow B 2 1 (.slice (some ⟨g, 0, none⟩) n n) n xs) : B ≤ g ∧ w.heap[g]? = some (.cells xs.toArray 2 (0, 0)) := by
  rcases h.2 with ⟨h', _⟩ | ⟨g', cap, cur, hv, hb, hh, hn, hm, hs, ht⟩
  · simp at h'
  · simp only [Value.slice.injEq, Option.some.injEq, Addr.mk.injEq, and_true, true_and] at hv
    obtain ⟨rfl, rfl⟩ := hv
    refine ⟨hb, ?_⟩
    have := h.1
    rw [hh]
    congr 2
    rw [← ht, List.take_of_length_le (by rw [Array.length_toList]; omega)]
theorem made64 (m : Nat) : (madeCells #[Value.int .i64 0] m).toList = i64s (List.replicate m 0) := by
  unfold i64s
  rw [List.map_replicate]
  exact toList_madeCells_one _ _
theorem i64s_set (L : List Int) (i : Nat) (x : Int) : (i64s L).toArray.setIfInBounds i (.int .i64 x) = (i64s (L.set i x)).toArray := by
  simp [i64s, List.map_set]
theorem row_cell64 {w : World} {g : Nat} {L : List Int} (h : w.heap[g]? = some (.cells (i64s L).toArray 2 (0, 0))) (i : Nat) (hi : i < L.length) : w.cell? ⟨g, i, none⟩ = some (.int .i64 (L.getD i 0)) := by
  simp [World.cell?, h, i64s, List.getD_eq_getElem?_getD, hi]
theorem set_same (L : List Int) (i : Nat) : L.set i (L.getD i 0) = L := by
  apply List.ext_getElem?
  intro j
  rw [List.getElem?_set]
  by_cases e : i = j
  · subst e
    rw [if_pos rfl]
    by_cases c : i < L.length
    · rw [if_pos c, List.getD_eq_getElem?_getD, List.getElem?_eq_getElem c]; rfl
    · rw [if_neg c, List.getElem?_eq_none (by omega)]
  · rw [if_neg e]
theorem rsk_yes {L O : List Int} {off k : Nat} (h : (rsk L off O k).getD (off + k) 0 < O.getD k 0) : rsk L off O (k + 1) = (rsk L off O k).set (off + k) (O.getD k 0) := by
  rw [rsk]
  congr 1
  omega
theorem rsk_no {L O : List Int} {off k : Nat} (h : ¬ (rsk L off O k).getD (off + k) 0 < O.getD k 0) : rsk L off O (k + 1) = rsk L off O k := by
  rw [rsk, show max ((rsk L off O k).getD (off + k) 0) (O.getD k 0) = (rsk L off O k).getD (off + k) 0 by omega, set_same]
theorem bb_next {t : ByteArray} {P : List ByteArray} {i : Nat} {s : St} (h : pat (nthS P i) = some s) : bb t P (i + 1) = pb t s (bb t P i) (t.size + 1 - s.L.length) := by rw [bb, h]
theorem pb_yes {t : ByteArray} {s : St} {R : List Int} {a : Nat} (h : mt t s a = true) : pb t s R (a + 1) = rsk (pb t s R a) a (s.D ++ [s.d]) (s.D ++ [s.d]).length := if_pos h
theorem pb_no {t : ByteArray} {s : St} {R : List Int} {a : Nat} (h : ¬ mt t s a = true) : pb t s R (a + 1) = pb t s R a := if_neg h
theorem grown_set {w wr : World} {g : Nat} (h0 : w.grownBy wr (some g)) (i : Nat) (u : Value) : w.grownBy (wr.setCell ⟨g, i, none⟩ u) (some g) :=
  ⟨h0.os, h0.tape, h0.output, by have := h0.size; simpa using this, fun j hj e => (Below.heap_setCell _ _ _ _ (fun c => e (by rw [c]))).trans (h0.block j hj e)⟩
theorem grown_drew {w wr : World} {r : Option Nat} (h : w.grownBy wr r) (n : Nat) : w.grownBy (wr.drewN n) r := ⟨h.os, h.tape, h.output, h.size, h.block⟩
set_option maxRecDepth 100000 in
set_option maxHeartbeats 8000000 in
theorem l22H (v : Value) (P : List ByteArray) (x : ByteArray) (w : World) (hv : StrsAt w v P) (hz : ∀ i, i < P.length → (nthS P i).size ≤ 1048576) (hP : P.length ≤ 1000) (hR : ∀ i, i < P.length → right (nthS P i) = true) (hx : x.size ≤ 65536) :
    Calls Try.prog 25 #[v, .string x] w fun e w' => NewRow w w' e (hy (bb (tx x) P P.length) (x.size - 4)) := by
  obtain ⟨i0, hi, hz0, hz1, hz2⟩ := info_parts info2
  have htz := tx_size x
  have HTZ := hide htz
  have A1 := addE1 x (by omega)
  have A2 := addE2 x (by omega)
  obtain ⟨va, vc, rfl, hva⟩ := hv
  have HVA : Hid (0 < P.length → ∃ b off, va = some ⟨b, off, none⟩ ∧ b < w.heap.size ∧ ∀ i, i < P.length → w.cell? ⟨b, off + i, none⟩ = some (.string (nthS P i))) := hide (fun h => by
    rcases hva with h0 | ⟨b, off, h1, h2, h3⟩
    · first | omega | (subst h0; simp at h)
    · exact ⟨b, off, h1, h2, h3⟩)
  have CP := hide (fun i (hi : i < P.length) W => patS (nthS P i) (hz i hi) W)
  have HRR := hide hR
  clear hva hz hR
  have ht : (tx x).size ≤ 65538 := by omega
  clear htz
  generalize (⟨#[46]⟩ : ByteArray) ++ x = x1 at *
  generalize tx x = t at *
  go_enter Try.func25, Try.ntmps25
  go_wp2_with (at_make; refine wpList_make_full _ rfl _ _ 28 rfl w.heap.size 2 i0 (.int .i64 0) 1 Try.underlying28 hi hz0 hz1 .i64 .i64 _ _ (t.size + 1) rfl rfl rfl rfl (by first | (rw [hz2]; omega) | (unfold maxLen; omega) | omega) (by first | (rw [hz2]; omega) | (unfold maxLen; omega) | omega) (by first | (rw [hz2]; omega) | (unfold maxLen; omega) | omega) ?_)
  intro w5 hown hgrow
  have hrow := (own_fullI hown).2
  rw [made64] at hrow
  have hbm : Below w.heap.size w w5 := ⟨hgrow.os, hgrow.tape, hgrow.output, hgrow.size, fun k hk => hgrow.block k hk (fun c => by cases c)⟩
  have R5 : Hid (w5.heap[w.heap.size]? = some (.cells (i64s (bb t P 0)).toArray 2 (0, 0))) := hide hrow
  have B5 := hide hbm
  generalize hg : w.heap.size = g at R5 B5
  have GW : Hid (w.heap.size = g) := hide hg
  clear hown hgrow hrow hbm
  go_wp2_with fail
  clear hg
  go_loopw [7] (fun v7 wr => ∃ i : Nat, i ≤ P.length ∧ v7 = .int .i64 (i : Int) ∧ Hid (wr.heap[g]? = some (.cells (i64s (bb t P i)).toArray 2 (0, 0))) ∧ Hid (Below g w wr)) (fun u _ => P.length - (intOf u).toNat)
  case atStart => exact ⟨0, by omega, rfl, R5, B5⟩
  case round =>
    obtain ⟨i, hi2, rfl, HR, HB⟩ := hrel
    by_cases hlt : i < P.length
    · have hI : (i : Int) < (P.length : Int) := by omega
      obtain ⟨b, off, rfl, hbw, hc⟩ := (unhide HVA) (by omega)
      have hgl : g < wr.heap.size := lt_of_block (unhide HR)
      have GWn := unhide GW
      have c1 := ((unhide HB).cell (p := ⟨b, off + i, none⟩) (by show b < g; omega)).trans (hc i hlt)
      have CPi := hide ((unhide CP) i hlt wr)
      have hr := (unhide HRR) i hlt
      obtain ⟨s, hs⟩ : ∃ s, pat (nthS P i) = some s := Option.isSome_iff_exists.1 hr
      have HNX := hide (bb_next (t := t) hs)
      have hok := pat_pr hs
      have o := pr_ok hok.1
      have hL20 : s.L.length ≤ 20 := by
        have hok2 := hok.2
        unfold okP at hok2
        simp only [Bool.and_eq_true, decide_eq_true_eq] at hok2
        exact hok2.2.2.1
      have HDS : Hid ((s.D ++ [s.d]).length = s.L.length + 1) := hide (by simp [o.len])
      have HPT := hide (show right (nthS P i) = true ∧ pat (nthS P i) = some s from ⟨hr, hs⟩)
      clear hc hr hs hok o
      generalize nthS P i = y at *
      go_wp2_with (go_at_call 22; refine (unhide CPi).mono ?_; rintro e w2 ⟨⟨X, dv, rfl, hpt⟩, hb2⟩; obtain ⟨hX, ho⟩ := hpt (unhide HPT).1 s (unhide HPT).2; have HX0 := hide hX; clear hpt hX)
      have hX := unhide HX0
      have hsz := strOfNums_size s.L
      rw [← hX] at hsz
      obtain ⟨a9, c9, e9, hb9⟩ := row_frm ho
      obtain ⟨h, eh, hBh⟩ := hb9 (by omega)
      subst e9
      subst eh
      have hds := unhide HDS
      obtain ⟨dl, hdl⟩ : ∃ dl, s.D.length + 1 = dl := ⟨_, rfl⟩
      rw [hdl] at ho ⊢
      have hhl : h < w2.heap.size := (ho.lt h rfl).2
      have HDL : Hid ((s.D ++ [s.d]).length = dl) := hide (by rw [← hdl]; simp)
      have hdl20 : dl ≤ 21 := by have := unhide HDL; omega
      have HC := hide (fun k (hk : k < dl) => show w2.cell? ⟨h, k, none⟩ = some (.int .i64 ((s.D ++ [s.d]).getD k 0)) from by
        have e : (s.D ++ [s.d])[k]? = some ((s.D ++ [s.d]).getD k 0) := by
          rw [List.getD_eq_getElem?_getD, List.getElem?_eq_getElem (by rw [unhide HDL]; exact hk)]
          rfl
        rw [ho.cellAt k (by omega)]
        unfold i64s
        rw [List.getElem?_map, e]
        rfl)
      have HXL : Hid (X.size = s.L.length) := hide hsz
      have HMT : Hid (∀ a, mt t s a = ((t.extract a (a + X.size)).toList == X.toList)) := hide (fun a => by unfold mt; rw [hX, ← hsz, hX])
      have hX20 : X.size ≤ 20 := by omega
      have HDS2 : Hid (dl = X.size + 1) := hide (by have := unhide HDL; omega)
      obtain ⟨m, hm⟩ : ∃ m, t.size + 1 - X.size = m := ⟨_, rfl⟩
      have HM : Hid (t.size + 1 - X.size = m) := hide hm
      have hmb : m ≤ 65600 := by omega
      have R2 : Hid (w2.heap[g]? = some (.cells (i64s (pb t s (bb t P i) 0)).toArray 2 (0, 0))) := hide ((hb2.block g hgl).trans (unhide HR))
      have B2 : Hid (Below g w w2) := hide ((unhide HB).trans (hb2.mono (by omega)))
      have hgh : g < h := by omega
      rw [← hsz, hm] at HNX
      have hbl := bb_len t P i
      have HBL := hide hbl
      clear hds ho hdl hsz hX hm HDS hb9 hb2 HB HR CPi HPT c1 hbl
      go_wp2_with fail
      go_loopw [11] (fun v11 wa => ∃ a : Nat, a ≤ m ∧ v11 = .int .i64 (a : Int) ∧ Hid (wa.heap[g]? = some (.cells (i64s (pb t s (bb t P i) a)).toArray 2 (0, 0))) ∧ Hid (w2.grownBy wa (some g))) (fun u _ => m - (intOf u).toNat)
      case atStart => exact ⟨0, by omega, rfl, R2, hide ⟨rfl, rfl, rfl, Nat.le_refl _, fun _ _ _ => rfl⟩⟩
      case round =>
        obtain ⟨a, ha, rfl, HRa, HGa⟩ := hrel
        have hplen := pb_len t s (bb t P i) a
        rw [unhide HBL] at hplen
        have HPL := hide hplen
        clear hplen
        by_cases hla : a < m
        · have hq0 : a + X.size ≤ t.size := by have := unhide HM; omega
          obtain ⟨q, hq⟩ : ∃ q, a + X.size = q := ⟨_, rfl⟩
          have hqI : (a : Int) + (X.size : Int) = (q : Int) := by omega
          have hqt : (q : Int) ≤ (t.size : Int) := by omega
          have hq2 : q ≤ t.size := by omega
          have haq : a ≤ q := by omega
          have HMTa := hide ((unhide HMT) a)
          rw [hq] at HMTa
          have HQ := hide hq
          clear hq hq0
          generalize hy : t.extract a q = y2 at *
          by_cases hmt : mt t s a = true
          · have hye : y2.toList = X.toList := by have h1 := unhide HMTa; rw [hmt] at h1; exact beq_iff_eq.1 h1.symm
            have hyb : (y2.toList == X.toList) = true := by rw [hye]; simp
            have HPB := hide (pb_yes (R := bb t P i) hmt)
            rw [unhide HDL] at HPB
            clear hmt HMTa
            have R0 : Hid (wr.heap[g]? = some (.cells (i64s (rsk (pb t s (bb t P i) a) a (s.D ++ [s.d]) 0)).toArray 2 (0, 0))) := HRa
            clear HRa
            have HQM : Hid (q ≤ t.size ∧ a + X.size = q) := hide ⟨hq2, unhide HQ⟩
            go_wp2_with fail
            clear hy hye hyb hqI hqt hq2 haq HQ
            go_loopw [12] (fun v12 wk => ∃ k : Nat, k ≤ dl ∧ v12 = .int .i64 (k : Int) ∧ Hid (wk.heap[g]? = some (.cells (i64s (rsk (pb t s (bb t P i) a) a (s.D ++ [s.d]) k)).toArray 2 (0, 0))) ∧ Hid (w2.grownBy wk (some g))) (fun u _ => dl - (intOf u).toNat)
            case atStart => exact ⟨0, by omega, rfl, R0, HGa⟩
            case round =>
              obtain ⟨k, hk, rfl, HRk, HGk⟩ := hrel
              have hlen := rsk_len (pb t s (bb t P i) a) a (s.D ++ [s.d]) k
              rw [unhide HPL] at hlen
              have HLK := hide hlen
              clear hlen
              by_cases hlk : k < dl
              · have hkI : (k : Int) < (dl : Int) := by omega
                have hrt : a + k < t.size + 1 := by have := unhide HDL; have := unhide HDS2; have := unhide HXL; have := unhide HQM; omega
                have cd := (cell_same ((unhide HGk).block h hhl (fun e => by injection e with e; omega)) k).trans ((unhide HC) k hlk)
                have cb := row_cell64 (unhide HRk) (a + k) (by rw [unhide HLK]; exact hrt)
                have fb : wr.frozen? ⟨g, a + k, none⟩ = false := by simp [World.frozen?, unhide HRk]
                have HS : Hid (∀ n, ((wr.drewN n).setCell ⟨g, a + k, none⟩ (.int .i64 ((s.D ++ [s.d]).getD k 0))).heap[g]? = some (.cells (i64s ((rsk (pb t s (bb t P i) a) a (s.D ++ [s.d]) k).set (a + k) ((s.D ++ [s.d]).getD k 0))).toArray 2 (0, 0))) := hide (fun n => by
                  have h1 := setG_heap (W := wr.drewN n) (unhide HRk) (a + k) (.int .i64 ((s.D ++ [s.d]).getD k 0))
                  rw [i64s_set] at h1
                  exact h1)
                have HGS := hide (fun n => grown_set (grown_drew (unhide HGk) n) (a + k) (.int .i64 ((s.D ++ [s.d]).getD k 0)))
                have HYES := hide (rsk_yes (L := pb t s (bb t P i) a) (O := s.D ++ [s.d]) (off := a) (k := k))
                have HNO := hide (rsk_no (L := pb t s (bb t P i) a) (O := s.D ++ [s.d]) (off := a) (k := k))
                have HGD := hide (fun n => grown_drew (unhide HGk) n)
                have HLE : Hid (k + 1 ≤ dl) := hide hlk
                obtain ⟨r, hr⟩ : ∃ r, a + k = r := ⟨_, rfl⟩
                have hrI : (a : Int) + (k : Int) = (r : Int) := by omega
                have hrt2 : (r : Int) < (t.size : Int) + 1 := by omega
                rw [hr] at cb fb HS HGS HYES HNO
                have HRW : Hid (rsk (pb t s (bb t P i) a) a (s.D ++ [s.d]) (k + 1) = rsk (pb t s (bb t P i) a) a (s.D ++ [s.d]) (k + 1)) := hide rfl
                clear hr hrt
                by_cases hc : (rsk (pb t s (bb t P i) a) a (s.D ++ [s.d]) k).getD r 0 < (s.D ++ [s.d]).getD k 0
                · rw [← (unhide HYES) hc] at HS
                  generalize (rsk (pb t s (bb t P i) a) a (s.D ++ [s.d]) k).getD r 0 = d1 at *
                  generalize (s.D ++ [s.d]).getD k 0 = d2 at *
                  clear HYES HNO HRk
                  go_upto_region 14 with fail
                  go_quiet (fail)
                  go_wp2_with fail
                  first
                    | exact ⟨⟨k + 1, unhide HLE, by go_num, (unhide HS) _, (unhide HGS) _⟩, by have := unhide HLE; simp [intOf]; omega⟩
                    | (go_roundw
                       case rel => exact ⟨k + 1, unhide HLE, by go_num, (unhide HS) _, (unhide HGS) _⟩
                       case measure => have := unhide HLE; simp [intOf]; omega)
                · rw [← (unhide HNO) hc] at HRk
                  generalize (rsk (pb t s (bb t P i) a) a (s.D ++ [s.d]) k).getD r 0 = d1 at *
                  generalize (s.D ++ [s.d]).getD k 0 = d2 at *
                  clear HYES HNO HS HGS
                  go_upto_region 14 with fail
                  go_quiet (fail)
                  go_wp2_with fail
                  go_roundw
                  case rel => exact ⟨k + 1, unhide HLE, by go_num, HRk, (unhide HGD) _⟩
                  case measure => have := unhide HLE; simp [intOf]; omega
              · obtain rfl : k = dl := by omega
                rw [← unhide HPB] at HRk
                go_wp2_with fail
                go_roundw
                case rel => exact ⟨a + 1, by omega, by go_num, HRk, HGk⟩
                case measure => simp [intOf]; omega
          · have hyn : ¬ y2.toList = X.toList := by have h1 := unhide HMTa; intro c; rw [c] at h1; exact hmt (by rw [h1]; simp)
            have hyb : (y2.toList == X.toList) = false := by simpa using hyn
            have HPB := hide (pb_no (R := bb t P i) hmt)
            rw [← unhide HPB] at HRa
            clear hmt HMTa HPB
            go_wp2_with fail
            go_roundw
            case rel => exact ⟨a + 1, by omega, by go_num, HRa, HGa⟩
            case measure => simp [intOf]; omega
        · obtain rfl : a = m := by omega
          obtain ⟨q, hq⟩ : ∃ q, a + X.size = q := ⟨_, rfl⟩
          have hqI : (a : Int) + (X.size : Int) = (q : Int) := by omega
          have hgt : ¬ (q : Int) ≤ (t.size : Int) := by have := unhide HM; omega
          have hq9 : q ≤ 70000 := by have := unhide HM; omega
          clear hq
          rw [← unhide HNX] at HRa
          have HBa : Hid (Below g w wr) := hide ((unhide B2).grown (unhide HGa) (by omega) (fun k e => by injection e with e; omega))
          go_wp2_with fail
          go_roundw
          case rel => exact ⟨i + 1, by omega, by go_num, HRa, HBa⟩
          case measure => simp [intOf]; omega
    · obtain rfl : i = P.length := by omega
      have NN : Hid (∀ j, 0 ≤ (bb t P P.length).getD j 0) := hide (fun j => ((bb_le t P j _ P.length).1 (Int.le_refl _)).1)
      have HBL := hide (bb_len t P P.length)
      have hg5 := lt_of_block (unhide HR)
      have O5 : Hid ((wr.alloc (.cells #[] 2)).ownsRow wr.heap.size 2 1 (.slice (some ⟨wr.heap.size, 0, none⟩) 0 0) ([] : List Int).length (([] : List Int).map (Value.int .i64))) := hide (World.ownsRow_lit wr #[] 0 (Nat.le_refl _) (by unfold maxLen; omega) rfl)
      have B6 : Hid (Below wr.heap.size wr (wr.alloc (.cells #[] 2))) := hide ((Below.refl _ _).alloc (Nat.le_refl _) _)
      obtain ⟨wz, hwz⟩ : ∃ wz, wz = wr := ⟨_, rfl⟩
      have HRz := HR
      have HBz := HB
      have hg6 := (unhide HB).size
      rw [← hwz] at O5 B6 HRz HBz hg5 hg6 ⊢
      clear hwz HR HB
      generalize hbest : bb t P P.length = best at *
      have HBE := hide hbest
      clear hbest
      have GWn := unhide GW
      clear HVA CP HRR R5 B5
      go_wp2_with fail
      go_loopw [13, 14] (fun v13 v14 wq => ∃ (a k : Nat), v14 = .int .i64 (a : Int) ∧ Hid (a = k + 2) ∧ k ≤ x.size - 4 ∧ Hid (wq.ownsRow wz.heap.size 2 1 v13 (hy best k).length ((hy best k).map (Value.int .i64))) ∧ Hid (Below wz.heap.size wz wq)) (fun _ u _ => x.size - (intOf u).toNat)
      case atStart => exact ⟨2, 0, rfl, hide rfl, by omega, O5, B6⟩
      case round =>
        obtain ⟨a, k, rfl, HA, hk, HO, HB⟩ := hrel
        have hhl := hy_len best k
        obtain ⟨va, vc2, rfl⟩ := form_ownH (unhide HO)
        have hsz := (unhide HB).size
        by_cases hlt2 : k < x.size - 4
        · have ha9 : a ≤ 65536 := by have := unhide HA; omega
          obtain ⟨a3, ha3⟩ : ∃ a3, a + 3 = a3 := ⟨_, rfl⟩
          have ha3I : (a : Int) + 3 = (a3 : Int) := by omega
          have hI : (a3 : Int) ≤ (x.size : Int) := by have := unhide HA; omega
          obtain ⟨b, hb⟩ : ∃ b, a + 1 = b := ⟨_, rfl⟩
          have hbI : (a : Int) + 1 = (b : Int) := by omega
          have hb2 : (b : Int) < (t.size : Int) + 1 := by have := unhide HTZ; have := unhide HA; omega
          have c1 := row_cell64 (unhide HRz) b (by have := unhide HA; have := unhide HTZ; rw [unhide HBL]; omega)
          have c2 := ((unhide HB).cell (p := ⟨g, b, none⟩) hg5).trans c1
          have hd := (unhide NN) b
          have hm := mod2 hd
          have HX : Hid (hy best (k + 1) = if ((best.getD b 0).tmod 2 == 1) = true then hy best k ++ [(a : Int)] else hy best k) := hide (by rw [hy, ← hb, unhide HA])
          have hw8 := wrap64_2 hm.1 hm.2
          have HA2 : Hid (b = k + 1 + 2) := hide (by have := unhide HA; omega)
          clear c1 hm hd hb ha3
          generalize best.getD b 0 = d at *
          generalize hq : d.tmod 2 = q at *
          cases hq1 : (q == 1)
          · have HX2 : Hid (hy best (k + 1) = hy best k) := hide ((unhide HX).trans (if_neg (by rw [hq1]; decide)))
            go_wp2_with fail
            go_roundw
            case rel => exact ⟨b, k + 1, by go_num, HA2, by omega, hide (by rw [unhide HX2]; exact unhide HO), HB⟩
            case measure => simp [intOf]; omega
          · have HX2 : Hid (hy best (k + 1) = hy best k ++ [(a : Int)]) := hide ((unhide HX).trans (if_pos hq1))
            go_wp2_with (at_builtin; refine wpList_append_own _ rfl _ _ 28 rfl wz.heap.size 2 i0 (.int .i64 0) 1 8 Try.underlying28 hi hz0 hz1 hz2 rfl (by decide) _ _ _ rfl (owned_allocH (unhide HO) _) ⟨wr.heap.size, 0, none⟩ 1 1 [.int .i64 (a : Int)] rfl rfl ?c1 ?c2 ?c3 ?c4 ?c5 ?_)
            case c1 => exact cell_one_new _ _ _
            case c2 => intro u hu; simp at hu; subst hu; rfl
            case c3 => unfold maxLen; omega
            case c4 => omega
            case c5 => simp; omega
            intro v' w3 hown' hgrow _
            have R := row_stepH (unhide HB) hsz (unhide HO) hown' hgrow
            rw [← unhide HX2] at R
            have R1 := hide R.1
            have R2 := hide R.2
            clear hown' hgrow R
            go_wp2_with fail
            go_roundw
            case rel => exact ⟨b, k + 1, by go_num, HA2, by omega, R1, R2⟩
            case measure => simp [intOf]; omega
        · obtain rfl : k = x.size - 4 := by omega
          obtain ⟨a3, ha3⟩ : ∃ a3, a + 3 = a3 := ⟨_, rfl⟩
          have ha3I : (a : Int) + 3 = (a3 : Int) := by omega
          have hI : ¬ (a3 : Int) ≤ (x.size : Int) := by have := unhide HA; omega
          have ha9 : a ≤ 70000 := by have := unhide HA; omega
          clear ha3
          go_wp2_with fail
          go_ret
          have e := unhide HBE
          subst e
          exact ⟨_, rfl, own_baseH (unhide HO) (by omega), by have h1 := unhide HBz; rw [← GWn] at h1; exact h1.trans ((unhide HB).mono (by omega))⟩
end Hyp
end Go.Proofs.Ytgmpkapeemiecaa
