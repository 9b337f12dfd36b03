/- A trie out of spans: the program's walk. -/
import Derived.Test.YtjncfkcpjjnmdaaDoorGI
namespace Go.Proofs.YtjncfkcpjjnmdaaDoor
open Go.RowKit
theorem own_base {w : World} {B' B : Nat} {e : TypeId} {s : Nat} {v : Value} {n : Nat} {xs : List Value} (h : w.ownsRow B' e s v n xs) (hB : B ≤ B') : w.ownsRow B e s v n xs := by
  refine ⟨h.1, ?_⟩
  rcases h.2 with hn | ⟨g, cap, cur, rfl, hb, rest⟩
  · exact .inl hn
  · exact .inr ⟨g, cap, cur, rfl, Nat.le_trans hB hb, rest⟩
/-- Two rows lie in two blocks. -/
def Apart (vi vd : Value) : Prop := ∀ k, vi.ownBlock = some k → vd.ownBlock = some k → False
set_option maxHeartbeats 1500000 in
set_option maxRecDepth 100000 in
theorem implBuild (v : Value) (L : List Sp) (o : Int) (B : Nat) (w : World) (h : SpRow w B v L) (hr : right L = true) (hl : L.length ≤ 1048576) :
    Calls Tryd.prog 5 #[v, .int .i64 o] w fun e w' => ∃ vi vd, e = .returned (.agg #[vi, vd]) ∧ w'.ownsRow w.heap.size 2 1 vi 512 ((bld (valsL L o) 512).2.map (Value.int .i64)) ∧ w'.ownsRow w.heap.size 2 1 vd ((bld (valsL L o) 512).1.length * 64) ((bld (valsL L o) 512).1.flatten.map (Value.int .i64)) ∧ Below w.heap.size w w' ∧ Apart vi vd := by
  obtain ⟨i0, hi, hz0, hz1, hz2⟩ := info_parts info2
  have HR := hide hr
  have HF : Hid (faultOf L = 0) := hide (by unfold faultOf; rw [hr]; rfl)
  have H := hide h
  clear h hr
  have W0 : Hid (Below w.heap.size w (w.alloc (.cells #[.slice none 0 0, .slice none 0 0] 28))) := hide ((Below.refl _ _).alloc (Nat.le_refl _) _)
  have S0 : Hid ((w.alloc (.cells #[.slice none 0 0, .slice none 0 0] 28)).heap.size = w.heap.size + 1) := hide (by simp)
  have C0 : Hid ((w.alloc (.cells #[.slice none 0 0, .slice none 0 0] 28)).heap[w.heap.size]? = some (.cells #[.slice none 0 0, .slice none 0 0] 28 (0, 0))) := hide (heap_alloc_new _ _)
  have H0 := hide ((unhide H).below (unhide W0))
  clear H
  go_enter Tryd.func5, Tryd.ntmps5
  go_wp2_with fail
  generalize w.alloc (.cells #[.slice none 0 0, .slice none 0 0] 28) = w0 at *
  refine (implFault _ L B _ (unhide H0) hl).mono ?_
  rintro e w1 ⟨rfl, hb1⟩
  rw [unhide HF]
  have H1 := hide ((unhide H0).below hb1)
  have B1 : Hid (Below (w.heap.size + 1) w0 w1) := hide (hb1.mono (by rw [unhide S0]; exact Nat.le_refl _))
  clear hb1 H0
  go_wp2_with fail
  refine (valuesOf_any _ L o B _ (unhide H1) (unhide HR)).mono ?_
  rintro e w2 ⟨rfl, hv, hb2⟩
  have hs1 := (unhide B1).size
  rw [unhide S0] at hs1
  have HV : Hid (VRow w2 (w1.heap.size + 1) (fun q => pv L o q)) := hide hv
  have B2 : Hid (Below (w.heap.size + 1) w0 w2) := hide ((unhide B1).trans (hb2.mono hs1))
  have hs2 : w1.heap.size + 1 < w2.heap.size := (World.ownsRow.lt hv _ rfl).2
  clear hv hb2 B1 H1
  go_wp2_with (first | refine wpList_allocT rfl rfl ?_ | (at_make; refine wpList_make_full _ rfl _ _ 26 rfl (w2.heap.size + 1) 2 i0 (.int .i64 0) 1 Tryd.underlying26 hi hz0 hz1 .i64 .i64 _ _ 512 rfl rfl rfl rfl ?b2 ?b3 ?b4 ?_))
  case b2 => rw [hz2]; omega
  case b3 => unfold maxLen; omega
  case b4 => simp
  have HT := hide (TabI.start w2)
  have B3 : Hid (Below w2.heap.size w2 (w2.alloc (.cells (Array.replicate 513 (.slice none 0 0)) 52))) := hide ((Below.refl _ _).alloc (Nat.le_refl _) _)
  have S3 : (w2.alloc (.cells (Array.replicate 513 (.slice none 0 0)) 52)).heap.size = w2.heap.size + 1 := by simp
  intro w4 hown hgrow
  generalize w2.alloc (.cells (Array.replicate 513 (.slice none 0 0)) 52) = w3 at *
  try simp only [S3] at hown
  try simp only [S3]
  have ST : Hid (BSt w2 w4 w2.heap.size w2.heap.size (w2.heap.size + 1) (valsL L o) 0) := hide (by
    refine ⟨⟨_, _, _, (unhide HT).kept (grown_some (i := w2.heap.size + 1) hgrow) (by omega) (by omega) (by simp [Value.ownBlock]) (fun s _ => by simp [Value.ownBlock]), ?_, fun s _ => by simp [Value.ownBlock]⟩, (unhide B3).grown hgrow (by omega) (fun k hk => by cases hk)⟩
    rw [ixL_zero, ← toList_madeCells_one]
    exact heap_of_own hown)
  clear hown hgrow HT B3
  have HD : Hid (∀ W, Below w2.heap.size w2 W → ∀ k, k < 512 → BlkAt W w2.heap.size (.slice (some ⟨w1.heap.size + 1, k * 64, none⟩) 64 (32768 - k * 64)) (blk (valsL L o) k)) := hide (fun W hW k hk => by
    have := blk_cell (off := 0) (cap := 32768 - k * 64) (l := valsL L o) hs2 (fun i hi => (hW.cell (p := ⟨w1.heap.size + 1, 0 + i, none⟩) hs2).trans (by
      have hi' : i < 32768 := by rw [valsL_len] at hi; omega
      have := ((unhide HV).at i hi').1
      rw [Nat.zero_add, this]
      simp [nth, valsL, tabF, List.getD, hi'])) 512 k (valsL_len L o) hk
    rwa [Nat.zero_add] at this)
  clear HV
  generalize hvl : valsL L o = vl at *
  have HVL := hide hvl
  clear hvl
  go_wp2
  go_loopw [19] (fun iv wr => ∃ k : Nat, k ≤ 512 ∧ iv = .int .i64 k ∧ Hid (BSt w2 wr w2.heap.size w2.heap.size (w2.heap.size + 1) vl k)) (fun i _ => 512 - (intOf i).toNat)
  case atStart => exact ⟨0, Nat.zero_le _, rfl, ST⟩
  case round =>
    obtain ⟨k, hk, rfl, HS⟩ := hrel
    clear ST
    by_cases hlt : k < 512
    · have hlt' : (k : Int) < 512 := by omega
      obtain ⟨⟨V, bs, S, hT, hK⟩, hB⟩ := unhide HS
      have HT := hide hT
      have HK := hide hK
      have HB := hide hB
      have HX := hide ((unhide HD) wr hB k hlt)
      have hbk := bld_len vl k
      have HPut : Hid (∀ w6, Below w2.heap.size wr w6 → (∃ V bs S, TabI w6 w2.heap.size w2.heap.size (addB (bld vl k).1 (blk vl k)) (addB (bld vl k).1 (blk vl k)) V bs S ∧ Kp w6 S (w2.heap.size + 1) (ixL vl k).toArray) → BSt w2 (w6.setCell ⟨w2.heap.size + 1, k, none⟩ (.int .i64 ((idxF (blk vl k) (bld vl k).1 : Nat) : Int))) w2.heap.size w2.heap.size (w2.heap.size + 1) vl (k + 1)) := hide (fun w6 h1 h2 => BSt.put hlt (by omega) (Nat.le_refl _) hB h1 h2)
      have HAt : Hid (∀ w6 S, Kp w6 S (w2.heap.size + 1) (ixL vl k).toArray → w6.cell? ⟨w2.heap.size + 1, k, none⟩ = some (.int .i64 0) ∧ w6.frozen? ⟨w2.heap.size + 1, k, none⟩ = false) := hide (fun w6 S h => h.at hlt)
      clear hT hK hB HS
      generalize (bld vl k).1 = T at *
      generalize blk vl k = bb at *
      go_wp2_with fail
      refine (blockAt_any (w1.heap.size + 1) 0 32768 32768 k _ (by omega) (by omega) (by omega)).mono ?_
      rintro e w5 ⟨rfl, rfl⟩
      rw [Nat.zero_add]
      go_wp2_with fail
      refine (place_kp w5 w2.heap.size w2.heap.size T V bs S _ bb (unhide HT) (unhide HX) (by omega)).mono ?_
      rintro e w6 ⟨rfl, ⟨V', bs', S', hT', hK'⟩, hb6⟩
      have hK6 := hK' _ _ (unhide HK)
      obtain ⟨d0, d1⟩ := (unhide HAt) _ _ hK6
      have HP := hide ((unhide HPut) w6 hb6 ⟨V', bs', S', hT', hK6⟩)
      clear hT' hK' hK6 hb6 HX HK HT HB HPut HAt
      generalize idxF bb T = x at *
      go_wp2
      go_roundw
      case rel => exact ⟨k + 1, by omega, by go_num, HP⟩
      case measure => simp [intOf]; omega
    · obtain rfl : k = 512 := by omega
      obtain ⟨⟨V, bs, S, hT, hK⟩, hB⟩ := unhide HS
      have HO := hide hT.own
      have HK := hide hT.blk
      have c0 := hT.c0
      have hBs := hT.hB
      have h0 := bld_pos vl 511
      have h5 := bld_len vl 512
      have HI : Hid (wr.heap[w2.heap.size + 1]? = some (.cells ((bld vl 512).2.map (Value.int .i64)).toArray 2 (0, 0))) := hide (by rw [← ixL_full]; exact hK.1)
      have HIl := hide (bld_ix_len vl 512)
      have HB := hide hB
      clear hT hK hB HS HD
      generalize hTe : (bld vl 512).1 = T at *
      generalize hXe : (bld vl 512).2 = ix at *
      have HTe := hide hTe
      have HXe := hide hXe
      clear hTe hXe
      obtain ⟨va, vc, hV⟩ := own_form (unhide HO)
      subst hV
      go_wp2_with fail
      refine (concat_any _ w2.heap.size w2.heap.size T _ bs (unhide HO) (unhide HK) hBs h0 (by omega)).mono ?_
      rintro e w7 ⟨v', rfl, ho, hb7⟩
      have hil := (Array.getElem?_eq_some_iff.1 (unhide HI)).1
      have B7 : Hid (Below (w.heap.size + 1) w0 w7) := hide ((unhide B2).trans (((unhide HB).mono (by omega)).trans (hb7.mono (by omega))))
      have h7 : w7.heap[w.heap.size]? = some (.cells #[.slice none 0 0, .slice none 0 0] 28 (0, 0)) := ((unhide B7).block _ (by omega)).trans (unhide C0)
      have i7 : Hid (w7.heap[w2.heap.size + 1]? = some (.cells (ix.map (Value.int .i64)).toArray 2 (0, 0))) := hide ((hb7.block _ hil).trans (unhide HI))
      obtain ⟨sa, sc, hv'⟩ := own_form ho
      subst hv'
      have O7 := hide ho
      have e0 : w7.cell? ⟨w.heap.size, 0, none⟩ = some (.slice none 0 0) := by simp [World.cell?, h7]
      have e1 : w7.cell? ⟨w.heap.size, 1, none⟩ = some (.slice none 0 0) := by simp [World.cell?, h7]
      have f0 : w7.frozen? ⟨w.heap.size, 0, none⟩ = false := by simp [World.frozen?, h7]
      have f1 : w7.frozen? ⟨w.heap.size, 1, none⟩ = false := by simp [World.frozen?, h7]
      clear ho hb7 HO HK HI
      go_wp2
      refine bodyPost_ret (by simp [results, Tryd.results5, go_sem, e0, e1]; try rfl) rfl ?_
      rw [unhide HVL, unhide HTe, unhide HXe]
      have OI := own_base (B := w.heap.size) (own_of_heap (n := 512) (unhide i7) (by rw [List.length_map]; exact unhide HIl) (by unfold maxLen; omega)) (by omega)
      have OD := own_base (B := w.heap.size) (unhide O7) (by omega)
      have nd : ∀ j, (Value.slice sa (T.length * 64) sc).ownBlock = some j → j ≠ w.heap.size := fun j hj => by
        have := ((unhide O7).lt j hj).1
        omega
      have hap : w2.heap.size + 1 < wr.heap.size := hil
      refine ⟨_, _, rfl, ?_, ?_, ?_, fun k hk hj => ?_⟩
      · exact World.ownsRow.kept (World.ownsRow.kept OI set_grown (.inr (by simp [Value.ownBlock]; omega))) set_grown (.inr (by simp [Value.ownBlock]; omega))
      · exact World.ownsRow.kept (World.ownsRow.kept OD set_grown (.inr (fun e => nd _ e rfl))) set_grown (.inr (fun e => nd _ e rfl))
      · exact (((unhide W0).trans ((unhide B7).mono (by omega))).setCell (p := ⟨w.heap.size, 0, none⟩) (Nat.le_refl _) _).setCell (p := ⟨w.heap.size, 1, none⟩) (Nat.le_refl _) _
      · have h1 := ((unhide O7).lt k hj).1
        simp [Value.ownBlock] at hk
        omega
end Go.Proofs.YtjncfkcpjjnmdaaDoor
