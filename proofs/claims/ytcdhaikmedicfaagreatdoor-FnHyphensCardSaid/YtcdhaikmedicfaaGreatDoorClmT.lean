/- Columns, as the specification makes them: the walk. -/
import Derived.Test.YtcdhaikmedicfaaGreatDoorCA
import Derived.Test.YtcdhaikmedicfaaGreatDoorCP
import Derived.Test.YtcdhaikmedicfaaGreatDoorStrD
import Derived.Test.YtcdhaikmedicfaaGreatDoorAppG
import Derived.BigQuiet
namespace Go.Proofs.YtcdhaikmedicfaaGreatDoor
namespace Clm
open Go.RowKit
set_option linter.unusedVariables false
set_option linter.unusedSimpArgs false
theorem info22 : (Tryz.prog.info? 23).map (fun i => (i.zero, i.size, i.bytes)) = some (some (.slice none 0 0), 1, 24) := by kernel_rfl
theorem put_of_lt {V : List Int} {k : Nat} {v : Int} (h : k < V.length) (h2 : V.getD k 0 < v) : put1 V k v = V.set k v := by
  unfold put1
  rw [if_pos h]
  congr 1
  omega
theorem set_sameC (L : List Int) (i : Nat) : L.set i (L.getD i 0) = L := by
  apply List.ext_getElem?
  intro j
  rw [List.getElem?_set]
  by_cases e : i = j
  · subst e
    rw [if_pos rfl]
    by_cases c : i < L.length
    · rw [if_pos c, List.getD_eq_getElem?_getD, List.getElem?_eq_getElem c]; rfl
    · rw [if_neg c, List.getElem?_eq_none (by omega)]
  · rw [if_neg e]
theorem put_of_ge {V : List Int} {k : Nat} {v : Int} (h : k < V.length) (h2 : ¬ V.getD k 0 < v) : put1 V k v = V := by
  unfold put1
  rw [if_pos h, show max (V.getD k 0) v = V.getD k 0 by omega, set_sameC]
theorem getD_last (V : List Int) (x : Int) : (V ++ [x]).getD V.length 0 = x := by simp [List.getD_eq_getElem?_getD]
theorem put_end_ge {V : List Int} {v : Int} (h0 : 0 ≤ v) (h : ¬ 0 < v) : put1 V V.length v = V ++ [0] := by
  unfold put1
  rw [if_neg (by omega), show v = 0 by omega]
theorem put_end_lt {V : List Int} {v : Int} : put1 V V.length v = (V ++ [0]).set V.length v := by
  unfold put1
  rw [if_neg (by omega)]
  simp
theorem tx_new {w : World} {B B2 : Nat} (hB2 : B2 ≤ B) {v : Value} {l : List ByteArray} {k1 k2 : Option Nat} (h : w.ownsRow B 9 1 v l.length (l.map Value.string)) (hl : 0 < l.length) (h1 : ∀ k, k1 = some k → k < B) (h2 : ∀ k, k2 = some k → k < B) : Tx B2 w v l k1 k2 := by
  rcases h.2 with ⟨rfl, h0⟩ | ⟨g, cap, cur, rfl, hb, hh, hn, hm, hs, ht⟩
  · omega
  · refine ⟨g, cap, rfl, ⟨by omega, (Array.getElem?_eq_some_iff.1 hh).1⟩, fun e => by have := h1 g e; omega, fun e => by have := h2 g e; omega, fun k hk => ?_⟩
    rw [h.cellAt k (by omega), List.getElem?_map, List.getElem?_eq_getElem hk]
    unfold nthS
    simp [List.getD_eq_getElem?_getD, hk]
theorem nthS_app (L : List ByteArray) (y : ByteArray) (k : Nat) (h : k < L.length) : nthS (L ++ [y]) k = nthS L k := by
  unfold nthS
  rw [List.getD_eq_getElem?_getD, List.getElem?_append_left h, ← List.getD_eq_getElem?_getD]
theorem row_at2 {w : World} {B : Nat} {v : Value} {W : List Int} (h : w.ownsRow B 2 1 v W.length (W.map (Value.int .i64))) (hl : 0 < W.length) : ∃ g c, v = .slice (some ⟨g, 0, none⟩) W.length c ∧ g < w.heap.size ∧ (∀ k, k < W.length → w.cell? ⟨g, k, none⟩ = some (.int .i64 (W.getD k 0))) ∧ ∀ k, w.frozen? ⟨g, k, none⟩ = false := by
  rcases h.2 with ⟨rfl, h0⟩ | ⟨g, cap, cur, rfl, hb, hh, hn, hm, hs, ht⟩
  · omega
  · refine ⟨g, cap, rfl, (Array.getElem?_eq_some_iff.1 hh).1, fun k hk => ?_, fun k => h.frozenAt k⟩
    rw [h.cellAt k (by omega), List.getElem?_map, List.getElem?_eq_getElem hk]
    simp [List.getD_eq_getElem?_getD, hk]
theorem row_atV {w : World} {B n : Nat} {e : TypeId} {v : Value} {xs : List Value} (h : w.ownsRow B e 1 v n xs) (hl : 0 < n) : ∃ g c, v = .slice (some ⟨g, 0, none⟩) n c ∧ (B ≤ g ∧ g < w.heap.size) ∧ ∀ k u, k < n → xs[k]? = some u → w.cell? ⟨g, k, none⟩ = some u := by
  rcases h.2 with ⟨rfl, h0⟩ | ⟨g, cap, cur, rfl, hb, hh, hn, hm, hs, ht⟩
  · omega
  · refine ⟨g, cap, rfl, ⟨hb, (Array.getElem?_eq_some_iff.1 hh).1⟩, fun k u hk hu => ?_⟩
    rw [h.cellAt k (by omega), hu]
theorem add_anyC (A B : ByteArray) (h : A.size + B.size ≤ 4294967296) (W : World) : (Op.stringOp .add A B).run Tryz.prog W = .ok (.string (A ++ B)) W :=
  run_string_add_sum W _ _ (by omega)
theorem bk_bd {P : List ByteArray} {gap : Int} (h0 : 0 ≤ gap) (h1 : gap ≤ 20) {i k : Nat} (hi : i < P.length) (hk : k < (cel (nthS P i)).length) : 0 ≤ bk (wal P P.length) (cel (nthS P i)) gap k ∧ bk (wal P P.length) (cel (nthS P i)) gap k ≤ 131092 := by
  have a := (wal_has P i P.length k hi hk).1
  have b := wal_bd P P.length k
  have c := wx_bd (nthS (cel (nthS P i)) k)
  unfold bk
  omega
theorem fz_bd {P : List ByteArray} {gap : Int} (h0 : 0 ≤ gap) (h1 : gap ≤ 20) {i : Nat} (hi : i < P.length) (hz : (nthS P i).size ≤ 65536) : ∀ k, k ≤ (cel (nthS P i)).length → 0 ≤ fz (wal P P.length) (cel (nthS P i)) gap k ∧ fz (wal P P.length) (cel (nthS P i)) gap k ≤ 200000 * (k : Int)
  | 0, _ => by rw [fz]; omega
  | k + 1, hk => by
    have ih := fz_bd h0 h1 hi hz k (by omega)
    have b := bk_bd h0 h1 hi (k := k) (by omega)
    have c := cel_size (nthS P i) k (by omega)
    rw [fz]
    omega
theorem wal_lenF (P : List ByteArray) : ∀ i, (∀ j, j < i → (nthS P j).size ≤ 65536) → (wal P i).length ≤ 65536
  | 0, _ => Nat.zero_le _
  | i + 1, h => by
    have ih := wal_lenF P i (fun j hj => h j (by omega))
    have a := wup_len (wal P i) (cel (nthS P i)) (cel (nthS P i)).length
    have b := cel_len (nthS P i)
    have c := h i (by omega)
    rw [wal]
    omega
set_option maxRecDepth 100000 in
set_option maxHeartbeats 8000000 in
theorem colS (v : Value) (P : List ByteArray) (gap : Int) (w : World) (hv : StrsAt w v P) (hP : P.length ≤ 1000) (h0 : 0 ≤ gap) (h1 : gap ≤ 20) (f : Nat) (hfP : f ≤ P.length) (hbig0 : f < P.length → 65536 < (nthS P f).size) (hz : ∀ i, i < f → (nthS P i).size ≤ 65536) :
    Calls Tryz.prog 11 #[v, .int .i64 gap] w fun e w' => NewS w w' e (clm P gap) := by
  obtain ⟨i0, hi, hz0, hz1, hz2⟩ := info_parts info2
  obtain ⟨j0, hj, hy0, hy1, hy2⟩ := info_parts info22
  obtain ⟨k0, hk, hx0, hx1, hx2⟩ := info_parts info9
  obtain ⟨va, vc, rfl, hva⟩ := hv
  have HVA : Hid (0 < P.length → ∃ b off, va = some ⟨b, off, none⟩ ∧ b < w.heap.size ∧ ∀ i, i < P.length → w.cell? ⟨b, off + i, none⟩ = some (.string (nthS P i))) := hide (fun h => by
    rcases hva with h0 | ⟨b, off, h1, h2, h3⟩
    · first | omega | (subst h0; simp at h)
    · exact ⟨b, off, h1, h2, h3⟩)
  have CC := hide (fun i (h : i < f) W => cutS (nthS P i) (hz i h) W)
  have CW := hide (fun i k (h : i < f) (hk : k < (cel (nthS P i)).length) W => Wid.wideS (nthS (cel (nthS P i)) k) (Nat.le_trans (cel_size _ k hk) (hz i h)) W)
  have HZ := hide hz
  have HBG := hide hbig0
  clear hva hz hbig0
  have hPI : ¬ (1000 : Int) < (P.length : Int) := by omega
  have h0n : ¬ gap < 0 := by omega
  have h1n : ¬ (20 : Int) < gap := by omega
  obtain ⟨w1, hw1⟩ : ∃ w1, w1 = w.alloc (.cells #[] 9) := ⟨_, rfl⟩
  obtain ⟨w2, hw2⟩ : ∃ w2, w2 = w1.alloc (.cells #[] 2) := ⟨_, rfl⟩
  obtain ⟨w3, hw3⟩ : ∃ w3, w3 = w2.alloc (.cells #[] 23) := ⟨_, rfl⟩
  have z1 : w1.heap.size = w.heap.size + 1 := by rw [hw1]; simp
  have z2 : w2.heap.size = w.heap.size + 2 := by rw [hw2]; simp [z1]
  have z3 : w3.heap.size = w.heap.size + 3 := by rw [hw3]; simp [z2]
  have z2b : w2.heap.size = w1.heap.size + 1 := by omega
  have X3 : Hid (Cx w1.heap.size w3 (.slice (some ⟨w.heap.size + 1, 0, none⟩) 0 0) (wal P 0) (.slice (some ⟨w.heap.size + 1 + 1, 0, none⟩) 0 0) [] P 0) := hide (by
    rw [← z1, ← z2b]
    refine ⟨?_, ?_, fun k e e2 => ?_, fun j hj => absurd hj (by omega)⟩
    · rw [hw3]
      refine own_allocC ?_ _
      rw [hw2]
      exact World.ownsRow_lit w1 #[] 0 (Nat.le_refl _) (by unfold maxLen; omega) rfl
    · rw [hw3]
      have h := World.ownsRow_lit w2 (e := 23) (size := 1) #[] 0 (base := w1.heap.size) (by omega) (by unfold maxLen; omega) rfl
      exact h
    · have e' : w1.heap.size = k := by injection e
      have e2' : w2.heap.size = k := by injection e2
      omega)
  have B3 : Hid (Below w1.heap.size w1 w3) := hide (by
    rw [hw3, hw2]
    exact ((Below.refl _ _).alloc (Nat.le_refl _) _).alloc (by simp) _)
  have O1 : Hid (w1.ownsRow w.heap.size 9 1 (.slice (some ⟨w.heap.size, 0, none⟩) 0 0) ([] : List ByteArray).length (([] : List ByteArray).map Value.string)) := hide (by
    rw [hw1]
    exact World.ownsRow_lit w #[] 0 (Nat.le_refl _) (by unfold maxLen; omega) rfl)
  have B1 : Hid (Below w.heap.size w w1) := hide (by rw [hw1]; exact (Below.refl _ _).alloc (Nat.le_refl _) _)
  have Z1 := hide z1
  clear z1 z2 z3 z2b
  go_enter Tryz.func11, Tryz.ntmps11
  go_wp2_with fail
  simp only [← hw1, ← hw2, ← hw3]
  clear hw1 hw2 hw3
  go_loopw [6, 7, 8] (fun v6 v7 v8 wr => ∃ (i : Nat) (Cs : List Value), i ≤ f ∧ v8 = .int .i64 (i : Int) ∧ Hid (Cx w1.heap.size wr v6 (wal P i) v7 Cs P i) ∧ Hid (Below w1.heap.size w1 wr)) (fun _ _ v _ => P.length - (intOf v).toNat)
  case atStart => exact ⟨0, [], by omega, rfl, X3, B3⟩
  case round =>
    obtain ⟨i, Cs, hi2, rfl, HX, HB⟩ := hrel
    by_cases hlt : i < f
    · have hI : (i : Int) < (P.length : Int) := by omega
      obtain ⟨b, off, rfl, hbw, hc⟩ := (unhide HVA) (by omega)
      have hb1 : b < w1.heap.size := by have := unhide Z1; omega
      have hsz := (unhide HB).size
      have c0 := ((unhide B1).cell (p := ⟨b, off + i, none⟩) hbw).trans (hc i (by omega))
      have c1 := ((unhide HB).cell (p := ⟨b, off + i, none⟩) hb1).trans c0
      have hx65 := (unhide HZ) i hlt
      have hxI : ¬ (65536 : Int) < ((nthS P i).size : Int) := by omega
      have CCi := hide ((unhide CC) i hlt)
      have CWi := hide (fun k hk => (unhide CW) i k hlt hk)
      have HWN : Hid (wal P (i + 1) = wup (wal P i) (cel (nthS P i)) (cel (nthS P i)).length) := hide rfl
      obtain ⟨ca, cc, rfl⟩ := form_ownC (unhide HX).oc
      obtain ⟨wa, wc, rfl⟩ := form_ownC (unhide HX).ow
      have HLX : Hid (nthS P i = nthS P i) := hide rfl
      clear hc c0
      generalize hX : nthS P i = X at *
      have HXE := hide hX
      clear hX HLX
      have hcl := cel_len X
      obtain ⟨L, hL⟩ : ∃ L, cel X ++ [lst X] = L := ⟨_, rfl⟩
      have HLN : Hid (L.length = (cel X).length + 1) := hide (by rw [← hL]; simp)
      have HLK : Hid (∀ k, k < (cel X).length → nthS L k = nthS (cel X) k) := hide (fun k h => by rw [← hL]; exact nthS_app _ _ _ h)
      rw [hL] at CCi
      have HLE := hide hL
      have hL0 : 0 < L.length := by rw [unhide HLN]; omega
      clear hL
      have KW := hide (fun k e => ((unhide HX).ow.lt k e).2)
      have KC := hide (fun k e => ((unhide HX).oc.lt k e).2)
      go_wp2_with fail
      refine ((unhide CCi) _).mono ?_
      rintro e w4 ⟨u, rfl, ho, hb4⟩
      obtain ⟨tb, tc, rfl, ht1, ht2, ht3, ht4⟩ := tx_new hsz ho hL0 (unhide KW) (unhide KC)
      have T4 : Hid (Tx w1.heap.size w4 (.slice (some ⟨tb, 0, none⟩) L.length tc) L (Value.slice wa (wal P i).length wc).ownBlock (Value.slice ca i cc).ownBlock) := hide ⟨tb, tc, rfl, ht1, ht2, ht3, ht4⟩
      have X4 := hide ((unhide HX).below hb4)
      have B4 := hide ((unhide HB).trans (hb4.mono hsz))
      have z4 := hb4.size
      clear ho hb4 ht1 ht2 ht3 ht4 c1
      go_wp2_with (at_builtin; refine wpList_appG _ rfl _ _ 56 rfl w1.heap.size 23 j0 (.slice none 0 0) 1 24 Tryz.underlying56 hj hy0 hy1 hy2 rfl (by decide) _ _ _ rfl ((unhide X4).alloc _).oc ⟨w4.heap.size, 0, none⟩ 1 1 [.slice (some ⟨tb, 0, none⟩) L.length tc] rfl rfl ?g1 ?g2 ?g3 ?g4 ?g5 ?_)
      case g1 => exact cell_one_new _ _ _
      case g2 => intro u2 hu; simp at hu; subst hu; rfl
      case g3 => unfold maxLen; omega
      case g4 => omega
      case g5 => simp; omega
      intro v' w5 ho5 hg5 hk5
      have hz5 : (w4.alloc (.cells #[.slice (some ⟨tb, 0, none⟩) L.length tc] 23)).heap.size = w4.heap.size + 1 := by simp
      have X5 : Hid (Cx w1.heap.size w5 (.slice wa (wal P i).length wc) (wal P i) v' (Cs ++ [.slice (some ⟨tb, 0, none⟩) L.length tc]) P (i + 1)) := hide (((unhide X4).alloc _).addC _ (by
        rw [unhide HXE, unhide HLE]
        exact (unhide T4).kept (by rw [hz5]; omega) (fun b hl _ _ => Below.heap_alloc _ _ _ hl) (fun b e => .inl e) (fun b e => .inl e)) ho5 hg5 (fun k e => by rw [hz5]; exact hk5 k e))
      have B5 : Hid (Below w1.heap.size w1 w5) := hide (((unhide B4).alloc (by omega) _).grown hg5 (by rw [hz5]; omega) (fun k e => ((unhide X4).oc.lt k e).1))
      have hsz5 := (unhide B5).size
      have HWI : Hid ((wal P i).length ≤ 65536) := hide (wal_lenF P i (fun j hj => (unhide HZ) j (by omega)))
      have HWB := hide (fun k j => wup_bd (wal P i) (cel X) (wal_bd P i) k j)
      have HWL := hide (fun k => wup_len (wal P i) (cel X) k)
      have HW0 : Hid (wup (wal P i) (cel X) 0 = wal P i) := hide rfl
      rw [← unhide HW0] at X5
      have HCI : Hid ((Cs ++ [Value.slice (some ⟨tb, 0, none⟩) L.length tc])[i]? = some (.slice (some ⟨tb, 0, none⟩) L.length tc)) := hide (by
        have h := (unhide HX).oc.1
        rw [List.getElem?_append_right (by omega), show i - Cs.length = 0 by omega]
        rfl)
      generalize Cs ++ [Value.slice (some ⟨tb, 0, none⟩) L.length tc] = Cs2 at *
      have HWX := hide (fun k => wx_bd (nthS (cel X) k))
      have HTX : Hid (∀ (wk : World) (vk : Value) (W : List Int), Cx w1.heap.size wk vk W v' Cs2 P (i + 1) → tb < wk.heap.size ∧ ∀ k, k < L.length → wk.cell? ⟨tb, k, none⟩ = some (.string (nthS L k))) := hide (fun wk vk W hx => by
        obtain ⟨u, hu, hT⟩ := hx.tx i (by omega)
        rw [unhide HCI] at hu
        injection hu with hu
        rw [← hu, unhide HXE, unhide HLE] at hT
        obtain ⟨b2, c2, e2, h1, _, _, h4⟩ := hT
        injection e2 with e2
        injection e2 with e2
        injection e2 with e2
        subst e2
        exact ⟨h1.2, h4⟩)
      clear HX X4 B4 T4 HB CCi KW KC ho5 hg5 hk5 hz5
      go_wp2_with fail
      go_loopw [6, 10] (fun v6 v10 wk => ∃ k : Nat, k ≤ (cel X).length ∧ v10 = .int .i64 (k : Int) ∧ Hid (Cx w1.heap.size wk v6 (wup (wal P i) (cel X) k) v' Cs2 P (i + 1)) ∧ Hid (Below w1.heap.size w1 wk)) (fun _ v _ => (cel X).length - (intOf v).toNat)
      case atStart => exact ⟨0, by omega, rfl, X5, B5⟩
      case round =>
        obtain ⟨k, hk2, rfl, HK, HKB⟩ := hrel
        obtain ⟨ka, kc, rfl⟩ := form_ownC (unhide HK).ow
        by_cases hkn : k < (cel X).length
        · have hLL := unhide HLN
          have HNk : Hid (wup (wal P i) (cel X) (k + 1) = put1 (wup (wal P i) (cel X) k) k (wx (nthS (cel X) k))) := hide rfl
          have hlen := (unhide HWL) k
          have hkL : (k : Int) + 1 < (L.length : Int) := by omega
          have hkL2 : (k : Int) < (L.length : Int) := by omega
          have hkb : k ≤ 65536 := by omega
          have hV65 : (wup (wal P i) (cel X) k).length ≤ 131072 := by have := unhide HWI; omega
          have hb2 := (unhide HWB) k k
          obtain ⟨htl, hct⟩ := (unhide HTX) _ _ _ (unhide HK)
          have ct := hct k (by omega)
          rw [(unhide HLK) k hkn] at ct
          have hzk := (unhide HKB).size
          clear hct hLL
          generalize wup (wal P i) (cel X) k = V at *
          by_cases hkV : k < V.length
          · have hkV1 : ((k : Int) == (V.length : Int)) = false := by rw [beq_eq_false_iff_ne]; omega
            have HPY1 : Hid (V.getD k 0 < wx (nthS (cel X) k) → wup (wal P i) (cel X) (k + 1) = V.set k (wx (nthS (cel X) k))) := hide (fun h => by rw [unhide HNk]; exact put_of_lt hkV h)
            have HPN1 : Hid (¬ V.getD k 0 < wx (nthS (cel X) k) → wup (wal P i) (cel X) (k + 1) = V) := hide (fun h => by rw [unhide HNk]; exact put_of_ge hkV h)
            obtain ⟨U, hUV⟩ : ∃ U, V = U := ⟨V, rfl⟩
            subst hUV
            have HU := HK
            have HUB := HKB
            · skip
              obtain ⟨g, gc, hvg, hgl, hgc, hgf⟩ := row_at2 (unhide HU).ow (by omega)
              injection hvg with e1 e2 e3
              subst e1
              subst e3
              clear e2
              have cw := hgc k (by omega)
              have fw := hgf k
              have HSET := hide (fun x => (unhide HU).setW k x)
              have hyT := (unhide HWX) k
              have CWk := hide ((unhide CWi) k hkn)
              have HPY := hide (unhide HPY1)
              have HPN := hide (unhide HPN1)
              have hzU := (unhide HUB).size
              generalize V.getD k 0 = d at *
              clear hgc hgf
              obtain ⟨T, hT⟩ : ∃ T, wx (nthS (cel X) k) = T := ⟨_, rfl⟩
              rw [hT] at HPY HPN hyT
              have CWT : Hid (∀ W, Calls Tryz.prog 33 #[.string (nthS (cel X) k)] W fun e w' => e = .returned (.int .i64 T) ∧ Below W.heap.size W w') := hide (fun W => by rw [← hT]; exact (unhide CWk) W)
              clear hT CWk HPY1 HPN1
              generalize nthS (cel X) k = y at *
              by_cases hdT : d < T
              · have HP := hide ((unhide HPY) hdT)
                clear HPY HPN
                go_upto_region 18 with fail
                go_region_with (go_at_call 33; refine ((unhide CWT) _).mono ?_; rintro e w7 ⟨rfl, hb7⟩; have ct7 := (hb7.cell (p := ⟨tb, k, none⟩) htl).trans ct; have cw7 := (hb7.cell (p := ⟨g, k, none⟩) hgl).trans cw)
                all_goals
                  have b7 := (bdrew (Below.refl _ _) 1).trans hb7
                  have X7 := (unhide HU).below b7
                  have g7 := Nat.lt_of_lt_of_le hgl b7.size
                  have t7 := Nat.lt_of_lt_of_le htl b7.size
                  have B7 := (unhide HUB).trans (b7.mono hzU)
                  have HX7 := hide X7
                  have HB7 := hide B7
                  have z7 := B7.size
                  clear b7 hb7 X7 B7
                  go_simp
                  go_wp2_with fail
                  refine ((unhide CWT) _).mono ?_
                  rintro e w8 ⟨rfl, hb8⟩
                  have X8 := (unhide HX7).below hb8
                  have f8 : w8.frozen? ⟨g, k, none⟩ = false := X8.ow.frozenAt k
                  have c8 := (hb8.cell (p := ⟨g, k, none⟩) g7).trans cw7
                  have X9 := hide (X8.setW k T)
                  rw [← unhide HP] at X9
                  have B9 := hide (((unhide HB7).trans (hb8.mono z7)).setCell (p := ⟨g, k, none⟩) (by exact (X8.ow.lt g rfl).1) (.int .i64 T))
                  have HSZ : Hid ((wup (wal P i) (cel X) (k + 1)).length = V.length) := hide (by rw [unhide HP]; simp)
                  clear X8 hb8
                  go_wp2_with fail
                  go_roundw
                  case rel => exact ⟨k + 1, by omega, by go_num, X9, B9⟩
                  case measure => (simp [intOf] <;> omega)
              · have HP := hide ((unhide HPN) hdT)
                clear HPY HPN
                go_upto_region 18 with fail
                go_region_with (go_at_call 33; refine ((unhide CWT) _).mono ?_; rintro e w7 ⟨rfl, hb7⟩; have ct7 := (hb7.cell (p := ⟨tb, k, none⟩) htl).trans ct; have cw7 := (hb7.cell (p := ⟨g, k, none⟩) hgl).trans cw)
                all_goals
                  have b7 := (bdrew (Below.refl _ _) 1).trans hb7
                  have X7 := hide ((unhide HU).below b7)
                  have B7 := hide ((unhide HUB).trans (b7.mono hzU))
                  clear b7 hb7
                  go_simp
                  go_wp2_with fail
                  go_roundw
                  case rel => exact ⟨k + 1, by omega, by go_num, hide (by rw [unhide HP]; exact unhide X7), B7⟩
                  case measure => (simp [intOf] <;> omega)
          · have hke : k = V.length := by omega
            have hkV1 : ((k : Int) == (V.length : Int)) = true := by rw [hke]; simp
            have HPY0 : Hid (0 < wx (nthS (cel X) k) → wup (wal P i) (cel X) (k + 1) = (V ++ [0]).set k (wx (nthS (cel X) k))) := hide (fun h => by rw [unhide HNk, hke]; exact put_end_lt)
            have HPN0 : Hid (¬ 0 < wx (nthS (cel X) k) → wup (wal P i) (cel X) (k + 1) = V ++ [0]) := hide (fun h => by rw [unhide HNk, hke]; rw [hke] at h; exact put_end_ge (wx_bd _).1 h)
            have HUD : Hid ((V ++ [0]).getD k 0 = 0) := hide (by rw [hke]; exact getD_last _ _)
            have HUL : Hid ((V ++ [0]).length = k + 1) := hide (by rw [List.length_append, hke]; rfl)
            have hz9 : (wr.alloc (.cells #[.int .i64 0] 2)).heap.size = wr.heap.size + 1 := by simp
            have HZ9 := hide hz9
            have HG2 : Hid (∀ u ∈ [Value.int .i64 0], u.oneCell' = true) := hide (fun u2 hu => by simp at hu; subst hu; rfl)
            have HG3 : Hid (V.length + 1 ≤ maxLen) := hide (by unfold maxLen; omega)
            have HG4 : Hid ((V.length + 1) * 8 ≤ 140737488355328) := hide (by omega)
            have HG5 : Hid (w1.heap.size ≤ (wr.alloc (.cells #[.int .i64 0] 2)).heap.size) := hide (by rw [hz9]; omega)
            clear hke hz9 ct htl
            go_wp2_with (at_builtin; refine wpList_appG _ rfl _ _ 26 rfl w1.heap.size 2 i0 (.int .i64 0) 1 8 Tryz.underlying26 hi hz0 hz1 hz2 rfl (by decide) _ _ _ rfl ((unhide HK).alloc _).ow ⟨wr.heap.size, 0, none⟩ 1 1 [.int .i64 0] rfl rfl (cell_one_new _ _ _) (unhide HG2) (unhide HG3) (unhide HG4) (unhide HG5) ?_)
            intro v6 w6 ho6 hg6 hk6
            have HU := hide (((unhide HK).alloc (.cells #[.int .i64 0] 2)).addW 0 ho6 hg6 (fun k e => by rw [unhide HZ9]; exact hk6 k e))
            have HUB : Hid (Below w1.heap.size w1 w6) := hide (((unhide HKB).alloc hzk _).grown hg6 (by rw [unhide HZ9]; omega) (fun k e => ((unhide HK).ow.lt k e).1))
            obtain ⟨htl, hct⟩ := (unhide HTX) _ _ _ (unhide HU)
            have ct := hct k (by have := unhide HLN; omega)
            rw [(unhide HLK) k hkn] at ct
            have hvf : ∃ a c, v6 = .slice a (V.length + 1) c := form_ownC ho6
            clear hct ho6 hg6 hk6
            generalize hUV : V ++ [0] = U at *
            have hkU : k < U.length := by rw [unhide HUL]; omega
            have HPY1 : Hid (U.getD k 0 < wx (nthS (cel X) k) → wup (wal P i) (cel X) (k + 1) = U.set k (wx (nthS (cel X) k))) := hide (fun h => by rw [unhide HUD] at h; exact (unhide HPY0) (by omega))
            have HPN1 : Hid (¬ U.getD k 0 < wx (nthS (cel X) k) → wup (wal P i) (cel X) (k + 1) = U) := hide (fun h => by rw [unhide HUD] at h; exact (unhide HPN0) (by omega))
            obtain ⟨ua, uc, rfl⟩ := form_ownC (unhide HU).ow
            clear hUV hvf HK HKB HPY0 HPN0 HUD hb2 hzk hkV
            · skip
              obtain ⟨g, gc, hvg, hgl, hgc, hgf⟩ := row_at2 (unhide HU).ow (by omega)
              injection hvg with e1 e2 e3
              subst e1
              subst e3
              clear e2
              have cw := hgc k (by omega)
              have fw := hgf k
              have HSET := hide (fun x => (unhide HU).setW k x)
              have hyT := (unhide HWX) k
              have CWk := hide ((unhide CWi) k hkn)
              have HPY := hide (unhide HPY1)
              have HPN := hide (unhide HPN1)
              have hzU := (unhide HUB).size
              generalize U.getD k 0 = d at *
              clear hgc hgf
              obtain ⟨T, hT⟩ : ∃ T, wx (nthS (cel X) k) = T := ⟨_, rfl⟩
              rw [hT] at HPY HPN hyT
              have CWT : Hid (∀ W, Calls Tryz.prog 33 #[.string (nthS (cel X) k)] W fun e w' => e = .returned (.int .i64 T) ∧ Below W.heap.size W w') := hide (fun W => by rw [← hT]; exact (unhide CWk) W)
              clear hT CWk HPY1 HPN1
              generalize nthS (cel X) k = y at *
              by_cases hdT : d < T
              · have HP := hide ((unhide HPY) hdT)
                clear HPY HPN
                go_upto_region 18 with fail
                go_region_with (go_at_call 33; refine ((unhide CWT) _).mono ?_; rintro e w7 ⟨rfl, hb7⟩; have ct7 := (hb7.cell (p := ⟨tb, k, none⟩) htl).trans ct; have cw7 := (hb7.cell (p := ⟨g, k, none⟩) hgl).trans cw)
                all_goals
                  have b7 := (bdrew (Below.refl _ _) 1).trans hb7
                  have X7 := (unhide HU).below b7
                  have g7 := Nat.lt_of_lt_of_le hgl b7.size
                  have t7 := Nat.lt_of_lt_of_le htl b7.size
                  have B7 := (unhide HUB).trans (b7.mono hzU)
                  have HX7 := hide X7
                  have HB7 := hide B7
                  have z7 := B7.size
                  clear b7 hb7 X7 B7
                  go_simp
                  go_wp2_with fail
                  refine ((unhide CWT) _).mono ?_
                  rintro e w8 ⟨rfl, hb8⟩
                  have X8 := (unhide HX7).below hb8
                  have f8 : w8.frozen? ⟨g, k, none⟩ = false := X8.ow.frozenAt k
                  have c8 := (hb8.cell (p := ⟨g, k, none⟩) g7).trans cw7
                  have X9 := hide (X8.setW k T)
                  rw [← unhide HP] at X9
                  have B9 := hide (((unhide HB7).trans (hb8.mono z7)).setCell (p := ⟨g, k, none⟩) (by exact (X8.ow.lt g rfl).1) (.int .i64 T))
                  have HSZ : Hid ((wup (wal P i) (cel X) (k + 1)).length = U.length) := hide (by rw [unhide HP]; simp)
                  clear X8 hb8
                  go_wp2_with fail
                  go_roundw
                  case rel => exact ⟨k + 1, by omega, by go_num, X9, B9⟩
                  case measure => (simp [intOf] <;> omega)
              · have HP := hide ((unhide HPN) hdT)
                clear HPY HPN
                go_upto_region 18 with fail
                go_region_with (go_at_call 33; refine ((unhide CWT) _).mono ?_; rintro e w7 ⟨rfl, hb7⟩; have ct7 := (hb7.cell (p := ⟨tb, k, none⟩) htl).trans ct; have cw7 := (hb7.cell (p := ⟨g, k, none⟩) hgl).trans cw)
                all_goals
                  have b7 := (bdrew (Below.refl _ _) 1).trans hb7
                  have X7 := hide ((unhide HU).below b7)
                  have B7 := hide ((unhide HUB).trans (b7.mono hzU))
                  clear b7 hb7
                  go_simp
                  go_wp2_with fail
                  go_roundw
                  case rel => exact ⟨k + 1, by omega, by go_num, hide (by rw [unhide HP]; exact unhide X7), B7⟩
                  case measure => (simp [intOf] <;> omega)
        · obtain rfl : k = (cel X).length := by omega
          have hkL : ¬ (((cel X).length : Nat) : Int) + 1 < (L.length : Int) := by have := unhide HLN; omega
          go_wp2_with fail
          go_roundw
          case rel => exact ⟨i + 1, Cs2, by omega, by go_num, hide (by rw [unhide HWN]; exact unhide HK), HKB⟩
          case measure => (simp [intOf] <;> omega)
    · obtain rfl : i = f := by omega
      by_cases hfe : i < P.length
      · have hI : (i : Int) < (P.length : Int) := by omega
        obtain ⟨b, off, rfl, hbw, hc⟩ := (unhide HVA) (by omega)
        have hb1 : b < w1.heap.size := by have := unhide Z1; omega
        have c0 := ((unhide B1).cell (p := ⟨b, off + i, none⟩) hbw).trans (hc i hfe)
        have c1 := ((unhide HB).cell (p := ⟨b, off + i, none⟩) hb1).trans c0
        have hx65 := (unhide HBG) hfe
        have hxI : (65536 : Int) < ((nthS P i).size : Int) := by omega
        have HR : Hid (clm P gap = []) := hide (if_neg (fun hf => by
          have := (of_decide_eq_true hf).2.2.2.1 i hfe
          omega))
        have hsz := (unhide HB).size
        have hs1 := (unhide B1).size
        clear hc c0
        generalize nthS P i = X at *
        go_wp2_with fail
        go_ret
        exact ⟨_, rfl, by rw [unhide HR]; exact World.ownsRow_lit wr (base := w.heap.size) #[] 0 (by omega) (by unfold maxLen; omega) rfl, ((unhide B1).trans ((unhide HB).mono hs1)).alloc (by omega) _⟩
      obtain rfl : i = P.length := by omega
      have hII : ¬ (P.length : Int) < (P.length : Int) := by omega
      obtain ⟨ca, cc, rfl⟩ := form_ownC (unhide HX).oc
      obtain ⟨wa, wc, rfl⟩ := form_ownC (unhide HX).ow
      obtain ⟨wz, hwz⟩ : ∃ wz, wz = wr := ⟨_, rfl⟩
      rw [← hwz] at HX HB ⊢
      have XZ := HX
      have BZ := HB
      clear hwz HX HB
      have hzz := (unhide BZ).size
      have hz1 := (unhide B1).size
      have ZO : Hid (wz.ownsRow w.heap.size 9 1 (.slice (some ⟨w.heap.size, 0, none⟩) 0 0) (out (wal P P.length) gap P 0).length ((out (wal P P.length) gap P 0).map Value.string)) := hide (ownsRow_below (unhide O1) (unhide BZ))
      have ZB : Hid (Below w.heap.size w wz) := hide ((unhide B1).trans ((unhide BZ).mono hz1))
      have HBK := hide (fun i k (hi : i < P.length) (hk : k < (cel (nthS P i)).length) => bk_bd (P := P) h0 h1 hi hk)
      have HFZ := hide (fun i (hi : i < P.length) k hk => fz_bd (P := P) h0 h1 hi ((unhide HZ) i hi) k hk)
      have HWH := hide (fun i k (hi : i < P.length) (hk : k < (cel (nthS P i)).length) => wal_has P i P.length k hi hk)
      generalize hW : wal P P.length = W at *
      have HWE := hide hW
      clear hW X3 B3
      go_wp2_with fail
      go_loopw [5, 11] (fun v5 v11 wr => ∃ i : Nat, i ≤ P.length ∧ v11 = .int .i64 (i : Int) ∧ Hid (wr.ownsRow w.heap.size 9 1 v5 (out W gap P i).length ((out W gap P i).map Value.string)) ∧ Hid (∀ k, v5.ownBlock = some k → k = w.heap.size ∨ wz.heap.size ≤ k) ∧ Hid (wz.heap.size ≤ wr.heap.size ∧ ∀ k, w1.heap.size ≤ k → k < wz.heap.size → wr.heap[k]? = wz.heap[k]?) ∧ Hid (Below w.heap.size w wr) ∧ Hid (∀ j, j < i → tot W gap (nthS P j) ≤ 65536)) (fun _ v _ => P.length - (intOf v).toNat)
      case atStart => exact ⟨0, by omega, rfl, ZO, hide (fun k e => .inl (by injection e with e; exact e.symm)), hide ⟨Nat.le_refl _, fun _ _ _ => rfl⟩, ZB, hide (fun j hj => absurd hj (by omega))⟩
      case round =>
        obtain ⟨i, hi2, rfl, HO, HOB, HF, HB, HT⟩ := hrel
        by_cases hlt : i < P.length
        · have hI : (i : Int) < (P.length : Int) := by omega
          obtain ⟨gs, gsc, hgv, hgs, hgsc⟩ := row_atV (unhide XZ).oc (by omega)
          injection hgv with e1 e2 e3
          subst e1
          subst e3
          clear e2
          obtain ⟨u, hu, tb, tc, rfl, htb, _, _, htc⟩ := (unhide XZ).tx i hlt
          have cs0 := hgsc i _ hlt hu
          have cs1 := ((World.cell?_of_block (a := ⟨gs, i, none⟩) ((unhide HF).2 gs hgs.1 hgs.2)).trans cs0)
          have HTC := hide htc
          have HCI := hide (fun k (hk : k < (cel (nthS P i)).length) => (unhide HBK) i k hlt hk)
          have HFI := hide ((unhide HFZ) i hlt)
          have HWI := hide (fun k (hk : k < (cel (nthS P i)).length) => (unhide HWH) i k hlt hk)
          have CWi := hide (fun k hk => (unhide CW) i k hlt hk)
          have hx65 := (unhide HZ) i hlt
          clear hgsc htc cs0 hu
          generalize hX : nthS P i = X at *
          have HXE := hide hX
          clear hX
          obtain ⟨wo, hwo⟩ : ∃ wo, wo = wr := ⟨_, rfl⟩
          rw [← hwo] at cs1 HO HF HB ⊢
          clear hwo
          have hzo := (unhide HF).1
          have hto : tb < wo.heap.size := by omega
          have HTO : Hid (∀ k, k < (cel X ++ [lst X]).length → wo.cell? ⟨tb, k, none⟩ = some (.string (nthS (cel X ++ [lst X]) k))) := hide (fun k hk => (World.cell?_of_block (a := ⟨tb, k, none⟩) ((unhide HF).2 tb htb.1 htb.2)).trans ((unhide HTC) k hk))
          have HWO : Hid (∀ k, k < (cel X).length → ∃ g, wa = some ⟨g, 0, none⟩ ∧ g < wo.heap.size ∧ wo.cell? ⟨g, k, none⟩ = some (.int .i64 (W.getD k 0))) := hide (fun k hk => by
            have hkW := ((unhide HWI) k hk).2
            obtain ⟨g, gc, hgv, hgl, hgc, _⟩ := row_at2 (unhide XZ).ow (by omega)
            injection hgv with e1
            have hgb : w1.heap.size ≤ g := ((unhide XZ).ow.lt g (by rw [e1]; rfl)).1
            exact ⟨g, e1, by omega, (World.cell?_of_block (a := ⟨g, k, none⟩) ((unhide HF).2 g hgb hgl)).trans (hgc k hkW)⟩)
          have HLN : Hid ((cel X ++ [lst X]).length = (cel X).length + 1) := hide (by simp)
          have hcl := cel_len X
          go_wp2_with fail
          go_loopw [14, 15] (fun v14 v15 wk => ∃ (k : Nat) (F : Int), k ≤ (cel X).length ∧ v14 = .int .i64 F ∧ v15 = .int .i64 (k : Int) ∧ Hid (F = fz W (cel X) gap k) ∧ Hid (Below wo.heap.size wo wk)) (fun _ v _ => (cel X).length - (intOf v).toNat)
          case atStart => exact ⟨0, 0, by omega, rfl, rfl, hide rfl, hide (Below.refl _ _)⟩
          case round =>
            obtain ⟨k, F, hk2, rfl, rfl, HFk, HBk⟩ := hrel
            by_cases hkn : k < (cel X).length
            · have hkL : (k : Int) + 1 < ((cel X).length : Int) + 1 := by omega
              have hkL2 : (k : Int) < ((cel X).length : Int) + 1 := by omega
              obtain ⟨g, rfl, hgl, hgc⟩ := (unhide HWO) k hkn
              have cw := ((unhide HBk).cell (p := ⟨g, k, none⟩) hgl).trans hgc
              have ct := ((unhide HBk).cell (p := ⟨tb, k, none⟩) hto).trans ((unhide HTO) k (by rw [unhide HLN]; omega))
              rw [nthS_app _ _ _ hkn] at ct
              have hzk := (unhide HBk).size
              have hgk : g < wr.heap.size := by omega
              have htk : tb < wr.heap.size := by omega
              have hkW := ((unhide HWI) k hkn).2
              have hfz := (unhide HFI) k (by omega)
              have hfz2 := (unhide HFI) (k + 1) (by omega)
              have hbk := (unhide HCI) k hkn
              have hys := cel_size X k hkn
              have hwx := wx_bd (nthS (cel X) k)
              have HS4 : Hid (fz W (cel X) gap (k + 1) = fz W (cel X) gap k + ((nthS (cel X) k).size : Int) + (W.getD k 0 - wx (nthS (cel X) k) + gap)) := hide rfl
              have hbd : bk W (cel X) gap k = W.getD k 0 - wx (nthS (cel X) k) + gap := rfl
              rw [hbd] at hbk
              rw [← unhide HFk] at hfz HS4
              have CWk := hide ((unhide CWi) k hkn)
              obtain ⟨T, hT⟩ : ∃ T, wx (nthS (cel X) k) = T := ⟨_, rfl⟩
              have CWT : Hid (∀ W, Calls Tryz.prog 33 #[.string (nthS (cel X) k)] W fun e w' => e = .returned (.int .i64 T) ∧ Below W.heap.size W w') := hide (fun W => by rw [← hT]; exact (unhide CWk) W)
              rw [hT] at hwx hbk HS4
              clear hT CWk hgc hbd
              generalize nthS (cel X) k = y at *
              generalize W.getD k 0 = d at *
              obtain ⟨s1, hs1⟩ : ∃ s1, F + (y.size : Int) = s1 := ⟨_, rfl⟩
              obtain ⟨s2, hs2⟩ : ∃ s2, s1 + d = s2 := ⟨_, rfl⟩
              obtain ⟨s3, hs3⟩ : ∃ s3, s2 - T = s3 := ⟨_, rfl⟩
              obtain ⟨s4, hs4⟩ : ∃ s4, s3 + gap = s4 := ⟨_, rfl⟩
              have HE4 : Hid (s4 = fz W (cel X) gap (k + 1)) := hide (by rw [unhide HS4]; omega)
              have k4 : k ≤ 65536 := by omega
              have b1 : -1000000 ≤ s1 ∧ s1 ≤ 100000000000 := by omega
              have b2 : -1000000 ≤ s2 ∧ s2 ≤ 100000000000 := by omega
              have b3 : -1000000 ≤ s3 ∧ s3 ≤ 100000000000 := by omega
              have b4 : -1000000 ≤ s4 ∧ s4 ≤ 100000000000 := by omega
              have HWR : Hid (IntKind.i64.wrap (IntKind.i64.wrap (IntKind.i64.wrap (IntKind.i64.wrap s1 + d) - T) + gap) = s4) := hide (by
                rw [wrap_in s1 (by omega) (by omega), hs2, wrap_in s2 (by omega) (by omega), hs3, wrap_in s3 (by omega) (by omega), hs4, wrap_in s4 (by omega) (by omega)])
              clear HS4 hfz hfz2 hbk
              go_upto_region 29 with fail
              go_region_with (go_at_call 33; refine ((unhide CWT) _).mono ?_; rintro e w7 ⟨rfl, hb7⟩; have ct7 := (hb7.cell (p := ⟨tb, k, none⟩) htk).trans ct; have cw7 := (hb7.cell (p := ⟨g, k, none⟩) hgk).trans cw)
              all_goals
                have B7 := hide ((unhide HBk).trans (((bdrew (Below.refl _ _) 1).trans hb7).mono hzk))
                clear hb7
                go_simp
                go_wp2_with fail
                go_roundw
                case rel => exact ⟨k + 1, s4, by omega, by first | rfl | rw [unhide HWR], by go_num, HE4, B7⟩
                case measure => (simp [intOf] <;> omega)
            · obtain rfl : k = (cel X).length := by omega
              have hkL : ¬ (((cel X).length : Nat) : Int) + 1 < ((cel X).length : Int) + 1 := by omega
              have clast := ((unhide HBk).cell (p := ⟨tb, (cel X).length, none⟩) hto).trans ((unhide HTO) (cel X).length (by rw [unhide HLN]; omega))
              have hlast : nthS (cel X ++ [lst X]) (cel X).length = lst X := by unfold nthS; simp [List.getD_eq_getElem?_getD]
              rw [hlast] at clast
              have hfz := (unhide HFI) (cel X).length (by omega)
              rw [← unhide HFk] at hfz
              have hls := lst_size X
              have HTT : Hid (tot W gap X = F + ((lst X).size : Int)) := hide (by unfold tot; rw [← unhide HFk])
              obtain ⟨t, ht⟩ : ∃ t, F + ((lst X).size : Int) = t := ⟨_, rfl⟩
              rw [ht] at HTT
              have htb2 : -1000000 ≤ t ∧ t ≤ 100000000000 := by omega
              have hzk := (unhide HBk).size
              have hwt := wrap_in t (by omega) (by omega)
              obtain ⟨wk, hwk⟩ : ∃ wk, wk = wr := ⟨_, rfl⟩
              rw [← hwk] at clast HBk hzk ⊢
              clear hwk hlast
              by_cases hbig : 65536 < t
              · have HR : Hid (clm P gap = []) := hide (if_neg (fun hf => by
                  have := (of_decide_eq_true hf).2.2.2.2 i hlt
                  rw [unhide HWE, unhide HXE, unhide HTT] at this
                  omega))
                go_wp2_with fail
                go_ret
                exact ⟨_, rfl, by rw [unhide HR]; exact World.ownsRow_lit wk (base := w.heap.size) #[] 0 (by omega) (by unfold maxLen; omega) rfl, ((unhide HB).trans ((unhide HBk).mono (by omega))).alloc (by omega) _⟩
              · have hbig2 : t ≤ 65536 := by omega
                have HBB := hide (fun j (hj : j < (cel X).length) => ((unhide HCI) j hj).1)
                have HUP : Hid (∀ j, j ≤ (cel X).length → fz W (cel X) gap j ≤ 65536) := hide (fun j hj => by
                  have h := fz_up (W := W) (C := cel X) (gap := gap) j ((cel X).length - j) (fun q hq => (unhide HBB) q (by omega))
                  rw [show j + ((cel X).length - j) = (cel X).length by omega, ← unhide HFk] at h
                  omega)
                have HFS : Hid (∀ j, j ≤ (cel X).length → ((fl W (cel X) gap j).size : Int) = fz W (cel X) gap j) := hide (fun j hj => fl_size j (fun q hq => (unhide HBB) q (by omega)))
                go_wp2_with fail
                go_loopw [13, 16] (fun v13 v16 wr => ∃ (k : Nat) (S : ByteArray), k ≤ (cel X).length ∧ v13 = .string S ∧ v16 = .int .i64 (k : Int) ∧ Hid (S = fl W (cel X) gap k) ∧ Hid (Below wo.heap.size wo wr)) (fun _ v _ => (cel X).length - (intOf v).toNat)
                case atStart => exact ⟨0, ⟨#[]⟩, by omega, rfl, rfl, hide rfl, HBk⟩
                case round =>
                  obtain ⟨k, S, hk2, rfl, rfl, HS, HBr⟩ := hrel
                  by_cases hkn : k < (cel X).length
                  · have hkL3 : (k : Int) + 1 < ((cel X).length : Int) + 1 := by omega
                    have hkL4 : (k : Int) < ((cel X).length : Int) + 1 := by omega
                    obtain ⟨g, rfl, hgl, hgc⟩ := (unhide HWO) k hkn
                    have cw := ((unhide HBr).cell (p := ⟨g, k, none⟩) hgl).trans hgc
                    have ct := ((unhide HBr).cell (p := ⟨tb, k, none⟩) hto).trans ((unhide HTO) k (by rw [unhide HLN]; omega))
                    rw [nthS_app _ _ _ hkn] at ct
                    have hzr := (unhide HBr).size
                    have hgk : g < wr.heap.size := by omega
                    have htk : tb < wr.heap.size := by omega
                    have hkW := ((unhide HWI) k hkn).2
                    have hbk := (unhide HCI) k hkn
                    have hys := cel_size X k hkn
                    have hu1 := (unhide HUP) (k + 1) (by omega)
                    have hf0 := (unhide HFI) k (by omega)
                    have hSz : S.size ≤ 65536 := by
                      have h := (unhide HFS) k (by omega)
                      have h2 := (unhide HUP) k (by omega)
                      rw [← unhide HS] at h
                      omega
                    have hfk1 : fz W (cel X) gap (k + 1) = fz W (cel X) gap k + ((nthS (cel X) k).size : Int) + bk W (cel X) gap k := rfl
                    have hbq : bk W (cel X) gap k ≤ 65536 := by omega
                    have HSN : Hid (fl W (cel X) gap (k + 1) = S ++ nthS (cel X) k ++ bla (bk W (cel X) gap k).toNat) := hide (by rw [fl, ← unhide HS])
                    have hbd : bk W (cel X) gap k = W.getD k 0 - wx (nthS (cel X) k) + gap := rfl
                    obtain ⟨q, hq⟩ : ∃ q, (bk W (cel X) gap k).toNat = q := ⟨_, rfl⟩
                    have hqI : bk W (cel X) gap k = (q : Int) := by omega
                    have hq65 : q ≤ 65536 := by omega
                    rw [hq] at HSN
                    rw [hqI] at hbd
                    have CWk := hide ((unhide CWi) k hkn)
                    obtain ⟨T, hT⟩ : ∃ T, wx (nthS (cel X) k) = T := ⟨_, rfl⟩
                    have CWT : Hid (∀ W, Calls Tryz.prog 33 #[.string (nthS (cel X) k)] W fun e w' => e = .returned (.int .i64 T) ∧ Below W.heap.size W w') := hide (fun W => by rw [← hT]; exact (unhide CWk) W)
                    have CBL := hide (fun W => blanksS q (by omega) W)
                    rw [hT] at hbd
                    clear hT CWk hgc hfk1 hu1 hf0 hbk hbq hq hqI
                    generalize nthS (cel X) k = y at *
                    generalize W.getD k 0 = d at *
                    have A1 := add_anyC S y (by omega)
                    obtain ⟨S1, hS1⟩ : ∃ S1, S ++ y = S1 := ⟨_, rfl⟩
                    have hS1z : S1.size ≤ 131072 := by rw [← hS1, ByteArray.size_append]; omega
                    rw [hS1] at A1 HSN
                    have A2 := add_anyC S1 (bla q) (by rw [bla_size]; omega)
                    rw [← unhide HSN] at A2
                    obtain ⟨s1, hs1⟩ : ∃ s1, d - T = s1 := ⟨_, rfl⟩
                    have hs2 : s1 + gap = (q : Int) := by omega
                    have hw1 := wrap_in s1 (by omega) (by omega)
                    have hw2 := wrap_in (q : Int) (by omega) (by omega)
                    clear hS1 hbd
                    go_upto_region 35 with fail
                    go_region_with (first | (go_at_call 33; refine ((unhide CWT) _).mono ?_; rintro e w7 ⟨rfl, hb7⟩; have tk7 := Nat.lt_of_lt_of_le htk hb7.size; have gk7 := Nat.lt_of_lt_of_le hgk hb7.size; have ct7 := (hb7.cell (p := ⟨tb, k, none⟩) htk).trans ct; have cw7 := (hb7.cell (p := ⟨g, k, none⟩) hgk).trans cw) | (go_at_call 34; refine ((unhide CBL) _).mono ?_; rintro e w8 ⟨rfl, hb8⟩; have ct8 := (hb8.cell (p := ⟨tb, k, none⟩) tk7).trans ct7; have cw8 := (hb8.cell (p := ⟨g, k, none⟩) gk7).trans cw7))
                    all_goals
                      have B8 := hide (((unhide HBr).trans (((bdrew (Below.refl _ _) 1).trans hb7).mono hzr)).trans (hb8.mono (Nat.le_trans hzr hb7.size)))
                      clear hb7 hb8
                      go_simp
                      go_wp2_with fail
                      go_roundw
                      case rel => exact ⟨k + 1, _, by omega, rfl, by go_num, hide rfl, B8⟩
                      case measure => (simp [intOf] <;> omega)
                  · obtain rfl : k = (cel X).length := by omega
                    have hkL3 : ¬ (((cel X).length : Nat) : Int) + 1 < ((cel X).length : Int) + 1 := by omega
                    have clast2 := ((unhide HBr).cell (p := ⟨tb, (cel X).length, none⟩) hto).trans ((unhide HTO) (cel X).length (by rw [unhide HLN]; omega))
                    have hlast2 : nthS (cel X ++ [lst X]) (cel X).length = lst X := by unfold nthS; simp [List.getD_eq_getElem?_getD]
                    rw [hlast2] at clast2
                    have hzr := (unhide HBr).size
                    have hSz : S.size ≤ 65536 := by
                      have h := (unhide HFS) (cel X).length (by omega)
                      have h2 := (unhide HUP) (cel X).length (by omega)
                      rw [← unhide HS] at h
                      omega
                    have HROW : Hid (row W gap X = S ++ lst X) := hide (by unfold row; rw [← unhide HS])
                    have A3 := add_anyC S (lst X) (by omega)
                    rw [← unhide HROW] at A3
                    have HOU : Hid (out W gap P (i + 1) = out W gap P i ++ [row W gap X]) := hide (by rw [out, unhide HXE])
                    have HOw := hide (ownsRow_below (unhide HO) (unhide HBr))
                    have hol := out_len W gap P i
                    have HTI : Hid (tot W gap X ≤ 65536) := hide (by rw [unhide HTT]; omega)
                    have HOL := hide hol
                    rw [hol] at HO HOw
                    clear hol
                    obtain ⟨oa, oc2, rfl⟩ := form_ownC (unhide HO)
                    have HL9 : Hid (i + 1 ≤ maxLen) := hide (by unfold maxLen; omega)
                    have HL8 : Hid ((i + 1) * 16 ≤ 140737488355328) := hide (by omega)
                    have hz9 : (wr.alloc (.cells #[.string (row W gap X)] 9)).heap.size = wr.heap.size + 1 := by simp
                    have HZ9 := hide hz9
                    have HB9 : Hid (w.heap.size ≤ (wr.alloc (.cells #[.string (row W gap X)] 9)).heap.size) := hide (by rw [hz9]; omega)
                    have HO9 : Hid (∀ u ∈ [Value.string (row W gap X)], u.oneCell' = true) := hide (fun u2 hu => by simp at hu; subst hu; rfl)
                    clear hz9 hlast2 clast hwt
                    generalize row W gap X = rw9 at *
                    go_wp2_with (at_builtin; refine wpList_appG _ rfl _ _ 23 rfl w.heap.size 9 k0 (.string ⟨#[]⟩) 1 16 Tryz.underlying23 hk hx0 hx1 hx2 rfl (by decide) _ _ _ rfl (own_allocC (unhide HOw) _) ⟨wr.heap.size, 0, none⟩ 1 1 [.string rw9] rfl rfl (cell_one_new _ _ _) (unhide HO9) (unhide HL9) (unhide HL8) (unhide HB9) ?_)
                    intro v' w9 ho9 hg9 hk9
                    have HO2 : Hid (w9.ownsRow w.heap.size 9 1 v' (out W gap P (i + 1)).length ((out W gap P (i + 1)).map Value.string)) := hide (by
                      rw [unhide HOU, List.length_append, List.map_append, unhide HOL]
                      exact ho9)
                    have HG9 := hide hg9
                    have HOB2 : Hid (∀ k, v'.ownBlock = some k → k = w.heap.size ∨ wz.heap.size ≤ k) := hide (fun k e => by
                      rcases hk9 k e with h | h
                      · exact (unhide HOB) k h
                      · have h9 := unhide HZ9
                        exact .inr (by omega))
                    have HF2 : Hid (wz.heap.size ≤ w9.heap.size ∧ ∀ k, w1.heap.size ≤ k → k < wz.heap.size → w9.heap[k]? = wz.heap[k]?) := hide (by
                      have hgs := hg9.size
                      rw [unhide HZ9] at hgs
                      refine ⟨by omega, fun k h1 h2 => ?_⟩
                      have hne : some k ≠ (Value.slice oa i oc2).ownBlock := fun e => by
                        rcases (unhide HOB) k e.symm with h | h
                        · have := unhide Z1; omega
                        · omega
                      rw [hg9.block k (by rw [unhide HZ9]; omega) hne, Below.heap_alloc _ _ _ (by omega), (unhide HBr).block k (by omega)]
                      exact (unhide HF).2 k h1 h2)
                    have HB2 : Hid (Below w.heap.size w w9) := hide ((((unhide HB).trans ((unhide HBr).mono (by omega))).alloc (by omega) _).grown hg9 (unhide HB9) (fun k e => ((unhide HO).lt k e).1))
                    have HT2 : Hid (∀ j, j < i + 1 → tot W gap (nthS P j) ≤ 65536) := hide (fun j hj => by
                      by_cases e : j = i
                      · rw [e, unhide HXE]; exact unhide HTI
                      · exact (unhide HT) j (by omega))
                    clear ho9 hg9 hk9
                    go_wp2_with fail
                    go_roundw
                    case rel => exact ⟨i + 1, hlt, by go_num, HO2, HOB2, HF2, HB2, HT2⟩
                    case measure => (simp [intOf] <;> omega)
        · obtain rfl : i = P.length := by omega
          have hII2 : ¬ (P.length : Int) < (P.length : Int) := by omega
          obtain ⟨oa, oc2, rfl⟩ := form_ownC (unhide HO)
          have HE : Hid (clm P gap = out W gap P P.length) := hide (by
            unfold clm
            rw [if_pos, unhide HWE]
            unfold fits
            rw [unhide HWE]
            exact decide_eq_true ⟨hP, h0, h1, unhide HZ, unhide HT⟩)
          go_wp2_with fail
          go_ret
          exact ⟨_, rfl, by rw [unhide HE]; exact unhide HO, unhide HB⟩
end Clm
end Go.Proofs.YtcdhaikmedicfaaGreatDoor
