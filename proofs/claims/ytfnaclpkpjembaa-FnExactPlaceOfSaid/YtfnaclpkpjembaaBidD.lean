/- Carets, as the program tells them; where points stand, both sides. -/
import Derived.Test.YtfnaclpkpjembaaBidC
namespace Go.Proofs.Ytfnaclpkpjembaa.Bd
open Go.RowKit
set_option linter.unusedVariables false
set_option maxHeartbeats 2000000 in
set_option maxRecDepth 100000 in
theorem caretAt_any (vl vs : Value) (L : List Int) (base at' : Int) (ahead : Bool) (w : World) (hL : IntsAt w vl L) (hS : IntsAt w vs (seenL L)) (hb : base = 0 ∨ base = 1) (ha : 0 ≤ at' ∧ at' ≤ L.length) (hl : L.length ≤ 1000) (hok : ∀ k, k < L.length → 0 ≤ nth L k ∧ nth L k ≤ 20) :
    Calls Try.prog 29 #[vl, vs, .int .i64 base, .int .i64 at', .bool ahead] w fun e w' => e = .returned (.int .i64 (car L base at' ahead)) ∧ w' = w := by
  obtain ⟨a1, c1, rfl, HL⟩ := at_cells hL
  obtain ⟨a2, c2, rfl, HS⟩ := at_cells hS
  rw [seen_len] at HS ⊢
  have HL := hide HL
  have HS := hide HS
  clear hL hS
  obtain ⟨p, hp⟩ : ∃ p, p = pnt at' ahead := ⟨_, rfl⟩
  have hpa : (ahead = true ∧ p = at' - 1) ∨ (ahead = false ∧ p = at') := by
    cases ahead
    · right; exact ⟨rfl, hp⟩
    · left; exact ⟨rfl, hp⟩
  by_cases e1 : p < 0
  · have R : Hid (car L base at' ahead = base * L.length) := hide (car_low (by rw [← hp]; exact e1))
    clear hp
    rcases hpa with ⟨rfl, rfl⟩ | ⟨rfl, rfl⟩
    · obtain rfl : at' = 0 := by omega
      rcases hb with rfl | rfl
      · rw [unhide R]
        go_enter Try.func29, Try.ntmps29
        go_wp2
        go_ret
        simp
      · rw [unhide R]
        go_enter Try.func29, Try.ntmps29
        go_wp2
        go_ret
        simp
    · omega
  by_cases e2 : (L.length : Int) ≤ p
  · have R : Hid (car L base at' ahead = (1 - base) * L.length) := hide (car_top (by rw [← hp]; exact e2))
    clear hp
    rcases hpa with ⟨rfl, rfl⟩ | ⟨rfl, rfl⟩
    · omega
    · obtain rfl : p = (L.length : Int) := by omega
      have q1 : ((L.length : Int) == -1) = false := by simp
      have q2 : ((L.length : Int) == (L.length : Int)) = true := by simp
      rcases hb with rfl | rfl
      · rw [unhide R]
        go_enter Try.func29, Try.ntmps29
        go_wp2
        go_ret
        simp
      · rw [unhide R]
        go_enter Try.func29, Try.ntmps29
        go_wp2
        go_ret
        simp
  obtain ⟨k, hk⟩ : ∃ k : Nat, p = (k : Int) := ⟨p.toNat, by omega⟩
  have hkn : k < L.length := by omega
  obtain ⟨b1, o1, rfl, _, d1⟩ := unhide HL k hkn
  obtain ⟨b2, o2, rfl, _, d2⟩ := unhide HS k hkn
  have hx := hok k hkn
  have hsb := seen_bd L k
  have hkn' : (k : Int) < (L.length : Int) := by omega
  have q1 : ((k : Int) == -1) = false := by simp
  have q2 : ((k : Int) == (L.length : Int)) = false := by simp; omega
  have hkk : (pnt at' ahead).toNat = k := by rw [← hp, hk]; rfl
  have hpar : (nth L k).tmod 2 = 0 ∨ (nth L k).tmod 2 = 1 := by rw [Int.tmod_eq_emod_of_nonneg hx.1]; omega
  have R1 : Hid (ahead = decide ((nth L k).tmod 2 = 0) → car L base at' ahead = nth (seenL L) k + 1) := hide (fun e => by rw [car_one (by rw [← hp]; exact e1) (by rw [← hp]; exact e2) (by rw [hkk]; exact e), hkk])
  have R2 : Hid (¬ ahead = decide ((nth L k).tmod 2 = 0) → car L base at' ahead = nth (seenL L) k) := hide (fun e => by rw [car_none (by rw [← hp]; exact e1) (by rw [← hp]; exact e2) (by rw [hkk]; exact e), hkk])
  clear hkk hp HL HS
  have IO := hide (isOdd_any (nth L k) w hx)
  generalize nth L k = x at *
  generalize nth (seenL L) k = y at *
  rcases hpa with ⟨rfl, hat⟩ | ⟨rfl, hat⟩
  · obtain rfl : at' = (k : Int) + 1 := by omega
    clear hat hk e1 e2
    rcases hpar with q | q
    · have R := hide (unhide R1 (by rw [q]; simp))
      go_enter Try.func29, Try.ntmps29
      go_wp2_with fail
      refine (unhide IO).mono ?_
      rintro e w1 ⟨rfl, rfl⟩
      rw [show (!decide (x.tmod 2 = 0)) = false by rw [q]; simp]
      go_wp2
      go_ret
      rw [unhide R]
      exact ⟨rfl, rfl⟩
    · have R := hide (unhide R2 (by rw [q]; simp))
      go_enter Try.func29, Try.ntmps29
      go_wp2_with fail
      refine (unhide IO).mono ?_
      rintro e w1 ⟨rfl, rfl⟩
      rw [show (!decide (x.tmod 2 = 0)) = true by rw [q]; simp]
      go_wp2
      go_ret
      rw [unhide R]
      exact ⟨rfl, rfl⟩
  · obtain rfl : at' = (k : Int) := by omega
    clear hat hk e1 e2
    rcases hpar with q | q
    · have R := hide (unhide R2 (by rw [q]; simp))
      go_enter Try.func29, Try.ntmps29
      go_wp2_with fail
      refine (unhide IO).mono ?_
      rintro e w1 ⟨rfl, rfl⟩
      rw [show (!decide (x.tmod 2 = 0)) = false by rw [q]; simp]
      go_wp2
      go_ret
      rw [unhide R]
      exact ⟨rfl, rfl⟩
    · have R := hide (unhide R1 (by rw [q]; simp))
      go_enter Try.func29, Try.ntmps29
      go_wp2_with fail
      refine (unhide IO).mono ?_
      rintro e w1 ⟨rfl, rfl⟩
      rw [show (!decide (x.tmod 2 = 0)) = true by rw [q]; simp]
      go_wp2
      go_ret
      rw [unhide R]
      exact ⟨rfl, rfl⟩
theorem isBase_any (x : Int) (w : World) : Calls Try.prog 28 #[.int .i64 x] w fun e w' => e = .returned (.bool (decide (x = 0 ∨ x = 1))) ∧ w' = w := by
  by_cases h0 : x = 0
  · subst h0
    go_enter Try.func28, Try.ntmps28
    go_wp2
    go_ret
    simp
  · by_cases h1 : x = 1
    · subst h1
      go_enter Try.func28, Try.ntmps28
      go_wp2
      go_ret
      simp
    · have q0 : (x == 0) = false := by simp [h0]
      have q1 : (x == 1) = false := by simp [h1]
      go_enter Try.func28, Try.ntmps28
      go_wp2
      go_ret
      simp [h0, h1]
theorem made_zero {w1 : World} {B n : Nat} {v : Value} (h : w1.ownsRow B 2 1 v n (madeCells #[Value.int .i64 0] n).toList) : w1.ownsRow B 2 1 v n ((List.replicate n (0 : Int)).map (Value.int .i64)) := by
  have e : (madeCells #[Value.int .i64 0] n).toList = (List.replicate n (0 : Int)).map (Value.int .i64) := by
    rw [List.map_replicate]
    exact toList_madeCells_one _ _
  rw [← e]; exact h
theorem Rw.of_make {w1 : World} {g n : Nat} {B : Nat} (h : w1.ownsRow B 2 1 (.slice (some ⟨g, 0, none⟩) n n) n (madeCells #[Value.int .i64 0] n).toList) (O : List Int) : Rw w1 w1 B g n n (spo O n 0) := ⟨made_zero h, grown_refl _ _⟩
theorem Rw.own {w0 w : World} {B g n cap N : Nat} {O : List Int} (h : Rw w0 w B g n cap O) (hN : N ≤ B) : Own w N (.slice (some ⟨g, 0, none⟩) n cap) O := by
  have e := h.len
  unfold Own
  rw [e]
  exact own_base h.ow hN
set_option maxHeartbeats 2000000 in
set_option maxRecDepth 100000 in
theorem l09Seen_any (v : Value) (L : List Int) (w : World) (h : IntsAt w v L) (hl : L.length ≤ 1000) :
    Calls Try.prog 27 #[v] w fun e w' => ∃ sv, e = .returned sv ∧ Own w' w.heap.size sv (seenL L) ∧ Below w.heap.size w w' := by
  have OC := hide (l09Order_any v L w h (by omega))
  obtain ⟨va, vc, rfl, _⟩ := h
  obtain ⟨i0, hi, hz0, hz1, hz2⟩ := info_parts info2
  go_enter Try.func27, Try.ntmps27
  go_wp2_with fail
  refine (unhide OC).mono ?_
  rintro e w0 ⟨ov, rfl, ho, hb⟩
  rw [ordL_len] at ho
  have hat : IntsAt w0 ov (ordL L) := IntsAt.owned ho
  have HO : Hid (∀ wr, Below w0.heap.size w0 wr → IntsAt wr ov (ordL L)) := hide (fun wr hb => hat.below hb)
  obtain ⟨oa, oc, rfl, _⟩ := hat
  have HB0 := hide hb
  rw [ordL_len]
  rw [ordL_len] at HO
  clear ho hb OC
  go_wp2_with (at_make; refine wpList_make_full _ rfl _ _ 22 rfl w0.heap.size 2 i0 (.int .i64 0) 1 Try.underlying22 hi hz0 hz1 .i64 .i64 _ _ L.length rfl rfl rfl rfl ?b2 ?b3 ?b4 ?_)
  case b2 => rw [hz2]; omega
  case b3 => unfold maxLen; omega
  case b4 => omega
  intro w1 hown hgrow
  have H1 := hide (Rw.of_make hown (ordL L))
  have HBm := hide (made_below hgrow)
  have zz := (unhide HB0).size
  have HB1 : Hid (Below w.heap.size w w1) := hide ((unhide HB0).trans ((unhide HBm).mono zz))
  have z1 := (unhide HBm).size
  have HOC : Hid (∀ wr, w1.grownBy wr (some w0.heap.size) → ∀ k, k < L.length → ∃ b off, oa = some ⟨b, off, none⟩ ∧ wr.cell? ⟨b, off + k, none⟩ = some (.int .i64 (nth (ordL L) k))) := hide (by
    intro wr hg k hk
    obtain ⟨a', c', e', hc⟩ := at_cells (unhide HO wr ((unhide HBm).trans (grown_below hg (Nat.le_refl _) z1)))
    injection e' with e1 e2 e3
    subst e1
    obtain ⟨b, off, rfl, _, hcell⟩ := hc k (by rw [ordL_len]; exact hk)
    exact ⟨b, off, rfl, hcell⟩)
  clear hown hgrow hi hz0 hz1 hz2 HB0 HO HBm
  generalize w0.heap.size = g at *
  go_wp2
  go_loopw [5] (fun i wr => ∃ k : Nat, k ≤ L.length ∧ i = .int .i64 k ∧ Hid (Rw w1 wr g g L.length L.length (spo (ordL L) L.length k))) (fun i _ => L.length - (intOf i).toNat)
  case atStart => exact ⟨0, Nat.zero_le _, rfl, H1⟩
  case round =>
    obtain ⟨k, hk, rfl, HR⟩ := hrel
    clear H1
    by_cases hlt : k < L.length
    · have hlt' : (k : Int) < (L.length : Int) := by omega
      obtain ⟨b, off, rfl, c1⟩ := unhide HOC wr (unhide HR).gr k hlt
      obtain ⟨j, hj, ej⟩ := ordL_in L k hlt
      have hj' : (j : Int) < (L.length : Int) := by omega
      have c2 := (unhide HR).cell j hj
      have f2 := (unhide HR).frozen j
      have HR' : Hid (Rw w1 (wr.setCell ⟨g, j, none⟩ (.int .i64 k)) g g L.length L.length (spo (ordL L) L.length (k + 1))) := hide (by
        rw [spo_succ, ej]
        exact (unhide HR).set j k)
      rw [ej] at c1
      generalize nth (spo (ordL L) L.length k) j = y at *
      clear HR ej
      go_wp2
      go_roundw
      case rel => exact ⟨k + 1, by omega, by go_num, HR'⟩
      case measure => simp [intOf]; omega
    · obtain rfl : k = L.length := by omega
      go_wp2
      go_ret
      exact ⟨_, rfl, (unhide HR).own zz, (unhide HB1).trans (grown_below (unhide HR).gr zz (by omega))⟩
set_option maxHeartbeats 2000000 in
set_option maxRecDepth 100000 in
theorem spotsOf_any (v : Value) (L : List Int) (w : World) (h : IntsAt w v L) (hok : okL L = true) :
    Calls Try.prog 30 #[v] w fun e w' => ∃ sv, e = .returned sv ∧ Own w' w.heap.size sv (seenL L) ∧ Below w.heap.size w w' := by
  have hl : L.length ≤ 1000 := ((okL_iff L).1 hok).1
  have eo : Hid (ordA L = ordL L) := hide (by unfold ordA; rw [hok]; rfl)
  have HV : Hid (∀ wr, Below w.heap.size w wr → IntsAt wr v L) := hide (fun wr hb => h.below hb)
  obtain ⟨va, vc, rfl, _⟩ := h
  obtain ⟨i0, hi, hz0, hz1, hz2⟩ := info_parts info2
  go_enter Try.func30, Try.ntmps30
  go_wp2_with (first | (at_make; refine wpList_make_full _ rfl _ _ 22 rfl w.heap.size 2 i0 (.int .i64 0) 1 Try.underlying22 hi hz0 hz1 .i64 .i64 _ _ L.length rfl rfl rfl rfl ?b2 ?b3 ?b4 ?_) | fail)
  case b2 => rw [hz2]; omega
  case b3 => unfold maxLen; omega
  case b4 => omega
  intro w1 hown hgrow
  have H1 := hide (Rw.of_make hown (ordL L))
  have HB1 := hide (made_below hgrow)
  have z1 := (unhide HB1).size
  have gl := (unhide H1).cap
  clear hown hgrow hi hz0 hz1 hz2
  go_wp2_with fail
  refine (implOrder _ L w1 (unhide HV w1 (unhide HB1)) (by omega)).mono ?_
  rintro e w2 ⟨ov, rfl, ho, hb⟩
  rw [unhide eo, ordL_len] at ho
  have hat : IntsAt w2 ov (ordL L) := IntsAt.owned ho
  have NB : Hid (∀ k, ov.ownBlock = some k → w1.heap.size ≤ k) := hide (fun k hk => (World.ownsRow.lt ho k hk).1)
  have OW : Hid (Own w2 w1.heap.size ov (ordL L)) := hide (by unfold Own; rw [ordL_len]; exact ho)
  obtain ⟨oa, oc, rfl, _⟩ := hat
  rw [ordL_len] at NB OW ⊢
  have H2 : Hid (Rw w2 w2 w.heap.size w.heap.size L.length L.length (spo (ordL L) L.length 0)) := hide ⟨ownsRow_below (unhide H1).ow hb, grown_refl _ _⟩
  have HB2 : Hid (Below w.heap.size w w2) := hide ((unhide HB1).trans (hb.mono z1))
  have z2 := (unhide HB2).size
  have HOC : Hid (∀ wr, w2.grownBy wr (some w.heap.size) → ∀ k, k < L.length → ∃ b off, oa = some ⟨b, off, none⟩ ∧ wr.cell? ⟨b, off + k, none⟩ = some (.int .i64 (nth (ordL L) k))) := hide (by
    intro wr hg k hk
    have hk2 := (unhide OW).keep hg (fun k hk e => by have := unhide NB k hk; injection e with e; omega)
    obtain ⟨a', c', e', hc⟩ := at_cells hk2.at
    injection e' with e1 e2 e3
    subst e1
    obtain ⟨b, off, rfl, _, hcell⟩ := hc k (by rw [ordL_len]; exact hk)
    exact ⟨b, off, rfl, hcell⟩)
  clear ho hb H1 HB1 HV OW NB
  generalize hg : w.heap.size = g at *
  go_wp2
  go_loopw [12] (fun i wr => ∃ k : Nat, k ≤ L.length ∧ i = .int .i64 k ∧ Hid (Rw w2 wr g g L.length L.length (spo (ordL L) L.length k))) (fun i _ => L.length - (intOf i).toNat)
  case atStart => exact ⟨0, Nat.zero_le _, rfl, H2⟩
  case round =>
    obtain ⟨k, hk, rfl, HR⟩ := hrel
    clear H2
    by_cases hlt : k < L.length
    · have hlt' : (k : Int) < (L.length : Int) := by omega
      obtain ⟨b, off, rfl, c1⟩ := unhide HOC wr (unhide HR).gr k hlt
      obtain ⟨j, hj, ej⟩ := ordL_in L k hlt
      have hj' : (j : Int) < (L.length : Int) := by omega
      have c2 := (unhide HR).cell j hj
      have f2 := (unhide HR).frozen j
      have HR' : Hid (Rw w2 (wr.setCell ⟨g, j, none⟩ (.int .i64 k)) g g L.length L.length (spo (ordL L) L.length (k + 1))) := hide (by
        rw [spo_succ, ej]
        exact (unhide HR).set j k)
      rw [ej] at c1
      generalize nth (spo (ordL L) L.length k) j = y at *
      clear HR ej
      go_wp2
      go_roundw
      case rel => exact ⟨k + 1, by omega, by go_num, HR'⟩
      case measure => simp [intOf]; omega
    · obtain rfl : k = L.length := by omega
      go_wp2
      go_ret
      subst hg
      refine ⟨_, rfl, (unhide HR).own (Nat.le_refl _), (unhide HB2).trans (grown_below (unhide HR).gr (Nat.le_refl _) z2)⟩
end Go.Proofs.Ytfnaclpkpjembaa.Bd
