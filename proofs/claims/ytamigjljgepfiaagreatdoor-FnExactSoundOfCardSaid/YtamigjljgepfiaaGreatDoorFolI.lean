/- Folding and upper case of a row of points, as the program and the specification tell them. -/
import Derived.Test.YtamigjljgepfiaaGreatDoorMK
import Derived.Test.YtamigjljgepfiaaGreatDoorCasL
import Derived.Test.YtamigjljgepfiaaGreatDoorNmlS
namespace Go.Proofs.YtamigjljgepfiaaGreatDoor
namespace Cas
open Go.RowKit
theorem two_new (w : World) (x y : Value) (t : TypeId) : ∀ j u, [x, y][j]? = some u → (w.alloc (.cells #[x, y] t)).cell? ((⟨w.heap.size, 0, none⟩ : Addr).add j) = some u := by
  intro j u hj
  match j, hj with
  | 0, hj => simp at hj; subst hj; simp [Addr.add]
  | 1, hj => simp at hj; subst hj; simp [Addr.add]
  | j + 2, hj => simp at hj
theorem row_many {w wr w1 w2 : World} {base n m : Nat} {v v' : Value} {R S : List Int} {o : Obj} {xs : List Value} (hb : Below base w wr) (hb1 : Below base wr w1) (hB : base ≤ w1.heap.size)
    (ho : w1.ownsRow base 2 1 v n xs) (ho2 : w2.ownsRow base 2 1 v' m (R.map (Value.int .i64) ++ S.map (Value.int .i64))) (hm : m = (R ++ S).length) (hg : (w1.alloc o).grownBy w2 v.ownBlock) :
    w2.ownsRow base 2 1 v' (R ++ S).length ((R ++ S).map (Value.int .i64)) ∧ Below base w w2 := by
  refine ⟨?_, ((hb.trans hb1).alloc hB o).grown hg (by simp; omega) (fun j hj => (ho.lt j hj).1)⟩
  rw [← hm, List.map_append]
  exact ho2
theorem rd_at {w : World} {v : Value} {L : List Int} (h : IntsAt w v L) (hl : 0 < L.length) : ∃ b off cap, v = .slice (some ⟨b, off, none⟩) L.length cap ∧ b < w.heap.size ∧ ∀ i, i < L.length → w.cell? ⟨b, off + i, none⟩ = some (.int .i64 (nth L i)) := by
  obtain ⟨a, cap, rfl, h⟩ := h
  rcases h with h | ⟨b, off, rfl, hbs, hc⟩
  · rw [h] at hl; simp at hl
  · exact ⟨b, off, cap, rfl, hbs, hc⟩
theorem pt_of {p : Int} (h : isPt p = true) : pt p := (isPt_iff p).1 h
theorem join2 {w w1 w2 : World} (h : Below w.heap.size w w1) (h2 : Below w1.heap.size w1 w2) : Below w.heap.size w w2 := h.trans (h2.mono h.size)
theorem mem_nth {L : List Int} {k : Nat} (h : k < L.length) : nth L k ∈ L := by
  unfold nth
  rw [List.getD_eq_getElem?_getD, List.getElem?_eq_getElem h]
  exact List.getElem_mem h
set_option maxRecDepth 100000 in
set_option maxHeartbeats 4000000 in
theorem foldI (v : Value) (L : List Int) (w : World) (hv : IntsAt w v L) (hL : L.length ≤ 270000) (hp : ∀ p ∈ L, isPt p = true) (ht : BlkAt w) : Calls Tryz.prog 12 #[v] w fun e w' =>
    ∃ v', e = .returned v' ∧ w'.ownsRow w.heap.size 2 1 v' (L.flatMap fo1).length ((L.flatMap fo1).map (Value.int .i64)) ∧ Below w.heap.size w w' := by
  have e0 : L.flatMap fo1 = L.flatMap fi1 := flat_eq L (fun p _ => (fo_eq p).symm)
  rw [e0]
  clear e0
  obtain ⟨i0, hi, hz0, hz1, hz2⟩ := info_parts info2
  have HV := hide hv
  have HP := hide hp
  have HT := hide ht
  obtain ⟨a, cap, rfl, _⟩ := hv
  clear hp ht
  go_enter Tryz.func12, Tryz.ntmps12
  go_wp2_with (at_make; refine wpList_make_own _ rfl _ _ 27 rfl w.heap.size 2 i0 (.int .i64 0) 1 Tryz.underlying27 hi hz0 hz1 .i64 .i64 _ L.length rfl rfl rfl (by rw [hz2]; omega) (by unfold maxLen; omega) (by omega) ?_)
  intro w1 hown hgrow
  have HO0 : Hid (w1.ownsRow w.heap.size 2 1 (.slice (some ⟨w.heap.size, 0, none⟩) 0 L.length) ((L.take 0).flatMap fi1).length (((L.take 0).flatMap fi1).map (Value.int .i64))) := hide (by simpa using hown)
  have HB0 : Hid (Below w.heap.size w w1) := hide ((Below.refl _ _).grown hgrow (Nat.le_refl _) (fun k hk => by cases hk))
  clear hown hgrow
  go_wp2
  go_loopw [3, 12] (fun v' x wr => ∃ k : Nat, x = .int .i64 k ∧ k ≤ L.length ∧ Hid (wr.ownsRow w.heap.size 2 1 v' ((L.take k).flatMap fi1).length (((L.take k).flatMap fi1).map (Value.int .i64))) ∧ Hid (Below w.heap.size w wr)) (fun _ x _ => L.length - (intOf x).toNat)
  case atStart => exact ⟨0, rfl, by omega, HO0, HB0⟩
  case round =>
    obtain ⟨k, rfl, hk, HO, HB⟩ := hrel
    clear HO0 HB0
    have hBs := (unhide HB).size
    have hkl := flat_take_len L k fi_len
    by_cases hlt : k < L.length
    · obtain ⟨b, off, cp, he, hbw, hc⟩ := rd_at (unhide HV) (by omega)
      cases he
      have kc := ((unhide HB).cell (p := ⟨b, off + k, none⟩) hbw).trans (hc k hlt)
      have hbr : b < wr.heap.size := by omega
      have HPT := hide (pt_of ((unhide HP) _ (mem_nth hlt)))
      have HS := hide (flat_take (f := fi1) L k hlt)
      obtain ⟨p, hpk⟩ : ∃ p, nth L k = p := ⟨_, rfl⟩
      rw [show L.getD k 0 = p from hpk] at HS
      rw [hpk] at kc HPT
      clear hc hpk
      have CT := hide (fun W => tw_any p W)
      have CI := hide (fun W => inScript_any p 562 W (unhide HPT).1 (unhide HPT).2.1 (by omega) (by omega))
      have CL := hide (fun W h => implLower p W h)
      rw [show lowI p = lowS p from if_pos (unhide HPT)] at CL
      have HF : Hid (fi1 p = if tw p = 608 then [562 + p - tw p, 562 + p - tw p] else if tw p = 609 then [562 + p - tw p] else [lowS p]) := hide rfl
      obtain ⟨q, hq⟩ : ∃ q, tw p = q := ⟨_, rfl⟩
      rw [hq] at CT CI HF
      obtain ⟨y, hy⟩ : ∃ y, 562 + p - q = y := ⟨_, rfl⟩
      rw [hy] at CI HF
      clear hq hy
      by_cases c1 : q = 608
      · rw [if_pos c1] at HF
        have c1' : (q == 608) = true := by simp [c1]
        clear c1
        go_wp2_with (first | (go_at_call 32; refine ((unhide CI) _).mono ?_; rintro e w9 ⟨rfl, hw9⟩; obtain rfl := hw9.symm; clear hw9) | (go_at_call 33; refine ((unhide CT) _).mono ?_; rintro e w9 ⟨rfl, hw9⟩; obtain rfl := hw9.symm; clear hw9) | (at_builtin; refine wpList_append_own _ rfl _ _ 27 rfl w.heap.size 2 i0 (.int .i64 0) 1 8 Tryz.underlying27 hi hz0 hz1 hz2 rfl (by decide) _ _ _ rfl (owned_alloc (unhide HO) _) ⟨wr.heap.size, 0, none⟩ 2 2 [.int .i64 y, .int .i64 y] rfl rfl (two_new _ _ _ _) (by intro u hu; simp at hu; rcases hu with rfl | rfl <;> rfl) (by unfold maxLen; omega) (by omega) (by simp; omega) ?_))
        intro v' w3 hown' hgrow _
        have R := hide (row_many (R := (L.take k).flatMap fi1) (S := [y, y]) (unhide HB) (Below.refl _ _) (by omega) (unhide HO) hown' (by simp) hgrow)
        clear hown' hgrow
        go_wp2
        go_roundw
        case rel => exact ⟨k + 1, by go_num, by omega, hide (by rw [unhide HS, unhide HF]; exact (unhide R).1), hide (unhide R).2⟩
        case measure => simp [intOf]; omega
      · rw [if_neg c1] at HF
        have c1' : (q == 608) = false := by simp [c1]
        clear c1
        by_cases c2 : q = 609
        · rw [if_pos c2] at HF
          have c2' : (q == 609) = true := by simp [c2]
          clear c2
          go_wp2_with (first | (go_at_call 32; refine ((unhide CI) _).mono ?_; rintro e w9 ⟨rfl, hw9⟩; obtain rfl := hw9.symm; clear hw9) | (go_at_call 33; refine ((unhide CT) _).mono ?_; rintro e w9 ⟨rfl, hw9⟩; obtain rfl := hw9.symm; clear hw9) | (at_builtin; refine wpList_append_own _ rfl _ _ 27 rfl w.heap.size 2 i0 (.int .i64 0) 1 8 Tryz.underlying27 hi hz0 hz1 hz2 rfl (by decide) _ _ _ rfl (owned_alloc (unhide HO) _) ⟨wr.heap.size, 0, none⟩ 1 1 [.int .i64 y] rfl rfl (cell_one_new _ _ _) (by intro u hu; simp at hu; subst hu; rfl) (by unfold maxLen; omega) (by omega) (by simp; omega) ?_))
          intro v' w3 hown' hgrow _
          have R := hide (row_many (R := (L.take k).flatMap fi1) (S := [y]) (unhide HB) (Below.refl _ _) (by omega) (unhide HO) hown' (by simp) hgrow)
          clear hown' hgrow
          go_wp2
          go_roundw
          case rel => exact ⟨k + 1, by go_num, by omega, hide (by rw [unhide HS, unhide HF]; exact (unhide R).1), hide (unhide R).2⟩
          case measure => simp [intOf]; omega
        · rw [if_neg c2] at HF
          have c2' : (q == 609) = false := by simp [c2]
          clear c2
          generalize lowS p = z at *
          go_wp2_with (first | (go_at_call 32; refine ((unhide CI) _).mono ?_; rintro e w9 ⟨rfl, hw9⟩; obtain rfl := hw9.symm; clear hw9) | (go_at_call 33; refine ((unhide CT) _).mono ?_; rintro e w9 ⟨rfl, hw9⟩; obtain rfl := hw9.symm; clear hw9) | (go_at_call 34; refine ((unhide CL) _ ((unhide HT).below (unhide HB))).mono ?_; rintro e w3 ⟨rfl, hb3⟩; have O3 := hide (ownsRow_below (unhide HO) hb3); have B3 := hide (hb3.mono hBs); have z3 := hb3.size; clear hb3) | (at_builtin; refine wpList_append_own _ rfl _ _ 27 rfl w.heap.size 2 i0 (.int .i64 0) 1 8 Tryz.underlying27 hi hz0 hz1 hz2 rfl (by decide) _ _ _ rfl (owned_alloc (unhide O3) _) ⟨w3.heap.size, 0, none⟩ 1 1 [.int .i64 z] rfl rfl (cell_one_new _ _ _) (by intro u hu; simp at hu; subst hu; rfl) (by unfold maxLen; omega) (by omega) (by simp; omega) ?_))
          intro v' w4 hown' hgrow _
          have R := hide (row_many (R := (L.take k).flatMap fi1) (S := [z]) (unhide HB) (unhide B3) (by omega) (unhide O3) hown' (by simp) hgrow)
          clear hown' hgrow
          go_wp2
          go_roundw
          case rel => exact ⟨k + 1, by go_num, by omega, hide (by rw [unhide HS, unhide HF]; exact (unhide R).1), hide (unhide R).2⟩
          case measure => simp [intOf]; omega
    · obtain rfl : k = L.length := by omega
      go_wp2
      go_ret
      refine ⟨_, rfl, ?_, unhide HB⟩
      have := unhide HO
      rw [List.take_length] at this
      exact this
end Cas
end Go.Proofs.YtamigjljgepfiaaGreatDoor
