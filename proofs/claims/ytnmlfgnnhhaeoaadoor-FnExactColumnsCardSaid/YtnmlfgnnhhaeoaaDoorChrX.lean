/- The cuts of characters, as the specification tells them. -/
import Derived.Test.YtnmlfgnnhhaeoaaDoorChrU
import Derived.Test.YtnmlfgnnhhaeoaaDoorChrW
import Derived.Deep.Cut
namespace Go.Proofs.YtnmlfgnnhhaeoaaDoor
namespace Chr
open Go.RowKit
def bsS (L : List Int) : List Bool := (List.range L.length).map (fun i => i == 0 || charS L i)
theorem bsS_len (L : List Int) : (bsS L).length = L.length := by simp [bsS]
theorem bsS_at (L : List Int) (k : Nat) (h : k < L.length) : (bsS L).getD k false = (k == 0 || charS L k) := by simp [bsS, List.getD_eq_getElem?_getD, h]
theorem sts_eq (L : List Int) : sts L = bsS L := by
  unfold sts bsS
  apply List.map_congr_left
  intro i _
  cases i with
  | zero => rfl
  | succ i => show (i + 1 == 0 || decI (plc L (i + 1))) = _; rw [dec_eq]
theorem pts_pos {s : ByteArray} (h : 0 < s.size) : 0 < (pts s).length := lt_pts (s := s) (n := 0) (L := []) (pos := 0) rfl h
theorem nth_ats (s : ByteArray) (k : Nat) (h : k < (pts s).length) : nth (atsL s) k = ((steps s k).2 : Int) := by
  unfold atsL nth
  rw [List.getD_eq_getElem?_getD, List.getElem?_append_left (by rw [atl_len]; exact h)]
  simp [atl, h]
set_option maxRecDepth 100000 in
set_option maxHeartbeats 4000000 in
theorem sChars (s : ByteArray) (w : World) (hs : s.size ≤ 65536) : Calls Tryd.prog 21 #[.string s] w fun e w' =>
    ∃ v, e = .returned v ∧ IntsAt w' v (cutsL s (bsS (pts s))) ∧ Below w.heap.size w w' := by
  obtain ⟨i0, hi, hz0, hz1, hz2⟩ := info_parts info2
  have hpl := pts_le s
  have CR := hide (fun W => sRowOf s W hs)
  go_enter Tryd.func21, Tryd.ntmps21
  go_upto_region 2 with (go_at_call 31; refine ((unhide CR) _).mono ?_; rintro e w2 ⟨v1, v2, rfl, hv1, hv2, hb2⟩; have B2 := hide hb2; have I1 := hide hv1; have I2 := hide hv2; clear hb2; obtain ⟨a1, c1, rfl, _⟩ := hv1; obtain ⟨a2, c2, rfl, _⟩ := hv2)
  have hc := two_cells (heap_alloc_last w2 (.cells #[.slice a1 (pts s).length c1, .slice a2 (atsL s).length c2] 59))
  have hz : w2.heap.size < (w2.alloc (.cells #[.slice a1 (pts s).length c1, .slice a2 (atsL s).length c2] 59)).heap.size := by simp
  have J1 := hide ((unhide I1).below (bel1 w2 (.cells #[.slice a1 (pts s).length c1, .slice a2 (atsL s).length c2] 59)))
  have J2 := hide ((unhide I2).below (bel1 w2 (.cells #[.slice a1 (pts s).length c1, .slice a2 (atsL s).length c2] 59)))
  have BB := hide (join2 (unhide B2) (bel1 w2 (.cells #[.slice a1 (pts s).length c1, .slice a2 (atsL s).length c2] 59)))
  clear I1 I2 B2 CR
  generalize w2.alloc (.cells #[.slice a1 (pts s).length c1, .slice a2 (atsL s).length c2] 59) = wb at hc hz J1 J2 BB ⊢
  generalize w2.heap.size = g at hc hz ⊢
  obtain ⟨x0, x1, _, _⟩ := hc
  have HX0 := hide x0
  have HX1 := hide x1
  clear x0 x1
  have HAT := hide (nth_ats s)
  have hal : (atsL s).length = (pts s).length + 1 := by unfold atsL; simp [atl_len]
  have HAL := hide hal
  clear hal
  have HBL := hide (bsS_len (pts s))
  have HBA := hide (bsS_at (pts s))
  have HPP := hide (fun (h : 0 < s.size) => pts_pos h)
  generalize hBB : bsS (pts s) = B at *
  have HBB := hide hBB
  clear hBB
  generalize hL : pts s = L at *
  have HLL := hide hL
  clear hL
  have hL6 : L.length ≤ 65536 := by omega
  have HO0 : Hid ((wb.alloc (.cells #[] 2)).ownsRow wb.heap.size 2 1 (.slice (some ⟨wb.heap.size, 0, none⟩) 0 0) (ctk s B 0).length ((ctk s B 0).map (Value.int .i64))) := hide (World.ownsRow_lit wb #[] 0 (Nat.le_refl _) (by unfold maxLen; omega) rfl)
  have HB0 : Hid (Below wb.heap.size wb (wb.alloc (.cells #[] 2))) := hide (bel1 _ _)
  go_wp2
  go_loopw [4, 5] (fun v x wr => ∃ k : Nat, x = .int .i64 k ∧ k ≤ L.length ∧ Hid (wr.ownsRow wb.heap.size 2 1 v (ctk s B k).length ((ctk s B k).map (Value.int .i64))) ∧ Hid (Below wb.heap.size wb wr)) (fun _ x _ => L.length - (intOf x).toNat)
  case atStart => exact ⟨0, rfl, by omega, HO0, HB0⟩
  case round =>
    obtain ⟨k, rfl, hk, HO, HB⟩ := hrel
    clear HO0 HB0
    have hBs := (unhide HB).size
    have y0 := ((unhide HB).cell (p := ⟨g, 0, none⟩) hz).trans (unhide HX0)
    have y1 := ((unhide HB).cell (p := ⟨g, 1, none⟩) hz).trans (unhide HX1)
    have hgz : g < wr.heap.size := by omega
    have hck := ctk_len s B k
    by_cases hlt : k < L.length
    · obtain ⟨b1, o1, q1, he1, hr1⟩ := RowAt.of (unhide J1) (by omega)
      cases he1
      obtain ⟨b2, o2, q2, he2, hr2⟩ := RowAt.of (unhide J2) (by rw [unhide HAL]; omega)
      cases he2
      have R1 := hide (hr1.below (unhide HB))
      have R2 := hide (hr2.below (unhide HB))
      have hb2z : b2 < wr.heap.size := (unhide R2).1
      have ka := (unhide R2).2 k (by rw [unhide HAL]; omega)
      have hka : (k : Int) < ((atsL s).length : Int) := by rw [unhide HAL]; omega
      obtain ⟨pk, hpk⟩ : ∃ pk : Int, nth (atsL s) k = pk := ⟨_, rfl⟩
      have hps : ((steps s k).2 : Int) = pk := by rw [← hpk]; exact ((unhide HAT) k hlt).symm
      rw [hpk] at ka
      have HC : Hid (ctk s B (k + 1) = ctk s B k ++ (if B.getD k false then [pk] else [])) := hide (by show ctk s B k ++ (if B.getD k false then [((steps s k).2 : Int)] else []) = _; rw [hps])
      rw [show B.getD k false = _ from (unhide HBA) k hlt] at HC
      clear hr1 hr2 hpk hps
      cases k with
      | zero =>
        simp only [Nat.add_zero] at ka
        have HC' : Hid (ctk s B (0 + 1) = ctk s B 0 ++ [pk]) := hide (by rw [unhide HC]; rfl)
        go_wp2_with (at_builtin; refine wpList_append_own _ rfl _ _ 28 rfl wb.heap.size 2 i0 (.int .i64 0) 1 8 Tryd.underlying28 hi hz0 hz1 hz2 rfl (by decide) _ _ _ rfl (owned_alloc (unhide HO) _) ⟨wr.heap.size, 0, none⟩ 1 1 [.int .i64 pk] rfl rfl (cell_one_new _ _ _) (by intro u hu; simp at hu; subst hu; rfl) (by unfold maxLen; omega) (by omega) (by simp; omega) ?_)
        intro v' w3 hown' hgrow _
        have R := hide (row_step (unhide HB) (Below.refl _ _) (by omega) (unhide HO) hown' hgrow)
        clear hown' hgrow
        go_wp2
        go_roundw
        case rel => exact ⟨1, by go_num, by omega, hide (by rw [unhide HC']; exact (unhide R).1), hide (unhide R).2⟩
        case measure => simp [intOf]; omega
      | succ m =>
        have CS := hide (sChar b1 o1 c1 m L wr (unhide R1) hL6 hlt)
        have h0' : (((m + 1 : Nat) : Int) == 0) = false := by rw [beq_eq_false_iff_ne]; omega
        cases hcs : charS L (m + 1)
        · rw [hcs] at CS HC
          have HC' : Hid (ctk s B (m + 1 + 1) = ctk s B (m + 1)) := hide (by rw [unhide HC]; simp)
          go_wp2_with (go_at_call 32; refine (unhide CS).mono ?_; rintro e w3 ⟨rfl, hb3⟩; have O3 := hide (ownsRow_below (unhide HO) hb3); have B3 := hide (join2 (unhide HB) hb3); clear hb3)
          go_roundw
          case rel => exact ⟨m + 1 + 1, by go_num, by omega, hide (by rw [unhide HC']; exact unhide O3), B3⟩
          case measure => simp [intOf]; omega
        · rw [hcs] at CS HC
          have HC' : Hid (ctk s B (m + 1 + 1) = ctk s B (m + 1) ++ [pk]) := hide (by rw [unhide HC]; simp)
          go_wp2_with (first
            | (go_at_call 32; refine (unhide CS).mono ?_; rintro e w3 ⟨rfl, hb3⟩; have O3 := hide (ownsRow_below (unhide HO) hb3); have B3 := hide (join2 (unhide HB) hb3); have u1 := (hb3.cell (p := ⟨g, 1, none⟩) hgz).trans y1; have u2 := (hb3.cell (p := ⟨b2, o2 + (m + 1), none⟩) hb2z).trans ka; have z3 := hb3.size; clear hb3)
            | (at_builtin; refine wpList_append_own _ rfl _ _ 28 rfl wb.heap.size 2 i0 (.int .i64 0) 1 8 Tryd.underlying28 hi hz0 hz1 hz2 rfl (by decide) _ _ _ rfl (owned_alloc (unhide O3) _) ⟨w3.heap.size, 0, none⟩ 1 1 [.int .i64 pk] rfl rfl (cell_one_new _ _ _) (by intro u hu; simp at hu; subst hu; rfl) (by unfold maxLen; omega) (by omega) (by simp; omega) ?_))
          intro v' w4 hown' hgrow _
          have R := hide (row_step (unhide B3) (Below.refl _ _) (by omega) (unhide O3) hown' hgrow)
          clear hown' hgrow
          go_wp2
          go_roundw
          case rel => exact ⟨m + 1 + 1, by go_num, by omega, hide (by rw [unhide HC']; exact (unhide R).1), hide (unhide R).2⟩
          case measure => simp [intOf]; omega
    · have HK : Hid (k = L.length) := hide (by omega)
      by_cases hsz : 0 < s.size
      · have HC : Hid (cutsL s B = ctk s B k ++ [(s.size : Int)]) := hide (by
          unfold cutsL
          rw [if_neg (by rw [unhide HBL]; have := (unhide HPP) hsz; omega), unhide HBL, unhide HK])
        go_wp2_with (at_builtin; refine wpList_append_own _ rfl _ _ 28 rfl wb.heap.size 2 i0 (.int .i64 0) 1 8 Tryd.underlying28 hi hz0 hz1 hz2 rfl (by decide) _ _ _ rfl (owned_alloc (unhide HO) _) ⟨wr.heap.size, 0, none⟩ 1 1 [.int .i64 (s.size : Int)] rfl rfl (cell_one_new _ _ _) (by intro u hu; simp at hu; subst hu; rfl) (by unfold maxLen; omega) (by omega) (by simp; omega) ?_)
        intro v' w3 hown' hgrow _
        have R := hide (row_step (unhide HB) (Below.refl _ _) (by omega) (unhide HO) hown' hgrow)
        clear hown' hgrow
        go_wp2
        go_ret
        refine ⟨_, rfl, ?_, join2 (unhide BB) (unhide R).2⟩
        rw [unhide HLL, unhide HBB, unhide HC]
        exact IntsAt.owned (unhide R).1
      · have HC : Hid (cutsL s B = ctk s B k) := hide (by
          have h0 : L.length = 0 := by have := hpl; omega
          unfold cutsL
          rw [if_pos (by rw [unhide HBL, h0]), unhide HK, h0]; rfl)
        go_wp2
        go_ret
        refine ⟨_, rfl, ?_, join2 (unhide BB) (unhide HB)⟩
        rw [unhide HLL, unhide HBB, unhide HC]
        exact IntsAt.owned (unhide HO)
end Chr
end Go.Proofs.YtnmlfgnnhhaeoaaDoor
