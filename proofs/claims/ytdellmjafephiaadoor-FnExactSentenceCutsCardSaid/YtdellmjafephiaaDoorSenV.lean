/- The cuts of sentences, as the specification tells them. -/
import Derived.Test.YtdellmjafephiaaDoorSenQ
import Derived.Test.YtdellmjafephiaaDoorSenU
import Derived.Test.YtdellmjafephiaaDoorChrX
import Derived.Test.YtdellmjafephiaaDoorAppG
namespace Go.Proofs.YtdellmjafephiaaDoor
namespace Sen
open Go.RowKit
theorem makeC (n : Nat) (hn : n ≤ 70000) (W : World) : (Instr.makeSlice 57 (.int .i64 (n : Int)) (.int .i64 (n : Int))).run Tryd.prog W = .ok (.slice (some ⟨W.heap.size, 0, none⟩) n n) (W.alloc (.cells ((List.replicate n false).map Value.bool).toArray 4)) := by
  obtain ⟨i0, hi, hz0, hz1, hz2⟩ := info_parts Chr.info4
  have := run_makeSlice (P := Tryd.prog) W 57 4 i0 (.bool false) Tryd.underlying57 hi hz0 .i64 .i64 (n : Int) (n : Int) (by omega) (Int.le_refl _) (by rw [hz1]; omega) (by rw [hz2]; omega) (by omega)
  have e : madeCells #[Value.bool false] n = ((List.replicate n false).map Value.bool).toArray := by
    apply Array.toList_inj.1
    rw [toList_madeCells_one, List.map_replicate]
  rw [hz1] at this
  simp only [Int.toNat_natCast, Nat.mul_one] at this
  rw [← e]
  exact this
/-- The row of cuts in a block of its own. -/
structure CBk (wb wr : World) (C : List Bool) : Prop where
  bel : Below wb.heap.size wb wr
  blk : wr.heap[wb.heap.size]? = some (.cells (C.map Value.bool).toArray 4 (0, 0))
theorem CBk.size {wb wr : World} {C : List Bool} (h : CBk wb wr C) : wb.heap.size < wr.heap.size := (Array.getElem?_eq_some_iff.1 h.blk).1
theorem CBk.below {wb wr w2 : World} {C : List Bool} (h : CBk wb wr C) (hb : Below wr.heap.size wr w2) : CBk wb w2 C :=
  ⟨h.bel.trans (hb.mono (Nat.le_of_lt h.size)), by rw [hb.block _ h.size]; exact h.blk⟩
theorem CBk.put {wb wr : World} {C : List Bool} (h : CBk wb wr C) (t : Nat) : CBk wb (wr.setCell ⟨wb.heap.size, t, none⟩ (.bool true)) (C.set t true) := by
  have hst := heap_setCell_same wr wb.heap.size t _ 4 (.bool true) h.blk
  refine ⟨h.bel.setCell (p := ⟨wb.heap.size, t, none⟩) (by simp) _, ?_⟩
  rw [hst]
  congr 2
  simp
theorem CBk.room {wb wr : World} {C : List Bool} (h : CBk wb wr C) (t : Nat) (ht : t < C.length) : wr.cell? ⟨wb.heap.size, t, none⟩ = some (.bool (C.getD t false)) ∧ wr.frozen? ⟨wb.heap.size, t, none⟩ = false := by
  constructor
  · simp [World.cell?, h.blk, ht, List.getD_eq_getElem?_getD]
  · simp [World.frozen?, h.blk]
theorem CBk.first (wb : World) (n : Nat) : CBk wb (wb.alloc (.cells ((List.replicate n false).map Value.bool).toArray 4)) (List.replicate n false) := ⟨be1 _ _, heap_alloc_last _ _⟩
theorem empty_not {x : ByteArray} (h : 0 < x.size) : x.toList.isEmpty = false := by
  rw [Go.ByteArray.toList_eq]
  cases e : x.data.toList with
  | nil =>
    have : x.size = 0 := by rw [Lib.size_eq, e]; rfl
    omega
  | cons a t => rfl
/-- All blocks but one are as they were. -/
structure Kp (W wr : World) (q : Nat) : Prop where
  size : W.heap.size ≤ wr.heap.size
  blk : ∀ k, k < W.heap.size → k ≠ q → wr.heap[k]? = W.heap[k]?
theorem Kp.below {W wr w2 : World} {q : Nat} (h : Kp W wr q) (hb : Below wr.heap.size wr w2) : Kp W w2 q :=
  ⟨Nat.le_trans h.size hb.size, fun k h1 h2 => (hb.block k (Nat.lt_of_lt_of_le h1 h.size)).trans (h.blk k h1 h2)⟩
theorem Kp.cell {W wr : World} {q : Nat} (h : Kp W wr q) {p : Addr} (h1 : p.block < W.heap.size) (h2 : p.block ≠ q) : wr.cell? p = W.cell? p := World.cell?_of_block (w := W) (h.blk p.block h1 h2)
theorem Kp.grown {W wr w2 : World} {q : Nat} {o : Obj} {row : Option Nat} (h : Kp W wr q) (hg : (wr.alloc o).grownBy w2 row) (hr : ∀ k, row = some k → k = q ∨ W.heap.size ≤ k) : Kp W w2 q := by
  have hz := hg.size
  refine ⟨Nat.le_trans h.size (by simp at hz; omega), fun k h1 h2 => ?_⟩
  have h3 : k < wr.heap.size := Nat.lt_of_lt_of_le h1 h.size
  rw [hg.block k (by simp; omega) (fun e => by rcases hr k e.symm with h | h <;> omega), Below.heap_alloc _ _ _ h3]
  exact h.blk k h1 h2
theorem row_ne {W : World} {b off q : Nat} {L : List Int} (h : Chr.RowAt W b off L) (hl : 0 < L.length) (hq : W.heap[q]? = some (.cells #[] 2 (0, 0))) : b ≠ q := by
  intro e
  subst e
  have := h.2 0 hl
  simp [World.cell?, hq] at this
theorem closes_i (b off cap j : Nat) (x : Int) (hx : x = (j : Int)) (L : List Int) (w : World) (hr : Chr.RowAt w b off L) (hL : L.length ≤ 65536) (hj : j < L.length) (hs : crw (at0 L j) = 1) (hn : (sst L j).1 ≠ 1) :
    Calls Tryd.prog 64 #[.slice (some ⟨b, off, none⟩) L.length cap, .int .i64 x] w fun e w' =>
      ∃ (k : Nat) (ok : Bool), e = .returned (.tuple #[.int .i64 (k : Int), .bool ok]) ∧ Below w.heap.size w w' ∧ Hid (End L j k ∧ (k < L.length → Chr.cat (at0 L k) ≠ 3 → ok = okB (sst L k) (at0 L k))) := by
  subst hx
  exact closes_s b off cap j L w hr hL hj hs hn
/-- The cuts that are told once t places have been looked at. -/
def ckk (s : ByteArray) (L : List Int) (t : Nat) : List Int := if t ≤ L.length then Chr.ctk s (senL L) t else Chr.ctk s (senL L) L.length ++ [(s.size : Int)]
theorem ckk_zero (s : ByteArray) (L : List Int) : ckk s L 0 = [] := by
  unfold ckk
  rw [if_pos (Nat.zero_le _)]
  rfl
theorem ckk_len (s : ByteArray) (L : List Int) (t : Nat) : (ckk s L t).length ≤ L.length + 1 := by
  unfold ckk
  split
  · have := Chr.ctk_len s (senL L) t; omega
  · have := Chr.ctk_len s (senL L) L.length; simp; omega
theorem ckk_step (s : ByteArray) (L : List Int) (t : Nat) (h : t < L.length) : ckk s L (t + 1) = ckk s L t ++ (if senB L t then [((steps s t).2 : Int)] else []) := by
  unfold ckk
  rw [if_pos (by omega), if_pos (by omega), ← senL_at L t h]
  rfl
theorem ckk_last (s : ByteArray) (L : List Int) : ckk s L (L.length + 1) = ckk s L L.length ++ [(s.size : Int)] := by
  unfold ckk
  rw [if_neg (by omega), if_pos (by omega)]
theorem ckk_end (s : ByteArray) (L : List Int) (h : 0 < L.length) : ckk s L (L.length + 1) = Chr.cutsL s (senL L) := by
  unfold ckk Chr.cutsL
  rw [if_neg (by omega), senL_len, if_neg (by omega)]
set_option maxRecDepth 100000 in
set_option maxHeartbeats 8000000 in
theorem specSen (s : ByteArray) (w : World) (hs : s.size ≤ 1048576) : Calls Tryd.prog 35 #[.string s] w fun e w' => ∃ v, e = .returned v ∧ IntsAt w' v (senOut s) ∧ Below w.heap.size w w' := by
  by_cases hb : 65536 < s.size
  · have HE := hide (show senOut s = [] by unfold senOut; rw [if_pos hb])
    have hb' : (65536 : Int) < (s.size : Int) := by omega
    go_enter Tryd.func35, Tryd.ntmps35
    go_wp2
    go_ret
    refine ⟨_, rfl, ?_, be1 _ _⟩
    rw [unhide HE]
    exact ⟨_, _, rfl, .inl rfl⟩
  have hb' : ¬ (65536 : Int) < (s.size : Int) := by omega
  by_cases h0 : s.size = 0
  · have hx : s = ⟨#[]⟩ := by
      apply ByteArray.ext
      exact Array.eq_empty_of_size_eq_zero h0
    subst hx
    have HE := hide (show senOut ⟨#[]⟩ = [] by rfl)
    clear hb hb' h0
    go_enter Tryd.func35, Tryd.ntmps35
    go_wp2
    go_ret
    refine ⟨_, rfl, ?_, be1 _ _⟩
    rw [unhide HE]
    exact ⟨_, _, rfl, .inl rfl⟩
  have hemp := empty_not (show 0 < s.size by omega)
  have HOUT := hide (show senOut s = Chr.cutsL s (senL (pts s)) by unfold senOut; rw [if_neg hb])
  obtain ⟨i0, hi, hz0, hz1, hz2⟩ := info_parts info2
  have hpl := pts_le s
  have hpp := Chr.pts_pos (s := s) (by omega)
  have CR := hide (fun W => Chr.sRowOf s W (by omega))
  have OA : Hid ((w.alloc (.cells #[] 2)).ownsRow w.heap.size 2 1 (.slice (some ⟨w.heap.size, 0, none⟩) 0 0) 0 []) := hide (World.ownsRow_lit w #[] 0 (Nat.le_refl _) (by unfold maxLen; omega) rfl)
  go_enter Tryd.func35, Tryd.ntmps35
  go_upto_region 5 with (go_at_call 62; refine ((unhide CR) _).mono ?_; rintro e w2 ⟨v1, v2, rfl, hv1, hv2, hb2⟩; have B2 := hide (jn (be1 w (.cells #[] 2)) hb2); have E2 := hide ((hb2.block w.heap.size (by simp)).trans (heap_alloc_last w (.cells #[] 2))); have O2 := hide (ownsRow_below (unhide OA) hb2); have I1 := hide hv1; have I2 := hide hv2; clear hb2; obtain ⟨a1, c1, rfl, _⟩ := hv1; obtain ⟨a2, c2, rfl, _⟩ := hv2)
  have hc := Chr.two_cells (heap_alloc_last w2 (.cells #[.slice a1 (pts s).length c1, .slice a2 (Chr.atsL s).length c2] 68))
  have hz : w2.heap.size < (w2.alloc (.cells #[.slice a1 (pts s).length c1, .slice a2 (Chr.atsL s).length c2] 68)).heap.size := by simp
  have J1 := hide ((unhide I1).below (be1 w2 (.cells #[.slice a1 (pts s).length c1, .slice a2 (Chr.atsL s).length c2] 68)))
  have J2 := hide ((unhide I2).below (be1 w2 (.cells #[.slice a1 (pts s).length c1, .slice a2 (Chr.atsL s).length c2] 68)))
  have BB := hide (jn (unhide B2) (be1 w2 (.cells #[.slice a1 (pts s).length c1, .slice a2 (Chr.atsL s).length c2] 68)))
  have hq2 : w.heap.size < w2.heap.size := (Array.getElem?_eq_some_iff.1 (unhide E2)).1
  have EB := hide (((be1 w2 (.cells #[.slice a1 (pts s).length c1, .slice a2 (Chr.atsL s).length c2] 68)).block _ hq2).trans (unhide E2))
  have OB := hide (ownsRow_below (unhide O2) (be1 w2 (.cells #[.slice a1 (pts s).length c1, .slice a2 (Chr.atsL s).length c2] 68)))
  clear I1 I2 B2 CR E2 O2 OA
  generalize w2.alloc (.cells #[.slice a1 (pts s).length c1, .slice a2 (Chr.atsL s).length c2] 68) = wb at hc hz J1 J2 BB EB OB ⊢
  have hgq : w2.heap.size ≠ w.heap.size := by omega
  generalize w2.heap.size = g at hc hz hgq hq2 ⊢
  obtain ⟨x0, x1, _, _⟩ := hc
  have HX0 := hide x0
  have HX1 := hide x1
  clear x0 x1
  have HAT := hide (Chr.nth_ats s)
  have HAT2 : Hid (nth (Chr.atsL s) (pts s).length = (s.size : Int)) := hide (by unfold Chr.atsL nth; rw [List.getD_eq_getElem?_getD, List.getElem?_append_right (by rw [Chr.atl_len]; exact Nat.le_refl _), Chr.atl_len]; simp)
  have hal : (Chr.atsL s).length = (pts s).length + 1 := by unfold Chr.atsL; simp [Chr.atl_len]
  have HAL := hide hal
  clear hal
  generalize hL : pts s = L at *
  have HLL := hide hL
  clear hL
  have hL6 : L.length ≤ 65536 := by omega
  have hmk := makeC (L.length + 1) (by omega) wb
  rw [show ((L.length + 1 : Nat) : Int) = (L.length : Int) + 1 by omega] at hmk
  have K0 := CBk.first wb (L.length + 1)
  have K1 := K0.put 0
  have K2 := hide (K1.put L.length)
  have y0 := (K0.bel.cell (p := ⟨g, 0, none⟩) hz).trans (unhide HX0)
  have y1 := (K1.bel.cell (p := ⟨g, 0, none⟩) hz).trans (unhide HX0)
  obtain ⟨d0, d1⟩ := K0.room 0 (by simp)
  obtain ⟨d2, d3⟩ := K1.room L.length (by simp)
  have hzw : wb.heap.size < (wb.alloc (.cells ((List.replicate (L.length + 1) false).map Value.bool).toArray 4)).heap.size := by simp
  clear K0 K1
  have Y0 : Hid (Inv L 0 (((List.replicate (L.length + 1) false).set 0 true).set L.length true)) := hide (inv_first L)
  generalize ((List.replicate (L.length + 1) false).set 0 true).set L.length true = C0 at K2 Y0
  generalize (List.replicate (L.length + 1) false).set 0 true = C1 at d2
  generalize wb.alloc (.cells ((List.replicate (L.length + 1) false).map Value.bool).toArray 4) = wm at *
  have x00 := unhide HX0
  go_wp2
  go_loopw [6] (fun x wr => ∃ (i : Nat) (C : List Bool), x = .int .i64 (i : Int) ∧ i ≤ L.length ∧ Hid (Inv L i C) ∧ Hid (CBk wb wr C)) (fun x _ => L.length - (intOf x).toNat)
  case atStart => exact ⟨0, C0, rfl, by omega, Y0, K2⟩
  case round =>
    obtain ⟨i, C, rfl, hiL, HI, HC⟩ := hrel
    clear Y0 K2 d0 d1 d2 d3 y0 y1 hmk hzw x00
    by_cases hlt : i < L.length
    · obtain ⟨b1, o1, q1, he1, hr1⟩ := Chr.RowAt.of (unhide J1) (by omega)
      cases he1
      have R1 := hide (hr1.below (unhide HC).bel)
      have y0 := ((unhide HC).bel.cell (p := ⟨g, 0, none⟩) hz).trans (unhide HX0)
      have c0 := (unhide R1).2 i hlt
      have HLI := hide (inv_line (unhide HI) hlt)
      have HLB : Hid (lb L i = (nth L i == 10 || (nth L i == 13 && (i + 1 == L.length || nth L (i + 1) != 10)))) := hide rfl
      have hCl := hide (unhide HI).1
      have HR1 := hide hr1
      obtain ⟨p, hp⟩ : ∃ p, nth L i = p := ⟨_, rfl⟩
      rw [hp] at c0 HLB
      have HP := hide hp
      clear hr1 hp
      go_upto_region 11 with fail
      go_cut [70] from 33 to 105 (fun x wx => x = .bool (lb L i) ∧ wr = wx)
      case first =>
        cases h10 : (p == 10)
        · cases h13 : (p == 13)
          · rw [h10, h13] at HLB
            have HL0 : Hid (lb L i = false) := hide (by rw [unhide HLB]; rfl)
            go_wp2
            go_meet
            case rel => exact ⟨by rw [unhide HL0], rfl⟩
          · rw [h10, h13] at HLB
            by_cases hn : i + 1 = L.length
            · have hn' : ((i : Int) + 1 == (L.length : Int)) = true := by simp; omega
              have HL0 : Hid (lb L i = true) := hide (by rw [unhide HLB]; simp [hn])
              go_wp2
              go_meet
              case rel => exact ⟨by rw [unhide HL0], rfl⟩
            · have hn' : ((i : Int) + 1 == (L.length : Int)) = false := by rw [beq_eq_false_iff_ne]; omega
              have c1' := (unhide R1).2 (i + 1) (by omega)
              have hn2 : (i + 1 == L.length) = false := by simp [hn]
              rw [hn2] at HLB
              obtain ⟨q, hq⟩ : ∃ q, nth L (i + 1) = q := ⟨_, rfl⟩
              rw [hq] at c1' HLB
              clear hq
              have HL0 : Hid (lb L i = (q != 10)) := hide (by rw [unhide HLB]; rfl)
              go_wp2
              go_meet
              case rel => exact ⟨by rw [unhide HL0], rfl⟩
        · rw [h10] at HLB
          have HL0 : Hid (lb L i = true) := hide (by rw [unhide HLB]; rfl)
          go_wp2
          go_meet
          case rel => exact ⟨by rw [unhide HL0], rfl⟩
      case rest =>
        obtain ⟨rfl, rfl⟩ := hcut
        go_upto_if 70 with fail
        go_cut [6] from 33 to 105 (fun x wx => x = .int .i64 (i : Int) ∧ ∃ C1, Hid (InvL L i C1) ∧ Hid (CBk wb wx C1))
        case first =>
          obtain ⟨d0, d1⟩ := (unhide HC).room (i + 1) (by rw [unhide hCl]; omega)
          have z0 := (unhide HC).size
          have KP := hide ((unhide HC).put (i + 1))
          cases hlb : lb L i
          · rw [if_neg (by rw [hlb]; simp)] at HLI
            go_wp2
            go_meet
            case rel => exact ⟨rfl, C, HLI, HC⟩
          · rw [if_pos hlb] at HLI
            go_wp2
            go_meet
            case rel => exact ⟨rfl, _, HLI, KP⟩
        case rest =>
          obtain ⟨rfl, C1, HL1, HC1⟩ := hcut
          clear HI HC HLI hCl HLB R1 y0 c0
          have R2 := hide ((unhide HR1).below (unhide HC1).bel)
          have y2 := ((unhide HC1).bel.cell (p := ⟨g, 0, none⟩) hz).trans (unhide HX0)
          have k2 := (unhide R2).2 i hlt
          rw [unhide HP] at k2
          have CG := hide (fun q W => in_sgn q W)
          have HCP : Hid (sgn p = decide (crw (at0 L i) = 1)) := hide (by rw [show at0 L i = p from unhide HP]; exact sgn_iff p)
          have z1 := (unhide HC1).size
          cases hsg : sgn p
          · have HSK := hide (inv_skip (unhide HL1) (fun h => by have := unhide HCP; rw [hsg] at this; simp [h.1] at this))
            go_wp2_with (first | (go_at_call 63; refine ((unhide CG) _ _).mono ?_; rintro e w9 ⟨rfl, hw9⟩; obtain rfl := hw9.symm; clear hw9))
            go_roundw
            case rel => exact ⟨i + 1, C1, by go_num, by omega, HSK, HC1⟩
            case measure => simp [intOf]; omega
          · have HS1 : Hid (crw (at0 L i) = 1) := hide (by have := unhide HCP; rw [hsg] at this; simpa using this.symm)
            clear HCP
            cases i with
            | zero =>
              simp only [Nat.add_zero] at k2
              have HN1 : Hid ((sst L 0).1 ≠ 1) := hide (by simp [sst])
              have CL := hide (fun W h => closes_i b1 o1 c1 0 0 rfl L W h hL6 hlt (unhide HS1) (unhide HN1))
              go_wp2_with (first | (go_at_call 63; refine ((unhide CG) _ _).mono ?_; rintro e w9 ⟨rfl, hw9⟩; obtain rfl := hw9.symm; clear hw9) | (go_at_call 64; refine ((unhide CL) _ (unhide R2)).mono ?_; rintro e w3 ⟨kk, ok, rfl, hb3, hfin⟩; have HF := hide (inv_hit (unhide HL1) (unhide hfin).1 (unhide HS1) (unhide HN1) (unhide hfin).2); have hkl := (unhide hfin).1.le; have K3 := hide ((unhide HC1).below hb3); have hk1 : kk < C1.length := (by rw [(unhide HL1).1]; omega); obtain ⟨f0, f1⟩ := (unhide K3).room kk hk1; have z3 := (unhide K3).size; clear hb3 hfin hk1; cases ok))
              · go_roundw
                case rel =>
                  exact ⟨0 + 1, C1, by go_num, by omega, hide (by have h := unhide HF; first | (rw [if_neg (by simp)] at h; exact h) | (rw [if_neg not_false] at h; exact h)), K3⟩
                case measure => simp [intOf]; omega
              · go_roundw
                case rel =>
                  exact ⟨0 + 1, C1.set kk true, by go_num, by omega, hide (by have h := unhide HF; first | (rw [if_pos rfl] at h; exact h) | (rw [if_pos trivial] at h; exact h)), hide ((unhide K3).put kk)⟩
                case measure => simp [intOf]; omega
            | succ m =>
              have k3 := (unhide R2).2 m (by omega)
              have HCQ : Hid (sgn (nth L m) = decide (crw (at0 L m) = 1)) := hide (sgn_iff (at0 L m))
              obtain ⟨pm, hpm⟩ : ∃ pm, nth L m = pm := ⟨_, rfl⟩
              rw [hpm] at k3 HCQ
              clear hpm
              have hm1 : ((m + 1 : Nat) : Int) - 1 = (m : Int) := by omega
              have h0' : (((m + 1 : Nat) : Int) == 0) = false := by rw [beq_eq_false_iff_ne]; omega
              have h0'' : ((m : Int) + 1 == 0) = false := by rw [beq_eq_false_iff_ne]; omega
              cases hsm : sgn pm
              · have HN1 : Hid ((sst L (m + 1)).1 ≠ 1) := hide ((start_iff L m).2 (by have := unhide HCQ; rw [hsm] at this; simpa using this.symm))
                have CL := hide (fun W h => closes_i b1 o1 c1 (m + 1) ((m : Int) + 1) (by omega) L W h hL6 hlt (unhide HS1) (unhide HN1))
                clear HCQ
                go_wp2_with (first | (go_at_call 63; refine ((unhide CG) _ _).mono ?_; rintro e w9 ⟨rfl, hw9⟩; obtain rfl := hw9.symm; clear hw9) | (go_at_call 64; refine ((unhide CL) _ (unhide R2)).mono ?_; rintro e w3 ⟨kk, ok, rfl, hb3, hfin⟩; have HF := hide (inv_hit (unhide HL1) (unhide hfin).1 (unhide HS1) (unhide HN1) (unhide hfin).2); have hkl := (unhide hfin).1.le; have K3 := hide ((unhide HC1).below hb3); have hk1 : kk < C1.length := (by rw [(unhide HL1).1]; omega); obtain ⟨f0, f1⟩ := (unhide K3).room kk hk1; have z3 := (unhide K3).size; clear hb3 hfin hk1; cases ok))
                · go_roundw
                  case rel =>
                    exact ⟨m + 1 + 1, C1, by go_num, by omega, hide (by have h := unhide HF; first | (rw [if_neg (by simp)] at h; exact h) | (rw [if_neg not_false] at h; exact h)), K3⟩
                  case measure => simp [intOf]; omega
                · go_roundw
                  case rel =>
                    exact ⟨m + 1 + 1, C1.set kk true, by go_num, by omega, hide (by have h := unhide HF; first | (rw [if_pos rfl] at h; exact h) | (rw [if_pos trivial] at h; exact h)), hide ((unhide K3).put kk)⟩
                  case measure => simp [intOf]; omega
              · have HSK := hide (inv_skip (unhide HL1) (fun h => (start_iff L m).1 h.2 (by have := unhide HCQ; rw [hsm] at this; simpa using this.symm)))
                clear HCQ
                go_wp2_with (first | (go_at_call 63; refine ((unhide CG) _ _).mono ?_; rintro e w9 ⟨rfl, hw9⟩; obtain rfl := hw9.symm; clear hw9))
                go_roundw
                case rel => exact ⟨m + 1 + 1, C1, by go_num, by omega, HSK, HC1⟩
                case measure => simp [intOf]; omega
    · obtain rfl : i = L.length := by omega
      have hzc := (unhide HC).size
      obtain ⟨b1, o1, q1, he1, hr1⟩ := Chr.RowAt.of (unhide J1) (by omega)
      cases he1
      obtain ⟨b2, o2, q2, he2, hr2⟩ := Chr.RowAt.of (unhide J2) (by rw [unhide HAL]; omega)
      cases he2
      have R1 := hide (hr1.below (unhide HC).bel)
      have R2 := hide (hr2.below (unhide HC).bel)
      have hqb : w.heap.size < wb.heap.size := by omega
      have EW := hide (((unhide HC).bel.block _ hqb).trans (unhide EB))
      have OW := hide (ownsRow_below (unhide OB) (unhide HC).bel)
      have BW := hide (jn (unhide BB) (unhide HC).bel)
      have X0 := hide (((unhide HC).bel.cell (p := ⟨g, 0, none⟩) hz).trans (unhide HX0))
      have X1 := hide (((unhide HC).bel.cell (p := ⟨g, 1, none⟩) hz).trans (unhide HX1))
      have n1 := row_ne (unhide R1) (by omega) (unhide EW)
      have n2 := row_ne (unhide R2) (by rw [unhide HAL]; omega) (unhide EW)
      have HRM : Hid (∀ t, t < L.length + 1 → wr.cell? ⟨wb.heap.size, t, none⟩ = some (.bool (C.getD t false))) := hide (fun t ht => ((unhide HC).room t (by rw [(unhide HI).1]; exact ht)).1)
      have HIE := hide (fun t (ht : t ≤ L.length) => inv_end (unhide HI) t ht)
      have hgw : g < wr.heap.size := by omega
      have hbe1 : b1 < wr.heap.size := (unhide R1).1
      have hbe2 : b2 < wr.heap.size := (unhide R2).1
      have hCn : C.getD L.length false = true := (unhide HI).2.2.1
      clear hr1 hr2 EB OB BB HX0 HX1 HC HI J1 J2
      obtain ⟨W0, hW0⟩ : ∃ W0, W0 = wr := ⟨_, rfl⟩
      subst hW0
      generalize wb.heap.size = gc at *
      have HO0 : Hid (W0.ownsRow w.heap.size 2 1 (.slice (some ⟨w.heap.size, 0, none⟩) 0 0) (ckk s L 0).length ((ckk s L 0).map (Value.int .i64))) := hide (by rw [ckk_zero]; exact unhide OW)
      have x0v := unhide X0
      go_wp2
      go_loopw [3, 9] (fun v x wr => ∃ (t : Nat), x = .int .i64 (t : Int) ∧ t ≤ L.length + 1 ∧ Hid (wr.ownsRow w.heap.size 2 1 v (ckk s L t).length ((ckk s L t).map (Value.int .i64))) ∧ Hid (∀ k, v.ownBlock = some k → k = w.heap.size ∨ W0.heap.size ≤ k) ∧ Hid (Kp W0 wr w.heap.size) ∧ Hid (Below w.heap.size w wr)) (fun _ x _ => L.length + 1 - (intOf x).toNat)
      case atStart => exact ⟨0, rfl, by omega, HO0, hide (fun k hk => .inl (by simpa [Value.ownBlock] using hk.symm)), hide ⟨Nat.le_refl _, fun _ _ _ => rfl⟩, BW⟩
      case round =>
        obtain ⟨t, rfl, ht, HO, HSEP, HKP, HBW⟩ := hrel
        clear HO0 OW BW
        have hkz := (unhide HKP).size
        have hBs := (unhide HBW).size
        have RF : Hid (Below w.heap.size wr wr) := hide (Below.refl _ _)
        by_cases hlt2 : t < L.length + 1
        · have y0 := ((unhide HKP).cell (p := ⟨g, 0, none⟩) hgw hgq).trans (unhide X0)
          have y1 := ((unhide HKP).cell (p := ⟨g, 1, none⟩) hgw hgq).trans (unhide X1)
          have yc := ((unhide HKP).cell (p := ⟨gc, t, none⟩) hzc (by show gc ≠ w.heap.size; omega)).trans ((unhide HRM) t hlt2)
          have ya := ((unhide HKP).cell (p := ⟨b2, o2 + t, none⟩) hbe2 n2).trans ((unhide R2).2 t (by rw [unhide HAL]; exact hlt2))
          have RW : Hid (Chr.RowAt wr b1 o1 L) := hide ⟨by omega, fun j hj => ((unhide HKP).cell (p := ⟨b1, o1 + j, none⟩) hbe1 n1).trans ((unhide R1).2 j hj)⟩
          have hck := ckk_len s L t
          have HE := hide ((unhide HIE) t (by omega))
          have hta : (t : Int) < ((Chr.atsL s).length : Int) := by rw [unhide HAL]; omega
          obtain ⟨pk, hpk⟩ : ∃ pk : Int, nth (Chr.atsL s) t = pk := ⟨_, rfl⟩
          have HPK := hide hpk
          rw [hpk] at ya
          clear hpk
          obtain ⟨cv, hcv⟩ : ∃ cv, C.getD t false = cv := ⟨_, rfl⟩
          rw [hcv] at yc HE
          have HCV := hide hcv
          clear hcv
          have hgl : g < wr.heap.size := by omega
          have hb2l : b2 < wr.heap.size := by omega
          have hgcl : gc < wr.heap.size := by omega
          cases cv with
          | false =>
            have htn : t < L.length := by
              rcases Nat.lt_or_ge t L.length with h | h
              · exact h
              · obtain rfl : t = L.length := by omega
                have := unhide HCV
                rw [hCn] at this
                cases this
            rw [if_pos htn] at HE
            have HST : Hid (ckk s L (t + 1) = ckk s L t) := hide (by rw [ckk_step s L t htn, ← unhide HE]; simp)
            go_wp2
            go_roundw
            case rel => exact ⟨t + 1, by go_num, by omega, hide (by rw [unhide HST]; exact unhide HO), HSEP, HKP, HBW⟩
            case measure => first | (simp [intOf]; omega) | simp [intOf]
          | true =>
            by_cases htn : t = L.length
            · subst htn
              have HST : Hid (ckk s L (L.length + 1) = ckk s L L.length ++ [pk]) := hide (by rw [ckk_last, ← unhide HAT2, unhide HPK])
              have e1 : (((L.length : Nat) : Int) == 0) = false := by rw [beq_eq_false_iff_ne]; omega
              have e2 : (((L.length : Nat) : Int) == (L.length : Int)) = true := by simp
              go_wp2_with (at_builtin; refine wpList_appG _ rfl _ _ 26 rfl w.heap.size 2 i0 (.int .i64 0) 1 8 Tryd.underlying26 hi hz0 hz1 hz2 rfl (by decide) _ _ _ rfl (owned_alloc (unhide HO) _) ⟨wr.heap.size, 0, none⟩ 1 1 [.int .i64 pk] rfl rfl (cell_one_new _ _ _) (by intro u hu; simp at hu; subst hu; rfl) (by unfold maxLen; omega) (by omega) (by simp; omega) ?_)
              intro v' w5 hown' hgrow hblk
              have RR := hide (row_step (unhide HBW) (unhide RF) (by omega) (unhide HO) hown' hgrow)
              have KK := hide ((unhide HKP).grown hgrow (unhide HSEP))
              have SS : Hid (∀ k, v'.ownBlock = some k → k = w.heap.size ∨ W0.heap.size ≤ k) := hide (fun k hk => by
                rcases hblk k hk with h | h
                · exact (unhide HSEP) k h
                · exact .inr (by first | omega | (simp at h; omega)))
              clear hown' hgrow hblk
              go_wp2
              go_roundw
              case rel => exact ⟨L.length + 1, by go_num, by omega, hide (by rw [unhide HST]; exact (unhide RR).1), SS, KK, hide (unhide RR).2⟩
              case measure => first | (simp [intOf]; omega) | simp [intOf]
            · have htl : t < L.length := by omega
              rw [if_pos htl] at HE
              have hne : ((t : Int) == (L.length : Int)) = false := by rw [beq_eq_false_iff_ne]; omega
              have HPS : Hid (((steps s t).2 : Int) = pk) := hide (by rw [← unhide HPK]; exact ((unhide HAT) t htl).symm)
              cases t with
              | zero =>
                simp only [Nat.add_zero] at ya
                have HST : Hid (ckk s L (0 + 1) = ckk s L 0 ++ [pk]) := hide (by rw [ckk_step s L 0 htl, ← unhide HE, unhide HPS]; rfl)
                go_wp2_with (at_builtin; refine wpList_appG _ rfl _ _ 26 rfl w.heap.size 2 i0 (.int .i64 0) 1 8 Tryd.underlying26 hi hz0 hz1 hz2 rfl (by decide) _ _ _ rfl (owned_alloc (unhide HO) _) ⟨wr.heap.size, 0, none⟩ 1 1 [.int .i64 pk] rfl rfl (cell_one_new _ _ _) (by intro u hu; simp at hu; subst hu; rfl) (by unfold maxLen; omega) (by omega) (by simp; omega) ?_)
                intro v' w5 hown' hgrow hblk
                have RR := hide (row_step (unhide HBW) (unhide RF) (by omega) (unhide HO) hown' hgrow)
                have KK := hide ((unhide HKP).grown hgrow (unhide HSEP))
                have SS : Hid (∀ k, v'.ownBlock = some k → k = w.heap.size ∨ W0.heap.size ≤ k) := hide (fun k hk => by
                  rcases hblk k hk with h | h
                  · exact (unhide HSEP) k h
                  · exact .inr (by first | omega | (simp at h; omega)))
                clear hown' hgrow hblk
                go_wp2
                go_roundw
                case rel => exact ⟨0 + 1, by go_num, by omega, hide (by rw [unhide HST]; exact (unhide RR).1), SS, KK, hide (unhide RR).2⟩
                case measure => first | (simp [intOf]; omega) | simp [intOf]
              | succ m =>
                have CS := hide (Chr.sChar b1 o1 c1 m L wr (unhide RW) hL6 htl)
                have e0 : (((m + 1 : Nat) : Int) == 0) = false := by rw [beq_eq_false_iff_ne]; omega
                have e0' : ((m : Int) + 1 == 0) = false := by rw [beq_eq_false_iff_ne]; omega
                have hne' : ((m : Int) + 1 == (L.length : Int)) = false := by rw [beq_eq_false_iff_ne]; omega
                have HSB : Hid (senB L (m + 1) = Chr.charS L (m + 1)) := hide (by rw [← unhide HE]; have h1 : (m + 1 == 0) = false := by simp
                                                                                  have h2 : (m + 1 == L.length) = false := by simp [htn]
                                                                                  rw [h1, h2]; simp)
                cases hcs : Chr.charS L (m + 1)
                · rw [hcs] at CS HSB
                  have HST : Hid (ckk s L (m + 1 + 1) = ckk s L (m + 1)) := hide (by rw [ckk_step s L (m + 1) htl, unhide HSB]; simp)
                  go_wp2_with (go_at_call 65; refine (unhide CS).mono ?_; rintro e w3 ⟨rfl, hb3⟩; have O3 := hide (ownsRow_below (unhide HO) hb3); have P3 := hide ((unhide HKP).below hb3); have B3 := hide (jn (unhide HBW) hb3); clear hb3)
                  go_roundw
                  case rel => exact ⟨m + 1 + 1, by go_num, by omega, hide (by rw [unhide HST]; exact unhide O3), HSEP, P3, B3⟩
                  case measure => first | (simp [intOf]; omega) | simp [intOf]
                · rw [hcs] at CS HSB
                  have HST : Hid (ckk s L (m + 1 + 1) = ckk s L (m + 1) ++ [pk]) := hide (by rw [ckk_step s L (m + 1) htl, unhide HSB, unhide HPS]; rfl)
                  go_wp2_with (first | (go_at_call 65; refine (unhide CS).mono ?_; rintro e w3 ⟨rfl, hb3⟩; have O3 := hide (ownsRow_below (unhide HO) hb3); have P3 := hide ((unhide HKP).below hb3); have B3 := hide (hb3.mono hBs); have u1 := (hb3.cell (p := ⟨g, 1, none⟩) hgl).trans y1; have u2 := (hb3.cell (p := ⟨b2, o2 + (m + 1), none⟩) hb2l).trans ya; have z3 := hb3.size; clear hb3) | (at_builtin; refine wpList_appG _ rfl _ _ 26 rfl w.heap.size 2 i0 (.int .i64 0) 1 8 Tryd.underlying26 hi hz0 hz1 hz2 rfl (by decide) _ _ _ rfl (owned_alloc (unhide O3) _) ⟨w3.heap.size, 0, none⟩ 1 1 [.int .i64 pk] rfl rfl (cell_one_new _ _ _) (by intro u hu; simp at hu; subst hu; rfl) (by unfold maxLen; omega) (by omega) (by simp; omega) ?_))
                  intro v' w5 hown' hgrow hblk
                  have RR := hide (row_step (unhide HBW) (unhide B3) (by omega) (unhide O3) hown' hgrow)
                  have KK := hide ((unhide P3).grown hgrow (unhide HSEP))
                  have SS : Hid (∀ k, v'.ownBlock = some k → k = w.heap.size ∨ W0.heap.size ≤ k) := hide (fun k hk => by
                    rcases hblk k hk with h | h
                    · exact (unhide HSEP) k h
                    · exact .inr (by first | omega | (simp at h; omega)))
                  clear hown' hgrow hblk
                  go_wp2
                  go_roundw
                  case rel => exact ⟨m + 1 + 1, by go_num, by omega, hide (by rw [unhide HST]; exact (unhide RR).1), SS, KK, hide (unhide RR).2⟩
                  case measure => first | (simp [intOf]; omega) | simp [intOf]
        · obtain rfl : t = L.length + 1 := by omega
          have HFI : Hid (senOut s = ckk s L (L.length + 1)) := hide (by rw [unhide HOUT, ckk_end s L (by omega)])
          have hge : ¬ ((L.length + 1 : Nat) : Int) < (L.length : Int) + 1 := by omega
          go_wp2
          go_ret
          exact ⟨_, rfl, by rw [unhide HFI]; exact IntsAt.owned (unhide HO), unhide HBW⟩
end Sen
end Go.Proofs.YtdellmjafephiaaDoor
