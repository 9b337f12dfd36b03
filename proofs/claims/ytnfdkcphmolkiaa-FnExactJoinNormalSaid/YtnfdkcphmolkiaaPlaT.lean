/- A block put into the table, or found there. -/
import Derived.Test.YtnfdkcphmolkiaaTabA
import Derived.Test.YtnfdkcphmolkiaaApp2
import Derived.Deep.Cut
namespace Go.Proofs.Ytnfdkcphmolkiaa
open Go.RowKit
theorem row_read {w : World} {B g c : Nat} {l : List Nat} (h : w.ownsRow B 2 1 (.slice (some ⟨g, 0, none⟩) l.length c) l.length (natCells l)) (k : Nat) (hk : k < l.length) : w.cell? ⟨g, k, none⟩ = some (.int .i64 ((l.getD k 0 : Nat) : Int)) :=
  (h.cellAt k (by omega)).trans (natCells_at l k hk)
theorem own_at {w : World} {B : Nat} {e : TypeId} {v : Value} {n : Nat} {xs : List Value} (h : w.ownsRow B e 1 v n xs) (hn : 0 < n) : ∃ g c, v = .slice (some ⟨g, 0, none⟩) n c := by
  rcases h.2 with ⟨_, h0⟩ | ⟨g, cap, cur, hv, _⟩
  · omega
  · exact ⟨g, cap, hv⟩
theorem one_new (w : World) (x : Value) (t : TypeId) : ∀ j u, [x][j]? = some u → (w.alloc (.cells #[x] t)).cell? ((⟨w.heap.size, 0, none⟩ : Addr).add j) = some u := by
  intro j u hj
  match j, hj with
  | 0, hj => simp at hj; subst hj; simp [Addr.add]
  | (j + 1), hj => simp at hj
theorem TabI.drewN {w : World} {B g : Nat} {T PT : List (List Int)} {V : Value} {bs : List Value} {S : Nat → Value} (h : TabI w B g T PT V bs S) (n : Nat) : TabI (w.drewN n) B g T PT V bs S :=
  ⟨h.hB, h.hg, h.own, h.blk, h.nodup, h.c0, h.cs, h.fr, h.tag, h.rows, h.apart⟩
set_option maxHeartbeats 8000000 in
set_option maxRecDepth 100000 in
theorem place_any (w : World) (B g : Nat) (T : List (List Int)) (V : Value) (bs : List Value) (S : Nat → Value) (vb : Value) (b : List Int) (h : TabI w B g T T V bs S) (hb : BlkAt w B vb b) (hT : T.length ≤ 1048576) :
    Calls Try.prog 55 #[.pointer (some ⟨g, 0, none⟩), vb] w fun e w' => e = .returned (.int .i64 ((idxF b T : Nat) : Int)) ∧ (∃ V' bs' S', TabI w' B g (addB T b) (addB T b) V' bs' S') ∧ Below B w w' := by
  obtain ⟨i0, hi, hz0, hz1, hz2⟩ := info_parts info29
  obtain ⟨j0, hj, hy0, hy1, hy2⟩ := info_parts info2
  have H := hide h
  have HBk := hide hb
  obtain ⟨_, bg, bo, bc, rfl, _, _⟩ := hb
  have hr := slotN_lt b
  have hc1 := h.cs (slotN b) hr
  have hB := h.hB
  obtain ⟨ra, rc, hS⟩ := own_form (h.rows (slotN b) hr)
  obtain ⟨va, vc, hV⟩ := own_form h.own
  have c0 := h.c0
  have hpl := places_len T (slotN b)
  clear h
  rw [hS] at hc1
  rw [hV] at c0
  have hri : ((slotN b : Nat) : Int) < 512 := by omega
  obtain ⟨s, hs⟩ : ∃ s, slotN b = s := ⟨_, rfl⟩
  rw [hs] at hr hc1 hri hpl hS
  generalize hnp : (places T s).length = np at *
  go_enter Try.func55, Try.ntmps55
  go_wp2_with fail
  refine (slot_any _ b _ ((unhide HBk).ints hB) (by have := (unhide HBk).1; omega)).mono ?_
  rintro e w' ⟨rfl, rfl⟩
  rw [hs]
  go_wp2
  go_loopw [18] (fun i wr => ∃ k n : Nat, k ≤ np ∧ i = .int .i64 k ∧ wr = w'.drewN n ∧ Hid (∀ j, j < k → tb T (pl T s j) ≠ b)) (fun i _ => np - (intOf i).toNat)
  case atStart => exact ⟨0, 0, Nat.zero_le _, rfl, rfl, hide (fun j hj => by omega)⟩
  case round =>
    obtain ⟨k, n, hk, rfl, rfl, HC⟩ := hrel
    by_cases hlt : k < np
    · have hlt' : (k : Int) < (np : Int) := by omega
      have hrow := (unhide H).rows s hr
      rw [hS, hnp] at hrow
      obtain ⟨gs, cs, hv⟩ := own_at hrow (by omega)
      simp only [Value.slice.injEq] at hv
      obtain ⟨rfl, _, rfl⟩ := hv
      have hrd := (hrow.cellAt k (by omega)).trans (natCells_at _ k (by omega))
      clear hrow
      obtain ⟨hp1, hp2⟩ := pl_mem (T := T) (s := s) (k := k) (by omega)
      have hpl' : (places T s).getD k 0 = pl T s k := rfl
      rw [hpl'] at hrd
      clear hpl'
      have HX : Hid (∀ x, x = pl T s k → (tb T (pl T s k) = tb T x)) := hide (fun x hx => by rw [hx])
      generalize hpk : pl T s k = p at *
      have hpi : ((p : Nat) : Int) < (T.length : Int) := by omega
      have hown := (unhide H).own
      obtain ⟨gb, cb, hv⟩ := own_at hown (by omega)
      rw [hV] at hv
      simp only [Value.slice.injEq] at hv
      obtain ⟨rfl, _, rfl⟩ := hv
      obtain ⟨vp, hvp, hbp⟩ := (unhide H).blk p hp1
      have hrb : w'.cell? ⟨gb, p, none⟩ = some vp := by
        rw [hV] at hown
        exact (hown.cellAt p (by omega)).trans hvp
      clear hown
      have HP := hide hbp
      obtain ⟨pl64, pg, po, pc, rfl, _, _⟩ := hbp
      have ip := (unhide HP).ints hB
      have ib := (unhide HBk).ints hB
      have IP := hide ip
      have IB := hide ib
      have hl1 := (unhide HP).1
      have hl2 := (unhide HBk).1
      clear ip ib
      go_wp2_with fail
      refine (equal_any _ _ (tb T p) b (w'.drewN n) ((unhide IP).drewN n) ((unhide IB).drewN n) (by omega) (by omega)).mono ?_
      rintro e w2 ⟨rfl, m, rfl⟩
      cases hq : sameB (tb T p) b
      · have HC' : Hid (∀ j, j < k + 1 → tb T (pl T s j) ≠ b) := hide (fun j hj => by
          by_cases e : j = k
          · rw [e, hpk]; exact (sameB_not _ _).1 hq
          · exact unhide HC j (by omega))
        go_wp2
        go_roundw
        case rel => exact ⟨k + 1, n + m, by omega, by go_num, rfl, HC'⟩
        case measure => simp [intOf]; omega
      · have hpb := (sameB_iff _ _).1 hq
        have hix := pl_found (unhide H).nodup hp1 hpb
        have hm : addB T b = T := addB_mem (hpb ▸ tb_mem hp1)
        have HI := hide hix
        have HM := hide hm
        clear hix hm hpb
        go_wp2
        go_ret
        refine ⟨ret_int (by rw [unhide HI]), ?_, bdrew (Below.refl _ _) _⟩
        rw [unhide HM]
        exact ⟨V, bs, S, (unhide H).drewN _⟩
    · obtain rfl : k = np := by omega
      have hnot : b ∉ T := pl_all (by rw [hs, hnp]; exact unhide HC)
      have HN := hide hnot
      have HI := hide (idxF_not hnot)
      have HM := hide (addB_not hnot)
      clear hnot HC
      have HD : Hid (TabI (w'.drewN n) B g T T V bs S) := hide ((unhide H).drewN n)
      have HBd : Hid (BlkAt (w'.drewN n) B (.slice (some ⟨bg, bo, none⟩) 64 bc) b) := hide (unhide HBk)
      have HW0 : Hid (Below B w' (w'.drewN n)) := hide (bdrew (Below.refl _ _) _)
      have d0 : (w'.drewN n).cell? ⟨g, 0, none⟩ = some (.slice va T.length vc) := c0
      clear hc1 c0 H HBk
      generalize w'.drewN n = wd at *
      have hBd := (unhide HD).hB
      have hown := (unhide HD).own
      rw [hV] at hown
      have HO := hide hown
      clear hown
      have d0a := cell_alloc d0
      go_wp2_with (at_builtin; refine wpList_append_own _ rfl _ _ 62 rfl B 24 i0 (.slice none 0 0) 1 24 Try.underlying62 hi hz0 hz1 hz2 rfl (by decide) _ _ _ rfl (World.ownsRow.alloc (unhide HO) _) ⟨wd.heap.size, 0, none⟩ 1 1 [.slice (some ⟨bg, bo, none⟩) 64 bc] rfl rfl ?c1 ?c2 ?c3 ?c4 ?c5 ?_)
      case c1 => exact one_new _ _ _
      case c2 => intro u hu; simp at hu; subst hu; rfl
      case c3 => unfold maxLen; omega
      case c4 => omega
      case c5 => simp; omega
      intro V' w2 hown' hgrow _
      rw [← hV] at hgrow
      obtain ⟨q0, q1, _⟩ := (unhide HD).grow1 hgrow
      have HP := hide (TabI.put1 (unhide HD) (unhide HBd) (unhide HN) hown' hgrow)
      rw [hV] at q0
      obtain ⟨va', vc', hv'⟩ := own_form hown'
      subst hv'
      clear hown' hgrow
      go_upto_region 10 with fail
      generalize w2.setCell ⟨g, 0, none⟩ (.slice va' (T.length + 1) vc') = w3 at *
      clear q0 q1
      have hB3 := (unhide HP).1.hB
      have e1 := (unhide HP).1.cs s hr
      have hrow := (unhide HP).1.rows s hr
      rw [hS] at e1 hrow
      rw [hnp] at hrow
      have HR := hide hrow
      clear hrow
      have e1a := cell_alloc e1
      have hkl : k ≤ 1048576 := by omega
      have HF := hide (fun (v' : Value) (w5 : World) (o : Obj) (ho : w5.ownsRow B 2 1 v' (k + 1) (natCells (places T s) ++ [.int .i64 (T.length : Int)])) (hg : (w3.alloc o).grownBy w5 (Value.slice ra k rc).ownBlock) (hn : ∀ j, v'.ownBlock = some j → (Value.slice ra k rc).ownBlock = some j ∨ w3.heap.size ≤ j) => TabI.put2 (w2 := w5) (S' := v') (o := o) (b := b) (unhide HP).1 (by rw [hs, hnp]; exact ho) (by rw [hs, hS]; exact hg) (by rw [hs, hS]; exact hn))
      have HG := hide (fun (w5 : World) (o : Obj) (hg : (w3.alloc o).grownBy w5 (Value.slice ra k rc).ownBlock) => TabI.grow2 (w2 := w5) (o := o) (r := s) (unhide HP).1 hr (by rw [hS]; exact hg))
      rw [hs] at HF
      rw [hS] at HG
      go_region_law (refine step_app2 rfl (.tmp 55) (.tmp 57) 24 rfl j0 Try.underlying24 hj hy0 hy1 hy2 B (.slice ra k rc) k (natCells (places T s)) (by simp [Act.eval]) (by first | exact World.ownsRow.alloc (unhide HR) _ | exact own_da (unhide HR) _ | exact own_ad (unhide HR) _) ⟨w3.heap.size, 0, none⟩ (.int .i64 (T.length : Int)) (by simp [Act.eval]) (by simp) rfl (by unfold maxLen; omega) (by omega) (by simp; omega) ?_; intro v' w5 ho5 hg hblk; have hg' : (w3.alloc (.cells #[.int .i64 (T.length : Int)] 2)).grownBy w5 (Value.slice ra k rc).ownBlock := ⟨hg.os, hg.tape, hg.output, hg.size, hg.block⟩; obtain ⟨g0, g1, _⟩ := (unhide HG) w5 _ hg'; have RR := hide ((unhide HF) v' w5 _ ho5 hg' (fun j hj => (hblk j hj).imp_right (fun h => by simp at h; omega))); obtain ⟨va5, vc5, hv5⟩ := own_form ho5; subst hv5; clear ho5 hg hg' hblk)
      all_goals
        go_wp2
        go_ret
        refine ⟨ret_int (by rw [unhide HI]), ?_, (unhide HW0).trans ((unhide HP).2.trans (unhide RR).2)⟩
        rw [unhide HM]
        exact ⟨_, _, _, (unhide RR).1⟩
end Go.Proofs.Ytnfdkcphmolkiaa
