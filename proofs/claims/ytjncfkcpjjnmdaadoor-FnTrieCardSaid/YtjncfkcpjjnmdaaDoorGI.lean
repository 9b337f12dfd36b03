/- Several texts in one. -/
import Derived.Test.YtjncfkcpjjnmdaaDoorUnlA
import Derived.Test.YtjncfkcpjjnmdaaDoorGF
import Derived.Deep.RegionLaw
import Derived.Laws.CopyOwn
import Derived.ArgAppend
import Derived.Test.YtjncfkcpjjnmdaaDoorGC
import Derived.Test.YtjncfkcpjjnmdaaDoorSpnF
/- A block put into the table: a row of numbers beside the table stays. -/
namespace Go.Proofs.YtjncfkcpjjnmdaaDoor
open Go.RowKit
/-- A row of numbers that is none of the table's rows. -/
def Kp (w : World) (S : Nat → Value) (i : Nat) (cur : Array Value) : Prop := w.heap[i]? = some (.cells cur 2 (0, 0)) ∧ ∀ s, s < 512 → (S s).ownBlock ≠ some i
theorem Kp.lt {w : World} {S : Nat → Value} {i : Nat} {cur : Array Value} (h : Kp w S i cur) : i < w.heap.size := (Array.getElem?_eq_some_iff.1 h.1).1
theorem Kp.ne {w : World} {S : Nat → Value} {i g : Nat} {cur cur' : Array Value} (h : Kp w S i cur) (hg : w.heap[g]? = some (.cells cur' 52 (0, 0))) : i ≠ g := by
  rintro rfl
  have := h.1.symm.trans hg
  injection this with this
  injection this with _ h2 _
  exact absurd h2 (by decide)
theorem Kp.put1 {w w2 : World} {B g i : Nat} {T PT : List (List Int)} {V V' : Value} {bs : List Value} {S : Nat → Value} {o : Obj} {cur : Array Value} (h : TabI w B g T PT V bs S) (hk : Kp w S i cur) (hg : (w.alloc o).grownBy w2 V.ownBlock) : Kp (w2.setCell ⟨g, 0, none⟩ V') S i cur := by
  obtain ⟨ct, hc⟩ := h.tag
  have hl := hk.lt
  refine ⟨?_, hk.2⟩
  rw [heap_setCell_other w2 ⟨g, 0, none⟩ i V' (hk.ne hc), hg.block i (by simp; omega) (own_ne_tag h.own hk.1 (by decide)), alloc_block w o hl]
  exact hk.1
theorem Kp.put2 {w w2 : World} {B g i r : Nat} {T PT : List (List Int)} {V S' : Value} {bs : List Value} {S : Nat → Value} {o : Obj} {cur : Array Value} (h : TabI w B g T PT V bs S) (hr : r < 512) (hk : Kp w S i cur) (hg : (w.alloc o).grownBy w2 (S r).ownBlock) (hn : NewAt w (S r) S') : Kp (w2.setCell ⟨g, 1 + r, none⟩ S') (fun s => if s = r then S' else S s) i cur := by
  obtain ⟨ct, hc⟩ := h.tag
  have hl := hk.lt
  refine ⟨?_, fun s hs => ?_⟩
  · rw [heap_setCell_other w2 ⟨g, 1 + r, none⟩ i S' (hk.ne hc), hg.block i (by simp; omega) (fun e => hk.2 r hr e.symm), alloc_block w o hl]
    exact hk.1
  · by_cases e : s = r
    · simp only [e, if_true]
      intro e2
      rcases hn i e2 with h1 | h1
      · exact hk.2 r hr h1
      · omega
    · simp only [e, if_false]
      exact hk.2 s hs
theorem Kp.drewN {w : World} {S : Nat → Value} {i : Nat} {cur : Array Value} (h : Kp w S i cur) (n : Nat) : Kp (w.drewN n) S i cur := h
set_option maxHeartbeats 8000000 in
set_option maxRecDepth 100000 in
theorem place_kp (w : World) (B g : Nat) (T : List (List Int)) (V : Value) (bs : List Value) (S : Nat → Value) (vb : Value) (b : List Int) (h : TabI w B g T T V bs S) (hb : BlkAt w B vb b) (hT : T.length ≤ 1048576) :
    Calls Tryd.prog 23 #[.pointer (some ⟨g, 0, none⟩), vb] w fun e w' => e = .returned (.int .i64 ((idxF b T : Nat) : Int)) ∧ (∃ V' bs' S', TabI w' B g (addB T b) (addB T b) V' bs' S' ∧ ∀ i cur, Kp w S i cur → Kp w' S' i cur) ∧ Below B w w' := by
  obtain ⟨i0, hi, hz0, hz1, hz2⟩ := info_parts info29
  obtain ⟨j0, hj, hy0, hy1, hy2⟩ := info_parts info2
  have H := hide h
  have HBk := hide hb
  obtain ⟨_, bg, bo, bc, rfl, _, _⟩ := hb
  have hr := slotN_lt b
  have hc1 := h.cs (slotN b) hr
  have hB := h.hB
  obtain ⟨ra, rc, hS⟩ := own_form (h.rows (slotN b) hr)
  obtain ⟨va, vc, hV⟩ := own_form h.own
  have c0 := h.c0
  have hpl := places_len T (slotN b)
  clear h
  rw [hS] at hc1
  rw [hV] at c0
  have hri : ((slotN b : Nat) : Int) < 512 := by omega
  obtain ⟨s, hs⟩ : ∃ s, slotN b = s := ⟨_, rfl⟩
  rw [hs] at hr hc1 hri hpl hS
  generalize hnp : (places T s).length = np at *
  go_enter Tryd.func23, Tryd.ntmps23
  go_wp2_with fail
  refine (slot_any _ b _ ((unhide HBk).ints hB) (by have := (unhide HBk).1; omega)).mono ?_
  rintro e w' ⟨rfl, rfl⟩
  rw [hs]
  go_wp2
  go_loopw [18] (fun i wr => ∃ k n : Nat, k ≤ np ∧ i = .int .i64 k ∧ wr = w'.drewN n ∧ Hid (∀ j, j < k → tb T (pl T s j) ≠ b)) (fun i _ => np - (intOf i).toNat)
  case atStart => exact ⟨0, 0, Nat.zero_le _, rfl, rfl, hide (fun j hj => by omega)⟩
  case round =>
    obtain ⟨k, n, hk, rfl, rfl, HC⟩ := hrel
    by_cases hlt : k < np
    · have hlt' : (k : Int) < (np : Int) := by omega
      have hrow := (unhide H).rows s hr
      rw [hS, hnp] at hrow
      obtain ⟨gs, cs, hv⟩ := own_at hrow (by omega)
      simp only [Value.slice.injEq] at hv
      obtain ⟨rfl, _, rfl⟩ := hv
      have hrd := (hrow.cellAt k (by omega)).trans (natCells_at _ k (by omega))
      clear hrow
      obtain ⟨hp1, hp2⟩ := pl_mem (T := T) (s := s) (k := k) (by omega)
      have hpl' : (places T s).getD k 0 = pl T s k := rfl
      rw [hpl'] at hrd
      clear hpl'
      have HX : Hid (∀ x, x = pl T s k → (tb T (pl T s k) = tb T x)) := hide (fun x hx => by rw [hx])
      generalize hpk : pl T s k = p at *
      have hpi : ((p : Nat) : Int) < (T.length : Int) := by omega
      have hown := (unhide H).own
      obtain ⟨gb, cb, hv⟩ := own_at hown (by omega)
      rw [hV] at hv
      simp only [Value.slice.injEq] at hv
      obtain ⟨rfl, _, rfl⟩ := hv
      obtain ⟨vp, hvp, hbp⟩ := (unhide H).blk p hp1
      have hrb : w'.cell? ⟨gb, p, none⟩ = some vp := by
        rw [hV] at hown
        exact (hown.cellAt p (by omega)).trans hvp
      clear hown
      have HP := hide hbp
      obtain ⟨pl64, pg, po, pc, rfl, _, _⟩ := hbp
      have ip := (unhide HP).ints hB
      have ib := (unhide HBk).ints hB
      have IP := hide ip
      have IB := hide ib
      have hl1 := (unhide HP).1
      have hl2 := (unhide HBk).1
      clear ip ib
      go_wp2_with fail
      refine (equal_any _ _ (tb T p) b (w'.drewN n) ((unhide IP).drewN n) ((unhide IB).drewN n) (by omega) (by omega)).mono ?_
      rintro e w2 ⟨rfl, m, rfl⟩
      cases hq : sameB (tb T p) b
      · have HC' : Hid (∀ j, j < k + 1 → tb T (pl T s j) ≠ b) := hide (fun j hj => by
          by_cases e : j = k
          · rw [e, hpk]; exact (sameB_not _ _).1 hq
          · exact unhide HC j (by omega))
        go_wp2
        go_roundw
        case rel => exact ⟨k + 1, n + m, by omega, by go_num, rfl, HC'⟩
        case measure => simp [intOf]; omega
      · have hpb := (sameB_iff _ _).1 hq
        have hix := pl_found (unhide H).nodup hp1 hpb
        have hm : addB T b = T := addB_mem (hpb ▸ tb_mem hp1)
        have HI := hide hix
        have HM := hide hm
        clear hix hm hpb
        go_wp2
        go_ret
        refine ⟨ret_int (by rw [unhide HI]), ?_, bdrew (Below.refl _ _) _⟩
        rw [unhide HM]
        exact ⟨V, bs, S, (unhide H).drewN _, fun i cur hk => hk⟩
    · obtain rfl : k = np := by omega
      have hnot : b ∉ T := pl_all (by rw [hs, hnp]; exact unhide HC)
      have HN := hide hnot
      have HI := hide (idxF_not hnot)
      have HM := hide (addB_not hnot)
      clear hnot HC
      have HD : Hid (TabI (w'.drewN n) B g T T V bs S) := hide ((unhide H).drewN n)
      have HBd : Hid (BlkAt (w'.drewN n) B (.slice (some ⟨bg, bo, none⟩) 64 bc) b) := hide (unhide HBk)
      have HK0 : Hid (∀ i cur, Kp w' S i cur → Kp (w'.drewN n) S i cur) := hide (fun i cur hk => hk)
      have HW0 : Hid (Below B w' (w'.drewN n)) := hide (bdrew (Below.refl _ _) _)
      have d0 : (w'.drewN n).cell? ⟨g, 0, none⟩ = some (.slice va T.length vc) := c0
      clear hc1 c0 H HBk
      generalize w'.drewN n = wd at *
      have hBd := (unhide HD).hB
      have hown := (unhide HD).own
      rw [hV] at hown
      have HO := hide hown
      clear hown
      have d0a := cell_alloc d0
      go_wp2_with (at_builtin; refine wpList_append_own _ rfl _ _ 49 rfl B 26 i0 (.slice none 0 0) 1 24 Tryd.underlying49 hi hz0 hz1 hz2 rfl (by decide) _ _ _ rfl (World.ownsRow.alloc (unhide HO) _) ⟨wd.heap.size, 0, none⟩ 1 1 [.slice (some ⟨bg, bo, none⟩) 64 bc] rfl rfl ?c1 ?c2 ?c3 ?c4 ?c5 ?_)
      case c1 => exact one_new _ _ _
      case c2 => intro u hu; simp at hu; subst hu; rfl
      case c3 => unfold maxLen; omega
      case c4 => omega
      case c5 => simp; omega
      intro V' w2 hown' hgrow _
      rw [← hV] at hgrow
      obtain ⟨q0, q1, _⟩ := (unhide HD).grow1 hgrow
      have HP := hide (TabI.put1 (unhide HD) (unhide HBd) (unhide HN) hown' hgrow)
      have HK1 : Hid (∀ i cur, Kp wd S i cur → Kp (w2.setCell ⟨g, 0, none⟩ V') S i cur) := hide (fun i cur hk => Kp.put1 (unhide HD) hk hgrow)
      rw [hV] at q0
      obtain ⟨va', vc', hv'⟩ := own_form hown'
      subst hv'
      clear hown' hgrow
      go_upto_region 10 with fail
      generalize w2.setCell ⟨g, 0, none⟩ (.slice va' (T.length + 1) vc') = w3 at *
      clear q0 q1
      have hB3 := (unhide HP).1.hB
      have e1 := (unhide HP).1.cs s hr
      have hrow := (unhide HP).1.rows s hr
      rw [hS] at e1 hrow
      rw [hnp] at hrow
      have HR := hide hrow
      clear hrow
      have e1a := cell_alloc e1
      have hkl : k ≤ 1048576 := by omega
      have HF := hide (fun (v' : Value) (w5 : World) (o : Obj) (ho : w5.ownsRow B 2 1 v' (k + 1) (natCells (places T s) ++ [.int .i64 (T.length : Int)])) (hg : (w3.alloc o).grownBy w5 (Value.slice ra k rc).ownBlock) (hn : ∀ j, v'.ownBlock = some j → (Value.slice ra k rc).ownBlock = some j ∨ w3.heap.size ≤ j) => (show _ ∧ (∀ i cur, Kp w3 S i cur → Kp (w5.setCell ⟨g, 1 + slotN b, none⟩ v') (fun s => if s = slotN b then v' else S s) i cur) from ⟨TabI.put2 (w2 := w5) (S' := v') (o := o) (b := b) (unhide HP).1 (by rw [hs, hnp]; exact ho) (by rw [hs, hS]; exact hg) (by rw [hs, hS]; exact hn), fun i cur hk => Kp.put2 (unhide HP).1 (slotN_lt b) hk (by rw [hs, hS]; exact hg) (by rw [hs, hS]; exact hn)⟩))
      have HG := hide (fun (w5 : World) (o : Obj) (hg : (w3.alloc o).grownBy w5 (Value.slice ra k rc).ownBlock) => TabI.grow2 (w2 := w5) (o := o) (r := s) (unhide HP).1 hr (by rw [hS]; exact hg))
      rw [hs] at HF
      rw [hS] at HG
      go_region_law (refine step_app2 rfl (.tmp 55) (.tmp 57) 26 rfl j0 Tryd.underlying26 hj hy0 hy1 hy2 B (.slice ra k rc) k (natCells (places T s)) (by simp [Act.eval]) (by first | exact World.ownsRow.alloc (unhide HR) _ | exact own_da (unhide HR) _ | exact own_ad (unhide HR) _) ⟨w3.heap.size, 0, none⟩ (.int .i64 (T.length : Int)) (by simp [Act.eval]) (by simp) rfl (by unfold maxLen; omega) (by omega) (by simp; omega) ?_; intro v' w5 ho5 hg hblk; have hg' : (w3.alloc (.cells #[.int .i64 (T.length : Int)] 2)).grownBy w5 (Value.slice ra k rc).ownBlock := ⟨hg.os, hg.tape, hg.output, hg.size, hg.block⟩; obtain ⟨g0, g1, _⟩ := (unhide HG) w5 _ hg'; have RR := hide ((unhide HF) v' w5 _ ho5 hg' (fun j hj => (hblk j hj).imp_right (fun h => by simp at h; omega))); obtain ⟨va5, vc5, hv5⟩ := own_form ho5; subst hv5; clear ho5 hg hg' hblk)
      all_goals
        go_wp2
        go_ret
        refine ⟨ret_int (by rw [unhide HI]), ?_, (unhide HW0).trans ((unhide HP).2.trans (unhide RR).1.2)⟩
        rw [unhide HM]
        exact ⟨_, _, _, (unhide RR).1.1, fun i cur hk => (unhide RR).2 i cur ((unhide HK1) i cur ((unhide HK0) i cur hk))⟩
end Go.Proofs.YtjncfkcpjjnmdaaDoor
/- Values of all points by spans, and spans of the value 1: the specification. -/
namespace Go.Proofs.YtjncfkcpjjnmdaaDoor
open Go.RowKit
/-- The row of 32768 numbers that F tells, at the base. -/
def VRow (w : World) (B : Nat) (F : Nat → Int) : Prop := w.ownsRow B 2 1 (.slice (some ⟨B, 0, none⟩) 32768 32768) 32768 ((tabF 32768 F).map (Value.int .i64))
theorem VRow.ext {w : World} {B : Nat} {F G : Nat → Int} (h : VRow w B F) (e : tabF 32768 F = tabF 32768 G) : VRow w B G := by
  unfold VRow at h ⊢
  rw [← e]
  exact h
theorem VRow.at {w : World} {B : Nat} {F : Nat → Int} (h : VRow w B F) (j : Nat) (hj : j < 32768) : w.cell? ⟨B, j, none⟩ = some (.int .i64 (F j)) ∧ w.frozen? ⟨B, j, none⟩ = false := by
  refine ⟨(World.ownsRow.cellAt h j (by omega)).trans ?_, World.ownsRow.frozenAt h j⟩
  rw [List.getElem?_map]
  have : (tabF 32768 F)[j]? = some (F j) := by
    unfold tabF
    rw [List.getElem?_map, List.getElem?_range hj]
    rfl
  rw [this]
  rfl
theorem VRow.set {w : World} {B : Nat} {F : Nat → Int} (h : VRow w B F) (j : Nat) (hj : j < 32768) (x : Int) : VRow (w.setCell ⟨B, j, none⟩ (.int .i64 x)) B (upd F j x) := by
  have := (World.ownsRow.stored h j (.int .i64 x)).1
  rw [tabF_set 32768 F j x (Value.int .i64) hj] at this
  exact this
theorem VRow.dat {w : World} {B : Nat} {F : Nat → Int} (h : VRow w B F) : DatAt w w.heap.size (.slice (some ⟨B, 0, none⟩) 32768 32768) (tabF 32768 F) := DatAt.owned h
def filling (o : Int) (p : Nat) : Nat → Int := fun q => if q < p then o else 0
theorem filling_zero (o : Int) : tabF 32768 (fun _ => 0) = tabF 32768 (filling o 0) := tabF_ext fun i _ => (if_neg (by omega)).symm
theorem filling_step (o : Int) (p : Nat) : tabF 32768 (upd (filling o p) p o) = tabF 32768 (filling o (p + 1)) := tabF_ext fun i _ => by
  unfold upd filling
  by_cases e : i = p
  · rw [if_pos e, if_pos (by omega)]
  · rw [if_neg e]
    by_cases h : i < p
    · rw [if_pos h, if_pos (by omega)]
    · rw [if_neg h, if_neg (by omega)]
theorem filling_end (L : List Sp) (o : Int) : tabF 32768 (filling o 32768) = tabF 32768 (fun q => pvU L o 0 q) := tabF_ext fun _ hi => if_pos hi
set_option maxHeartbeats 4000000 in
theorem l04Values_any (v : Value) (L : List Sp) (o : Int) (B : Nat) (w : World) (h : SpRow w B v L) (hr : right L = true) :
    Calls Tryd.prog 34 #[v, .int .i64 o] w fun e w' => e = .returned (.slice (some ⟨w.heap.size, 0, none⟩) 32768 32768) ∧ VRow w' w.heap.size (fun q => pv L o q) ∧ Below w.heap.size w w' := by
  obtain ⟨i0, hi, hz0, hz1, hz2⟩ := info_parts info2
  have HR := hide (right_all hr)
  have hlen := (right_ok hr).1
  clear hr
  obtain ⟨a, c, rfl, hg⟩ := h.form
  have H := hide h
  have G := hide hg
  clear h hg
  go_enter Tryd.func34, Tryd.ntmps34
  go_wp2_with (at_make; refine wpList_make_full _ rfl _ _ 26 rfl w.heap.size 2 i0 (.int .i64 0) 1 Tryd.underlying26 hi hz0 hz1 .i64 .i64 _ _ 32768 rfl rfl rfl rfl ?b2 ?b3 ?b4 ?_)
  case b2 => rw [hz2]; omega
  case b3 => unfold maxLen; omega
  case b4 => omega
  intro w1 hown hgrow
  have H1 : Hid (VRow w1 w.heap.size (filling o 0)) := hide (by
    unfold VRow
    rw [← filling_zero, tabF_replicate, List.map_replicate, ← toList_madeCells_one]
    exact hown)
  have hb1 := hide (made_below hgrow)
  clear hown hgrow
  go_wp2
  go_loopw [6] (fun pv wr => ∃ p : Nat, p ≤ 32768 ∧ pv = .int .i64 p ∧ Hid (VRow wr w.heap.size (filling o p)) ∧ Hid (Below w.heap.size w wr)) (fun p _ => 32768 - (intOf p).toNat)
  case atStart => exact ⟨0, Nat.zero_le _, rfl, H1, hb1⟩
  case round =>
    obtain ⟨p, hp, rfl, HV, HB⟩ := hrel
    clear H1 hb1
    by_cases hlt : p < 32768
    · have hlt' : (p : Int) ≤ 32767 := by omega
      obtain ⟨d0, d1⟩ := (unhide HV).at p hlt
      have HV' := hide (((unhide HV).set p hlt o).ext (filling_step o p))
      have HB' := hide ((unhide HB).setCell (p := ⟨w.heap.size, p, none⟩) (Nat.le_refl _) (.int .i64 o))
      clear HV HB
      go_wp2
      go_roundw
      case rel => exact ⟨p + 1, by omega, by go_num, HV', HB'⟩
      case measure => simp [intOf]; omega
    · obtain rfl : p = 32768 := by omega
      have HV0 : Hid (VRow wr w.heap.size (fun q => pvU L o 0 q)) := hide ((unhide HV).ext (filling_end L o))
      clear HV
      go_wp2
      go_loopw [7] (fun iv wr => ∃ k : Nat, k ≤ L.length ∧ iv = .int .i64 k ∧ Hid (VRow wr w.heap.size (fun q => pvU L o k q)) ∧ Hid (Below w.heap.size w wr)) (fun i _ => L.length - (intOf i).toNat)
      case atStart => exact ⟨0, Nat.zero_le _, rfl, HV0, HB⟩
      case round =>
        obtain ⟨k, hk, rfl, HV, HB2⟩ := hrel
        clear HV0 HB
        by_cases hkl : k < L.length
        · obtain ⟨g1, rfl, _, _⟩ := (unhide G) (by omega)
          obtain ⟨x0, x1, x2⟩ := ((unhide H).below (unhide HB2)).read k hkl
          have hkl' : (k : Int) < (L.length : Int) := by omega
          obtain ⟨r1, r2, r3⟩ := (unhide HR) k hkl
          have HV1 := hide ((unhide HV).ext (laying_start L o k 32768).symm)
          have HSt := hide (laying_step L o k 32768)
          have HEn := hide (laying_end L o k 32768)
          have HRd := hide (fun (w' : World) (hb : Below w.heap.size w w') => ((unhide H).below hb).read k hkl)
          obtain ⟨⟨x, y, z⟩, hrr⟩ : ∃ r, gx L k = r := ⟨_, rfl⟩
          rw [hrr] at x0 x1 x2 r1 r2 r3 HV1 HSt HEn HRd
          simp only at x0 x1 x2 r1 r2 r3 HV1 HSt HEn HRd
          clear hrr HV
          go_wp2
          go_loopw [8] (fun pv wr => ∃ p : Nat, x ≤ (p : Int) ∧ (p : Int) ≤ y + 1 ∧ pv = .int .i64 p ∧ Hid (VRow wr w.heap.size (laying L o k p)) ∧ Hid (Below w.heap.size w wr)) (fun p _ => (y + 1).toNat - (intOf p).toNat)
          case atStart => exact ⟨x.toNat, by omega, by omega, by rw [show ((x.toNat : Nat) : Int) = x by omega], hide (by rw [show ((x.toNat : Nat) : Int) = x by omega]; exact unhide HV1), HB2⟩
          case round =>
            obtain ⟨p, hp1, hp2, rfl, HV3, HB3⟩ := hrel
            clear HV1 x0 x1 x2 HB2
            obtain ⟨x0, x1, x2⟩ := (unhide HRd) _ (unhide HB3)
            by_cases hpy : (p : Int) ≤ y
            · obtain ⟨d0, d1⟩ := (unhide HV3).at p (by omega)
              have HV' := hide (((unhide HV3).set p (by omega) z).ext ((unhide HSt) p hp1))
              have HB' := hide ((unhide HB3).setCell (p := ⟨w.heap.size, p, none⟩) (Nat.le_refl _) (.int .i64 z))
              have hp3 : (p : Int) < 32768 := by omega
              have hp4 : p < 32768 := by omega
              clear HV3 HB3 HSt HEn
              go_wp2
              go_roundw
              case rel => exact ⟨p + 1, by omega, by omega, by go_num, hide (by rw [show ((p + 1 : Nat) : Int) = (p : Int) + 1 by omega]; exact unhide HV'), HB'⟩
              case measure => simp [intOf]; omega
            · have HV' : Hid (VRow wr w.heap.size (fun q => pvU L o (k + 1) q)) := hide ((unhide HV3).ext (by rw [show (p : Int) = y + 1 by omega]; exact unhide HEn))
              clear HV3 HSt HEn
              go_wp2
              go_roundw
              case rel => exact ⟨k + 1, by omega, by go_num, HV', HB3⟩
              case measure => simp [intOf]; omega
        · obtain rfl : k = L.length := by omega
          go_wp2
          go_ret
          exact ⟨rfl, unhide HV, unhide HB2⟩
end Go.Proofs.YtjncfkcpjjnmdaaDoor
/- Values of all points by spans: the program. -/
namespace Go.Proofs.YtjncfkcpjjnmdaaDoor
open Go.RowKit
theorem mul64_c (w : World) : Calls Tryd.prog 54 #[.int .u64 1, .int .u64 32768] w fun e w' => e = .returned (.tuple #[.int .u64 0, .int .u64 32768]) ∧ w' = w := by
  go_enter Tryd.func54, Tryd.ntmps54
  go_wp2
  refine bodyPost_ret (v := .tuple #[.int .u64 0, .int .u64 32768]) (by kernel_rfl) rfl ?_
  exact ⟨rfl, rfl⟩
theorem mul_c (w : World) : Calls Tryd.prog 48 #[.int .u64 1, .int .u64 32768] w fun e w' => e = .returned (.tuple #[.int .u64 0, .int .u64 32768]) ∧ w' = w := by
  go_enter Tryd.func48, Tryd.ntmps48
  go_wp2_with fail
  refine (mul64_c w).mono ?_
  rintro e w' ⟨rfl, rfl⟩
  go_wp2
  refine bodyPost_ret (v := .tuple #[.int .u64 0, .int .u64 32768]) (by kernel_rfl) rfl ?_
  exact ⟨rfl, rfl⟩
/-- The row while it is filled: n of it are. -/
def halfL (o : Int) (n : Nat) : List Value := List.replicate n (.int .i64 o) ++ List.replicate (32768 - n) (.int .i64 0)
theorem halfL_len (o : Int) (n : Nat) (h : n ≤ 32768) : (halfL o n).length = 32768 := by simp [halfL]; omega
theorem halfL_splice (o : Int) (n m : Nat) (_ : n + m ≤ 32768) : splice (halfL o n) n (List.replicate m (.int .i64 o)) = halfL o (n + m) := by
  unfold splice halfL
  have e1 : (List.replicate n (Value.int .i64 o)).length = n := by simp
  rw [List.take_append_of_le_length (by omega), List.take_of_length_le (by omega), List.drop_append, List.drop_eq_nil_of_le (by simp)]
  simp
  rw [← List.append_assoc, List.replicate_append_replicate]
  congr 2
  omega
theorem halfL_full (o : Int) : halfL o 32768 = (tabF 32768 (fun _ => o)).map (Value.int .i64) := by
  rw [tabF_replicate, List.map_replicate]
  unfold halfL
  rw [Nat.sub_self, List.replicate_zero, List.append_nil]
theorem rep_one (o : Int) (m : Nat) : ∀ v ∈ List.replicate m (Value.int .i64 o), v.oneCell' = true := by
  intro v hv
  rw [(List.mem_replicate.1 hv).2]
  rfl
theorem half_cell {w : World} {g n : Nat} {o : Int} (hg : w.heap[g]? = some (.cells (halfL o n).toArray 2 (0, 0))) (m : Nat) (hm : m ≤ n) : ∀ j v, (List.replicate m (Value.int .i64 o))[j]? = some v → w.cell? ((⟨g, 0, none⟩ : Addr).add j) = some v := by
  intro j v hj
  rw [List.getElem?_replicate] at hj
  split at hj
  · rename_i hjm
    injection hj with hj
    subst hj
    have : (⟨g, 0, none⟩ : Addr).add j = ⟨g, j, none⟩ := by unfold Addr.add; split <;> simp_all
    rw [this]
    simp only [World.cell?, hg]
    unfold halfL
    have hl : j < (List.replicate n (Value.int .i64 o)).length := by simp; omega
    simp [List.getElem?_append_left hl, show j < n by omega]
  · cases hj
theorem one_src {w : World} {g0 : Nat} {o : Int} (h : w.cell? ⟨g0, 0, none⟩ = some (.int .i64 o)) : ∀ j v, (List.replicate 1 (Value.int .i64 o))[j]? = some v → w.cell? ((⟨g0, 0, none⟩ : Addr).add j) = some v := by
  intro j v hj
  match j, hj with
  | 0, hj => simp at hj; subst hj; simpa [Addr.add] using h
  | (j + 1), hj => simp at hj
theorem bdrewB {B : Nat} {a w : World} (h : Below B a w) : Below B a w.drew := h.trans ⟨rfl, rfl, rfl, Nat.le_refl _, fun _ _ => rfl⟩
theorem heap_of_own {w : World} {B g n : Nat} {xs : List Value} (h : w.ownsRow B 2 1 (.slice (some ⟨g, 0, none⟩) n n) n xs) : w.heap[g]? = some (.cells xs.toArray 2 (0, 0)) := by
  rcases h.2 with ⟨hv, _⟩ | ⟨g', cap, cur, hv, _, hh, _, _, hs, ht⟩
  · cases hv
  · simp only [Value.slice.injEq, Option.some.injEq, Addr.mk.injEq] at hv
    obtain ⟨⟨rfl, _⟩, _, rfl⟩ := hv
    rw [List.take_of_length_le (by simp; omega)] at ht
    rw [hh, ← ht]
theorem own_of_heap {w : World} {g n : Nat} {xs : List Value} (h : w.heap[g]? = some (.cells xs.toArray 2 (0, 0))) (hn : xs.length = n) (hm : n ≤ maxLen) : w.ownsRow g 2 1 (.slice (some ⟨g, 0, none⟩) n n) n xs := by
  refine ⟨by omega, .inr ⟨g, n, xs.toArray, rfl, Nat.le_refl _, h, Nat.le_refl _, hm, by simp; omega, ?_⟩⟩
  rw [List.take_of_length_le (by simp; omega)]
set_option maxHeartbeats 2000000 in
set_option maxRecDepth 100000 in
theorem repeat_any (g0 : Nat) (o : Int) (w : World) (hc : w.cell? ⟨g0, 0, none⟩ = some (.int .i64 o)) :
    Calls Tryd.prog 40 #[.slice (some ⟨g0, 0, none⟩) 1 1, .int .i64 32768] w fun e w' => e = .returned (.slice (some ⟨w.heap.size, 0, none⟩) 32768 32768) ∧ VRow w' w.heap.size (fun _ => o) ∧ Below w.heap.size w w' := by
  obtain ⟨i0, hi, hz0, hz1, hz2⟩ := info_parts info2
  have hsz : (Tryd.prog.info? 2).map (·.size) = some 1 := by kernel_rfl
  have hgl : g0 < w.heap.size := block_lt_of_cell (a := ⟨g0, 0, none⟩) hc
  have HC := hide hc
  clear hc
  go_enter Tryd.func40, Tryd.ntmps40
  go_wp2_with fail
  refine (mul_c _).mono ?_
  rintro e w' ⟨rfl, rfl⟩
  go_wp2_with (at_make; refine wpList_make_full _ rfl _ _ 26 rfl w'.heap.size 2 i0 (.int .i64 0) 1 Tryd.underlying26 hi hz0 hz1 .i64 .i64 _ _ 32768 rfl rfl rfl rfl ?b2 ?b3 ?b4 ?_)
  case b2 => rw [hz2]; omega
  case b3 => unfold maxLen; omega
  case b4 => omega
  intro w1 hown hgrow
  have hh : w1.heap[w'.heap.size]? = some (.cells (halfL o 0).toArray 2 (0, 0)) := by
    rw [toList_madeCells_one] at hown
    have := heap_of_own hown
    rw [this]
    unfold halfL
    rw [List.replicate_zero, List.nil_append, Nat.sub_zero]
  have H0 := hide hh
  have B0 := hide (made_below hgrow)
  have d0 : w1.cell? ⟨g0, 0, none⟩ = some (.int .i64 o) := ((unhide B0).cell (p := ⟨g0, 0, none⟩) hgl).trans (unhide HC)
  have D0 := hide d0
  clear hown hgrow hh d0
  go_upto_region 7 with fail
  go_wp2_with (refine wpList_copy_splice rfl _ _ 26 26 rfl 2 Tryd.underlying26 hsz (some ⟨w'.heap.size, 0, none⟩) (some ⟨g0, 0, none⟩) 32768 32768 1 1 rfl rfl w'.heap.size 0 (halfL o 0) 2 (unhide H0) (List.replicate 1 (.int .i64 o)) rfl (fun _ => ⟨rfl, ⟨g0, 0, none⟩, rfl, one_src (unhide D0)⟩) (by rw [halfL_len o 0 (by omega)]; simp) (rep_one _ _) w'.heap.size w' (unhide B0) (Nat.le_refl _) ?_)
  intro w2 hg2 hb2
  have H1 : Hid (w2.heap[w'.heap.size]? = some (.cells (halfL o 1).toArray 2 (0, 0))) := hide (by have := unhide hg2; rw [show [Value.int .i64 o] = List.replicate 1 (Value.int .i64 o) from rfl, halfL_splice o 0 1 (by omega)] at this; exact this)
  have B1 := hide hb2
  clear hg2 hb2 H0 B0
  go_wp2
  go_loopw [8] (fun nv wr => ∃ n : Nat, 1 ≤ n ∧ n ≤ 32768 ∧ nv = .int .i64 n ∧ Hid (wr.heap[w'.heap.size]? = some (.cells (halfL o n).toArray 2 (0, 0))) ∧ Hid (Below w'.heap.size w' wr)) (fun n _ => 32768 - (intOf n).toNat)
  case atStart => exact ⟨1, by omega, by omega, rfl, H1, B1⟩
  case round =>
    obtain ⟨n, hn1, hn2, rfl, HH, HB⟩ := hrel
    clear H1 B1
    by_cases hlt : n < 32768
    · have hlt' : (n : Int) < 32768 := by omega
      have hne : ¬ (32768 : Nat) = n := by omega
      have hle : (n : Int) ≤ 32768 := by omega
      obtain ⟨m, hm⟩ : ∃ m, m = Nat.min n (32768 - n) := ⟨_, rfl⟩
      have hm1 : 1 ≤ m ∧ m ≤ n ∧ n + m ≤ 32768 := by
        have h0 : m = if n ≤ 32768 - n then n else 32768 - n := by rw [hm]; rfl
        rw [h0]
        split <;> omega
      obtain ⟨hm1, hm2, hm3⟩ := hm1
      have HM : Hid ((List.replicate m (Value.int .i64 o)).length = Nat.min n (32768 - n)) := hide (by rw [List.length_replicate]; exact hm)
      have HS := hide (halfL_splice o n m hm3)
      have hw1 : IntKind.i64.wrap ((n : Int) + (m : Int)) = (n : Int) + (m : Int) := wrap_in _ (by omega) (by omega)
      have hfit : n + (List.replicate m (Value.int .i64 o)).length ≤ (halfL o n).length := by rw [List.length_replicate, halfL_len o n hn2]; exact hm3
      clear hm
      go_upto_region 9 with fail
      go_region_law (refine step_copy_splice (by rfl) (.tmp 41) (.tmp 44) 26 26 (by rfl) 2 Tryd.underlying26 hsz (some ⟨w'.heap.size, n, none⟩) (some ⟨w'.heap.size, 0, none⟩) (32768 - n) (32768 - n) n 32768 (by simp [Act.eval, Act.put]) (by simp [Act.eval, Act.put]) w'.heap.size n (halfL o n) 2 (unhide HH) (List.replicate m (.int .i64 o)) (unhide HM) (fun _ => ⟨rfl, ⟨w'.heap.size, 0, none⟩, rfl, half_cell (unhide HH) m hm2⟩) hfit (rep_one _ _) w'.heap.size w' (by first | exact unhide HB | exact bdrewB (unhide HB)) (Nat.le_refl _) ?_; intro w4 hg4 hb4; have H4 : Hid (w4.heap[w'.heap.size]? = some (.cells (halfL o (n + m)).toArray 2 (0, 0))) := hide (by have := unhide hg4; rw [unhide HS] at this; exact this); have B4 := hide hb4; clear hg4 hb4)
      all_goals
        simp only [Act.put, List.getElem_toArray, List.getElem_cons_succ, List.getElem_cons_zero, List.setIfInBounds_toArray, List.set_cons_succ, List.set_cons_zero]
        go_wp2
        go_roundw
        case rel => exact ⟨n + m, by omega, by omega, by go_num, H4, B4⟩
        case measure => simp [intOf]; omega
    · obtain rfl : n = 32768 := by omega
      have HV : Hid (VRow wr w'.heap.size (fun _ => o)) := hide (by
        unfold VRow
        rw [← halfL_full]
        exact own_of_heap (unhide HH) (halfL_len o 32768 (Nat.le_refl _)) (by unfold maxLen; omega))
      go_wp2
      go_ret
      exact ⟨rfl, unhide HV, unhide HB⟩
end Go.Proofs.YtjncfkcpjjnmdaaDoor
/- Values of all points by spans: the program's valuesOf. -/
namespace Go.Proofs.YtjncfkcpjjnmdaaDoor
open Go.RowKit
theorem VRow.alloc {w : World} {B : Nat} {F : Nat → Int} (h : VRow w B F) (o : Obj) : VRow (w.alloc o) B F := World.ownsRow.alloc h o
set_option maxHeartbeats 4000000 in
theorem valuesOf_any (v : Value) (L : List Sp) (o : Int) (B : Nat) (w : World) (h : SpRow w B v L) (hr : right L = true) :
    Calls Tryd.prog 22 #[v, .int .i64 o] w fun e w' => e = .returned (.slice (some ⟨w.heap.size + 1, 0, none⟩) 32768 32768) ∧ VRow w' (w.heap.size + 1) (fun q => pv L o q) ∧ Below w.heap.size w w' := by
  have HR := hide (right_all hr)
  have hlen := (right_ok hr).1
  clear hr
  obtain ⟨a, c, rfl, hg⟩ := h.form
  have H := hide h
  have G := hide hg
  clear h hg
  have W0 : Hid (Below w.heap.size w (w.alloc (.cells #[.int .i64 o] 2))) := hide ((Below.refl _ _).alloc (Nat.le_refl _) _)
  have s0 : Hid ((w.alloc (.cells #[.int .i64 o] 2)).heap.size = w.heap.size + 1) := hide (by simp)
  have C0 : Hid ((w.alloc (.cells #[.int .i64 o] 2)).cell? ⟨w.heap.size, 0, none⟩ = some (.int .i64 o)) := hide (by simp)
  go_enter Tryd.func22, Tryd.ntmps22
  go_wp2_with fail
  refine (repeat_any w.heap.size o _ (unhide C0)).mono ?_
  rintro e w1 ⟨rfl, hv, hb⟩
  rw [unhide s0] at hv hb ⊢
  have V1 : Hid (VRow w1 (w.heap.size + 1) (fun q => pvU L o 0 q)) := hide hv
  have W1 := hide ((unhide W0).trans (hb.mono (by omega)))
  clear hv hb W0 C0 s0
  go_wp2
  go_loopw [14] (fun iv wr => ∃ k : Nat, k ≤ L.length ∧ iv = .int .i64 k ∧ Hid (VRow wr (w.heap.size + 1) (fun q => pvU L o k q)) ∧ Hid (Below w.heap.size w wr)) (fun i _ => L.length - (intOf i).toNat)
  case atStart => exact ⟨0, Nat.zero_le _, rfl, V1, W1⟩
  case round =>
    obtain ⟨k, hk, rfl, HV, HB2⟩ := hrel
    clear V1 W1
    by_cases hkl : k < L.length
    · obtain ⟨g1, rfl, _, _⟩ := (unhide G) (by omega)
      obtain ⟨x0, x1, x2⟩ := ((unhide H).below (unhide HB2)).read k hkl
      have hkl' : (k : Int) < (L.length : Int) := by omega
      obtain ⟨r1, r2, r3⟩ := (unhide HR) k hkl
      have HV1 := hide ((unhide HV).ext (laying_start L o k 32768).symm)
      have HSt := hide (laying_step L o k 32768)
      have HEn := hide (laying_end L o k 32768)
      obtain ⟨⟨x, y, z⟩, hrr⟩ : ∃ r, gx L k = r := ⟨_, rfl⟩
      rw [hrr] at x0 x1 x2 r1 r2 r3 HV1 HSt HEn
      simp only at x0 x1 x2 r1 r2 r3 HV1 HSt HEn
      clear hrr HV
      have hBs := (unhide HB2).size
      have hVl := (World.ownsRow.lt (unhide HV1) (w.heap.size + 1) rfl).2
      go_upto_region 5 with fail
      have HV2 := hide ((unhide HV1).alloc (.cells #[.int .i64 x, .int .i64 y, .int .i64 z] 33))
      have HB3 := hide ((unhide HB2).alloc hBs (.cells #[.int .i64 x, .int .i64 y, .int .i64 z] 33))
      have q0 : (wr.alloc (.cells #[.int .i64 x, .int .i64 y, .int .i64 z] 33)).cell? ⟨wr.heap.size, 0, none⟩ = some (.int .i64 x) := by simp
      have q1 : (wr.alloc (.cells #[.int .i64 x, .int .i64 y, .int .i64 z] 33)).cell? ⟨wr.heap.size, 1, none⟩ = some (.int .i64 y) := by simp
      have q2 : (wr.alloc (.cells #[.int .i64 x, .int .i64 y, .int .i64 z] 33)).cell? ⟨wr.heap.size, 2, none⟩ = some (.int .i64 z) := by simp
      have Q1 := hide q1
      have Q2 := hide q2
      clear HV1 HB2 x0 x1 x2 q1 q2
      generalize wr.alloc (.cells #[.int .i64 x, .int .i64 y, .int .i64 z] 33) = w2 at *
      generalize wr.heap.size = gs at *
      go_wp2
      go_loopw [8] (fun pv wq => ∃ p : Nat, x ≤ (p : Int) ∧ (p : Int) ≤ y + 1 ∧ pv = .int .i64 p ∧ Hid (VRow wq (w.heap.size + 1) (laying L o k p)) ∧ Hid (Below w.heap.size w wq) ∧ Hid (wq.cell? ⟨gs, 1, none⟩ = some (.int .i64 y)) ∧ Hid (wq.cell? ⟨gs, 2, none⟩ = some (.int .i64 z))) (fun p _ => (y + 1).toNat - (intOf p).toNat)
      case atStart => exact ⟨x.toNat, by omega, by omega, by rw [show ((x.toNat : Nat) : Int) = x by omega], hide (by rw [show ((x.toNat : Nat) : Int) = x by omega]; exact unhide HV2), HB3, Q1, Q2⟩
      case round =>
        obtain ⟨p, hp1, hp2, rfl, HV3, HB4, R1, R2⟩ := hrel
        clear HV2 HB3 Q1 Q2 q0
        have q1 := unhide R1
        have q2 := unhide R2
        by_cases hpy : (p : Int) ≤ y
        · obtain ⟨d0, d1⟩ := (unhide HV3).at p (by omega)
          have HV' := hide (((unhide HV3).set p (by omega) z).ext ((unhide HSt) p hp1))
          have HB' := hide ((unhide HB4).setCell (p := ⟨w.heap.size + 1, p, none⟩) (by show w.heap.size ≤ w.heap.size + 1; omega) (.int .i64 z))
          have hp3 : (p : Int) < 32768 := by omega
          have hp4 : p < 32768 := by omega
          have S1 := hide ((World.cell?_of_block (a := ⟨gs, 1, none⟩) (heap_setCell_other wr ⟨w.heap.size + 1, p, none⟩ gs (.int .i64 z) (by show gs ≠ w.heap.size + 1; omega))).trans q1)
          have S2 := hide ((World.cell?_of_block (a := ⟨gs, 2, none⟩) (heap_setCell_other wr ⟨w.heap.size + 1, p, none⟩ gs (.int .i64 z) (by show gs ≠ w.heap.size + 1; omega))).trans q2)
          clear HV3 HB4 HSt HEn R1 R2
          go_wp2
          go_roundw
          case rel => exact ⟨p + 1, by omega, by omega, by go_num, hide (by rw [show ((p + 1 : Nat) : Int) = (p : Int) + 1 by omega]; exact unhide HV'), HB', S1, S2⟩
          case measure => simp [intOf]; omega
        · have HV' : Hid (VRow wr (w.heap.size + 1) (fun q => pvU L o (k + 1) q)) := hide ((unhide HV3).ext (by rw [show (p : Int) = y + 1 by omega]; exact unhide HEn))
          clear HV3 HSt HEn
          go_wp2
          go_roundw
          case rel => exact ⟨k + 1, by omega, by go_num, HV', HB4⟩
          case measure => simp [intOf]; omega
    · obtain rfl : k = L.length := by omega
      go_wp2
      go_ret
      exact ⟨rfl, unhide HV, unhide HB2⟩
end Go.Proofs.YtjncfkcpjjnmdaaDoor
/- slices.Grow of no slice. -/
namespace Go.Proofs.YtjncfkcpjjnmdaaDoor
open Go.RowKit
theorem run_append_make (w : World) (ty : TypeId) (n : Nat) (h1 : 0 < n) (h2 : n ≤ 32768) :
    (Builtin.append_ #[26, 3] ty #[.slice none 0 0, .int .i64 n]).run Tryd.prog w =
      .ok (.slice (some ⟨w.heap.size, 0, none⟩) n (grownCap w n 0 2)) (w.drew.alloc (.cells (Builtin.zeroCells #[.int .i64 0] n ++ Builtin.zeroCells #[.int .i64 0] (grownCap w n 0 2 - n)) 2)) := by
  obtain ⟨i0, hi, hz0, hz1, hz2⟩ := info_parts info2
  have hw : IntKind.i64.wrap (n : Int) = (n : Int) := wrap_in _ (by omega) (by omega)
  have a1 : ¬ ((n : Int) < 0) := by omega
  have a2 : ¬ ((281474976710656 : Int) < (n : Int) * 8) := by omega
  have a3 : ¬ n = 0 := by omega
  have a5 : ¬ ((9223372036854775807 : Int) < (n : Int)) := by omega
  have a6 : Builtin.nextslicecap n 0 = n := by unfold Builtin.nextslicecap; rw [if_pos (by omega)]
  have a7 : ¬ 281474976710656 < n * 8 := by omega
  have a9 : max (n : Int) 0 = (n : Int) := by omega
  simp [Builtin.append_, asIntOf, a9, run_underlying Tryd.underlying26, run_underlying Tryd.underlying3, sizeOf, typeInfo, zeroValue, hi, hz0, hz1, hz2, asInt, hw, a1, a2, a3, a5, a6, a7, Question.forced, newRow, grownCap, Builtin.firstCells, Value.cells]
theorem own_nil {w : World} {g cap : Nat} {cur : Array Value} (hh : w.heap[g]? = some (.cells cur 2 (0, 0))) (hc : cap ≤ maxLen) (hs : cur.size = cap) : w.ownsRow g 2 1 (.slice (some ⟨g, 0, none⟩) 0 cap) 0 [] :=
  ⟨rfl, .inr ⟨g, cap, cur, rfl, Nat.le_refl _, hh, Nat.zero_le _, hc, by omega, rfl⟩⟩
theorem wpList_make_grow {w : World} {ops : Array Oper} {rest : List Oper} {o : Oper} {a : Act} {Q : Exit → Act → World → Prop} (hgd : o.guard = none) (s x : Operand)
    (ho : o.op = .call { callee := .builtin .append, args := #[s, x], argTypes := #[26, 3] }) (n : Nat) (hs : a.eval s = .slice none 0 0) (hx : a.eval x = .int .i64 n) (h1 : 0 < n) (h2 : n ≤ 32768)
    (h : ∀ cap w', n ≤ cap → w'.ownsRow w.heap.size 2 1 (.slice (some ⟨w.heap.size, 0, none⟩) 0 cap) 0 [] → Below w.heap.size w w' → wpList Tryd.prog ops Q rest (a.put o.dst (.slice (some ⟨w.heap.size, 0, none⟩) n cap)) w') : wpList Tryd.prog ops Q (o :: rest) a w := by
  refine wpList_plain hgd fun K hK => ?_
  have hr := run_append_make w o.type n h1 h2
  have hge := grownCap_ge w n 0 2
  have hcm : grownCap w n 0 2 ≤ maxLen := grownCap_le_maxLen w n 0 2 (by unfold maxLen; omega)
  unfold Oper.wp execOp
  simp only [ho, resolve, invoke, builtin, Sem.run_bind, Sem.run_pure, Result.andThen_ok, List.map_toArray, List.map_cons, List.map_nil, hs, hx, hr]
  refine hK _ _ (h _ _ hge (own_nil (heap_alloc_new w.drew _) hcm ?_) ⟨rfl, rfl, rfl, by simp, fun k hk => Below.heap_alloc w.drew _ k hk⟩)
  simp [size_zeroCells]
  omega
set_option maxHeartbeats 1000000 in
theorem grow_any (n : Nat) (w : World) (h1 : 0 < n) (h2 : n ≤ 32768) :
    Calls Tryd.prog 43 #[.slice none 0 0, .int .i64 n] w fun e w' => ∃ cap, n ≤ cap ∧ e = .returned (.slice (some ⟨w.heap.size, 0, none⟩) 0 cap) ∧ w'.ownsRow w.heap.size 2 1 (.slice (some ⟨w.heap.size, 0, none⟩) 0 cap) 0 [] ∧ Below w.heap.size w w' := by
  have h1' : (0 : Int) < (n : Int) := by omega
  go_enter Tryd.func43, Tryd.ntmps43
  go_wp2_with (at_builtin; refine wpList_make_grow rfl _ _ rfl n rfl rfl h1 h2 ?_)
  intro cap w1 hc ho hb
  have O := hide ho
  have B := hide hb
  clear ho hb
  go_wp2
  go_ret
  exact ⟨cap, hc, rfl, unhide O, unhide B⟩
end Go.Proofs.YtjncfkcpjjnmdaaDoor
/- slices.Concat of blocks. -/
namespace Go.Proofs.YtjncfkcpjjnmdaaDoor
open Go.RowKit
theorem flat_take (T : List (List Int)) (k : Nat) (h : k < T.length) : (T.take (k + 1)).flatten = (T.take k).flatten ++ tb T k := by
  rw [List.take_succ_eq_append_getElem h, List.flatten_append]
  have : tb T k = T[k] := by simp [tb, List.getD, h]
  rw [this]
  simp
theorem flat_take_len (T : List (List Int)) (h : ∀ b ∈ T, b.length = 64) (k : Nat) (hk : k ≤ T.length) : (T.take k).flatten.length = k * 64 := by
  rw [flat_len _ (fun b hb => h b (List.mem_of_mem_take hb)), List.length_take]
  omega
theorem blk_src {w : World} {g off : Nat} {b : List Int} (hl : b.length = 64) (hc : ∀ j, j < 64 → w.cell? ⟨g, off + j, none⟩ = some (.int .i64 (nth b j))) : ∀ j u, (b.map (Value.int .i64))[j]? = some u → w.cell? ((⟨g, off, none⟩ : Addr).add j) = some u := by
  intro j u hj
  rw [List.getElem?_map] at hj
  by_cases h : j < 64
  · have h2 : b[j]? = some (nth b j) := by simp [nth, List.getD, hl, h]
    rw [h2] at hj
    simp at hj
    have : (⟨g, off, none⟩ : Addr).add j = ⟨g, off + j, none⟩ := by unfold Addr.add; split <;> simp_all
    rw [this, hc j h, ← hj]
  · rw [List.getElem?_eq_none (by omega)] at hj
    simp at hj
theorem nums_one (l : List Int) : ∀ u ∈ l.map (Value.int .i64), u.oneCell' = true := by
  intro u hu
  obtain ⟨x, _, rfl⟩ := List.mem_map.1 hu
  rfl
set_option maxHeartbeats 4000000 in
set_option maxRecDepth 100000 in
theorem concat_any (w : World) (B N : Nat) (T : List (List Int)) (V : Value) (bs : List Value) (hV : w.ownsRow B 26 1 V T.length bs) (hb : ∀ i, i < T.length → ∃ v, bs[i]? = some v ∧ BlkAt w N v (tb T i)) (hN : N ≤ w.heap.size) (h0 : 0 < T.length) (h5 : T.length ≤ 512) :
    Calls Tryd.prog 25 #[V] w fun e w' => ∃ v', e = .returned v' ∧ w'.ownsRow w.heap.size 2 1 v' (T.length * 64) (T.flatten.map (Value.int .i64)) ∧ Below w.heap.size w w' := by
  obtain ⟨i0, hi, hz0, hz1, hz2⟩ := info_parts info2
  obtain ⟨gb, cb, hv⟩ := own_at hV h0
  subst hv
  have h64 : ∀ b ∈ T, b.length = 64 := fun b hbm => by
    obtain ⟨i, hi, e⟩ := tb_of_mem hbm
    obtain ⟨v, _, hk⟩ := hb i hi
    rw [← e]; exact hk.1
  have H64 := hide h64
  have HV := hide hV
  have HB := hide hb
  have hgl : gb < w.heap.size := (World.ownsRow.lt hV gb rfl).2
  have HRd : Hid (∀ (W : World) (i : Nat), Below w.heap.size w W → i < T.length → ∃ g off cap, W.cell? ⟨gb, i, none⟩ = some (.slice (some ⟨g, off, none⟩) 64 cap) ∧ ∀ j, j < 64 → W.cell? ⟨g, off + j, none⟩ = some (.int .i64 (nth (tb T i) j))) := hide (fun W i hW hi => by
    obtain ⟨v, hv, _, g, off, cap, rfl, hgN, hc⟩ := (unhide HB) i hi
    refine ⟨g, off, cap, ?_, fun j hj => (hW.cell (p := ⟨g, off + j, none⟩) (by show g < w.heap.size; omega)).trans (hc j hj)⟩
    exact (hW.cell (p := ⟨gb, i, none⟩) hgl).trans ((World.ownsRow.cellAt (unhide HV) i (by omega)).trans hv))
  clear hV hb h64
  go_enter Tryd.func25, Tryd.ntmps25
  go_wp2
  go_loop [3, 11] (fun sz iv => ∃ k : Nat, k ≤ T.length ∧ iv = .int .i64 k ∧ sz = .int .i64 ((k * 64 : Nat) : Int)) (fun _ i => T.length - (intOf i).toNat)
  case atStart => exact ⟨0, Nat.zero_le _, rfl, rfl⟩
  case round =>
    obtain ⟨k, hk, rfl, rfl⟩ := hrel
    by_cases hlt : k < T.length
    · have hlt' : (k : Int) < (T.length : Int) := by omega
      obtain ⟨g, off, cap, c0, _⟩ := (unhide HRd) w k (Below.refl _ _) hlt
      have hpos : ¬ (((k * 64 : Nat) : Int) + 64 < 0) := by omega
      go_wp2
      go_round
      case rel => exact ⟨k + 1, by omega, by go_num, by rw [show ((k + 1) * 64 : Nat) = k * 64 + 64 by omega]; go_num⟩
      case measure => simp [intOf]; omega
    · obtain rfl : k = T.length := by omega
      go_wp2_with fail
      refine (grow_any (T.length * 64) _ (by omega) (by omega)).mono ?_
      rintro e w1 ⟨cap1, hc1, rfl, ho, hb⟩
      have O1 : Hid (w1.ownsRow w.heap.size 2 1 (.slice (some ⟨w.heap.size, 0, none⟩) 0 cap1) (0 * 64) (((T.take 0).flatten).map (Value.int .i64))) := hide ho
      have B1 := hide hb
      clear ho hb
      go_wp2
      go_loopw [6, 27] (fun sv iv wr => ∃ k : Nat, k ≤ T.length ∧ iv = .int .i64 k ∧ Hid (wr.ownsRow w.heap.size 2 1 sv (k * 64) (((T.take k).flatten).map (Value.int .i64))) ∧ Hid (Below w.heap.size w wr)) (fun _ i _ => T.length - (intOf i).toNat)
      case atStart => exact ⟨0, Nat.zero_le _, rfl, O1, B1⟩
      case round =>
        obtain ⟨k, hk2, rfl, HO, HW⟩ := hrel
        clear O1 B1
        by_cases hlt2 : k < T.length
        · have hlt' : (k : Int) < (T.length : Int) := by omega
          obtain ⟨g, off, cap, c0, cj⟩ := (unhide HRd) wr k (unhide HW) hlt2
          have hl64 : (tb T k).length = 64 := (unhide H64) _ (tb_mem hlt2)
          have HSr := hide (blk_src hl64 cj)
          have HL := hide hl64
          have HT := hide (flat_take T k hlt2)
          have hBs := (unhide HW).size
          obtain ⟨sa, sc, hsv⟩ := own_form (unhide HO)
          subst hsv
          clear cj hl64
          go_wp2_with (at_builtin; refine wpList_append_own _ rfl _ _ 26 rfl w.heap.size 2 i0 (.int .i64 0) 1 8 Tryd.underlying26 hi hz0 hz1 hz2 rfl (by decide) _ _ _ rfl (unhide HO) ⟨g, off, none⟩ 64 cap ((tb T k).map (Value.int .i64)) rfl (by rw [List.length_map]; exact unhide HL) (unhide HSr) (nums_one _) (by unfold maxLen; omega) (by omega) hBs ?_)
          intro v' w3 hown' hgrow _
          have R : Hid (w3.ownsRow w.heap.size 2 1 v' ((k + 1) * 64) (((T.take (k + 1)).flatten).map (Value.int .i64))) := hide (by
            rw [unhide HT, List.map_append, show (k + 1) * 64 = k * 64 + 64 by omega]
            rw [List.map_flatten, List.map_take]
            exact hown')
          have W3 := hide ((unhide HW).grown hgrow hBs (fun j hj => ((unhide HO).lt j hj).1))
          clear hown' hgrow
          go_wp2
          go_roundw
          case rel => exact ⟨k + 1, by omega, by go_num, R, W3⟩
          case measure => simp [intOf]; omega
        · obtain rfl : k = T.length := by omega
          have ho := unhide HO
          rw [List.take_length] at ho
          have R := hide ho
          clear ho HO
          go_wp2
          go_ret
          exact ⟨_, rfl, unhide R, unhide HW⟩
end Go.Proofs.YtjncfkcpjjnmdaaDoor
/- A trie out of spans: the program. -/
namespace Go.Proofs.YtjncfkcpjjnmdaaDoor
open Go.RowKit
theorem TabI.kept {w w' : World} {B g i : Nat} {T PT : List (List Int)} {V : Value} {bs : List Value} {S : Nat → Value} (h : TabI w B g T PT V bs S) (hw : w.grownBy w' (some i)) (hig : i ≠ g) (hBi : B ≤ i) (hV : V.ownBlock ≠ some i) (hS : ∀ s, s < 512 → (S s).ownBlock ≠ some i) : TabI w' B g T PT V bs S := by
  have hgl := h.glt
  have e : w'.heap[g]? = w.heap[g]? := hw.block g hgl (by simp; omega)
  have hlow : ∀ k, k < B → w'.heap[k]? = w.heap[k]? := fun k hk => hw.block k (by have := h.hB; omega) (by simp; omega)
  refine ⟨by have := h.hB; have := hw.size; omega, h.hg, World.ownsRow.kept h.own hw (.inr hV), fun j hj => ?_, h.nodup, ?_, fun s hs => ?_, fun j => ?_, ?_, fun s hs => World.ownsRow.kept (h.rows s hs) hw (.inr (hS s hs)), h.apart⟩
  · obtain ⟨v, hv, hk⟩ := h.blk j hj
    exact ⟨v, hv, hk.same hlow⟩
  · exact (World.cell?_of_block (a := ⟨g, 0, none⟩) e).trans h.c0
  · exact (World.cell?_of_block (a := ⟨g, 1 + s, none⟩) e).trans (h.cs s hs)
  · exact (World.frozen?_of_block (a := ⟨g, j, none⟩) e).trans (h.fr j)
  · obtain ⟨cur, hc⟩ := h.tag
    exact ⟨cur, e.trans hc⟩
theorem grown_some {w w' : World} {i : Nat} (h : w.grownBy w' none) : w.grownBy w' (some i) := ⟨h.os, h.tape, h.output, h.size, fun k hk _ => h.block k hk (by simp)⟩
/-- The row of places while it is filled. -/
def ixL (l : List Int) (k : Nat) : List Value := (bld l k).2.map (Value.int .i64) ++ List.replicate (512 - k) (.int .i64 0)
theorem ixL_len (l : List Int) (k : Nat) (h : k ≤ 512) : (ixL l k).length = 512 := by simp [ixL, bld_ix_len]; omega
theorem ixL_zero (l : List Int) : ixL l 0 = List.replicate 512 (.int .i64 0) := List.nil_append _
theorem ixL_full (l : List Int) : ixL l 512 = (bld l 512).2.map (Value.int .i64) := by
  unfold ixL
  rw [Nat.sub_self, List.replicate_zero, List.append_nil]
theorem ixL_set (l : List Int) (k : Nat) (h : k < 512) : (ixL l k).toArray.setIfInBounds k (.int .i64 ((idxF (blk l k) (bld l k).1 : Nat) : Int)) = (ixL l (k + 1)).toArray := by
  have e : 512 - k = (512 - (k + 1)) + 1 := by omega
  have hl : ((bld l k).2.map (Value.int .i64)).length = k := by simp [bld_ix_len]
  rw [List.setIfInBounds_toArray]
  unfold ixL
  rw [e, List.replicate_succ, List.set_append_right _ _ (by omega), hl, Nat.sub_self, List.set_cons_zero, bld_succ]
  simp
theorem bld_pos (l : List Int) (k : Nat) : 0 < (bld l (k + 1)).1.length := by
  rw [bld_succ]
  show 0 < (addB _ _).length
  unfold addB
  split
  · rename_i h; exact List.length_pos_of_mem h
  · simp
/-- The loop's state: the table, the row of places at i, the blocks below B as at its start. -/
def BSt (w0 wr : World) (B N i : Nat) (l : List Int) (k : Nat) : Prop :=
  (∃ V bs S, TabI wr B B (bld l k).1 (bld l k).1 V bs S ∧ Kp wr S i (ixL l k).toArray) ∧ Below N w0 wr
theorem BSt.put {w0 wr w3 : World} {B N i : Nat} {l : List Int} {k : Nat} (hk : k < 512) (hi : B < i) (hN : N ≤ B) (hb : Below N w0 wr) (hbb : Below B wr w3)
    (h : ∃ V bs S, TabI w3 B B (addB (bld l k).1 (blk l k)) (addB (bld l k).1 (blk l k)) V bs S ∧ Kp w3 S i (ixL l k).toArray) :
    BSt w0 (w3.setCell ⟨i, k, none⟩ (.int .i64 ((idxF (blk l k) (bld l k).1 : Nat) : Int))) B N i l (k + 1) := by
  obtain ⟨V, bs, S, hT, hK⟩ := h
  refine ⟨⟨V, bs, S, ?_, ?_, hK.2⟩, (hb.trans (hbb.mono hN)).setCell (p := ⟨i, k, none⟩) (by show N ≤ i; omega) _⟩
  · rw [bld_succ]
    exact hT.kept set_grown (by omega) (by omega) (fun e => own_ne_tag hT.own hK.1 (by decide) e.symm) hK.2
  · rw [heap_setCell_same w3 i k _ 2 _ hK.1, ixL_set l k hk]
theorem Kp.at {w : World} {S : Nat → Value} {i : Nat} {l : List Int} {k : Nat} (h : Kp w S i (ixL l k).toArray) (hk : k < 512) : w.cell? ⟨i, k, none⟩ = some (.int .i64 0) ∧ w.frozen? ⟨i, k, none⟩ = false := by
  have ho := own_of_heap (n := 512) h.1 (ixL_len l k (by omega)) (by unfold maxLen; omega)
  refine ⟨(ho.cellAt k (by omega)).trans ?_, ho.frozenAt k⟩
  unfold ixL
  rw [List.getElem?_append_right (by simp [bld_ix_len]), List.length_map, bld_ix_len, Nat.sub_self, List.getElem?_replicate, if_pos (by omega)]
/-- The values of all points. -/
def valsL (L : List Sp) (o : Int) : List Int := tabF 32768 (fun q => pv L o q)
theorem valsL_len (L : List Sp) (o : Int) : (valsL L o).length = 512 * 64 := by simp [valsL, tabF]
end Go.Proofs.YtjncfkcpjjnmdaaDoor
