/- Case, as the program tells it: the row of a point, wherever the blocks lie as their text lays them. -/
import Derived.Test.YtamigjljgepfiaaGreatDoorMK
import Derived.Laws.Rows
import Derived.Deep.WholeRow
import Derived.Deep.Cut
namespace Go.Proofs.YtamigjljgepfiaaGreatDoor
namespace Cas
open Go.RowKit
theorem lone_end {q : Int} (h : q = 609) : lone q = some (530, 530, q) := if_pos h
theorem lone_r {q : Int} (h : ¬ q = 609) (h2 : 9728 ≤ q ∧ q ≤ 9753) : lone q = some (q, q, q - 9728 + 97) := (if_neg h).trans (if_pos h2)
theorem lone_no {q : Int} (h : ¬ q = 609) (h2 : ¬ (9728 ≤ q ∧ q ≤ 9753)) : lone q = none := (if_neg h).trans (if_neg h2)
set_option maxRecDepth 100000 in
set_option maxHeartbeats 1000000 in
theorem lone_any (q : Int) (w : World) (q0 : 0 ≤ q) (q1 : q ≤ 1114111) : Calls Tryz.prog 87 #[.int .i64 q] w fun e w' =>
    e = .returned (.tuple #[rowV ((lone q).getD (0, 0, 0)), .bool (lone q).isSome]) ∧ ∃ o, w' = w.alloc o := by
  by_cases h : q = 609
  · have HR := hide (lone_end h)
    have h' : (q == 609) = true := by simp [h]
    clear h
    go_enter Tryz.func87, Tryz.ntmps87
    go_wp2
    exact bodyPost_ret (v := .tuple #[.agg #[.int .i64 530, .int .i64 530, .int .i64 q], .bool true]) (by simp [results, Tryz.results87, go_sem]) rfl ⟨ret_row (unhide HR), _, rfl⟩
  · have h' : (q == 609) = false := by simp [h]
    by_cases h2 : 9728 ≤ q ∧ q ≤ 9753
    · have HR := hide (lone_r h h2)
      clear h
      go_enter Tryz.func87, Tryz.ntmps87
      go_wp2_with (go_at_call 14; refine (cw_t _ _ _ _ h2).mono ?_; rintro e w' ⟨rfl, rfl⟩)
      exact bodyPost_ret (v := .tuple #[.agg #[.int .i64 q, .int .i64 q, .int .i64 (q - 9728 + 97)], .bool true]) (by simp [results, Tryz.results87, go_sem]) rfl ⟨ret_row (unhide HR), _, rfl⟩
    · have HR := hide (lone_no h h2)
      clear h
      go_enter Tryz.func87, Tryz.ntmps87
      go_wp2_with (go_at_call 14; refine (cw_f _ _ _ _ h2).mono ?_; rintro e w' ⟨rfl, rfl⟩)
      exact bodyPost_ret (v := .tuple #[.agg #[.int .i64 0, .int .i64 0, .int .i64 0], .bool false]) (by simp [results, Tryz.results87, go_sem]) rfl ⟨ret_norow (unhide HR), _, rfl⟩
/-- The blocks lie in their place. -/
def flat : List Int := [65, 26, 0, 32, 512, 32, 0, 32, 576, 4, 4, 8, 8192, 208, 0, 208, 8704, 208, 0, 208, 9216, 208, 0, 208]
def BlkAt (w : World) : Prop := 0 < w.heap.size ∧ ∀ i : Nat, i < 24 → w.cell? ⟨0, i, none⟩ = some (.int .i64 (flat.getD i 0))
theorem BlkAt.below {w w' : World} (h : BlkAt w) (hb : Below w.heap.size w w') : BlkAt w' :=
  ⟨Nat.lt_of_lt_of_le h.1 hb.size, fun i hi => by rw [hb.cell (p := ⟨0, i, none⟩) h.1]; exact h.2 i hi⟩
/-- A struct of three cells in a block of its own. -/
theorem three_cells {w : World} {g : Nat} {a b c : Value} {T : TypeId} (h : w.heap[g]? = some (.cells #[a, b, c] T (0, 0))) :
    w.cell? ⟨g, 0, none⟩ = some a ∧ w.cell? ⟨g, 1, none⟩ = some b ∧ w.cell? ⟨g, 2, none⟩ = some c ∧ w.frozen? ⟨g, 0, none⟩ = false ∧ w.frozen? ⟨g, 1, none⟩ = false ∧ w.frozen? ⟨g, 2, none⟩ = false := by
  simp [World.cell?, World.frozen?, h]
theorem three_put {w : World} {g : Nat} {x y z : Value} {T : TypeId} (h : w.heap[g]? = some (.cells #[x, y, z] T (0, 0))) (a b c : Value) :
    (w.setCell ⟨g, 0, none⟩ a).cell? ⟨g, 0, none⟩ = some a ∧ ((w.setCell ⟨g, 0, none⟩ a).setCell ⟨g, 1, none⟩ b).cell? ⟨g, 1, none⟩ = some b ∧
    (((w.setCell ⟨g, 0, none⟩ a).setCell ⟨g, 1, none⟩ b).setCell ⟨g, 2, none⟩ c).cell? ⟨g, 2, none⟩ = some c := by
  have h0 := heap_setCell_same w g 0 _ T a h
  have h1 := heap_setCell_same _ g 1 _ T b h0
  have h2 := heap_setCell_same _ g 2 _ T c h1
  exact ⟨(three_cells h0).1, (three_cells h1).2.1, (three_cells h2).2.2.1⟩
theorem three_below {w0 w : World} {B g : Nat} (h : Below B w0 w) (hg : B ≤ g) (a b c : Value) : Below B w0 (((w.setCell ⟨g, 0, none⟩ a).setCell ⟨g, 1, none⟩ b).setCell ⟨g, 2, none⟩ c) :=
  ((h.setCell (p := ⟨g, 0, none⟩) hg _).setCell (p := ⟨g, 1, none⟩) hg _).setCell (p := ⟨g, 2, none⟩) hg _
theorem glue {w wr W w4 : World} {ob : Obj} (h4 : Below W.heap.size W w4) (hW : Below wr.heap.size wr W) (hE : wr.heap[w.heap.size]? = some ob) (hB : Below w.heap.size w wr) : w4.heap[w.heap.size]? = some ob ∧ Below w.heap.size w w4 := by
  have hl : w.heap.size < wr.heap.size := (Array.getElem?_eq_some_iff.1 hE).1
  have h5 : Below wr.heap.size wr w4 := hW.trans (h4.mono hW.size)
  exact ⟨by rw [h5.block _ hl]; exact hE, hB.trans (h5.mono (Nat.le_of_lt hl))⟩
theorem rel_glue {w wr W : World} {ob : Obj} (hW : Below wr.heap.size wr W) (hE : wr.heap[w.heap.size]? = some ob) (hB : Below w.heap.size w wr) : Hid (W.heap[w.heap.size]? = some ob) ∧ Hid (Below w.heap.size w W) :=
  glue (Below.refl _ _) hW hE hB
def bk (i : Nat) : B4 := blks.getD i (0, 0, 0, 0)
def arrA : Array Value := (flat.map (Value.int .i64)).toArray
theorem ld_any (W : World) (h : BlkAt W) : (loadCellsFrom ⟨0, 0, none⟩ 0 24 #[]).run Tryz.prog W = .ok arrA W := by
  have := run_loadCells_list (P := Tryz.prog) W ⟨0, 0, none⟩ (flat.map (Value.int .i64)) (fun j v hv => by
    have hj : j < 24 := by
      have := (List.getElem?_eq_some_iff.1 hv).1
      simpa [flat] using this
    have hadd : (⟨0, 0, none⟩ : Addr).add j = ⟨0, j, none⟩ := by unfold Addr.add; split <;> simp_all
    rw [hadd, h.2 j hj, ← hv, List.getElem?_map, List.getD_eq_getElem?_getD]
    have hl : j < flat.length := hj
    rw [List.getElem?_eq_getElem hl]; rfl)
  exact this
theorem ix0 (w : World) : (Instr.index 104 (.agg arrA) (.int .i64 0)).run Tryz.prog w = .ok (.agg #[.int .i64 65, .int .i64 26, .int .i64 0, .int .i64 32]) w := by kernel_rfl
theorem ix1 (w : World) : (Instr.index 104 (.agg arrA) (.int .i64 1)).run Tryz.prog w = .ok (.agg #[.int .i64 512, .int .i64 32, .int .i64 0, .int .i64 32]) w := by kernel_rfl
theorem ix2 (w : World) : (Instr.index 104 (.agg arrA) (.int .i64 2)).run Tryz.prog w = .ok (.agg #[.int .i64 576, .int .i64 4, .int .i64 4, .int .i64 8]) w := by kernel_rfl
theorem ix3 (w : World) : (Instr.index 104 (.agg arrA) (.int .i64 3)).run Tryz.prog w = .ok (.agg #[.int .i64 8192, .int .i64 208, .int .i64 0, .int .i64 208]) w := by kernel_rfl
theorem ix4 (w : World) : (Instr.index 104 (.agg arrA) (.int .i64 4)).run Tryz.prog w = .ok (.agg #[.int .i64 8704, .int .i64 208, .int .i64 0, .int .i64 208]) w := by kernel_rfl
theorem ix5 (w : World) : (Instr.index 104 (.agg arrA) (.int .i64 5)).run Tryz.prog w = .ok (.agg #[.int .i64 9216, .int .i64 208, .int .i64 0, .int .i64 208]) w := by kernel_rfl
theorem ix_any (i : Nat) (hi : i < 6) (w : World) : (Instr.index 104 (.agg arrA) (.int .i64 (i : Int))).run Tryz.prog w = .ok (.agg #[.int .i64 (bk i).1, .int .i64 (bk i).2.1, .int .i64 (bk i).2.2.1, .int .i64 (bk i).2.2.2]) w := by
  have h : i = 0 ∨ i = 1 ∨ i = 2 ∨ i = 3 ∨ i = 4 ∨ i = 5 := by omega
  rcases h with rfl | rfl | rfl | rfl | rfl | rfl
  · exact ix0 w
  · exact ix1 w
  · exact ix2 w
  · exact ix3 w
  · exact ix4 w
  · exact ix5 w
theorem la_any (W : World) (h : BlkAt W) : (Instr.loadAt 104 (.pointer (some ⟨0, 0, none⟩))).run Tryz.prog W = .ok (.agg arrA) W := by
  have ha : (isAgg 104).run Tryz.prog W = .ok true W := by
    unfold isAgg
    rw [Sem.run_bind, run_underlying Tryz.underlying104 W]
    rfl
  have hs : (sizeOf 104).run Tryz.prog W = .ok 24 W := by kernel_rfl
  simp only [Instr.loadAt, Instr.sureAddr, Sem.run_bind, Sem.run_pure, Result.andThen, loadVar, ha]
  have := ld_any W h
  simp_all [loadCells]
theorem wpList_loadG {P : Program} {ops : Array Oper} {rest : List Oper} {o : Oper} {a : Act} {w : World} {Q : Exit → Act → World → Prop} (hgd : o.guard = none) (t : TypeId) (x : Operand) (ho : o.op = .load t x) (v : Value)
    (hr : (Instr.loadAt t (a.eval x)).run P w = .ok v w) (h : wpList P ops Q rest (a.put o.dst v) w) : wpList P ops Q (o :: rest) a w := by
  refine wpList_plain hgd fun K hK => ?_
  unfold Oper.wp execOp
  simp only [ho, Sem.run_bind, Sem.run_pure, Result.andThen_ok, hr]
  exact hK _ _ h
theorem sm_any (i : Nat) (hi : i < 6) : Sm (bk i) := by
  match i, hi with
  | 0, _ => exact ⟨by decide, by decide, by decide, by decide, by decide, by decide, by decide, by decide⟩
  | 1, _ => exact ⟨by decide, by decide, by decide, by decide, by decide, by decide, by decide, by decide⟩
  | 2, _ => exact ⟨by decide, by decide, by decide, by decide, by decide, by decide, by decide, by decide⟩
  | 3, _ => exact ⟨by decide, by decide, by decide, by decide, by decide, by decide, by decide, by decide⟩
  | 4, _ => exact ⟨by decide, by decide, by decide, by decide, by decide, by decide, by decide, by decide⟩
  | 5, _ => exact ⟨by decide, by decide, by decide, by decide, by decide, by decide, by decide, by decide⟩
theorem drop_at (i : Nat) (hi : i < 6) : blks.drop i = bk i :: blks.drop (i + 1) := by
  match i, hi with
  | 0, _ => rfl
  | 1, _ => rfl
  | 2, _ => rfl
  | 3, _ => rfl
  | 4, _ => rfl
  | 5, _ => rfl
theorem row_hit {i : Nat} {p q : Int} {r : Int × Int × Int} (hi : i < 6) (h : rowFrom (blks.drop i) p q = row p) (hr : blkRow (bk i) q = some r) : row p = mv p q r := by
  rw [drop_at i hi] at h; simp only [rowFrom, hr] at h; exact h.symm
theorem row_on {i : Nat} {p q : Int} (hi : i < 6) (h : rowFrom (blks.drop i) p q = row p) (hr : blkRow (bk i) q = none) : rowFrom (blks.drop (i + 1)) p q = row p := by
  rw [drop_at i hi] at h; simp only [rowFrom, hr] at h; exact h
theorem row_end {p q : Int} {r : Int × Int × Int} (h : rowFrom (blks.drop 6) p q = row p) (hr : lone q = some r) : row p = mv p q r := by
  have e : blks.drop 6 = [] := rfl
  rw [e] at h; simp only [rowFrom, hr] at h; exact h.symm
theorem row_self {p q : Int} (h : rowFrom (blks.drop 6) p q = row p) (hr : lone q = none) : row p = (p, p, p) := by
  have e : blks.drop 6 = [] := rfl
  rw [e] at h; simp only [rowFrom, hr] at h; exact h.symm
theorem blk_in {b : B4} {q : Int} {x y z : Int} (hb : Sm b) (h0 : 0 ≤ q) (h1 : q ≤ 1114111) (hr : blkRow b q = some (x, y, z)) : In x ∧ In y ∧ In z := by
  obtain ⟨f0, f1, c0, c1, t0, t1, l0, l1⟩ := hb
  unfold blkRow at hr
  unfold In
  split at hr
  · cases hr; omega
  · split at hr
    · cases hr; omega
    · split at hr
      · cases hr; omega
      · cases hr
theorem lone_in {q x y z : Int} (h0 : 0 ≤ q) (h1 : q ≤ 1114111) (hr : lone q = some (x, y, z)) : In x ∧ In y ∧ In z := by
  unfold lone at hr
  unfold In
  split at hr
  · cases hr; omega
  · split at hr
    · cases hr; omega
    · cases hr
set_option maxRecDepth 100000 in
set_option maxHeartbeats 8000000 in
theorem caseRow_any (p : Int) (w : World) (hp : pt p) (ht : BlkAt w) : Calls Tryz.prog 59 #[.int .i64 p] w fun e w' => e = .returned (rowV (row p)) ∧ Below w.heap.size w w' := by
  obtain ⟨b0, b1, b2⟩ := tw_bd hp.1 hp.2.1
  have hp0 := hp.1
  have hp1 := hp.2.1
  have HP := hide hp
  have hpos := ht.1
  have HT := hide ht
  clear ht hp
  obtain ⟨q, hq⟩ : ∃ q, tw p = q := ⟨_, rfl⟩
  have CW := hide (fun W => tw_any p W)
  rw [hq] at CW b0 b1 b2
  have HS := hide (show rowFrom (blks.drop 0) p q = row p by unfold row; rw [hq]; rfl)
  have CR := hide (fun x y z W => rowIn_any p x y z W hp0 hp1)
  rw [hq] at CR
  have CL := hide (fun W => lone_any q W b0 b1)
  clear hq
  have LA := la_any (w.alloc (.cells #[.int .i64 0, .int .i64 0, .int .i64 0] 80)) ((unhide HT).below (below1 _ _))
  go_enter Tryz.func59, Tryz.ntmps59
  go_wp2_with (first | (go_at_call 84; refine (ispt_i p _ (unhide HP)).mono ?_; rintro e w' ⟨rfl, rfl⟩) | (refine wpList_loadG rfl 104 (.global 0) rfl (.agg arrA) LA ?_))
  have HE0 : Hid ((w.alloc (.cells #[.int .i64 0, .int .i64 0, .int .i64 0] 80)).heap[w.heap.size]? = some (.cells #[.int .i64 0, .int .i64 0, .int .i64 0] 80 (0, 0))) := hide (heap_alloc_last w _)
  have HB0 : Hid (Below w.heap.size w (w.alloc (.cells #[.int .i64 0, .int .i64 0, .int .i64 0] 80))) := hide (below1 _ _)
  go_loopw [14] (fun x wr => ∃ i : Nat, x = .int .i64 i ∧ i ≤ 6 ∧ Hid (rowFrom (blks.drop i) p q = row p) ∧ Hid (wr.heap[w.heap.size]? = some (.cells #[.int .i64 0, .int .i64 0, .int .i64 0] 80 (0, 0))) ∧ Hid (Below w.heap.size w wr)) (fun x _ => 6 - (intOf x).toNat)
  case atStart => exact ⟨0, rfl, by omega, HS, HE0, HB0⟩
  case round =>
    obtain ⟨i, rfl, hi6, HI, HE, HB⟩ := hrel
    clear HE0 HB0 HS
    by_cases hlt : i < 6
    · have ix := ix_any i hlt
      have HSM := hide (sm_any i hlt)
      have HIN := hide (fun x y z => blk_in (x := x) (y := y) (z := z) (sm_any i hlt) b0 b1)
      have CB := hide (fun W => blk_any (bk i) q W (sm_any i hlt) ⟨b0, b1⟩)
      have HH := hide (fun r => row_hit (r := r) hlt (unhide HI))
      have HO := hide (row_on hlt (unhide HI))
      obtain ⟨⟨f, c, t, l⟩, hbk⟩ : ∃ b, bk i = b := ⟨_, rfl⟩
      rw [hbk] at ix CB HIN HH HO
      unfold blkV at CB
      simp only at ix CB
      clear hbk HSM
      cases hr : blkRow (f, c, t, l) q with
      | some r =>
        obtain ⟨x, y, z⟩ := r
        obtain ⟨ix1, iy1, iz1⟩ := (unhide HIN) x y z hr
        have HR := hide ((unhide HH) _ hr)
        have CI := hide (fun W => (unhide CR) x y z W ix1 iy1 iz1)
        rw [hr] at CB
        clear HIN HH HO hr ix1 iy1 iz1 HI CR
        unfold rowV at CI
        simp only [mv] at CI
        unfold rowV at CB
        simp only [Option.getD_some, Option.isSome_some] at CB
        go_wp2_with fail
        go_region_law (first
          | (refine step_call rfl 33 #[.tmp 19] #[2] rfl #[.int .i64 p] (by simp [Act.eval, Act.put]) (by kernel_rfl) (((unhide CW) _).mono ?_); rintro e w2 ⟨rfl, rfl⟩; refine ⟨_, rfl, ?_⟩)
          | (refine step_call rfl 85 #[.tmp 18, .tmp 20] #[103, 2] rfl #[.agg #[.int .i64 f, .int .i64 c, .int .i64 t, .int .i64 l], .int .i64 q] (by simp [Act.eval]) (by kernel_rfl) (((unhide CB) _).mono ?_); rintro e w3 ⟨rfl, o3, rfl⟩; refine ⟨_, rfl, ?_⟩))
        all_goals
          go_wp2_with (go_at_call 86; refine ((unhide CI) _).mono ?_; rintro e w4 ⟨rfl, hb4⟩; obtain ⟨he4, hb5⟩ := glue hb4 (by repeat (first | exact Below.refl _ _ | refine bdrewC ?_ | refine Below.alloc ?_ (by simp <;> omega) _)) (unhide HE) (unhide HB); obtain ⟨c0, c1, c2, z0, z1, z2⟩ := three_cells he4; obtain ⟨p0, p1, p2⟩ := three_put he4 (.int .i64 (x + p - q)) (.int .i64 (y + p - q)) (.int .i64 (z + p - q)); have B5 := hide (three_below hb5 (Nat.le_refl _) (.int .i64 (x + p - q)) (.int .i64 (y + p - q)) (.int .i64 (z + p - q))); clear hb4 he4 hb5)
          try simp only [Exit.inBlock, Exit.then]
          refine bodyPost_ret (v := .agg #[.int .i64 (x + p - q), .int .i64 (y + p - q), .int .i64 (z + p - q)]) (by simp [results, Tryz.results59, go_sem, p0, p1, p2]; try rfl) rfl ?_
          exact ⟨by rw [unhide HR]; rfl, unhide B5⟩
      | none =>
        have HN := hide ((unhide HO) hr)
        rw [hr] at CB
        clear HIN HH HO hr HI CR
        unfold rowV at CB
        simp only [Option.getD_none, Option.isSome_none] at CB
        go_wp2_with fail
        go_region_law (first
          | (refine step_call rfl 33 #[.tmp 19] #[2] rfl #[.int .i64 p] (by simp [Act.eval, Act.put]) (by kernel_rfl) (((unhide CW) _).mono ?_); rintro e w2 ⟨rfl, rfl⟩; refine ⟨_, rfl, ?_⟩)
          | (refine step_call rfl 85 #[.tmp 18, .tmp 20] #[103, 2] rfl #[.agg #[.int .i64 f, .int .i64 c, .int .i64 t, .int .i64 l], .int .i64 q] (by simp [Act.eval]) (by kernel_rfl) (((unhide CB) _).mono ?_); rintro e w3 ⟨rfl, o3, rfl⟩; refine ⟨_, rfl, ?_⟩))
        all_goals
          go_wp2
          go_roundw
          case rel => exact ⟨i + 1, by go_num, by omega, HN, rel_glue (by repeat (first | exact Below.refl _ _ | refine bdrewC ?_ | refine Below.alloc ?_ (by simp <;> omega) _)) (unhide HE) (unhide HB)⟩
          case measure => simp [intOf]; omega
    · obtain rfl : i = 6 := by omega
      have HH := hide (fun r => row_end (r := r) (unhide HI))
      have HO := hide (row_self (unhide HI))
      cases hr : lone q with
      | some r =>
        obtain ⟨x, y, z⟩ := r
        obtain ⟨ix1, iy1, iz1⟩ := lone_in b0 b1 hr
        have HR := hide ((unhide HH) _ hr)
        have CI := hide (fun W => (unhide CR) x y z W ix1 iy1 iz1)
        rw [hr] at CL
        clear HH HO hr ix1 iy1 iz1 HI CR
        unfold rowV at CI CL
        simp only [mv] at CI
        simp only [Option.getD_some, Option.isSome_some] at CL
        go_wp2_with (first | (go_at_call 33; refine ((unhide CW) _).mono ?_; rintro e w2 ⟨rfl, rfl⟩) | (go_at_call 87; refine ((unhide CL) _).mono ?_; rintro e w3 ⟨rfl, o3, rfl⟩) | (go_at_call 86; refine ((unhide CI) _).mono ?_; rintro e w4 ⟨rfl, hb4⟩; obtain ⟨he4, hb5⟩ := glue hb4 (by repeat (first | exact Below.refl _ _ | refine bdrewC ?_ | refine Below.alloc ?_ (by simp <;> omega) _)) (unhide HE) (unhide HB); obtain ⟨c0, c1, c2, z0, z1, z2⟩ := three_cells he4; obtain ⟨p0, p1, p2⟩ := three_put he4 (.int .i64 (x + p - q)) (.int .i64 (y + p - q)) (.int .i64 (z + p - q)); have B5 := hide (three_below hb5 (Nat.le_refl _) (.int .i64 (x + p - q)) (.int .i64 (y + p - q)) (.int .i64 (z + p - q))); clear hb4 he4 hb5))
        refine bodyPost_ret (v := .agg #[.int .i64 (x + p - q), .int .i64 (y + p - q), .int .i64 (z + p - q)]) (by simp [results, Tryz.results59, go_sem, p0, p1, p2]; try rfl) rfl ?_
        exact ⟨by rw [unhide HR]; rfl, unhide B5⟩
      | none =>
        have HR := hide ((unhide HO) hr)
        rw [hr] at CL
        clear HH HO hr HI CR
        unfold rowV at CL
        simp only [Option.getD_none, Option.isSome_none] at CL
        go_upto_region 11 with (first | (go_at_call 33; refine ((unhide CW) _).mono ?_; rintro e w2 ⟨rfl, rfl⟩) | (go_at_call 87; refine ((unhide CL) _).mono ?_; rintro e w3 ⟨rfl, o3, rfl⟩))
        have hw3 := ((Below.refl w2.heap.size w2).alloc (Nat.le_refl _) o3).alloc (by simp) (.cells #[.int .i64 0, .int .i64 0, .int .i64 0] 80)
        generalize (w2.alloc o3).alloc (.cells #[.int .i64 0, .int .i64 0, .int .i64 0] 80) = w3 at hw3 ⊢
        obtain ⟨he4, hb5⟩ := glue (Below.refl _ _) hw3 (unhide HE) (unhide HB)
        obtain ⟨c0, c1, c2, z0, z1, z2⟩ := three_cells he4
        obtain ⟨p0, p1, p2⟩ := three_put he4 (.int .i64 p) (.int .i64 p) (.int .i64 p)
        have B5 := hide (three_below hb5 (Nat.le_refl _) (.int .i64 p) (.int .i64 p) (.int .i64 p))
        clear hw3 he4 hb5
        go_wp2
        refine bodyPost_ret (v := .agg #[.int .i64 p, .int .i64 p, .int .i64 p]) (by simp [results, Tryz.results59, go_sem, p0, p1, p2]; try rfl) rfl ?_
        exact ⟨by rw [unhide HR]; rfl, unhide B5⟩
end Cas
end Go.Proofs.YtamigjljgepfiaaGreatDoor
