/- A point, and a broken piece, that is read. -/
import Derived.Test.YtiianallpmfcbaaDoorReadS
namespace Go.Proofs.YtiianallpmfcbaaDoor
open Go.RowKit
set_option maxHeartbeats 2000000 in
theorem point_any (w : World) (B R u nb : Nat) (p : Int) (n : Nat) (h : RS w B R u nb) (hB : B ≤ w.heap.size) (hn1 : 1 ≤ n) (hn : n ≤ 1048576) (hu : u ≤ 1048576) :
    Calls Tryd.prog 39 #[.pointer (some ⟨R, 0, none⟩), .int .i64 p, .int .i64 n] w fun e w' => e = .returned (.tuple #[]) ∧ RS w' B R (u + n) nb ∧ Below B w w' := by
  obtain ⟨i0, hi, hz0, hz1, hz2⟩ := info_parts info2
  obtain ⟨vp, vb, np, xp, xb, hh, hop, hob, hnp, hBR, hd⟩ := h
  obtain ⟨c0, c1, c2, f0, f1, f2⟩ := read_cells hh
  have HOP := hide hop
  have HOB := hide hob
  have HH := hide hh
  have HD := hide hd
  clear hop hob hh hd
  go_enter Tryd.func39, Tryd.ntmps39
  go_wp2_with (at_builtin; refine wpList_app2 rfl _ _ 36 rfl i0 Tryd.underlying36 hi hz0 hz1 hz2 B _ np xp rfl (owned_alloc (unhide HOP) _) ⟨w.heap.size, 0, none⟩ (.int .i64 p) rfl ?c1 rfl ?c3 ?c4 ?c5 ?_)
  case c1 => simp
  case c3 => unfold maxLen; omega
  case c4 => omega
  case c5 => simp; omega
  intro v' w3 ho3 hg hblk
  obtain ⟨d0, d1, d2, g0, g1, g2⟩ := read_cells (rs_heap (unhide HH) (unhide HOP) hg)
  have RR := hide (fun z hz => rs_point (n := n) (z := z) (unhide HH) (unhide HOP) (unhide HOB) hnp hBR (unhide HD) hB hn1 ho3 hg (fun k hk => (hblk k hk).imp_right (fun h => by omega)) hz)
  obtain ⟨va, vc, hv⟩ := own_form ho3
  subst hv
  clear ho3 hg hblk c0 c1 c2 f0 f1 f2
  go_wp2
  go_end0
  exact ⟨rfl, ((unhide RR) _ (by go_num)).1, ((unhide RR) _ (by go_num)).2⟩
theorem own_da {w : World} {B : Nat} {v : Value} {n : Nat} {xs : List Value} (h : w.ownsRow B 2 1 v n xs) (o : Obj) : (w.drew.alloc o).ownsRow B 2 1 v n xs := owned_alloc (w := w.drew) h o
theorem own_ad {w : World} {B : Nat} {v : Value} {n : Nat} {xs : List Value} (h : w.ownsRow B 2 1 v n xs) (o : Obj) : (w.alloc o).drew.ownsRow B 2 1 v n xs := owned_alloc h o
set_option maxHeartbeats 4000000 in
theorem piece_any (w : World) (B R u nb : Nat) (n : Nat) (h : RS w B R u nb) (hB : B ≤ w.heap.size) (hn1 : 1 ≤ n) (hn : n ≤ 1048576) (hu : u ≤ 1048576) (hnb : nb ≤ 1048577) :
    Calls Tryd.prog 41 #[.pointer (some ⟨R, 0, none⟩), .int .i64 n] w fun e w' => e = .returned (.tuple #[]) ∧ RS w' B R (u + n) (nb + 1) ∧ Below B w w' := by
  obtain ⟨i0, hi, hz0, hz1, hz2⟩ := info_parts info2
  obtain ⟨vp, vb, np, xp, xb, hh, hop, hob, hnp, hBR, hd⟩ := h
  obtain ⟨c0, c1, c2, f0, f1, f2⟩ := read_cells hh
  have hRlt : R < w.heap.size := (Array.getElem?_eq_some_iff.1 hh).1
  have e0 : ∀ o, (w.alloc o).cell? ⟨R, 0, none⟩ = some vp := fun o => (World.cell?_of_block (Below.heap_alloc w o R hRlt)).trans c0
  have e1 : ∀ o, (w.alloc o).cell? ⟨R, 1, none⟩ = some vb := fun o => (World.cell?_of_block (Below.heap_alloc w o R hRlt)).trans c1
  have e2 : ∀ o, (w.alloc o).cell? ⟨R, 2, none⟩ = some (.int .i64 u) := fun o => (World.cell?_of_block (Below.heap_alloc w o R hRlt)).trans c2
  have HOP := hide hop
  have HOB := hide hob
  have HH := hide hh
  have HD := hide hd
  clear hop hob hh hd
  go_enter Tryd.func41, Tryd.ntmps41
  go_wp2_with fail
  go_region_law (refine step_app2 rfl (.tmp 8) (.tmp 13) 36 rfl i0 Tryd.underlying36 hi hz0 hz1 hz2 B vb nb xb (by simp [Act.eval]) (by first | exact owned_alloc (unhide HOB) _ | exact own_da (unhide HOB) _ | exact own_ad (unhide HOB) _) ⟨w.heap.size, 0, none⟩ (.int .i64 u) (by simp [Act.eval]) (by simp) rfl (by unfold maxLen; omega) (by omega) (by simp; omega) ?_; intro v' w3 ho3 hg hblk; have hg' : (w.alloc (.cells #[.int .i64 u] 2)).grownBy w3 vb.ownBlock := ⟨hg.os, hg.tape, hg.output, hg.size, hg.block⟩; have h3 := rs_heap (unhide HH) (unhide HOB) hg'; obtain ⟨d0, d1, d2, g0, g1, g2⟩ := read_cells h3; have RR := hide (rs_piece (unhide HH) (unhide HOP) (unhide HOB) hnp hBR (unhide HD) hB ho3 hg' (fun k hk => (hblk k hk).imp_right (fun h => by simp at h; omega))); have hw3 := hg'.size; obtain ⟨va, vc, hv⟩ := own_form ho3; subst hv; clear ho3 hg hg' hblk h3)
  all_goals
    have hsz := (unhide RR).2.size
    go_wp2_with fail
    refine (point_any _ B R u (nb + 1) 65533 n (unhide RR).1 (by omega) hn1 hn hu).mono ?_
    rintro e w5 ⟨rfl, hr, hb⟩
    have HR := hide hr
    have HB := hide ((unhide RR).2.trans hb)
    clear hr hb
    go_wp2
    go_end0
    exact ⟨rfl, unhide HR, unhide HB⟩
end Go.Proofs.YtiianallpmfcbaaDoor
