/- Several texts in one. -/
import Derived.Test.YtbaedapnikhdgaaGreatDoorBase
import Derived.Test.YtbaedapnikhdgaaGreatDoorRows
import Derived.BigRegion
import Derived.BigQuiet
import Derived.Deep.QuietTactic
import Derived.RegionTactic
import Derived.Deep.DeepCutAuto
import Derived.OpenShut
import Derived.Test.YtbaedapnikhdgaaGreatDoorND
import Derived.Lib.AppendStr
import Derived.Lib.BufferRead
import Derived.Outline
/- The source of draws: a number below a bound, and the source is one again. -/
namespace Go.Proofs.YtbaedapnikhdgaaGreatDoor.Dr
open Go.RowKit
/-- The bytes that the source draws from can be read. -/
def CodeAt (w : World) (src : Nat) (a : Option Addr) (len : Nat) : Prop :=
  len = 0 ∨ ∃ cb off, a = some ⟨cb, off, none⟩ ∧ cb < w.heap.size ∧ cb ≠ src ∧ ∀ i, i < len → ∃ z : Int, w.cell? ⟨cb, off + i, none⟩ = some (.int .u8 z) ∧ 0 ≤ z ∧ z < 256
/-- The source: its four fields in a block of its own. -/
def SrcAt (w : World) (src : Nat) (a : Option Addr) (len cap : Nat) (size : Int) : Prop :=
  CodeAt w src a len ∧ ∃ (p : Nat) (mix : Int), p ≤ len ∧ (Lit.int .u64 mix).wf = true ∧ w.heap[src]? = some (.cells #[.slice a len cap, .int .i64 p, .int .u64 mix, .int .i64 size] 55 (0, 0))
theorem src_cells {w : World} {src : Nat} {c0 c1 c2 c3 : Value} {T : TypeId} (h : w.heap[src]? = some (.cells #[c0, c1, c2, c3] T (0, 0))) :
    w.cell? ⟨src, 0, none⟩ = some c0 ∧ w.cell? ⟨src, 1, none⟩ = some c1 ∧ w.cell? ⟨src, 2, none⟩ = some c2 ∧ w.cell? ⟨src, 3, none⟩ = some c3 ∧
    w.frozen? ⟨src, 1, none⟩ = false ∧ w.frozen? ⟨src, 2, none⟩ = false ∧ w.frozen? ⟨src, 3, none⟩ = false := by
  simp [World.cell?, World.frozen?, h]
/-- The source in a later world: its block, and that no other one has turned. -/
def S4 (w wx : World) (src : Nat) (c0 : Value) (p : Nat) (mix size : Int) : Prop :=
  wx.heap[src]? = some (.cells #[c0, .int .i64 p, .int .u64 mix, .int .i64 size] 55 (0, 0)) ∧ w.grownBy wx (some src) ∧ (Lit.int .u64 mix).wf = true
theorem grown_refl (w : World) (r : Option Nat) : w.grownBy w r := ⟨rfl, rfl, rfl, Nat.le_refl _, fun _ _ _ => rfl⟩
theorem grown_trans {a b c : World} {r : Option Nat} (h : a.grownBy b r) (k : b.grownBy c r) : a.grownBy c r :=
  ⟨k.os.trans h.os, k.tape.trans h.tape, k.output.trans h.output, Nat.le_trans h.size k.size, fun i hi hr => (k.block i (Nat.lt_of_lt_of_le hi h.size) hr).trans (h.block i hi hr)⟩
theorem grown_drewN {a b : World} {r : Option Nat} (h : a.grownBy b r) (n : Nat) : a.grownBy (b.drewN n) r := ⟨h.os, h.tape, h.output, h.size, h.block⟩
theorem grown_drew {a b : World} {r : Option Nat} (h : a.grownBy b r) : a.grownBy b.drew r := ⟨h.os, h.tape, h.output, h.size, h.block⟩
theorem grown_set {w : World} {src j : Nat} {u : Value} : w.grownBy (w.setCell ⟨src, j, none⟩ u) (some src) :=
  ⟨rfl, rfl, rfl, by simp, fun k _ hk => heap_setCell_other w ⟨src, j, none⟩ k u (fun e => hk (by simp [e]))⟩
theorem S4.drewN {w wx : World} {src p : Nat} {c0 : Value} {mix size : Int} (h : S4 w wx src c0 p mix size) (n : Nat) : S4 w (wx.drewN n) src c0 p mix size := ⟨h.1, grown_drewN h.2.1 n, h.2.2⟩
theorem S4.drew {w wx : World} {src p : Nat} {c0 : Value} {mix size : Int} (h : S4 w wx src c0 p mix size) : S4 w wx.drew src c0 p mix size := ⟨h.1, grown_drew h.2.1, h.2.2⟩
theorem S4.set1 {w wx : World} {src p : Nat} {c0 : Value} {mix size : Int} (h : S4 w wx src c0 p mix size) (q : Nat) : S4 w (wx.setCell ⟨src, 1, none⟩ (.int .i64 q)) src c0 q mix size :=
  ⟨heap_setCell_same wx src 1 _ 55 _ h.1, grown_trans h.2.1 grown_set, h.2.2⟩
theorem S4.set2 {w wx : World} {src p : Nat} {c0 : Value} {mix size : Int} (h : S4 w wx src c0 p mix size) (m : Int) (hm : (Lit.int .u64 m).wf = true) : S4 w (wx.setCell ⟨src, 2, none⟩ (.int .u64 m)) src c0 p m size :=
  ⟨heap_setCell_same wx src 2 _ 55 _ h.1, grown_trans h.2.1 grown_set, hm⟩
theorem r_bd (x most : Int) (h1 : 1 < most) (h2 : most ≤ 1000000) : 0 ≤ wrap64 ((IntKind.u64.wrap x).tmod most) ∧ wrap64 ((IntKind.u64.wrap x).tmod most) < most := by
  have h0 : 0 ≤ IntKind.u64.wrap x := by
    have := bounds_u64 (wf_wrap .u64 x)
    omega
  rw [Int.tmod_eq_emod_of_nonneg h0]
  have a := Int.emod_nonneg (IntKind.u64.wrap x) (show most ≠ 0 by omega)
  have b := Int.emod_lt_of_pos (IntKind.u64.wrap x) (show 0 < most by omega)
  generalize IntKind.u64.wrap x % most = y at *
  unfold wrap64
  omega
set_option maxHeartbeats 2000000 in
set_option maxRecDepth 100000 in
theorem n_none (w : World) (src : Nat) (a : Option Addr) (cap len : Nat) (size most mix : Int) (p : Nat) (hm : 1 < most) (hm2 : most ≤ 1000000) (hp : ¬ p < len) (_hl : len ≤ 1048576) (_hp2 : p ≤ len)
    (h : S4 w w src (.slice a len cap) p mix size) :
    Calls Tryz.prog 13 #[.pointer (some ⟨src, 0, none⟩), .int .i64 most] w fun e w' => ∃ r m, e = .returned (.int .i64 r) ∧ 0 ≤ r ∧ r < most ∧ S4 w w' src (.slice a len cap) p m size := by
  obtain ⟨c0, c1, c2, c3, f1, f2, f3⟩ := src_cells h.1
  have H := hide h
  clear h
  go_enter Tryz.func13, Tryz.ntmps13
  go_wp2
  go_quiet (fail)
  go_upto_region 7 with fail
  go_cut [5] (fun v wx => v = .int .u64 0 ∧ ∃ m, Hid (S4 w wx src (.slice a len cap) p m size))
  case first =>
    go_region
    all_goals go_wp2_with fail
    all_goals go_meet
    all_goals exact ⟨rfl, _, hide (((unhide H).drewN _).set2 _ (wf_bits _ _ _ _))⟩
  case rest =>
    obtain ⟨rfl, m7, H7⟩ := hcut
    clear c0 c1 c2 c3 f1 f2 f3
    obtain ⟨c0, c1, c2, c3, f1, f2, f3⟩ := src_cells (unhide H7).1
    go_upto_region 8 with fail
    go_cut [5] (fun v wx => v = .int .u64 0 ∧ ∃ m, Hid (S4 w wx src (.slice a len cap) p m size))
    case first =>
      go_region
      all_goals go_wp2_with fail
      all_goals go_meet
      all_goals exact ⟨rfl, _, hide (((unhide H7).drewN 1).set2 _ (wf_bits _ _ _ _))⟩
    case rest =>
      obtain ⟨rfl, m8, H8⟩ := hcut
      clear c0 c1 c2 c3 f1 f2 f3
      obtain ⟨c0, c1, c2, c3, f1, f2, f3⟩ := src_cells (unhide H8).1
      go_upto_region 9 with fail
      go_cut [5] (fun v wx => v = .int .u64 0 ∧ ∃ m, Hid (S4 w wx src (.slice a len cap) p m size))
      case first =>
        go_region
        all_goals go_wp2_with fail
        all_goals go_meet
        all_goals exact ⟨rfl, _, hide (((unhide H8).drewN 1).set2 _ (wf_bits _ _ _ _))⟩
      case rest =>
        obtain ⟨rfl, m9, H9⟩ := hcut
        clear c0 c1 c2 c3 f1 f2 f3
        obtain ⟨c0, c1, c2, c3, f1, f2, f3⟩ := src_cells (unhide H9).1
        have hz : (most == 0) = false := by simp; omega
        go_wp2
        go_ret
        have hr := r_bd (m9 / 1048576) most hm hm2
        exact ⟨_, _, rfl, hr.1, hr.2, unhide H9⟩
set_option maxHeartbeats 2000000 in
set_option maxRecDepth 100000 in
theorem n_more (w : World) (src b off cap len : Nat) (size most mix z : Int) (p : Nat) (hm : 1 < most) (hm2 : most ≤ 1000000) (hp : p < len) (hl : len ≤ 1048576)
    (hz : w.cell? ⟨b, off + p, none⟩ = some (.int .u8 z)) (z0 : 0 ≤ z) (z1 : z < 256) (h : S4 w w src (.slice (some ⟨b, off, none⟩) len cap) p mix size) :
    Calls Tryz.prog 13 #[.pointer (some ⟨src, 0, none⟩), .int .i64 most] w fun e w' => ∃ r m, e = .returned (.int .i64 r) ∧ 0 ≤ r ∧ r < most ∧ S4 w w' src (.slice (some ⟨b, off, none⟩) len cap) (p + 1) m size := by
  obtain ⟨c0, c1, c2, c3, f1, f2, f3⟩ := src_cells h.1
  have H := hide h
  clear h
  go_enter Tryz.func13, Tryz.ntmps13
  go_wp2
  go_quiet (fail)
  go_wp2
  go_quiet (fail)
  go_upto_region 7 with fail
  go_cut [5] (fun v wx => v = .int .u64 z ∧ ∃ m, Hid (S4 w wx src (.slice (some ⟨b, off, none⟩) len cap) (p + 1) m size))
  case first =>
    go_region
    all_goals go_wp2_with fail
    all_goals go_meet
    all_goals exact ⟨rfl, _, hide ((((unhide H).drewN _).set1 (p + 1)).drew.set2 _ (wf_bits _ _ _ _))⟩
  case rest =>
    obtain ⟨rfl, m7, H7⟩ := hcut
    clear c0 c1 c2 c3 f1 f2 f3
    obtain ⟨c0, c1, c2, c3, f1, f2, f3⟩ := src_cells (unhide H7).1
    go_upto_region 8 with fail
    go_cut [5] (fun v wx => v = .int .u64 z ∧ ∃ m, Hid (S4 w wx src (.slice (some ⟨b, off, none⟩) len cap) (p + 1) m size))
    case first =>
      go_region
      all_goals go_wp2_with fail
      all_goals go_meet
      all_goals exact ⟨rfl, _, hide (((unhide H7).drewN 1).set2 _ (wf_bits _ _ _ _))⟩
    case rest =>
      obtain ⟨rfl, m8, H8⟩ := hcut
      clear c0 c1 c2 c3 f1 f2 f3
      obtain ⟨c0, c1, c2, c3, f1, f2, f3⟩ := src_cells (unhide H8).1
      go_upto_region 9 with fail
      go_cut [5] (fun v wx => v = .int .u64 z ∧ ∃ m, Hid (S4 w wx src (.slice (some ⟨b, off, none⟩) len cap) (p + 1) m size))
      case first =>
        go_region
        all_goals go_wp2_with fail
        all_goals go_meet
        all_goals exact ⟨rfl, _, hide (((unhide H8).drewN 1).set2 _ (wf_bits _ _ _ _))⟩
      case rest =>
        obtain ⟨rfl, m9, H9⟩ := hcut
        clear c0 c1 c2 c3 f1 f2 f3
        obtain ⟨c0, c1, c2, c3, f1, f2, f3⟩ := src_cells (unhide H9).1
        have hz : (most == 0) = false := by simp; omega
        go_wp2
        go_ret
        have hr := r_bd (z + m9 / 1048576) most hm hm2
        exact ⟨_, _, rfl, hr.1, hr.2, unhide H9⟩
theorem code_grown {w w' : World} {src len : Nat} {a : Option Addr} (h : CodeAt w src a len) (hg : w.grownBy w' (some src)) : CodeAt w' src a len := by
  rcases h with h | ⟨cb, off, ha, hlt, hne, hc⟩
  · exact .inl h
  · refine .inr ⟨cb, off, ha, Nat.lt_of_lt_of_le hlt hg.size, hne, fun i hi => ?_⟩
    obtain ⟨z, hz, hb⟩ := hc i hi
    exact ⟨z, (World.cell?_of_block (a := ⟨cb, off + i, none⟩) (hg.block cb hlt (by simpa using hne))).trans hz, hb⟩
theorem n_small (w : World) (src : Nat) (most : Int) (h : most ≤ 1) :
    Calls Tryz.prog 13 #[.pointer (some ⟨src, 0, none⟩), .int .i64 most] w fun e w' => e = .returned (.int .i64 0) ∧ w' = w := by
  go_enter Tryz.func13, Tryz.ntmps13
  go_wp2
  go_ret
  exact ⟨rfl, rfl⟩
/-- A number below 'most', and the source is one again; no other block has turned. -/
theorem n_any (w : World) (src : Nat) (a : Option Addr) (len cap : Nat) (size most : Int) (hm : 0 < most) (hm2 : most ≤ 1000000) (hl : len ≤ 1048576) (h : SrcAt w src a len cap size) :
    Calls Tryz.prog 13 #[.pointer (some ⟨src, 0, none⟩), .int .i64 most] w fun e w' => ∃ r, e = .returned (.int .i64 r) ∧ 0 ≤ r ∧ r < most ∧ SrcAt w' src a len cap size ∧ w.grownBy w' (some src) := by
  by_cases h1 : most ≤ 1
  · refine (n_small w src most h1).mono fun e w' ⟨he, hw⟩ => ?_
    subst hw
    exact ⟨0, he, by omega, by omega, h, grown_refl _ _⟩
  obtain ⟨hc, p, mix, hp, hwf, hh⟩ := h
  have h4 : S4 w w src (.slice a len cap) p mix size := ⟨hh, grown_refl _ _, hwf⟩
  by_cases hlt : p < len
  · rcases hc with h0 | ⟨cb, off, rfl, hcb, hne, hcc⟩
    · omega
    · obtain ⟨z, hz, z0, z1⟩ := hcc p hlt
      refine (n_more w src cb off cap len size most mix z p (by omega) hm2 hlt hl hz z0 z1 h4).mono fun e w' ⟨r, m, he, r0, r1, s4⟩ => ?_
      exact ⟨r, he, r0, r1, ⟨code_grown (.inr ⟨cb, off, rfl, hcb, hne, hcc⟩) s4.2.1, p + 1, m, hlt, s4.2.2, s4.1⟩, s4.2.1⟩
  · refine (n_none w src a cap len size most mix p (by omega) hm2 hlt hl hp h4).mono fun e w' ⟨r, m, he, r0, r1, s4⟩ => ?_
    exact ⟨r, he, r0, r1, ⟨code_grown hc s4.2.1, p, m, hp, s4.2.2, s4.1⟩, s4.2.1⟩
end Go.Proofs.YtbaedapnikhdgaaGreatDoor.Dr
/- The source that a code makes. -/
namespace Go.Proofs.YtbaedapnikhdgaaGreatDoor.Dr
open Go.RowKit
/-- The source's block in a world that has it new. -/
def S5 (w wx : World) (src : Nat) (c0 : Value) (mix size : Int) : Prop :=
  wx.heap[src]? = some (.cells #[c0, .int .i64 0, .int .u64 mix, .int .i64 size] 55 (0, 0)) ∧ Below w.heap.size w wx ∧ (Lit.int .u64 mix).wf = true
theorem S5.drew {w wx : World} {src : Nat} {c0 : Value} {mix size : Int} (h : S5 w wx src c0 mix size) : S5 w wx.drew src c0 mix size := ⟨h.1, h.2.1.drew, h.2.2⟩
theorem S5.drewN {w wx : World} {src : Nat} {c0 : Value} {mix size : Int} (h : S5 w wx src c0 mix size) (n : Nat) : S5 w (wx.drewN n) src c0 mix size := ⟨h.1, bdrew h.2.1 n, h.2.2⟩
theorem S5.set2 {w wx : World} {src : Nat} {c0 : Value} {mix size : Int} (h : S5 w wx src c0 mix size) (hs : w.heap.size ≤ src) (m : Int) (hm : (Lit.int .u64 m).wf = true) : S5 w (wx.setCell ⟨src, 2, none⟩ (.int .u64 m)) src c0 m size :=
  ⟨heap_setCell_same wx src 2 _ 55 _ h.1, h.2.1.setCell (p := ⟨src, 2, none⟩) hs _, hm⟩
theorem S5.set3 {w wx : World} {src : Nat} {c0 : Value} {mix size : Int} (h : S5 w wx src c0 mix size) (hs : w.heap.size ≤ src) (z : Int) : S5 w (wx.setCell ⟨src, 3, none⟩ (.int .i64 z)) src c0 mix z :=
  ⟨heap_setCell_same wx src 3 _ 55 _ h.1, h.2.1.setCell (p := ⟨src, 3, none⟩) hs _, h.2.2⟩
/-- What is told of the code: it can be read. -/
def CodeIn (w : World) (a : Option Addr) (len : Nat) : Prop :=
  len = 0 ∨ ∃ cb off, a = some ⟨cb, off, none⟩ ∧ cb < w.heap.size ∧ ∀ i, i < len → ∃ z : Int, w.cell? ⟨cb, off + i, none⟩ = some (.int .u8 z) ∧ 0 ≤ z ∧ z < 256
theorem src_of {w wx : World} {a : Option Addr} {len cap : Nat} {mix size : Int} (hc : CodeIn w a len) (h : S5 w wx w.heap.size (.slice a len cap) mix size) : SrcAt wx w.heap.size a len cap size := by
  refine ⟨?_, 0, mix, Nat.zero_le _, h.2.2, h.1⟩
  rcases hc with h0 | ⟨cb, off, ha, hlt, hcc⟩
  · exact .inl h0
  · refine .inr ⟨cb, off, ha, Nat.lt_of_lt_of_le hlt h.2.1.size, by omega, fun i hi => ?_⟩
    obtain ⟨z, hz, hb⟩ := hcc i hi
    exact ⟨z, (h.2.1.cell (p := ⟨cb, off + i, none⟩) hlt).trans hz, hb⟩
set_option maxHeartbeats 2000000 in
set_option maxRecDepth 100000 in
theorem source_at (w : World) (cb off cap len : Nat) (hl : len ≤ 1048576) (hcb : cb < w.heap.size) (hcc : ∀ i, i < len → ∃ z : Int, w.cell? ⟨cb, off + i, none⟩ = some (.int .u8 z) ∧ 0 ≤ z ∧ z < 256) :
    Calls Tryz.prog 10 #[.slice (some ⟨cb, off, none⟩) len cap] w fun e w' => e = .returned (.pointer (some ⟨w.heap.size, 0, none⟩)) ∧ ∃ mix size, 0 ≤ size ∧ size ≤ 12 ∧ S5 w w' w.heap.size (.slice (some ⟨cb, off, none⟩) len cap) mix size := by
  have HC := hide hcc
  clear hcc
  have H0 : Hid (S5 w (w.alloc (.cells #[.slice (some ⟨cb, off, none⟩) len cap, .int .i64 0, .int .u64 88172645463325252, .int .i64 0] 55)) w.heap.size (.slice (some ⟨cb, off, none⟩) len cap) 88172645463325252 0) :=
    hide ⟨heap_alloc_new _ _, (Below.refl _ _).alloc (Nat.le_refl _) _, by decide +kernel⟩
  go_enter Tryz.func10, Tryz.ntmps10
  go_wp2
  go_loopw [4] (fun i wr => ∃ (k : Nat) (mix : Int), k ≤ len ∧ i = .int .i64 k ∧ Hid (S5 w wr w.heap.size (.slice (some ⟨cb, off, none⟩) len cap) mix 0)) (fun i _ => len - (intOf i).toNat)
  case atStart => exact ⟨0, _, Nat.zero_le _, rfl, H0⟩
  case round =>
    obtain ⟨k, mix, hk, rfl, H⟩ := hrel
    clear H0
    obtain ⟨c0, c1, c2, c3, f1, f2, f3⟩ := src_cells (unhide H).1
    by_cases hlt : k < len
    · by_cases h64 : k < 64
      · obtain ⟨z, hz, z0, z1⟩ := (unhide HC) k hlt
        have hz' := ((unhide H).2.1.cell (p := ⟨cb, off + k, none⟩) hcb).trans hz
        clear hz
        go_wp2
        go_region
        all_goals go_wp2
        all_goals go_roundw
        case rel => exact ⟨k + 1, _, by omega, by go_num, hide (((unhide H).set2 (Nat.le_refl _) _ (wf_wrap _ _)).drew)⟩
        case measure => simp [intOf]; omega
      · by_cases h12 : 12 < len / 20
        · go_wp2
          go_ret
          exact ⟨rfl, mix, 12, by omega, by omega, ((unhide H).set3 (Nat.le_refl _) _).set3 (Nat.le_refl _) _⟩
        · go_wp2
          go_ret
          exact ⟨rfl, mix, (len / 20 : Nat), by omega, by omega, (unhide H).set3 (Nat.le_refl _) _⟩
    · by_cases h12 : 12 < len / 20
      · go_wp2
        go_ret
        exact ⟨rfl, mix, 12, by omega, by omega, ((unhide H).set3 (Nat.le_refl _) _).set3 (Nat.le_refl _) _⟩
      · go_wp2
        go_ret
        exact ⟨rfl, mix, (len / 20 : Nat), by omega, by omega, (unhide H).set3 (Nat.le_refl _) _⟩
set_option maxHeartbeats 2000000 in
set_option maxRecDepth 100000 in
theorem source_nil (w : World) (a : Option Addr) (cap : Nat) :
    Calls Tryz.prog 10 #[.slice a 0 cap] w fun e w' => e = .returned (.pointer (some ⟨w.heap.size, 0, none⟩)) ∧ ∃ mix size, 0 ≤ size ∧ size ≤ 12 ∧ S5 w w' w.heap.size (.slice a 0 cap) mix size := by
  have H0 : Hid (S5 w (w.alloc (.cells #[.slice a 0 cap, .int .i64 0, .int .u64 88172645463325252, .int .i64 0] 55)) w.heap.size (.slice a 0 cap) 88172645463325252 0) :=
    hide ⟨heap_alloc_new _ _, (Below.refl _ _).alloc (Nat.le_refl _) _, by decide +kernel⟩
  go_enter Tryz.func10, Tryz.ntmps10
  go_wp2
  refine wp_loop_rounds 1 ?_
  rw [rounds_succ]
  go_wp2
  go_ret
  exact ⟨rfl, _, 0, by omega, by omega, unhide H0⟩
/-- The source of a code: a new block; nothing else has turned. -/
theorem source_any (w : World) (a : Option Addr) (len cap : Nat) (hl : len ≤ 1048576) (hc : CodeIn w a len) :
    Calls Tryz.prog 10 #[.slice a len cap] w fun e w' => e = .returned (.pointer (some ⟨w.heap.size, 0, none⟩)) ∧ ∃ size, 0 ≤ size ∧ size ≤ 12 ∧ SrcAt w' w.heap.size a len cap size ∧ Below w.heap.size w w' ∧ w.heap.size < w'.heap.size := by
  have fin : ∀ {w' : World} {mix size : Int}, S5 w w' w.heap.size (.slice a len cap) mix size → SrcAt w' w.heap.size a len cap size ∧ Below w.heap.size w w' ∧ w.heap.size < w'.heap.size :=
    fun h => ⟨src_of hc h, h.2.1, (Array.getElem?_eq_some_iff.1 h.1).1⟩
  rcases id hc with h0 | ⟨cb, off, rfl, hlt, hcc⟩
  · subst h0
    exact (source_nil w a cap).mono fun e w' ⟨he, mix, size, h1, h2, h5⟩ => ⟨he, size, h1, h2, fin h5⟩
  · exact (source_at w cb off cap len hl hlt hcc).mono fun e w' ⟨he, mix, size, h1, h2, h5⟩ => ⟨he, size, h1, h2, fin h5⟩
end Go.Proofs.YtbaedapnikhdgaaGreatDoor.Dr
/- A drawn point: some number; the source is one again. -/
namespace Go.Proofs.YtbaedapnikhdgaaGreatDoor.Dr
open Go.RowKit
theorem grown_alloc (w : World) (o : Obj) (r : Option Nat) : w.grownBy (w.alloc o) r :=
  ⟨rfl, rfl, rfl, by simp, fun k hk _ => Below.heap_alloc w o k hk⟩
theorem src_lt {w : World} {src len cap : Nat} {a : Option Addr} {size : Int} (h : SrcAt w src a len cap size) : src < w.heap.size := by
  obtain ⟨_, p, mix, _, _, hh⟩ := h
  exact (Array.getElem?_eq_some_iff.1 hh).1
/-- The source stays one where its own block and the code's have not turned. -/
theorem src_keep {w w' : World} {src len cap : Nat} {a : Option Addr} {size : Int} (h : SrcAt w src a len cap size) (hs : w.heap.size ≤ w'.heap.size) (hb : ∀ k, k < w.heap.size → w'.heap[k]? = w.heap[k]?) : SrcAt w' src a len cap size := by
  have hlt := src_lt h
  obtain ⟨hc, p, mix, hp, hwf, hh⟩ := h
  refine ⟨?_, p, mix, hp, hwf, (hb src hlt).trans hh⟩
  rcases hc with h0 | ⟨cb, off, ha, hcb, hne, hcc⟩
  · exact .inl h0
  · refine .inr ⟨cb, off, ha, by omega, hne, fun i hi => ?_⟩
    obtain ⟨z, hz, hzb⟩ := hcc i hi
    exact ⟨z, (World.cell?_of_block (a := ⟨cb, off + i, none⟩) (hb cb hcb)).trans hz, hzb⟩
theorem src_alloc {w : World} {src len cap : Nat} {a : Option Addr} {size : Int} (h : SrcAt w src a len cap size) (o : Obj) : SrcAt (w.alloc o) src a len cap size :=
  src_keep h (by simp) (fun k hk => Below.heap_alloc w o k hk)
theorem n_nat (w : World) (src : Nat) (a : Option Addr) (len cap : Nat) (size most : Int) (hm : 0 < most) (hm2 : most ≤ 1000000) (hl : len ≤ 1048576) (h : SrcAt w src a len cap size) :
    Calls Tryz.prog 13 #[.pointer (some ⟨src, 0, none⟩), .int .i64 most] w fun e w' => ∃ r : Nat, e = .returned (.int .i64 r) ∧ (r : Int) < most ∧ SrcAt w' src a len cap size ∧ w.grownBy w' (some src) := by
  refine (n_any w src a len cap size most hm hm2 hl h).mono fun e w' ⟨r, he, r0, r1, hs, hg⟩ => ?_
  obtain ⟨n, rfl⟩ := Int.eq_ofNat_of_zero_le r0
  exact ⟨n, he, r1, hs, hg⟩
theorem n_idx (w : World) (O : Array Value) (src : Nat) (a : Option Addr) (len cap : Nat) (size : Int) (m : Nat) (hm : 0 < m) (hm2 : m ≤ 1000) (hl : len ≤ 1048576) (h : SrcAt w src a len cap size) (hO : ∀ i, i < m → ∃ x : Int, O[i]? = some (.int .i64 x)) :
    Calls Tryz.prog 13 #[.pointer (some ⟨src, 0, none⟩), .int .i64 (m : Int)] (w.alloc (.cells O 2)) fun e w' => ∃ (r : Nat) (x : Int), e = .returned (.int .i64 r) ∧ r < m ∧ w'.cell? ⟨w.heap.size, r, none⟩ = some (.int .i64 x) ∧ SrcAt w' src a len cap size ∧ w.grownBy w' (some src) := by
  refine (n_nat (w.alloc (.cells O 2)) src a len cap size m (by omega) (by omega) hl (src_alloc h _)).mono fun e w' ⟨r, he, r1, hs, hg⟩ => ?_
  obtain ⟨x, hx⟩ := hO r (by omega)
  have hlt := src_lt h
  refine ⟨r, x, he, by omega, ?_, hs, grown_trans (grown_alloc _ _ _) hg⟩
  rw [World.cell?_of_block (a := ⟨w.heap.size, r, none⟩) (hg.block w.heap.size (by simp) (by simp; omega))]
  simpa using hx
end Go.Proofs.YtbaedapnikhdgaaGreatDoor.Dr
/- utf8.AppendRune onto a row of bytes that the call owns. -/
namespace Go.Proofs.YtbaedapnikhdgaaGreatDoor
open Go.RowKit
theorem info5 : (Tryz.prog.info? 5).map (fun i => (i.zero, i.size, i.bytes)) = some (some (.int .u8 0), 1, 1) := by kernel_rfl
def runeCells (r : Int) : List Value := (Lib.encodeRuneZ r).map (Value.int .u8)
theorem grown_belowA {B : Nat} {w w' : World} {v : Value} {o : Obj} {n : Nat} {xs : List Value} (hown : w.ownsRow B 5 1 v n xs) (hB : B ≤ w.heap.size) (h : (w.alloc o).grownBy w' v.ownBlock) : Below B w w' :=
  ((Below.refl B w).alloc hB o).grown h (by simp; omega) (fun k hk => (hown.lt k hk).1)
end Go.Proofs.YtbaedapnikhdgaaGreatDoor
/- TextOf of the program and of the specification answer with the bytes of the points. -/
namespace Go.Proofs.YtbaedapnikhdgaaGreatDoor
open Go.RowKit
def textL (l : List Int) : List Int := l.flatMap Lib.encodeRuneZ
theorem textL_snoc (l : List Int) (k : Nat) (h : k < l.length) : textL (l.take (k + 1)) = textL (l.take k) ++ Lib.encodeRuneZ (nth l k) := by
  have e : nth l k = l[k] := by simp [nth, List.getD, h]
  rw [List.take_succ_eq_append_getElem h, e]
  unfold textL
  rw [List.flatMap_append, List.flatMap_singleton]
theorem textL_le (l : List Int) : (textL l).length ≤ 4 * l.length := by
  induction l with
  | nil => simp [textL]
  | cons a t ih =>
    have h1 := (Lib.encodeRuneZ_length a).2
    have h2 : textL (a :: t) = Lib.encodeRuneZ a ++ textL t := by simp [textL]
    rw [h2, List.length_append, List.length_cons]
    omega
theorem textL_take (l : List Int) (k : Nat) : (textL (l.take k)).length ≤ 4 * k := by
  have h1 := textL_le (l.take k)
  have h2 : (l.take k).length ≤ k := List.length_take_le _ _
  omega
theorem conv_owned (w : World) (B : Nat) (v : Value) (n : Nat) (zs : List Int) (h : w.ownsRow B 5 1 v n (zs.map (Value.int .u8))) :
    (convert 22 9 v).run Tryz.prog w = .ok (.string (strOfNums zs)) w := by
  have hl : zs.length = n := by simpa using h.1
  rcases h.2 with ⟨rfl, hn⟩ | ⟨g, cap, cur, hv, hg, hh, hn, hm, hs, ht⟩
  · obtain rfl : zs = [] := List.length_eq_zero_iff.1 (by omega)
    exact Lib.run_convert_nil_bytes w 22 9 5 0 Tryz.underlying22 Tryz.underlying5 Tryz.underlying9
  · subst hv
    refine conv_of w g cap zs n hl fun i hi => ?_
    rw [h.cellAt i (by omega), List.getElem?_map]
    simp [List.getD, show i < zs.length by omega]
theorem strCells_nums (zs : List Int) (h : ∀ x ∈ zs, 0 ≤ x ∧ x < 256) : Lib.strCells (strOfNums zs) = zs.map (Value.int .u8) := by
  unfold Lib.strCells
  rw [strOfNums_data, List.map_map]
  apply List.map_congr_left
  intro x hx
  have := h x hx
  simp only [Function.comp]
  congr 1
  rw [UInt8.toNat_ofNat_of_lt' (by show x.toNat < 256; omega)]
  omega
theorem text_step {w wr w2 w3 : World} {s v' : Value} {l : List Int} {k : Nat} (hk : k < l.length) (hb : Below w.heap.size w wr) (hb2 : Below wr.heap.size wr w2)
    (ho2 : w2.ownsRow w.heap.size 5 1 s (textL (l.take k)).length ((textL (l.take k)).map (Value.int .u8)))
    (ho3 : w3.ownsRow w.heap.size 5 1 v' ((textL (l.take k)).length + (strOfNums (Lib.encodeRuneZ (nth l k))).size) ((textL (l.take k)).map (Value.int .u8) ++ Lib.strCells (strOfNums (Lib.encodeRuneZ (nth l k)))))
    (hg : w2.grownBy w3 s.ownBlock) : w3.ownsRow w.heap.size 5 1 v' (textL (l.take (k + 1))).length ((textL (l.take (k + 1))).map (Value.int .u8)) ∧ Below w.heap.size w w3 := by
  constructor
  · rw [textL_snoc l k hk, List.length_append, List.map_append]
    rw [strCells_nums _ (Lib.encodeRuneZ_byte _), strOfNums_size] at ho3
    exact ho3
  · exact (hb.trans (hb2.mono hb.size)).grown hg (Nat.le_trans hb.size hb2.size) (fun j hj => (ho2.lt j hj).1)
end Go.Proofs.YtbaedapnikhdgaaGreatDoor
/- Drawn texts: some text, not too long; the source is one again. -/
namespace Go.Proofs.YtbaedapnikhdgaaGreatDoor.Dr
open Go.RowKit
def AIn (B : Nat) (a : Option Addr) (len : Nat) : Prop := len = 0 ∨ ∃ cb off, a = some ⟨cb, off, none⟩ ∧ cb < B
theorem aIn_of {w : World} {src len cap : Nat} {a : Option Addr} {size : Int} (h : SrcAt w src a len cap size) : AIn w.heap.size a len := by
  rcases h.1 with h0 | ⟨cb, off, ha, hcb, _⟩
  · exact .inl h0
  · exact .inr ⟨cb, off, ha, hcb⟩
theorem src_move {w w' : World} {src len cap B : Nat} {a : Option Addr} {size : Int} (h : SrcAt w src a len cap size) (ha : AIn B a len) (hsrc : src < B) (hs : w.heap.size ≤ w'.heap.size) (hb : ∀ k, k < B → w'.heap[k]? = w.heap[k]?) : SrcAt w' src a len cap size := by
  obtain ⟨hc, p, mix, hp, hwf, hh⟩ := h
  refine ⟨?_, p, mix, hp, hwf, (hb src hsrc).trans hh⟩
  rcases hc with h0 | ⟨cb, off, e, hcb, hne, hcc⟩
  · exact .inl h0
  · refine .inr ⟨cb, off, e, by omega, hne, fun i hi => ?_⟩
    obtain ⟨z, hz, hzb⟩ := hcc i hi
    have hB : cb < B := by
      rcases ha with h0 | ⟨cb', off', e', hB⟩
      · omega
      · rw [e] at e'
        simp only [Option.some.injEq, Addr.mk.injEq, and_true] at e'
        omega
    exact ⟨z, (World.cell?_of_block (a := ⟨cb, off + i, none⟩) (hb cb hB)).trans hz, hzb⟩
theorem grown_bel {w w1 w2 : World} {src : Nat} (h : w.grownBy w1 (some src)) (hb : Below w1.heap.size w1 w2) : w.grownBy w2 (some src) :=
  grown_trans h ⟨hb.os, hb.tape, hb.output, hb.size, fun k hk _ => hb.block k hk⟩
theorem src_below {w w' : World} {src len cap : Nat} {a : Option Addr} {size : Int} (h : SrcAt w src a len cap size) (hb : Below w.heap.size w w') : SrcAt w' src a len cap size := src_keep h hb.size hb.block
/-- An append to a row that lies above the world at the beginning. -/
theorem grown_row {w wr w3 : World} {src : Nat} {v : Value} {o : Obj} {e : TypeId} {n : Nat} {xs : List Value} (h : w.grownBy wr (some src)) (ho : wr.ownsRow w.heap.size e 1 v n xs) (hg : (wr.alloc o).grownBy w3 v.ownBlock) :
    w.grownBy w3 (some src) ∧ (∀ k, k < w.heap.size → w3.heap[k]? = wr.heap[k]?) ∧ wr.heap.size ≤ w3.heap.size := by
  have hk : ∀ k, k < w.heap.size → w3.heap[k]? = wr.heap[k]? := by
    intro k hk
    have h1 : k < wr.heap.size := Nat.lt_of_lt_of_le hk h.size
    have hne : some k ≠ v.ownBlock := fun e => by have := (ho.lt k e.symm).1; omega
    rw [hg.block k (by simp; omega) hne, Below.heap_alloc wr o k h1]
  have hs : wr.heap.size ≤ w3.heap.size := by have := hg.size; simp at this; omega
  exact ⟨⟨hg.os.trans h.os, hg.tape.trans h.tape, hg.output.trans h.output, Nat.le_trans h.size hs, fun k hkw hr => (hk k hkw).trans (h.block k hkw hr)⟩, hk, hs⟩
theorem row_snoc {w3 : World} {B : Nat} {v' : Value} {L : List Int} {p : Int} (ho2 : w3.ownsRow B 2 1 v' (L.length + 1) (L.map (Value.int .i64) ++ [.int .i64 p])) : w3.ownsRow B 2 1 v' (L ++ [p]).length ((L ++ [p]).map (Value.int .i64)) := by
  rw [List.length_append, List.map_append]; exact ho2
theorem owned_kept {w wr w1 : World} {src : Nat} {e : TypeId} {v : Value} {n : Nat} {xs : List Value} (hsrc : src < w.heap.size) (ho : wr.ownsRow w.heap.size e 1 v n xs) (hg : wr.grownBy w1 (some src)) : w1.ownsRow w.heap.size e 1 v n xs := by
  refine ho.kept hg ?_
  cases hv : v.ownBlock with
  | none => exact .inl rfl
  | some k => exact .inr (fun e => by have := (ho.lt k hv).1; simp at e; omega)
def lenOf : Value → Nat
  | .slice _ n _ => n
  | _ => 0
theorem long_step {w wr w3 : World} {g cap : Nat} {v' : Value} {L : List Int} (hb : Below w.heap.size w wr) (ho : wr.ownsRow w.heap.size 5 1 (.slice (some ⟨g, 0, none⟩) L.length cap) L.length (L.map (Value.int .u8)))
    (ho3 : w3.ownsRow w.heap.size 5 1 v' (L.length + 2) (L.map (Value.int .u8) ++ Lib.strCells { data := #[97, 98] })) (hg : wr.grownBy w3 (some g)) :
    ∃ g' cap', v' = .slice (some ⟨g', 0, none⟩) (L ++ [97, 98]).length cap' ∧ (L ++ [97, 98] : List Int).length ≤ cap' ∧ cap' ≤ maxLen ∧
      w3.ownsRow w.heap.size 5 1 (.slice (some ⟨g', 0, none⟩) (L ++ [97, 98]).length cap') (L ++ [97, 98]).length ((L ++ [97, 98]).map (Value.int .u8)) ∧ Below w.heap.size w w3 := by
  have hb3 : Below w.heap.size w w3 := hb.grown hg hb.size (fun k hk => by simp at hk; subst hk; exact (ho.lt g rfl).1)
  have e1 : (L ++ [97, 98] : List Int).length = L.length + 2 := by simp
  have e2 : (L ++ [97, 98]).map (Value.int .u8) = L.map (Value.int .u8) ++ Lib.strCells { data := #[97, 98] } := by rw [List.map_append]; rfl
  rcases ho3.2 with ⟨hv, h0⟩ | ⟨g', cap', cur, hv, hg', hh, hn', hm, hs, ht⟩
  · omega
  · refine ⟨g', cap', by rw [hv, e1], by omega, hm, ?_, hb3⟩
    rw [e1, e2, ← hv]; exact ho3
theorem conv_pre (w : World) {B : Nat} (g cap : Nat) (L : List Int) (n : Nat) (hn : n ≤ L.length) (h : w.ownsRow B 5 1 (.slice (some ⟨g, 0, none⟩) L.length cap) L.length (L.map (Value.int .u8))) (c : Nat) :
    (convert 22 9 (.slice (some ⟨g, 0, none⟩) n c)).run Tryz.prog w = .ok (.string (strOfNums (L.take n))) w := by
  refine conv_of w g c (L.take n) n (by simp; omega) fun i hi => ?_
  rw [h.cellAt i (by omega), List.getElem?_map]
  simp [List.getD, hi, show i < L.length by omega]
theorem add1 (t : ByteArray) (k : Nat) (ht : t.size ≤ 100000) (W : World) (x : Int) : (Op.stringOp .add (t.extract 0 k) (strOfNums [x])).run Tryz.prog W = .ok (.string (t.extract 0 k ++ strOfNums [x])) W :=
  run_string_add_sum W _ _ (by rw [strOfNums_size, ByteArray.size_extract]; simp; omega)
theorem add2 (t : ByteArray) (k : Nat) (ht : t.size ≤ 100000) (W : World) (x : Int) : (Op.stringOp .add (t.extract 0 k ++ strOfNums [x]) (t.extract k t.size)).run Tryz.prog W = .ok (.string (t.extract 0 k ++ strOfNums [x] ++ t.extract k t.size)) W :=
  run_string_add_sum W _ _ (by rw [ByteArray.size_append, strOfNums_size, ByteArray.size_extract, ByteArray.size_extract]; simp; omega)
theorem add3 (t : ByteArray) (k : Nat) (ht : t.size ≤ 100000) (W : World) : (Op.stringOp .add (t.extract 0 k) (t.extract (k + 1) t.size)).run Tryz.prog W = .ok (.string (t.extract 0 k ++ t.extract (k + 1) t.size)) W :=
  run_string_add_sum W _ _ (by rw [ByteArray.size_extract, ByteArray.size_extract]; omega)
theorem add4 (t : ByteArray) (k : Nat) (ht : t.size ≤ 100000) (W : World) (x : Int) : (Op.stringOp .add (t.extract 0 k ++ strOfNums [x]) (t.extract (k + 1) t.size)).run Tryz.prog W = .ok (.string (t.extract 0 k ++ strOfNums [x] ++ t.extract (k + 1) t.size)) W :=
  run_string_add_sum W _ _ (by rw [ByteArray.size_append, strOfNums_size, ByteArray.size_extract, ByteArray.size_extract]; simp; omega)
theorem size2 (t : ByteArray) (k : Nat) (x : Int) (ht : t.size ≤ 100000) : (t.extract 0 k ++ strOfNums [x] ++ t.extract k t.size).size ≤ 100001 := by
  rw [ByteArray.size_append, ByteArray.size_append, strOfNums_size, ByteArray.size_extract, ByteArray.size_extract]; simp; omega
theorem size3 (t : ByteArray) (k : Nat) (ht : t.size ≤ 100000) : (t.extract 0 k ++ t.extract (k + 1) t.size).size ≤ 100001 := by
  rw [ByteArray.size_append, ByteArray.size_extract, ByteArray.size_extract]; omega
theorem size4 (t : ByteArray) (k : Nat) (x : Int) (ht : t.size ≤ 100000) : (t.extract 0 k ++ strOfNums [x] ++ t.extract (k + 1) t.size).size ≤ 100001 := by
  rw [ByteArray.size_append, ByteArray.size_append, strOfNums_size, ByteArray.size_extract, ByteArray.size_extract]; simp; omega
end Go.Proofs.YtbaedapnikhdgaaGreatDoor.Dr
/- The draw of names. -/
namespace Go.Proofs.YtbaedapnikhdgaaGreatDoor.Dr
open Go.RowKit
set_option linter.unusedVariables false
set_option maxRecDepth 100000 in
set_option maxHeartbeats 2000000 in
set_option maxRecDepth 100000 in
theorem pickN_any (w : World) (src : Nat) (a : Option Addr) (len cap : Nat) (size : Int) (b n c m : Nat) (hn : 0 < n) (hn2 : n ≤ 1000) (hl : len ≤ 1048576) (h : SrcAt w src a len cap size) (hb : b < w.heap.size) (hne : b ≠ src)
    (hc : ∀ i, i < n → ∃ t : ByteArray, w.cell? ⟨b, i, none⟩ = some (.string t) ∧ t.size ≤ m) :
    Calls Tryz.prog 29 #[.pointer (some ⟨src, 0, none⟩), .slice (some ⟨b, 0, none⟩) n c] w fun e w' => ∃ t : ByteArray, e = .returned (.string t) ∧ t.size ≤ m ∧ SrcAt w' src a len cap size ∧ w.grownBy w' (some src) := by
  have CN := hide (n_nat w src a len cap size (n : Int) (by omega) (by omega) hl h)
  have HC := hide hc
  clear h hc
  go_enter Tryz.func29, Tryz.ntmps29
  go_wp2_with fail
  refine (unhide CN).mono ?_
  rintro e w1 ⟨r, rfl, hr, hs, hg⟩
  have hr' : r < n := by omega
  have hr2 : (r : Int) < (n : Int) := by omega
  have hr0 : (0 : Int) ≤ (r : Int) := by omega
  obtain ⟨t, ht, hts⟩ := (unhide HC) r hr'
  have c1 : w1.cell? ⟨b, r, none⟩ = some (.string t) := (World.cell?_of_block (a := ⟨b, r, none⟩) (hg.block b hb (fun e => hne (by injection e)))).trans ht
  have S1 := hide hs
  have G1 := hide hg
  clear hs hg CN HC ht
  go_wp2
  go_ret
  exact ⟨t, rfl, hts, unhide S1, unhide G1⟩
def lits : Array Value := #[.string ⟨#[97]⟩, .string ⟨#[98]⟩, .string ⟨#[99]⟩, .string ⟨#[108]⟩, .string ⟨#[49]⟩, .string ⟨#[48]⟩, .string ⟨#[73]⟩, .string ⟨#[111]⟩, .string ⟨#[79]⟩, .string ⟨#[95]⟩, .string ⟨#[102]⟩]
theorem lit11 (w : World) : ∀ i, i < 11 → ∃ t : ByteArray, (w.alloc (.cells #[.string ⟨#[97]⟩, .string ⟨#[98]⟩, .string ⟨#[99]⟩, .string ⟨#[108]⟩, .string ⟨#[49]⟩, .string ⟨#[48]⟩, .string ⟨#[73]⟩, .string ⟨#[111]⟩, .string ⟨#[79]⟩, .string ⟨#[95]⟩, .string ⟨#[102]⟩] 9)).cell? ⟨w.heap.size, i, none⟩ = some (.string t) ∧ t.size ≤ 4 := by
  intro i hi
  have hn : (w.alloc (.cells #[.string ⟨#[97]⟩, .string ⟨#[98]⟩, .string ⟨#[99]⟩, .string ⟨#[108]⟩, .string ⟨#[49]⟩, .string ⟨#[48]⟩, .string ⟨#[73]⟩, .string ⟨#[111]⟩, .string ⟨#[79]⟩, .string ⟨#[95]⟩, .string ⟨#[102]⟩] 9)).heap[w.heap.size]? = some (.cells #[.string ⟨#[97]⟩, .string ⟨#[98]⟩, .string ⟨#[99]⟩, .string ⟨#[108]⟩, .string ⟨#[49]⟩, .string ⟨#[48]⟩, .string ⟨#[73]⟩, .string ⟨#[111]⟩, .string ⟨#[79]⟩, .string ⟨#[95]⟩, .string ⟨#[102]⟩] 9 (0, 0)) := by unfold World.alloc; exact Array.getElem?_push_size
  simp only [World.cell?, hn]
  have hi' : i = 0 ∨ i = 1 ∨ i = 2 ∨ i = 3 ∨ i = 4 ∨ i = 5 ∨ i = 6 ∨ i = 7 ∨ i = 8 ∨ i = 9 ∨ i = 10 := by omega
  rcases hi' with rfl | rfl | rfl | rfl | rfl | rfl | rfl | rfl | rfl | rfl | rfl <;> exact ⟨_, rfl, by decide⟩
theorem enc_sz (p : Int) : (strOfNums (Lib.encodeRuneZ p)).size ≤ 4 := by
  rw [strOfNums_size]
  have := textL_le [p]
  simpa [textL] using this
theorem writeN (p : Int) (w : World) : Calls Tryz.prog 30 #[.int .i64 p] w fun e w' => ∃ u : ByteArray, e = .returned (.string u) ∧ u.size ≤ 4 ∧ Below w.heap.size w w' := by
  refine (write_any p w).mono ?_
  rintro e w' ⟨rfl, hb⟩
  exact ⟨_, rfl, enc_sz p, hb⟩
end Go.Proofs.YtbaedapnikhdgaaGreatDoor.Dr
