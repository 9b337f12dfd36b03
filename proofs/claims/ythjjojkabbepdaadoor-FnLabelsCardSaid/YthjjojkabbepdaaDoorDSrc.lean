/- The source of draws: a number below a bound, and the source is one again. -/
import Derived.Test.YthjjojkabbepdaaDoorBase
import Derived.Test.YthjjojkabbepdaaDoorRows
import Derived.BigRegion
import Derived.BigQuiet
import Derived.Deep.QuietTactic
import Derived.RegionTactic
import Derived.Deep.DeepCutAuto
import Derived.OpenShut
namespace Go.Proofs.YthjjojkabbepdaaDoor.Dr
open Go.RowKit
/-- The bytes that the source draws from can be read. -/
def CodeAt (w : World) (src : Nat) (a : Option Addr) (len : Nat) : Prop :=
  len = 0 ∨ ∃ cb off, a = some ⟨cb, off, none⟩ ∧ cb < w.heap.size ∧ cb ≠ src ∧ ∀ i, i < len → ∃ z : Int, w.cell? ⟨cb, off + i, none⟩ = some (.int .u8 z) ∧ 0 ≤ z ∧ z < 256
/-- The source: its four fields in a block of its own. -/
def SrcAt (w : World) (src : Nat) (a : Option Addr) (len cap : Nat) (size : Int) : Prop :=
  CodeAt w src a len ∧ ∃ (p : Nat) (mix : Int), p ≤ len ∧ (Lit.int .u64 mix).wf = true ∧ w.heap[src]? = some (.cells #[.slice a len cap, .int .i64 p, .int .u64 mix, .int .i64 size] 47 (0, 0))
theorem src_cells {w : World} {src : Nat} {c0 c1 c2 c3 : Value} {T : TypeId} (h : w.heap[src]? = some (.cells #[c0, c1, c2, c3] T (0, 0))) :
    w.cell? ⟨src, 0, none⟩ = some c0 ∧ w.cell? ⟨src, 1, none⟩ = some c1 ∧ w.cell? ⟨src, 2, none⟩ = some c2 ∧ w.cell? ⟨src, 3, none⟩ = some c3 ∧
    w.frozen? ⟨src, 1, none⟩ = false ∧ w.frozen? ⟨src, 2, none⟩ = false ∧ w.frozen? ⟨src, 3, none⟩ = false := by
  simp [World.cell?, World.frozen?, h]
/-- The source in a later world: its block, and that no other one has turned. -/
def S4 (w wx : World) (src : Nat) (c0 : Value) (p : Nat) (mix size : Int) : Prop :=
  wx.heap[src]? = some (.cells #[c0, .int .i64 p, .int .u64 mix, .int .i64 size] 47 (0, 0)) ∧ w.grownBy wx (some src) ∧ (Lit.int .u64 mix).wf = true
theorem grown_refl (w : World) (r : Option Nat) : w.grownBy w r := ⟨rfl, rfl, rfl, Nat.le_refl _, fun _ _ _ => rfl⟩
theorem grown_trans {a b c : World} {r : Option Nat} (h : a.grownBy b r) (k : b.grownBy c r) : a.grownBy c r :=
  ⟨k.os.trans h.os, k.tape.trans h.tape, k.output.trans h.output, Nat.le_trans h.size k.size, fun i hi hr => (k.block i (Nat.lt_of_lt_of_le hi h.size) hr).trans (h.block i hi hr)⟩
theorem grown_drewN {a b : World} {r : Option Nat} (h : a.grownBy b r) (n : Nat) : a.grownBy (b.drewN n) r := ⟨h.os, h.tape, h.output, h.size, h.block⟩
theorem grown_drew {a b : World} {r : Option Nat} (h : a.grownBy b r) : a.grownBy b.drew r := ⟨h.os, h.tape, h.output, h.size, h.block⟩
theorem grown_set {w : World} {src j : Nat} {u : Value} : w.grownBy (w.setCell ⟨src, j, none⟩ u) (some src) :=
  ⟨rfl, rfl, rfl, by simp, fun k _ hk => heap_setCell_other w ⟨src, j, none⟩ k u (fun e => hk (by simp [e]))⟩
theorem S4.drewN {w wx : World} {src p : Nat} {c0 : Value} {mix size : Int} (h : S4 w wx src c0 p mix size) (n : Nat) : S4 w (wx.drewN n) src c0 p mix size := ⟨h.1, grown_drewN h.2.1 n, h.2.2⟩
theorem S4.drew {w wx : World} {src p : Nat} {c0 : Value} {mix size : Int} (h : S4 w wx src c0 p mix size) : S4 w wx.drew src c0 p mix size := ⟨h.1, grown_drew h.2.1, h.2.2⟩
theorem S4.set1 {w wx : World} {src p : Nat} {c0 : Value} {mix size : Int} (h : S4 w wx src c0 p mix size) (q : Nat) : S4 w (wx.setCell ⟨src, 1, none⟩ (.int .i64 q)) src c0 q mix size :=
  ⟨heap_setCell_same wx src 1 _ 47 _ h.1, grown_trans h.2.1 grown_set, h.2.2⟩
theorem S4.set2 {w wx : World} {src p : Nat} {c0 : Value} {mix size : Int} (h : S4 w wx src c0 p mix size) (m : Int) (hm : (Lit.int .u64 m).wf = true) : S4 w (wx.setCell ⟨src, 2, none⟩ (.int .u64 m)) src c0 p m size :=
  ⟨heap_setCell_same wx src 2 _ 47 _ h.1, grown_trans h.2.1 grown_set, hm⟩
theorem r_bd (x most : Int) (h1 : 1 < most) (h2 : most ≤ 1000000) : 0 ≤ wrap64 ((IntKind.u64.wrap x).tmod most) ∧ wrap64 ((IntKind.u64.wrap x).tmod most) < most := by
  have h0 : 0 ≤ IntKind.u64.wrap x := by
    have := bounds_u64 (wf_wrap .u64 x)
    omega
  rw [Int.tmod_eq_emod_of_nonneg h0]
  have a := Int.emod_nonneg (IntKind.u64.wrap x) (show most ≠ 0 by omega)
  have b := Int.emod_lt_of_pos (IntKind.u64.wrap x) (show 0 < most by omega)
  generalize IntKind.u64.wrap x % most = y at *
  unfold wrap64
  omega
set_option maxHeartbeats 2000000 in
set_option maxRecDepth 100000 in
theorem n_none (w : World) (src : Nat) (a : Option Addr) (cap len : Nat) (size most mix : Int) (p : Nat) (hm : 1 < most) (hm2 : most ≤ 1000000) (hp : ¬ p < len) (_hl : len ≤ 1048576) (_hp2 : p ≤ len)
    (h : S4 w w src (.slice a len cap) p mix size) :
    Calls Tryd.prog 26 #[.pointer (some ⟨src, 0, none⟩), .int .i64 most] w fun e w' => ∃ r m, e = .returned (.int .i64 r) ∧ 0 ≤ r ∧ r < most ∧ S4 w w' src (.slice a len cap) p m size := by
  obtain ⟨c0, c1, c2, c3, f1, f2, f3⟩ := src_cells h.1
  have H := hide h
  clear h
  go_enter Tryd.func26, Tryd.ntmps26
  go_wp2
  go_quiet (fail)
  go_upto_region 7 with fail
  go_cut [5] (fun v wx => v = .int .u64 0 ∧ ∃ m, Hid (S4 w wx src (.slice a len cap) p m size))
  case first =>
    go_region
    all_goals go_wp2_with fail
    all_goals go_meet
    all_goals exact ⟨rfl, _, hide (((unhide H).drewN _).set2 _ (wf_bits _ _ _ _))⟩
  case rest =>
    obtain ⟨rfl, m7, H7⟩ := hcut
    clear c0 c1 c2 c3 f1 f2 f3
    obtain ⟨c0, c1, c2, c3, f1, f2, f3⟩ := src_cells (unhide H7).1
    go_upto_region 8 with fail
    go_cut [5] (fun v wx => v = .int .u64 0 ∧ ∃ m, Hid (S4 w wx src (.slice a len cap) p m size))
    case first =>
      go_region
      all_goals go_wp2_with fail
      all_goals go_meet
      all_goals exact ⟨rfl, _, hide (((unhide H7).drewN 1).set2 _ (wf_bits _ _ _ _))⟩
    case rest =>
      obtain ⟨rfl, m8, H8⟩ := hcut
      clear c0 c1 c2 c3 f1 f2 f3
      obtain ⟨c0, c1, c2, c3, f1, f2, f3⟩ := src_cells (unhide H8).1
      go_upto_region 9 with fail
      go_cut [5] (fun v wx => v = .int .u64 0 ∧ ∃ m, Hid (S4 w wx src (.slice a len cap) p m size))
      case first =>
        go_region
        all_goals go_wp2_with fail
        all_goals go_meet
        all_goals exact ⟨rfl, _, hide (((unhide H8).drewN 1).set2 _ (wf_bits _ _ _ _))⟩
      case rest =>
        obtain ⟨rfl, m9, H9⟩ := hcut
        clear c0 c1 c2 c3 f1 f2 f3
        obtain ⟨c0, c1, c2, c3, f1, f2, f3⟩ := src_cells (unhide H9).1
        have hz : (most == 0) = false := by simp; omega
        go_wp2
        go_ret
        have hr := r_bd (m9 / 1048576) most hm hm2
        exact ⟨_, _, rfl, hr.1, hr.2, unhide H9⟩
set_option maxHeartbeats 2000000 in
set_option maxRecDepth 100000 in
theorem n_more (w : World) (src b off cap len : Nat) (size most mix z : Int) (p : Nat) (hm : 1 < most) (hm2 : most ≤ 1000000) (hp : p < len) (hl : len ≤ 1048576)
    (hz : w.cell? ⟨b, off + p, none⟩ = some (.int .u8 z)) (z0 : 0 ≤ z) (z1 : z < 256) (h : S4 w w src (.slice (some ⟨b, off, none⟩) len cap) p mix size) :
    Calls Tryd.prog 26 #[.pointer (some ⟨src, 0, none⟩), .int .i64 most] w fun e w' => ∃ r m, e = .returned (.int .i64 r) ∧ 0 ≤ r ∧ r < most ∧ S4 w w' src (.slice (some ⟨b, off, none⟩) len cap) (p + 1) m size := by
  obtain ⟨c0, c1, c2, c3, f1, f2, f3⟩ := src_cells h.1
  have H := hide h
  clear h
  go_enter Tryd.func26, Tryd.ntmps26
  go_wp2
  go_quiet (fail)
  go_wp2
  go_quiet (fail)
  go_upto_region 7 with fail
  go_cut [5] (fun v wx => v = .int .u64 z ∧ ∃ m, Hid (S4 w wx src (.slice (some ⟨b, off, none⟩) len cap) (p + 1) m size))
  case first =>
    go_region
    all_goals go_wp2_with fail
    all_goals go_meet
    all_goals exact ⟨rfl, _, hide ((((unhide H).drewN _).set1 (p + 1)).drew.set2 _ (wf_bits _ _ _ _))⟩
  case rest =>
    obtain ⟨rfl, m7, H7⟩ := hcut
    clear c0 c1 c2 c3 f1 f2 f3
    obtain ⟨c0, c1, c2, c3, f1, f2, f3⟩ := src_cells (unhide H7).1
    go_upto_region 8 with fail
    go_cut [5] (fun v wx => v = .int .u64 z ∧ ∃ m, Hid (S4 w wx src (.slice (some ⟨b, off, none⟩) len cap) (p + 1) m size))
    case first =>
      go_region
      all_goals go_wp2_with fail
      all_goals go_meet
      all_goals exact ⟨rfl, _, hide (((unhide H7).drewN 1).set2 _ (wf_bits _ _ _ _))⟩
    case rest =>
      obtain ⟨rfl, m8, H8⟩ := hcut
      clear c0 c1 c2 c3 f1 f2 f3
      obtain ⟨c0, c1, c2, c3, f1, f2, f3⟩ := src_cells (unhide H8).1
      go_upto_region 9 with fail
      go_cut [5] (fun v wx => v = .int .u64 z ∧ ∃ m, Hid (S4 w wx src (.slice (some ⟨b, off, none⟩) len cap) (p + 1) m size))
      case first =>
        go_region
        all_goals go_wp2_with fail
        all_goals go_meet
        all_goals exact ⟨rfl, _, hide (((unhide H8).drewN 1).set2 _ (wf_bits _ _ _ _))⟩
      case rest =>
        obtain ⟨rfl, m9, H9⟩ := hcut
        clear c0 c1 c2 c3 f1 f2 f3
        obtain ⟨c0, c1, c2, c3, f1, f2, f3⟩ := src_cells (unhide H9).1
        have hz : (most == 0) = false := by simp; omega
        go_wp2
        go_ret
        have hr := r_bd (z + m9 / 1048576) most hm hm2
        exact ⟨_, _, rfl, hr.1, hr.2, unhide H9⟩
theorem code_grown {w w' : World} {src len : Nat} {a : Option Addr} (h : CodeAt w src a len) (hg : w.grownBy w' (some src)) : CodeAt w' src a len := by
  rcases h with h | ⟨cb, off, ha, hlt, hne, hc⟩
  · exact .inl h
  · refine .inr ⟨cb, off, ha, Nat.lt_of_lt_of_le hlt hg.size, hne, fun i hi => ?_⟩
    obtain ⟨z, hz, hb⟩ := hc i hi
    exact ⟨z, (World.cell?_of_block (a := ⟨cb, off + i, none⟩) (hg.block cb hlt (by simpa using hne))).trans hz, hb⟩
theorem n_small (w : World) (src : Nat) (most : Int) (h : most ≤ 1) :
    Calls Tryd.prog 26 #[.pointer (some ⟨src, 0, none⟩), .int .i64 most] w fun e w' => e = .returned (.int .i64 0) ∧ w' = w := by
  go_enter Tryd.func26, Tryd.ntmps26
  go_wp2
  go_ret
  exact ⟨rfl, rfl⟩
/-- A number below 'most', and the source is one again; no other block has turned. -/
theorem n_any (w : World) (src : Nat) (a : Option Addr) (len cap : Nat) (size most : Int) (hm : 0 < most) (hm2 : most ≤ 1000000) (hl : len ≤ 1048576) (h : SrcAt w src a len cap size) :
    Calls Tryd.prog 26 #[.pointer (some ⟨src, 0, none⟩), .int .i64 most] w fun e w' => ∃ r, e = .returned (.int .i64 r) ∧ 0 ≤ r ∧ r < most ∧ SrcAt w' src a len cap size ∧ w.grownBy w' (some src) := by
  by_cases h1 : most ≤ 1
  · refine (n_small w src most h1).mono fun e w' ⟨he, hw⟩ => ?_
    subst hw
    exact ⟨0, he, by omega, by omega, h, grown_refl _ _⟩
  obtain ⟨hc, p, mix, hp, hwf, hh⟩ := h
  have h4 : S4 w w src (.slice a len cap) p mix size := ⟨hh, grown_refl _ _, hwf⟩
  by_cases hlt : p < len
  · rcases hc with h0 | ⟨cb, off, rfl, hcb, hne, hcc⟩
    · omega
    · obtain ⟨z, hz, z0, z1⟩ := hcc p hlt
      refine (n_more w src cb off cap len size most mix z p (by omega) hm2 hlt hl hz z0 z1 h4).mono fun e w' ⟨r, m, he, r0, r1, s4⟩ => ?_
      exact ⟨r, he, r0, r1, ⟨code_grown (.inr ⟨cb, off, rfl, hcb, hne, hcc⟩) s4.2.1, p + 1, m, hlt, s4.2.2, s4.1⟩, s4.2.1⟩
  · refine (n_none w src a cap len size most mix p (by omega) hm2 hlt hl hp h4).mono fun e w' ⟨r, m, he, r0, r1, s4⟩ => ?_
    exact ⟨r, he, r0, r1, ⟨code_grown hc s4.2.1, p, m, hp, s4.2.2, s4.1⟩, s4.2.1⟩
theorem one_any (w : World) (src : Nat) (a : Option Addr) (len cap : Nat) (size most : Int) (hm : 0 < most) (hm2 : most ≤ 1000000) (hl : len ≤ 1048576) (h : SrcAt w src a len cap size) :
    Calls Tryd.prog 12 #[.pointer (some ⟨src, 0, none⟩), .int .i64 most] w fun e w' => ∃ b, e = .returned (.bool b) ∧ SrcAt w' src a len cap size ∧ w.grownBy w' (some src) := by
  have H := hide h
  clear h
  go_enter Tryd.func12, Tryd.ntmps12
  go_wp2_with (go_at_call 26; refine (n_any _ src a len cap size most hm hm2 hl (unhide H)).mono ?_; rintro e w' ⟨r, rfl, r0, r1, hs, hg⟩)
  go_ret
  exact ⟨_, rfl, hs, hg⟩
end Go.Proofs.YthjjojkabbepdaaDoor.Dr
