/- Several texts in one. -/
import Derived.Test.YtklakcnapdhcnaaDoorBase
import Derived.Test.YtklakcnapdhcnaaDoorRows
import Derived.BigRegion
import Derived.BigQuiet
import Derived.Deep.QuietTactic
import Derived.RegionTactic
import Derived.Deep.DeepCutAuto
import Derived.OpenShut
import Derived.Test.YtklakcnapdhcnaaDoorNTextE
import Derived.Test.YtklakcnapdhcnaaDoorPasT
import Derived.Test.YtklakcnapdhcnaaDoorAppG
import Derived.Deep.RegionHeld3
import Derived.Deep.Cut
import Derived.ShutString
import Derived.ChangeAt
/- The source of draws: a number below a bound, and the source is one again. -/
namespace Go.Proofs.YtklakcnapdhcnaaDoor.Dr
open Go.RowKit
/-- The bytes that the source draws from can be read. -/
def CodeAt (w : World) (src : Nat) (a : Option Addr) (len : Nat) : Prop :=
  len = 0 ∨ ∃ cb off, a = some ⟨cb, off, none⟩ ∧ cb < w.heap.size ∧ cb ≠ src ∧ ∀ i, i < len → ∃ z : Int, w.cell? ⟨cb, off + i, none⟩ = some (.int .u8 z) ∧ 0 ≤ z ∧ z < 256
/-- The source: its four fields in a block of its own. -/
def SrcAt (w : World) (src : Nat) (a : Option Addr) (len cap : Nat) (size : Int) : Prop :=
  CodeAt w src a len ∧ ∃ (p : Nat) (mix : Int), p ≤ len ∧ (Lit.int .u64 mix).wf = true ∧ w.heap[src]? = some (.cells #[.slice a len cap, .int .i64 p, .int .u64 mix, .int .i64 size] 60 (0, 0))
theorem src_cells {w : World} {src : Nat} {c0 c1 c2 c3 : Value} {T : TypeId} (h : w.heap[src]? = some (.cells #[c0, c1, c2, c3] T (0, 0))) :
    w.cell? ⟨src, 0, none⟩ = some c0 ∧ w.cell? ⟨src, 1, none⟩ = some c1 ∧ w.cell? ⟨src, 2, none⟩ = some c2 ∧ w.cell? ⟨src, 3, none⟩ = some c3 ∧
    w.frozen? ⟨src, 1, none⟩ = false ∧ w.frozen? ⟨src, 2, none⟩ = false ∧ w.frozen? ⟨src, 3, none⟩ = false := by
  simp [World.cell?, World.frozen?, h]
/-- The source in a later world: its block, and that no other one has turned. -/
def S4 (w wx : World) (src : Nat) (c0 : Value) (p : Nat) (mix size : Int) : Prop :=
  wx.heap[src]? = some (.cells #[c0, .int .i64 p, .int .u64 mix, .int .i64 size] 60 (0, 0)) ∧ w.grownBy wx (some src) ∧ (Lit.int .u64 mix).wf = true
theorem grown_refl (w : World) (r : Option Nat) : w.grownBy w r := ⟨rfl, rfl, rfl, Nat.le_refl _, fun _ _ _ => rfl⟩
theorem grown_trans {a b c : World} {r : Option Nat} (h : a.grownBy b r) (k : b.grownBy c r) : a.grownBy c r :=
  ⟨k.os.trans h.os, k.tape.trans h.tape, k.output.trans h.output, Nat.le_trans h.size k.size, fun i hi hr => (k.block i (Nat.lt_of_lt_of_le hi h.size) hr).trans (h.block i hi hr)⟩
theorem grown_drewN {a b : World} {r : Option Nat} (h : a.grownBy b r) (n : Nat) : a.grownBy (b.drewN n) r := ⟨h.os, h.tape, h.output, h.size, h.block⟩
theorem grown_drew {a b : World} {r : Option Nat} (h : a.grownBy b r) : a.grownBy b.drew r := ⟨h.os, h.tape, h.output, h.size, h.block⟩
theorem grown_set {w : World} {src j : Nat} {u : Value} : w.grownBy (w.setCell ⟨src, j, none⟩ u) (some src) :=
  ⟨rfl, rfl, rfl, by simp, fun k _ hk => heap_setCell_other w ⟨src, j, none⟩ k u (fun e => hk (by simp [e]))⟩
theorem S4.drewN {w wx : World} {src p : Nat} {c0 : Value} {mix size : Int} (h : S4 w wx src c0 p mix size) (n : Nat) : S4 w (wx.drewN n) src c0 p mix size := ⟨h.1, grown_drewN h.2.1 n, h.2.2⟩
theorem S4.drew {w wx : World} {src p : Nat} {c0 : Value} {mix size : Int} (h : S4 w wx src c0 p mix size) : S4 w wx.drew src c0 p mix size := ⟨h.1, grown_drew h.2.1, h.2.2⟩
theorem S4.set1 {w wx : World} {src p : Nat} {c0 : Value} {mix size : Int} (h : S4 w wx src c0 p mix size) (q : Nat) : S4 w (wx.setCell ⟨src, 1, none⟩ (.int .i64 q)) src c0 q mix size :=
  ⟨heap_setCell_same wx src 1 _ 60 _ h.1, grown_trans h.2.1 grown_set, h.2.2⟩
theorem S4.set2 {w wx : World} {src p : Nat} {c0 : Value} {mix size : Int} (h : S4 w wx src c0 p mix size) (m : Int) (hm : (Lit.int .u64 m).wf = true) : S4 w (wx.setCell ⟨src, 2, none⟩ (.int .u64 m)) src c0 p m size :=
  ⟨heap_setCell_same wx src 2 _ 60 _ h.1, grown_trans h.2.1 grown_set, hm⟩
theorem r_bd (x most : Int) (h1 : 1 < most) (h2 : most ≤ 1000000) : 0 ≤ wrap64 ((IntKind.u64.wrap x).tmod most) ∧ wrap64 ((IntKind.u64.wrap x).tmod most) < most := by
  have h0 : 0 ≤ IntKind.u64.wrap x := by
    have := bounds_u64 (wf_wrap .u64 x)
    omega
  rw [Int.tmod_eq_emod_of_nonneg h0]
  have a := Int.emod_nonneg (IntKind.u64.wrap x) (show most ≠ 0 by omega)
  have b := Int.emod_lt_of_pos (IntKind.u64.wrap x) (show 0 < most by omega)
  generalize IntKind.u64.wrap x % most = y at *
  unfold wrap64
  omega
set_option maxHeartbeats 2000000 in
set_option maxRecDepth 100000 in
theorem n_none (w : World) (src : Nat) (a : Option Addr) (cap len : Nat) (size most mix : Int) (p : Nat) (hm : 1 < most) (hm2 : most ≤ 1000000) (hp : ¬ p < len) (_hl : len ≤ 1048576) (_hp2 : p ≤ len)
    (h : S4 w w src (.slice a len cap) p mix size) :
    Calls Tryd.prog 21 #[.pointer (some ⟨src, 0, none⟩), .int .i64 most] w fun e w' => ∃ r m, e = .returned (.int .i64 r) ∧ 0 ≤ r ∧ r < most ∧ S4 w w' src (.slice a len cap) p m size := by
  obtain ⟨c0, c1, c2, c3, f1, f2, f3⟩ := src_cells h.1
  have H := hide h
  clear h
  go_enter Tryd.func21, Tryd.ntmps21
  go_wp2
  go_quiet (fail)
  go_upto_region 7 with fail
  go_cut [5] (fun v wx => v = .int .u64 0 ∧ ∃ m, Hid (S4 w wx src (.slice a len cap) p m size))
  case first =>
    go_region
    all_goals go_wp2_with fail
    all_goals go_meet
    all_goals exact ⟨rfl, _, hide (((unhide H).drewN _).set2 _ (wf_bits _ _ _ _))⟩
  case rest =>
    obtain ⟨rfl, m7, H7⟩ := hcut
    clear c0 c1 c2 c3 f1 f2 f3
    obtain ⟨c0, c1, c2, c3, f1, f2, f3⟩ := src_cells (unhide H7).1
    go_upto_region 8 with fail
    go_cut [5] (fun v wx => v = .int .u64 0 ∧ ∃ m, Hid (S4 w wx src (.slice a len cap) p m size))
    case first =>
      go_region
      all_goals go_wp2_with fail
      all_goals go_meet
      all_goals exact ⟨rfl, _, hide (((unhide H7).drewN 1).set2 _ (wf_bits _ _ _ _))⟩
    case rest =>
      obtain ⟨rfl, m8, H8⟩ := hcut
      clear c0 c1 c2 c3 f1 f2 f3
      obtain ⟨c0, c1, c2, c3, f1, f2, f3⟩ := src_cells (unhide H8).1
      go_upto_region 9 with fail
      go_cut [5] (fun v wx => v = .int .u64 0 ∧ ∃ m, Hid (S4 w wx src (.slice a len cap) p m size))
      case first =>
        go_region
        all_goals go_wp2_with fail
        all_goals go_meet
        all_goals exact ⟨rfl, _, hide (((unhide H8).drewN 1).set2 _ (wf_bits _ _ _ _))⟩
      case rest =>
        obtain ⟨rfl, m9, H9⟩ := hcut
        clear c0 c1 c2 c3 f1 f2 f3
        obtain ⟨c0, c1, c2, c3, f1, f2, f3⟩ := src_cells (unhide H9).1
        have hz : (most == 0) = false := by simp; omega
        go_wp2
        go_ret
        have hr := r_bd (m9 / 1048576) most hm hm2
        exact ⟨_, _, rfl, hr.1, hr.2, unhide H9⟩
set_option maxHeartbeats 2000000 in
set_option maxRecDepth 100000 in
theorem n_more (w : World) (src b off cap len : Nat) (size most mix z : Int) (p : Nat) (hm : 1 < most) (hm2 : most ≤ 1000000) (hp : p < len) (hl : len ≤ 1048576)
    (hz : w.cell? ⟨b, off + p, none⟩ = some (.int .u8 z)) (z0 : 0 ≤ z) (z1 : z < 256) (h : S4 w w src (.slice (some ⟨b, off, none⟩) len cap) p mix size) :
    Calls Tryd.prog 21 #[.pointer (some ⟨src, 0, none⟩), .int .i64 most] w fun e w' => ∃ r m, e = .returned (.int .i64 r) ∧ 0 ≤ r ∧ r < most ∧ S4 w w' src (.slice (some ⟨b, off, none⟩) len cap) (p + 1) m size := by
  obtain ⟨c0, c1, c2, c3, f1, f2, f3⟩ := src_cells h.1
  have H := hide h
  clear h
  go_enter Tryd.func21, Tryd.ntmps21
  go_wp2
  go_quiet (fail)
  go_wp2
  go_quiet (fail)
  go_upto_region 7 with fail
  go_cut [5] (fun v wx => v = .int .u64 z ∧ ∃ m, Hid (S4 w wx src (.slice (some ⟨b, off, none⟩) len cap) (p + 1) m size))
  case first =>
    go_region
    all_goals go_wp2_with fail
    all_goals go_meet
    all_goals exact ⟨rfl, _, hide ((((unhide H).drewN _).set1 (p + 1)).drew.set2 _ (wf_bits _ _ _ _))⟩
  case rest =>
    obtain ⟨rfl, m7, H7⟩ := hcut
    clear c0 c1 c2 c3 f1 f2 f3
    obtain ⟨c0, c1, c2, c3, f1, f2, f3⟩ := src_cells (unhide H7).1
    go_upto_region 8 with fail
    go_cut [5] (fun v wx => v = .int .u64 z ∧ ∃ m, Hid (S4 w wx src (.slice (some ⟨b, off, none⟩) len cap) (p + 1) m size))
    case first =>
      go_region
      all_goals go_wp2_with fail
      all_goals go_meet
      all_goals exact ⟨rfl, _, hide (((unhide H7).drewN 1).set2 _ (wf_bits _ _ _ _))⟩
    case rest =>
      obtain ⟨rfl, m8, H8⟩ := hcut
      clear c0 c1 c2 c3 f1 f2 f3
      obtain ⟨c0, c1, c2, c3, f1, f2, f3⟩ := src_cells (unhide H8).1
      go_upto_region 9 with fail
      go_cut [5] (fun v wx => v = .int .u64 z ∧ ∃ m, Hid (S4 w wx src (.slice (some ⟨b, off, none⟩) len cap) (p + 1) m size))
      case first =>
        go_region
        all_goals go_wp2_with fail
        all_goals go_meet
        all_goals exact ⟨rfl, _, hide (((unhide H8).drewN 1).set2 _ (wf_bits _ _ _ _))⟩
      case rest =>
        obtain ⟨rfl, m9, H9⟩ := hcut
        clear c0 c1 c2 c3 f1 f2 f3
        obtain ⟨c0, c1, c2, c3, f1, f2, f3⟩ := src_cells (unhide H9).1
        have hz : (most == 0) = false := by simp; omega
        go_wp2
        go_ret
        have hr := r_bd (z + m9 / 1048576) most hm hm2
        exact ⟨_, _, rfl, hr.1, hr.2, unhide H9⟩
theorem code_grown {w w' : World} {src len : Nat} {a : Option Addr} (h : CodeAt w src a len) (hg : w.grownBy w' (some src)) : CodeAt w' src a len := by
  rcases h with h | ⟨cb, off, ha, hlt, hne, hc⟩
  · exact .inl h
  · refine .inr ⟨cb, off, ha, Nat.lt_of_lt_of_le hlt hg.size, hne, fun i hi => ?_⟩
    obtain ⟨z, hz, hb⟩ := hc i hi
    exact ⟨z, (World.cell?_of_block (a := ⟨cb, off + i, none⟩) (hg.block cb hlt (by simpa using hne))).trans hz, hb⟩
theorem n_small (w : World) (src : Nat) (most : Int) (h : most ≤ 1) :
    Calls Tryd.prog 21 #[.pointer (some ⟨src, 0, none⟩), .int .i64 most] w fun e w' => e = .returned (.int .i64 0) ∧ w' = w := by
  go_enter Tryd.func21, Tryd.ntmps21
  go_wp2
  go_ret
  exact ⟨rfl, rfl⟩
/-- A number below 'most', and the source is one again; no other block has turned. -/
theorem n_any (w : World) (src : Nat) (a : Option Addr) (len cap : Nat) (size most : Int) (hm : 0 < most) (hm2 : most ≤ 1000000) (hl : len ≤ 1048576) (h : SrcAt w src a len cap size) :
    Calls Tryd.prog 21 #[.pointer (some ⟨src, 0, none⟩), .int .i64 most] w fun e w' => ∃ r, e = .returned (.int .i64 r) ∧ 0 ≤ r ∧ r < most ∧ SrcAt w' src a len cap size ∧ w.grownBy w' (some src) := by
  by_cases h1 : most ≤ 1
  · refine (n_small w src most h1).mono fun e w' ⟨he, hw⟩ => ?_
    subst hw
    exact ⟨0, he, by omega, by omega, h, grown_refl _ _⟩
  obtain ⟨hc, p, mix, hp, hwf, hh⟩ := h
  have h4 : S4 w w src (.slice a len cap) p mix size := ⟨hh, grown_refl _ _, hwf⟩
  by_cases hlt : p < len
  · rcases hc with h0 | ⟨cb, off, rfl, hcb, hne, hcc⟩
    · omega
    · obtain ⟨z, hz, z0, z1⟩ := hcc p hlt
      refine (n_more w src cb off cap len size most mix z p (by omega) hm2 hlt hl hz z0 z1 h4).mono fun e w' ⟨r, m, he, r0, r1, s4⟩ => ?_
      exact ⟨r, he, r0, r1, ⟨code_grown (.inr ⟨cb, off, rfl, hcb, hne, hcc⟩) s4.2.1, p + 1, m, hlt, s4.2.2, s4.1⟩, s4.2.1⟩
  · refine (n_none w src a cap len size most mix p (by omega) hm2 hlt hl hp h4).mono fun e w' ⟨r, m, he, r0, r1, s4⟩ => ?_
    exact ⟨r, he, r0, r1, ⟨code_grown hc s4.2.1, p, m, hp, s4.2.2, s4.1⟩, s4.2.1⟩
theorem one_any (w : World) (src : Nat) (a : Option Addr) (len cap : Nat) (size most : Int) (hm : 0 < most) (hm2 : most ≤ 1000000) (hl : len ≤ 1048576) (h : SrcAt w src a len cap size) :
    Calls Tryd.prog 29 #[.pointer (some ⟨src, 0, none⟩), .int .i64 most] w fun e w' => ∃ b, e = .returned (.bool b) ∧ SrcAt w' src a len cap size ∧ w.grownBy w' (some src) := by
  have H := hide h
  clear h
  go_enter Tryd.func29, Tryd.ntmps29
  go_wp2_with (go_at_call 21; refine (n_any _ src a len cap size most hm hm2 hl (unhide H)).mono ?_; rintro e w' ⟨r, rfl, r0, r1, hs, hg⟩)
  go_ret
  exact ⟨_, rfl, hs, hg⟩
end Go.Proofs.YtklakcnapdhcnaaDoor.Dr
/- The source that a code makes. -/
namespace Go.Proofs.YtklakcnapdhcnaaDoor.Dr
open Go.RowKit
/-- The source's block in a world that has it new. -/
def S5 (w wx : World) (src : Nat) (c0 : Value) (mix size : Int) : Prop :=
  wx.heap[src]? = some (.cells #[c0, .int .i64 0, .int .u64 mix, .int .i64 size] 60 (0, 0)) ∧ Below w.heap.size w wx ∧ (Lit.int .u64 mix).wf = true
theorem S5.drew {w wx : World} {src : Nat} {c0 : Value} {mix size : Int} (h : S5 w wx src c0 mix size) : S5 w wx.drew src c0 mix size := ⟨h.1, h.2.1.drew, h.2.2⟩
theorem S5.drewN {w wx : World} {src : Nat} {c0 : Value} {mix size : Int} (h : S5 w wx src c0 mix size) (n : Nat) : S5 w (wx.drewN n) src c0 mix size := ⟨h.1, bdrew h.2.1 n, h.2.2⟩
theorem S5.set2 {w wx : World} {src : Nat} {c0 : Value} {mix size : Int} (h : S5 w wx src c0 mix size) (hs : w.heap.size ≤ src) (m : Int) (hm : (Lit.int .u64 m).wf = true) : S5 w (wx.setCell ⟨src, 2, none⟩ (.int .u64 m)) src c0 m size :=
  ⟨heap_setCell_same wx src 2 _ 60 _ h.1, h.2.1.setCell (p := ⟨src, 2, none⟩) hs _, hm⟩
theorem S5.set3 {w wx : World} {src : Nat} {c0 : Value} {mix size : Int} (h : S5 w wx src c0 mix size) (hs : w.heap.size ≤ src) (z : Int) : S5 w (wx.setCell ⟨src, 3, none⟩ (.int .i64 z)) src c0 mix z :=
  ⟨heap_setCell_same wx src 3 _ 60 _ h.1, h.2.1.setCell (p := ⟨src, 3, none⟩) hs _, h.2.2⟩
/-- What is told of the code: it can be read. -/
def CodeIn (w : World) (a : Option Addr) (len : Nat) : Prop :=
  len = 0 ∨ ∃ cb off, a = some ⟨cb, off, none⟩ ∧ cb < w.heap.size ∧ ∀ i, i < len → ∃ z : Int, w.cell? ⟨cb, off + i, none⟩ = some (.int .u8 z) ∧ 0 ≤ z ∧ z < 256
theorem src_of {w wx : World} {a : Option Addr} {len cap : Nat} {mix size : Int} (hc : CodeIn w a len) (h : S5 w wx w.heap.size (.slice a len cap) mix size) : SrcAt wx w.heap.size a len cap size := by
  refine ⟨?_, 0, mix, Nat.zero_le _, h.2.2, h.1⟩
  rcases hc with h0 | ⟨cb, off, ha, hlt, hcc⟩
  · exact .inl h0
  · refine .inr ⟨cb, off, ha, Nat.lt_of_lt_of_le hlt h.2.1.size, by omega, fun i hi => ?_⟩
    obtain ⟨z, hz, hb⟩ := hcc i hi
    exact ⟨z, (h.2.1.cell (p := ⟨cb, off + i, none⟩) hlt).trans hz, hb⟩
set_option maxHeartbeats 2000000 in
set_option maxRecDepth 100000 in
theorem source_at (w : World) (cb off cap len : Nat) (hl : len ≤ 1048576) (hcb : cb < w.heap.size) (hcc : ∀ i, i < len → ∃ z : Int, w.cell? ⟨cb, off + i, none⟩ = some (.int .u8 z) ∧ 0 ≤ z ∧ z < 256) :
    Calls Tryd.prog 12 #[.slice (some ⟨cb, off, none⟩) len cap] w fun e w' => e = .returned (.pointer (some ⟨w.heap.size, 0, none⟩)) ∧ ∃ mix size, 0 ≤ size ∧ size ≤ 12 ∧ S5 w w' w.heap.size (.slice (some ⟨cb, off, none⟩) len cap) mix size := by
  have HC := hide hcc
  clear hcc
  have H0 : Hid (S5 w (w.alloc (.cells #[.slice (some ⟨cb, off, none⟩) len cap, .int .i64 0, .int .u64 88172645463325252, .int .i64 0] 60)) w.heap.size (.slice (some ⟨cb, off, none⟩) len cap) 88172645463325252 0) :=
    hide ⟨heap_alloc_new _ _, (Below.refl _ _).alloc (Nat.le_refl _) _, by decide +kernel⟩
  go_enter Tryd.func12, Tryd.ntmps12
  go_wp2
  go_loopw [4] (fun i wr => ∃ (k : Nat) (mix : Int), k ≤ len ∧ i = .int .i64 k ∧ Hid (S5 w wr w.heap.size (.slice (some ⟨cb, off, none⟩) len cap) mix 0)) (fun i _ => len - (intOf i).toNat)
  case atStart => exact ⟨0, _, Nat.zero_le _, rfl, H0⟩
  case round =>
    obtain ⟨k, mix, hk, rfl, H⟩ := hrel
    clear H0
    obtain ⟨c0, c1, c2, c3, f1, f2, f3⟩ := src_cells (unhide H).1
    by_cases hlt : k < len
    · by_cases h64 : k < 64
      · obtain ⟨z, hz, z0, z1⟩ := (unhide HC) k hlt
        have hz' := ((unhide H).2.1.cell (p := ⟨cb, off + k, none⟩) hcb).trans hz
        clear hz
        go_wp2
        go_region
        all_goals go_wp2
        all_goals go_roundw
        case rel => exact ⟨k + 1, _, by omega, by go_num, hide (((unhide H).set2 (Nat.le_refl _) _ (wf_wrap _ _)).drew)⟩
        case measure => simp [intOf]; omega
      · by_cases h12 : 12 < len / 20
        · go_wp2
          go_ret
          exact ⟨rfl, mix, 12, by omega, by omega, ((unhide H).set3 (Nat.le_refl _) _).set3 (Nat.le_refl _) _⟩
        · go_wp2
          go_ret
          exact ⟨rfl, mix, (len / 20 : Nat), by omega, by omega, (unhide H).set3 (Nat.le_refl _) _⟩
    · by_cases h12 : 12 < len / 20
      · go_wp2
        go_ret
        exact ⟨rfl, mix, 12, by omega, by omega, ((unhide H).set3 (Nat.le_refl _) _).set3 (Nat.le_refl _) _⟩
      · go_wp2
        go_ret
        exact ⟨rfl, mix, (len / 20 : Nat), by omega, by omega, (unhide H).set3 (Nat.le_refl _) _⟩
set_option maxHeartbeats 2000000 in
set_option maxRecDepth 100000 in
theorem source_nil (w : World) (a : Option Addr) (cap : Nat) :
    Calls Tryd.prog 12 #[.slice a 0 cap] w fun e w' => e = .returned (.pointer (some ⟨w.heap.size, 0, none⟩)) ∧ ∃ mix size, 0 ≤ size ∧ size ≤ 12 ∧ S5 w w' w.heap.size (.slice a 0 cap) mix size := by
  have H0 : Hid (S5 w (w.alloc (.cells #[.slice a 0 cap, .int .i64 0, .int .u64 88172645463325252, .int .i64 0] 60)) w.heap.size (.slice a 0 cap) 88172645463325252 0) :=
    hide ⟨heap_alloc_new _ _, (Below.refl _ _).alloc (Nat.le_refl _) _, by decide +kernel⟩
  go_enter Tryd.func12, Tryd.ntmps12
  go_wp2
  refine wp_loop_rounds 1 ?_
  rw [rounds_succ]
  go_wp2
  go_ret
  exact ⟨rfl, _, 0, by omega, by omega, unhide H0⟩
/-- The source of a code: a new block; nothing else has turned. -/
theorem source_any (w : World) (a : Option Addr) (len cap : Nat) (hl : len ≤ 1048576) (hc : CodeIn w a len) :
    Calls Tryd.prog 12 #[.slice a len cap] w fun e w' => e = .returned (.pointer (some ⟨w.heap.size, 0, none⟩)) ∧ ∃ size, 0 ≤ size ∧ size ≤ 12 ∧ SrcAt w' w.heap.size a len cap size ∧ Below w.heap.size w w' ∧ w.heap.size < w'.heap.size := by
  have fin : ∀ {w' : World} {mix size : Int}, S5 w w' w.heap.size (.slice a len cap) mix size → SrcAt w' w.heap.size a len cap size ∧ Below w.heap.size w w' ∧ w.heap.size < w'.heap.size :=
    fun h => ⟨src_of hc h, h.2.1, (Array.getElem?_eq_some_iff.1 h.1).1⟩
  rcases id hc with h0 | ⟨cb, off, rfl, hlt, hcc⟩
  · subst h0
    exact (source_nil w a cap).mono fun e w' ⟨he, mix, size, h1, h2, h5⟩ => ⟨he, size, h1, h2, fin h5⟩
  · exact (source_at w cb off cap len hl hlt hcc).mono fun e w' ⟨he, mix, size, h1, h2, h5⟩ => ⟨he, size, h1, h2, fin h5⟩
end Go.Proofs.YtklakcnapdhcnaaDoor.Dr
/- A drawn point: some number; the source is one again. -/
namespace Go.Proofs.YtklakcnapdhcnaaDoor.Dr
open Go.RowKit
theorem grown_alloc (w : World) (o : Obj) (r : Option Nat) : w.grownBy (w.alloc o) r :=
  ⟨rfl, rfl, rfl, by simp, fun k hk _ => Below.heap_alloc w o k hk⟩
theorem src_lt {w : World} {src len cap : Nat} {a : Option Addr} {size : Int} (h : SrcAt w src a len cap size) : src < w.heap.size := by
  obtain ⟨_, p, mix, _, _, hh⟩ := h
  exact (Array.getElem?_eq_some_iff.1 hh).1
/-- The source stays one where its own block and the code's have not turned. -/
theorem src_keep {w w' : World} {src len cap : Nat} {a : Option Addr} {size : Int} (h : SrcAt w src a len cap size) (hs : w.heap.size ≤ w'.heap.size) (hb : ∀ k, k < w.heap.size → w'.heap[k]? = w.heap[k]?) : SrcAt w' src a len cap size := by
  have hlt := src_lt h
  obtain ⟨hc, p, mix, hp, hwf, hh⟩ := h
  refine ⟨?_, p, mix, hp, hwf, (hb src hlt).trans hh⟩
  rcases hc with h0 | ⟨cb, off, ha, hcb, hne, hcc⟩
  · exact .inl h0
  · refine .inr ⟨cb, off, ha, by omega, hne, fun i hi => ?_⟩
    obtain ⟨z, hz, hzb⟩ := hcc i hi
    exact ⟨z, (World.cell?_of_block (a := ⟨cb, off + i, none⟩) (hb cb hcb)).trans hz, hzb⟩
theorem src_alloc {w : World} {src len cap : Nat} {a : Option Addr} {size : Int} (h : SrcAt w src a len cap size) (o : Obj) : SrcAt (w.alloc o) src a len cap size :=
  src_keep h (by simp) (fun k hk => Below.heap_alloc w o k hk)
theorem n_nat (w : World) (src : Nat) (a : Option Addr) (len cap : Nat) (size most : Int) (hm : 0 < most) (hm2 : most ≤ 1000000) (hl : len ≤ 1048576) (h : SrcAt w src a len cap size) :
    Calls Tryd.prog 21 #[.pointer (some ⟨src, 0, none⟩), .int .i64 most] w fun e w' => ∃ r : Nat, e = .returned (.int .i64 r) ∧ (r : Int) < most ∧ SrcAt w' src a len cap size ∧ w.grownBy w' (some src) := by
  refine (n_any w src a len cap size most hm hm2 hl h).mono fun e w' ⟨r, he, r0, r1, hs, hg⟩ => ?_
  obtain ⟨n, rfl⟩ := Int.eq_ofNat_of_zero_le r0
  exact ⟨n, he, r1, hs, hg⟩
theorem n_idx (w : World) (O : Array Value) (src : Nat) (a : Option Addr) (len cap : Nat) (size : Int) (m : Nat) (hm : 0 < m) (hm2 : m ≤ 1000) (hl : len ≤ 1048576) (h : SrcAt w src a len cap size) (hO : ∀ i, i < m → ∃ x : Int, O[i]? = some (.int .i64 x)) :
    Calls Tryd.prog 21 #[.pointer (some ⟨src, 0, none⟩), .int .i64 (m : Int)] (w.alloc (.cells O 2)) fun e w' => ∃ (r : Nat) (x : Int), e = .returned (.int .i64 r) ∧ r < m ∧ w'.cell? ⟨w.heap.size, r, none⟩ = some (.int .i64 x) ∧ SrcAt w' src a len cap size ∧ w.grownBy w' (some src) := by
  refine (n_nat (w.alloc (.cells O 2)) src a len cap size m (by omega) (by omega) hl (src_alloc h _)).mono fun e w' ⟨r, he, r1, hs, hg⟩ => ?_
  obtain ⟨x, hx⟩ := hO r (by omega)
  have hlt := src_lt h
  refine ⟨r, x, he, by omega, ?_, hs, grown_trans (grown_alloc _ _ _) hg⟩
  rw [World.cell?_of_block (a := ⟨w.heap.size, r, none⟩) (hg.block w.heap.size (by simp) (by simp; omega))]
  simpa using hx
end Go.Proofs.YtklakcnapdhcnaaDoor.Dr
/- Drawn texts: some text, not too long; the source is one again. -/
namespace Go.Proofs.YtklakcnapdhcnaaDoor.Dr
open Go.RowKit
def AIn (B : Nat) (a : Option Addr) (len : Nat) : Prop := len = 0 ∨ ∃ cb off, a = some ⟨cb, off, none⟩ ∧ cb < B
theorem aIn_of {w : World} {src len cap : Nat} {a : Option Addr} {size : Int} (h : SrcAt w src a len cap size) : AIn w.heap.size a len := by
  rcases h.1 with h0 | ⟨cb, off, ha, hcb, _⟩
  · exact .inl h0
  · exact .inr ⟨cb, off, ha, hcb⟩
theorem src_move {w w' : World} {src len cap B : Nat} {a : Option Addr} {size : Int} (h : SrcAt w src a len cap size) (ha : AIn B a len) (hsrc : src < B) (hs : w.heap.size ≤ w'.heap.size) (hb : ∀ k, k < B → w'.heap[k]? = w.heap[k]?) : SrcAt w' src a len cap size := by
  obtain ⟨hc, p, mix, hp, hwf, hh⟩ := h
  refine ⟨?_, p, mix, hp, hwf, (hb src hsrc).trans hh⟩
  rcases hc with h0 | ⟨cb, off, e, hcb, hne, hcc⟩
  · exact .inl h0
  · refine .inr ⟨cb, off, e, by omega, hne, fun i hi => ?_⟩
    obtain ⟨z, hz, hzb⟩ := hcc i hi
    have hB : cb < B := by
      rcases ha with h0 | ⟨cb', off', e', hB⟩
      · omega
      · rw [e] at e'
        simp only [Option.some.injEq, Addr.mk.injEq, and_true] at e'
        omega
    exact ⟨z, (World.cell?_of_block (a := ⟨cb, off + i, none⟩) (hb cb hB)).trans hz, hzb⟩
theorem grown_bel {w w1 w2 : World} {src : Nat} (h : w.grownBy w1 (some src)) (hb : Below w1.heap.size w1 w2) : w.grownBy w2 (some src) :=
  grown_trans h ⟨hb.os, hb.tape, hb.output, hb.size, fun k hk _ => hb.block k hk⟩
theorem src_below {w w' : World} {src len cap : Nat} {a : Option Addr} {size : Int} (h : SrcAt w src a len cap size) (hb : Below w.heap.size w w') : SrcAt w' src a len cap size := src_keep h hb.size hb.block
/-- An append to a row that lies above the world at the beginning. -/
theorem grown_row {w wr w3 : World} {src : Nat} {v : Value} {o : Obj} {e : TypeId} {n : Nat} {xs : List Value} (h : w.grownBy wr (some src)) (ho : wr.ownsRow w.heap.size e 1 v n xs) (hg : (wr.alloc o).grownBy w3 v.ownBlock) :
    w.grownBy w3 (some src) ∧ (∀ k, k < w.heap.size → w3.heap[k]? = wr.heap[k]?) ∧ wr.heap.size ≤ w3.heap.size := by
  have hk : ∀ k, k < w.heap.size → w3.heap[k]? = wr.heap[k]? := by
    intro k hk
    have h1 : k < wr.heap.size := Nat.lt_of_lt_of_le hk h.size
    have hne : some k ≠ v.ownBlock := fun e => by have := (ho.lt k e.symm).1; omega
    rw [hg.block k (by simp; omega) hne, Below.heap_alloc wr o k h1]
  have hs : wr.heap.size ≤ w3.heap.size := by have := hg.size; simp at this; omega
  exact ⟨⟨hg.os.trans h.os, hg.tape.trans h.tape, hg.output.trans h.output, Nat.le_trans h.size hs, fun k hkw hr => (hk k hkw).trans (h.block k hkw hr)⟩, hk, hs⟩
theorem row_snoc {w3 : World} {B : Nat} {v' : Value} {L : List Int} {p : Int} (ho2 : w3.ownsRow B 2 1 v' (L.length + 1) (L.map (Value.int .i64) ++ [.int .i64 p])) : w3.ownsRow B 2 1 v' (L ++ [p]).length ((L ++ [p]).map (Value.int .i64)) := by
  rw [List.length_append, List.map_append]; exact ho2
theorem owned_kept {w wr w1 : World} {src : Nat} {e : TypeId} {v : Value} {n : Nat} {xs : List Value} (hsrc : src < w.heap.size) (ho : wr.ownsRow w.heap.size e 1 v n xs) (hg : wr.grownBy w1 (some src)) : w1.ownsRow w.heap.size e 1 v n xs := by
  refine ho.kept hg ?_
  cases hv : v.ownBlock with
  | none => exact .inl rfl
  | some k => exact .inr (fun e => by have := (ho.lt k hv).1; simp at e; omega)
def lenOf : Value → Nat
  | .slice _ n _ => n
  | _ => 0
theorem long_step {w wr w3 : World} {g cap : Nat} {v' : Value} {L : List Int} (hb : Below w.heap.size w wr) (ho : wr.ownsRow w.heap.size 5 1 (.slice (some ⟨g, 0, none⟩) L.length cap) L.length (L.map (Value.int .u8)))
    (ho3 : w3.ownsRow w.heap.size 5 1 v' (L.length + 2) (L.map (Value.int .u8) ++ Lib.strCells { data := #[97, 98] })) (hg : wr.grownBy w3 (some g)) :
    ∃ g' cap', v' = .slice (some ⟨g', 0, none⟩) (L ++ [97, 98]).length cap' ∧ (L ++ [97, 98] : List Int).length ≤ cap' ∧ cap' ≤ maxLen ∧
      w3.ownsRow w.heap.size 5 1 (.slice (some ⟨g', 0, none⟩) (L ++ [97, 98]).length cap') (L ++ [97, 98]).length ((L ++ [97, 98]).map (Value.int .u8)) ∧ Below w.heap.size w w3 := by
  have hb3 : Below w.heap.size w w3 := hb.grown hg hb.size (fun k hk => by simp at hk; subst hk; exact (ho.lt g rfl).1)
  have e1 : (L ++ [97, 98] : List Int).length = L.length + 2 := by simp
  have e2 : (L ++ [97, 98]).map (Value.int .u8) = L.map (Value.int .u8) ++ Lib.strCells { data := #[97, 98] } := by rw [List.map_append]; rfl
  rcases ho3.2 with ⟨hv, h0⟩ | ⟨g', cap', cur, hv, hg', hh, hn', hm, hs, ht⟩
  · omega
  · refine ⟨g', cap', by rw [hv, e1], by omega, hm, ?_, hb3⟩
    rw [e1, e2, ← hv]; exact ho3
theorem conv_pre (w : World) {B : Nat} (g cap : Nat) (L : List Int) (n : Nat) (hn : n ≤ L.length) (h : w.ownsRow B 5 1 (.slice (some ⟨g, 0, none⟩) L.length cap) L.length (L.map (Value.int .u8))) (c : Nat) :
    (convert 22 9 (.slice (some ⟨g, 0, none⟩) n c)).run Tryd.prog w = .ok (.string (strOfNums (L.take n))) w := by
  refine conv_of w g c (L.take n) n (by simp; omega) fun i hi => ?_
  rw [h.cellAt i (by omega), List.getElem?_map]
  simp [List.getD, hi, show i < L.length by omega]
set_option maxRecDepth 100000 in
set_option maxHeartbeats 2000000 in
theorem long_any (w : World) (src : Nat) (N : Nat) (h0 : 0 < N) (hN : N ≤ 100000) :
    Calls Tryd.prog 30 #[.pointer (some ⟨src, 0, none⟩), .string { data := #[97, 98] }, .int .i64 N] w fun e w' => ∃ s : ByteArray, e = .returned (.string s) ∧ s.size ≤ 100000 ∧ Below w.heap.size w w' := by
  obtain ⟨i0, hi, hz0, hz1, hz2⟩ := info_parts info5
  have HO0 : Hid ((w.alloc (.cells #[] 5)).ownsRow w.heap.size 5 1 (.slice (some ⟨w.heap.size, 0, none⟩) 0 0) ([] : List Int).length (([] : List Int).map (Value.int .u8))) := hide (World.ownsRow_lit w #[] 0 (Nat.le_refl _) (by unfold maxLen; omega) rfl)
  have HB0 : Hid (Below w.heap.size w (w.alloc (.cells #[] 5))) := hide ((Below.refl _ _).alloc (Nat.le_refl _) _)
  go_enter Tryd.func30, Tryd.ntmps30
  go_wp2
  go_loopw [7] (fun v wr => ∃ (L : List Int) (g cap : Nat), v = .slice (some ⟨g, 0, none⟩) L.length cap ∧ L.length ≤ N + 1 ∧ L.length ≤ cap ∧ cap ≤ maxLen ∧ Hid (wr.ownsRow w.heap.size 5 1 (.slice (some ⟨g, 0, none⟩) L.length cap) L.length (L.map (Value.int .u8))) ∧ Hid (Below w.heap.size w wr)) (fun v _ => N - lenOf v)
  case atStart => exact ⟨[], w.heap.size, 0, rfl, by simp, by simp, by unfold maxLen; omega, HO0, HB0⟩
  case round =>
    obtain ⟨L, g, cap, rfl, hL, hLc, hcm, HO, HB⟩ := hrel
    clear HO0 HB0
    unfold maxLen at hcm
    by_cases hlt : L.length < N
    · have hsz := (unhide HB).size
      go_wp2_with (at_builtin; refine Lib.wpList_append_own_string _ rfl _ _ 22 9 rfl w.heap.size 5 i0 Tryd.underlying22 Tryd.underlying9 hi hz0 hz1 hz2 _ _ _ rfl (unhide HO) _ rfl ?c1 ?c2 ?c3 ?_)
      case c1 => show L.length + 2 ≤ maxLen; unfold maxLen; omega
      case c2 => show L.length + 2 ≤ _; omega
      case c3 => omega
      intro v' w3 hown' hgrow _
      have R := hide (long_step (unhide HB) (unhide HO) hown' hgrow)
      clear hown' hgrow
      obtain ⟨g', cap', hv', hc1, hc2, ho3, hb3⟩ := unhide R
      clear R
      have HO3 := hide ho3
      have HB3 := hide hb3
      clear ho3 hb3
      subst hv'
      go_wp2
      go_roundw
      case rel => exact ⟨L ++ [97, 98], g', cap', by simp, by simp; omega, by simpa using hc1, hc2, HO3, HB3⟩
      case measure => simp [lenOf]; omega
    · have hge : N ≤ L.length := by omega
      have hcv := conv_pre wr g (cap) L N hge (unhide HO)
      go_wp2
      go_ret
      exact ⟨_, rfl, by rw [strOfNums_size]; simp; omega, unhide HB⟩
theorem add1 (t : ByteArray) (k : Nat) (ht : t.size ≤ 100000) (W : World) (x : Int) : (Op.stringOp .add (t.extract 0 k) (strOfNums [x])).run Tryd.prog W = .ok (.string (t.extract 0 k ++ strOfNums [x])) W :=
  run_string_add_sum W _ _ (by rw [strOfNums_size, ByteArray.size_extract]; simp; omega)
theorem add2 (t : ByteArray) (k : Nat) (ht : t.size ≤ 100000) (W : World) (x : Int) : (Op.stringOp .add (t.extract 0 k ++ strOfNums [x]) (t.extract k t.size)).run Tryd.prog W = .ok (.string (t.extract 0 k ++ strOfNums [x] ++ t.extract k t.size)) W :=
  run_string_add_sum W _ _ (by rw [ByteArray.size_append, strOfNums_size, ByteArray.size_extract, ByteArray.size_extract]; simp; omega)
theorem add3 (t : ByteArray) (k : Nat) (ht : t.size ≤ 100000) (W : World) : (Op.stringOp .add (t.extract 0 k) (t.extract (k + 1) t.size)).run Tryd.prog W = .ok (.string (t.extract 0 k ++ t.extract (k + 1) t.size)) W :=
  run_string_add_sum W _ _ (by rw [ByteArray.size_extract, ByteArray.size_extract]; omega)
theorem add4 (t : ByteArray) (k : Nat) (ht : t.size ≤ 100000) (W : World) (x : Int) : (Op.stringOp .add (t.extract 0 k ++ strOfNums [x]) (t.extract (k + 1) t.size)).run Tryd.prog W = .ok (.string (t.extract 0 k ++ strOfNums [x] ++ t.extract (k + 1) t.size)) W :=
  run_string_add_sum W _ _ (by rw [ByteArray.size_append, strOfNums_size, ByteArray.size_extract, ByteArray.size_extract]; simp; omega)
theorem size2 (t : ByteArray) (k : Nat) (x : Int) (ht : t.size ≤ 100000) : (t.extract 0 k ++ strOfNums [x] ++ t.extract k t.size).size ≤ 100001 := by
  rw [ByteArray.size_append, ByteArray.size_append, strOfNums_size, ByteArray.size_extract, ByteArray.size_extract]; simp; omega
theorem size3 (t : ByteArray) (k : Nat) (ht : t.size ≤ 100000) : (t.extract 0 k ++ t.extract (k + 1) t.size).size ≤ 100001 := by
  rw [ByteArray.size_append, ByteArray.size_extract, ByteArray.size_extract]; omega
theorem size4 (t : ByteArray) (k : Nat) (x : Int) (ht : t.size ≤ 100000) : (t.extract 0 k ++ strOfNums [x] ++ t.extract (k + 1) t.size).size ≤ 100001 := by
  rw [ByteArray.size_append, ByteArray.size_append, strOfNums_size, ByteArray.size_extract, ByteArray.size_extract]; simp; omega
set_option maxHeartbeats 2000000 in
set_option maxRecDepth 100000 in
theorem spoil_any (w : World) (src : Nat) (a : Option Addr) (len cap : Nat) (size : Int) (t : ByteArray) (hl : len ≤ 1048576) (ht : t.size ≤ 100000) (h : SrcAt w src a len cap size) :
    Calls Tryd.prog 22 #[.pointer (some ⟨src, 0, none⟩), .string t] w fun e w' => ∃ s : ByteArray, e = .returned (.string s) ∧ s.size ≤ 100001 ∧ SrcAt w' src a len cap size ∧ w.grownBy w' (some src) := by
  have H := hide h
  clear h
  have hcv := conv1
  go_enter Tryd.func22, Tryd.ntmps22
  go_wp2_with fail
  refine (n_nat _ src a len cap size _ (by omega) (by omega) hl (unhide H)).mono ?_
  rintro e w1 ⟨k, rfl, hk, hs, hg⟩
  have S1 := hide hs
  have G1 := hide hg
  clear hs hg H
  go_wp2_with fail
  refine (n_nat _ src a len cap size 17 (by omega) (by omega) hl (unhide S1)).mono ?_
  rintro e w2 ⟨q, rfl, hq, hs, hg⟩
  have S2 := hide hs
  have G2 := hide (grown_trans (unhide G1) hg)
  clear hs hg S1 G1
  have hk2 : k ≤ t.size := by omega
  have a1 := add1 t k ht
  have a2 := add2 t k ht
  have a3 := add3 t k ht
  have a4 := add4 t k ht
  by_cases hkt : k = t.size
  · have e1 : ((k : Int) == (t.size : Int)) = true := by simp; omega
    clear hkt
    go_wp2
    go_quiet (fail)
    go_wp2
    go_ret
    exact ⟨_, rfl, size2 t k _ ht, src_keep (src_alloc (unhide S2) _) (Nat.le_refl _) (fun j hj => rfl), grown_trans (unhide G2) (grown_drewN (grown_alloc _ _ _) _)⟩
  · have e1 : ((k : Int) == (t.size : Int)) = false := by simp; omega
    have hk3 : k + 1 ≤ t.size := by omega
    clear hkt
    go_wp2_with fail
    refine (one_any _ src a len cap size 3 (by omega) (by omega) hl (src_alloc (unhide S2) _)).mono ?_
    rintro e w3 ⟨b, rfl, hs, hg⟩
    have S3 := hide hs
    have G3 := hide (grown_trans (unhide G2) (grown_trans (grown_alloc _ _ _) hg))
    clear hs hg S2 G2
    cases b
    · go_wp2_with fail
      refine (one_any _ src a len cap size 2 (by omega) (by omega) hl (unhide S3)).mono ?_
      rintro e w4 ⟨b, rfl, hs, hg⟩
      have S4' := hide hs
      have G4 := hide (grown_trans (unhide G3) hg)
      clear hs hg S3 G3
      cases b
      · go_wp2
        go_quiet (fail)
        go_wp2
        go_ret
        exact ⟨_, rfl, size4 t k _ ht, src_keep (unhide S4') (Nat.le_refl _) (fun j hj => rfl), grown_drewN (unhide G4) _⟩
      · go_wp2
        go_quiet (fail)
        go_wp2
        go_ret
        exact ⟨_, rfl, size3 t k ht, src_keep (unhide S4') (Nat.le_refl _) (fun j hj => rfl), grown_drewN (unhide G4) _⟩
    · go_wp2
      go_quiet (fail)
      go_wp2
      go_ret
      exact ⟨_, rfl, size2 t k _ ht, src_keep (unhide S3) (Nat.le_refl _) (fun j hj => rfl), grown_drewN (unhide G3) _⟩
end Go.Proofs.YtklakcnapdhcnaaDoor.Dr
/- What FnPasses draws: one of some texts, a few letters. -/
namespace Go.Proofs.YtklakcnapdhcnaaDoor.Dr
open Go.RowKit
set_option linter.unusedVariables false
set_option maxHeartbeats 2000000 in
set_option maxRecDepth 100000 in
theorem pick_any (w : World) (src : Nat) (a : Option Addr) (len cap : Nat) (size : Int) (b n c m : Nat) (hn : 0 < n) (hn2 : n ≤ 1000) (hl : len ≤ 1048576) (h : SrcAt w src a len cap size) (hb : b < w.heap.size) (hne : b ≠ src)
    (hc : ∀ i, i < n → ∃ t : ByteArray, w.cell? ⟨b, i, none⟩ = some (.string t) ∧ t.size ≤ m) :
    Calls Tryd.prog 23 #[.pointer (some ⟨src, 0, none⟩), .slice (some ⟨b, 0, none⟩) n c] w fun e w' => ∃ t : ByteArray, e = .returned (.string t) ∧ t.size ≤ m ∧ SrcAt w' src a len cap size ∧ w.grownBy w' (some src) := by
  have CN := hide (n_nat w src a len cap size (n : Int) (by omega) (by omega) hl h)
  have HC := hide hc
  clear h hc
  go_enter Tryd.func23, Tryd.ntmps23
  go_wp2_with fail
  refine (unhide CN).mono ?_
  rintro e w1 ⟨r, rfl, hr, hs, hg⟩
  have hr' : r < n := by omega
  have hr2 : (r : Int) < (n : Int) := by omega
  have hr0 : (0 : Int) ≤ (r : Int) := by omega
  obtain ⟨t, ht, hts⟩ := (unhide HC) r hr'
  have c1 : w1.cell? ⟨b, r, none⟩ = some (.string t) := (World.cell?_of_block (a := ⟨b, r, none⟩) (hg.block b hb (fun e => hne (by injection e)))).trans ht
  have S1 := hide hs
  have G1 := hide hg
  clear hs hg CN HC ht
  go_wp2
  go_ret
  exact ⟨t, rfl, hts, unhide S1, unhide G1⟩
theorem lit10 (w : World) (x y : ByteArray) (hx : x.size ≤ 4) (hy : y.size ≤ 4) : ∀ i, i < 10 → ∃ t : ByteArray, (w.alloc (.cells #[.string ⟨#[97]⟩, .string ⟨#[98]⟩, .string ⟨#[99]⟩, .string ⟨#[97]⟩, .string ⟨#[120]⟩, .string x, .string y, .string ⟨#[10]⟩, .string ⟨#[62]⟩, .string ⟨#[32]⟩] 9)).cell? ⟨w.heap.size, i, none⟩ = some (.string t) ∧ t.size ≤ 4 := by
  intro i hi
  have hh : (w.alloc (.cells #[.string ⟨#[97]⟩, .string ⟨#[98]⟩, .string ⟨#[99]⟩, .string ⟨#[97]⟩, .string ⟨#[120]⟩, .string x, .string y, .string ⟨#[10]⟩, .string ⟨#[62]⟩, .string ⟨#[32]⟩] 9)).heap[w.heap.size]? = some (.cells #[.string ⟨#[97]⟩, .string ⟨#[98]⟩, .string ⟨#[99]⟩, .string ⟨#[97]⟩, .string ⟨#[120]⟩, .string x, .string y, .string ⟨#[10]⟩, .string ⟨#[62]⟩, .string ⟨#[32]⟩] 9 (0, 0)) := Pas.heap_new w _
  have one : ∀ b : UInt8, (⟨#[b]⟩ : ByteArray).size ≤ 4 := fun b => by show 1 ≤ 4; omega
  obtain rfl | rfl | rfl | rfl | rfl | rfl | rfl | rfl | rfl | rfl : i = 0 ∨ i = 1 ∨ i = 2 ∨ i = 3 ∨ i = 4 ∨ i = 5 ∨ i = 6 ∨ i = 7 ∨ i = 8 ∨ i = 9 := by omega
  · exact ⟨_, by simp only [World.cell?, hh]; rfl, one _⟩
  · exact ⟨_, by simp only [World.cell?, hh]; rfl, one _⟩
  · exact ⟨_, by simp only [World.cell?, hh]; rfl, one _⟩
  · exact ⟨_, by simp only [World.cell?, hh]; rfl, one _⟩
  · exact ⟨_, by simp only [World.cell?, hh]; rfl, one _⟩
  · exact ⟨_, by simp only [World.cell?, hh]; rfl, hx⟩
  · exact ⟨_, by simp only [World.cell?, hh]; rfl, hy⟩
  · exact ⟨_, by simp only [World.cell?, hh]; rfl, one _⟩
  · exact ⟨_, by simp only [World.cell?, hh]; rfl, one _⟩
  · exact ⟨_, by simp only [World.cell?, hh]; rfl, one _⟩
theorem enc_le4 (p : Int) : (strOfNums (Lib.encodeRuneZ p)).size ≤ 4 := by
  have := textL_le [p]
  rw [strOfNums_size]
  simpa [textL] using this
set_option maxHeartbeats 4000000 in
set_option maxRecDepth 100000 in
theorem few_any (w : World) (src : Nat) (a : Option Addr) (len cap : Nat) (size : Int) (k : Nat) (hk : k ≤ 1) (hl : len ≤ 1048576) (h : SrcAt w src a len cap size) :
    Calls Tryd.prog 28 #[.pointer (some ⟨src, 0, none⟩), .int .i64 (k : Int)] w fun e w' => ∃ t : ByteArray, e = .returned (.string t) ∧ t.size ≤ 12 ∧ SrcAt w' src a len cap size ∧ w.grownBy w' (some src) := by
  have CN := hide (n_nat w src a len cap size 3 (by omega) (by omega) hl h)
  have hsrc := src_lt h
  clear h
  go_enter Tryd.func28, Tryd.ntmps28
  go_wp2_with fail
  refine (unhide CN).mono ?_
  rintro e w1 ⟨r, rfl, hr, hs, hg⟩
  obtain ⟨q, hq⟩ : ∃ q : Nat, k + r = q := ⟨_, rfl⟩
  have hq1 : (k : Int) + (r : Int) = (q : Int) := by omega
  have hq3 : q ≤ 3 := by omega
  have S1 := hide hs
  have G1 := hide hg
  clear hs hg CN hq
  go_wp2
  go_loopw [5, 6] (fun ov kv wr => ∃ (t : ByteArray) (j : Nat), ov = .string t ∧ kv = .int .i64 (j : Int) ∧ j ≤ q ∧ t.size ≤ 4 * (3 - j) ∧ Hid (SrcAt wr src a len cap size) ∧ Hid (w.grownBy wr (some src))) (fun _ kv _ => (intOf kv).toNat)
  case atStart => exact ⟨⟨#[]⟩, q, rfl, by first | rfl | rw [hq1], Nat.le_refl _, Nat.zero_le _, S1, G1⟩
  case round =>
    obtain ⟨t, j, rfl, rfl, hj, ht, S1, G1⟩ := hrel
    by_cases h0 : j = 0
    · subst h0
      go_wp2
      go_ret
      exact ⟨t, rfl, by omega, unhide S1, unhide G1⟩
    · have h0' : (0 : Int) < (j : Int) := by omega
      have W1 := hide (write_any 512 wr)
      go_wp2_with fail
      refine (unhide W1).mono ?_
      rintro e w2 ⟨rfl, hb⟩
      have hlt2 : src < w2.heap.size := Nat.lt_of_lt_of_le (src_lt (unhide S1)) hb.size
      replace S1 := hide (src_below (unhide S1) hb)
      replace G1 := hide (grown_bel (unhide G1) hb)
      have W2 := hide (write_any 4096 w2)
      clear hb W1
      go_wp2_with fail
      refine (unhide W2).mono ?_
      rintro e w3 ⟨rfl, hb⟩
      have hlt3 : src < w3.heap.size := Nat.lt_of_lt_of_le hlt2 hb.size
      replace S1 := hide (src_below (unhide S1) hb)
      replace G1 := hide (grown_bel (unhide G1) hb)
      clear hb W2 hlt2
      have hx := enc_le4 512
      have hy := enc_le4 4096
      generalize strOfNums (Lib.encodeRuneZ 512) = x at *
      generalize strOfNums (Lib.encodeRuneZ 4096) = y at *
      have LT := hide (lit10 w3 x y hx hy)
      obtain ⟨o, ho⟩ : ∃ o : Obj, o = .cells #[.string ⟨#[97]⟩, .string ⟨#[98]⟩, .string ⟨#[99]⟩, .string ⟨#[97]⟩, .string ⟨#[120]⟩, .string x, .string y, .string ⟨#[10]⟩, .string ⟨#[62]⟩, .string ⟨#[32]⟩] 9 := ⟨_, rfl⟩
      have CP := hide (pick_any (w3.alloc o) src a len cap size w3.heap.size 10 10 4 (by omega) (by omega) hl (src_alloc (unhide S1) o) (by simp) (by omega) (by rw [ho]; exact unhide LT))
      replace G1 := hide (grown_trans (unhide G1) (grown_alloc w3 o (some src)))
      subst ho
      clear LT S1
      go_wp2_with fail
      refine (unhide CP).mono ?_
      rintro e w4 ⟨u, rfl, hu, hs, hg⟩
      replace G1 := hide (grown_trans (unhide G1) hg)
      have S1 := hide hs
      clear hs hg CP
      have hsum : t.size + u.size ≤ 4 * (3 - (j - 1)) := by omega
      have hsz : (t ++ u).size ≤ 4 * (3 - (j - 1)) := by rw [ByteArray.size_append]; exact hsum
      obtain ⟨i, hi⟩ : ∃ i : Nat, j = i + 1 := ⟨j - 1, by omega⟩
      have hi1 : (j : Int) - 1 = (i : Int) := by omega
      have hji : j - 1 = i := by omega
      rw [hji] at hsum hsz
      go_wp2
      go_roundw
      case rel => exact ⟨t ++ u, i, rfl, by first | rfl | rw [hi1], by omega, hsz, S1, G1⟩
      case measure => simp [intOf]; omega
theorem long_stepZ {w wr w3 : World} {g cap : Nat} {v' : Value} {L Z : List Int} (hZ : ∀ x ∈ Z, 0 ≤ x ∧ x < 256) (hz : 0 < Z.length) (hb : Below w.heap.size w wr) (ho : wr.ownsRow w.heap.size 5 1 (.slice (some ⟨g, 0, none⟩) L.length cap) L.length (L.map (Value.int .u8)))
    (ho3 : w3.ownsRow w.heap.size 5 1 v' (L.length + (strOfNums Z).size) (L.map (Value.int .u8) ++ Lib.strCells (strOfNums Z))) (hg : wr.grownBy w3 (some g)) :
    ∃ g' cap', v' = .slice (some ⟨g', 0, none⟩) (L ++ Z).length cap' ∧ (L ++ Z).length ≤ cap' ∧ cap' ≤ maxLen ∧
      w3.ownsRow w.heap.size 5 1 (.slice (some ⟨g', 0, none⟩) (L ++ Z).length cap') (L ++ Z).length ((L ++ Z).map (Value.int .u8)) ∧ Below w.heap.size w w3 := by
  have hb3 : Below w.heap.size w w3 := hb.grown hg hb.size (fun k hk => by simp at hk; subst hk; exact (ho.lt g rfl).1)
  rw [strOfNums_size, strCells_nums Z hZ, ← List.map_append] at ho3
  have e1 : (L ++ Z).length = L.length + Z.length := by simp
  rw [e1]
  rcases ho3.2 with ⟨hv, h0⟩ | ⟨g', cap', cur, hv, hg', hh, hn', hm, hs, ht⟩
  · omega
  · exact ⟨g', cap', hv, by omega, hm, by rw [← hv]; exact ho3, hb3⟩
set_option maxRecDepth 100000 in
set_option maxHeartbeats 2000000 in
theorem longZ_any (w : World) (src : Nat) (N : Nat) (Z : List Int) (hZ : ∀ x ∈ Z, 0 ≤ x ∧ x < 256) (hz : 0 < Z.length) (hz4 : Z.length ≤ 4) (h0 : 0 < N) (hN : N ≤ 100000) :
    Calls Tryd.prog 30 #[.pointer (some ⟨src, 0, none⟩), .string (strOfNums Z), .int .i64 N] w fun e w' => ∃ s : ByteArray, e = .returned (.string s) ∧ s.size ≤ 100000 ∧ Below w.heap.size w w' := by
  obtain ⟨i0, hi, hz0, hz1, hz2⟩ := info_parts info5
  have HO0 : Hid ((w.alloc (.cells #[] 5)).ownsRow w.heap.size 5 1 (.slice (some ⟨w.heap.size, 0, none⟩) 0 0) ([] : List Int).length (([] : List Int).map (Value.int .u8))) := hide (World.ownsRow_lit w #[] 0 (Nat.le_refl _) (by unfold maxLen; omega) rfl)
  have HB0 : Hid (Below w.heap.size w (w.alloc (.cells #[] 5))) := hide ((Below.refl _ _).alloc (Nat.le_refl _) _)
  have ST := hide (fun wr w3 g cap v' L (hb : Below w.heap.size w wr) ho ho3 hg => long_stepZ (w := w) (wr := wr) (w3 := w3) (g := g) (cap := cap) (v' := v') (L := L) hZ hz hb ho ho3 hg)
  have HS := hide (strOfNums_size Z)
  obtain ⟨X, hX⟩ : ∃ X, X = strOfNums Z := ⟨_, rfl⟩
  rw [← hX] at ST HS ⊢
  clear hX hZ
  go_enter Tryd.func30, Tryd.ntmps30
  go_wp2
  go_loopw [7] (fun v wr => ∃ (L : List Int) (g cap : Nat), v = .slice (some ⟨g, 0, none⟩) L.length cap ∧ L.length ≤ N + 3 ∧ L.length ≤ cap ∧ cap ≤ maxLen ∧ Hid (wr.ownsRow w.heap.size 5 1 (.slice (some ⟨g, 0, none⟩) L.length cap) L.length (L.map (Value.int .u8))) ∧ Hid (Below w.heap.size w wr)) (fun v _ => N - lenOf v)
  case atStart => exact ⟨[], w.heap.size, 0, rfl, by simp, by simp, by unfold maxLen; omega, HO0, HB0⟩
  case round =>
    obtain ⟨L, g, cap, rfl, hL, hLc, hcm, HO, HB⟩ := hrel
    clear HO0 HB0
    unfold maxLen at hcm
    by_cases hlt : L.length < N
    · have hsz := (unhide HB).size
      go_wp2_with (at_builtin; refine Lib.wpList_append_own_string _ rfl _ _ 22 9 rfl w.heap.size 5 i0 Tryd.underlying22 Tryd.underlying9 hi hz0 hz1 hz2 _ _ _ rfl (unhide HO) _ rfl ?c1 ?c2 ?c3 ?_)
      case c1 => rw [unhide HS]; unfold maxLen; omega
      case c2 => rw [unhide HS]; omega
      case c3 => omega
      intro v' w3 hown' hgrow _
      have R := hide ((unhide ST) _ _ _ _ _ _ (unhide HB) (unhide HO) hown' hgrow)
      clear hown' hgrow
      obtain ⟨g', cap', hv', hc1, hc2, ho3, hb3⟩ := unhide R
      clear R
      have HO3 := hide ho3
      have HB3 := hide hb3
      have HL2 : Hid ((L ++ Z).length = L.length + Z.length) := hide (by simp)
      clear ho3 hb3
      subst hv'
      go_wp2
      go_roundw
      case rel => exact ⟨L ++ Z, g', cap', rfl, by rw [unhide HL2]; omega, hc1, hc2, HO3, HB3⟩
      case measure => simp [lenOf]; omega
    · have hge : N ≤ L.length := by omega
      have hcv := conv_pre wr g (cap) L N hge (unhide HO)
      go_wp2
      go_ret
      exact ⟨_, rfl, by rw [strOfNums_size]; simp; omega, unhide HB⟩
end Go.Proofs.YtklakcnapdhcnaaDoor.Dr
/- A rule more in one of the passes; another number in one of them. -/
namespace Go.Proofs.YtklakcnapdhcnaaDoor.Pas
open Go.RowKit
set_option linter.unusedVariables false
theorem gr_leftF (L : List Ru) (x : Ru) (i : Nat) (h : i < L.length) : gr (L ++ [x]) i = gr L i := by
  unfold gr
  rw [List.getD_eq_getElem?_getD, List.getD_eq_getElem?_getD, List.getElem?_append_left h]
theorem gr_lastF (L : List Ru) (x : Ru) : gr (L ++ [x]) L.length = x := by
  unfold gr
  rw [List.getD_eq_getElem?_getD, List.getElem?_append_right (Nat.le_refl _), Nat.sub_self]
  rfl
theorem Has.addF {xs : List Value} {L : List Ru} {r : Ru} (h : Has xs L L.length) (hl : xs.length = L.length * 5) : Has (xs ++ cells5 r) (L ++ [r]) (L ++ [r]).length := by
  intro i hi
  have hi' : i < L.length + 1 := by simpa using hi
  by_cases e : i < L.length
  · have := h i e
    rw [gr_leftF _ _ i e, List.getElem?_append_left (by omega), List.getElem?_append_left (by omega), List.getElem?_append_left (by omega), List.getElem?_append_left (by omega), List.getElem?_append_left (by omega)]
    exact this
  · obtain rfl : i = L.length := by omega
    rw [gr_lastF]
    have g : ∀ j, j < 5 → (xs ++ cells5 r)[L.length * 5 + j]? = (cells5 r)[j]? := fun j hj => by
      rw [List.getElem?_append_right (by omega), hl]; congr 1; omega
    refine ⟨?_, ?_, ?_, ?_, ?_⟩
    · have := g 0 (by omega); rw [Nat.add_zero] at this; rw [this]; rfl
    · rw [g 1 (by omega)]; rfl
    · rw [g 2 (by omega)]; rfl
    · rw [g 3 (by omega)]; rfl
    · rw [g 4 (by omega)]; rfl
theorem own_formF {w : World} {B : Nat} {e : TypeId} {s : Nat} {v : Value} {n : Nat} {xs : List Value} (h : w.ownsRow B e s v (n + 1) xs) : ∃ g cap, v = .slice (some ⟨g, 0, none⟩) (n + 1) cap := by
  rcases h.2 with ⟨_, h'⟩ | ⟨g, cap, cur, hv, _⟩
  · omega
  · exact ⟨g, cap, hv⟩
theorem step_appF {P : Program} {ops : Array Oper} {o : Oper} {a : Act} {w : World} {K : Act → World → Prop} {Q : Exit → Act → World → Prop} {E : Prop}
    (d : Option Tmp) (hd : o.dst = d) (hg : o.guard = none) (s x : Operand) (t : TypeId) (hop : o.op = Op.call { callee := Callee.builtin Builtin.append, args := #[s, x], argTypes := #[t, t] })
    (base : Nat) (e : TypeId) (i : TypeInfo) (z : Value) (size bytes : Nat) (ht : P.underlying t = some (.slice e)) (hi : P.info? e = some i) (hz : i.zero = some z)
    (hsize : i.size = size) (hby : i.bytes = bytes) (hzs : z.cells.size = size) (hsz : 0 < size)
    (v : Value) (n : Nat) (xs : List Value) (hs : a.eval s = v) (hown : w.ownsRow base e size v n xs)
    (ad : Addr) (m c : Nat) (news : List Value) (hx : a.eval x = .slice (some ad) m c) (hl : news.length = m * size) (hnews : ∀ j u, news[j]? = some u → w.cell? (ad.add j) = some u) (h1 : ∀ u ∈ news, u.oneCell' = true)
    (h63 : n + m ≤ maxLen) (hbytes : (n + m) * bytes ≤ 140737488355328) (hbase : base ≤ w.heap.size)
    (h : ∀ v' w', w'.ownsRow base e size v' (n + m) (xs ++ news) → w.grownBy w' v.ownBlock → (∀ k, v'.ownBlock = some k → v.ownBlock = some k ∨ w.heap.size ≤ k) → K (a.put d v') w') :
    if Region.wanted o (yielded ops a.tmps) = true then Oper.wp P o a w K Q else E := by
  subst hd
  have hw : Region.wanted o (yielded ops a.tmps) = true := by simp [Region.wanted, hg]
  rw [if_pos hw]
  obtain ⟨v', w', hr, h2, h3, h4⟩ := app_blockG (P := P) w t o.type e i z size bytes ht hi hz hsize hby hzs hsz base v n xs hown ad m c news hl hnews h1 h63 hbytes hbase
  unfold Oper.wp execOp
  simp only [hop, resolve, invoke, builtin, Sem.run_bind, Sem.run_pure, Result.andThen_ok, List.map_toArray, List.map_cons, List.map_nil, hs, hx, hr]
  exact h v' w' h2 h3 h4
theorem form_ownF {w : World} {B : Nat} {e : TypeId} {s : Nat} {v : Value} {n : Nat} {xs : List Value} (h : w.ownsRow B e s v n xs) : ∃ a cap, v = .slice a n cap := by
  rcases h.2 with ⟨h1, h2⟩ | ⟨g, cap, cur, hv, _⟩
  · exact ⟨none, 0, by rw [h1, h2]⟩
  · exact ⟨_, cap, hv⟩
def addA (P : List Pa) (m : Nat) (r : Ru) : List Pa := P.set m ((gp P m).1 ++ [r], (gp P m).2)
theorem addA_len {P : List Pa} {m : Nat} {r : Ru} : (addA P m r).length = P.length := by simp [addA]
theorem addA_at {P : List Pa} {m : Nat} (r : Ru) (h : m < P.length) : gp (addA P m r) m = ((gp P m).1 ++ [r], (gp P m).2) := by
  unfold addA gp
  simp [List.getD, h]
theorem addA_other {P : List Pa} {m i : Nat} (r : Ru) (h : ¬ i = m) : gp (addA P m r) i = gp P i := by
  unfold addA gp
  have : m ≠ i := fun e => h e.symm
  simp [List.getD, this]
def nrmA (P : List Pa) (z : Int) : List Pa := P.set 0 ((gp P 0).1, z)
theorem nrmA_len {P : List Pa} {z : Int} : (nrmA P z).length = P.length := by simp [nrmA]
theorem nrmA_at {P : List Pa} (z : Int) (h : 0 < P.length) : gp (nrmA P z) 0 = ((gp P 0).1, z) := by
  unfold nrmA gp
  simp [List.getD, h]
theorem nrmA_other {P : List Pa} {i : Nat} (z : Int) (h : ¬ i = 0) : gp (nrmA P z) i = gp P i := by
  unfold nrmA gp
  have : 0 ≠ i := fun e => h e.symm
  simp [List.getD, this]
/-- Another number in the first pass. -/
theorem pag_norm {lo hi n : Nat} {w : World} {v : Value} {P : List Pa} (h : PaG lo hi w v P) (hn : P.length = n) (hm : 0 < n) (hh : hi ≤ w.heap.size) :
    ∃ gv cap, v = .slice (some ⟨gv, 0, none⟩) n cap ∧ lo ≤ gv ∧ gv < w.heap.size ∧ (∃ x, w.cell? ⟨gv, 1, none⟩ = some x) ∧ w.frozen? ⟨gv, 1, none⟩ = false ∧ ∀ (w1 : World) (z : Int), (∀ k, lo ≤ k → k < w.heap.size → w1.heap[k]? = w.heap[k]?) → w.heap.size ≤ w1.heap.size → PaG lo w1.heap.size (w1.setCell ⟨gv, 1, none⟩ (.int .i64 z)) v (nrmA P z) := by
  have hX := h
  obtain ⟨gs, ys, h1, h2, h3, h4⟩ := h
  have h1' := h1
  rcases h1.2 with ⟨_, h'⟩ | ⟨gv, cap, cur, hv, hgl, _⟩
  · omega
  rw [hn] at hv
  have hgv := (h2 gv (by rw [hv]; rfl)).2
  have hgs := own_lt h1' (k := gv) (by rw [hv]; rfl)
  have hys : ys.length = P.length * 2 := h1.1
  obtain ⟨u0, c1, hu0, c2⟩ := h3 0 (by omega)
  have h1n : w.ownsRow lo 37 2 (.slice (some ⟨gv, 0, none⟩) n cap) n ys := by rw [← hv, ← hn]; exact h1'
  refine ⟨gv, cap, hv, hgs.1, hgs.2, ⟨_, (h1n.cellAt 1 (by omega)).trans c2⟩, h1n.frozenAt _, ?_⟩
  intro w1 z hb hs
  have hO2 : w1.ownsRow lo 37 2 v P.length ys := own_atP h1 (fun q hq => hb q (own_lt h1 hq).1 (own_lt h1 hq).2)
  refine ⟨gs, ys.set 1 (.int .i64 z), ?_, ?_, fun i hi' => ?_, ?_⟩
  · rw [nrmA_len]
    rw [hv, hn] at hO2 ⊢
    exact (hO2.stored 1 _).1
  · intro k hk'
    rw [nrmA_len]
    exact ⟨by have := (h2 k hk').1; omega, (h2 k hk').2⟩
  · rw [nrmA_len] at hi'
    obtain ⟨x, d1, hx', d2⟩ := h3 i hi'
    have hR : RuG lo w1.heap.size (w1.setCell ⟨gv, 1, none⟩ (.int .i64 z)) (gs i) x (gp P i).1 := (RuG.at hx' (fun q hq => by
      rw [heap_setCell_other w1 ⟨gv, 1, none⟩ q _ (by intro e; exact hgv i hi' (by rw [hq, show q = gv from e]))]
      exact hb q (hx'.lt hq).1 (hx'.lt hq).2.2)).up (by omega)
    by_cases c : i = 0
    · subst c
      rw [nrmA_at z hi']
      exact ⟨x, by rw [List.getElem?_set, if_neg (by omega)]; exact d1, hR, by rw [List.getElem?_set, if_pos rfl, if_pos (by omega)]⟩
    · rw [nrmA_other z c]
      exact ⟨x, by rw [List.getElem?_set, if_neg (by omega)]; exact d1, hR, by rw [List.getElem?_set, if_neg (by omega)]; exact d2⟩
  · intro i j k hi' hj' hij e e2
    rw [nrmA_len] at hi' hj'
    exact h4 i j k hi' hj' hij e e2
theorem pag_addA {lo hi n m : Nat} {w : World} {v : Value} {P : List Pa} (h : PaG lo hi w v P) (hn : P.length = n) (hm : m < n) (hh : hi ≤ w.heap.size) :
    ∃ gv cap u xs, v = .slice (some ⟨gv, 0, none⟩) n cap ∧ lo ≤ gv ∧ gv < w.heap.size ∧ w.cell? ⟨gv, m * 2, none⟩ = some u ∧ w.frozen? ⟨gv, m * 2, none⟩ = false ∧ (∃ a c, u = .slice a (gp P m).1.length c) ∧ xs.length = (gp P m).1.length * 5 ∧ w.ownsRow lo 40 5 u (gp P m).1.length xs ∧ u.ownBlock ≠ some gv ∧
      ∀ (w1 w2 : World) (u' : Value) (r : Ru), w.heap.size ≤ w1.heap.size → (∀ k, lo ≤ k → k < w.heap.size → w1.heap[k]? = w.heap[k]?) → w2.ownsRow lo 40 5 u' ((gp P m).1.length + 1) (xs ++ cells5 r) → w1.grownBy w2 u.ownBlock → (∀ k, u'.ownBlock = some k → u.ownBlock = some k ∨ w1.heap.size ≤ k) → PaG lo w2.heap.size (w2.setCell ⟨gv, m * 2, none⟩ u') v (addA P m r) := by
  obtain ⟨gs, ys, h1, h2, h3, h4⟩ := h
  have h1' := h1
  rcases h1.2 with ⟨_, h'⟩ | ⟨gv, cap, cur, hv, hgl, _⟩
  · omega
  rw [hn] at hv
  obtain ⟨u, c1, hu, c2⟩ := h3 m (by omega)
  have hgv := (h2 gv (by rw [hv]; rfl)).2
  have hgs := own_lt h1' (k := gv) (by rw [hv]; rfl)
  have hys : ys.length = P.length * 2 := h1.1
  have hown : ∃ xs, Has xs (gp P m).1 (gp P m).1.length ∧ w.ownsRow lo 40 5 u (gp P m).1.length xs ∧ u.ownBlock = gs m := by
    rcases hu with ⟨e1, e2, e3⟩ | ⟨b, c, xs, e1, e2, _, _, e3, e4⟩
    · rw [e1, e2, e3]
      exact ⟨[], fun i hi => by simp at hi, World.ownsRow_nil w _ _ _, rfl⟩
    · rw [e1, e2]
      exact ⟨xs, e3, e4, rfl⟩
  obtain ⟨xs, hx, ho, hub⟩ := hown
  have huv : u.ownBlock ≠ some gv := by rw [hub]; exact hgv m (by omega)
  have hgl2 : ∀ i k, i < P.length → gs i = some k → lo ≤ k ∧ k < hi ∧ k < w.heap.size := fun i k hi' e => by
    obtain ⟨u', _, hu', _⟩ := h3 i hi'
    exact hu'.lt e
  have h1n : w.ownsRow lo 37 2 (.slice (some ⟨gv, 0, none⟩) n cap) n ys := by rw [← hv, ← hn]; exact h1'
  have hfr : w.cell? ⟨gv, m * 2, none⟩ = some u := (h1n.cellAt (m * 2) (by omega)).trans c1
  refine ⟨gv, cap, u, xs, hv, hgs.1, hgs.2, hfr, h1n.frozenAt _, ?_, ho.1, ho, huv, ?_⟩
  · rcases ho.2 with ⟨e, hz⟩ | ⟨g, c, _, e, _⟩
    · exact ⟨_, _, by rw [e, hz]⟩
    · exact ⟨_, _, e⟩
  intro w1 w2 u' r hs1 hb ho' hg hk
  have hs2 := hg.size
  have hul : ∀ k, u'.ownBlock = some k → lo ≤ k ∧ k < w2.heap.size := fun k e => own_lt ho' e
  have hugv : u'.ownBlock ≠ some gv := fun e => by
    rcases hk gv e with e2 | e2
    · exact huv e2
    · omega
  have hblk : w2.heap[gv]? = w.heap[gv]? := (hg.block gv (by omega) (fun e => huv e.symm)).trans (hb gv hgs.1 hgs.2)
  have hO2 : w2.ownsRow lo 37 2 v P.length ys := own_atP h1 (fun q hq => by rw [hv] at hq; cases hq; exact hblk)
  refine ⟨fun i => if i = m then u'.ownBlock else gs i, ys.set (m * 2) u', ?_, ?_, fun i hi' => ?_, ?_⟩
  · rw [addA_len]
    rw [hv, hn] at hO2 ⊢
    exact (hO2.stored (m * 2) _).1
  · intro k hk'
    rw [hv] at hk'
    cases hk'
    refine ⟨by show gv < _; omega, fun i hi' => ?_⟩
    rw [addA_len] at hi'
    by_cases c : i = m
    · simp only [if_pos c]; exact hugv
    · simp only [if_neg c]; exact hgv i hi'
  · rw [addA_len] at hi'
    by_cases c : i = m
    · subst c
      simp only [↓reduceIte]
      rw [addA_at r (by omega)]
      refine ⟨u', ?_, ?_, ?_⟩
      · rw [List.getElem?_set, if_pos rfl, if_pos (by omega)]
      · have hX : RuX lo w2 u' ((gp P i).1 ++ [r]) := ⟨_, Has.addF hx ho.1, by rw [List.length_append]; exact ho'⟩
        exact (hX.at (w' := w2.setCell ⟨gv, i * 2, none⟩ u') (fun k e => heap_setCell_other w2 ⟨gv, i * 2, none⟩ k _ (by intro e2; exact hugv (by rw [e, show k = gv from e2])))).toG (Nat.le_refl _) (by simp)
      · rw [List.getElem?_set, if_neg (by omega)]; exact c2
    · simp only [if_neg c]
      rw [addA_other r c]
      obtain ⟨x, d1, hx', d2⟩ := h3 i hi'
      refine ⟨x, ?_, (RuG.at hx' (fun q hq => ?_)).up (by omega), ?_⟩
      · rw [List.getElem?_set, if_neg (by omega)]; exact d1
      · rw [heap_setCell_other w2 ⟨gv, m * 2, none⟩ q _ (by intro e; exact hgv i hi' (by rw [hq, show q = gv from e]))]
        have hq3 := (hx'.lt hq).2.2
        rw [hg.block q (by omega) (fun e3 => h4 i m q hi' (by omega) c hq (by rw [← hub]; exact e3.symm)), hb q (hx'.lt hq).1 hq3]
      · rw [List.getElem?_set, if_neg (by omega)]; exact d2
  · intro i j k hi' hj' hij e e2
    rw [addA_len] at hi' hj'
    simp only at e e2
    by_cases c : i = m
    · rw [if_pos c] at e
      rw [if_neg (fun d => hij (c.trans d.symm))] at e2
      have hj2 := hgl2 j k hj' e2
      rcases hk k e with e3 | e3
      · exact h4 m j k (by omega) hj' (fun d => hij (c.trans d)) (by rw [← hub]; exact e3) e2
      · omega
    · rw [if_neg c] at e
      by_cases d : j = m
      · rw [if_pos d] at e2
        have hi2 := hgl2 i k hi' e
        rcases hk k e2 with e3 | e3
        · exact h4 i m k hi' (by omega) c e (by rw [← hub]; exact e3)
        · omega
      · rw [if_neg d] at e2
        exact h4 i j k hi' hj' hij e e2
end Go.Proofs.YtklakcnapdhcnaaDoor.Pas
/- What FnPasses draws: passes (written by tools/genfpsd.py). -/
namespace Go.Proofs.YtklakcnapdhcnaaDoor.Dr
open Go.RowKit
set_option linter.unusedVariables false
/-- The source is one again, and nothing else below has changed. -/
structure Ps (w W : World) (src : Nat) (a : Option Addr) (len cap : Nat) (size : Int) : Prop where
  s0 : SrcAt w src a len cap size
  sr : SrcAt W src a len cap size
  gr : w.grownBy W (some src)
theorem Ps.lt {w W : World} {src : Nat} {a : Option Addr} {len cap : Nat} {size : Int} (h : Ps w W src a len cap size) : src < w.heap.size := src_lt h.s0
theorem Ps.draw {w W W' : World} {src : Nat} {a : Option Addr} {len cap : Nat} {size : Int} (h : Ps w W src a len cap size) (hs : SrcAt W' src a len cap size) (hg : W.grownBy W' (some src)) : Ps w W' src a len cap size := ⟨h.s0, hs, grown_trans h.gr hg⟩
theorem Ps.own {w W W' : World} {src : Nat} {a : Option Addr} {len cap : Nat} {size : Int} {r : Option Nat} (h : Ps w W src a len cap size) (hg : W.grownBy W' r) (hr : ∀ k, r = some k → w.heap.size ≤ k) : Ps w W' src a len cap size := by
  have hs := h.gr.size
  have hb : ∀ k, k < w.heap.size → W'.heap[k]? = W.heap[k]? := fun k hk => hg.block k (by omega) (fun e => by have := hr k e.symm; omega)
  refine ⟨h.s0, src_move h.sr (aIn_of h.s0) h.lt hg.size hb, hg.os.trans h.gr.os, hg.tape.trans h.gr.tape, hg.output.trans h.gr.output, by have := hg.size; omega, fun k hk hn => (hb k hk).trans (h.gr.block k hk hn)⟩
theorem pag_dr {lo hi : Nat} {W W' : World} {v : Value} {P : List Pas.Pa} {src : Nat} (h : Pas.PaG lo hi W v P) (hg : W.grownBy W' (some src)) (hs : src < lo) : Pas.PaG lo hi W' v P := h.at (fun k h1 _ h3 => hg.block k h3 (fun e => by injection e; omega))
theorem pag_ow {lo hi : Nat} {W W' : World} {v : Value} {P : List Pas.Pa} {r : Option Nat} (h : Pas.PaG lo hi W v P) (hg : W.grownBy W' r) (hr : ∀ k, r = some k → hi ≤ k) : Pas.PaG lo hi W' v P := h.at (fun k _ h2 h3 => hg.block k h3 (fun e => by have := hr k e.symm; omega))
theorem rux_ow {q : Nat} {W W' : World} {u : Value} {L : List Pas.Ru} {r : Option Nat} (h : Pas.RuX q W u L) (hg : W.grownBy W' r) (hr : ∀ k, r = some k → k < q ∨ u.ownBlock ≠ some k) : Pas.RuX q W' u L := h.at (fun k e => hg.block k (h.lt e).2 (fun e2 => by
  rcases hr k e2.symm with h1 | h1
  · have := (h.lt e).1; omega
  · exact h1 e))
/-- A pass under way: its box, and its rules. -/
structure Pi (w W : World) (src : Nat) (a : Option Addr) (len cap : Nat) (size : Int) (bp : Nat) (ov : Value) (P : List Pas.Pa) (u : Value) (g : Int) (L : List Pas.Ru) : Prop where
  ps : Ps w W src a len cap size
  pa : Pas.PaG w.heap.size bp W ov P
  bx : W.heap[bp]? = some (.cells #[u, .int .i64 g] 37 (0, 0))
  ru : Pas.RuX (bp + 1) W u L
  lo : w.heap.size ≤ bp
theorem Pi.lt {w W : World} {src : Nat} {a : Option Addr} {len cap : Nat} {size : Int} {bp : Nat} {ov : Value} {P : List Pas.Pa} {u : Value} {g : Int} {L : List Pas.Ru} (h : Pi w W src a len cap size bp ov P u g L) : bp < W.heap.size := (Array.getElem?_eq_some_iff.1 h.bx).1
theorem Pi.draw {w W W' : World} {src : Nat} {a : Option Addr} {len cap : Nat} {size : Int} {bp : Nat} {ov : Value} {P : List Pas.Pa} {u : Value} {g : Int} {L : List Pas.Ru} (h : Pi w W src a len cap size bp ov P u g L) (hs : SrcAt W' src a len cap size) (hg : W.grownBy W' (some src)) : Pi w W' src a len cap size bp ov P u g L := by
  have hl := h.ps.lt
  have hlo := h.lo
  exact ⟨h.ps.draw hs hg, pag_dr h.pa hg hl, (hg.block bp h.lt (fun e => by injection e; omega)).trans h.bx, rux_ow h.ru hg (fun k e => .inl (by injection e; omega)), h.lo⟩
theorem Pi.own {w W W' : World} {src : Nat} {a : Option Addr} {len cap : Nat} {size : Int} {bp : Nat} {ov : Value} {P : List Pas.Pa} {u : Value} {g : Int} {L : List Pas.Ru} {r : Option Nat} (h : Pi w W src a len cap size bp ov P u g L) (hg : W.grownBy W' r) (hr : ∀ k, r = some k → bp < k ∧ u.ownBlock ≠ some k) : Pi w W' src a len cap size bp ov P u g L := by
  have hlo := h.lo
  exact ⟨h.ps.own hg (fun k e => by have := (hr k e).1; omega), pag_ow h.pa hg (fun k e => by have := (hr k e).1; omega), (hg.block bp h.lt (fun e => by have := (hr bp e.symm).1; omega)).trans h.bx, rux_ow h.ru hg (fun k e => .inr (hr k e).2), h.lo⟩
/-- A rule under way: its box. -/
structure Pj (w W : World) (src : Nat) (a : Option Addr) (len cap : Nat) (size : Int) (bp : Nat) (ov : Value) (P : List Pas.Pa) (u : Value) (g : Int) (L : List Pas.Ru) (br : Nat) (x0 x1 x2 x3 : ByteArray) (z : Int) : Prop where
  pi : Pi w W src a len cap size bp ov P u g L
  rb : W.heap[br]? = some (.cells #[.string x0, .string x1, .string x2, .string x3, .int .i64 z] 40 (0, 0))
  rn : u.ownBlock ≠ some br
  rl : bp < br
  sz : x0.size ≤ 12 ∧ x1.size ≤ 12 ∧ x2.size ≤ 12 ∧ x3.size ≤ 12
section
variable {w W W' : World} {src : Nat} {a : Option Addr} {len cap : Nat} {size : Int} {bp : Nat} {ov : Value} {P : List Pas.Pa} {u : Value} {g : Int} {L : List Pas.Ru} {br : Nat} {x0 x1 x2 x3 : ByteArray} {z : Int}
theorem Pj.draw (h : Pj w W src a len cap size bp ov P u g L br x0 x1 x2 x3 z) (hs : SrcAt W' src a len cap size) (hg : W.grownBy W' (some src)) : Pj w W' src a len cap size bp ov P u g L br x0 x1 x2 x3 z := by
  have hl := h.pi.ps.lt
  have hlo := h.pi.lo
  have hrl := h.rl
  exact ⟨h.pi.draw hs hg, (hg.block br (Array.getElem?_eq_some_iff.1 h.rb).1 (fun e => by injection e; omega)).trans h.rb, h.rn, h.rl, h.sz⟩
theorem Pj.below (h : Pj w W src a len cap size bp ov P u g L br x0 x1 x2 x3 z) (hb : Below W.heap.size W W') : Pj w W' src a len cap size bp ov P u g L br x0 x1 x2 x3 z := by
  have hg : W.grownBy W' none := ⟨hb.os, hb.tape, hb.output, hb.size, fun k hk _ => hb.block k hk⟩
  exact ⟨h.pi.own hg (fun k e => by cases e), (hb.block br (Array.getElem?_eq_some_iff.1 h.rb).1).trans h.rb, h.rn, h.rl, h.sz⟩
theorem Pj.put (h : Pj w W src a len cap size bp ov P u g L br x0 x1 x2 x3 z) (j : Nat) (v : Value) (y0 y1 y2 y3 : ByteArray) (y : Int) (hv : (#[Value.string x0, .string x1, .string x2, .string x3, .int .i64 z] : Array Value).setIfInBounds j v = #[.string y0, .string y1, .string y2, .string y3, .int .i64 y]) (hy : y0.size ≤ 12 ∧ y1.size ≤ 12 ∧ y2.size ≤ 12 ∧ y3.size ≤ 12) :
    Pj w (W.setCell ⟨br, j, none⟩ v) src a len cap size bp ov P u g L br y0 y1 y2 y3 y := by
  have hk := heap_setCell_same W br j _ 40 v h.rb
  rw [hv] at hk
  exact ⟨h.pi.own grown_set (fun k e => by injection e with e; subst e; exact ⟨h.rl, h.rn⟩), hk, h.rn, h.rl, hy⟩
theorem Pi.rule (h : Pi w W src a len cap size bp ov P u g L) (x1 x3 : ByteArray) (h1 : x1.size ≤ 12) (h3 : x3.size ≤ 12) : Pj w (W.alloc (.cells #[.string ⟨#[]⟩, .string x1, .string ⟨#[]⟩, .string x3, .int .i64 0] 40)) src a len cap size bp ov P u g L W.heap.size ⟨#[]⟩ x1 ⟨#[]⟩ x3 0 := by
  refine ⟨h.own (grown_alloc W _ none) (fun k e => by cases e), Pas.heap_new W _, fun e => ?_, h.lt, Nat.zero_le _, h1, Nat.zero_le _, h3⟩
  have := (h.ru.lt e).2
  omega
end
theorem five_froz {w : World} {g : Nat} {a b c d e : Value} {T : TypeId} (h : w.heap[g]? = some (.cells #[a, b, c, d, e] T (0, 0))) (j : Nat) : w.frozen? ⟨g, j, none⟩ = false := by simp [World.frozen?, h]
/-- Take number i first; its temporary is told. -/
theorem tkF {P : Program} {ops : Array Oper} {Q : Exit → Act → World → Prop} {md : Region.Mode} {S : World → Prop} {i : Nat} {oi : Oper} {d : Option Tmp} {v : Value} {fuel : Nat} {listed : Array Bool} {a : Act} {w : World} (hi : ops[i]? = some oi) (hd : oi.dst = d)
    (hs : Region.noSelect ops = true) (hf : Region.free md ops listed i = true) (hr : (Region.ready md ops listed).contains i = true)
    (hQ : ∀ c a w, Q (.panic c) (a.put d v) w → Q (.panic c) a w) (hy : YieldsIf P ops S oi v a) (hS : S w)
    (h : wpAnyH P md ops Q S fuel (listed.setIfInBounds i true) (a.put d v) w) : wpAnyH P md ops Q S (fuel + 1) listed a w := by
  subst hd
  exact wpAnyH_take hi hs hf hr hQ hy hS h
theorem wrapF (x : Int) (h0 : 0 ≤ x) (h1 : x ≤ 1000000) : IntKind.i64.wrap x = x := by
  simp [IntKind.wrap, IntKind.signed, IntKind.bits]; omega
theorem long97 (w : World) (src N : Nat) (h0 : 0 < N) (hN : N ≤ 100000) :
    Calls Tryd.prog 30 #[.pointer (some ⟨src, 0, none⟩), .string ⟨#[97]⟩, .int .i64 N] w fun e w' => ∃ s : ByteArray, e = .returned (.string s) ∧ s.size ≤ 100000 ∧ Below w.heap.size w w' := by
  have := longZ_any w src N [97] (fun x hx => by simp at hx; omega) (by simp) (by simp) h0 hN
  have e : strOfNums [97] = (⟨#[97]⟩ : ByteArray) := by rfl
  rw [e] at this
  exact this
theorem ext_small {x : ByteArray} {r : Nat} (hx : x.size ≤ 100000) (hr : r ≤ 1) : Pas.sz1 (⟨#[]⟩, x, ⟨#[]⟩, (⟨#[255]⟩ : ByteArray).extract 0 r, 0) ≤ 262144 := by
  show 0 + x.size + 0 + ((⟨#[255]⟩ : ByteArray).extract 0 r).size ≤ 262144
  have : ((⟨#[255]⟩ : ByteArray).extract 0 r).size ≤ 1 := by
    rw [ByteArray.size_extract]
    show min r 1 - 0 ≤ 1
    omega
  omega
/-- Few and small. -/
def Sr (L : List Pas.Ru) (n : Nat) : Prop := L.length ≤ n ∧ ∀ j, j < L.length → Pas.sz1 (Pas.gr L j) ≤ 262144
def Sp (P : List Pas.Pa) (n : Nat) : Prop := P.length ≤ n ∧ ∀ i, i < P.length → Sr (Pas.gp P i).1 10
def Sf (P : List Pas.Pa) : Prop := ∀ i, i < P.length → Sr (Pas.gp P i).1 5
theorem Sf.snoc {P : List Pas.Pa} (h : Sf P) (p : Pas.Pa) (hp : Sr p.1 5) : Sf (P ++ [p]) := fun j hj => by
  by_cases c : j < P.length
  · rw [Pas.gp_left P p j c]; exact h j c
  · simp at hj
    obtain rfl : j = P.length := by omega
    rw [Pas.gp_last]; exact hp
theorem Sr.nil (n : Nat) : Sr [] n := ⟨Nat.zero_le _, fun j hj => by simp at hj⟩
theorem Sr.snoc {L : List Pas.Ru} {n : Nat} (h : Sr L n) (r : Pas.Ru) (hr : Pas.sz1 r ≤ 262144) : Sr (L ++ [r]) (n + 1) := by
  refine ⟨by simp; exact h.1, fun j hj => ?_⟩
  by_cases c : j < L.length
  · rw [Pas.gr_leftF L r j c]; exact h.2 j c
  · simp at hj
    obtain rfl : j = L.length := by omega
    rw [Pas.gr_lastF]; exact hr
theorem Sr.mono {L : List Pas.Ru} {n m : Nat} (h : Sr L n) (hm : n ≤ m) : Sr L m := ⟨Nat.le_trans h.1 hm, h.2⟩
theorem Sp.snoc {P : List Pas.Pa} {n : Nat} (h : Sp P n) (p : Pas.Pa) (hp : Sr p.1 10) : Sp (P ++ [p]) (n + 1) := by
  refine ⟨by simp; exact h.1, fun j hj => ?_⟩
  by_cases c : j < P.length
  · rw [Pas.gp_left P p j c]; exact h.2 j c
  · simp at hj
    obtain rfl : j = P.length := by omega
    rw [Pas.gp_last]; exact hp
theorem sp_norm {P : List Pas.Pa} {n : Nat} (h : Sp P n) (z : Int) (hn : n ≤ 20) : Sp (Pas.nrmA P z) 20 := by
  refine ⟨by rw [Pas.nrmA_len]; have := h.1; omega, fun i hi => ?_⟩
  rw [Pas.nrmA_len] at hi
  by_cases c : i = 0
  · subst c
    rw [Pas.nrmA_at z hi]
    exact h.2 0 hi
  · rw [Pas.nrmA_other z c]
    exact h.2 i hi
theorem sp_add {P : List Pas.Pa} {n : Nat} (h : Sp P n) (h5 : Sr (Pas.gp P 0).1 5) (r : Pas.Ru) (hr : Pas.sz1 r ≤ 262144) (hn : n ≤ 20) : Sp (Pas.addA P 0 r) 20 := by
  refine ⟨by rw [Pas.addA_len]; have := h.1; omega, fun i hi => ?_⟩
  rw [Pas.addA_len] at hi
  by_cases c : i = 0
  · subst c
    rw [Pas.addA_at r hi]
    exact (h5.snoc r hr).mono (by omega)
  · rw [Pas.addA_other r c]
    exact h.2 i hi
theorem small5 {x0 x1 x2 x3 : ByteArray} {z : Int} (h : x0.size ≤ 12 ∧ x1.size ≤ 12 ∧ x2.size ≤ 12 ∧ x3.size ≤ 12) : Pas.sz1 (x0, x1, x2, x3, z) ≤ 262144 := by
  obtain ⟨a, b, c, d⟩ := h
  show x0.size + x1.size + x2.size + x3.size ≤ 262144
  omega
set_option maxHeartbeats 16000000 in
set_option maxRecDepth 100000 in
theorem passes_any (w : World) (src : Nat) (a : Option Addr) (len cap : Nat) (size : Int) (hl : len ≤ 1048576) (h : SrcAt w src a len cap size) :
    Calls Tryd.prog 13 #[.pointer (some ⟨src, 0, none⟩)] w fun e w' => ∃ (v : Value) (P : List Pas.Pa), e = .returned v ∧ Pas.PaG w.heap.size w'.heap.size w' v P ∧ Sp P 20 ∧ SrcAt w' src a len cap size ∧ w.grownBy w' (some src) := by
  obtain ⟨i0, hi, hz0, hz1, hz2⟩ := info_parts Pas.infoWr
  obtain ⟨j0, hj, hy0, hy1, hy2⟩ := info_parts Pas.infoPass
  have Q0 : Ps w w src a len cap size := ⟨h, h, grown_refl _ _⟩
  have Q1 := hide (Q0.own (grown_alloc w (.cells #[] 37) none) (fun k e => by cases e))
  have G1 : Hid (Pas.PaG w.heap.size (w.alloc (.cells #[] 37)).heap.size (w.alloc (.cells #[] 37)) (.slice (some ⟨w.heap.size, 0, none⟩) 0 0) []) := hide ⟨fun _ => none, [], World.ownsRow_lit w #[] 0 (Nat.le_refl _) (by unfold maxLen; omega) rfl, fun k e => by cases e; exact ⟨by simp, fun i hi => by simp at hi⟩, fun i hi => by simp at hi, fun i j k hi => by simp at hi⟩
  have hsrc := Q0.lt
  have C4 := hide (n_nat (w.alloc (.cells #[] 37)) src a len cap size 4 (by omega) (by omega) hl (unhide Q1).sr)
  clear Q0 h
  go_enter Tryd.func13, Tryd.ntmps13
  go_wp2_with fail
  refine (unhide C4).mono ?_
  rintro e w1 ⟨r, rfl, hr, hs, hg⟩
  have G2 := hide ((pag_dr (unhide G1) hg hsrc).up hg.size)
  replace Q1 := hide ((unhide Q1).draw hs hg)
  clear hs hg C4 G1
  go_wp2
  go_loopw [3, 4] (fun ov kv wr => ∃ (P : List Pas.Pa) (k : Nat), kv = .int .i64 (k : Int) ∧ k ≤ 3 ∧ Hid (Sp P (3 - k)) ∧ Hid (Sf P) ∧ Hid (Pas.PaG w.heap.size wr.heap.size wr ov P) ∧ Hid (Ps w wr src a len cap size)) (fun _ kv _ => (intOf kv).toNat)
  case atStart => exact ⟨[], r, rfl, by omega, hide ⟨Nat.zero_le _, fun i hi => by simp at hi⟩, hide (fun i hi => by simp at hi), G2, Q1⟩
  case round =>
    obtain ⟨P, k, rfl, hk, HP, HF, HG, HQ⟩ := hrel
    clear G2 Q1
    by_cases hk0 : k = 0
    · subst hk0
      have C18 := hide (one_any wr src a len cap size 15 (by omega) (by omega) hl (unhide HQ).sr)
      obtain ⟨oa, oc, hoe⟩ := (unhide HG).pa.form
      subst hoe
      go_wp2_with fail
      refine (unhide C18).mono ?_
      rintro e w2 ⟨b, rfl, hs, hg⟩
      replace HG := hide ((pag_dr (unhide HG) hg hsrc).up hg.size)
      replace HQ := hide ((unhide HQ).draw hs hg)
      clear hs hg C18
      cases b with
      | false =>
        go_wp2
        go_ret
        exact ⟨_, P, rfl, unhide HG, ⟨by have := (unhide HP).1; omega, (unhide HP).2⟩, (unhide HQ).sr, (unhide HQ).gr⟩
      | true =>
        by_cases hP0 : P.length = 0
        · obtain rfl : P = [] := List.length_eq_zero_iff.1 hP0
          go_wp2
          go_ret
          exact ⟨_, [], rfl, unhide HG, ⟨Nat.zero_le _, (unhide HP).2⟩, (unhide HQ).sr, (unhide HQ).gr⟩
        have hP0' : (0 : Int) < (P.length : Int) := by omega
        have hP3 := (unhide HP).1
        have C19 := hide (n_nat w2 src a len cap size 5 (by omega) (by omega) hl (unhide HQ).sr)
        go_wp2_with fail
        refine (unhide C19).mono ?_
        rintro e w3 ⟨c, rfl, hc, hs, hg⟩
        replace HG := hide ((pag_dr (unhide HG) hg hsrc).up hg.size)
        replace HQ := hide ((unhide HQ).draw hs hg)
        clear hs hg C19
        have hlo := (unhide HQ).gr.size
        obtain rfl | rfl | rfl | rfl | rfl : c = 0 ∨ c = 1 ∨ c = 2 ∨ c = 3 ∨ c = 4 := by omega
        · obtain ⟨gv, gc, hve, hgl, hgs, ⟨x1, hx1⟩, hfz, HA'⟩ := Pas.pag_norm (unhide HG) rfl (by omega) (Nat.le_refl _)
          injection hve with e1 _ e3
          subst e1 e3
          have HA := hide HA'
          have CN := hide (n_idx w3 #[.int .i64 (-1), .int .i64 5] src a len cap size 2 (by omega) (by omega) hl (unhide HQ).sr (by intro i hi; match i, hi with | 0, _ => exact ⟨_, rfl⟩ | 1, _ => exact ⟨_, rfl⟩))
          clear HA'
          go_wp2_with fail
          refine (unhide CN).mono ?_
          rintro e w4 ⟨r, z, rfl, hr, hz, hs, hg⟩
          have hr0 : (0 : Int) ≤ (r : Int) := by omega
          have hr2 : (r : Int) < 2 := by omega
          have hb4 := hg.block gv hgs (fun e => by injection e; omega)
          have d1 : w4.cell? ⟨gv, 1, none⟩ = some x1 := (World.cell?_of_block (a := ⟨gv, 1, none⟩) hb4).trans hx1
          have d2 : w4.frozen? ⟨gv, 1, none⟩ = false := by rw [← hfz]; simp only [World.frozen?, hb4]
          have HG2 := hide ((unhide HA) w4 z (fun k h1 h2 => hg.block k h2 (fun e => by injection e; omega)) hg.size)
          have HQ2 := hide (((unhide HQ).draw hs hg).own (grown_set (src := gv) (j := 1) (u := .int .i64 z)) (fun k e => by injection e with e; omega))
          have HS2 : Hid (Sp (Pas.nrmA P z) 20) := hide (sp_norm (unhide HP) z (by omega))
          clear hs hg hb4 HA HQ CN HG
          go_wp2
          go_ret
          exact ⟨_, Pas.nrmA P z, rfl, by rw [World.size_setCell]; exact unhide HG2, unhide HS2, (unhide HQ2).sr, (unhide HQ2).gr⟩
        · obtain ⟨gv, gc, u, xs, hve, hgl, hgs, hcu, hfu, ⟨ua, uc, hue⟩, hxl, hown, huv, HA'⟩ := Pas.pag_addA (unhide HG) rfl (show 0 < P.length by omega) (Nat.le_refl _)
          injection hve with e1 _ e3
          subst e1 e3
          have HA := hide HA'
          have hul : ∀ k, u.ownBlock = some k → w.heap.size ≤ k ∧ k < w3.heap.size := fun k e => Pas.own_lt hown e
          have O2 := hide (Pas.own_atP (w' := w3.alloc (.cells #[.string ⟨#[]⟩, .string ⟨#[]⟩, .string ⟨#[]⟩, .string ⟨#[97]⟩, .int .i64 0] 40)) hown (fun n e => Below.heap_alloc _ _ _ (hul n e).2))
          have N5 := hide (Pas.five_new w3 (⟨#[]⟩, ⟨#[]⟩, ⟨#[]⟩, ⟨#[97]⟩, 0) 40)
          have PA := hide ((unhide HQ).own (grown_alloc w3 (.cells #[.string ⟨#[]⟩, .string ⟨#[]⟩, .string ⟨#[]⟩, .string ⟨#[97]⟩, .int .i64 0] 40) none) (fun k e => by cases e))
          have hlen := ((unhide HP).2 0 (by omega)).1
          have HS2 : Hid (Sp (Pas.addA P 0 (⟨#[]⟩, ⟨#[]⟩, ⟨#[]⟩, ⟨#[97]⟩, 0)) 20) := hide (sp_add (unhide HP) ((unhide HF) 0 (by omega)) _ (by decide) (by omega))
          subst hue
          simp only [Nat.zero_mul] at hcu hfu HA
          clear HA' hown HG HQ
          generalize (Pas.gp P 0).1.length = m at *
          go_wp2_with (at_builtin; refine wpList_appG _ rfl _ _ 35 rfl w.heap.size 40 i0 (.agg #[.string ⟨#[]⟩, .string ⟨#[]⟩, .string ⟨#[]⟩, .string ⟨#[]⟩, .int .i64 0]) 5 72 Tryd.underlying35 hi hz0 hz1 hz2 rfl (by decide) _ _ _ rfl (unhide O2) ⟨w3.heap.size, 0, none⟩ 1 1 (Pas.cells5 (⟨#[]⟩, ⟨#[]⟩, ⟨#[]⟩, ⟨#[97]⟩, 0)) ?g1 rfl ?g2 (Pas.five_one _) ?g3 ?g4 ?g5 ?_; (case g1 => rfl); (case g2 => exact unhide N5); (case g3 => unfold maxLen; omega); (case g4 => omega); (case g5 => (try simp); omega))
          intro v' w9 hown' hgrow hnew
          obtain ⟨g', cap', rfl⟩ := Pas.own_formF hown'
          have HG2 := hide ((unhide HA) (w3.alloc (.cells #[.string ⟨#[]⟩, .string ⟨#[]⟩, .string ⟨#[]⟩, .string ⟨#[97]⟩, .int .i64 0] 40)) w9 _ _ (by simp) (fun k _ hk => Below.heap_alloc _ _ _ hk) hown' hgrow (by intro n e; have := hnew n e; simpa using this))
          have hb9 := hgrow.block gv (by simp; omega) (fun e => huv e.symm)
          have hb8 : (w3.alloc (.cells #[.string ⟨#[]⟩, .string ⟨#[]⟩, .string ⟨#[]⟩, .string ⟨#[97]⟩, .int .i64 0] 40)).heap[gv]? = w3.heap[gv]? := Below.heap_alloc _ _ _ hgs
          have d1 : w9.cell? ⟨gv, 0, none⟩ = some (.slice ua m uc) := (World.cell?_of_block (a := ⟨gv, 0, none⟩) (hb9.trans hb8)).trans hcu
          have d2 : w9.frozen? ⟨gv, 0, none⟩ = false := by rw [← hfu]; simp only [World.frozen?, hb9, hb8]
          have HQ2 := hide (((unhide PA).own hgrow (fun k e => (hul k e).1)).own (grown_set (src := gv) (j := 0) (u := .slice (some ⟨g', 0, none⟩) (m + 1) cap')) (fun k e => by injection e with e; omega))
          clear hown' hgrow hnew HA PA O2 N5 hb9 hb8
          go_wp2
          go_ret
          exact ⟨_, _, rfl, by rw [World.size_setCell]; exact unhide HG2, unhide HS2, (unhide HQ2).sr, (unhide HQ2).gr⟩
        · obtain ⟨gv, gc, u, xs, hve, hgl, hgs, hcu, hfu, ⟨ua, uc, hue⟩, hxl, hown, huv, HA'⟩ := Pas.pag_addA (unhide HG) rfl (show 0 < P.length by omega) (Nat.le_refl _)
          injection hve with e1 _ e3
          subst e1 e3
          have HA := hide HA'
          have hul : ∀ k, u.ownBlock = some k → w.heap.size ≤ k ∧ k < w3.heap.size := fun k e => Pas.own_lt hown e
          have O1 := hide hown
          have hlen := ((unhide HP).2 0 (by omega)).1
          have SA := hide (fun r (hr : Pas.sz1 r ≤ 262144) => sp_add (unhide HP) ((unhide HF) 0 (by omega)) r hr (by omega))
          subst hue
          simp only [Nat.zero_mul] at hcu hfu HA
          clear HA' hown HG
          generalize (Pas.gp P 0).1.length = m at *
          go_upto_region 25 with fail
          have PW := hide ((unhide HQ).draw (W' := w3.drew) (src_below (unhide HQ).sr (Pas.drewB w3)) (grown_drew (grown_refl w3 (some src))))
          have BW : Hid (∀ k, w.heap.size ≤ k → k < w3.heap.size → w3.drew.heap[k]? = w3.heap[k]?) := hide (fun _ _ _ => rfl)
          have hsW : w3.heap.size ≤ w3.drew.heap.size := Nat.le_refl _
          refine wp_region_held_drew (S := fun _ => True) (by kernel_rfl) trivial (fun hHeld => ?_)
          generalize w3.drew = wd at *
          refine tkF (i := 0) (d := some 95) (v := ?_) rfl rfl (by kernel_rfl) (by kernel_rfl) (by kernel_rfl) (fun _ _ _ h => h) (Or.inl ⟨by rfl, ?_⟩) (by assumption) ?_
          rotate_left
          · intro w hSw; (try dsimp only at hSw); go_simp; try with_reducible rfl
          try simp only [Act.put, List.setIfInBounds_toArray, List.set_cons_zero, List.set_cons_succ]
          refine tkF (i := 1) (d := some 96) (v := ?_) rfl rfl (by kernel_rfl) (by kernel_rfl) (by kernel_rfl) (fun _ _ _ h => h) (Or.inl ⟨by rfl, ?_⟩) (by assumption) ?_
          rotate_left
          · intro w hSw; (try dsimp only at hSw); go_simp; try with_reducible rfl
          try simp only [Act.put, List.setIfInBounds_toArray, List.set_cons_zero, List.set_cons_succ]
          refine tkF (i := 2) (d := some 97) (v := ?_) rfl rfl (by kernel_rfl) (by kernel_rfl) (by kernel_rfl) (fun _ _ _ h => h) (Or.inl ⟨by rfl, ?_⟩) (by assumption) ?_
          rotate_left
          · intro w hSw; (try dsimp only at hSw); go_simp; try with_reducible rfl
          try simp only [Act.put, List.setIfInBounds_toArray, List.set_cons_zero, List.set_cons_succ]
          refine tkF (i := 3) (d := some 98) (v := ?_) rfl rfl (by kernel_rfl) (by kernel_rfl) (by kernel_rfl) (fun _ _ _ h => h) (Or.inl ⟨by rfl, ?_⟩) (by assumption) ?_
          rotate_left
          · intro w hSw; (try dsimp only at hSw); go_simp; try with_reducible rfl
          try simp only [Act.put, List.setIfInBounds_toArray, List.set_cons_zero, List.set_cons_succ]
          refine tkF (i := 6) (d := some 101) (v := ?_) rfl rfl (by kernel_rfl) (by kernel_rfl) (by kernel_rfl) (fun _ _ _ h => h) (Or.inl ⟨by rfl, ?_⟩) (by assumption) ?_
          rotate_left
          · intro w hSw; (try dsimp only at hSw); go_simp; try with_reducible rfl
          try simp only [Act.put, List.setIfInBounds_toArray, List.set_cons_zero, List.set_cons_succ]
          refine wpAnyH_ready (rs := [4, 5, 7]) (by kernel_rfl) (by simp) (AllReadyH.cons rfl (fun Kq hK => ?_) (AllReadyH.cons rfl (fun Kq hK => ?_) (AllReadyH.cons rfl (fun Kq hK => ?_) AllReadyH.nil)))
          · have cG : wd.cell? ⟨gv, 0, none⟩ = some (.slice ua m uc) := (World.cell?_of_block (a := ⟨gv, 0, none⟩) ((unhide BW) gv hgl hgs)).trans hcu
            go_simp
            refine hK.out _ _ trivial (fun hHeldZ => ?_)
            clear hK Kq
            try simp only [Act.put, List.setIfInBounds_toArray, List.set_cons_zero, List.set_cons_succ]
            clear cG
            refine wpAnyH_ready (rs := [5, 7]) (by kernel_rfl) (by simp) (AllReadyH.cons rfl (fun Kq hK => ?_) (AllReadyH.cons rfl (fun Kq hK => ?_) AllReadyH.nil))
            · have LB := hide (Pas.heap_new wd (.cells #[.int .i64 (-1), .int .i64 1, .int .i64 2] 2))
              replace PW := hide ((unhide PW).own (grown_alloc wd (.cells #[.int .i64 (-1), .int .i64 1, .int .i64 2] 2) none) (fun k e => by cases e))
              replace BW : Hid (∀ k, w.heap.size ≤ k → k < w3.heap.size → (wd.alloc (.cells #[.int .i64 (-1), .int .i64 1, .int .i64 2] 2)).heap[k]? = w3.heap[k]?) := hide (fun k h1 h2 => (Below.heap_alloc wd (.cells #[.int .i64 (-1), .int .i64 1, .int .i64 2] 2) k (by omega)).trans ((unhide BW) k h1 h2))
              have hsX : w3.heap.size ≤ (wd.alloc (.cells #[.int .i64 (-1), .int .i64 1, .int .i64 2] 2)).heap.size := by simp; omega
              have hsY : wd.heap.size < (wd.alloc (.cells #[.int .i64 (-1), .int .i64 1, .int .i64 2] 2)).heap.size := by simp
              go_simp
              generalize hnm : wd.heap.size = lb at *
              generalize hww : wd.alloc (.cells #[.int .i64 (-1), .int .i64 1, .int .i64 2] 2) = w5 at *
              have hlb := hsW
              clear hnm hww hsW
              have hsW := hsX
              clear hsX
              refine hK.out _ _ trivial (fun hHeldZ => ?_)
              clear hK Kq
              try simp only [Act.put, List.setIfInBounds_toArray, List.set_cons_zero, List.set_cons_succ]
              refine wpAnyH_ready (rs := [7]) (by kernel_rfl) (by simp) (AllReadyH.cons rfl (fun Kq hK => ?_) AllReadyH.nil)
              have CN := hide (n_nat w5 src a len cap size 3 (by omega) (by omega) hl (unhide PW).sr)
              go_simp
              go_at_call 21
              refine (unhide CN).mono ?_
              rintro e w6 ⟨r, rfl, hr, hs, hg⟩
              have hWl := (unhide PW).gr.size
              replace PW := hide ((unhide PW).draw hs hg)
              replace BW : Hid (∀ k, w.heap.size ≤ k → k < w3.heap.size → w6.heap[k]? = w3.heap[k]?) := hide (fun k h1 h2 => (hg.block k (by omega) (fun e => by injection e; omega)).trans ((unhide BW) k h1 h2))
              have hsX := hg.size
              replace LB := hide ((hg.block lb (by omega) (fun e => by injection e; omega)).trans (unhide LB))
              replace hsY : lb < w6.heap.size := by omega
              replace hsW : w3.heap.size ≤ w6.heap.size := by omega
              clear hs hg CN hsX hWl
              try go_wp2_with fail
              refine hK.out _ _ trivial (fun hHeldZ => ?_)
              clear hK Kq
              try simp only [Act.put, List.setIfInBounds_toArray, List.set_cons_zero, List.set_cons_succ]
              have hr0 : (0 : Int) ≤ (r : Int) := by omega
              have hr3 : (r : Int) < 3 := by omega
              refine tkF (i := 8) (d := some 103) (v := ?_) rfl rfl (by kernel_rfl) (by kernel_rfl) (by kernel_rfl) (fun _ _ _ h => h) (Or.inl ⟨by rfl, ?_⟩) (by assumption) ?_
              rotate_left
              · intro w hSw; (try dsimp only at hSw); go_simp; try with_reducible rfl
              try simp only [Act.put, List.setIfInBounds_toArray, List.set_cons_zero, List.set_cons_succ]
              refine wpAnyH_ready (rs := [9]) (by kernel_rfl) (by simp) (AllReadyH.cons rfl (fun Kq hK => ?_) AllReadyH.nil)
              obtain ⟨z, cz⟩ : ∃ z : Int, w6.cell? ⟨lb, r, none⟩ = some (.int .i64 z) := by
                have hl3 := unhide LB
                obtain rfl | rfl | rfl : r = 0 ∨ r = 1 ∨ r = 2 := by omega
                · exact ⟨_, by simp only [World.cell?, hl3]; rfl⟩
                · exact ⟨_, by simp only [World.cell?, hl3]; rfl⟩
                · exact ⟨_, by simp only [World.cell?, hl3]; rfl⟩
              go_simp
              refine hK.out _ _ trivial (fun hHeldZ => ?_)
              clear hK Kq
              try simp only [Act.put, List.setIfInBounds_toArray, List.set_cons_zero, List.set_cons_succ]
              refine tkF (i := 10) (d := some 105) (v := ?_) rfl rfl (by kernel_rfl) (by kernel_rfl) (by kernel_rfl) (fun _ _ _ h => h) (Or.inl ⟨by rfl, ?_⟩) (by assumption) ?_
              rotate_left
              · intro w hSw; (try dsimp only at hSw); go_simp; try with_reducible rfl
              try simp only [Act.put, List.setIfInBounds_toArray, List.set_cons_zero, List.set_cons_succ]
              refine wpAnyH_ready (rs := [11]) (by kernel_rfl) (by simp) (AllReadyH.cons rfl (fun Kq hK => ?_) AllReadyH.nil)
              have N5 := hide (Pas.five_new w6 (⟨#[]⟩, ⟨#[97]⟩, ⟨#[]⟩, ⟨#[97]⟩, z) 40)
              replace PW := hide ((unhide PW).own (grown_alloc w6 (.cells #[.string ⟨#[]⟩, .string ⟨#[97]⟩, .string ⟨#[]⟩, .string ⟨#[97]⟩, .int .i64 z] 40) none) (fun k e => by cases e))
              replace BW : Hid (∀ k, w.heap.size ≤ k → k < w3.heap.size → (w6.alloc (.cells #[.string ⟨#[]⟩, .string ⟨#[97]⟩, .string ⟨#[]⟩, .string ⟨#[97]⟩, .int .i64 z] 40)).heap[k]? = w3.heap[k]?) := hide (fun k h1 h2 => (Below.heap_alloc w6 (.cells #[.string ⟨#[]⟩, .string ⟨#[97]⟩, .string ⟨#[]⟩, .string ⟨#[97]⟩, .int .i64 z] 40) k (by omega)).trans ((unhide BW) k h1 h2))
              have hsX : w3.heap.size ≤ (w6.alloc (.cells #[.string ⟨#[]⟩, .string ⟨#[97]⟩, .string ⟨#[]⟩, .string ⟨#[97]⟩, .int .i64 z] 40)).heap.size := by simp; omega
              have hsY : w6.heap.size < (w6.alloc (.cells #[.string ⟨#[]⟩, .string ⟨#[97]⟩, .string ⟨#[]⟩, .string ⟨#[97]⟩, .int .i64 z] 40)).heap.size := by simp
              go_simp
              generalize hnm : w6.heap.size = rb at *
              generalize hww : w6.alloc (.cells #[.string ⟨#[]⟩, .string ⟨#[97]⟩, .string ⟨#[]⟩, .string ⟨#[97]⟩, .int .i64 z] 40) = w8 at *
              have hrb := hsW
              clear hnm hww hsW
              have hsW := hsX
              clear hsX
              refine hK.out _ _ trivial (fun hHeldZ => ?_)
              clear hK Kq
              try simp only [Act.put, List.setIfInBounds_toArray, List.set_cons_zero, List.set_cons_succ]
              have O2 := hide (Pas.own_atP (w' := w8) (unhide O1) (fun n e => (unhide BW) n (hul n e).1 (hul n e).2))
              have HS2 := hide ((unhide SA) (⟨#[]⟩, ⟨#[97]⟩, ⟨#[]⟩, ⟨#[97]⟩, z) (by show (0 : Nat) + 1 + 0 + 1 ≤ 262144; omega))
              refine wpAnyH_ready (rs := [12]) (by kernel_rfl) (by simp) (AllReadyH.cons rfl (fun Kq hK => ?_) AllReadyH.nil)
              refine Pas.step_appF (some 107) rfl rfl (.tmp 99) (.tmp 106) 35 rfl w.heap.size 40 i0 (.agg #[.string ⟨#[]⟩, .string ⟨#[]⟩, .string ⟨#[]⟩, .string ⟨#[]⟩, .int .i64 0]) 5 72 Tryd.underlying35 hi hz0 hz1 hz2 rfl (by decide) (.slice ua m uc) m xs (by rfl) (unhide O2) ⟨rb, 0, none⟩ 1 1 (Pas.cells5 (⟨#[]⟩, ⟨#[97]⟩, ⟨#[]⟩, ⟨#[97]⟩, z)) (by rfl) rfl (unhide N5) (Pas.five_one _) ?g3 ?g4 ?g5 ?_
              case g3 => unfold maxLen; omega
              case g4 => omega
              case g5 => omega
              intro v' w9 hown' hgrow hnew
              obtain ⟨g', cap', rfl⟩ := Pas.own_formF hown'
              have HG2 := hide ((unhide HA) w8 w9 _ (⟨#[]⟩, ⟨#[97]⟩, ⟨#[]⟩, ⟨#[97]⟩, z) hsW (unhide BW) hown' hgrow hnew)
              have hb9 : w9.heap[gv]? = w3.heap[gv]? := (hgrow.block gv (by omega) (fun e => huv e.symm)).trans ((unhide BW) gv hgl hgs)
              have d1 : w9.cell? ⟨gv, 0, none⟩ = some (.slice ua m uc) := (World.cell?_of_block (a := ⟨gv, 0, none⟩) hb9).trans hcu
              have d2 : w9.frozen? ⟨gv, 0, none⟩ = false := by rw [← hfu]; simp only [World.frozen?, hb9]
              have HQ2 := hide (((unhide PW).own hgrow (fun k e => (hul k e).1)).own (grown_set (src := gv) (j := 0) (u := .slice (some ⟨g', 0, none⟩) (m + 1) cap')) (fun k e => by injection e with e; omega))
              clear hown' hgrow hnew O2 hb9 BW PW HA
              refine hK.out _ _ trivial (fun hHeldZ => ?_)
              clear hK Kq
              try simp only [Act.put, List.setIfInBounds_toArray, List.set_cons_zero, List.set_cons_succ]
              refine tkF (i := 13) (d := some 108) (v := ?_) rfl rfl (by kernel_rfl) (by kernel_rfl) (by kernel_rfl) (fun _ _ _ h => h) (Or.inl ⟨by rfl, ?_⟩) (by assumption) ?_
              rotate_left
              · intro w hSw; (try dsimp only at hSw); go_simp; try with_reducible rfl
              try simp only [Act.put, List.setIfInBounds_toArray, List.set_cons_zero, List.set_cons_succ]
              refine tkF (i := 14) (d := some 109) (v := ?_) rfl rfl (by kernel_rfl) (by kernel_rfl) (by kernel_rfl) (fun _ _ _ h => h) (Or.inl ⟨by rfl, ?_⟩) (by assumption) ?_
              rotate_left
              · intro w hSw; (try dsimp only at hSw); go_simp; try with_reducible rfl
              try simp only [Act.put, List.setIfInBounds_toArray, List.set_cons_zero, List.set_cons_succ]
              refine wpAnyH_ready (rs := [15]) (by kernel_rfl) (by simp) (AllReadyH.cons rfl (fun Kq hK => ?_) AllReadyH.nil)
              go_simp
              refine hK.out _ _ trivial (fun hHeldZ => ?_)
              clear hK Kq
              try simp only [Act.put, List.setIfInBounds_toArray, List.set_cons_zero, List.set_cons_succ]
              refine wpAnyH_done (by kernel_rfl) ?_ _
              go_wp2
              go_ret
              exact ⟨_, _, rfl, by rw [World.size_setCell]; exact unhide HG2, unhide HS2, (unhide HQ2).sr, (unhide HQ2).gr⟩
            · have CN := hide (n_nat wd src a len cap size 3 (by omega) (by omega) hl (unhide PW).sr)
              go_simp
              go_at_call 21
              refine (unhide CN).mono ?_
              rintro e w5 ⟨r, rfl, hr, hs, hg⟩
              have hWl := (unhide PW).gr.size
              replace PW := hide ((unhide PW).draw hs hg)
              replace BW : Hid (∀ k, w.heap.size ≤ k → k < w3.heap.size → w5.heap[k]? = w3.heap[k]?) := hide (fun k h1 h2 => (hg.block k (by omega) (fun e => by injection e; omega)).trans ((unhide BW) k h1 h2))
              have hsX := hg.size
              replace hsW : w3.heap.size ≤ w5.heap.size := by omega
              clear hs hg CN hsX hWl
              try go_wp2_with fail
              refine hK.out _ _ trivial (fun hHeldZ => ?_)
              clear hK Kq
              try simp only [Act.put, List.setIfInBounds_toArray, List.set_cons_zero, List.set_cons_succ]
              refine wpAnyH_ready (rs := [5]) (by kernel_rfl) (by simp) (AllReadyH.cons rfl (fun Kq hK => ?_) AllReadyH.nil)
              have LB := hide (Pas.heap_new w5 (.cells #[.int .i64 (-1), .int .i64 1, .int .i64 2] 2))
              replace PW := hide ((unhide PW).own (grown_alloc w5 (.cells #[.int .i64 (-1), .int .i64 1, .int .i64 2] 2) none) (fun k e => by cases e))
              replace BW : Hid (∀ k, w.heap.size ≤ k → k < w3.heap.size → (w5.alloc (.cells #[.int .i64 (-1), .int .i64 1, .int .i64 2] 2)).heap[k]? = w3.heap[k]?) := hide (fun k h1 h2 => (Below.heap_alloc w5 (.cells #[.int .i64 (-1), .int .i64 1, .int .i64 2] 2) k (by omega)).trans ((unhide BW) k h1 h2))
              have hsX : w3.heap.size ≤ (w5.alloc (.cells #[.int .i64 (-1), .int .i64 1, .int .i64 2] 2)).heap.size := by simp; omega
              have hsY : w5.heap.size < (w5.alloc (.cells #[.int .i64 (-1), .int .i64 1, .int .i64 2] 2)).heap.size := by simp
              go_simp
              generalize hnm : w5.heap.size = lb at *
              generalize hww : w5.alloc (.cells #[.int .i64 (-1), .int .i64 1, .int .i64 2] 2) = w6 at *
              have hlb := hsW
              clear hnm hww hsW
              have hsW := hsX
              clear hsX
              refine hK.out _ _ trivial (fun hHeldZ => ?_)
              clear hK Kq
              try simp only [Act.put, List.setIfInBounds_toArray, List.set_cons_zero, List.set_cons_succ]
              have hr0 : (0 : Int) ≤ (r : Int) := by omega
              have hr3 : (r : Int) < 3 := by omega
              refine tkF (i := 8) (d := some 103) (v := ?_) rfl rfl (by kernel_rfl) (by kernel_rfl) (by kernel_rfl) (fun _ _ _ h => h) (Or.inl ⟨by rfl, ?_⟩) (by assumption) ?_
              rotate_left
              · intro w hSw; (try dsimp only at hSw); go_simp; try with_reducible rfl
              try simp only [Act.put, List.setIfInBounds_toArray, List.set_cons_zero, List.set_cons_succ]
              refine wpAnyH_ready (rs := [9]) (by kernel_rfl) (by simp) (AllReadyH.cons rfl (fun Kq hK => ?_) AllReadyH.nil)
              obtain ⟨z, cz⟩ : ∃ z : Int, w6.cell? ⟨lb, r, none⟩ = some (.int .i64 z) := by
                have hl3 := unhide LB
                obtain rfl | rfl | rfl : r = 0 ∨ r = 1 ∨ r = 2 := by omega
                · exact ⟨_, by simp only [World.cell?, hl3]; rfl⟩
                · exact ⟨_, by simp only [World.cell?, hl3]; rfl⟩
                · exact ⟨_, by simp only [World.cell?, hl3]; rfl⟩
              go_simp
              refine hK.out _ _ trivial (fun hHeldZ => ?_)
              clear hK Kq
              try simp only [Act.put, List.setIfInBounds_toArray, List.set_cons_zero, List.set_cons_succ]
              refine tkF (i := 10) (d := some 105) (v := ?_) rfl rfl (by kernel_rfl) (by kernel_rfl) (by kernel_rfl) (fun _ _ _ h => h) (Or.inl ⟨by rfl, ?_⟩) (by assumption) ?_
              rotate_left
              · intro w hSw; (try dsimp only at hSw); go_simp; try with_reducible rfl
              try simp only [Act.put, List.setIfInBounds_toArray, List.set_cons_zero, List.set_cons_succ]
              refine wpAnyH_ready (rs := [11]) (by kernel_rfl) (by simp) (AllReadyH.cons rfl (fun Kq hK => ?_) AllReadyH.nil)
              have N5 := hide (Pas.five_new w6 (⟨#[]⟩, ⟨#[97]⟩, ⟨#[]⟩, ⟨#[97]⟩, z) 40)
              replace PW := hide ((unhide PW).own (grown_alloc w6 (.cells #[.string ⟨#[]⟩, .string ⟨#[97]⟩, .string ⟨#[]⟩, .string ⟨#[97]⟩, .int .i64 z] 40) none) (fun k e => by cases e))
              replace BW : Hid (∀ k, w.heap.size ≤ k → k < w3.heap.size → (w6.alloc (.cells #[.string ⟨#[]⟩, .string ⟨#[97]⟩, .string ⟨#[]⟩, .string ⟨#[97]⟩, .int .i64 z] 40)).heap[k]? = w3.heap[k]?) := hide (fun k h1 h2 => (Below.heap_alloc w6 (.cells #[.string ⟨#[]⟩, .string ⟨#[97]⟩, .string ⟨#[]⟩, .string ⟨#[97]⟩, .int .i64 z] 40) k (by omega)).trans ((unhide BW) k h1 h2))
              have hsX : w3.heap.size ≤ (w6.alloc (.cells #[.string ⟨#[]⟩, .string ⟨#[97]⟩, .string ⟨#[]⟩, .string ⟨#[97]⟩, .int .i64 z] 40)).heap.size := by simp; omega
              have hsY : w6.heap.size < (w6.alloc (.cells #[.string ⟨#[]⟩, .string ⟨#[97]⟩, .string ⟨#[]⟩, .string ⟨#[97]⟩, .int .i64 z] 40)).heap.size := by simp
              go_simp
              generalize hnm : w6.heap.size = rb at *
              generalize hww : w6.alloc (.cells #[.string ⟨#[]⟩, .string ⟨#[97]⟩, .string ⟨#[]⟩, .string ⟨#[97]⟩, .int .i64 z] 40) = w8 at *
              have hrb := hsW
              clear hnm hww hsW
              have hsW := hsX
              clear hsX
              refine hK.out _ _ trivial (fun hHeldZ => ?_)
              clear hK Kq
              try simp only [Act.put, List.setIfInBounds_toArray, List.set_cons_zero, List.set_cons_succ]
              have O2 := hide (Pas.own_atP (w' := w8) (unhide O1) (fun n e => (unhide BW) n (hul n e).1 (hul n e).2))
              have HS2 := hide ((unhide SA) (⟨#[]⟩, ⟨#[97]⟩, ⟨#[]⟩, ⟨#[97]⟩, z) (by show (0 : Nat) + 1 + 0 + 1 ≤ 262144; omega))
              refine wpAnyH_ready (rs := [12]) (by kernel_rfl) (by simp) (AllReadyH.cons rfl (fun Kq hK => ?_) AllReadyH.nil)
              refine Pas.step_appF (some 107) rfl rfl (.tmp 99) (.tmp 106) 35 rfl w.heap.size 40 i0 (.agg #[.string ⟨#[]⟩, .string ⟨#[]⟩, .string ⟨#[]⟩, .string ⟨#[]⟩, .int .i64 0]) 5 72 Tryd.underlying35 hi hz0 hz1 hz2 rfl (by decide) (.slice ua m uc) m xs (by rfl) (unhide O2) ⟨rb, 0, none⟩ 1 1 (Pas.cells5 (⟨#[]⟩, ⟨#[97]⟩, ⟨#[]⟩, ⟨#[97]⟩, z)) (by rfl) rfl (unhide N5) (Pas.five_one _) ?g3 ?g4 ?g5 ?_
              case g3 => unfold maxLen; omega
              case g4 => omega
              case g5 => omega
              intro v' w9 hown' hgrow hnew
              obtain ⟨g', cap', rfl⟩ := Pas.own_formF hown'
              have HG2 := hide ((unhide HA) w8 w9 _ (⟨#[]⟩, ⟨#[97]⟩, ⟨#[]⟩, ⟨#[97]⟩, z) hsW (unhide BW) hown' hgrow hnew)
              have hb9 : w9.heap[gv]? = w3.heap[gv]? := (hgrow.block gv (by omega) (fun e => huv e.symm)).trans ((unhide BW) gv hgl hgs)
              have d1 : w9.cell? ⟨gv, 0, none⟩ = some (.slice ua m uc) := (World.cell?_of_block (a := ⟨gv, 0, none⟩) hb9).trans hcu
              have d2 : w9.frozen? ⟨gv, 0, none⟩ = false := by rw [← hfu]; simp only [World.frozen?, hb9]
              have HQ2 := hide (((unhide PW).own hgrow (fun k e => (hul k e).1)).own (grown_set (src := gv) (j := 0) (u := .slice (some ⟨g', 0, none⟩) (m + 1) cap')) (fun k e => by injection e with e; omega))
              clear hown' hgrow hnew O2 hb9 BW PW HA
              refine hK.out _ _ trivial (fun hHeldZ => ?_)
              clear hK Kq
              try simp only [Act.put, List.setIfInBounds_toArray, List.set_cons_zero, List.set_cons_succ]
              refine tkF (i := 13) (d := some 108) (v := ?_) rfl rfl (by kernel_rfl) (by kernel_rfl) (by kernel_rfl) (fun _ _ _ h => h) (Or.inl ⟨by rfl, ?_⟩) (by assumption) ?_
              rotate_left
              · intro w hSw; (try dsimp only at hSw); go_simp; try with_reducible rfl
              try simp only [Act.put, List.setIfInBounds_toArray, List.set_cons_zero, List.set_cons_succ]
              refine tkF (i := 14) (d := some 109) (v := ?_) rfl rfl (by kernel_rfl) (by kernel_rfl) (by kernel_rfl) (fun _ _ _ h => h) (Or.inl ⟨by rfl, ?_⟩) (by assumption) ?_
              rotate_left
              · intro w hSw; (try dsimp only at hSw); go_simp; try with_reducible rfl
              try simp only [Act.put, List.setIfInBounds_toArray, List.set_cons_zero, List.set_cons_succ]
              refine wpAnyH_ready (rs := [15]) (by kernel_rfl) (by simp) (AllReadyH.cons rfl (fun Kq hK => ?_) AllReadyH.nil)
              go_simp
              refine hK.out _ _ trivial (fun hHeldZ => ?_)
              clear hK Kq
              try simp only [Act.put, List.setIfInBounds_toArray, List.set_cons_zero, List.set_cons_succ]
              refine wpAnyH_done (by kernel_rfl) ?_ _
              go_wp2
              go_ret
              exact ⟨_, _, rfl, by rw [World.size_setCell]; exact unhide HG2, unhide HS2, (unhide HQ2).sr, (unhide HQ2).gr⟩
          · have LB := hide (Pas.heap_new wd (.cells #[.int .i64 (-1), .int .i64 1, .int .i64 2] 2))
            replace PW := hide ((unhide PW).own (grown_alloc wd (.cells #[.int .i64 (-1), .int .i64 1, .int .i64 2] 2) none) (fun k e => by cases e))
            replace BW : Hid (∀ k, w.heap.size ≤ k → k < w3.heap.size → (wd.alloc (.cells #[.int .i64 (-1), .int .i64 1, .int .i64 2] 2)).heap[k]? = w3.heap[k]?) := hide (fun k h1 h2 => (Below.heap_alloc wd (.cells #[.int .i64 (-1), .int .i64 1, .int .i64 2] 2) k (by omega)).trans ((unhide BW) k h1 h2))
            have hsX : w3.heap.size ≤ (wd.alloc (.cells #[.int .i64 (-1), .int .i64 1, .int .i64 2] 2)).heap.size := by simp; omega
            have hsY : wd.heap.size < (wd.alloc (.cells #[.int .i64 (-1), .int .i64 1, .int .i64 2] 2)).heap.size := by simp
            go_simp
            generalize hnm : wd.heap.size = lb at *
            generalize hww : wd.alloc (.cells #[.int .i64 (-1), .int .i64 1, .int .i64 2] 2) = w4 at *
            have hlb := hsW
            clear hnm hww hsW
            have hsW := hsX
            clear hsX
            refine hK.out _ _ trivial (fun hHeldZ => ?_)
            clear hK Kq
            try simp only [Act.put, List.setIfInBounds_toArray, List.set_cons_zero, List.set_cons_succ]
            refine wpAnyH_ready (rs := [4, 7]) (by kernel_rfl) (by simp) (AllReadyH.cons rfl (fun Kq hK => ?_) (AllReadyH.cons rfl (fun Kq hK => ?_) AllReadyH.nil))
            · have cG : w4.cell? ⟨gv, 0, none⟩ = some (.slice ua m uc) := (World.cell?_of_block (a := ⟨gv, 0, none⟩) ((unhide BW) gv hgl hgs)).trans hcu
              go_simp
              refine hK.out _ _ trivial (fun hHeldZ => ?_)
              clear hK Kq
              try simp only [Act.put, List.setIfInBounds_toArray, List.set_cons_zero, List.set_cons_succ]
              clear cG
              refine wpAnyH_ready (rs := [7]) (by kernel_rfl) (by simp) (AllReadyH.cons rfl (fun Kq hK => ?_) AllReadyH.nil)
              have CN := hide (n_nat w4 src a len cap size 3 (by omega) (by omega) hl (unhide PW).sr)
              go_simp
              go_at_call 21
              refine (unhide CN).mono ?_
              rintro e w6 ⟨r, rfl, hr, hs, hg⟩
              have hWl := (unhide PW).gr.size
              replace PW := hide ((unhide PW).draw hs hg)
              replace BW : Hid (∀ k, w.heap.size ≤ k → k < w3.heap.size → w6.heap[k]? = w3.heap[k]?) := hide (fun k h1 h2 => (hg.block k (by omega) (fun e => by injection e; omega)).trans ((unhide BW) k h1 h2))
              have hsX := hg.size
              replace LB := hide ((hg.block lb (by omega) (fun e => by injection e; omega)).trans (unhide LB))
              replace hsY : lb < w6.heap.size := by omega
              replace hsW : w3.heap.size ≤ w6.heap.size := by omega
              clear hs hg CN hsX hWl
              try go_wp2_with fail
              refine hK.out _ _ trivial (fun hHeldZ => ?_)
              clear hK Kq
              try simp only [Act.put, List.setIfInBounds_toArray, List.set_cons_zero, List.set_cons_succ]
              have hr0 : (0 : Int) ≤ (r : Int) := by omega
              have hr3 : (r : Int) < 3 := by omega
              refine tkF (i := 8) (d := some 103) (v := ?_) rfl rfl (by kernel_rfl) (by kernel_rfl) (by kernel_rfl) (fun _ _ _ h => h) (Or.inl ⟨by rfl, ?_⟩) (by assumption) ?_
              rotate_left
              · intro w hSw; (try dsimp only at hSw); go_simp; try with_reducible rfl
              try simp only [Act.put, List.setIfInBounds_toArray, List.set_cons_zero, List.set_cons_succ]
              refine wpAnyH_ready (rs := [9]) (by kernel_rfl) (by simp) (AllReadyH.cons rfl (fun Kq hK => ?_) AllReadyH.nil)
              obtain ⟨z, cz⟩ : ∃ z : Int, w6.cell? ⟨lb, r, none⟩ = some (.int .i64 z) := by
                have hl3 := unhide LB
                obtain rfl | rfl | rfl : r = 0 ∨ r = 1 ∨ r = 2 := by omega
                · exact ⟨_, by simp only [World.cell?, hl3]; rfl⟩
                · exact ⟨_, by simp only [World.cell?, hl3]; rfl⟩
                · exact ⟨_, by simp only [World.cell?, hl3]; rfl⟩
              go_simp
              refine hK.out _ _ trivial (fun hHeldZ => ?_)
              clear hK Kq
              try simp only [Act.put, List.setIfInBounds_toArray, List.set_cons_zero, List.set_cons_succ]
              refine tkF (i := 10) (d := some 105) (v := ?_) rfl rfl (by kernel_rfl) (by kernel_rfl) (by kernel_rfl) (fun _ _ _ h => h) (Or.inl ⟨by rfl, ?_⟩) (by assumption) ?_
              rotate_left
              · intro w hSw; (try dsimp only at hSw); go_simp; try with_reducible rfl
              try simp only [Act.put, List.setIfInBounds_toArray, List.set_cons_zero, List.set_cons_succ]
              refine wpAnyH_ready (rs := [11]) (by kernel_rfl) (by simp) (AllReadyH.cons rfl (fun Kq hK => ?_) AllReadyH.nil)
              have N5 := hide (Pas.five_new w6 (⟨#[]⟩, ⟨#[97]⟩, ⟨#[]⟩, ⟨#[97]⟩, z) 40)
              replace PW := hide ((unhide PW).own (grown_alloc w6 (.cells #[.string ⟨#[]⟩, .string ⟨#[97]⟩, .string ⟨#[]⟩, .string ⟨#[97]⟩, .int .i64 z] 40) none) (fun k e => by cases e))
              replace BW : Hid (∀ k, w.heap.size ≤ k → k < w3.heap.size → (w6.alloc (.cells #[.string ⟨#[]⟩, .string ⟨#[97]⟩, .string ⟨#[]⟩, .string ⟨#[97]⟩, .int .i64 z] 40)).heap[k]? = w3.heap[k]?) := hide (fun k h1 h2 => (Below.heap_alloc w6 (.cells #[.string ⟨#[]⟩, .string ⟨#[97]⟩, .string ⟨#[]⟩, .string ⟨#[97]⟩, .int .i64 z] 40) k (by omega)).trans ((unhide BW) k h1 h2))
              have hsX : w3.heap.size ≤ (w6.alloc (.cells #[.string ⟨#[]⟩, .string ⟨#[97]⟩, .string ⟨#[]⟩, .string ⟨#[97]⟩, .int .i64 z] 40)).heap.size := by simp; omega
              have hsY : w6.heap.size < (w6.alloc (.cells #[.string ⟨#[]⟩, .string ⟨#[97]⟩, .string ⟨#[]⟩, .string ⟨#[97]⟩, .int .i64 z] 40)).heap.size := by simp
              go_simp
              generalize hnm : w6.heap.size = rb at *
              generalize hww : w6.alloc (.cells #[.string ⟨#[]⟩, .string ⟨#[97]⟩, .string ⟨#[]⟩, .string ⟨#[97]⟩, .int .i64 z] 40) = w8 at *
              have hrb := hsW
              clear hnm hww hsW
              have hsW := hsX
              clear hsX
              refine hK.out _ _ trivial (fun hHeldZ => ?_)
              clear hK Kq
              try simp only [Act.put, List.setIfInBounds_toArray, List.set_cons_zero, List.set_cons_succ]
              have O2 := hide (Pas.own_atP (w' := w8) (unhide O1) (fun n e => (unhide BW) n (hul n e).1 (hul n e).2))
              have HS2 := hide ((unhide SA) (⟨#[]⟩, ⟨#[97]⟩, ⟨#[]⟩, ⟨#[97]⟩, z) (by show (0 : Nat) + 1 + 0 + 1 ≤ 262144; omega))
              refine wpAnyH_ready (rs := [12]) (by kernel_rfl) (by simp) (AllReadyH.cons rfl (fun Kq hK => ?_) AllReadyH.nil)
              refine Pas.step_appF (some 107) rfl rfl (.tmp 99) (.tmp 106) 35 rfl w.heap.size 40 i0 (.agg #[.string ⟨#[]⟩, .string ⟨#[]⟩, .string ⟨#[]⟩, .string ⟨#[]⟩, .int .i64 0]) 5 72 Tryd.underlying35 hi hz0 hz1 hz2 rfl (by decide) (.slice ua m uc) m xs (by rfl) (unhide O2) ⟨rb, 0, none⟩ 1 1 (Pas.cells5 (⟨#[]⟩, ⟨#[97]⟩, ⟨#[]⟩, ⟨#[97]⟩, z)) (by rfl) rfl (unhide N5) (Pas.five_one _) ?g3 ?g4 ?g5 ?_
              case g3 => unfold maxLen; omega
              case g4 => omega
              case g5 => omega
              intro v' w9 hown' hgrow hnew
              obtain ⟨g', cap', rfl⟩ := Pas.own_formF hown'
              have HG2 := hide ((unhide HA) w8 w9 _ (⟨#[]⟩, ⟨#[97]⟩, ⟨#[]⟩, ⟨#[97]⟩, z) hsW (unhide BW) hown' hgrow hnew)
              have hb9 : w9.heap[gv]? = w3.heap[gv]? := (hgrow.block gv (by omega) (fun e => huv e.symm)).trans ((unhide BW) gv hgl hgs)
              have d1 : w9.cell? ⟨gv, 0, none⟩ = some (.slice ua m uc) := (World.cell?_of_block (a := ⟨gv, 0, none⟩) hb9).trans hcu
              have d2 : w9.frozen? ⟨gv, 0, none⟩ = false := by rw [← hfu]; simp only [World.frozen?, hb9]
              have HQ2 := hide (((unhide PW).own hgrow (fun k e => (hul k e).1)).own (grown_set (src := gv) (j := 0) (u := .slice (some ⟨g', 0, none⟩) (m + 1) cap')) (fun k e => by injection e with e; omega))
              clear hown' hgrow hnew O2 hb9 BW PW HA
              refine hK.out _ _ trivial (fun hHeldZ => ?_)
              clear hK Kq
              try simp only [Act.put, List.setIfInBounds_toArray, List.set_cons_zero, List.set_cons_succ]
              refine tkF (i := 13) (d := some 108) (v := ?_) rfl rfl (by kernel_rfl) (by kernel_rfl) (by kernel_rfl) (fun _ _ _ h => h) (Or.inl ⟨by rfl, ?_⟩) (by assumption) ?_
              rotate_left
              · intro w hSw; (try dsimp only at hSw); go_simp; try with_reducible rfl
              try simp only [Act.put, List.setIfInBounds_toArray, List.set_cons_zero, List.set_cons_succ]
              refine tkF (i := 14) (d := some 109) (v := ?_) rfl rfl (by kernel_rfl) (by kernel_rfl) (by kernel_rfl) (fun _ _ _ h => h) (Or.inl ⟨by rfl, ?_⟩) (by assumption) ?_
              rotate_left
              · intro w hSw; (try dsimp only at hSw); go_simp; try with_reducible rfl
              try simp only [Act.put, List.setIfInBounds_toArray, List.set_cons_zero, List.set_cons_succ]
              refine wpAnyH_ready (rs := [15]) (by kernel_rfl) (by simp) (AllReadyH.cons rfl (fun Kq hK => ?_) AllReadyH.nil)
              go_simp
              refine hK.out _ _ trivial (fun hHeldZ => ?_)
              clear hK Kq
              try simp only [Act.put, List.setIfInBounds_toArray, List.set_cons_zero, List.set_cons_succ]
              refine wpAnyH_done (by kernel_rfl) ?_ _
              go_wp2
              go_ret
              exact ⟨_, _, rfl, by rw [World.size_setCell]; exact unhide HG2, unhide HS2, (unhide HQ2).sr, (unhide HQ2).gr⟩
            · have CN := hide (n_nat w4 src a len cap size 3 (by omega) (by omega) hl (unhide PW).sr)
              go_simp
              go_at_call 21
              refine (unhide CN).mono ?_
              rintro e w5 ⟨r, rfl, hr, hs, hg⟩
              have hWl := (unhide PW).gr.size
              replace PW := hide ((unhide PW).draw hs hg)
              replace BW : Hid (∀ k, w.heap.size ≤ k → k < w3.heap.size → w5.heap[k]? = w3.heap[k]?) := hide (fun k h1 h2 => (hg.block k (by omega) (fun e => by injection e; omega)).trans ((unhide BW) k h1 h2))
              have hsX := hg.size
              replace LB := hide ((hg.block lb (by omega) (fun e => by injection e; omega)).trans (unhide LB))
              replace hsY : lb < w5.heap.size := by omega
              replace hsW : w3.heap.size ≤ w5.heap.size := by omega
              clear hs hg CN hsX hWl
              try go_wp2_with fail
              refine hK.out _ _ trivial (fun hHeldZ => ?_)
              clear hK Kq
              try simp only [Act.put, List.setIfInBounds_toArray, List.set_cons_zero, List.set_cons_succ]
              have hr0 : (0 : Int) ≤ (r : Int) := by omega
              have hr3 : (r : Int) < 3 := by omega
              refine tkF (i := 8) (d := some 103) (v := ?_) rfl rfl (by kernel_rfl) (by kernel_rfl) (by kernel_rfl) (fun _ _ _ h => h) (Or.inl ⟨by rfl, ?_⟩) (by assumption) ?_
              rotate_left
              · intro w hSw; (try dsimp only at hSw); go_simp; try with_reducible rfl
              try simp only [Act.put, List.setIfInBounds_toArray, List.set_cons_zero, List.set_cons_succ]
              refine wpAnyH_ready (rs := [4, 9]) (by kernel_rfl) (by simp) (AllReadyH.cons rfl (fun Kq hK => ?_) (AllReadyH.cons rfl (fun Kq hK => ?_) AllReadyH.nil))
              · have cG : w5.cell? ⟨gv, 0, none⟩ = some (.slice ua m uc) := (World.cell?_of_block (a := ⟨gv, 0, none⟩) ((unhide BW) gv hgl hgs)).trans hcu
                go_simp
                refine hK.out _ _ trivial (fun hHeldZ => ?_)
                clear hK Kq
                try simp only [Act.put, List.setIfInBounds_toArray, List.set_cons_zero, List.set_cons_succ]
                clear cG
                refine wpAnyH_ready (rs := [9]) (by kernel_rfl) (by simp) (AllReadyH.cons rfl (fun Kq hK => ?_) AllReadyH.nil)
                obtain ⟨z, cz⟩ : ∃ z : Int, w5.cell? ⟨lb, r, none⟩ = some (.int .i64 z) := by
                  have hl3 := unhide LB
                  obtain rfl | rfl | rfl : r = 0 ∨ r = 1 ∨ r = 2 := by omega
                  · exact ⟨_, by simp only [World.cell?, hl3]; rfl⟩
                  · exact ⟨_, by simp only [World.cell?, hl3]; rfl⟩
                  · exact ⟨_, by simp only [World.cell?, hl3]; rfl⟩
                go_simp
                refine hK.out _ _ trivial (fun hHeldZ => ?_)
                clear hK Kq
                try simp only [Act.put, List.setIfInBounds_toArray, List.set_cons_zero, List.set_cons_succ]
                refine tkF (i := 10) (d := some 105) (v := ?_) rfl rfl (by kernel_rfl) (by kernel_rfl) (by kernel_rfl) (fun _ _ _ h => h) (Or.inl ⟨by rfl, ?_⟩) (by assumption) ?_
                rotate_left
                · intro w hSw; (try dsimp only at hSw); go_simp; try with_reducible rfl
                try simp only [Act.put, List.setIfInBounds_toArray, List.set_cons_zero, List.set_cons_succ]
                refine wpAnyH_ready (rs := [11]) (by kernel_rfl) (by simp) (AllReadyH.cons rfl (fun Kq hK => ?_) AllReadyH.nil)
                have N5 := hide (Pas.five_new w5 (⟨#[]⟩, ⟨#[97]⟩, ⟨#[]⟩, ⟨#[97]⟩, z) 40)
                replace PW := hide ((unhide PW).own (grown_alloc w5 (.cells #[.string ⟨#[]⟩, .string ⟨#[97]⟩, .string ⟨#[]⟩, .string ⟨#[97]⟩, .int .i64 z] 40) none) (fun k e => by cases e))
                replace BW : Hid (∀ k, w.heap.size ≤ k → k < w3.heap.size → (w5.alloc (.cells #[.string ⟨#[]⟩, .string ⟨#[97]⟩, .string ⟨#[]⟩, .string ⟨#[97]⟩, .int .i64 z] 40)).heap[k]? = w3.heap[k]?) := hide (fun k h1 h2 => (Below.heap_alloc w5 (.cells #[.string ⟨#[]⟩, .string ⟨#[97]⟩, .string ⟨#[]⟩, .string ⟨#[97]⟩, .int .i64 z] 40) k (by omega)).trans ((unhide BW) k h1 h2))
                have hsX : w3.heap.size ≤ (w5.alloc (.cells #[.string ⟨#[]⟩, .string ⟨#[97]⟩, .string ⟨#[]⟩, .string ⟨#[97]⟩, .int .i64 z] 40)).heap.size := by simp; omega
                have hsY : w5.heap.size < (w5.alloc (.cells #[.string ⟨#[]⟩, .string ⟨#[97]⟩, .string ⟨#[]⟩, .string ⟨#[97]⟩, .int .i64 z] 40)).heap.size := by simp
                go_simp
                generalize hnm : w5.heap.size = rb at *
                generalize hww : w5.alloc (.cells #[.string ⟨#[]⟩, .string ⟨#[97]⟩, .string ⟨#[]⟩, .string ⟨#[97]⟩, .int .i64 z] 40) = w8 at *
                have hrb := hsW
                clear hnm hww hsW
                have hsW := hsX
                clear hsX
                refine hK.out _ _ trivial (fun hHeldZ => ?_)
                clear hK Kq
                try simp only [Act.put, List.setIfInBounds_toArray, List.set_cons_zero, List.set_cons_succ]
                have O2 := hide (Pas.own_atP (w' := w8) (unhide O1) (fun n e => (unhide BW) n (hul n e).1 (hul n e).2))
                have HS2 := hide ((unhide SA) (⟨#[]⟩, ⟨#[97]⟩, ⟨#[]⟩, ⟨#[97]⟩, z) (by show (0 : Nat) + 1 + 0 + 1 ≤ 262144; omega))
                refine wpAnyH_ready (rs := [12]) (by kernel_rfl) (by simp) (AllReadyH.cons rfl (fun Kq hK => ?_) AllReadyH.nil)
                refine Pas.step_appF (some 107) rfl rfl (.tmp 99) (.tmp 106) 35 rfl w.heap.size 40 i0 (.agg #[.string ⟨#[]⟩, .string ⟨#[]⟩, .string ⟨#[]⟩, .string ⟨#[]⟩, .int .i64 0]) 5 72 Tryd.underlying35 hi hz0 hz1 hz2 rfl (by decide) (.slice ua m uc) m xs (by rfl) (unhide O2) ⟨rb, 0, none⟩ 1 1 (Pas.cells5 (⟨#[]⟩, ⟨#[97]⟩, ⟨#[]⟩, ⟨#[97]⟩, z)) (by rfl) rfl (unhide N5) (Pas.five_one _) ?g3 ?g4 ?g5 ?_
                case g3 => unfold maxLen; omega
                case g4 => omega
                case g5 => omega
                intro v' w9 hown' hgrow hnew
                obtain ⟨g', cap', rfl⟩ := Pas.own_formF hown'
                have HG2 := hide ((unhide HA) w8 w9 _ (⟨#[]⟩, ⟨#[97]⟩, ⟨#[]⟩, ⟨#[97]⟩, z) hsW (unhide BW) hown' hgrow hnew)
                have hb9 : w9.heap[gv]? = w3.heap[gv]? := (hgrow.block gv (by omega) (fun e => huv e.symm)).trans ((unhide BW) gv hgl hgs)
                have d1 : w9.cell? ⟨gv, 0, none⟩ = some (.slice ua m uc) := (World.cell?_of_block (a := ⟨gv, 0, none⟩) hb9).trans hcu
                have d2 : w9.frozen? ⟨gv, 0, none⟩ = false := by rw [← hfu]; simp only [World.frozen?, hb9]
                have HQ2 := hide (((unhide PW).own hgrow (fun k e => (hul k e).1)).own (grown_set (src := gv) (j := 0) (u := .slice (some ⟨g', 0, none⟩) (m + 1) cap')) (fun k e => by injection e with e; omega))
                clear hown' hgrow hnew O2 hb9 BW PW HA
                refine hK.out _ _ trivial (fun hHeldZ => ?_)
                clear hK Kq
                try simp only [Act.put, List.setIfInBounds_toArray, List.set_cons_zero, List.set_cons_succ]
                refine tkF (i := 13) (d := some 108) (v := ?_) rfl rfl (by kernel_rfl) (by kernel_rfl) (by kernel_rfl) (fun _ _ _ h => h) (Or.inl ⟨by rfl, ?_⟩) (by assumption) ?_
                rotate_left
                · intro w hSw; (try dsimp only at hSw); go_simp; try with_reducible rfl
                try simp only [Act.put, List.setIfInBounds_toArray, List.set_cons_zero, List.set_cons_succ]
                refine tkF (i := 14) (d := some 109) (v := ?_) rfl rfl (by kernel_rfl) (by kernel_rfl) (by kernel_rfl) (fun _ _ _ h => h) (Or.inl ⟨by rfl, ?_⟩) (by assumption) ?_
                rotate_left
                · intro w hSw; (try dsimp only at hSw); go_simp; try with_reducible rfl
                try simp only [Act.put, List.setIfInBounds_toArray, List.set_cons_zero, List.set_cons_succ]
                refine wpAnyH_ready (rs := [15]) (by kernel_rfl) (by simp) (AllReadyH.cons rfl (fun Kq hK => ?_) AllReadyH.nil)
                go_simp
                refine hK.out _ _ trivial (fun hHeldZ => ?_)
                clear hK Kq
                try simp only [Act.put, List.setIfInBounds_toArray, List.set_cons_zero, List.set_cons_succ]
                refine wpAnyH_done (by kernel_rfl) ?_ _
                go_wp2
                go_ret
                exact ⟨_, _, rfl, by rw [World.size_setCell]; exact unhide HG2, unhide HS2, (unhide HQ2).sr, (unhide HQ2).gr⟩
              · obtain ⟨z, cz⟩ : ∃ z : Int, w5.cell? ⟨lb, r, none⟩ = some (.int .i64 z) := by
                  have hl3 := unhide LB
                  obtain rfl | rfl | rfl : r = 0 ∨ r = 1 ∨ r = 2 := by omega
                  · exact ⟨_, by simp only [World.cell?, hl3]; rfl⟩
                  · exact ⟨_, by simp only [World.cell?, hl3]; rfl⟩
                  · exact ⟨_, by simp only [World.cell?, hl3]; rfl⟩
                go_simp
                refine hK.out _ _ trivial (fun hHeldZ => ?_)
                clear hK Kq
                try simp only [Act.put, List.setIfInBounds_toArray, List.set_cons_zero, List.set_cons_succ]
                refine tkF (i := 10) (d := some 105) (v := ?_) rfl rfl (by kernel_rfl) (by kernel_rfl) (by kernel_rfl) (fun _ _ _ h => h) (Or.inl ⟨by rfl, ?_⟩) (by assumption) ?_
                rotate_left
                · intro w hSw; (try dsimp only at hSw); go_simp; try with_reducible rfl
                try simp only [Act.put, List.setIfInBounds_toArray, List.set_cons_zero, List.set_cons_succ]
                refine wpAnyH_ready (rs := [4, 11]) (by kernel_rfl) (by simp) (AllReadyH.cons rfl (fun Kq hK => ?_) (AllReadyH.cons rfl (fun Kq hK => ?_) AllReadyH.nil))
                · have cG : w5.cell? ⟨gv, 0, none⟩ = some (.slice ua m uc) := (World.cell?_of_block (a := ⟨gv, 0, none⟩) ((unhide BW) gv hgl hgs)).trans hcu
                  go_simp
                  refine hK.out _ _ trivial (fun hHeldZ => ?_)
                  clear hK Kq
                  try simp only [Act.put, List.setIfInBounds_toArray, List.set_cons_zero, List.set_cons_succ]
                  clear cG
                  refine wpAnyH_ready (rs := [11]) (by kernel_rfl) (by simp) (AllReadyH.cons rfl (fun Kq hK => ?_) AllReadyH.nil)
                  have N5 := hide (Pas.five_new w5 (⟨#[]⟩, ⟨#[97]⟩, ⟨#[]⟩, ⟨#[97]⟩, z) 40)
                  replace PW := hide ((unhide PW).own (grown_alloc w5 (.cells #[.string ⟨#[]⟩, .string ⟨#[97]⟩, .string ⟨#[]⟩, .string ⟨#[97]⟩, .int .i64 z] 40) none) (fun k e => by cases e))
                  replace BW : Hid (∀ k, w.heap.size ≤ k → k < w3.heap.size → (w5.alloc (.cells #[.string ⟨#[]⟩, .string ⟨#[97]⟩, .string ⟨#[]⟩, .string ⟨#[97]⟩, .int .i64 z] 40)).heap[k]? = w3.heap[k]?) := hide (fun k h1 h2 => (Below.heap_alloc w5 (.cells #[.string ⟨#[]⟩, .string ⟨#[97]⟩, .string ⟨#[]⟩, .string ⟨#[97]⟩, .int .i64 z] 40) k (by omega)).trans ((unhide BW) k h1 h2))
                  have hsX : w3.heap.size ≤ (w5.alloc (.cells #[.string ⟨#[]⟩, .string ⟨#[97]⟩, .string ⟨#[]⟩, .string ⟨#[97]⟩, .int .i64 z] 40)).heap.size := by simp; omega
                  have hsY : w5.heap.size < (w5.alloc (.cells #[.string ⟨#[]⟩, .string ⟨#[97]⟩, .string ⟨#[]⟩, .string ⟨#[97]⟩, .int .i64 z] 40)).heap.size := by simp
                  go_simp
                  generalize hnm : w5.heap.size = rb at *
                  generalize hww : w5.alloc (.cells #[.string ⟨#[]⟩, .string ⟨#[97]⟩, .string ⟨#[]⟩, .string ⟨#[97]⟩, .int .i64 z] 40) = w8 at *
                  have hrb := hsW
                  clear hnm hww hsW
                  have hsW := hsX
                  clear hsX
                  refine hK.out _ _ trivial (fun hHeldZ => ?_)
                  clear hK Kq
                  try simp only [Act.put, List.setIfInBounds_toArray, List.set_cons_zero, List.set_cons_succ]
                  have O2 := hide (Pas.own_atP (w' := w8) (unhide O1) (fun n e => (unhide BW) n (hul n e).1 (hul n e).2))
                  have HS2 := hide ((unhide SA) (⟨#[]⟩, ⟨#[97]⟩, ⟨#[]⟩, ⟨#[97]⟩, z) (by show (0 : Nat) + 1 + 0 + 1 ≤ 262144; omega))
                  refine wpAnyH_ready (rs := [12]) (by kernel_rfl) (by simp) (AllReadyH.cons rfl (fun Kq hK => ?_) AllReadyH.nil)
                  refine Pas.step_appF (some 107) rfl rfl (.tmp 99) (.tmp 106) 35 rfl w.heap.size 40 i0 (.agg #[.string ⟨#[]⟩, .string ⟨#[]⟩, .string ⟨#[]⟩, .string ⟨#[]⟩, .int .i64 0]) 5 72 Tryd.underlying35 hi hz0 hz1 hz2 rfl (by decide) (.slice ua m uc) m xs (by rfl) (unhide O2) ⟨rb, 0, none⟩ 1 1 (Pas.cells5 (⟨#[]⟩, ⟨#[97]⟩, ⟨#[]⟩, ⟨#[97]⟩, z)) (by rfl) rfl (unhide N5) (Pas.five_one _) ?g3 ?g4 ?g5 ?_
                  case g3 => unfold maxLen; omega
                  case g4 => omega
                  case g5 => omega
                  intro v' w9 hown' hgrow hnew
                  obtain ⟨g', cap', rfl⟩ := Pas.own_formF hown'
                  have HG2 := hide ((unhide HA) w8 w9 _ (⟨#[]⟩, ⟨#[97]⟩, ⟨#[]⟩, ⟨#[97]⟩, z) hsW (unhide BW) hown' hgrow hnew)
                  have hb9 : w9.heap[gv]? = w3.heap[gv]? := (hgrow.block gv (by omega) (fun e => huv e.symm)).trans ((unhide BW) gv hgl hgs)
                  have d1 : w9.cell? ⟨gv, 0, none⟩ = some (.slice ua m uc) := (World.cell?_of_block (a := ⟨gv, 0, none⟩) hb9).trans hcu
                  have d2 : w9.frozen? ⟨gv, 0, none⟩ = false := by rw [← hfu]; simp only [World.frozen?, hb9]
                  have HQ2 := hide (((unhide PW).own hgrow (fun k e => (hul k e).1)).own (grown_set (src := gv) (j := 0) (u := .slice (some ⟨g', 0, none⟩) (m + 1) cap')) (fun k e => by injection e with e; omega))
                  clear hown' hgrow hnew O2 hb9 BW PW HA
                  refine hK.out _ _ trivial (fun hHeldZ => ?_)
                  clear hK Kq
                  try simp only [Act.put, List.setIfInBounds_toArray, List.set_cons_zero, List.set_cons_succ]
                  refine tkF (i := 13) (d := some 108) (v := ?_) rfl rfl (by kernel_rfl) (by kernel_rfl) (by kernel_rfl) (fun _ _ _ h => h) (Or.inl ⟨by rfl, ?_⟩) (by assumption) ?_
                  rotate_left
                  · intro w hSw; (try dsimp only at hSw); go_simp; try with_reducible rfl
                  try simp only [Act.put, List.setIfInBounds_toArray, List.set_cons_zero, List.set_cons_succ]
                  refine tkF (i := 14) (d := some 109) (v := ?_) rfl rfl (by kernel_rfl) (by kernel_rfl) (by kernel_rfl) (fun _ _ _ h => h) (Or.inl ⟨by rfl, ?_⟩) (by assumption) ?_
                  rotate_left
                  · intro w hSw; (try dsimp only at hSw); go_simp; try with_reducible rfl
                  try simp only [Act.put, List.setIfInBounds_toArray, List.set_cons_zero, List.set_cons_succ]
                  refine wpAnyH_ready (rs := [15]) (by kernel_rfl) (by simp) (AllReadyH.cons rfl (fun Kq hK => ?_) AllReadyH.nil)
                  go_simp
                  refine hK.out _ _ trivial (fun hHeldZ => ?_)
                  clear hK Kq
                  try simp only [Act.put, List.setIfInBounds_toArray, List.set_cons_zero, List.set_cons_succ]
                  refine wpAnyH_done (by kernel_rfl) ?_ _
                  go_wp2
                  go_ret
                  exact ⟨_, _, rfl, by rw [World.size_setCell]; exact unhide HG2, unhide HS2, (unhide HQ2).sr, (unhide HQ2).gr⟩
                · have N5 := hide (Pas.five_new w5 (⟨#[]⟩, ⟨#[97]⟩, ⟨#[]⟩, ⟨#[97]⟩, z) 40)
                  replace PW := hide ((unhide PW).own (grown_alloc w5 (.cells #[.string ⟨#[]⟩, .string ⟨#[97]⟩, .string ⟨#[]⟩, .string ⟨#[97]⟩, .int .i64 z] 40) none) (fun k e => by cases e))
                  replace BW : Hid (∀ k, w.heap.size ≤ k → k < w3.heap.size → (w5.alloc (.cells #[.string ⟨#[]⟩, .string ⟨#[97]⟩, .string ⟨#[]⟩, .string ⟨#[97]⟩, .int .i64 z] 40)).heap[k]? = w3.heap[k]?) := hide (fun k h1 h2 => (Below.heap_alloc w5 (.cells #[.string ⟨#[]⟩, .string ⟨#[97]⟩, .string ⟨#[]⟩, .string ⟨#[97]⟩, .int .i64 z] 40) k (by omega)).trans ((unhide BW) k h1 h2))
                  have hsX : w3.heap.size ≤ (w5.alloc (.cells #[.string ⟨#[]⟩, .string ⟨#[97]⟩, .string ⟨#[]⟩, .string ⟨#[97]⟩, .int .i64 z] 40)).heap.size := by simp; omega
                  have hsY : w5.heap.size < (w5.alloc (.cells #[.string ⟨#[]⟩, .string ⟨#[97]⟩, .string ⟨#[]⟩, .string ⟨#[97]⟩, .int .i64 z] 40)).heap.size := by simp
                  go_simp
                  generalize hnm : w5.heap.size = rb at *
                  generalize hww : w5.alloc (.cells #[.string ⟨#[]⟩, .string ⟨#[97]⟩, .string ⟨#[]⟩, .string ⟨#[97]⟩, .int .i64 z] 40) = w7 at *
                  have hrb := hsW
                  clear hnm hww hsW
                  have hsW := hsX
                  clear hsX
                  refine hK.out _ _ trivial (fun hHeldZ => ?_)
                  clear hK Kq
                  try simp only [Act.put, List.setIfInBounds_toArray, List.set_cons_zero, List.set_cons_succ]
                  refine wpAnyH_ready (rs := [4]) (by kernel_rfl) (by simp) (AllReadyH.cons rfl (fun Kq hK => ?_) AllReadyH.nil)
                  have cG : w7.cell? ⟨gv, 0, none⟩ = some (.slice ua m uc) := (World.cell?_of_block (a := ⟨gv, 0, none⟩) ((unhide BW) gv hgl hgs)).trans hcu
                  go_simp
                  refine hK.out _ _ trivial (fun hHeldZ => ?_)
                  clear hK Kq
                  try simp only [Act.put, List.setIfInBounds_toArray, List.set_cons_zero, List.set_cons_succ]
                  clear cG
                  have O2 := hide (Pas.own_atP (w' := w7) (unhide O1) (fun n e => (unhide BW) n (hul n e).1 (hul n e).2))
                  have HS2 := hide ((unhide SA) (⟨#[]⟩, ⟨#[97]⟩, ⟨#[]⟩, ⟨#[97]⟩, z) (by show (0 : Nat) + 1 + 0 + 1 ≤ 262144; omega))
                  refine wpAnyH_ready (rs := [12]) (by kernel_rfl) (by simp) (AllReadyH.cons rfl (fun Kq hK => ?_) AllReadyH.nil)
                  refine Pas.step_appF (some 107) rfl rfl (.tmp 99) (.tmp 106) 35 rfl w.heap.size 40 i0 (.agg #[.string ⟨#[]⟩, .string ⟨#[]⟩, .string ⟨#[]⟩, .string ⟨#[]⟩, .int .i64 0]) 5 72 Tryd.underlying35 hi hz0 hz1 hz2 rfl (by decide) (.slice ua m uc) m xs (by rfl) (unhide O2) ⟨rb, 0, none⟩ 1 1 (Pas.cells5 (⟨#[]⟩, ⟨#[97]⟩, ⟨#[]⟩, ⟨#[97]⟩, z)) (by rfl) rfl (unhide N5) (Pas.five_one _) ?g3 ?g4 ?g5 ?_
                  case g3 => unfold maxLen; omega
                  case g4 => omega
                  case g5 => omega
                  intro v' w9 hown' hgrow hnew
                  obtain ⟨g', cap', rfl⟩ := Pas.own_formF hown'
                  have HG2 := hide ((unhide HA) w7 w9 _ (⟨#[]⟩, ⟨#[97]⟩, ⟨#[]⟩, ⟨#[97]⟩, z) hsW (unhide BW) hown' hgrow hnew)
                  have hb9 : w9.heap[gv]? = w3.heap[gv]? := (hgrow.block gv (by omega) (fun e => huv e.symm)).trans ((unhide BW) gv hgl hgs)
                  have d1 : w9.cell? ⟨gv, 0, none⟩ = some (.slice ua m uc) := (World.cell?_of_block (a := ⟨gv, 0, none⟩) hb9).trans hcu
                  have d2 : w9.frozen? ⟨gv, 0, none⟩ = false := by rw [← hfu]; simp only [World.frozen?, hb9]
                  have HQ2 := hide (((unhide PW).own hgrow (fun k e => (hul k e).1)).own (grown_set (src := gv) (j := 0) (u := .slice (some ⟨g', 0, none⟩) (m + 1) cap')) (fun k e => by injection e with e; omega))
                  clear hown' hgrow hnew O2 hb9 BW PW HA
                  refine hK.out _ _ trivial (fun hHeldZ => ?_)
                  clear hK Kq
                  try simp only [Act.put, List.setIfInBounds_toArray, List.set_cons_zero, List.set_cons_succ]
                  refine tkF (i := 13) (d := some 108) (v := ?_) rfl rfl (by kernel_rfl) (by kernel_rfl) (by kernel_rfl) (fun _ _ _ h => h) (Or.inl ⟨by rfl, ?_⟩) (by assumption) ?_
                  rotate_left
                  · intro w hSw; (try dsimp only at hSw); go_simp; try with_reducible rfl
                  try simp only [Act.put, List.setIfInBounds_toArray, List.set_cons_zero, List.set_cons_succ]
                  refine tkF (i := 14) (d := some 109) (v := ?_) rfl rfl (by kernel_rfl) (by kernel_rfl) (by kernel_rfl) (fun _ _ _ h => h) (Or.inl ⟨by rfl, ?_⟩) (by assumption) ?_
                  rotate_left
                  · intro w hSw; (try dsimp only at hSw); go_simp; try with_reducible rfl
                  try simp only [Act.put, List.setIfInBounds_toArray, List.set_cons_zero, List.set_cons_succ]
                  refine wpAnyH_ready (rs := [15]) (by kernel_rfl) (by simp) (AllReadyH.cons rfl (fun Kq hK => ?_) AllReadyH.nil)
                  go_simp
                  refine hK.out _ _ trivial (fun hHeldZ => ?_)
                  clear hK Kq
                  try simp only [Act.put, List.setIfInBounds_toArray, List.set_cons_zero, List.set_cons_succ]
                  refine wpAnyH_done (by kernel_rfl) ?_ _
                  go_wp2
                  go_ret
                  exact ⟨_, _, rfl, by rw [World.size_setCell]; exact unhide HG2, unhide HS2, (unhide HQ2).sr, (unhide HQ2).gr⟩
          · have CN := hide (n_nat wd src a len cap size 3 (by omega) (by omega) hl (unhide PW).sr)
            go_simp
            go_at_call 21
            refine (unhide CN).mono ?_
            rintro e w4 ⟨r, rfl, hr, hs, hg⟩
            have hWl := (unhide PW).gr.size
            replace PW := hide ((unhide PW).draw hs hg)
            replace BW : Hid (∀ k, w.heap.size ≤ k → k < w3.heap.size → w4.heap[k]? = w3.heap[k]?) := hide (fun k h1 h2 => (hg.block k (by omega) (fun e => by injection e; omega)).trans ((unhide BW) k h1 h2))
            have hsX := hg.size
            replace hsW : w3.heap.size ≤ w4.heap.size := by omega
            clear hs hg CN hsX hWl
            try go_wp2_with fail
            refine hK.out _ _ trivial (fun hHeldZ => ?_)
            clear hK Kq
            try simp only [Act.put, List.setIfInBounds_toArray, List.set_cons_zero, List.set_cons_succ]
            refine wpAnyH_ready (rs := [4, 5]) (by kernel_rfl) (by simp) (AllReadyH.cons rfl (fun Kq hK => ?_) (AllReadyH.cons rfl (fun Kq hK => ?_) AllReadyH.nil))
            · have cG : w4.cell? ⟨gv, 0, none⟩ = some (.slice ua m uc) := (World.cell?_of_block (a := ⟨gv, 0, none⟩) ((unhide BW) gv hgl hgs)).trans hcu
              go_simp
              refine hK.out _ _ trivial (fun hHeldZ => ?_)
              clear hK Kq
              try simp only [Act.put, List.setIfInBounds_toArray, List.set_cons_zero, List.set_cons_succ]
              clear cG
              refine wpAnyH_ready (rs := [5]) (by kernel_rfl) (by simp) (AllReadyH.cons rfl (fun Kq hK => ?_) AllReadyH.nil)
              have LB := hide (Pas.heap_new w4 (.cells #[.int .i64 (-1), .int .i64 1, .int .i64 2] 2))
              replace PW := hide ((unhide PW).own (grown_alloc w4 (.cells #[.int .i64 (-1), .int .i64 1, .int .i64 2] 2) none) (fun k e => by cases e))
              replace BW : Hid (∀ k, w.heap.size ≤ k → k < w3.heap.size → (w4.alloc (.cells #[.int .i64 (-1), .int .i64 1, .int .i64 2] 2)).heap[k]? = w3.heap[k]?) := hide (fun k h1 h2 => (Below.heap_alloc w4 (.cells #[.int .i64 (-1), .int .i64 1, .int .i64 2] 2) k (by omega)).trans ((unhide BW) k h1 h2))
              have hsX : w3.heap.size ≤ (w4.alloc (.cells #[.int .i64 (-1), .int .i64 1, .int .i64 2] 2)).heap.size := by simp; omega
              have hsY : w4.heap.size < (w4.alloc (.cells #[.int .i64 (-1), .int .i64 1, .int .i64 2] 2)).heap.size := by simp
              go_simp
              generalize hnm : w4.heap.size = lb at *
              generalize hww : w4.alloc (.cells #[.int .i64 (-1), .int .i64 1, .int .i64 2] 2) = w6 at *
              have hlb := hsW
              clear hnm hww hsW
              have hsW := hsX
              clear hsX
              refine hK.out _ _ trivial (fun hHeldZ => ?_)
              clear hK Kq
              try simp only [Act.put, List.setIfInBounds_toArray, List.set_cons_zero, List.set_cons_succ]
              have hr0 : (0 : Int) ≤ (r : Int) := by omega
              have hr3 : (r : Int) < 3 := by omega
              refine tkF (i := 8) (d := some 103) (v := ?_) rfl rfl (by kernel_rfl) (by kernel_rfl) (by kernel_rfl) (fun _ _ _ h => h) (Or.inl ⟨by rfl, ?_⟩) (by assumption) ?_
              rotate_left
              · intro w hSw; (try dsimp only at hSw); go_simp; try with_reducible rfl
              try simp only [Act.put, List.setIfInBounds_toArray, List.set_cons_zero, List.set_cons_succ]
              refine wpAnyH_ready (rs := [9]) (by kernel_rfl) (by simp) (AllReadyH.cons rfl (fun Kq hK => ?_) AllReadyH.nil)
              obtain ⟨z, cz⟩ : ∃ z : Int, w6.cell? ⟨lb, r, none⟩ = some (.int .i64 z) := by
                have hl3 := unhide LB
                obtain rfl | rfl | rfl : r = 0 ∨ r = 1 ∨ r = 2 := by omega
                · exact ⟨_, by simp only [World.cell?, hl3]; rfl⟩
                · exact ⟨_, by simp only [World.cell?, hl3]; rfl⟩
                · exact ⟨_, by simp only [World.cell?, hl3]; rfl⟩
              go_simp
              refine hK.out _ _ trivial (fun hHeldZ => ?_)
              clear hK Kq
              try simp only [Act.put, List.setIfInBounds_toArray, List.set_cons_zero, List.set_cons_succ]
              refine tkF (i := 10) (d := some 105) (v := ?_) rfl rfl (by kernel_rfl) (by kernel_rfl) (by kernel_rfl) (fun _ _ _ h => h) (Or.inl ⟨by rfl, ?_⟩) (by assumption) ?_
              rotate_left
              · intro w hSw; (try dsimp only at hSw); go_simp; try with_reducible rfl
              try simp only [Act.put, List.setIfInBounds_toArray, List.set_cons_zero, List.set_cons_succ]
              refine wpAnyH_ready (rs := [11]) (by kernel_rfl) (by simp) (AllReadyH.cons rfl (fun Kq hK => ?_) AllReadyH.nil)
              have N5 := hide (Pas.five_new w6 (⟨#[]⟩, ⟨#[97]⟩, ⟨#[]⟩, ⟨#[97]⟩, z) 40)
              replace PW := hide ((unhide PW).own (grown_alloc w6 (.cells #[.string ⟨#[]⟩, .string ⟨#[97]⟩, .string ⟨#[]⟩, .string ⟨#[97]⟩, .int .i64 z] 40) none) (fun k e => by cases e))
              replace BW : Hid (∀ k, w.heap.size ≤ k → k < w3.heap.size → (w6.alloc (.cells #[.string ⟨#[]⟩, .string ⟨#[97]⟩, .string ⟨#[]⟩, .string ⟨#[97]⟩, .int .i64 z] 40)).heap[k]? = w3.heap[k]?) := hide (fun k h1 h2 => (Below.heap_alloc w6 (.cells #[.string ⟨#[]⟩, .string ⟨#[97]⟩, .string ⟨#[]⟩, .string ⟨#[97]⟩, .int .i64 z] 40) k (by omega)).trans ((unhide BW) k h1 h2))
              have hsX : w3.heap.size ≤ (w6.alloc (.cells #[.string ⟨#[]⟩, .string ⟨#[97]⟩, .string ⟨#[]⟩, .string ⟨#[97]⟩, .int .i64 z] 40)).heap.size := by simp; omega
              have hsY : w6.heap.size < (w6.alloc (.cells #[.string ⟨#[]⟩, .string ⟨#[97]⟩, .string ⟨#[]⟩, .string ⟨#[97]⟩, .int .i64 z] 40)).heap.size := by simp
              go_simp
              generalize hnm : w6.heap.size = rb at *
              generalize hww : w6.alloc (.cells #[.string ⟨#[]⟩, .string ⟨#[97]⟩, .string ⟨#[]⟩, .string ⟨#[97]⟩, .int .i64 z] 40) = w8 at *
              have hrb := hsW
              clear hnm hww hsW
              have hsW := hsX
              clear hsX
              refine hK.out _ _ trivial (fun hHeldZ => ?_)
              clear hK Kq
              try simp only [Act.put, List.setIfInBounds_toArray, List.set_cons_zero, List.set_cons_succ]
              have O2 := hide (Pas.own_atP (w' := w8) (unhide O1) (fun n e => (unhide BW) n (hul n e).1 (hul n e).2))
              have HS2 := hide ((unhide SA) (⟨#[]⟩, ⟨#[97]⟩, ⟨#[]⟩, ⟨#[97]⟩, z) (by show (0 : Nat) + 1 + 0 + 1 ≤ 262144; omega))
              refine wpAnyH_ready (rs := [12]) (by kernel_rfl) (by simp) (AllReadyH.cons rfl (fun Kq hK => ?_) AllReadyH.nil)
              refine Pas.step_appF (some 107) rfl rfl (.tmp 99) (.tmp 106) 35 rfl w.heap.size 40 i0 (.agg #[.string ⟨#[]⟩, .string ⟨#[]⟩, .string ⟨#[]⟩, .string ⟨#[]⟩, .int .i64 0]) 5 72 Tryd.underlying35 hi hz0 hz1 hz2 rfl (by decide) (.slice ua m uc) m xs (by rfl) (unhide O2) ⟨rb, 0, none⟩ 1 1 (Pas.cells5 (⟨#[]⟩, ⟨#[97]⟩, ⟨#[]⟩, ⟨#[97]⟩, z)) (by rfl) rfl (unhide N5) (Pas.five_one _) ?g3 ?g4 ?g5 ?_
              case g3 => unfold maxLen; omega
              case g4 => omega
              case g5 => omega
              intro v' w9 hown' hgrow hnew
              obtain ⟨g', cap', rfl⟩ := Pas.own_formF hown'
              have HG2 := hide ((unhide HA) w8 w9 _ (⟨#[]⟩, ⟨#[97]⟩, ⟨#[]⟩, ⟨#[97]⟩, z) hsW (unhide BW) hown' hgrow hnew)
              have hb9 : w9.heap[gv]? = w3.heap[gv]? := (hgrow.block gv (by omega) (fun e => huv e.symm)).trans ((unhide BW) gv hgl hgs)
              have d1 : w9.cell? ⟨gv, 0, none⟩ = some (.slice ua m uc) := (World.cell?_of_block (a := ⟨gv, 0, none⟩) hb9).trans hcu
              have d2 : w9.frozen? ⟨gv, 0, none⟩ = false := by rw [← hfu]; simp only [World.frozen?, hb9]
              have HQ2 := hide (((unhide PW).own hgrow (fun k e => (hul k e).1)).own (grown_set (src := gv) (j := 0) (u := .slice (some ⟨g', 0, none⟩) (m + 1) cap')) (fun k e => by injection e with e; omega))
              clear hown' hgrow hnew O2 hb9 BW PW HA
              refine hK.out _ _ trivial (fun hHeldZ => ?_)
              clear hK Kq
              try simp only [Act.put, List.setIfInBounds_toArray, List.set_cons_zero, List.set_cons_succ]
              refine tkF (i := 13) (d := some 108) (v := ?_) rfl rfl (by kernel_rfl) (by kernel_rfl) (by kernel_rfl) (fun _ _ _ h => h) (Or.inl ⟨by rfl, ?_⟩) (by assumption) ?_
              rotate_left
              · intro w hSw; (try dsimp only at hSw); go_simp; try with_reducible rfl
              try simp only [Act.put, List.setIfInBounds_toArray, List.set_cons_zero, List.set_cons_succ]
              refine tkF (i := 14) (d := some 109) (v := ?_) rfl rfl (by kernel_rfl) (by kernel_rfl) (by kernel_rfl) (fun _ _ _ h => h) (Or.inl ⟨by rfl, ?_⟩) (by assumption) ?_
              rotate_left
              · intro w hSw; (try dsimp only at hSw); go_simp; try with_reducible rfl
              try simp only [Act.put, List.setIfInBounds_toArray, List.set_cons_zero, List.set_cons_succ]
              refine wpAnyH_ready (rs := [15]) (by kernel_rfl) (by simp) (AllReadyH.cons rfl (fun Kq hK => ?_) AllReadyH.nil)
              go_simp
              refine hK.out _ _ trivial (fun hHeldZ => ?_)
              clear hK Kq
              try simp only [Act.put, List.setIfInBounds_toArray, List.set_cons_zero, List.set_cons_succ]
              refine wpAnyH_done (by kernel_rfl) ?_ _
              go_wp2
              go_ret
              exact ⟨_, _, rfl, by rw [World.size_setCell]; exact unhide HG2, unhide HS2, (unhide HQ2).sr, (unhide HQ2).gr⟩
            · have LB := hide (Pas.heap_new w4 (.cells #[.int .i64 (-1), .int .i64 1, .int .i64 2] 2))
              replace PW := hide ((unhide PW).own (grown_alloc w4 (.cells #[.int .i64 (-1), .int .i64 1, .int .i64 2] 2) none) (fun k e => by cases e))
              replace BW : Hid (∀ k, w.heap.size ≤ k → k < w3.heap.size → (w4.alloc (.cells #[.int .i64 (-1), .int .i64 1, .int .i64 2] 2)).heap[k]? = w3.heap[k]?) := hide (fun k h1 h2 => (Below.heap_alloc w4 (.cells #[.int .i64 (-1), .int .i64 1, .int .i64 2] 2) k (by omega)).trans ((unhide BW) k h1 h2))
              have hsX : w3.heap.size ≤ (w4.alloc (.cells #[.int .i64 (-1), .int .i64 1, .int .i64 2] 2)).heap.size := by simp; omega
              have hsY : w4.heap.size < (w4.alloc (.cells #[.int .i64 (-1), .int .i64 1, .int .i64 2] 2)).heap.size := by simp
              go_simp
              generalize hnm : w4.heap.size = lb at *
              generalize hww : w4.alloc (.cells #[.int .i64 (-1), .int .i64 1, .int .i64 2] 2) = w5 at *
              have hlb := hsW
              clear hnm hww hsW
              have hsW := hsX
              clear hsX
              refine hK.out _ _ trivial (fun hHeldZ => ?_)
              clear hK Kq
              try simp only [Act.put, List.setIfInBounds_toArray, List.set_cons_zero, List.set_cons_succ]
              have hr0 : (0 : Int) ≤ (r : Int) := by omega
              have hr3 : (r : Int) < 3 := by omega
              refine tkF (i := 8) (d := some 103) (v := ?_) rfl rfl (by kernel_rfl) (by kernel_rfl) (by kernel_rfl) (fun _ _ _ h => h) (Or.inl ⟨by rfl, ?_⟩) (by assumption) ?_
              rotate_left
              · intro w hSw; (try dsimp only at hSw); go_simp; try with_reducible rfl
              try simp only [Act.put, List.setIfInBounds_toArray, List.set_cons_zero, List.set_cons_succ]
              refine wpAnyH_ready (rs := [4, 9]) (by kernel_rfl) (by simp) (AllReadyH.cons rfl (fun Kq hK => ?_) (AllReadyH.cons rfl (fun Kq hK => ?_) AllReadyH.nil))
              · have cG : w5.cell? ⟨gv, 0, none⟩ = some (.slice ua m uc) := (World.cell?_of_block (a := ⟨gv, 0, none⟩) ((unhide BW) gv hgl hgs)).trans hcu
                go_simp
                refine hK.out _ _ trivial (fun hHeldZ => ?_)
                clear hK Kq
                try simp only [Act.put, List.setIfInBounds_toArray, List.set_cons_zero, List.set_cons_succ]
                clear cG
                refine wpAnyH_ready (rs := [9]) (by kernel_rfl) (by simp) (AllReadyH.cons rfl (fun Kq hK => ?_) AllReadyH.nil)
                obtain ⟨z, cz⟩ : ∃ z : Int, w5.cell? ⟨lb, r, none⟩ = some (.int .i64 z) := by
                  have hl3 := unhide LB
                  obtain rfl | rfl | rfl : r = 0 ∨ r = 1 ∨ r = 2 := by omega
                  · exact ⟨_, by simp only [World.cell?, hl3]; rfl⟩
                  · exact ⟨_, by simp only [World.cell?, hl3]; rfl⟩
                  · exact ⟨_, by simp only [World.cell?, hl3]; rfl⟩
                go_simp
                refine hK.out _ _ trivial (fun hHeldZ => ?_)
                clear hK Kq
                try simp only [Act.put, List.setIfInBounds_toArray, List.set_cons_zero, List.set_cons_succ]
                refine tkF (i := 10) (d := some 105) (v := ?_) rfl rfl (by kernel_rfl) (by kernel_rfl) (by kernel_rfl) (fun _ _ _ h => h) (Or.inl ⟨by rfl, ?_⟩) (by assumption) ?_
                rotate_left
                · intro w hSw; (try dsimp only at hSw); go_simp; try with_reducible rfl
                try simp only [Act.put, List.setIfInBounds_toArray, List.set_cons_zero, List.set_cons_succ]
                refine wpAnyH_ready (rs := [11]) (by kernel_rfl) (by simp) (AllReadyH.cons rfl (fun Kq hK => ?_) AllReadyH.nil)
                have N5 := hide (Pas.five_new w5 (⟨#[]⟩, ⟨#[97]⟩, ⟨#[]⟩, ⟨#[97]⟩, z) 40)
                replace PW := hide ((unhide PW).own (grown_alloc w5 (.cells #[.string ⟨#[]⟩, .string ⟨#[97]⟩, .string ⟨#[]⟩, .string ⟨#[97]⟩, .int .i64 z] 40) none) (fun k e => by cases e))
                replace BW : Hid (∀ k, w.heap.size ≤ k → k < w3.heap.size → (w5.alloc (.cells #[.string ⟨#[]⟩, .string ⟨#[97]⟩, .string ⟨#[]⟩, .string ⟨#[97]⟩, .int .i64 z] 40)).heap[k]? = w3.heap[k]?) := hide (fun k h1 h2 => (Below.heap_alloc w5 (.cells #[.string ⟨#[]⟩, .string ⟨#[97]⟩, .string ⟨#[]⟩, .string ⟨#[97]⟩, .int .i64 z] 40) k (by omega)).trans ((unhide BW) k h1 h2))
                have hsX : w3.heap.size ≤ (w5.alloc (.cells #[.string ⟨#[]⟩, .string ⟨#[97]⟩, .string ⟨#[]⟩, .string ⟨#[97]⟩, .int .i64 z] 40)).heap.size := by simp; omega
                have hsY : w5.heap.size < (w5.alloc (.cells #[.string ⟨#[]⟩, .string ⟨#[97]⟩, .string ⟨#[]⟩, .string ⟨#[97]⟩, .int .i64 z] 40)).heap.size := by simp
                go_simp
                generalize hnm : w5.heap.size = rb at *
                generalize hww : w5.alloc (.cells #[.string ⟨#[]⟩, .string ⟨#[97]⟩, .string ⟨#[]⟩, .string ⟨#[97]⟩, .int .i64 z] 40) = w8 at *
                have hrb := hsW
                clear hnm hww hsW
                have hsW := hsX
                clear hsX
                refine hK.out _ _ trivial (fun hHeldZ => ?_)
                clear hK Kq
                try simp only [Act.put, List.setIfInBounds_toArray, List.set_cons_zero, List.set_cons_succ]
                have O2 := hide (Pas.own_atP (w' := w8) (unhide O1) (fun n e => (unhide BW) n (hul n e).1 (hul n e).2))
                have HS2 := hide ((unhide SA) (⟨#[]⟩, ⟨#[97]⟩, ⟨#[]⟩, ⟨#[97]⟩, z) (by show (0 : Nat) + 1 + 0 + 1 ≤ 262144; omega))
                refine wpAnyH_ready (rs := [12]) (by kernel_rfl) (by simp) (AllReadyH.cons rfl (fun Kq hK => ?_) AllReadyH.nil)
                refine Pas.step_appF (some 107) rfl rfl (.tmp 99) (.tmp 106) 35 rfl w.heap.size 40 i0 (.agg #[.string ⟨#[]⟩, .string ⟨#[]⟩, .string ⟨#[]⟩, .string ⟨#[]⟩, .int .i64 0]) 5 72 Tryd.underlying35 hi hz0 hz1 hz2 rfl (by decide) (.slice ua m uc) m xs (by rfl) (unhide O2) ⟨rb, 0, none⟩ 1 1 (Pas.cells5 (⟨#[]⟩, ⟨#[97]⟩, ⟨#[]⟩, ⟨#[97]⟩, z)) (by rfl) rfl (unhide N5) (Pas.five_one _) ?g3 ?g4 ?g5 ?_
                case g3 => unfold maxLen; omega
                case g4 => omega
                case g5 => omega
                intro v' w9 hown' hgrow hnew
                obtain ⟨g', cap', rfl⟩ := Pas.own_formF hown'
                have HG2 := hide ((unhide HA) w8 w9 _ (⟨#[]⟩, ⟨#[97]⟩, ⟨#[]⟩, ⟨#[97]⟩, z) hsW (unhide BW) hown' hgrow hnew)
                have hb9 : w9.heap[gv]? = w3.heap[gv]? := (hgrow.block gv (by omega) (fun e => huv e.symm)).trans ((unhide BW) gv hgl hgs)
                have d1 : w9.cell? ⟨gv, 0, none⟩ = some (.slice ua m uc) := (World.cell?_of_block (a := ⟨gv, 0, none⟩) hb9).trans hcu
                have d2 : w9.frozen? ⟨gv, 0, none⟩ = false := by rw [← hfu]; simp only [World.frozen?, hb9]
                have HQ2 := hide (((unhide PW).own hgrow (fun k e => (hul k e).1)).own (grown_set (src := gv) (j := 0) (u := .slice (some ⟨g', 0, none⟩) (m + 1) cap')) (fun k e => by injection e with e; omega))
                clear hown' hgrow hnew O2 hb9 BW PW HA
                refine hK.out _ _ trivial (fun hHeldZ => ?_)
                clear hK Kq
                try simp only [Act.put, List.setIfInBounds_toArray, List.set_cons_zero, List.set_cons_succ]
                refine tkF (i := 13) (d := some 108) (v := ?_) rfl rfl (by kernel_rfl) (by kernel_rfl) (by kernel_rfl) (fun _ _ _ h => h) (Or.inl ⟨by rfl, ?_⟩) (by assumption) ?_
                rotate_left
                · intro w hSw; (try dsimp only at hSw); go_simp; try with_reducible rfl
                try simp only [Act.put, List.setIfInBounds_toArray, List.set_cons_zero, List.set_cons_succ]
                refine tkF (i := 14) (d := some 109) (v := ?_) rfl rfl (by kernel_rfl) (by kernel_rfl) (by kernel_rfl) (fun _ _ _ h => h) (Or.inl ⟨by rfl, ?_⟩) (by assumption) ?_
                rotate_left
                · intro w hSw; (try dsimp only at hSw); go_simp; try with_reducible rfl
                try simp only [Act.put, List.setIfInBounds_toArray, List.set_cons_zero, List.set_cons_succ]
                refine wpAnyH_ready (rs := [15]) (by kernel_rfl) (by simp) (AllReadyH.cons rfl (fun Kq hK => ?_) AllReadyH.nil)
                go_simp
                refine hK.out _ _ trivial (fun hHeldZ => ?_)
                clear hK Kq
                try simp only [Act.put, List.setIfInBounds_toArray, List.set_cons_zero, List.set_cons_succ]
                refine wpAnyH_done (by kernel_rfl) ?_ _
                go_wp2
                go_ret
                exact ⟨_, _, rfl, by rw [World.size_setCell]; exact unhide HG2, unhide HS2, (unhide HQ2).sr, (unhide HQ2).gr⟩
              · obtain ⟨z, cz⟩ : ∃ z : Int, w5.cell? ⟨lb, r, none⟩ = some (.int .i64 z) := by
                  have hl3 := unhide LB
                  obtain rfl | rfl | rfl : r = 0 ∨ r = 1 ∨ r = 2 := by omega
                  · exact ⟨_, by simp only [World.cell?, hl3]; rfl⟩
                  · exact ⟨_, by simp only [World.cell?, hl3]; rfl⟩
                  · exact ⟨_, by simp only [World.cell?, hl3]; rfl⟩
                go_simp
                refine hK.out _ _ trivial (fun hHeldZ => ?_)
                clear hK Kq
                try simp only [Act.put, List.setIfInBounds_toArray, List.set_cons_zero, List.set_cons_succ]
                refine tkF (i := 10) (d := some 105) (v := ?_) rfl rfl (by kernel_rfl) (by kernel_rfl) (by kernel_rfl) (fun _ _ _ h => h) (Or.inl ⟨by rfl, ?_⟩) (by assumption) ?_
                rotate_left
                · intro w hSw; (try dsimp only at hSw); go_simp; try with_reducible rfl
                try simp only [Act.put, List.setIfInBounds_toArray, List.set_cons_zero, List.set_cons_succ]
                refine wpAnyH_ready (rs := [4, 11]) (by kernel_rfl) (by simp) (AllReadyH.cons rfl (fun Kq hK => ?_) (AllReadyH.cons rfl (fun Kq hK => ?_) AllReadyH.nil))
                · have cG : w5.cell? ⟨gv, 0, none⟩ = some (.slice ua m uc) := (World.cell?_of_block (a := ⟨gv, 0, none⟩) ((unhide BW) gv hgl hgs)).trans hcu
                  go_simp
                  refine hK.out _ _ trivial (fun hHeldZ => ?_)
                  clear hK Kq
                  try simp only [Act.put, List.setIfInBounds_toArray, List.set_cons_zero, List.set_cons_succ]
                  clear cG
                  refine wpAnyH_ready (rs := [11]) (by kernel_rfl) (by simp) (AllReadyH.cons rfl (fun Kq hK => ?_) AllReadyH.nil)
                  have N5 := hide (Pas.five_new w5 (⟨#[]⟩, ⟨#[97]⟩, ⟨#[]⟩, ⟨#[97]⟩, z) 40)
                  replace PW := hide ((unhide PW).own (grown_alloc w5 (.cells #[.string ⟨#[]⟩, .string ⟨#[97]⟩, .string ⟨#[]⟩, .string ⟨#[97]⟩, .int .i64 z] 40) none) (fun k e => by cases e))
                  replace BW : Hid (∀ k, w.heap.size ≤ k → k < w3.heap.size → (w5.alloc (.cells #[.string ⟨#[]⟩, .string ⟨#[97]⟩, .string ⟨#[]⟩, .string ⟨#[97]⟩, .int .i64 z] 40)).heap[k]? = w3.heap[k]?) := hide (fun k h1 h2 => (Below.heap_alloc w5 (.cells #[.string ⟨#[]⟩, .string ⟨#[97]⟩, .string ⟨#[]⟩, .string ⟨#[97]⟩, .int .i64 z] 40) k (by omega)).trans ((unhide BW) k h1 h2))
                  have hsX : w3.heap.size ≤ (w5.alloc (.cells #[.string ⟨#[]⟩, .string ⟨#[97]⟩, .string ⟨#[]⟩, .string ⟨#[97]⟩, .int .i64 z] 40)).heap.size := by simp; omega
                  have hsY : w5.heap.size < (w5.alloc (.cells #[.string ⟨#[]⟩, .string ⟨#[97]⟩, .string ⟨#[]⟩, .string ⟨#[97]⟩, .int .i64 z] 40)).heap.size := by simp
                  go_simp
                  generalize hnm : w5.heap.size = rb at *
                  generalize hww : w5.alloc (.cells #[.string ⟨#[]⟩, .string ⟨#[97]⟩, .string ⟨#[]⟩, .string ⟨#[97]⟩, .int .i64 z] 40) = w8 at *
                  have hrb := hsW
                  clear hnm hww hsW
                  have hsW := hsX
                  clear hsX
                  refine hK.out _ _ trivial (fun hHeldZ => ?_)
                  clear hK Kq
                  try simp only [Act.put, List.setIfInBounds_toArray, List.set_cons_zero, List.set_cons_succ]
                  have O2 := hide (Pas.own_atP (w' := w8) (unhide O1) (fun n e => (unhide BW) n (hul n e).1 (hul n e).2))
                  have HS2 := hide ((unhide SA) (⟨#[]⟩, ⟨#[97]⟩, ⟨#[]⟩, ⟨#[97]⟩, z) (by show (0 : Nat) + 1 + 0 + 1 ≤ 262144; omega))
                  refine wpAnyH_ready (rs := [12]) (by kernel_rfl) (by simp) (AllReadyH.cons rfl (fun Kq hK => ?_) AllReadyH.nil)
                  refine Pas.step_appF (some 107) rfl rfl (.tmp 99) (.tmp 106) 35 rfl w.heap.size 40 i0 (.agg #[.string ⟨#[]⟩, .string ⟨#[]⟩, .string ⟨#[]⟩, .string ⟨#[]⟩, .int .i64 0]) 5 72 Tryd.underlying35 hi hz0 hz1 hz2 rfl (by decide) (.slice ua m uc) m xs (by rfl) (unhide O2) ⟨rb, 0, none⟩ 1 1 (Pas.cells5 (⟨#[]⟩, ⟨#[97]⟩, ⟨#[]⟩, ⟨#[97]⟩, z)) (by rfl) rfl (unhide N5) (Pas.five_one _) ?g3 ?g4 ?g5 ?_
                  case g3 => unfold maxLen; omega
                  case g4 => omega
                  case g5 => omega
                  intro v' w9 hown' hgrow hnew
                  obtain ⟨g', cap', rfl⟩ := Pas.own_formF hown'
                  have HG2 := hide ((unhide HA) w8 w9 _ (⟨#[]⟩, ⟨#[97]⟩, ⟨#[]⟩, ⟨#[97]⟩, z) hsW (unhide BW) hown' hgrow hnew)
                  have hb9 : w9.heap[gv]? = w3.heap[gv]? := (hgrow.block gv (by omega) (fun e => huv e.symm)).trans ((unhide BW) gv hgl hgs)
                  have d1 : w9.cell? ⟨gv, 0, none⟩ = some (.slice ua m uc) := (World.cell?_of_block (a := ⟨gv, 0, none⟩) hb9).trans hcu
                  have d2 : w9.frozen? ⟨gv, 0, none⟩ = false := by rw [← hfu]; simp only [World.frozen?, hb9]
                  have HQ2 := hide (((unhide PW).own hgrow (fun k e => (hul k e).1)).own (grown_set (src := gv) (j := 0) (u := .slice (some ⟨g', 0, none⟩) (m + 1) cap')) (fun k e => by injection e with e; omega))
                  clear hown' hgrow hnew O2 hb9 BW PW HA
                  refine hK.out _ _ trivial (fun hHeldZ => ?_)
                  clear hK Kq
                  try simp only [Act.put, List.setIfInBounds_toArray, List.set_cons_zero, List.set_cons_succ]
                  refine tkF (i := 13) (d := some 108) (v := ?_) rfl rfl (by kernel_rfl) (by kernel_rfl) (by kernel_rfl) (fun _ _ _ h => h) (Or.inl ⟨by rfl, ?_⟩) (by assumption) ?_
                  rotate_left
                  · intro w hSw; (try dsimp only at hSw); go_simp; try with_reducible rfl
                  try simp only [Act.put, List.setIfInBounds_toArray, List.set_cons_zero, List.set_cons_succ]
                  refine tkF (i := 14) (d := some 109) (v := ?_) rfl rfl (by kernel_rfl) (by kernel_rfl) (by kernel_rfl) (fun _ _ _ h => h) (Or.inl ⟨by rfl, ?_⟩) (by assumption) ?_
                  rotate_left
                  · intro w hSw; (try dsimp only at hSw); go_simp; try with_reducible rfl
                  try simp only [Act.put, List.setIfInBounds_toArray, List.set_cons_zero, List.set_cons_succ]
                  refine wpAnyH_ready (rs := [15]) (by kernel_rfl) (by simp) (AllReadyH.cons rfl (fun Kq hK => ?_) AllReadyH.nil)
                  go_simp
                  refine hK.out _ _ trivial (fun hHeldZ => ?_)
                  clear hK Kq
                  try simp only [Act.put, List.setIfInBounds_toArray, List.set_cons_zero, List.set_cons_succ]
                  refine wpAnyH_done (by kernel_rfl) ?_ _
                  go_wp2
                  go_ret
                  exact ⟨_, _, rfl, by rw [World.size_setCell]; exact unhide HG2, unhide HS2, (unhide HQ2).sr, (unhide HQ2).gr⟩
                · have N5 := hide (Pas.five_new w5 (⟨#[]⟩, ⟨#[97]⟩, ⟨#[]⟩, ⟨#[97]⟩, z) 40)
                  replace PW := hide ((unhide PW).own (grown_alloc w5 (.cells #[.string ⟨#[]⟩, .string ⟨#[97]⟩, .string ⟨#[]⟩, .string ⟨#[97]⟩, .int .i64 z] 40) none) (fun k e => by cases e))
                  replace BW : Hid (∀ k, w.heap.size ≤ k → k < w3.heap.size → (w5.alloc (.cells #[.string ⟨#[]⟩, .string ⟨#[97]⟩, .string ⟨#[]⟩, .string ⟨#[97]⟩, .int .i64 z] 40)).heap[k]? = w3.heap[k]?) := hide (fun k h1 h2 => (Below.heap_alloc w5 (.cells #[.string ⟨#[]⟩, .string ⟨#[97]⟩, .string ⟨#[]⟩, .string ⟨#[97]⟩, .int .i64 z] 40) k (by omega)).trans ((unhide BW) k h1 h2))
                  have hsX : w3.heap.size ≤ (w5.alloc (.cells #[.string ⟨#[]⟩, .string ⟨#[97]⟩, .string ⟨#[]⟩, .string ⟨#[97]⟩, .int .i64 z] 40)).heap.size := by simp; omega
                  have hsY : w5.heap.size < (w5.alloc (.cells #[.string ⟨#[]⟩, .string ⟨#[97]⟩, .string ⟨#[]⟩, .string ⟨#[97]⟩, .int .i64 z] 40)).heap.size := by simp
                  go_simp
                  generalize hnm : w5.heap.size = rb at *
                  generalize hww : w5.alloc (.cells #[.string ⟨#[]⟩, .string ⟨#[97]⟩, .string ⟨#[]⟩, .string ⟨#[97]⟩, .int .i64 z] 40) = w7 at *
                  have hrb := hsW
                  clear hnm hww hsW
                  have hsW := hsX
                  clear hsX
                  refine hK.out _ _ trivial (fun hHeldZ => ?_)
                  clear hK Kq
                  try simp only [Act.put, List.setIfInBounds_toArray, List.set_cons_zero, List.set_cons_succ]
                  refine wpAnyH_ready (rs := [4]) (by kernel_rfl) (by simp) (AllReadyH.cons rfl (fun Kq hK => ?_) AllReadyH.nil)
                  have cG : w7.cell? ⟨gv, 0, none⟩ = some (.slice ua m uc) := (World.cell?_of_block (a := ⟨gv, 0, none⟩) ((unhide BW) gv hgl hgs)).trans hcu
                  go_simp
                  refine hK.out _ _ trivial (fun hHeldZ => ?_)
                  clear hK Kq
                  try simp only [Act.put, List.setIfInBounds_toArray, List.set_cons_zero, List.set_cons_succ]
                  clear cG
                  have O2 := hide (Pas.own_atP (w' := w7) (unhide O1) (fun n e => (unhide BW) n (hul n e).1 (hul n e).2))
                  have HS2 := hide ((unhide SA) (⟨#[]⟩, ⟨#[97]⟩, ⟨#[]⟩, ⟨#[97]⟩, z) (by show (0 : Nat) + 1 + 0 + 1 ≤ 262144; omega))
                  refine wpAnyH_ready (rs := [12]) (by kernel_rfl) (by simp) (AllReadyH.cons rfl (fun Kq hK => ?_) AllReadyH.nil)
                  refine Pas.step_appF (some 107) rfl rfl (.tmp 99) (.tmp 106) 35 rfl w.heap.size 40 i0 (.agg #[.string ⟨#[]⟩, .string ⟨#[]⟩, .string ⟨#[]⟩, .string ⟨#[]⟩, .int .i64 0]) 5 72 Tryd.underlying35 hi hz0 hz1 hz2 rfl (by decide) (.slice ua m uc) m xs (by rfl) (unhide O2) ⟨rb, 0, none⟩ 1 1 (Pas.cells5 (⟨#[]⟩, ⟨#[97]⟩, ⟨#[]⟩, ⟨#[97]⟩, z)) (by rfl) rfl (unhide N5) (Pas.five_one _) ?g3 ?g4 ?g5 ?_
                  case g3 => unfold maxLen; omega
                  case g4 => omega
                  case g5 => omega
                  intro v' w9 hown' hgrow hnew
                  obtain ⟨g', cap', rfl⟩ := Pas.own_formF hown'
                  have HG2 := hide ((unhide HA) w7 w9 _ (⟨#[]⟩, ⟨#[97]⟩, ⟨#[]⟩, ⟨#[97]⟩, z) hsW (unhide BW) hown' hgrow hnew)
                  have hb9 : w9.heap[gv]? = w3.heap[gv]? := (hgrow.block gv (by omega) (fun e => huv e.symm)).trans ((unhide BW) gv hgl hgs)
                  have d1 : w9.cell? ⟨gv, 0, none⟩ = some (.slice ua m uc) := (World.cell?_of_block (a := ⟨gv, 0, none⟩) hb9).trans hcu
                  have d2 : w9.frozen? ⟨gv, 0, none⟩ = false := by rw [← hfu]; simp only [World.frozen?, hb9]
                  have HQ2 := hide (((unhide PW).own hgrow (fun k e => (hul k e).1)).own (grown_set (src := gv) (j := 0) (u := .slice (some ⟨g', 0, none⟩) (m + 1) cap')) (fun k e => by injection e with e; omega))
                  clear hown' hgrow hnew O2 hb9 BW PW HA
                  refine hK.out _ _ trivial (fun hHeldZ => ?_)
                  clear hK Kq
                  try simp only [Act.put, List.setIfInBounds_toArray, List.set_cons_zero, List.set_cons_succ]
                  refine tkF (i := 13) (d := some 108) (v := ?_) rfl rfl (by kernel_rfl) (by kernel_rfl) (by kernel_rfl) (fun _ _ _ h => h) (Or.inl ⟨by rfl, ?_⟩) (by assumption) ?_
                  rotate_left
                  · intro w hSw; (try dsimp only at hSw); go_simp; try with_reducible rfl
                  try simp only [Act.put, List.setIfInBounds_toArray, List.set_cons_zero, List.set_cons_succ]
                  refine tkF (i := 14) (d := some 109) (v := ?_) rfl rfl (by kernel_rfl) (by kernel_rfl) (by kernel_rfl) (fun _ _ _ h => h) (Or.inl ⟨by rfl, ?_⟩) (by assumption) ?_
                  rotate_left
                  · intro w hSw; (try dsimp only at hSw); go_simp; try with_reducible rfl
                  try simp only [Act.put, List.setIfInBounds_toArray, List.set_cons_zero, List.set_cons_succ]
                  refine wpAnyH_ready (rs := [15]) (by kernel_rfl) (by simp) (AllReadyH.cons rfl (fun Kq hK => ?_) AllReadyH.nil)
                  go_simp
                  refine hK.out _ _ trivial (fun hHeldZ => ?_)
                  clear hK Kq
                  try simp only [Act.put, List.setIfInBounds_toArray, List.set_cons_zero, List.set_cons_succ]
                  refine wpAnyH_done (by kernel_rfl) ?_ _
                  go_wp2
                  go_ret
                  exact ⟨_, _, rfl, by rw [World.size_setCell]; exact unhide HG2, unhide HS2, (unhide HQ2).sr, (unhide HQ2).gr⟩
        · obtain ⟨gv, gc, u, xs, hve, hgl, hgs, hcu, hfu, ⟨ua, uc, hue⟩, hxl, hown, huv, HA'⟩ := Pas.pag_addA (unhide HG) rfl (show 0 < P.length by omega) (Nat.le_refl _)
          injection hve with e1 _ e3
          subst e1 e3
          have HA := hide HA'
          have hul : ∀ k, u.ownBlock = some k → w.heap.size ≤ k ∧ k < w3.heap.size := fun k e => Pas.own_lt hown e
          have O1 := hide hown
          have hlen := ((unhide HP).2 0 (by omega)).1
          have SA := hide (fun r (hr : Pas.sz1 r ≤ 262144) => sp_add (unhide HP) ((unhide HF) 0 (by omega)) r hr (by omega))
          subst hue
          simp only [Nat.zero_mul] at hcu hfu HA
          clear HA' hown HG
          generalize (Pas.gp P 0).1.length = m at *
          go_upto_region 27 with fail
          have PW := hide ((unhide HQ).draw (W' := w3.drew) (src_below (unhide HQ).sr (Pas.drewB w3)) (grown_drew (grown_refl w3 (some src))))
          have BW : Hid (∀ k, w.heap.size ≤ k → k < w3.heap.size → w3.drew.heap[k]? = w3.heap[k]?) := hide (fun _ _ _ => rfl)
          have hsW : w3.heap.size ≤ w3.drew.heap.size := Nat.le_refl _
          refine wp_region_held_drew (S := fun _ => True) (by kernel_rfl) trivial (fun hHeld => ?_)
          generalize w3.drew = wd at *
          refine tkF (i := 0) (d := some 112) (v := ?_) rfl rfl (by kernel_rfl) (by kernel_rfl) (by kernel_rfl) (fun _ _ _ h => h) (Or.inl ⟨by rfl, ?_⟩) (by assumption) ?_
          rotate_left
          · intro w hSw; (try dsimp only at hSw); go_simp; try with_reducible rfl
          try simp only [Act.put, List.setIfInBounds_toArray, List.set_cons_zero, List.set_cons_succ]
          refine tkF (i := 1) (d := some 113) (v := ?_) rfl rfl (by kernel_rfl) (by kernel_rfl) (by kernel_rfl) (fun _ _ _ h => h) (Or.inl ⟨by rfl, ?_⟩) (by assumption) ?_
          rotate_left
          · intro w hSw; (try dsimp only at hSw); go_simp; try with_reducible rfl
          try simp only [Act.put, List.setIfInBounds_toArray, List.set_cons_zero, List.set_cons_succ]
          refine tkF (i := 2) (d := some 114) (v := ?_) rfl rfl (by kernel_rfl) (by kernel_rfl) (by kernel_rfl) (fun _ _ _ h => h) (Or.inl ⟨by rfl, ?_⟩) (by assumption) ?_
          rotate_left
          · intro w hSw; (try dsimp only at hSw); go_simp; try with_reducible rfl
          try simp only [Act.put, List.setIfInBounds_toArray, List.set_cons_zero, List.set_cons_succ]
          refine tkF (i := 3) (d := some 115) (v := ?_) rfl rfl (by kernel_rfl) (by kernel_rfl) (by kernel_rfl) (fun _ _ _ h => h) (Or.inl ⟨by rfl, ?_⟩) (by assumption) ?_
          rotate_left
          · intro w hSw; (try dsimp only at hSw); go_simp; try with_reducible rfl
          try simp only [Act.put, List.setIfInBounds_toArray, List.set_cons_zero, List.set_cons_succ]
          refine tkF (i := 5) (d := some 117) (v := ?_) rfl rfl (by kernel_rfl) (by kernel_rfl) (by kernel_rfl) (fun _ _ _ h => h) (Or.inl ⟨by rfl, ?_⟩) (by assumption) ?_
          rotate_left
          · intro w hSw; (try dsimp only at hSw); go_simp; try with_reducible rfl
          try simp only [Act.put, List.setIfInBounds_toArray, List.set_cons_zero, List.set_cons_succ]
          refine tkF (i := 6) (d := some 118) (v := ?_) rfl rfl (by kernel_rfl) (by kernel_rfl) (by kernel_rfl) (fun _ _ _ h => h) (Or.inl ⟨by rfl, ?_⟩) (by assumption) ?_
          rotate_left
          · intro w hSw; (try dsimp only at hSw); go_simp; try with_reducible rfl
          try simp only [Act.put, List.setIfInBounds_toArray, List.set_cons_zero, List.set_cons_succ]
          refine tkF (i := 10) (d := some 122) (v := ?_) rfl rfl (by kernel_rfl) (by kernel_rfl) (by kernel_rfl) (fun _ _ _ h => h) (Or.inl ⟨by rfl, ?_⟩) (by assumption) ?_
          rotate_left
          · intro w hSw; (try dsimp only at hSw); go_simp; try with_reducible rfl
          try simp only [Act.put, List.setIfInBounds_toArray, List.set_cons_zero, List.set_cons_succ]
          refine wpAnyH_ready (rs := [4, 7]) (by kernel_rfl) (by simp) (AllReadyH.cons rfl (fun Kq hK => ?_) (AllReadyH.cons rfl (fun Kq hK => ?_) AllReadyH.nil))
          · have cG : wd.cell? ⟨gv, 0, none⟩ = some (.slice ua m uc) := (World.cell?_of_block (a := ⟨gv, 0, none⟩) ((unhide BW) gv hgl hgs)).trans hcu
            go_simp
            refine hK.out _ _ trivial (fun hHeldZ => ?_)
            clear hK Kq
            try simp only [Act.put, List.setIfInBounds_toArray, List.set_cons_zero, List.set_cons_succ]
            clear cG
            refine wpAnyH_ready (rs := [7]) (by kernel_rfl) (by simp) (AllReadyH.cons rfl (fun Kq hK => ?_) AllReadyH.nil)
            have CN := hide (n_nat wd src a len cap size 2 (by omega) (by omega) hl (unhide PW).sr)
            go_simp
            go_at_call 21
            refine (unhide CN).mono ?_
            rintro e w5 ⟨r1, rfl, hr1, hs, hg⟩
            have hWl := (unhide PW).gr.size
            replace PW := hide ((unhide PW).draw hs hg)
            replace BW : Hid (∀ k, w.heap.size ≤ k → k < w3.heap.size → w5.heap[k]? = w3.heap[k]?) := hide (fun k h1 h2 => (hg.block k (by omega) (fun e => by injection e; omega)).trans ((unhide BW) k h1 h2))
            have hsX := hg.size
            replace hsW : w3.heap.size ≤ w5.heap.size := by omega
            obtain ⟨q, hq⟩ : ∃ q : Nat, 20 + r1 = q := ⟨_, rfl⟩
            have hq1 : (20 : Int) + (r1 : Int) = (q : Int) := by omega
            have hwq : IntKind.i64.wrap (q : Int) = (q : Int) := wrapF _ (by omega) (by omega)
            clear hs hg CN hsX hWl
            try go_wp2_with fail
            refine hK.out _ _ trivial (fun hHeldZ => ?_)
            clear hK Kq
            try simp only [Act.put, List.setIfInBounds_toArray, List.set_cons_zero, List.set_cons_succ]
            refine tkF (i := 8) (d := some 120) (v := ?_) rfl rfl (by kernel_rfl) (by kernel_rfl) (by kernel_rfl) (fun _ _ _ h => h) (Or.inl ⟨by rfl, ?_⟩) (by assumption) ?_
            rotate_left
            · intro w hSw; (try dsimp only at hSw); go_simp; try with_reducible rfl
            try simp only [Act.put, List.setIfInBounds_toArray, List.set_cons_zero, List.set_cons_succ]
            refine wpAnyH_ready (rs := [9]) (by kernel_rfl) (by simp) (AllReadyH.cons rfl (fun Kq hK => ?_) AllReadyH.nil)
            have CL := hide (long97 w5 src q (by omega) (by omega))
            go_simp
            go_at_call 30
            refine (unhide CL).mono ?_
            rintro e w6 ⟨x1, rfl, hx1, hb⟩
            have hgN : w5.grownBy w6 none := ⟨hb.os, hb.tape, hb.output, hb.size, fun k hk _ => hb.block k hk⟩
            replace PW := hide ((unhide PW).own hgN (fun k e => by cases e))
            replace BW : Hid (∀ k, w.heap.size ≤ k → k < w3.heap.size → w6.heap[k]? = w3.heap[k]?) := hide (fun k h1 h2 => (hb.block k (by omega)).trans ((unhide BW) k h1 h2))
            have hsX := hb.size
            replace hsW : w3.heap.size ≤ w6.heap.size := by omega
            clear hb CL hsX hgN
            try go_wp2_with fail
            refine hK.out _ _ trivial (fun hHeldZ => ?_)
            clear hK Kq
            try simp only [Act.put, List.setIfInBounds_toArray, List.set_cons_zero, List.set_cons_succ]
            refine wpAnyH_ready (rs := [11]) (by kernel_rfl) (by simp) (AllReadyH.cons rfl (fun Kq hK => ?_) AllReadyH.nil)
            have CN := hide (n_nat w6 src a len cap size 2 (by omega) (by omega) hl (unhide PW).sr)
            go_simp
            go_at_call 21
            refine (unhide CN).mono ?_
            rintro e w7 ⟨r2, rfl, hr2, hs, hg⟩
            have hWl := (unhide PW).gr.size
            replace PW := hide ((unhide PW).draw hs hg)
            replace BW : Hid (∀ k, w.heap.size ≤ k → k < w3.heap.size → w7.heap[k]? = w3.heap[k]?) := hide (fun k h1 h2 => (hg.block k (by omega) (fun e => by injection e; omega)).trans ((unhide BW) k h1 h2))
            have hsX := hg.size
            replace hsW : w3.heap.size ≤ w7.heap.size := by omega
            have hr20 : (0 : Int) ≤ (r2 : Int) := by omega
            have hr21 : (r2 : Int) ≤ 1 := by omega
            have hr22 : r2 ≤ 1 := by omega
            clear hs hg CN hsX hWl
            try go_wp2_with fail
            refine hK.out _ _ trivial (fun hHeldZ => ?_)
            clear hK Kq
            try simp only [Act.put, List.setIfInBounds_toArray, List.set_cons_zero, List.set_cons_succ]
            refine tkF (i := 12) (d := some 124) (v := ?_) rfl rfl (by kernel_rfl) (by kernel_rfl) (by kernel_rfl) (fun _ _ _ h => h) (Or.inl ⟨by rfl, ?_⟩) (by assumption) ?_
            rotate_left
            · intro w hSw; (try dsimp only at hSw); go_simp; try with_reducible rfl
            try simp only [Act.put, List.setIfInBounds_toArray, List.set_cons_zero, List.set_cons_succ]
            refine tkF (i := 13) (d := some 125) (v := ?_) rfl rfl (by kernel_rfl) (by kernel_rfl) (by kernel_rfl) (fun _ _ _ h => h) (Or.inl ⟨by rfl, ?_⟩) (by assumption) ?_
            rotate_left
            · intro w hSw; (try dsimp only at hSw); go_simp; try with_reducible rfl
            try simp only [Act.put, List.setIfInBounds_toArray, List.set_cons_zero, List.set_cons_succ]
            refine wpAnyH_ready (rs := [14]) (by kernel_rfl) (by simp) (AllReadyH.cons rfl (fun Kq hK => ?_) AllReadyH.nil)
            have N5 := hide (Pas.five_new w7 (⟨#[]⟩, x1, ⟨#[]⟩, ((⟨#[255]⟩ : ByteArray).extract 0 r2), 0) 40)
            replace PW := hide ((unhide PW).own (grown_alloc w7 (.cells #[.string ⟨#[]⟩, .string x1, .string ⟨#[]⟩, .string ((⟨#[255]⟩ : ByteArray).extract 0 r2), .int .i64 0] 40) none) (fun k e => by cases e))
            replace BW : Hid (∀ k, w.heap.size ≤ k → k < w3.heap.size → (w7.alloc (.cells #[.string ⟨#[]⟩, .string x1, .string ⟨#[]⟩, .string ((⟨#[255]⟩ : ByteArray).extract 0 r2), .int .i64 0] 40)).heap[k]? = w3.heap[k]?) := hide (fun k h1 h2 => (Below.heap_alloc w7 (.cells #[.string ⟨#[]⟩, .string x1, .string ⟨#[]⟩, .string ((⟨#[255]⟩ : ByteArray).extract 0 r2), .int .i64 0] 40) k (by omega)).trans ((unhide BW) k h1 h2))
            have hsX : w3.heap.size ≤ (w7.alloc (.cells #[.string ⟨#[]⟩, .string x1, .string ⟨#[]⟩, .string ((⟨#[255]⟩ : ByteArray).extract 0 r2), .int .i64 0] 40)).heap.size := by simp; omega
            have hsY : w7.heap.size < (w7.alloc (.cells #[.string ⟨#[]⟩, .string x1, .string ⟨#[]⟩, .string ((⟨#[255]⟩ : ByteArray).extract 0 r2), .int .i64 0] 40)).heap.size := by simp
            go_simp
            generalize hnm : w7.heap.size = rb at *
            generalize hww : w7.alloc (.cells #[.string ⟨#[]⟩, .string x1, .string ⟨#[]⟩, .string ((⟨#[255]⟩ : ByteArray).extract 0 r2), .int .i64 0] 40) = w8 at *
            have hrb := hsW
            clear hnm hww hsW
            have hsW := hsX
            clear hsX
            refine hK.out _ _ trivial (fun hHeldZ => ?_)
            clear hK Kq
            try simp only [Act.put, List.setIfInBounds_toArray, List.set_cons_zero, List.set_cons_succ]
            have O2 := hide (Pas.own_atP (w' := w8) (unhide O1) (fun n e => (unhide BW) n (hul n e).1 (hul n e).2))
            have HS2 := hide ((unhide SA) (⟨#[]⟩, x1, ⟨#[]⟩, ((⟨#[255]⟩ : ByteArray).extract 0 r2), 0) (ext_small hx1 hr22))
            refine wpAnyH_ready (rs := [15]) (by kernel_rfl) (by simp) (AllReadyH.cons rfl (fun Kq hK => ?_) AllReadyH.nil)
            refine Pas.step_appF (some 127) rfl rfl (.tmp 116) (.tmp 126) 35 rfl w.heap.size 40 i0 (.agg #[.string ⟨#[]⟩, .string ⟨#[]⟩, .string ⟨#[]⟩, .string ⟨#[]⟩, .int .i64 0]) 5 72 Tryd.underlying35 hi hz0 hz1 hz2 rfl (by decide) (.slice ua m uc) m xs (by rfl) (unhide O2) ⟨rb, 0, none⟩ 1 1 (Pas.cells5 (⟨#[]⟩, x1, ⟨#[]⟩, ((⟨#[255]⟩ : ByteArray).extract 0 r2), 0)) (by rfl) rfl (unhide N5) (Pas.five_one _) ?g3 ?g4 ?g5 ?_
            case g3 => unfold maxLen; omega
            case g4 => omega
            case g5 => omega
            intro v' w9 hown' hgrow hnew
            obtain ⟨g', cap', rfl⟩ := Pas.own_formF hown'
            have HG2 := hide ((unhide HA) w8 w9 _ (⟨#[]⟩, x1, ⟨#[]⟩, ((⟨#[255]⟩ : ByteArray).extract 0 r2), 0) hsW (unhide BW) hown' hgrow hnew)
            have hb9 : w9.heap[gv]? = w3.heap[gv]? := (hgrow.block gv (by omega) (fun e => huv e.symm)).trans ((unhide BW) gv hgl hgs)
            have d1 : w9.cell? ⟨gv, 0, none⟩ = some (.slice ua m uc) := (World.cell?_of_block (a := ⟨gv, 0, none⟩) hb9).trans hcu
            have d2 : w9.frozen? ⟨gv, 0, none⟩ = false := by rw [← hfu]; simp only [World.frozen?, hb9]
            have HQ2 := hide (((unhide PW).own hgrow (fun k e => (hul k e).1)).own (grown_set (src := gv) (j := 0) (u := .slice (some ⟨g', 0, none⟩) (m + 1) cap')) (fun k e => by injection e with e; omega))
            clear hown' hgrow hnew O2 hb9 BW PW HA
            refine hK.out _ _ trivial (fun hHeldZ => ?_)
            clear hK Kq
            try simp only [Act.put, List.setIfInBounds_toArray, List.set_cons_zero, List.set_cons_succ]
            refine tkF (i := 16) (d := some 128) (v := ?_) rfl rfl (by kernel_rfl) (by kernel_rfl) (by kernel_rfl) (fun _ _ _ h => h) (Or.inl ⟨by rfl, ?_⟩) (by assumption) ?_
            rotate_left
            · intro w hSw; (try dsimp only at hSw); go_simp; try with_reducible rfl
            try simp only [Act.put, List.setIfInBounds_toArray, List.set_cons_zero, List.set_cons_succ]
            refine tkF (i := 17) (d := some 129) (v := ?_) rfl rfl (by kernel_rfl) (by kernel_rfl) (by kernel_rfl) (fun _ _ _ h => h) (Or.inl ⟨by rfl, ?_⟩) (by assumption) ?_
            rotate_left
            · intro w hSw; (try dsimp only at hSw); go_simp; try with_reducible rfl
            try simp only [Act.put, List.setIfInBounds_toArray, List.set_cons_zero, List.set_cons_succ]
            refine wpAnyH_ready (rs := [18]) (by kernel_rfl) (by simp) (AllReadyH.cons rfl (fun Kq hK => ?_) AllReadyH.nil)
            go_simp
            refine hK.out _ _ trivial (fun hHeldZ => ?_)
            clear hK Kq
            try simp only [Act.put, List.setIfInBounds_toArray, List.set_cons_zero, List.set_cons_succ]
            refine wpAnyH_done (by kernel_rfl) ?_ _
            go_wp2
            go_ret
            exact ⟨_, _, rfl, by rw [World.size_setCell]; exact unhide HG2, unhide HS2, (unhide HQ2).sr, (unhide HQ2).gr⟩
          · have CN := hide (n_nat wd src a len cap size 2 (by omega) (by omega) hl (unhide PW).sr)
            go_simp
            go_at_call 21
            refine (unhide CN).mono ?_
            rintro e w4 ⟨r1, rfl, hr1, hs, hg⟩
            have hWl := (unhide PW).gr.size
            replace PW := hide ((unhide PW).draw hs hg)
            replace BW : Hid (∀ k, w.heap.size ≤ k → k < w3.heap.size → w4.heap[k]? = w3.heap[k]?) := hide (fun k h1 h2 => (hg.block k (by omega) (fun e => by injection e; omega)).trans ((unhide BW) k h1 h2))
            have hsX := hg.size
            replace hsW : w3.heap.size ≤ w4.heap.size := by omega
            obtain ⟨q, hq⟩ : ∃ q : Nat, 20 + r1 = q := ⟨_, rfl⟩
            have hq1 : (20 : Int) + (r1 : Int) = (q : Int) := by omega
            have hwq : IntKind.i64.wrap (q : Int) = (q : Int) := wrapF _ (by omega) (by omega)
            clear hs hg CN hsX hWl
            try go_wp2_with fail
            refine hK.out _ _ trivial (fun hHeldZ => ?_)
            clear hK Kq
            try simp only [Act.put, List.setIfInBounds_toArray, List.set_cons_zero, List.set_cons_succ]
            refine tkF (i := 8) (d := some 120) (v := ?_) rfl rfl (by kernel_rfl) (by kernel_rfl) (by kernel_rfl) (fun _ _ _ h => h) (Or.inl ⟨by rfl, ?_⟩) (by assumption) ?_
            rotate_left
            · intro w hSw; (try dsimp only at hSw); go_simp; try with_reducible rfl
            try simp only [Act.put, List.setIfInBounds_toArray, List.set_cons_zero, List.set_cons_succ]
            refine wpAnyH_ready (rs := [4, 9]) (by kernel_rfl) (by simp) (AllReadyH.cons rfl (fun Kq hK => ?_) (AllReadyH.cons rfl (fun Kq hK => ?_) AllReadyH.nil))
            · have cG : w4.cell? ⟨gv, 0, none⟩ = some (.slice ua m uc) := (World.cell?_of_block (a := ⟨gv, 0, none⟩) ((unhide BW) gv hgl hgs)).trans hcu
              go_simp
              refine hK.out _ _ trivial (fun hHeldZ => ?_)
              clear hK Kq
              try simp only [Act.put, List.setIfInBounds_toArray, List.set_cons_zero, List.set_cons_succ]
              clear cG
              refine wpAnyH_ready (rs := [9]) (by kernel_rfl) (by simp) (AllReadyH.cons rfl (fun Kq hK => ?_) AllReadyH.nil)
              have CL := hide (long97 w4 src q (by omega) (by omega))
              go_simp
              go_at_call 30
              refine (unhide CL).mono ?_
              rintro e w6 ⟨x1, rfl, hx1, hb⟩
              have hgN : w4.grownBy w6 none := ⟨hb.os, hb.tape, hb.output, hb.size, fun k hk _ => hb.block k hk⟩
              replace PW := hide ((unhide PW).own hgN (fun k e => by cases e))
              replace BW : Hid (∀ k, w.heap.size ≤ k → k < w3.heap.size → w6.heap[k]? = w3.heap[k]?) := hide (fun k h1 h2 => (hb.block k (by omega)).trans ((unhide BW) k h1 h2))
              have hsX := hb.size
              replace hsW : w3.heap.size ≤ w6.heap.size := by omega
              clear hb CL hsX hgN
              try go_wp2_with fail
              refine hK.out _ _ trivial (fun hHeldZ => ?_)
              clear hK Kq
              try simp only [Act.put, List.setIfInBounds_toArray, List.set_cons_zero, List.set_cons_succ]
              refine wpAnyH_ready (rs := [11]) (by kernel_rfl) (by simp) (AllReadyH.cons rfl (fun Kq hK => ?_) AllReadyH.nil)
              have CN := hide (n_nat w6 src a len cap size 2 (by omega) (by omega) hl (unhide PW).sr)
              go_simp
              go_at_call 21
              refine (unhide CN).mono ?_
              rintro e w7 ⟨r2, rfl, hr2, hs, hg⟩
              have hWl := (unhide PW).gr.size
              replace PW := hide ((unhide PW).draw hs hg)
              replace BW : Hid (∀ k, w.heap.size ≤ k → k < w3.heap.size → w7.heap[k]? = w3.heap[k]?) := hide (fun k h1 h2 => (hg.block k (by omega) (fun e => by injection e; omega)).trans ((unhide BW) k h1 h2))
              have hsX := hg.size
              replace hsW : w3.heap.size ≤ w7.heap.size := by omega
              have hr20 : (0 : Int) ≤ (r2 : Int) := by omega
              have hr21 : (r2 : Int) ≤ 1 := by omega
              have hr22 : r2 ≤ 1 := by omega
              clear hs hg CN hsX hWl
              try go_wp2_with fail
              refine hK.out _ _ trivial (fun hHeldZ => ?_)
              clear hK Kq
              try simp only [Act.put, List.setIfInBounds_toArray, List.set_cons_zero, List.set_cons_succ]
              refine tkF (i := 12) (d := some 124) (v := ?_) rfl rfl (by kernel_rfl) (by kernel_rfl) (by kernel_rfl) (fun _ _ _ h => h) (Or.inl ⟨by rfl, ?_⟩) (by assumption) ?_
              rotate_left
              · intro w hSw; (try dsimp only at hSw); go_simp; try with_reducible rfl
              try simp only [Act.put, List.setIfInBounds_toArray, List.set_cons_zero, List.set_cons_succ]
              refine tkF (i := 13) (d := some 125) (v := ?_) rfl rfl (by kernel_rfl) (by kernel_rfl) (by kernel_rfl) (fun _ _ _ h => h) (Or.inl ⟨by rfl, ?_⟩) (by assumption) ?_
              rotate_left
              · intro w hSw; (try dsimp only at hSw); go_simp; try with_reducible rfl
              try simp only [Act.put, List.setIfInBounds_toArray, List.set_cons_zero, List.set_cons_succ]
              refine wpAnyH_ready (rs := [14]) (by kernel_rfl) (by simp) (AllReadyH.cons rfl (fun Kq hK => ?_) AllReadyH.nil)
              have N5 := hide (Pas.five_new w7 (⟨#[]⟩, x1, ⟨#[]⟩, ((⟨#[255]⟩ : ByteArray).extract 0 r2), 0) 40)
              replace PW := hide ((unhide PW).own (grown_alloc w7 (.cells #[.string ⟨#[]⟩, .string x1, .string ⟨#[]⟩, .string ((⟨#[255]⟩ : ByteArray).extract 0 r2), .int .i64 0] 40) none) (fun k e => by cases e))
              replace BW : Hid (∀ k, w.heap.size ≤ k → k < w3.heap.size → (w7.alloc (.cells #[.string ⟨#[]⟩, .string x1, .string ⟨#[]⟩, .string ((⟨#[255]⟩ : ByteArray).extract 0 r2), .int .i64 0] 40)).heap[k]? = w3.heap[k]?) := hide (fun k h1 h2 => (Below.heap_alloc w7 (.cells #[.string ⟨#[]⟩, .string x1, .string ⟨#[]⟩, .string ((⟨#[255]⟩ : ByteArray).extract 0 r2), .int .i64 0] 40) k (by omega)).trans ((unhide BW) k h1 h2))
              have hsX : w3.heap.size ≤ (w7.alloc (.cells #[.string ⟨#[]⟩, .string x1, .string ⟨#[]⟩, .string ((⟨#[255]⟩ : ByteArray).extract 0 r2), .int .i64 0] 40)).heap.size := by simp; omega
              have hsY : w7.heap.size < (w7.alloc (.cells #[.string ⟨#[]⟩, .string x1, .string ⟨#[]⟩, .string ((⟨#[255]⟩ : ByteArray).extract 0 r2), .int .i64 0] 40)).heap.size := by simp
              go_simp
              generalize hnm : w7.heap.size = rb at *
              generalize hww : w7.alloc (.cells #[.string ⟨#[]⟩, .string x1, .string ⟨#[]⟩, .string ((⟨#[255]⟩ : ByteArray).extract 0 r2), .int .i64 0] 40) = w8 at *
              have hrb := hsW
              clear hnm hww hsW
              have hsW := hsX
              clear hsX
              refine hK.out _ _ trivial (fun hHeldZ => ?_)
              clear hK Kq
              try simp only [Act.put, List.setIfInBounds_toArray, List.set_cons_zero, List.set_cons_succ]
              have O2 := hide (Pas.own_atP (w' := w8) (unhide O1) (fun n e => (unhide BW) n (hul n e).1 (hul n e).2))
              have HS2 := hide ((unhide SA) (⟨#[]⟩, x1, ⟨#[]⟩, ((⟨#[255]⟩ : ByteArray).extract 0 r2), 0) (ext_small hx1 hr22))
              refine wpAnyH_ready (rs := [15]) (by kernel_rfl) (by simp) (AllReadyH.cons rfl (fun Kq hK => ?_) AllReadyH.nil)
              refine Pas.step_appF (some 127) rfl rfl (.tmp 116) (.tmp 126) 35 rfl w.heap.size 40 i0 (.agg #[.string ⟨#[]⟩, .string ⟨#[]⟩, .string ⟨#[]⟩, .string ⟨#[]⟩, .int .i64 0]) 5 72 Tryd.underlying35 hi hz0 hz1 hz2 rfl (by decide) (.slice ua m uc) m xs (by rfl) (unhide O2) ⟨rb, 0, none⟩ 1 1 (Pas.cells5 (⟨#[]⟩, x1, ⟨#[]⟩, ((⟨#[255]⟩ : ByteArray).extract 0 r2), 0)) (by rfl) rfl (unhide N5) (Pas.five_one _) ?g3 ?g4 ?g5 ?_
              case g3 => unfold maxLen; omega
              case g4 => omega
              case g5 => omega
              intro v' w9 hown' hgrow hnew
              obtain ⟨g', cap', rfl⟩ := Pas.own_formF hown'
              have HG2 := hide ((unhide HA) w8 w9 _ (⟨#[]⟩, x1, ⟨#[]⟩, ((⟨#[255]⟩ : ByteArray).extract 0 r2), 0) hsW (unhide BW) hown' hgrow hnew)
              have hb9 : w9.heap[gv]? = w3.heap[gv]? := (hgrow.block gv (by omega) (fun e => huv e.symm)).trans ((unhide BW) gv hgl hgs)
              have d1 : w9.cell? ⟨gv, 0, none⟩ = some (.slice ua m uc) := (World.cell?_of_block (a := ⟨gv, 0, none⟩) hb9).trans hcu
              have d2 : w9.frozen? ⟨gv, 0, none⟩ = false := by rw [← hfu]; simp only [World.frozen?, hb9]
              have HQ2 := hide (((unhide PW).own hgrow (fun k e => (hul k e).1)).own (grown_set (src := gv) (j := 0) (u := .slice (some ⟨g', 0, none⟩) (m + 1) cap')) (fun k e => by injection e with e; omega))
              clear hown' hgrow hnew O2 hb9 BW PW HA
              refine hK.out _ _ trivial (fun hHeldZ => ?_)
              clear hK Kq
              try simp only [Act.put, List.setIfInBounds_toArray, List.set_cons_zero, List.set_cons_succ]
              refine tkF (i := 16) (d := some 128) (v := ?_) rfl rfl (by kernel_rfl) (by kernel_rfl) (by kernel_rfl) (fun _ _ _ h => h) (Or.inl ⟨by rfl, ?_⟩) (by assumption) ?_
              rotate_left
              · intro w hSw; (try dsimp only at hSw); go_simp; try with_reducible rfl
              try simp only [Act.put, List.setIfInBounds_toArray, List.set_cons_zero, List.set_cons_succ]
              refine tkF (i := 17) (d := some 129) (v := ?_) rfl rfl (by kernel_rfl) (by kernel_rfl) (by kernel_rfl) (fun _ _ _ h => h) (Or.inl ⟨by rfl, ?_⟩) (by assumption) ?_
              rotate_left
              · intro w hSw; (try dsimp only at hSw); go_simp; try with_reducible rfl
              try simp only [Act.put, List.setIfInBounds_toArray, List.set_cons_zero, List.set_cons_succ]
              refine wpAnyH_ready (rs := [18]) (by kernel_rfl) (by simp) (AllReadyH.cons rfl (fun Kq hK => ?_) AllReadyH.nil)
              go_simp
              refine hK.out _ _ trivial (fun hHeldZ => ?_)
              clear hK Kq
              try simp only [Act.put, List.setIfInBounds_toArray, List.set_cons_zero, List.set_cons_succ]
              refine wpAnyH_done (by kernel_rfl) ?_ _
              go_wp2
              go_ret
              exact ⟨_, _, rfl, by rw [World.size_setCell]; exact unhide HG2, unhide HS2, (unhide HQ2).sr, (unhide HQ2).gr⟩
            · have CL := hide (long97 w4 src q (by omega) (by omega))
              go_simp
              go_at_call 30
              refine (unhide CL).mono ?_
              rintro e w5 ⟨x1, rfl, hx1, hb⟩
              have hgN : w4.grownBy w5 none := ⟨hb.os, hb.tape, hb.output, hb.size, fun k hk _ => hb.block k hk⟩
              replace PW := hide ((unhide PW).own hgN (fun k e => by cases e))
              replace BW : Hid (∀ k, w.heap.size ≤ k → k < w3.heap.size → w5.heap[k]? = w3.heap[k]?) := hide (fun k h1 h2 => (hb.block k (by omega)).trans ((unhide BW) k h1 h2))
              have hsX := hb.size
              replace hsW : w3.heap.size ≤ w5.heap.size := by omega
              clear hb CL hsX hgN
              try go_wp2_with fail
              refine hK.out _ _ trivial (fun hHeldZ => ?_)
              clear hK Kq
              try simp only [Act.put, List.setIfInBounds_toArray, List.set_cons_zero, List.set_cons_succ]
              refine wpAnyH_ready (rs := [4, 11]) (by kernel_rfl) (by simp) (AllReadyH.cons rfl (fun Kq hK => ?_) (AllReadyH.cons rfl (fun Kq hK => ?_) AllReadyH.nil))
              · have cG : w5.cell? ⟨gv, 0, none⟩ = some (.slice ua m uc) := (World.cell?_of_block (a := ⟨gv, 0, none⟩) ((unhide BW) gv hgl hgs)).trans hcu
                go_simp
                refine hK.out _ _ trivial (fun hHeldZ => ?_)
                clear hK Kq
                try simp only [Act.put, List.setIfInBounds_toArray, List.set_cons_zero, List.set_cons_succ]
                clear cG
                refine wpAnyH_ready (rs := [11]) (by kernel_rfl) (by simp) (AllReadyH.cons rfl (fun Kq hK => ?_) AllReadyH.nil)
                have CN := hide (n_nat w5 src a len cap size 2 (by omega) (by omega) hl (unhide PW).sr)
                go_simp
                go_at_call 21
                refine (unhide CN).mono ?_
                rintro e w7 ⟨r2, rfl, hr2, hs, hg⟩
                have hWl := (unhide PW).gr.size
                replace PW := hide ((unhide PW).draw hs hg)
                replace BW : Hid (∀ k, w.heap.size ≤ k → k < w3.heap.size → w7.heap[k]? = w3.heap[k]?) := hide (fun k h1 h2 => (hg.block k (by omega) (fun e => by injection e; omega)).trans ((unhide BW) k h1 h2))
                have hsX := hg.size
                replace hsW : w3.heap.size ≤ w7.heap.size := by omega
                have hr20 : (0 : Int) ≤ (r2 : Int) := by omega
                have hr21 : (r2 : Int) ≤ 1 := by omega
                have hr22 : r2 ≤ 1 := by omega
                clear hs hg CN hsX hWl
                try go_wp2_with fail
                refine hK.out _ _ trivial (fun hHeldZ => ?_)
                clear hK Kq
                try simp only [Act.put, List.setIfInBounds_toArray, List.set_cons_zero, List.set_cons_succ]
                refine tkF (i := 12) (d := some 124) (v := ?_) rfl rfl (by kernel_rfl) (by kernel_rfl) (by kernel_rfl) (fun _ _ _ h => h) (Or.inl ⟨by rfl, ?_⟩) (by assumption) ?_
                rotate_left
                · intro w hSw; (try dsimp only at hSw); go_simp; try with_reducible rfl
                try simp only [Act.put, List.setIfInBounds_toArray, List.set_cons_zero, List.set_cons_succ]
                refine tkF (i := 13) (d := some 125) (v := ?_) rfl rfl (by kernel_rfl) (by kernel_rfl) (by kernel_rfl) (fun _ _ _ h => h) (Or.inl ⟨by rfl, ?_⟩) (by assumption) ?_
                rotate_left
                · intro w hSw; (try dsimp only at hSw); go_simp; try with_reducible rfl
                try simp only [Act.put, List.setIfInBounds_toArray, List.set_cons_zero, List.set_cons_succ]
                refine wpAnyH_ready (rs := [14]) (by kernel_rfl) (by simp) (AllReadyH.cons rfl (fun Kq hK => ?_) AllReadyH.nil)
                have N5 := hide (Pas.five_new w7 (⟨#[]⟩, x1, ⟨#[]⟩, ((⟨#[255]⟩ : ByteArray).extract 0 r2), 0) 40)
                replace PW := hide ((unhide PW).own (grown_alloc w7 (.cells #[.string ⟨#[]⟩, .string x1, .string ⟨#[]⟩, .string ((⟨#[255]⟩ : ByteArray).extract 0 r2), .int .i64 0] 40) none) (fun k e => by cases e))
                replace BW : Hid (∀ k, w.heap.size ≤ k → k < w3.heap.size → (w7.alloc (.cells #[.string ⟨#[]⟩, .string x1, .string ⟨#[]⟩, .string ((⟨#[255]⟩ : ByteArray).extract 0 r2), .int .i64 0] 40)).heap[k]? = w3.heap[k]?) := hide (fun k h1 h2 => (Below.heap_alloc w7 (.cells #[.string ⟨#[]⟩, .string x1, .string ⟨#[]⟩, .string ((⟨#[255]⟩ : ByteArray).extract 0 r2), .int .i64 0] 40) k (by omega)).trans ((unhide BW) k h1 h2))
                have hsX : w3.heap.size ≤ (w7.alloc (.cells #[.string ⟨#[]⟩, .string x1, .string ⟨#[]⟩, .string ((⟨#[255]⟩ : ByteArray).extract 0 r2), .int .i64 0] 40)).heap.size := by simp; omega
                have hsY : w7.heap.size < (w7.alloc (.cells #[.string ⟨#[]⟩, .string x1, .string ⟨#[]⟩, .string ((⟨#[255]⟩ : ByteArray).extract 0 r2), .int .i64 0] 40)).heap.size := by simp
                go_simp
                generalize hnm : w7.heap.size = rb at *
                generalize hww : w7.alloc (.cells #[.string ⟨#[]⟩, .string x1, .string ⟨#[]⟩, .string ((⟨#[255]⟩ : ByteArray).extract 0 r2), .int .i64 0] 40) = w8 at *
                have hrb := hsW
                clear hnm hww hsW
                have hsW := hsX
                clear hsX
                refine hK.out _ _ trivial (fun hHeldZ => ?_)
                clear hK Kq
                try simp only [Act.put, List.setIfInBounds_toArray, List.set_cons_zero, List.set_cons_succ]
                have O2 := hide (Pas.own_atP (w' := w8) (unhide O1) (fun n e => (unhide BW) n (hul n e).1 (hul n e).2))
                have HS2 := hide ((unhide SA) (⟨#[]⟩, x1, ⟨#[]⟩, ((⟨#[255]⟩ : ByteArray).extract 0 r2), 0) (ext_small hx1 hr22))
                refine wpAnyH_ready (rs := [15]) (by kernel_rfl) (by simp) (AllReadyH.cons rfl (fun Kq hK => ?_) AllReadyH.nil)
                refine Pas.step_appF (some 127) rfl rfl (.tmp 116) (.tmp 126) 35 rfl w.heap.size 40 i0 (.agg #[.string ⟨#[]⟩, .string ⟨#[]⟩, .string ⟨#[]⟩, .string ⟨#[]⟩, .int .i64 0]) 5 72 Tryd.underlying35 hi hz0 hz1 hz2 rfl (by decide) (.slice ua m uc) m xs (by rfl) (unhide O2) ⟨rb, 0, none⟩ 1 1 (Pas.cells5 (⟨#[]⟩, x1, ⟨#[]⟩, ((⟨#[255]⟩ : ByteArray).extract 0 r2), 0)) (by rfl) rfl (unhide N5) (Pas.five_one _) ?g3 ?g4 ?g5 ?_
                case g3 => unfold maxLen; omega
                case g4 => omega
                case g5 => omega
                intro v' w9 hown' hgrow hnew
                obtain ⟨g', cap', rfl⟩ := Pas.own_formF hown'
                have HG2 := hide ((unhide HA) w8 w9 _ (⟨#[]⟩, x1, ⟨#[]⟩, ((⟨#[255]⟩ : ByteArray).extract 0 r2), 0) hsW (unhide BW) hown' hgrow hnew)
                have hb9 : w9.heap[gv]? = w3.heap[gv]? := (hgrow.block gv (by omega) (fun e => huv e.symm)).trans ((unhide BW) gv hgl hgs)
                have d1 : w9.cell? ⟨gv, 0, none⟩ = some (.slice ua m uc) := (World.cell?_of_block (a := ⟨gv, 0, none⟩) hb9).trans hcu
                have d2 : w9.frozen? ⟨gv, 0, none⟩ = false := by rw [← hfu]; simp only [World.frozen?, hb9]
                have HQ2 := hide (((unhide PW).own hgrow (fun k e => (hul k e).1)).own (grown_set (src := gv) (j := 0) (u := .slice (some ⟨g', 0, none⟩) (m + 1) cap')) (fun k e => by injection e with e; omega))
                clear hown' hgrow hnew O2 hb9 BW PW HA
                refine hK.out _ _ trivial (fun hHeldZ => ?_)
                clear hK Kq
                try simp only [Act.put, List.setIfInBounds_toArray, List.set_cons_zero, List.set_cons_succ]
                refine tkF (i := 16) (d := some 128) (v := ?_) rfl rfl (by kernel_rfl) (by kernel_rfl) (by kernel_rfl) (fun _ _ _ h => h) (Or.inl ⟨by rfl, ?_⟩) (by assumption) ?_
                rotate_left
                · intro w hSw; (try dsimp only at hSw); go_simp; try with_reducible rfl
                try simp only [Act.put, List.setIfInBounds_toArray, List.set_cons_zero, List.set_cons_succ]
                refine tkF (i := 17) (d := some 129) (v := ?_) rfl rfl (by kernel_rfl) (by kernel_rfl) (by kernel_rfl) (fun _ _ _ h => h) (Or.inl ⟨by rfl, ?_⟩) (by assumption) ?_
                rotate_left
                · intro w hSw; (try dsimp only at hSw); go_simp; try with_reducible rfl
                try simp only [Act.put, List.setIfInBounds_toArray, List.set_cons_zero, List.set_cons_succ]
                refine wpAnyH_ready (rs := [18]) (by kernel_rfl) (by simp) (AllReadyH.cons rfl (fun Kq hK => ?_) AllReadyH.nil)
                go_simp
                refine hK.out _ _ trivial (fun hHeldZ => ?_)
                clear hK Kq
                try simp only [Act.put, List.setIfInBounds_toArray, List.set_cons_zero, List.set_cons_succ]
                refine wpAnyH_done (by kernel_rfl) ?_ _
                go_wp2
                go_ret
                exact ⟨_, _, rfl, by rw [World.size_setCell]; exact unhide HG2, unhide HS2, (unhide HQ2).sr, (unhide HQ2).gr⟩
              · have CN := hide (n_nat w5 src a len cap size 2 (by omega) (by omega) hl (unhide PW).sr)
                go_simp
                go_at_call 21
                refine (unhide CN).mono ?_
                rintro e w6 ⟨r2, rfl, hr2, hs, hg⟩
                have hWl := (unhide PW).gr.size
                replace PW := hide ((unhide PW).draw hs hg)
                replace BW : Hid (∀ k, w.heap.size ≤ k → k < w3.heap.size → w6.heap[k]? = w3.heap[k]?) := hide (fun k h1 h2 => (hg.block k (by omega) (fun e => by injection e; omega)).trans ((unhide BW) k h1 h2))
                have hsX := hg.size
                replace hsW : w3.heap.size ≤ w6.heap.size := by omega
                have hr20 : (0 : Int) ≤ (r2 : Int) := by omega
                have hr21 : (r2 : Int) ≤ 1 := by omega
                have hr22 : r2 ≤ 1 := by omega
                clear hs hg CN hsX hWl
                try go_wp2_with fail
                refine hK.out _ _ trivial (fun hHeldZ => ?_)
                clear hK Kq
                try simp only [Act.put, List.setIfInBounds_toArray, List.set_cons_zero, List.set_cons_succ]
                refine tkF (i := 12) (d := some 124) (v := ?_) rfl rfl (by kernel_rfl) (by kernel_rfl) (by kernel_rfl) (fun _ _ _ h => h) (Or.inl ⟨by rfl, ?_⟩) (by assumption) ?_
                rotate_left
                · intro w hSw; (try dsimp only at hSw); go_simp; try with_reducible rfl
                try simp only [Act.put, List.setIfInBounds_toArray, List.set_cons_zero, List.set_cons_succ]
                refine tkF (i := 13) (d := some 125) (v := ?_) rfl rfl (by kernel_rfl) (by kernel_rfl) (by kernel_rfl) (fun _ _ _ h => h) (Or.inl ⟨by rfl, ?_⟩) (by assumption) ?_
                rotate_left
                · intro w hSw; (try dsimp only at hSw); go_simp; try with_reducible rfl
                try simp only [Act.put, List.setIfInBounds_toArray, List.set_cons_zero, List.set_cons_succ]
                refine wpAnyH_ready (rs := [4, 14]) (by kernel_rfl) (by simp) (AllReadyH.cons rfl (fun Kq hK => ?_) (AllReadyH.cons rfl (fun Kq hK => ?_) AllReadyH.nil))
                · have cG : w6.cell? ⟨gv, 0, none⟩ = some (.slice ua m uc) := (World.cell?_of_block (a := ⟨gv, 0, none⟩) ((unhide BW) gv hgl hgs)).trans hcu
                  go_simp
                  refine hK.out _ _ trivial (fun hHeldZ => ?_)
                  clear hK Kq
                  try simp only [Act.put, List.setIfInBounds_toArray, List.set_cons_zero, List.set_cons_succ]
                  clear cG
                  refine wpAnyH_ready (rs := [14]) (by kernel_rfl) (by simp) (AllReadyH.cons rfl (fun Kq hK => ?_) AllReadyH.nil)
                  have N5 := hide (Pas.five_new w6 (⟨#[]⟩, x1, ⟨#[]⟩, ((⟨#[255]⟩ : ByteArray).extract 0 r2), 0) 40)
                  replace PW := hide ((unhide PW).own (grown_alloc w6 (.cells #[.string ⟨#[]⟩, .string x1, .string ⟨#[]⟩, .string ((⟨#[255]⟩ : ByteArray).extract 0 r2), .int .i64 0] 40) none) (fun k e => by cases e))
                  replace BW : Hid (∀ k, w.heap.size ≤ k → k < w3.heap.size → (w6.alloc (.cells #[.string ⟨#[]⟩, .string x1, .string ⟨#[]⟩, .string ((⟨#[255]⟩ : ByteArray).extract 0 r2), .int .i64 0] 40)).heap[k]? = w3.heap[k]?) := hide (fun k h1 h2 => (Below.heap_alloc w6 (.cells #[.string ⟨#[]⟩, .string x1, .string ⟨#[]⟩, .string ((⟨#[255]⟩ : ByteArray).extract 0 r2), .int .i64 0] 40) k (by omega)).trans ((unhide BW) k h1 h2))
                  have hsX : w3.heap.size ≤ (w6.alloc (.cells #[.string ⟨#[]⟩, .string x1, .string ⟨#[]⟩, .string ((⟨#[255]⟩ : ByteArray).extract 0 r2), .int .i64 0] 40)).heap.size := by simp; omega
                  have hsY : w6.heap.size < (w6.alloc (.cells #[.string ⟨#[]⟩, .string x1, .string ⟨#[]⟩, .string ((⟨#[255]⟩ : ByteArray).extract 0 r2), .int .i64 0] 40)).heap.size := by simp
                  go_simp
                  generalize hnm : w6.heap.size = rb at *
                  generalize hww : w6.alloc (.cells #[.string ⟨#[]⟩, .string x1, .string ⟨#[]⟩, .string ((⟨#[255]⟩ : ByteArray).extract 0 r2), .int .i64 0] 40) = w8 at *
                  have hrb := hsW
                  clear hnm hww hsW
                  have hsW := hsX
                  clear hsX
                  refine hK.out _ _ trivial (fun hHeldZ => ?_)
                  clear hK Kq
                  try simp only [Act.put, List.setIfInBounds_toArray, List.set_cons_zero, List.set_cons_succ]
                  have O2 := hide (Pas.own_atP (w' := w8) (unhide O1) (fun n e => (unhide BW) n (hul n e).1 (hul n e).2))
                  have HS2 := hide ((unhide SA) (⟨#[]⟩, x1, ⟨#[]⟩, ((⟨#[255]⟩ : ByteArray).extract 0 r2), 0) (ext_small hx1 hr22))
                  refine wpAnyH_ready (rs := [15]) (by kernel_rfl) (by simp) (AllReadyH.cons rfl (fun Kq hK => ?_) AllReadyH.nil)
                  refine Pas.step_appF (some 127) rfl rfl (.tmp 116) (.tmp 126) 35 rfl w.heap.size 40 i0 (.agg #[.string ⟨#[]⟩, .string ⟨#[]⟩, .string ⟨#[]⟩, .string ⟨#[]⟩, .int .i64 0]) 5 72 Tryd.underlying35 hi hz0 hz1 hz2 rfl (by decide) (.slice ua m uc) m xs (by rfl) (unhide O2) ⟨rb, 0, none⟩ 1 1 (Pas.cells5 (⟨#[]⟩, x1, ⟨#[]⟩, ((⟨#[255]⟩ : ByteArray).extract 0 r2), 0)) (by rfl) rfl (unhide N5) (Pas.five_one _) ?g3 ?g4 ?g5 ?_
                  case g3 => unfold maxLen; omega
                  case g4 => omega
                  case g5 => omega
                  intro v' w9 hown' hgrow hnew
                  obtain ⟨g', cap', rfl⟩ := Pas.own_formF hown'
                  have HG2 := hide ((unhide HA) w8 w9 _ (⟨#[]⟩, x1, ⟨#[]⟩, ((⟨#[255]⟩ : ByteArray).extract 0 r2), 0) hsW (unhide BW) hown' hgrow hnew)
                  have hb9 : w9.heap[gv]? = w3.heap[gv]? := (hgrow.block gv (by omega) (fun e => huv e.symm)).trans ((unhide BW) gv hgl hgs)
                  have d1 : w9.cell? ⟨gv, 0, none⟩ = some (.slice ua m uc) := (World.cell?_of_block (a := ⟨gv, 0, none⟩) hb9).trans hcu
                  have d2 : w9.frozen? ⟨gv, 0, none⟩ = false := by rw [← hfu]; simp only [World.frozen?, hb9]
                  have HQ2 := hide (((unhide PW).own hgrow (fun k e => (hul k e).1)).own (grown_set (src := gv) (j := 0) (u := .slice (some ⟨g', 0, none⟩) (m + 1) cap')) (fun k e => by injection e with e; omega))
                  clear hown' hgrow hnew O2 hb9 BW PW HA
                  refine hK.out _ _ trivial (fun hHeldZ => ?_)
                  clear hK Kq
                  try simp only [Act.put, List.setIfInBounds_toArray, List.set_cons_zero, List.set_cons_succ]
                  refine tkF (i := 16) (d := some 128) (v := ?_) rfl rfl (by kernel_rfl) (by kernel_rfl) (by kernel_rfl) (fun _ _ _ h => h) (Or.inl ⟨by rfl, ?_⟩) (by assumption) ?_
                  rotate_left
                  · intro w hSw; (try dsimp only at hSw); go_simp; try with_reducible rfl
                  try simp only [Act.put, List.setIfInBounds_toArray, List.set_cons_zero, List.set_cons_succ]
                  refine tkF (i := 17) (d := some 129) (v := ?_) rfl rfl (by kernel_rfl) (by kernel_rfl) (by kernel_rfl) (fun _ _ _ h => h) (Or.inl ⟨by rfl, ?_⟩) (by assumption) ?_
                  rotate_left
                  · intro w hSw; (try dsimp only at hSw); go_simp; try with_reducible rfl
                  try simp only [Act.put, List.setIfInBounds_toArray, List.set_cons_zero, List.set_cons_succ]
                  refine wpAnyH_ready (rs := [18]) (by kernel_rfl) (by simp) (AllReadyH.cons rfl (fun Kq hK => ?_) AllReadyH.nil)
                  go_simp
                  refine hK.out _ _ trivial (fun hHeldZ => ?_)
                  clear hK Kq
                  try simp only [Act.put, List.setIfInBounds_toArray, List.set_cons_zero, List.set_cons_succ]
                  refine wpAnyH_done (by kernel_rfl) ?_ _
                  go_wp2
                  go_ret
                  exact ⟨_, _, rfl, by rw [World.size_setCell]; exact unhide HG2, unhide HS2, (unhide HQ2).sr, (unhide HQ2).gr⟩
                · have N5 := hide (Pas.five_new w6 (⟨#[]⟩, x1, ⟨#[]⟩, ((⟨#[255]⟩ : ByteArray).extract 0 r2), 0) 40)
                  replace PW := hide ((unhide PW).own (grown_alloc w6 (.cells #[.string ⟨#[]⟩, .string x1, .string ⟨#[]⟩, .string ((⟨#[255]⟩ : ByteArray).extract 0 r2), .int .i64 0] 40) none) (fun k e => by cases e))
                  replace BW : Hid (∀ k, w.heap.size ≤ k → k < w3.heap.size → (w6.alloc (.cells #[.string ⟨#[]⟩, .string x1, .string ⟨#[]⟩, .string ((⟨#[255]⟩ : ByteArray).extract 0 r2), .int .i64 0] 40)).heap[k]? = w3.heap[k]?) := hide (fun k h1 h2 => (Below.heap_alloc w6 (.cells #[.string ⟨#[]⟩, .string x1, .string ⟨#[]⟩, .string ((⟨#[255]⟩ : ByteArray).extract 0 r2), .int .i64 0] 40) k (by omega)).trans ((unhide BW) k h1 h2))
                  have hsX : w3.heap.size ≤ (w6.alloc (.cells #[.string ⟨#[]⟩, .string x1, .string ⟨#[]⟩, .string ((⟨#[255]⟩ : ByteArray).extract 0 r2), .int .i64 0] 40)).heap.size := by simp; omega
                  have hsY : w6.heap.size < (w6.alloc (.cells #[.string ⟨#[]⟩, .string x1, .string ⟨#[]⟩, .string ((⟨#[255]⟩ : ByteArray).extract 0 r2), .int .i64 0] 40)).heap.size := by simp
                  go_simp
                  generalize hnm : w6.heap.size = rb at *
                  generalize hww : w6.alloc (.cells #[.string ⟨#[]⟩, .string x1, .string ⟨#[]⟩, .string ((⟨#[255]⟩ : ByteArray).extract 0 r2), .int .i64 0] 40) = w7 at *
                  have hrb := hsW
                  clear hnm hww hsW
                  have hsW := hsX
                  clear hsX
                  refine hK.out _ _ trivial (fun hHeldZ => ?_)
                  clear hK Kq
                  try simp only [Act.put, List.setIfInBounds_toArray, List.set_cons_zero, List.set_cons_succ]
                  refine wpAnyH_ready (rs := [4]) (by kernel_rfl) (by simp) (AllReadyH.cons rfl (fun Kq hK => ?_) AllReadyH.nil)
                  have cG : w7.cell? ⟨gv, 0, none⟩ = some (.slice ua m uc) := (World.cell?_of_block (a := ⟨gv, 0, none⟩) ((unhide BW) gv hgl hgs)).trans hcu
                  go_simp
                  refine hK.out _ _ trivial (fun hHeldZ => ?_)
                  clear hK Kq
                  try simp only [Act.put, List.setIfInBounds_toArray, List.set_cons_zero, List.set_cons_succ]
                  clear cG
                  have O2 := hide (Pas.own_atP (w' := w7) (unhide O1) (fun n e => (unhide BW) n (hul n e).1 (hul n e).2))
                  have HS2 := hide ((unhide SA) (⟨#[]⟩, x1, ⟨#[]⟩, ((⟨#[255]⟩ : ByteArray).extract 0 r2), 0) (ext_small hx1 hr22))
                  refine wpAnyH_ready (rs := [15]) (by kernel_rfl) (by simp) (AllReadyH.cons rfl (fun Kq hK => ?_) AllReadyH.nil)
                  refine Pas.step_appF (some 127) rfl rfl (.tmp 116) (.tmp 126) 35 rfl w.heap.size 40 i0 (.agg #[.string ⟨#[]⟩, .string ⟨#[]⟩, .string ⟨#[]⟩, .string ⟨#[]⟩, .int .i64 0]) 5 72 Tryd.underlying35 hi hz0 hz1 hz2 rfl (by decide) (.slice ua m uc) m xs (by rfl) (unhide O2) ⟨rb, 0, none⟩ 1 1 (Pas.cells5 (⟨#[]⟩, x1, ⟨#[]⟩, ((⟨#[255]⟩ : ByteArray).extract 0 r2), 0)) (by rfl) rfl (unhide N5) (Pas.five_one _) ?g3 ?g4 ?g5 ?_
                  case g3 => unfold maxLen; omega
                  case g4 => omega
                  case g5 => omega
                  intro v' w9 hown' hgrow hnew
                  obtain ⟨g', cap', rfl⟩ := Pas.own_formF hown'
                  have HG2 := hide ((unhide HA) w7 w9 _ (⟨#[]⟩, x1, ⟨#[]⟩, ((⟨#[255]⟩ : ByteArray).extract 0 r2), 0) hsW (unhide BW) hown' hgrow hnew)
                  have hb9 : w9.heap[gv]? = w3.heap[gv]? := (hgrow.block gv (by omega) (fun e => huv e.symm)).trans ((unhide BW) gv hgl hgs)
                  have d1 : w9.cell? ⟨gv, 0, none⟩ = some (.slice ua m uc) := (World.cell?_of_block (a := ⟨gv, 0, none⟩) hb9).trans hcu
                  have d2 : w9.frozen? ⟨gv, 0, none⟩ = false := by rw [← hfu]; simp only [World.frozen?, hb9]
                  have HQ2 := hide (((unhide PW).own hgrow (fun k e => (hul k e).1)).own (grown_set (src := gv) (j := 0) (u := .slice (some ⟨g', 0, none⟩) (m + 1) cap')) (fun k e => by injection e with e; omega))
                  clear hown' hgrow hnew O2 hb9 BW PW HA
                  refine hK.out _ _ trivial (fun hHeldZ => ?_)
                  clear hK Kq
                  try simp only [Act.put, List.setIfInBounds_toArray, List.set_cons_zero, List.set_cons_succ]
                  refine tkF (i := 16) (d := some 128) (v := ?_) rfl rfl (by kernel_rfl) (by kernel_rfl) (by kernel_rfl) (fun _ _ _ h => h) (Or.inl ⟨by rfl, ?_⟩) (by assumption) ?_
                  rotate_left
                  · intro w hSw; (try dsimp only at hSw); go_simp; try with_reducible rfl
                  try simp only [Act.put, List.setIfInBounds_toArray, List.set_cons_zero, List.set_cons_succ]
                  refine tkF (i := 17) (d := some 129) (v := ?_) rfl rfl (by kernel_rfl) (by kernel_rfl) (by kernel_rfl) (fun _ _ _ h => h) (Or.inl ⟨by rfl, ?_⟩) (by assumption) ?_
                  rotate_left
                  · intro w hSw; (try dsimp only at hSw); go_simp; try with_reducible rfl
                  try simp only [Act.put, List.setIfInBounds_toArray, List.set_cons_zero, List.set_cons_succ]
                  refine wpAnyH_ready (rs := [18]) (by kernel_rfl) (by simp) (AllReadyH.cons rfl (fun Kq hK => ?_) AllReadyH.nil)
                  go_simp
                  refine hK.out _ _ trivial (fun hHeldZ => ?_)
                  clear hK Kq
                  try simp only [Act.put, List.setIfInBounds_toArray, List.set_cons_zero, List.set_cons_succ]
                  refine wpAnyH_done (by kernel_rfl) ?_ _
                  go_wp2
                  go_ret
                  exact ⟨_, _, rfl, by rw [World.size_setCell]; exact unhide HG2, unhide HS2, (unhide HQ2).sr, (unhide HQ2).gr⟩
        · go_wp2
          go_loopw [3] (fun u3 wr => ∃ P : List Pas.Pa, P.length ≤ 11 ∧ Hid (Sp P 20) ∧ Hid (Pas.PaG w.heap.size wr.heap.size wr u3 P) ∧ Hid (Ps w wr src a len cap size)) (fun u3 _ => 11 - lenOf u3)
          case atStart => exact ⟨P, by omega, hide ⟨by omega, (unhide HP).2⟩, HG, HQ⟩
          case round =>
            clear HP HF HG HQ hP0 hP0' hP3 hlo
            obtain ⟨P, hP, HP, HG, HQ⟩ := hrel
            have C29 := hide (n_nat wr src a len cap size 2 (by omega) (by omega) hl (unhide HQ).sr)
            obtain ⟨oa, oc, hoe⟩ := (unhide HG).pa.form
            subst hoe
            go_wp2_with fail
            refine (unhide C29).mono ?_
            rintro e w5 ⟨r, rfl, hr, hs, hg⟩
            replace HG := hide ((pag_dr (unhide HG) hg hsrc).up hg.size)
            replace HQ := hide ((unhide HQ).draw hs hg)
            clear hs hg C29
            obtain ⟨q, hq⟩ : ∃ q : Nat, 10 + r = q := ⟨_, rfl⟩
            have hq1 : (10 : Int) + (r : Int) = (q : Int) := by omega
            have hq11 : q ≤ 11 := by omega
            clear hq
            by_cases hlt : P.length < q
            · have hlt' : (P.length : Int) < (q : Int) := by omega
              have hlo := (unhide HQ).gr.size
              obtain ⟨gs, xs, h1, h2, h3, h4⟩ := unhide HG
              have O2 := hide (Pas.own_atP (w' := w5.alloc (.cells #[.slice none 0 0, .int .i64 0] 37)) h1 (fun n e => Below.heap_alloc _ _ _ (Pas.own_lt h1 e).2))
              have HSN := hide (fun W U (ho : W.ownsRow w.heap.size 37 2 U (P.length + 1) (xs ++ [.slice none 0 0, .int .i64 0])) hgr hkk => Pas.pag_snoc (q := w5.heap.size) (w1 := w5.alloc (.cells #[.slice none 0 0, .int .i64 0] 37)) (w2 := W) (out' := U) (L := []) (g := 0) h1 h2 h3 h4 (Pas.RuX.nil _ _) (Nat.le_refl _) hlo (Nat.le_refl _) (Pas.al1 _ _) ho hgr hkk)
              have HO2 := hide (fun n (e : (Value.slice oa P.length oc).ownBlock = some n) => Pas.own_lt h1 e)
              have SN : Hid (Sp (P ++ [([], 0)]) 20) := hide ⟨by simp; omega, ((unhide HP).snoc ([], 0) (Sr.nil _)).2⟩
              have PA := hide ((unhide HQ).own (grown_alloc w5 (.cells #[.slice none 0 0, .int .i64 0] 37) none) (fun k e => by cases e))
              clear h1 h2 h3 h4 HG HQ
              go_wp2_with (at_builtin; refine wpList_appG _ rfl _ _ 23 rfl w.heap.size 37 j0 (.agg #[.slice none 0 0, .int .i64 0]) 2 32 Tryd.underlying23 hj hy0 hy1 hy2 rfl (by decide) _ _ _ rfl (unhide O2) ⟨w5.heap.size, 0, none⟩ 1 1 [.slice none 0 0, .int .i64 0] rfl rfl (Pas.two_new w5 _ 0 37) (Pas.two_one _ _ _ _) ?g3 ?g4 ?g5 ?_)
              case g3 => unfold maxLen; omega
              case g4 => omega
              case g5 => simp; omega
              intro v' w9 hown' hgrow hnew
              have HG3 := hide ((unhide HSN) _ _ hown' hgrow (by intro n e; have := hnew n e; simpa using this))
              have HP3 := hide ((unhide PA).own hgrow (fun k e => ((unhide HO2) k e).1))
              obtain ⟨na, nc, rfl⟩ := Pas.form_ownF hown'
              clear hown' hgrow hnew HSN O2 HO2 PA
              go_wp2
              go_roundw
              case rel => exact ⟨P ++ [([], 0)], by simp; omega, SN, HG3, HP3⟩
              case measure => simp [lenOf]; omega
            · have hlt' : ¬ (P.length : Int) < (q : Int) := by omega
              go_wp2
              go_ret
              exact ⟨_, P, rfl, unhide HG, unhide HP, (unhide HQ).sr, (unhide HQ).gr⟩
    · have hk0' : (0 : Int) < (k : Int) := by omega
      have C2 := hide (n_nat wr src a len cap size 2 (by omega) (by omega) hl (unhide HQ).sr)
      go_wp2_with fail
      refine (unhide C2).mono ?_
      rintro e w2 ⟨r1, rfl, hr1, hs, hg⟩
      replace HG := hide ((pag_dr (unhide HG) hg hsrc).up hg.size)
      replace HQ := hide ((unhide HQ).draw hs hg)
      clear hs hg C2
      have C5 := hide (n_nat w2 src a len cap size 5 (by omega) (by omega) hl (unhide HQ).sr)
      go_wp2_with fail
      refine (unhide C5).mono ?_
      rintro e w3 ⟨r2, rfl, hr2, hs, hg⟩
      replace HG := hide ((pag_dr (unhide HG) hg hsrc).up hg.size)
      replace HQ := hide ((unhide HQ).draw hs hg)
      clear hs hg C5
      obtain ⟨g, hgg⟩ : ∃ g : Int, g = (r1 : Int) * (r2 : Int) := ⟨_, rfl⟩
      have hrr : (r1 : Int) * (r2 : Int) = g := hgg.symm
      have hg1 : -1000 ≤ g := by
        have : r1 = 0 ∨ r1 = 1 := by omega
        rcases this with h | h <;> (rw [hgg, h]; omega)
      have hg2 : g ≤ 1000 := by
        have : r1 = 0 ∨ r1 = 1 := by omega
        rcases this with h | h <;> (rw [hgg, h]; omega)
      clear hgg
      have hlo := (unhide HQ).gr.size
      have HI0 : Hid (Pi w (w3.alloc (.cells #[.slice none 0 0, .int .i64 g] 37)) src a len cap size w3.heap.size u3 P (.slice none 0 0) g []) := hide ⟨(unhide HQ).own (grown_alloc _ _ none) (fun k e => by cases e), pag_ow (unhide HG) (grown_alloc _ _ none) (fun k e => by cases e), Pas.heap_new w3 _, Pas.RuX.nil _ _, hlo⟩
      have C6 := hide (n_nat (w3.alloc (.cells #[.slice none 0 0, .int .i64 g] 37)) src a len cap size 4 (by omega) (by omega) hl (unhide HI0).ps.sr)
      obtain ⟨bp, hbp⟩ : ∃ bp, bp = w3.heap.size := ⟨_, rfl⟩
      go_wp2_with fail
      refine (unhide C6).mono ?_
      rintro e w4 ⟨rn, rfl, hrn, hs, hg⟩
      replace HI0 := hide ((unhide HI0).draw hs hg)
      rw [← hbp] at HI0 ⊢
      clear hs hg C6 HG HQ hbp hlo
      go_wp2
      go_loopw [6] (fun nv wr => ∃ (L : List Pas.Ru) (u : Value) (n : Nat), nv = .int .i64 (n : Int) ∧ n ≤ 3 ∧ Hid (Sr L (3 - n)) ∧ Hid (Pi w wr src a len cap size bp u3 P u g L)) (fun nv _ => (intOf nv).toNat)
      case atStart => exact ⟨[], _, rn, rfl, by omega, hide (Sr.nil _), HI0⟩
      case round =>
        obtain ⟨L, u, n, rfl, hn, HL, HI⟩ := hrel
        clear HI0
        by_cases hn0 : n = 0
        · subst hn0
          obtain ⟨ya, yc, hye⟩ := (unhide HI).ru.form
          subst hye
          obtain ⟨q0, q1, q2, q3⟩ := Pas.two_cells (unhide HI).bx
          have hlt := (unhide HI).lt
          have hlo := (unhide HI).lo
          obtain ⟨gs, xs, h1, h2, h3, h4⟩ := (unhide HI).pa
          have O2 := hide (Pas.own_atP (w' := wr.alloc (.cells #[.slice ya L.length yc, .int .i64 g] 37)) h1 (fun n e => Below.heap_alloc _ _ _ (Pas.own_lt h1 e).2))
          have HSN := hide (fun W U (ho : W.ownsRow w.heap.size 37 2 U (P.length + 1) (xs ++ [.slice ya L.length yc, .int .i64 g])) hgr hkk => Pas.pag_snoc (q := bp + 1) (w1 := wr.alloc (.cells #[.slice ya L.length yc, .int .i64 g] 37)) (w2 := W) (out' := U) (L := L) (g := g) h1 h2 h3 h4 (unhide HI).ru (by omega) (by omega) (by omega) (Pas.al1 _ _) ho hgr hkk)
          have HO2 := hide (fun n (e : u3.ownBlock = some n) => Pas.own_lt h1 e)
          obtain ⟨oa, oc, hoe⟩ := (unhide HI).pa.pa.form
          have hPl := (unhide HP).1
          have SN := hide ((unhide HP).snoc (L, g) ((unhide HL).mono (by omega)))
          have SF := hide ((unhide HF).snoc (L, g) ((unhide HL).mono (by omega)))
          have PA := hide ((unhide HI).ps.own (grown_alloc wr (.cells #[.slice ya L.length yc, .int .i64 g] 37) none) (fun k e => by cases e))
          have hws := (unhide HI).ps.gr.size
          subst hoe
          clear h1 h2 h3 h4 HI
          go_wp2_with (at_builtin; refine wpList_appG _ rfl _ _ 23 rfl w.heap.size 37 j0 (.agg #[.slice none 0 0, .int .i64 0]) 2 32 Tryd.underlying23 hj hy0 hy1 hy2 rfl (by decide) _ _ _ rfl (unhide O2) ⟨wr.heap.size, 0, none⟩ 1 1 [.slice ya L.length yc, .int .i64 g] rfl rfl (Pas.two_new wr _ g 37) (Pas.two_one _ _ _ _) ?g3 ?g4 ?g5 ?_)
          case g3 => unfold maxLen; omega
          case g4 => omega
          case g5 => simp; omega
          intro v' w9 hown' hgrow hnew
          have HG3 := hide ((unhide HSN) _ _ hown' hgrow (by intro n e; have := hnew n e; simpa using this))
          have HP3 := hide ((unhide PA).own hgrow (fun k e => ((unhide HO2) k e).1))
          obtain ⟨i, hi1'⟩ : ∃ i : Nat, k = i + 1 := ⟨k - 1, by omega⟩
          have hi1 : (k : Int) - 1 = (i : Int) := by omega
          have hki : 3 - k + 1 = 3 - i := by omega
          rw [hki] at SN
          clear hown' hgrow hnew HSN O2 HO2 PA q0 q1 q2 q3
          go_wp2
          go_roundw
          case rel => exact ⟨P ++ [(L, g)], i, by first | rfl | rw [hi1], by omega, SN, SF, HG3, HP3⟩
          case measure => simp [intOf]; omega
        · have hn0' : (0 : Int) < (n : Int) := by omega
          obtain ⟨i, hi1'⟩ : ∃ i : Nat, n = i + 1 := ⟨n - 1, by omega⟩
          have hi1 : (n : Int) - 1 = (i : Int) := by omega
          have hni : 3 - n + 1 ≤ 3 - i := by omega
          have C7 := hide (few_any wr src a len cap size 1 (by omega) hl (unhide HI).ps.sr)
          go_wp2_with fail
          refine (unhide C7).mono ?_
          rintro e w5 ⟨x1, rfl, hx1, hs, hg⟩
          replace HI := hide ((unhide HI).draw hs hg)
          clear hs hg C7
          have C8 := hide (few_any w5 src a len cap size 0 (by omega) hl (unhide HI).ps.sr)
          go_wp2_with fail
          refine (unhide C8).mono ?_
          rintro e w6 ⟨x3, rfl, hx3, hs, hg⟩
          replace HI := hide ((unhide HI).draw hs hg)
          clear hs hg C8
          have J := hide ((unhide HI).rule x1 x3 hx1 hx3)
          clear HI
          go_upto_region 10 with fail
          generalize hbr : w6.heap.size = br at *
          generalize hw7 : w6.alloc (.cells #[.string ⟨#[]⟩, .string x1, .string ⟨#[]⟩, .string x3, .int .i64 0] 40) = w7 at *
          clear hbr hw7
          have C0 := hide (one_any w7 src a len cap size 3 (by omega) (by omega) hl (unhide J).pi.ps.sr)
          go_wp2_with fail
          refine (unhide C0).mono ?_
          rintro e w8 ⟨b, rfl, hs, hg⟩
          replace J := hide ((unhide J).draw hs hg)
          clear hs hg C0
          cases b with
          | false =>
            have C0 := hide (one_any w8 src a len cap size 3 (by omega) (by omega) hl (unhide J).pi.ps.sr)
            go_wp2_with fail
            refine (unhide C0).mono ?_
            rintro e w9 ⟨b, rfl, hs, hg⟩
            replace J := hide ((unhide J).draw hs hg)
            clear hs hg C0
            cases b with
            | false =>
              have C14 := hide (one_any w9 src a len cap size 4 (by omega) (by omega) hl (unhide J).pi.ps.sr)
              go_wp2_with fail
              refine (unhide C14).mono ?_
              rintro e w10 ⟨b, rfl, hs, hg⟩
              replace J := hide ((unhide J).draw hs hg)
              clear hs hg C14
              cases b with
              | false =>
                have R5 := (unhide J).sz
                have hbr := (unhide J).rl
                obtain ⟨q0, q1, q2, q3⟩ := Pas.two_cells (unhide J).pi.bx
                obtain ⟨f0, f1, f2, f3, f4⟩ := Pas.five_cells (unhide J).rb
                obtain ⟨xs, hx, ho⟩ := (unhide J).pi.ru
                have hxl : xs.length = L.length * 5 := ho.1
                have hblt := (unhide J).pi.lt
                obtain ⟨ua, uc, hue⟩ := (unhide J).pi.ru.form
                have hgl : ∀ n, u.ownBlock = some n → bp + 1 ≤ n ∧ n < w10.heap.size := fun n e => Pas.own_lt ho e
                have O2 := hide (Pas.own_atP (w' := w10.alloc (.cells #[.string ⟨#[]⟩, .string x1, .string ⟨#[]⟩, .string x3, .int .i64 0] 40)) ho (fun n e => Below.heap_alloc _ _ _ (hgl n e).2))
                have JP := hide ((unhide J).pi.own (grown_alloc w10 (.cells #[.string ⟨#[]⟩, .string x1, .string ⟨#[]⟩, .string x3, .int .i64 0] 40) none) (fun k e => by cases e))
                have HSN := hide (fun (W2 : World) U (h : W2.ownsRow (bp + 1) 40 5 U (L.length + 1) (xs ++ Pas.cells5 (⟨#[]⟩, x1, ⟨#[]⟩, x3, 0))) => (show Pas.RuX (bp + 1) W2 U (L ++ [(⟨#[]⟩, x1, ⟨#[]⟩, x3, 0)]) from ⟨_, Pas.Has.addF hx hxl, by rw [List.length_append]; exact h⟩))
                have N5 := hide (Pas.five_new w10 (⟨#[]⟩, x1, ⟨#[]⟩, x3, 0) 40)
                have S5 := hide ((unhide HL).snoc (⟨#[]⟩, x1, ⟨#[]⟩, x3, 0) (small5 R5))
                have hL3 := (unhide HL).1
                subst hue
                clear ho hx hxl
                go_wp2_with (at_builtin; refine wpList_appG _ rfl _ _ 35 rfl (bp + 1) 40 i0 (.agg #[.string ⟨#[]⟩, .string ⟨#[]⟩, .string ⟨#[]⟩, .string ⟨#[]⟩, .int .i64 0]) 5 72 Tryd.underlying35 hi hz0 hz1 hz2 rfl (by decide) _ _ _ rfl (unhide O2) ⟨w10.heap.size, 0, none⟩ 1 1 (Pas.cells5 (⟨#[]⟩, x1, ⟨#[]⟩, x3, 0)) ?g1 rfl ?g2 (Pas.five_one _) ?g3 ?g4 ?g5 ?_; (case g1 => rfl); (case g2 => exact unhide N5); (case g3 => unfold maxLen; omega); (case g4 => omega); (case g5 => (try simp); omega))
                intro v' w9 hown' hgrow hnew
                obtain ⟨g', cap', rfl⟩ := Pas.own_formF hown'
                have hg'l := Pas.own_lt hown' (k := g') rfl
                have HR3 := (unhide HSN) _ _ hown'
                have hgb : ∀ k, (Value.slice ua L.length uc).ownBlock = some k → bp < k := fun k e => by have := (hgl k e).1; omega
                have hb9 := hgrow.block bp (by simp; omega) (fun e => by have := hgb _ e.symm; omega)
                have K3 := hb9.trans (unhide JP).bx
                have HP3 := (unhide JP).ps.own hgrow (fun k e => by have := hgb k e; have := (unhide JP).lo; omega)
                have HA3 := pag_ow (unhide JP).pa hgrow (fun k e => by have := hgb k e; omega)
                have HI : Hid (Pi w (w9.setCell ⟨bp, 0, none⟩ (.slice (some ⟨g', 0, none⟩) (L.length + 1) cap')) src a len cap size bp u3 P (.slice (some ⟨g', 0, none⟩) (L.length + 1) cap') g (L ++ [(⟨#[]⟩, x1, ⟨#[]⟩, x3, 0)])) := hide ⟨HP3.own grown_set (fun k e => by injection e with e; have := (unhide JP).lo; omega), pag_ow HA3 (grown_set (src := bp) (j := 0)) (fun k e => by injection e with e; omega), heap_setCell_same w9 bp 0 _ 37 _ K3, HR3.at (fun n e => heap_setCell_other w9 ⟨bp, 0, none⟩ n _ (by cases e; show g' ≠ bp; omega)), (unhide JP).lo⟩
                obtain ⟨p0, p1, p2, p3⟩ := Pas.two_cells K3
                clear hown' hgrow hnew K3 HP3 HA3 HR3 HSN O2 N5 JP hb9 J f0 f1 f2 f3 f4
                go_wp2
                go_roundw
                case rel => exact ⟨L ++ [(⟨#[]⟩, x1, ⟨#[]⟩, x3, 0)], _, i, by first | rfl | rw [hi1], by omega, hide ((unhide S5).mono (by omega)), HI⟩
                case measure => simp [intOf]; omega
              | true =>
                obtain ⟨f0, f1, f2, f3, f4⟩ := Pas.five_cells (unhide J).rb
                have hx3 := (unhide J).sz.2.2.2
                have CL := hide (l01Points x3 w10 (by omega))
                go_wp2_with fail
                refine (unhide CL).mono ?_
                rintro e w11 ⟨v, rfl, hown, hb⟩
                obtain ⟨va, vc, rfl⟩ := Pas.form_ownF hown
                replace J := hide ((unhide J).below hb)
                have hpl := pts_le x3
                clear hown hb CL f0 f1 f2 f3 f4
                generalize (pts x3).length = m at *
                have CN := hide (n_nat w11 src a len cap size ((m : Int) + 1) (by omega) (by omega) hl (unhide J).pi.ps.sr)
                go_wp2_with fail
                refine (unhide CN).mono ?_
                rintro e w12 ⟨ag, rfl, hag, hs, hg⟩
                replace J := hide ((unhide J).draw hs hg)
                clear hs hg CN
                obtain ⟨f0, f1, f2, f3, f4⟩ := Pas.five_cells (unhide J).rb
                have fz := five_froz (unhide J).rb 4
                have JN := hide ((unhide J).put 4 (.int .i64 (ag : Int)) ⟨#[]⟩ x1 ⟨#[]⟩ x3 (ag : Int) rfl (unhide J).sz)
                clear J
                go_upto_region 16 with fail
                generalize w12.setCell ⟨br, 4, none⟩ (.int .i64 (ag : Int)) = wz at *
                clear f0 f1 f2 f3 f4 fz
                have J := JN
                clear JN
                have R5 := (unhide J).sz
                have hbr := (unhide J).rl
                obtain ⟨q0, q1, q2, q3⟩ := Pas.two_cells (unhide J).pi.bx
                obtain ⟨f0, f1, f2, f3, f4⟩ := Pas.five_cells (unhide J).rb
                obtain ⟨xs, hx, ho⟩ := (unhide J).pi.ru
                have hxl : xs.length = L.length * 5 := ho.1
                have hblt := (unhide J).pi.lt
                obtain ⟨ua, uc, hue⟩ := (unhide J).pi.ru.form
                have hgl : ∀ n, u.ownBlock = some n → bp + 1 ≤ n ∧ n < wz.heap.size := fun n e => Pas.own_lt ho e
                have O2 := hide (Pas.own_atP (w' := wz.alloc (.cells #[.string ⟨#[]⟩, .string x1, .string ⟨#[]⟩, .string x3, .int .i64 (ag : Int)] 40)) ho (fun n e => Below.heap_alloc _ _ _ (hgl n e).2))
                have JP := hide ((unhide J).pi.own (grown_alloc wz (.cells #[.string ⟨#[]⟩, .string x1, .string ⟨#[]⟩, .string x3, .int .i64 (ag : Int)] 40) none) (fun k e => by cases e))
                have HSN := hide (fun (W2 : World) U (h : W2.ownsRow (bp + 1) 40 5 U (L.length + 1) (xs ++ Pas.cells5 (⟨#[]⟩, x1, ⟨#[]⟩, x3, (ag : Int)))) => (show Pas.RuX (bp + 1) W2 U (L ++ [(⟨#[]⟩, x1, ⟨#[]⟩, x3, (ag : Int))]) from ⟨_, Pas.Has.addF hx hxl, by rw [List.length_append]; exact h⟩))
                have N5 := hide (Pas.five_new wz (⟨#[]⟩, x1, ⟨#[]⟩, x3, (ag : Int)) 40)
                have S5 := hide ((unhide HL).snoc (⟨#[]⟩, x1, ⟨#[]⟩, x3, (ag : Int)) (small5 R5))
                have hL3 := (unhide HL).1
                subst hue
                clear ho hx hxl
                go_wp2_with (at_builtin; refine wpList_appG _ rfl _ _ 35 rfl (bp + 1) 40 i0 (.agg #[.string ⟨#[]⟩, .string ⟨#[]⟩, .string ⟨#[]⟩, .string ⟨#[]⟩, .int .i64 0]) 5 72 Tryd.underlying35 hi hz0 hz1 hz2 rfl (by decide) _ _ _ rfl (unhide O2) ⟨wz.heap.size, 0, none⟩ 1 1 (Pas.cells5 (⟨#[]⟩, x1, ⟨#[]⟩, x3, (ag : Int))) ?g1 rfl ?g2 (Pas.five_one _) ?g3 ?g4 ?g5 ?_; (case g1 => rfl); (case g2 => exact unhide N5); (case g3 => unfold maxLen; omega); (case g4 => omega); (case g5 => (try simp); omega))
                intro v' w9 hown' hgrow hnew
                obtain ⟨g', cap', rfl⟩ := Pas.own_formF hown'
                have hg'l := Pas.own_lt hown' (k := g') rfl
                have HR3 := (unhide HSN) _ _ hown'
                have hgb : ∀ k, (Value.slice ua L.length uc).ownBlock = some k → bp < k := fun k e => by have := (hgl k e).1; omega
                have hb9 := hgrow.block bp (by simp; omega) (fun e => by have := hgb _ e.symm; omega)
                have K3 := hb9.trans (unhide JP).bx
                have HP3 := (unhide JP).ps.own hgrow (fun k e => by have := hgb k e; have := (unhide JP).lo; omega)
                have HA3 := pag_ow (unhide JP).pa hgrow (fun k e => by have := hgb k e; omega)
                have HI : Hid (Pi w (w9.setCell ⟨bp, 0, none⟩ (.slice (some ⟨g', 0, none⟩) (L.length + 1) cap')) src a len cap size bp u3 P (.slice (some ⟨g', 0, none⟩) (L.length + 1) cap') g (L ++ [(⟨#[]⟩, x1, ⟨#[]⟩, x3, (ag : Int))])) := hide ⟨HP3.own grown_set (fun k e => by injection e with e; have := (unhide JP).lo; omega), pag_ow HA3 (grown_set (src := bp) (j := 0)) (fun k e => by injection e with e; omega), heap_setCell_same w9 bp 0 _ 37 _ K3, HR3.at (fun n e => heap_setCell_other w9 ⟨bp, 0, none⟩ n _ (by cases e; show g' ≠ bp; omega)), (unhide JP).lo⟩
                obtain ⟨p0, p1, p2, p3⟩ := Pas.two_cells K3
                clear hown' hgrow hnew K3 HP3 HA3 HR3 HSN O2 N5 JP hb9 J f0 f1 f2 f3 f4
                go_wp2
                go_roundw
                case rel => exact ⟨L ++ [(⟨#[]⟩, x1, ⟨#[]⟩, x3, (ag : Int))], _, i, by first | rfl | rw [hi1], by omega, hide ((unhide S5).mono (by omega)), HI⟩
                case measure => simp [intOf]; omega
            | true =>
              have C1 := hide (few_any w9 src a len cap size 0 (by omega) hl (unhide J).pi.ps.sr)
              go_wp2_with fail
              refine (unhide C1).mono ?_
              rintro e w10 ⟨y2, rfl, hy, hs, hg⟩
              replace J := hide ((unhide J).draw hs hg)
              clear hs hg C1
              obtain ⟨f0, f1, f2, f3, f4⟩ := Pas.five_cells (unhide J).rb
              have fz := five_froz (unhide J).rb 2
              have JN := hide ((unhide J).put 2 (.string y2) ⟨#[]⟩ x1 y2 x3 0 rfl (by obtain ⟨s0, s1, s2, s3⟩ := (unhide J).sz; exact ⟨by first | exact s0 | exact hy, s1, by first | exact s2 | exact hy, s3⟩))
              clear J
              go_upto_region 14 with fail
              generalize w10.setCell ⟨br, 2, none⟩ (.string y2) = wz2 at *
              clear f0 f1 f2 f3 f4 fz
              have J := JN
              clear JN
              have C14 := hide (one_any wz2 src a len cap size 4 (by omega) (by omega) hl (unhide J).pi.ps.sr)
              go_wp2_with fail
              refine (unhide C14).mono ?_
              rintro e w11 ⟨b, rfl, hs, hg⟩
              replace J := hide ((unhide J).draw hs hg)
              clear hs hg C14
              cases b with
              | false =>
                have R5 := (unhide J).sz
                have hbr := (unhide J).rl
                obtain ⟨q0, q1, q2, q3⟩ := Pas.two_cells (unhide J).pi.bx
                obtain ⟨f0, f1, f2, f3, f4⟩ := Pas.five_cells (unhide J).rb
                obtain ⟨xs, hx, ho⟩ := (unhide J).pi.ru
                have hxl : xs.length = L.length * 5 := ho.1
                have hblt := (unhide J).pi.lt
                obtain ⟨ua, uc, hue⟩ := (unhide J).pi.ru.form
                have hgl : ∀ n, u.ownBlock = some n → bp + 1 ≤ n ∧ n < w11.heap.size := fun n e => Pas.own_lt ho e
                have O2 := hide (Pas.own_atP (w' := w11.alloc (.cells #[.string ⟨#[]⟩, .string x1, .string y2, .string x3, .int .i64 0] 40)) ho (fun n e => Below.heap_alloc _ _ _ (hgl n e).2))
                have JP := hide ((unhide J).pi.own (grown_alloc w11 (.cells #[.string ⟨#[]⟩, .string x1, .string y2, .string x3, .int .i64 0] 40) none) (fun k e => by cases e))
                have HSN := hide (fun (W2 : World) U (h : W2.ownsRow (bp + 1) 40 5 U (L.length + 1) (xs ++ Pas.cells5 (⟨#[]⟩, x1, y2, x3, 0))) => (show Pas.RuX (bp + 1) W2 U (L ++ [(⟨#[]⟩, x1, y2, x3, 0)]) from ⟨_, Pas.Has.addF hx hxl, by rw [List.length_append]; exact h⟩))
                have N5 := hide (Pas.five_new w11 (⟨#[]⟩, x1, y2, x3, 0) 40)
                have S5 := hide ((unhide HL).snoc (⟨#[]⟩, x1, y2, x3, 0) (small5 R5))
                have hL3 := (unhide HL).1
                subst hue
                clear ho hx hxl
                go_wp2_with (at_builtin; refine wpList_appG _ rfl _ _ 35 rfl (bp + 1) 40 i0 (.agg #[.string ⟨#[]⟩, .string ⟨#[]⟩, .string ⟨#[]⟩, .string ⟨#[]⟩, .int .i64 0]) 5 72 Tryd.underlying35 hi hz0 hz1 hz2 rfl (by decide) _ _ _ rfl (unhide O2) ⟨w11.heap.size, 0, none⟩ 1 1 (Pas.cells5 (⟨#[]⟩, x1, y2, x3, 0)) ?g1 rfl ?g2 (Pas.five_one _) ?g3 ?g4 ?g5 ?_; (case g1 => rfl); (case g2 => exact unhide N5); (case g3 => unfold maxLen; omega); (case g4 => omega); (case g5 => (try simp); omega))
                intro v' w9 hown' hgrow hnew
                obtain ⟨g', cap', rfl⟩ := Pas.own_formF hown'
                have hg'l := Pas.own_lt hown' (k := g') rfl
                have HR3 := (unhide HSN) _ _ hown'
                have hgb : ∀ k, (Value.slice ua L.length uc).ownBlock = some k → bp < k := fun k e => by have := (hgl k e).1; omega
                have hb9 := hgrow.block bp (by simp; omega) (fun e => by have := hgb _ e.symm; omega)
                have K3 := hb9.trans (unhide JP).bx
                have HP3 := (unhide JP).ps.own hgrow (fun k e => by have := hgb k e; have := (unhide JP).lo; omega)
                have HA3 := pag_ow (unhide JP).pa hgrow (fun k e => by have := hgb k e; omega)
                have HI : Hid (Pi w (w9.setCell ⟨bp, 0, none⟩ (.slice (some ⟨g', 0, none⟩) (L.length + 1) cap')) src a len cap size bp u3 P (.slice (some ⟨g', 0, none⟩) (L.length + 1) cap') g (L ++ [(⟨#[]⟩, x1, y2, x3, 0)])) := hide ⟨HP3.own grown_set (fun k e => by injection e with e; have := (unhide JP).lo; omega), pag_ow HA3 (grown_set (src := bp) (j := 0)) (fun k e => by injection e with e; omega), heap_setCell_same w9 bp 0 _ 37 _ K3, HR3.at (fun n e => heap_setCell_other w9 ⟨bp, 0, none⟩ n _ (by cases e; show g' ≠ bp; omega)), (unhide JP).lo⟩
                obtain ⟨p0, p1, p2, p3⟩ := Pas.two_cells K3
                clear hown' hgrow hnew K3 HP3 HA3 HR3 HSN O2 N5 JP hb9 J f0 f1 f2 f3 f4
                go_wp2
                go_roundw
                case rel => exact ⟨L ++ [(⟨#[]⟩, x1, y2, x3, 0)], _, i, by first | rfl | rw [hi1], by omega, hide ((unhide S5).mono (by omega)), HI⟩
                case measure => simp [intOf]; omega
              | true =>
                obtain ⟨f0, f1, f2, f3, f4⟩ := Pas.five_cells (unhide J).rb
                have hx3 := (unhide J).sz.2.2.2
                have CL := hide (l01Points x3 w11 (by omega))
                go_wp2_with fail
                refine (unhide CL).mono ?_
                rintro e w12 ⟨v, rfl, hown, hb⟩
                obtain ⟨va, vc, rfl⟩ := Pas.form_ownF hown
                replace J := hide ((unhide J).below hb)
                have hpl := pts_le x3
                clear hown hb CL f0 f1 f2 f3 f4
                generalize (pts x3).length = m at *
                have CN := hide (n_nat w12 src a len cap size ((m : Int) + 1) (by omega) (by omega) hl (unhide J).pi.ps.sr)
                go_wp2_with fail
                refine (unhide CN).mono ?_
                rintro e w13 ⟨ag, rfl, hag, hs, hg⟩
                replace J := hide ((unhide J).draw hs hg)
                clear hs hg CN
                obtain ⟨f0, f1, f2, f3, f4⟩ := Pas.five_cells (unhide J).rb
                have fz := five_froz (unhide J).rb 4
                have JN := hide ((unhide J).put 4 (.int .i64 (ag : Int)) ⟨#[]⟩ x1 y2 x3 (ag : Int) rfl (unhide J).sz)
                clear J
                go_upto_region 16 with fail
                generalize w13.setCell ⟨br, 4, none⟩ (.int .i64 (ag : Int)) = wz at *
                clear f0 f1 f2 f3 f4 fz
                have J := JN
                clear JN
                have R5 := (unhide J).sz
                have hbr := (unhide J).rl
                obtain ⟨q0, q1, q2, q3⟩ := Pas.two_cells (unhide J).pi.bx
                obtain ⟨f0, f1, f2, f3, f4⟩ := Pas.five_cells (unhide J).rb
                obtain ⟨xs, hx, ho⟩ := (unhide J).pi.ru
                have hxl : xs.length = L.length * 5 := ho.1
                have hblt := (unhide J).pi.lt
                obtain ⟨ua, uc, hue⟩ := (unhide J).pi.ru.form
                have hgl : ∀ n, u.ownBlock = some n → bp + 1 ≤ n ∧ n < wz.heap.size := fun n e => Pas.own_lt ho e
                have O2 := hide (Pas.own_atP (w' := wz.alloc (.cells #[.string ⟨#[]⟩, .string x1, .string y2, .string x3, .int .i64 (ag : Int)] 40)) ho (fun n e => Below.heap_alloc _ _ _ (hgl n e).2))
                have JP := hide ((unhide J).pi.own (grown_alloc wz (.cells #[.string ⟨#[]⟩, .string x1, .string y2, .string x3, .int .i64 (ag : Int)] 40) none) (fun k e => by cases e))
                have HSN := hide (fun (W2 : World) U (h : W2.ownsRow (bp + 1) 40 5 U (L.length + 1) (xs ++ Pas.cells5 (⟨#[]⟩, x1, y2, x3, (ag : Int)))) => (show Pas.RuX (bp + 1) W2 U (L ++ [(⟨#[]⟩, x1, y2, x3, (ag : Int))]) from ⟨_, Pas.Has.addF hx hxl, by rw [List.length_append]; exact h⟩))
                have N5 := hide (Pas.five_new wz (⟨#[]⟩, x1, y2, x3, (ag : Int)) 40)
                have S5 := hide ((unhide HL).snoc (⟨#[]⟩, x1, y2, x3, (ag : Int)) (small5 R5))
                have hL3 := (unhide HL).1
                subst hue
                clear ho hx hxl
                go_wp2_with (at_builtin; refine wpList_appG _ rfl _ _ 35 rfl (bp + 1) 40 i0 (.agg #[.string ⟨#[]⟩, .string ⟨#[]⟩, .string ⟨#[]⟩, .string ⟨#[]⟩, .int .i64 0]) 5 72 Tryd.underlying35 hi hz0 hz1 hz2 rfl (by decide) _ _ _ rfl (unhide O2) ⟨wz.heap.size, 0, none⟩ 1 1 (Pas.cells5 (⟨#[]⟩, x1, y2, x3, (ag : Int))) ?g1 rfl ?g2 (Pas.five_one _) ?g3 ?g4 ?g5 ?_; (case g1 => rfl); (case g2 => exact unhide N5); (case g3 => unfold maxLen; omega); (case g4 => omega); (case g5 => (try simp); omega))
                intro v' w9 hown' hgrow hnew
                obtain ⟨g', cap', rfl⟩ := Pas.own_formF hown'
                have hg'l := Pas.own_lt hown' (k := g') rfl
                have HR3 := (unhide HSN) _ _ hown'
                have hgb : ∀ k, (Value.slice ua L.length uc).ownBlock = some k → bp < k := fun k e => by have := (hgl k e).1; omega
                have hb9 := hgrow.block bp (by simp; omega) (fun e => by have := hgb _ e.symm; omega)
                have K3 := hb9.trans (unhide JP).bx
                have HP3 := (unhide JP).ps.own hgrow (fun k e => by have := hgb k e; have := (unhide JP).lo; omega)
                have HA3 := pag_ow (unhide JP).pa hgrow (fun k e => by have := hgb k e; omega)
                have HI : Hid (Pi w (w9.setCell ⟨bp, 0, none⟩ (.slice (some ⟨g', 0, none⟩) (L.length + 1) cap')) src a len cap size bp u3 P (.slice (some ⟨g', 0, none⟩) (L.length + 1) cap') g (L ++ [(⟨#[]⟩, x1, y2, x3, (ag : Int))])) := hide ⟨HP3.own grown_set (fun k e => by injection e with e; have := (unhide JP).lo; omega), pag_ow HA3 (grown_set (src := bp) (j := 0)) (fun k e => by injection e with e; omega), heap_setCell_same w9 bp 0 _ 37 _ K3, HR3.at (fun n e => heap_setCell_other w9 ⟨bp, 0, none⟩ n _ (by cases e; show g' ≠ bp; omega)), (unhide JP).lo⟩
                obtain ⟨p0, p1, p2, p3⟩ := Pas.two_cells K3
                clear hown' hgrow hnew K3 HP3 HA3 HR3 HSN O2 N5 JP hb9 J f0 f1 f2 f3 f4
                go_wp2
                go_roundw
                case rel => exact ⟨L ++ [(⟨#[]⟩, x1, y2, x3, (ag : Int))], _, i, by first | rfl | rw [hi1], by omega, hide ((unhide S5).mono (by omega)), HI⟩
                case measure => simp [intOf]; omega
          | true =>
            have C1 := hide (few_any w8 src a len cap size 0 (by omega) hl (unhide J).pi.ps.sr)
            go_wp2_with fail
            refine (unhide C1).mono ?_
            rintro e w9 ⟨y0, rfl, hy, hs, hg⟩
            replace J := hide ((unhide J).draw hs hg)
            clear hs hg C1
            obtain ⟨f0, f1, f2, f3, f4⟩ := Pas.five_cells (unhide J).rb
            have fz := five_froz (unhide J).rb 0
            have JN := hide ((unhide J).put 0 (.string y0) y0 x1 ⟨#[]⟩ x3 0 rfl (by obtain ⟨s0, s1, s2, s3⟩ := (unhide J).sz; exact ⟨by first | exact s0 | exact hy, s1, by first | exact s2 | exact hy, s3⟩))
            clear J
            go_upto_region 12 with fail
            generalize w9.setCell ⟨br, 0, none⟩ (.string y0) = wz0 at *
            clear f0 f1 f2 f3 f4 fz
            have J := JN
            clear JN
            have C0 := hide (one_any wz0 src a len cap size 3 (by omega) (by omega) hl (unhide J).pi.ps.sr)
            go_wp2_with fail
            refine (unhide C0).mono ?_
            rintro e w10 ⟨b, rfl, hs, hg⟩
            replace J := hide ((unhide J).draw hs hg)
            clear hs hg C0
            cases b with
            | false =>
              have C14 := hide (one_any w10 src a len cap size 4 (by omega) (by omega) hl (unhide J).pi.ps.sr)
              go_wp2_with fail
              refine (unhide C14).mono ?_
              rintro e w11 ⟨b, rfl, hs, hg⟩
              replace J := hide ((unhide J).draw hs hg)
              clear hs hg C14
              cases b with
              | false =>
                have R5 := (unhide J).sz
                have hbr := (unhide J).rl
                obtain ⟨q0, q1, q2, q3⟩ := Pas.two_cells (unhide J).pi.bx
                obtain ⟨f0, f1, f2, f3, f4⟩ := Pas.five_cells (unhide J).rb
                obtain ⟨xs, hx, ho⟩ := (unhide J).pi.ru
                have hxl : xs.length = L.length * 5 := ho.1
                have hblt := (unhide J).pi.lt
                obtain ⟨ua, uc, hue⟩ := (unhide J).pi.ru.form
                have hgl : ∀ n, u.ownBlock = some n → bp + 1 ≤ n ∧ n < w11.heap.size := fun n e => Pas.own_lt ho e
                have O2 := hide (Pas.own_atP (w' := w11.alloc (.cells #[.string y0, .string x1, .string ⟨#[]⟩, .string x3, .int .i64 0] 40)) ho (fun n e => Below.heap_alloc _ _ _ (hgl n e).2))
                have JP := hide ((unhide J).pi.own (grown_alloc w11 (.cells #[.string y0, .string x1, .string ⟨#[]⟩, .string x3, .int .i64 0] 40) none) (fun k e => by cases e))
                have HSN := hide (fun (W2 : World) U (h : W2.ownsRow (bp + 1) 40 5 U (L.length + 1) (xs ++ Pas.cells5 (y0, x1, ⟨#[]⟩, x3, 0))) => (show Pas.RuX (bp + 1) W2 U (L ++ [(y0, x1, ⟨#[]⟩, x3, 0)]) from ⟨_, Pas.Has.addF hx hxl, by rw [List.length_append]; exact h⟩))
                have N5 := hide (Pas.five_new w11 (y0, x1, ⟨#[]⟩, x3, 0) 40)
                have S5 := hide ((unhide HL).snoc (y0, x1, ⟨#[]⟩, x3, 0) (small5 R5))
                have hL3 := (unhide HL).1
                subst hue
                clear ho hx hxl
                go_wp2_with (at_builtin; refine wpList_appG _ rfl _ _ 35 rfl (bp + 1) 40 i0 (.agg #[.string ⟨#[]⟩, .string ⟨#[]⟩, .string ⟨#[]⟩, .string ⟨#[]⟩, .int .i64 0]) 5 72 Tryd.underlying35 hi hz0 hz1 hz2 rfl (by decide) _ _ _ rfl (unhide O2) ⟨w11.heap.size, 0, none⟩ 1 1 (Pas.cells5 (y0, x1, ⟨#[]⟩, x3, 0)) ?g1 rfl ?g2 (Pas.five_one _) ?g3 ?g4 ?g5 ?_; (case g1 => rfl); (case g2 => exact unhide N5); (case g3 => unfold maxLen; omega); (case g4 => omega); (case g5 => (try simp); omega))
                intro v' w9 hown' hgrow hnew
                obtain ⟨g', cap', rfl⟩ := Pas.own_formF hown'
                have hg'l := Pas.own_lt hown' (k := g') rfl
                have HR3 := (unhide HSN) _ _ hown'
                have hgb : ∀ k, (Value.slice ua L.length uc).ownBlock = some k → bp < k := fun k e => by have := (hgl k e).1; omega
                have hb9 := hgrow.block bp (by simp; omega) (fun e => by have := hgb _ e.symm; omega)
                have K3 := hb9.trans (unhide JP).bx
                have HP3 := (unhide JP).ps.own hgrow (fun k e => by have := hgb k e; have := (unhide JP).lo; omega)
                have HA3 := pag_ow (unhide JP).pa hgrow (fun k e => by have := hgb k e; omega)
                have HI : Hid (Pi w (w9.setCell ⟨bp, 0, none⟩ (.slice (some ⟨g', 0, none⟩) (L.length + 1) cap')) src a len cap size bp u3 P (.slice (some ⟨g', 0, none⟩) (L.length + 1) cap') g (L ++ [(y0, x1, ⟨#[]⟩, x3, 0)])) := hide ⟨HP3.own grown_set (fun k e => by injection e with e; have := (unhide JP).lo; omega), pag_ow HA3 (grown_set (src := bp) (j := 0)) (fun k e => by injection e with e; omega), heap_setCell_same w9 bp 0 _ 37 _ K3, HR3.at (fun n e => heap_setCell_other w9 ⟨bp, 0, none⟩ n _ (by cases e; show g' ≠ bp; omega)), (unhide JP).lo⟩
                obtain ⟨p0, p1, p2, p3⟩ := Pas.two_cells K3
                clear hown' hgrow hnew K3 HP3 HA3 HR3 HSN O2 N5 JP hb9 J f0 f1 f2 f3 f4
                go_wp2
                go_roundw
                case rel => exact ⟨L ++ [(y0, x1, ⟨#[]⟩, x3, 0)], _, i, by first | rfl | rw [hi1], by omega, hide ((unhide S5).mono (by omega)), HI⟩
                case measure => simp [intOf]; omega
              | true =>
                obtain ⟨f0, f1, f2, f3, f4⟩ := Pas.five_cells (unhide J).rb
                have hx3 := (unhide J).sz.2.2.2
                have CL := hide (l01Points x3 w11 (by omega))
                go_wp2_with fail
                refine (unhide CL).mono ?_
                rintro e w12 ⟨v, rfl, hown, hb⟩
                obtain ⟨va, vc, rfl⟩ := Pas.form_ownF hown
                replace J := hide ((unhide J).below hb)
                have hpl := pts_le x3
                clear hown hb CL f0 f1 f2 f3 f4
                generalize (pts x3).length = m at *
                have CN := hide (n_nat w12 src a len cap size ((m : Int) + 1) (by omega) (by omega) hl (unhide J).pi.ps.sr)
                go_wp2_with fail
                refine (unhide CN).mono ?_
                rintro e w13 ⟨ag, rfl, hag, hs, hg⟩
                replace J := hide ((unhide J).draw hs hg)
                clear hs hg CN
                obtain ⟨f0, f1, f2, f3, f4⟩ := Pas.five_cells (unhide J).rb
                have fz := five_froz (unhide J).rb 4
                have JN := hide ((unhide J).put 4 (.int .i64 (ag : Int)) y0 x1 ⟨#[]⟩ x3 (ag : Int) rfl (unhide J).sz)
                clear J
                go_upto_region 16 with fail
                generalize w13.setCell ⟨br, 4, none⟩ (.int .i64 (ag : Int)) = wz at *
                clear f0 f1 f2 f3 f4 fz
                have J := JN
                clear JN
                have R5 := (unhide J).sz
                have hbr := (unhide J).rl
                obtain ⟨q0, q1, q2, q3⟩ := Pas.two_cells (unhide J).pi.bx
                obtain ⟨f0, f1, f2, f3, f4⟩ := Pas.five_cells (unhide J).rb
                obtain ⟨xs, hx, ho⟩ := (unhide J).pi.ru
                have hxl : xs.length = L.length * 5 := ho.1
                have hblt := (unhide J).pi.lt
                obtain ⟨ua, uc, hue⟩ := (unhide J).pi.ru.form
                have hgl : ∀ n, u.ownBlock = some n → bp + 1 ≤ n ∧ n < wz.heap.size := fun n e => Pas.own_lt ho e
                have O2 := hide (Pas.own_atP (w' := wz.alloc (.cells #[.string y0, .string x1, .string ⟨#[]⟩, .string x3, .int .i64 (ag : Int)] 40)) ho (fun n e => Below.heap_alloc _ _ _ (hgl n e).2))
                have JP := hide ((unhide J).pi.own (grown_alloc wz (.cells #[.string y0, .string x1, .string ⟨#[]⟩, .string x3, .int .i64 (ag : Int)] 40) none) (fun k e => by cases e))
                have HSN := hide (fun (W2 : World) U (h : W2.ownsRow (bp + 1) 40 5 U (L.length + 1) (xs ++ Pas.cells5 (y0, x1, ⟨#[]⟩, x3, (ag : Int)))) => (show Pas.RuX (bp + 1) W2 U (L ++ [(y0, x1, ⟨#[]⟩, x3, (ag : Int))]) from ⟨_, Pas.Has.addF hx hxl, by rw [List.length_append]; exact h⟩))
                have N5 := hide (Pas.five_new wz (y0, x1, ⟨#[]⟩, x3, (ag : Int)) 40)
                have S5 := hide ((unhide HL).snoc (y0, x1, ⟨#[]⟩, x3, (ag : Int)) (small5 R5))
                have hL3 := (unhide HL).1
                subst hue
                clear ho hx hxl
                go_wp2_with (at_builtin; refine wpList_appG _ rfl _ _ 35 rfl (bp + 1) 40 i0 (.agg #[.string ⟨#[]⟩, .string ⟨#[]⟩, .string ⟨#[]⟩, .string ⟨#[]⟩, .int .i64 0]) 5 72 Tryd.underlying35 hi hz0 hz1 hz2 rfl (by decide) _ _ _ rfl (unhide O2) ⟨wz.heap.size, 0, none⟩ 1 1 (Pas.cells5 (y0, x1, ⟨#[]⟩, x3, (ag : Int))) ?g1 rfl ?g2 (Pas.five_one _) ?g3 ?g4 ?g5 ?_; (case g1 => rfl); (case g2 => exact unhide N5); (case g3 => unfold maxLen; omega); (case g4 => omega); (case g5 => (try simp); omega))
                intro v' w9 hown' hgrow hnew
                obtain ⟨g', cap', rfl⟩ := Pas.own_formF hown'
                have hg'l := Pas.own_lt hown' (k := g') rfl
                have HR3 := (unhide HSN) _ _ hown'
                have hgb : ∀ k, (Value.slice ua L.length uc).ownBlock = some k → bp < k := fun k e => by have := (hgl k e).1; omega
                have hb9 := hgrow.block bp (by simp; omega) (fun e => by have := hgb _ e.symm; omega)
                have K3 := hb9.trans (unhide JP).bx
                have HP3 := (unhide JP).ps.own hgrow (fun k e => by have := hgb k e; have := (unhide JP).lo; omega)
                have HA3 := pag_ow (unhide JP).pa hgrow (fun k e => by have := hgb k e; omega)
                have HI : Hid (Pi w (w9.setCell ⟨bp, 0, none⟩ (.slice (some ⟨g', 0, none⟩) (L.length + 1) cap')) src a len cap size bp u3 P (.slice (some ⟨g', 0, none⟩) (L.length + 1) cap') g (L ++ [(y0, x1, ⟨#[]⟩, x3, (ag : Int))])) := hide ⟨HP3.own grown_set (fun k e => by injection e with e; have := (unhide JP).lo; omega), pag_ow HA3 (grown_set (src := bp) (j := 0)) (fun k e => by injection e with e; omega), heap_setCell_same w9 bp 0 _ 37 _ K3, HR3.at (fun n e => heap_setCell_other w9 ⟨bp, 0, none⟩ n _ (by cases e; show g' ≠ bp; omega)), (unhide JP).lo⟩
                obtain ⟨p0, p1, p2, p3⟩ := Pas.two_cells K3
                clear hown' hgrow hnew K3 HP3 HA3 HR3 HSN O2 N5 JP hb9 J f0 f1 f2 f3 f4
                go_wp2
                go_roundw
                case rel => exact ⟨L ++ [(y0, x1, ⟨#[]⟩, x3, (ag : Int))], _, i, by first | rfl | rw [hi1], by omega, hide ((unhide S5).mono (by omega)), HI⟩
                case measure => simp [intOf]; omega
            | true =>
              have C1 := hide (few_any w10 src a len cap size 0 (by omega) hl (unhide J).pi.ps.sr)
              go_wp2_with fail
              refine (unhide C1).mono ?_
              rintro e w11 ⟨y2, rfl, hy, hs, hg⟩
              replace J := hide ((unhide J).draw hs hg)
              clear hs hg C1
              obtain ⟨f0, f1, f2, f3, f4⟩ := Pas.five_cells (unhide J).rb
              have fz := five_froz (unhide J).rb 2
              have JN := hide ((unhide J).put 2 (.string y2) y0 x1 y2 x3 0 rfl (by obtain ⟨s0, s1, s2, s3⟩ := (unhide J).sz; exact ⟨by first | exact s0 | exact hy, s1, by first | exact s2 | exact hy, s3⟩))
              clear J
              go_upto_region 14 with fail
              generalize w11.setCell ⟨br, 2, none⟩ (.string y2) = wz2 at *
              clear f0 f1 f2 f3 f4 fz
              have J := JN
              clear JN
              have C14 := hide (one_any wz2 src a len cap size 4 (by omega) (by omega) hl (unhide J).pi.ps.sr)
              go_wp2_with fail
              refine (unhide C14).mono ?_
              rintro e w12 ⟨b, rfl, hs, hg⟩
              replace J := hide ((unhide J).draw hs hg)
              clear hs hg C14
              cases b with
              | false =>
                have R5 := (unhide J).sz
                have hbr := (unhide J).rl
                obtain ⟨q0, q1, q2, q3⟩ := Pas.two_cells (unhide J).pi.bx
                obtain ⟨f0, f1, f2, f3, f4⟩ := Pas.five_cells (unhide J).rb
                obtain ⟨xs, hx, ho⟩ := (unhide J).pi.ru
                have hxl : xs.length = L.length * 5 := ho.1
                have hblt := (unhide J).pi.lt
                obtain ⟨ua, uc, hue⟩ := (unhide J).pi.ru.form
                have hgl : ∀ n, u.ownBlock = some n → bp + 1 ≤ n ∧ n < w12.heap.size := fun n e => Pas.own_lt ho e
                have O2 := hide (Pas.own_atP (w' := w12.alloc (.cells #[.string y0, .string x1, .string y2, .string x3, .int .i64 0] 40)) ho (fun n e => Below.heap_alloc _ _ _ (hgl n e).2))
                have JP := hide ((unhide J).pi.own (grown_alloc w12 (.cells #[.string y0, .string x1, .string y2, .string x3, .int .i64 0] 40) none) (fun k e => by cases e))
                have HSN := hide (fun (W2 : World) U (h : W2.ownsRow (bp + 1) 40 5 U (L.length + 1) (xs ++ Pas.cells5 (y0, x1, y2, x3, 0))) => (show Pas.RuX (bp + 1) W2 U (L ++ [(y0, x1, y2, x3, 0)]) from ⟨_, Pas.Has.addF hx hxl, by rw [List.length_append]; exact h⟩))
                have N5 := hide (Pas.five_new w12 (y0, x1, y2, x3, 0) 40)
                have S5 := hide ((unhide HL).snoc (y0, x1, y2, x3, 0) (small5 R5))
                have hL3 := (unhide HL).1
                subst hue
                clear ho hx hxl
                go_wp2_with (at_builtin; refine wpList_appG _ rfl _ _ 35 rfl (bp + 1) 40 i0 (.agg #[.string ⟨#[]⟩, .string ⟨#[]⟩, .string ⟨#[]⟩, .string ⟨#[]⟩, .int .i64 0]) 5 72 Tryd.underlying35 hi hz0 hz1 hz2 rfl (by decide) _ _ _ rfl (unhide O2) ⟨w12.heap.size, 0, none⟩ 1 1 (Pas.cells5 (y0, x1, y2, x3, 0)) ?g1 rfl ?g2 (Pas.five_one _) ?g3 ?g4 ?g5 ?_; (case g1 => rfl); (case g2 => exact unhide N5); (case g3 => unfold maxLen; omega); (case g4 => omega); (case g5 => (try simp); omega))
                intro v' w9 hown' hgrow hnew
                obtain ⟨g', cap', rfl⟩ := Pas.own_formF hown'
                have hg'l := Pas.own_lt hown' (k := g') rfl
                have HR3 := (unhide HSN) _ _ hown'
                have hgb : ∀ k, (Value.slice ua L.length uc).ownBlock = some k → bp < k := fun k e => by have := (hgl k e).1; omega
                have hb9 := hgrow.block bp (by simp; omega) (fun e => by have := hgb _ e.symm; omega)
                have K3 := hb9.trans (unhide JP).bx
                have HP3 := (unhide JP).ps.own hgrow (fun k e => by have := hgb k e; have := (unhide JP).lo; omega)
                have HA3 := pag_ow (unhide JP).pa hgrow (fun k e => by have := hgb k e; omega)
                have HI : Hid (Pi w (w9.setCell ⟨bp, 0, none⟩ (.slice (some ⟨g', 0, none⟩) (L.length + 1) cap')) src a len cap size bp u3 P (.slice (some ⟨g', 0, none⟩) (L.length + 1) cap') g (L ++ [(y0, x1, y2, x3, 0)])) := hide ⟨HP3.own grown_set (fun k e => by injection e with e; have := (unhide JP).lo; omega), pag_ow HA3 (grown_set (src := bp) (j := 0)) (fun k e => by injection e with e; omega), heap_setCell_same w9 bp 0 _ 37 _ K3, HR3.at (fun n e => heap_setCell_other w9 ⟨bp, 0, none⟩ n _ (by cases e; show g' ≠ bp; omega)), (unhide JP).lo⟩
                obtain ⟨p0, p1, p2, p3⟩ := Pas.two_cells K3
                clear hown' hgrow hnew K3 HP3 HA3 HR3 HSN O2 N5 JP hb9 J f0 f1 f2 f3 f4
                go_wp2
                go_roundw
                case rel => exact ⟨L ++ [(y0, x1, y2, x3, 0)], _, i, by first | rfl | rw [hi1], by omega, hide ((unhide S5).mono (by omega)), HI⟩
                case measure => simp [intOf]; omega
              | true =>
                obtain ⟨f0, f1, f2, f3, f4⟩ := Pas.five_cells (unhide J).rb
                have hx3 := (unhide J).sz.2.2.2
                have CL := hide (l01Points x3 w12 (by omega))
                go_wp2_with fail
                refine (unhide CL).mono ?_
                rintro e w13 ⟨v, rfl, hown, hb⟩
                obtain ⟨va, vc, rfl⟩ := Pas.form_ownF hown
                replace J := hide ((unhide J).below hb)
                have hpl := pts_le x3
                clear hown hb CL f0 f1 f2 f3 f4
                generalize (pts x3).length = m at *
                have CN := hide (n_nat w13 src a len cap size ((m : Int) + 1) (by omega) (by omega) hl (unhide J).pi.ps.sr)
                go_wp2_with fail
                refine (unhide CN).mono ?_
                rintro e w14 ⟨ag, rfl, hag, hs, hg⟩
                replace J := hide ((unhide J).draw hs hg)
                clear hs hg CN
                obtain ⟨f0, f1, f2, f3, f4⟩ := Pas.five_cells (unhide J).rb
                have fz := five_froz (unhide J).rb 4
                have JN := hide ((unhide J).put 4 (.int .i64 (ag : Int)) y0 x1 y2 x3 (ag : Int) rfl (unhide J).sz)
                clear J
                go_upto_region 16 with fail
                generalize w14.setCell ⟨br, 4, none⟩ (.int .i64 (ag : Int)) = wz at *
                clear f0 f1 f2 f3 f4 fz
                have J := JN
                clear JN
                have R5 := (unhide J).sz
                have hbr := (unhide J).rl
                obtain ⟨q0, q1, q2, q3⟩ := Pas.two_cells (unhide J).pi.bx
                obtain ⟨f0, f1, f2, f3, f4⟩ := Pas.five_cells (unhide J).rb
                obtain ⟨xs, hx, ho⟩ := (unhide J).pi.ru
                have hxl : xs.length = L.length * 5 := ho.1
                have hblt := (unhide J).pi.lt
                obtain ⟨ua, uc, hue⟩ := (unhide J).pi.ru.form
                have hgl : ∀ n, u.ownBlock = some n → bp + 1 ≤ n ∧ n < wz.heap.size := fun n e => Pas.own_lt ho e
                have O2 := hide (Pas.own_atP (w' := wz.alloc (.cells #[.string y0, .string x1, .string y2, .string x3, .int .i64 (ag : Int)] 40)) ho (fun n e => Below.heap_alloc _ _ _ (hgl n e).2))
                have JP := hide ((unhide J).pi.own (grown_alloc wz (.cells #[.string y0, .string x1, .string y2, .string x3, .int .i64 (ag : Int)] 40) none) (fun k e => by cases e))
                have HSN := hide (fun (W2 : World) U (h : W2.ownsRow (bp + 1) 40 5 U (L.length + 1) (xs ++ Pas.cells5 (y0, x1, y2, x3, (ag : Int)))) => (show Pas.RuX (bp + 1) W2 U (L ++ [(y0, x1, y2, x3, (ag : Int))]) from ⟨_, Pas.Has.addF hx hxl, by rw [List.length_append]; exact h⟩))
                have N5 := hide (Pas.five_new wz (y0, x1, y2, x3, (ag : Int)) 40)
                have S5 := hide ((unhide HL).snoc (y0, x1, y2, x3, (ag : Int)) (small5 R5))
                have hL3 := (unhide HL).1
                subst hue
                clear ho hx hxl
                go_wp2_with (at_builtin; refine wpList_appG _ rfl _ _ 35 rfl (bp + 1) 40 i0 (.agg #[.string ⟨#[]⟩, .string ⟨#[]⟩, .string ⟨#[]⟩, .string ⟨#[]⟩, .int .i64 0]) 5 72 Tryd.underlying35 hi hz0 hz1 hz2 rfl (by decide) _ _ _ rfl (unhide O2) ⟨wz.heap.size, 0, none⟩ 1 1 (Pas.cells5 (y0, x1, y2, x3, (ag : Int))) ?g1 rfl ?g2 (Pas.five_one _) ?g3 ?g4 ?g5 ?_; (case g1 => rfl); (case g2 => exact unhide N5); (case g3 => unfold maxLen; omega); (case g4 => omega); (case g5 => (try simp); omega))
                intro v' w9 hown' hgrow hnew
                obtain ⟨g', cap', rfl⟩ := Pas.own_formF hown'
                have hg'l := Pas.own_lt hown' (k := g') rfl
                have HR3 := (unhide HSN) _ _ hown'
                have hgb : ∀ k, (Value.slice ua L.length uc).ownBlock = some k → bp < k := fun k e => by have := (hgl k e).1; omega
                have hb9 := hgrow.block bp (by simp; omega) (fun e => by have := hgb _ e.symm; omega)
                have K3 := hb9.trans (unhide JP).bx
                have HP3 := (unhide JP).ps.own hgrow (fun k e => by have := hgb k e; have := (unhide JP).lo; omega)
                have HA3 := pag_ow (unhide JP).pa hgrow (fun k e => by have := hgb k e; omega)
                have HI : Hid (Pi w (w9.setCell ⟨bp, 0, none⟩ (.slice (some ⟨g', 0, none⟩) (L.length + 1) cap')) src a len cap size bp u3 P (.slice (some ⟨g', 0, none⟩) (L.length + 1) cap') g (L ++ [(y0, x1, y2, x3, (ag : Int))])) := hide ⟨HP3.own grown_set (fun k e => by injection e with e; have := (unhide JP).lo; omega), pag_ow HA3 (grown_set (src := bp) (j := 0)) (fun k e => by injection e with e; omega), heap_setCell_same w9 bp 0 _ 37 _ K3, HR3.at (fun n e => heap_setCell_other w9 ⟨bp, 0, none⟩ n _ (by cases e; show g' ≠ bp; omega)), (unhide JP).lo⟩
                obtain ⟨p0, p1, p2, p3⟩ := Pas.two_cells K3
                clear hown' hgrow hnew K3 HP3 HA3 HR3 HSN O2 N5 JP hb9 J f0 f1 f2 f3 f4
                go_wp2
                go_roundw
                case rel => exact ⟨L ++ [(y0, x1, y2, x3, (ag : Int))], _, i, by first | rfl | rw [hi1], by omega, hide ((unhide S5).mono (by omega)), HI⟩
                case measure => simp [intOf]; omega
end Go.Proofs.YtklakcnapdhcnaaDoor.Dr
/- A code of draws that came in. -/
namespace Go.Proofs.YtklakcnapdhcnaaDoor.Dr
open Go.ChangeShapes Go.WideShapes Go.ChangeAt Go.RowKit
theorem open_code {H : Type} {enc : TypeId × Value → H} {W : World} {held : Bool} {a : Option Addr} {len cap : Nat} {d : DataW H} {ps : List MemPlace} (h : DataW.Trod enc Tryd.prog W 0 (fun _ => true) held 22 (.slice a len cap) d ps) : CodeIn W a len ∧ len ≤ maxLen := by
  obtain ⟨fuel, hf⟩ := h
  rcases open_ints Tryd.underlying22 Tryd.underlying5 (by kernel_rfl) hf with ⟨hcs, _⟩ | ⟨x, l, c, zs, hcs, _, hl, hm, hz, _, hcell, hwz⟩
  · simp [Value.cells] at hcs
    obtain ⟨rfl, rfl, rfl⟩ := hcs
    exact ⟨.inl rfl, Nat.zero_le _⟩
  · simp [Value.cells] at hcs
    obtain ⟨rfl, rfl, rfl⟩ := hcs
    have hz' : zs.length = cap := by simpa using hz
    refine ⟨?_, by omega⟩
    by_cases h0 : len = 0
    · exact .inl h0
    · obtain ⟨b, off, spot⟩ := x
      have hc0 := hcell 0 (by omega)
      have hspot : spot = none := by simpa [Addr.add] using World.cell?_spot hc0
      subst hspot
      refine .inr ⟨b, off, rfl, block_lt_of_cell (a := ⟨b, off, none⟩) (by simpa [Addr.add] using hc0), fun i hi => ?_⟩
      have hci := hcell i (by omega)
      have ea : (⟨b, off, none⟩ : Addr).add i = ⟨b, off + i, none⟩ := by unfold Addr.add; split <;> simp_all
      rw [ea] at hci
      have hb := bounds_u8 (hwz (zs.getD i 0) (by simp [List.getD, show i < zs.length by omega]))
      exact ⟨_, hci, by omega, by omega⟩
end Go.Proofs.YtklakcnapdhcnaaDoor.Dr
