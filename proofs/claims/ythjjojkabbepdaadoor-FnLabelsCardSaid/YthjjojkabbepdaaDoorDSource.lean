/- The source that a code makes. -/
import Derived.Test.YthjjojkabbepdaaDoorDSrc
namespace Go.Proofs.YthjjojkabbepdaaDoor.Dr
open Go.RowKit
/-- The source's block in a world that has it new. -/
def S5 (w wx : World) (src : Nat) (c0 : Value) (mix size : Int) : Prop :=
  wx.heap[src]? = some (.cells #[c0, .int .i64 0, .int .u64 mix, .int .i64 size] 47 (0, 0)) ∧ Below w.heap.size w wx ∧ (Lit.int .u64 mix).wf = true
theorem S5.drew {w wx : World} {src : Nat} {c0 : Value} {mix size : Int} (h : S5 w wx src c0 mix size) : S5 w wx.drew src c0 mix size := ⟨h.1, h.2.1.drew, h.2.2⟩
theorem S5.drewN {w wx : World} {src : Nat} {c0 : Value} {mix size : Int} (h : S5 w wx src c0 mix size) (n : Nat) : S5 w (wx.drewN n) src c0 mix size := ⟨h.1, bdrew h.2.1 n, h.2.2⟩
theorem S5.set2 {w wx : World} {src : Nat} {c0 : Value} {mix size : Int} (h : S5 w wx src c0 mix size) (hs : w.heap.size ≤ src) (m : Int) (hm : (Lit.int .u64 m).wf = true) : S5 w (wx.setCell ⟨src, 2, none⟩ (.int .u64 m)) src c0 m size :=
  ⟨heap_setCell_same wx src 2 _ 47 _ h.1, h.2.1.setCell (p := ⟨src, 2, none⟩) hs _, hm⟩
theorem S5.set3 {w wx : World} {src : Nat} {c0 : Value} {mix size : Int} (h : S5 w wx src c0 mix size) (hs : w.heap.size ≤ src) (z : Int) : S5 w (wx.setCell ⟨src, 3, none⟩ (.int .i64 z)) src c0 mix z :=
  ⟨heap_setCell_same wx src 3 _ 47 _ h.1, h.2.1.setCell (p := ⟨src, 3, none⟩) hs _, h.2.2⟩
/-- What is told of the code: it can be read. -/
def CodeIn (w : World) (a : Option Addr) (len : Nat) : Prop :=
  len = 0 ∨ ∃ cb off, a = some ⟨cb, off, none⟩ ∧ cb < w.heap.size ∧ ∀ i, i < len → ∃ z : Int, w.cell? ⟨cb, off + i, none⟩ = some (.int .u8 z) ∧ 0 ≤ z ∧ z < 256
theorem src_of {w wx : World} {a : Option Addr} {len cap : Nat} {mix size : Int} (hc : CodeIn w a len) (h : S5 w wx w.heap.size (.slice a len cap) mix size) : SrcAt wx w.heap.size a len cap size := by
  refine ⟨?_, 0, mix, Nat.zero_le _, h.2.2, h.1⟩
  rcases hc with h0 | ⟨cb, off, ha, hlt, hcc⟩
  · exact .inl h0
  · refine .inr ⟨cb, off, ha, Nat.lt_of_lt_of_le hlt h.2.1.size, by omega, fun i hi => ?_⟩
    obtain ⟨z, hz, hb⟩ := hcc i hi
    exact ⟨z, (h.2.1.cell (p := ⟨cb, off + i, none⟩) hlt).trans hz, hb⟩
set_option maxHeartbeats 2000000 in
set_option maxRecDepth 100000 in
theorem source_at (w : World) (cb off cap len : Nat) (hl : len ≤ 1048576) (hcb : cb < w.heap.size) (hcc : ∀ i, i < len → ∃ z : Int, w.cell? ⟨cb, off + i, none⟩ = some (.int .u8 z) ∧ 0 ≤ z ∧ z < 256) :
    Calls Tryd.prog 11 #[.slice (some ⟨cb, off, none⟩) len cap] w fun e w' => e = .returned (.pointer (some ⟨w.heap.size, 0, none⟩)) ∧ ∃ mix size, 0 ≤ size ∧ size ≤ 12 ∧ S5 w w' w.heap.size (.slice (some ⟨cb, off, none⟩) len cap) mix size := by
  have HC := hide hcc
  clear hcc
  have H0 : Hid (S5 w (w.alloc (.cells #[.slice (some ⟨cb, off, none⟩) len cap, .int .i64 0, .int .u64 88172645463325252, .int .i64 0] 47)) w.heap.size (.slice (some ⟨cb, off, none⟩) len cap) 88172645463325252 0) :=
    hide ⟨heap_alloc_new _ _, (Below.refl _ _).alloc (Nat.le_refl _) _, by decide +kernel⟩
  go_enter Tryd.func11, Tryd.ntmps11
  go_wp2
  go_loopw [4] (fun i wr => ∃ (k : Nat) (mix : Int), k ≤ len ∧ i = .int .i64 k ∧ Hid (S5 w wr w.heap.size (.slice (some ⟨cb, off, none⟩) len cap) mix 0)) (fun i _ => len - (intOf i).toNat)
  case atStart => exact ⟨0, _, Nat.zero_le _, rfl, H0⟩
  case round =>
    obtain ⟨k, mix, hk, rfl, H⟩ := hrel
    clear H0
    obtain ⟨c0, c1, c2, c3, f1, f2, f3⟩ := src_cells (unhide H).1
    by_cases hlt : k < len
    · by_cases h64 : k < 64
      · obtain ⟨z, hz, z0, z1⟩ := (unhide HC) k hlt
        have hz' := ((unhide H).2.1.cell (p := ⟨cb, off + k, none⟩) hcb).trans hz
        clear hz
        go_wp2
        go_region
        all_goals go_wp2
        all_goals go_roundw
        case rel => exact ⟨k + 1, _, by omega, by go_num, hide (((unhide H).set2 (Nat.le_refl _) _ (wf_wrap _ _)).drew)⟩
        case measure => simp [intOf]; omega
      · by_cases h12 : 12 < len / 20
        · go_wp2
          go_ret
          exact ⟨rfl, mix, 12, by omega, by omega, ((unhide H).set3 (Nat.le_refl _) _).set3 (Nat.le_refl _) _⟩
        · go_wp2
          go_ret
          exact ⟨rfl, mix, (len / 20 : Nat), by omega, by omega, (unhide H).set3 (Nat.le_refl _) _⟩
    · by_cases h12 : 12 < len / 20
      · go_wp2
        go_ret
        exact ⟨rfl, mix, 12, by omega, by omega, ((unhide H).set3 (Nat.le_refl _) _).set3 (Nat.le_refl _) _⟩
      · go_wp2
        go_ret
        exact ⟨rfl, mix, (len / 20 : Nat), by omega, by omega, (unhide H).set3 (Nat.le_refl _) _⟩
set_option maxHeartbeats 2000000 in
set_option maxRecDepth 100000 in
theorem source_nil (w : World) (a : Option Addr) (cap : Nat) :
    Calls Tryd.prog 11 #[.slice a 0 cap] w fun e w' => e = .returned (.pointer (some ⟨w.heap.size, 0, none⟩)) ∧ ∃ mix size, 0 ≤ size ∧ size ≤ 12 ∧ S5 w w' w.heap.size (.slice a 0 cap) mix size := by
  have H0 : Hid (S5 w (w.alloc (.cells #[.slice a 0 cap, .int .i64 0, .int .u64 88172645463325252, .int .i64 0] 47)) w.heap.size (.slice a 0 cap) 88172645463325252 0) :=
    hide ⟨heap_alloc_new _ _, (Below.refl _ _).alloc (Nat.le_refl _) _, by decide +kernel⟩
  go_enter Tryd.func11, Tryd.ntmps11
  go_wp2
  refine wp_loop_rounds 1 ?_
  rw [rounds_succ]
  go_wp2
  go_ret
  exact ⟨rfl, _, 0, by omega, by omega, unhide H0⟩
/-- The source of a code: a new block; nothing else has turned. -/
theorem source_any (w : World) (a : Option Addr) (len cap : Nat) (hl : len ≤ 1048576) (hc : CodeIn w a len) :
    Calls Tryd.prog 11 #[.slice a len cap] w fun e w' => e = .returned (.pointer (some ⟨w.heap.size, 0, none⟩)) ∧ ∃ size, 0 ≤ size ∧ size ≤ 12 ∧ SrcAt w' w.heap.size a len cap size ∧ Below w.heap.size w w' ∧ w.heap.size < w'.heap.size := by
  have fin : ∀ {w' : World} {mix size : Int}, S5 w w' w.heap.size (.slice a len cap) mix size → SrcAt w' w.heap.size a len cap size ∧ Below w.heap.size w w' ∧ w.heap.size < w'.heap.size :=
    fun h => ⟨src_of hc h, h.2.1, (Array.getElem?_eq_some_iff.1 h.1).1⟩
  rcases id hc with h0 | ⟨cb, off, rfl, hlt, hcc⟩
  · subst h0
    exact (source_nil w a cap).mono fun e w' ⟨he, mix, size, h1, h2, h5⟩ => ⟨he, size, h1, h2, fin h5⟩
  · exact (source_at w cb off cap len hl hlt hcc).mono fun e w' ⟨he, mix, size, h1, h2, h5⟩ => ⟨he, size, h1, h2, fin h5⟩
end Go.Proofs.YthjjojkabbepdaaDoor.Dr
