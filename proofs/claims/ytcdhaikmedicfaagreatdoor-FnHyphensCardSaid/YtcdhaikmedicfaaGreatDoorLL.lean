/- Several texts in one. -/
import Derived.Test.YtcdhaikmedicfaaGreatDoorSA
import Derived.ProofKit
import Derived.OpenShut
import Derived.ShutString
import Derived.ChangeOld
import Derived.ChangeAt
import Derived.Below
import Derived.Deep.Strs
import Derived.WalkKit
import Derived.Test.YtcdhaikmedicfaaGreatDoorRowB
import Derived.Lib.LaidU8T
import Derived.Lib.SmallJoins
import Derived.Test.YtcdhaikmedicfaaGreatDoorND
import Derived.Test.YtcdhaikmedicfaaGreatDoorDR
/- A slice of strings that came in. -/
namespace Go.Proofs.YtcdhaikmedicfaaGreatDoor.Sty
open Go.ChangeShapes Go.WideShapes Go.ChangeAt Go.RowKit
theorem strs_cells1 : Tryz.prog.cellsOf 23 = 1 := by kernel_rfl
theorem strs_cell {H : Type} {enc : TypeId × Value → H} {w : World} {base : Nat} {held : Bool} {fuel : Nat} {u : Value} {y : DataW H × List MemPlace} (h : DataW.trod enc Tryz.prog w base (fun _ => true) held fuel 23 [u] = some y) :
    ∃ l : List ByteArray, StrsAt w u l ∧ l.length ≤ maxLen ∧ ∀ i, i < l.length → (nthS l i).size ≤ maxLen := by
  rcases Go.Deep.open_strs Tryz.underlying23 Tryz.underlying9 (by kernel_rfl) h with ⟨hcs, _⟩ | ⟨x, len, cap, m, Sx, hcs, _, hl, hm, hmm, _, hc⟩
  · simp at hcs
    subst hcs
    exact ⟨[], ⟨none, 0, rfl, .inl rfl⟩, Nat.zero_le _, fun i hi => absurd hi (Nat.not_lt_zero _)⟩
  · simp at hcs
    subst hcs
    simp only [if_true] at hmm
    subst hmm
    have hlen : ((List.range len).map Sx).length = len := by simp
    have hn : ∀ i, i < len → nthS ((List.range len).map Sx) i = Sx i := fun i hi => by simp [nthS, List.getD, hi]
    refine ⟨(List.range len).map Sx, ⟨some x, m, by rw [hlen], ?_⟩, by rw [hlen]; omega, fun i hi => ?_⟩
    · by_cases h0 : len = 0
      · exact .inl (by rw [h0]; rfl)
      · obtain ⟨b, off, spot⟩ := x
        have hc0 := (hc 0 (by omega)).1
        have hspot : spot = none := by simpa [Addr.add] using World.cell?_spot hc0
        subst hspot
        refine .inr ⟨b, off, rfl, block_lt_of_cell (a := ⟨b, off, none⟩) (by simpa [Addr.add] using hc0), fun i hi => ?_⟩
        rw [hlen] at hi
        have hci := (hc i (by omega)).1
        have ea : (⟨b, off, none⟩ : Addr).add i = ⟨b, off + i, none⟩ := by unfold Addr.add; split <;> simp_all
        rw [ea] at hci
        rw [hn i hi]
        exact hci
    · rw [hlen] at hi
      rw [hn i hi]
      exact (hc i (by omega)).2
set_option maxRecDepth 100000 in
theorem open_row {H : Type} {enc : TypeId × Value → H} {w : World} {base : Nat} {held : Bool} {a : Option Addr} {len cap : Nat} {y : DataW H × List MemPlace} (h : ∃ fuel, DataW.trod enc Tryz.prog w base (fun _ => true) held fuel 23 (Value.slice a len cap).cells.toList = some y) :
    ∃ l : List ByteArray, StrsAt w (.slice a len cap) l ∧ l.length ≤ maxLen ∧ ∀ i, i < l.length → (nthS l i).size ≤ maxLen := by
  obtain ⟨fuel, hf⟩ := h
  exact strs_cell hf
end Go.Proofs.YtcdhaikmedicfaaGreatDoor.Sty
/- What the row's list says of the table, as the walks ask it. -/
namespace Go.Proofs.YtcdhaikmedicfaaGreatDoor
open Go.ChangeShapes Go.WideShapes Go.ChangeAt Go.RowKit
theorem gRep : Tryz.prog.globalNamed "loop.example/g00044/impl.repertoire" = some 3 := by kernel_rfl
theorem gRepType : (Tryz.prog.globals[3]?).map (·.type) = some 151 := by kernel_rfl
theorem cellsArr : Tryz.prog.cellsOf 151 = 196 := by kernel_rfl
theorem cellsRep : Tryz.prog.cellsOf 139 = 4 := by kernel_rfl
theorem cellsU16 : Tryz.prog.cellsOf 137 = 1 := by kernel_rfl
theorem cellsU8 : Tryz.prog.cellsOf 5 = 1 := by kernel_rfl
def rowD {H : Type} (r : Int × Int × Int × Int) : DataW H := .agg [.lit (.int .u16 r.1), .lit (.int .u16 r.2.1), .lit (.int .u8 r.2.2.1), .lit (.int .u8 r.2.2.2)]
theorem laid_eq : (Rows.laid_loop_example_g00044_impl_repertoire : DataW Unit) = .agg (tab.map rowD) := by kernel_rfl
theorem laid_cell {cs : List Value} {i : Nat} {v : Value} (h : (cs.drop i).take 1 = [v]) : cs[i]? = some v := by
  have := congrArg (·[0]?) h
  simpa [List.getElem?_take, List.getElem?_drop] using this
theorem sub_cell {cs : List Value} {a b : Nat} {v : Value} (h : (((cs.drop a).take 4).drop b).take 1 = [v]) (hb : b < 4) : cs[a + b]? = some v := by
  have := laid_cell h
  simpa [List.getElem?_take, List.getElem?_drop, hb] using this
set_option maxRecDepth 100000 in
theorem tabAt_of_reads {W : World} (h : Lib.VarReads Tryz.prog W "loop.example/g00044/impl.repertoire" Rows.laid_loop_example_g00044_impl_repertoire) : TabAt W := by
  obtain ⟨g', t', cs, fuel, p, hg', ht', hvar, hd⟩ := h
  obtain rfl := Option.some.inj (gRep.symm.trans hg')
  obtain rfl := Option.some.inj (gRepType.symm.trans ht')
  rw [laid_eq] at hd
  obtain ⟨xs, m, _, hx, hl, hn, hel⟩ := DataW.trod_array Tryz.underlying151 hd
  rw [cellsRep] at hel
  rw [cellsArr] at hl
  simp only [Prod.mk.injEq, DataW.agg.injEq] at hx
  have hmap := hx.1
  clear hx hd
  have hpos : 3 < W.heap.size := by
    unfold World.var? at hvar
    rw [hg'] at hvar
    simp only [Option.bind_some] at hvar
    cases hh : W.heap[3]? with
    | none => rw [hh] at hvar; cases hvar
    | some o => exact (Array.getElem?_eq_some_iff.1 hh).1
  refine ⟨hpos, fun i hi => ?_⟩
  have hxi := hel i (by omega)
  have hlx : i < xs.length := by omega
  rw [List.getElem?_eq_getElem hlx] at hxi
  have hi1 : xs[i].1 = rowD (tab.getD i Z4) := by
    have h1 : (xs.map (·.1))[i]? = some xs[i].1 := by simp [hlx]
    rw [← hmap] at h1
    have hlt : i < tab.length := by rw [tab_length]; exact hi
    simp only [List.getElem?_map, List.getElem?_eq_getElem hlt, Option.map_some, Option.some.injEq] at h1
    rw [← h1, get_tab i hlt]
  obtain ⟨y0, y1, y2, y3, n, hxe, _, h0, h1, h2, h3⟩ := Joins.trod_struct4 Tryz.underlying139 hxi
  rw [hxe] at hi1
  simp only [rowD, DataW.agg.injEq, List.cons.injEq, and_true] at hi1
  obtain ⟨d0, d1, d2, d3⟩ := hi1
  simp only [cellsU16, cellsU8] at h0 h1 h2 h3
  obtain ⟨z0, c0, e0, _⟩ := DataW.trod_int Tryz.underlying137 h0
  obtain ⟨z1, c1, e1, _⟩ := DataW.trod_int Tryz.underlying137 h1
  obtain ⟨z2, c2, e2, _⟩ := DataW.trod_int Tryz.underlying5 h2
  obtain ⟨z3, c3, e3, _⟩ := DataW.trod_int Tryz.underlying5 h3
  have k0 := sub_cell c0 (by decide)
  have k1 := sub_cell c1 (by decide)
  have k2 := sub_cell c2 (by decide)
  have k3 := sub_cell c3 (by decide)
  rw [e0] at d0; rw [e1] at d1; rw [e2] at d2; rw [e3] at d3
  simp only [DataW.lit.injEq, Lit.int.injEq, true_and] at d0 d1 d2 d3
  have cell := fun j => World.var?_cell hg' hvar j
  refine ⟨?_, ?_, ?_, ?_⟩
  · rw [cell, ← Array.getElem?_toList]; unfold F; rw [← d0]; exact k0
  · rw [cell, ← Array.getElem?_toList]; unfold L; rw [← d1]; exact k1
  · rw [cell, ← Array.getElem?_toList]; unfold C; rw [← d2]; exact k2
  · rw [cell, ← Array.getElem?_toList]; unfold S; rw [← d3]; exact k3
end Go.Proofs.YtcdhaikmedicfaaGreatDoor
/- Two rows alike, as the laws ask it. -/
namespace Go.Proofs.YtcdhaikmedicfaaGreatDoor
open Go.RowKit
set_option maxHeartbeats 1000000 in
theorem lwSame_nil (a b : Option Addr) (c d : Nat) (l : List Int) (w : World) (h0 : l.length = 0) :
    Calls Tryz.prog 6 #[.slice a l.length c, .slice b l.length d] w fun e w' => e = .returned (.bool true) ∧ Below w.heap.size w w' := by
  have H0 := hide h0
  clear h0
  have hl : l.length ≤ 1048576 := by rw [unhide H0]; omega
  have hne : ((l.length : Int) != (l.length : Int)) = false := by simp
  go_enter Tryz.func6, Tryz.ntmps6
  go_wp2
  go_loopw [5] (fun i wr => ∃ k : Nat, k ≤ l.length ∧ i = .int .i64 k ∧ Hid (Below w.heap.size w wr)) (fun i _ => l.length - (intOf i).toNat)
  case atStart => exact ⟨0, Nat.zero_le _, rfl, hide (Below.refl _ _)⟩
  case round =>
    obtain ⟨k, hk, rfl, HB⟩ := hrel
    have hge : ¬ k < l.length := by have := unhide H0; omega
    go_wp2
    go_ret
    exact ⟨rfl, unhide HB⟩
set_option maxHeartbeats 1000000 in
theorem lwSame_at (b1 o1 b2 o2 c d : Nat) (l : List Int) (w : World) (hb1 : b1 < w.heap.size) (hc1 : ∀ i, i < l.length → w.cell? ⟨b1, o1 + i, none⟩ = some (.int .i64 (nth l i)))
    (hb2 : b2 < w.heap.size) (hc2 : ∀ i, i < l.length → w.cell? ⟨b2, o2 + i, none⟩ = some (.int .i64 (nth l i))) (hl : l.length ≤ 1048576) :
    Calls Tryz.prog 6 #[.slice (some ⟨b1, o1, none⟩) l.length c, .slice (some ⟨b2, o2, none⟩) l.length d] w fun e w' => e = .returned (.bool true) ∧ Below w.heap.size w w' := by
  have H1 := hide hc1
  have H2 := hide hc2
  clear hc1 hc2
  have hne : ((l.length : Int) != (l.length : Int)) = false := by simp
  go_enter Tryz.func6, Tryz.ntmps6
  go_wp2
  go_loopw [5] (fun i wr => ∃ k : Nat, k ≤ l.length ∧ i = .int .i64 k ∧ Hid (Below w.heap.size w wr)) (fun i _ => l.length - (intOf i).toNat)
  case atStart => exact ⟨0, Nat.zero_le _, rfl, hide (Below.refl _ _)⟩
  case round =>
    obtain ⟨k, hk, rfl, HB⟩ := hrel
    by_cases hlt : k < l.length
    · have c1 := ((unhide HB).cell (p := ⟨b1, o1 + k, none⟩) hb1).trans ((unhide H1) k hlt)
      have c2 := ((unhide HB).cell (p := ⟨b2, o2 + k, none⟩) hb2).trans ((unhide H2) k hlt)
      have hne2 : (nth l k != nth l k) = false := by simp
      go_wp2
      go_quiet (fail)
      go_wp2
      go_roundw
      case rel => exact ⟨k + 1, by omega, by go_num, hide (bdrew (unhide HB) _)⟩
      case measure => simp [intOf]; omega
    · go_wp2
      go_ret
      exact ⟨rfl, unhide HB⟩
theorem lwSame (v1 v2 : Value) (l : List Int) (w : World) (h1 : IntsAt w v1 l) (h2 : IntsAt w v2 l) (hl : l.length ≤ 1048576) :
    Calls Tryz.prog 6 #[v1, v2] w fun e w' => e = .returned (.bool true) ∧ Below w.heap.size w w' := by
  obtain ⟨a1, c1, rfl, h1⟩ := h1
  obtain ⟨a2, c2, rfl, h2⟩ := h2
  rcases h1 with h1 | ⟨b1, o1, rfl, hb1, hc1⟩
  · exact lwSame_nil a1 a2 c1 c2 l w (by rw [h1]; rfl)
  · rcases h2 with h2 | ⟨b2, o2, rfl, hb2, hc2⟩
    · exact lwSame_nil _ a2 c1 c2 l w (by rw [h2]; rfl)
    · exact lwSame_at b1 o1 b2 o2 c1 c2 l w hb1 hc1 hb2 hc2 hl
end Go.Proofs.YtcdhaikmedicfaaGreatDoor
/- Two rows of texts alike, as the laws ask it. -/
namespace Go.Proofs.YtcdhaikmedicfaaGreatDoor
open Go.RowKit
set_option maxHeartbeats 1000000 in
theorem lwTexts_nil (a b : Option Addr) (c d : Nat) (l : List ByteArray) (w : World) (h0 : l.length = 0) :
    Calls Tryz.prog 9 #[.slice a l.length c, .slice b l.length d] w fun e w' => e = .returned (.bool true) ∧ Below w.heap.size w w' := by
  have H0 := hide h0
  clear h0
  have hl : l.length ≤ 1048576 := by rw [unhide H0]; omega
  have hne : ((l.length : Int) != (l.length : Int)) = false := by simp
  go_enter Tryz.func9, Tryz.ntmps9
  go_wp2
  go_loopw [5] (fun i wr => ∃ k : Nat, k ≤ l.length ∧ i = .int .i64 k ∧ Hid (Below w.heap.size w wr)) (fun i _ => l.length - (intOf i).toNat)
  case atStart => exact ⟨0, Nat.zero_le _, rfl, hide (Below.refl _ _)⟩
  case round =>
    obtain ⟨k, hk, rfl, HB⟩ := hrel
    have hge : ¬ k < l.length := by have := unhide H0; omega
    go_wp2
    go_ret
    exact ⟨rfl, unhide HB⟩
set_option maxHeartbeats 1000000 in
theorem lwTexts_at (b1 o1 b2 o2 c d : Nat) (l : List ByteArray) (w : World) (hb1 : b1 < w.heap.size) (hc1 : ∀ i, i < l.length → w.cell? ⟨b1, o1 + i, none⟩ = some (.string (nthS l i)))
    (hb2 : b2 < w.heap.size) (hc2 : ∀ i, i < l.length → w.cell? ⟨b2, o2 + i, none⟩ = some (.string (nthS l i))) (hl : l.length ≤ 1048576) :
    Calls Tryz.prog 9 #[.slice (some ⟨b1, o1, none⟩) l.length c, .slice (some ⟨b2, o2, none⟩) l.length d] w fun e w' => e = .returned (.bool true) ∧ Below w.heap.size w w' := by
  have H1 := hide hc1
  have H2 := hide hc2
  clear hc1 hc2
  have hne : ((l.length : Int) != (l.length : Int)) = false := by simp
  go_enter Tryz.func9, Tryz.ntmps9
  go_wp2
  go_loopw [5] (fun i wr => ∃ k : Nat, k ≤ l.length ∧ i = .int .i64 k ∧ Hid (Below w.heap.size w wr)) (fun i _ => l.length - (intOf i).toNat)
  case atStart => exact ⟨0, Nat.zero_le _, rfl, hide (Below.refl _ _)⟩
  case round =>
    obtain ⟨k, hk, rfl, HB⟩ := hrel
    by_cases hlt : k < l.length
    · have c1 := ((unhide HB).cell (p := ⟨b1, o1 + k, none⟩) hb1).trans ((unhide H1) k hlt)
      have c2 := ((unhide HB).cell (p := ⟨b2, o2 + k, none⟩) hb2).trans ((unhide H2) k hlt)
      generalize nthS l k = x at c1 c2
      have hne2 := str_ne x
      go_wp2
      go_quiet (fail)
      go_wp2
      go_roundw
      case rel => exact ⟨k + 1, by omega, by go_num, hide (bdrew (unhide HB) _)⟩
      case measure => simp [intOf]; omega
    · go_wp2
      go_ret
      exact ⟨rfl, unhide HB⟩
theorem lwTexts (v1 v2 : Value) (l : List ByteArray) (w : World) (h1 : StrsAt w v1 l) (h2 : StrsAt w v2 l) (hl : l.length ≤ 1048576) :
    Calls Tryz.prog 9 #[v1, v2] w fun e w' => e = .returned (.bool true) ∧ Below w.heap.size w w' := by
  obtain ⟨a1, c1, rfl, h1⟩ := h1
  obtain ⟨a2, c2, rfl, h2⟩ := h2
  rcases h1 with h1 | ⟨b1, o1, rfl, hb1, hc1⟩
  · exact lwTexts_nil a1 a2 c1 c2 l w (by rw [h1]; rfl)
  · rcases h2 with h2 | ⟨b2, o2, rfl, hb2, hc2⟩
    · exact lwTexts_nil _ a2 c1 c2 l w (by rw [h2]; rfl)
    · exact lwTexts_at b1 o1 b2 o2 c1 c2 l w hb1 hc1 hb2 hc2 hl
end Go.Proofs.YtcdhaikmedicfaaGreatDoor
/- A code of draws that came in. -/
namespace Go.Proofs.YtcdhaikmedicfaaGreatDoor.Dr
open Go.ChangeShapes Go.WideShapes Go.ChangeAt Go.RowKit
theorem open_code {H : Type} {enc : TypeId × Value → H} {W : World} {held : Bool} {a : Option Addr} {len cap : Nat} {d : DataW H} {ps : List MemPlace} (h : DataW.Trod enc Tryz.prog W 0 (fun _ => true) held 22 (.slice a len cap) d ps) : CodeIn W a len ∧ len ≤ maxLen := by
  obtain ⟨fuel, hf⟩ := h
  rcases open_ints Tryz.underlying22 Tryz.underlying5 (by kernel_rfl) hf with ⟨hcs, _⟩ | ⟨x, l, c, zs, hcs, _, hl, hm, hz, _, hcell, hwz⟩
  · simp [Value.cells] at hcs
    obtain ⟨rfl, rfl, rfl⟩ := hcs
    exact ⟨.inl rfl, Nat.zero_le _⟩
  · simp [Value.cells] at hcs
    obtain ⟨rfl, rfl, rfl⟩ := hcs
    have hz' : zs.length = cap := by simpa using hz
    refine ⟨?_, by omega⟩
    by_cases h0 : len = 0
    · exact .inl h0
    · obtain ⟨b, off, spot⟩ := x
      have hc0 := hcell 0 (by omega)
      have hspot : spot = none := by simpa [Addr.add] using World.cell?_spot hc0
      subst hspot
      refine .inr ⟨b, off, rfl, block_lt_of_cell (a := ⟨b, off, none⟩) (by simpa [Addr.add] using hc0), fun i hi => ?_⟩
      have hci := hcell i (by omega)
      have ea : (⟨b, off, none⟩ : Addr).add i = ⟨b, off + i, none⟩ := by unfold Addr.add; split <;> simp_all
      rw [ea] at hci
      have hb := bounds_u8 (hwz (zs.getD i 0) (by simp [List.getD, show i < zs.length by omega]))
      exact ⟨_, hci, by omega, by omega⟩
end Go.Proofs.YtcdhaikmedicfaaGreatDoor.Dr
