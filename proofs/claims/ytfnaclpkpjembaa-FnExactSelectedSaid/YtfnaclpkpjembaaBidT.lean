/- Rows of stretches: two alike, marks; what is selected. -/
import Derived.Test.YtfnaclpkpjembaaBidL
import Derived.Deep.RegionWith
namespace Go.Proofs.Ytfnaclpkpjembaa.Bd
open Go.RowKit
set_option linter.unusedVariables false
theorem infoSt : (Try.prog.info? 38).map (fun i => (i.zero, i.size, i.bytes)) = some (some (.agg #[.int .i64 0, .int .i64 0]), 2, 16) := by kernel_rfl
/-- A row of m stretches of the call's own, its numbers one behind the other. -/
def StRow (w : World) (B : Nat) (v : Value) (m : Nat) (F : List Int) : Prop := w.ownsRow B 38 2 v m (F.map (Value.int .i64))
theorem StRow.len {w : World} {B : Nat} {v : Value} {m : Nat} {F : List Int} (h : StRow w B v m F) : F.length = m * 2 := by have := h.1; simpa using this
theorem StRow.below {w w' : World} {B : Nat} {v : Value} {m : Nat} {F : List Int} (h : StRow w B v m F) (hb : Below w.heap.size w w') : StRow w' B v m F := ownsRow_below h hb
theorem StRow.base {w : World} {B B' : Nat} {v : Value} {m : Nat} {F : List Int} (h : StRow w B v m F) (hb : B' ≤ B) : StRow w B' v m F := own_base h hb
theorem StRow.keep {w w' : World} {B : Nat} {v : Value} {m : Nat} {F : List Int} {r : Option Nat} (h : StRow w B v m F) (hg : w.grownBy w' r) (hne : ∀ k, v.ownBlock = some k → r ≠ some k) : StRow w' B v m F :=
  ownsRow_at h (fun k hk => hg.block k (World.ownsRow.lt h k hk).2 (fun e => hne k hk e.symm))
theorem StRow.form {w : World} {B : Nat} {v : Value} {m : Nat} {F : List Int} (h : StRow w B v m F) : ∃ a c, v = .slice a m c ∧ (0 < m → ∃ g, a = some ⟨g, 0, none⟩ ∧ B ≤ g ∧ g < w.heap.size) := by
  rcases h.2 with ⟨hv, hn⟩ | ⟨g, cap, cur, hv, hg, hh, _⟩
  · exact ⟨none, 0, by rw [hv, hn], fun h => by omega⟩
  · exact ⟨_, _, hv, fun _ => ⟨g, rfl, hg, (Array.getElem?_eq_some_iff.1 hh).1⟩⟩
theorem StRow.cell {w : World} {B g c m : Nat} {F : List Int} (h : StRow w B (.slice (some ⟨g, 0, none⟩) m c) m F) (i : Nat) (hi : i < m * 2) : w.cell? ⟨g, i, none⟩ = some (.int .i64 (nth F i)) ∧ w.frozen? ⟨g, i, none⟩ = false := by
  refine ⟨?_, World.ownsRow.frozenAt h i⟩
  have e := h.len
  rw [World.ownsRow.cellAt h i (by omega), List.getElem?_map]
  simp [nth, List.getD, e, hi]
theorem StRow.set {w : World} {B g c m : Nat} {F : List Int} (h : StRow w B (.slice (some ⟨g, 0, none⟩) m c) m F) (i : Nat) (x : Int) : StRow (w.setCell ⟨g, i, none⟩ (.int .i64 x)) B (.slice (some ⟨g, 0, none⟩) m c) m (F.set i x) := by
  unfold StRow
  rw [List.map_set]
  exact (World.ownsRow.stored h i (.int .i64 x)).1
theorem eqStretch_any (x y : Int) (w : World) : Calls Try.prog 31 #[.agg #[.int .i64 x, .int .i64 y], .agg #[.int .i64 x, .int .i64 y]] w fun e w' => e = .returned (.bool true) ∧ Below w.heap.size w w' := by
  have h1 : (x != x) = false := by simp
  have h2 : (y != y) = false := by simp
  go_enter Try.func31, Try.ntmps31
  go_wp2
  go_ret
  exact ⟨rfl, ((Below.refl _ _).alloc (Nat.le_refl _) _).alloc (by simp) _⟩
theorem drew_bel (w : World) : Below w.heap.size w w.drew := ⟨rfl, rfl, rfl, Nat.le_refl _, fun _ _ => rfl⟩
set_option maxHeartbeats 2000000 in
set_option maxRecDepth 100000 in
theorem eqStretchs_any (v1 v2 : Value) (m : Nat) (F : List Int) (B1 B2 : Nat) (w : World) (h1 : StRow w B1 v1 m F) (h2 : StRow w B2 v2 m F) (hl : m ≤ 1048576) :
    Calls Try.prog 19 #[v1, v2] w fun e w' => e = .returned (.bool true) ∧ Below w.heap.size w w' := by
  obtain ⟨a1, c1, rfl, hg1⟩ := h1.form
  obtain ⟨a2, c2, rfl, hg2⟩ := h2.form
  have H1 := hide h1
  have H2 := hide h2
  have G1 := hide hg1
  have G2 := hide hg2
  clear h1 h2 hg1 hg2
  have hne : ((m : Int) != (m : Int)) = false := by simp
  go_enter Try.func19, Try.ntmps19
  go_wp2
  go_loopw [5] (fun i wr => ∃ k : Nat, k ≤ m ∧ i = .int .i64 k ∧ Hid (Below w.heap.size w wr)) (fun i _ => m - (intOf i).toNat)
  case atStart => exact ⟨0, Nat.zero_le _, rfl, hide (Below.refl _ _)⟩
  case round =>
    obtain ⟨k, hk, rfl, HB⟩ := hrel
    by_cases hlt : k < m
    · obtain ⟨g1, rfl, _, _⟩ := (unhide G1) (by omega)
      obtain ⟨g2, rfl, _, _⟩ := (unhide G2) (by omega)
      have x0 := (((unhide H1).below (unhide HB)).cell (k * 2) (by omega)).1
      have x1 := (((unhide H1).below (unhide HB)).cell (k * 2 + 1) (by omega)).1
      have y0 := (((unhide H2).below (unhide HB)).cell (k * 2) (by omega)).1
      have y1 := (((unhide H2).below (unhide HB)).cell (k * 2 + 1) (by omega)).1
      have hlt' : (k : Int) < (m : Int) := by omega
      have h0k : (0 : Int) ≤ (k : Int) := by omega
      generalize nth F (k * 2) = r at *
      generalize nth F (k * 2 + 1) = q at *
      go_wp2_with fail
      go_region_with (go_at_call 31; refine (eqStretch_any _ _ _).mono ?_; rintro e w2 ⟨rfl, hb2⟩)
      all_goals
        have HB' := hide ((unhide HB).trans (((drew_bel wr).trans hb2).mono (unhide HB).size))
        clear hb2
        go_wp2
        go_roundw
        case rel => exact ⟨k + 1, by omega, by go_num, HB'⟩
        case measure => simp [intOf]; omega
    · go_wp2
      go_ret
      exact ⟨rfl, unhide HB⟩
/-- The marks 1, 2 and so on. -/
def mks (n : Nat) : List Int := (List.range n).map fun (i : Nat) => 1 + (i : Int)
theorem mks_len (n : Nat) : (mks n).length = n := by simp [mks]
theorem mks_at (n k : Nat) (h : k < n) : nth (mks n) k = 1 + (k : Int) := nth_map _ _ _ h
/-- The first k numbers are marks. -/
def Upm (F : List Int) (k : Nat) : Prop := ∀ j, j < k → nth F j = 1 + (j : Int)
theorem Upm.more {F : List Int} {k : Nat} (h : Upm F k) (hk : k < F.length) : Upm (F.set k (1 + (k : Int))) (k + 1) := by
  intro j hj
  rw [nth_set _ _ _ _ hk]
  by_cases e : j = k
  · rw [if_pos e, e]
  · rw [if_neg e]; exact h j (by omega)
theorem Upm.all {F : List Int} {n : Nat} (h : Upm F n) (hl : F.length = n) : F = mks n :=
  ext_nth (by rw [mks_len]; exact hl) (fun k hk => by rw [h k (by omega), mks_at _ _ (by omega)])
set_option maxHeartbeats 2000000 in
theorem markSt_pos (B g cap m : Nat) (F : List Int) (w : World) (hn : m ≤ 1048576) (h : StRow w B (.slice (some ⟨g, 0, none⟩) m cap) m F) :
    Calls Try.prog 20 #[.slice (some ⟨g, 0, none⟩) m cap, .int .i64 1] w fun e w' => e = .returned (.int .i64 (1 + (m : Int) * 2)) ∧ StRow w' B (.slice (some ⟨g, 0, none⟩) m cap) m (mks (m * 2)) ∧ w.grownBy w' (some g) := by
  have H := hide h
  have HL := hide h.len
  clear h
  go_enter Try.func20, Try.ntmps20
  go_wp2
  go_loopw [1, 5] (fun mv i wr => ∃ (k : Nat) (F' : List Int), k ≤ m ∧ i = .int .i64 k ∧ mv = .int .i64 (1 + (k : Int) * 2) ∧ Hid (F'.length = m * 2) ∧ Hid (Upm F' (k * 2)) ∧ Hid (StRow wr B (.slice (some ⟨g, 0, none⟩) m cap) m F') ∧ Hid (w.grownBy wr (some g))) (fun _ i _ => m - (intOf i).toNat)
  case atStart => exact ⟨0, F, Nat.zero_le _, rfl, by simp, HL, hide (fun j hj => by omega), H, hide (grown_refl _ _)⟩
  case round =>
    obtain ⟨k, F', hk, rfl, rfl, HL', HU, HO, HB⟩ := hrel
    clear H HL
    by_cases hlt : k < m
    · have hlt' : (k : Int) < (m : Int) := by omega
      have hl := unhide HL'
      obtain ⟨c0, f0⟩ := (unhide HO).cell (k * 2) (by omega)
      have s1 := (unhide HO).set (k * 2) (1 + (k : Int) * 2)
      obtain ⟨c1, f1⟩ := s1.cell (k * 2 + 1) (by omega)
      have s2 := s1.set (k * 2 + 1) (1 + (k : Int) * 2 + 1)
      have HO2 := hide s2
      have HB2 := hide (grown_set (j := k * 2 + 1) (u := .int .i64 (1 + (k : Int) * 2 + 1)) (grown_set (j := k * 2) (u := .int .i64 (1 + (k : Int) * 2)) (unhide HB)))
      have u1 := (unhide HU).more (by omega)
      have u2 := u1.more (by simp; omega)
      rw [show (1 + ((k * 2 : Nat) : Int)) = 1 + (k : Int) * 2 by omega] at u2
      rw [show (1 + ((k * 2 + 1 : Nat) : Int)) = 1 + (k : Int) * 2 + 1 by omega] at u2
      have HU2 : Hid (Upm ((F'.set (k * 2) (1 + (k : Int) * 2)).set (k * 2 + 1) (1 + (k : Int) * 2 + 1)) ((k + 1) * 2)) := hide (by rw [show (k + 1) * 2 = k * 2 + 1 + 1 by omega]; exact u2)
      generalize nth F' (k * 2) = z0 at *
      generalize nth (F'.set (k * 2) (1 + (k : Int) * 2)) (k * 2 + 1) = z1 at *
      clear s1 s2 u1 u2 HO HB HU hl
      go_wp2
      go_roundw
      case rel => exact ⟨k + 1, _, by omega, by go_num, by go_num, hide (by simp; exact unhide HL'), HU2, HO2, HB2⟩
      case measure => simp [intOf]; omega
    · obtain rfl : k = m := by omega
      have e := Upm.all (unhide HU) (unhide HL')
      subst e
      go_wp2
      go_ret
      exact ⟨rfl, unhide HO, unhide HB⟩
theorem markSt_nil (a : Option Addr) (cap : Nat) (w : World) : Calls Try.prog 20 #[.slice a 0 cap, .int .i64 1] w fun e w' => e = .returned (.int .i64 1) ∧ w' = w := by
  go_enter Try.func20, Try.ntmps20
  go_wp2
  go_loop [1, 5] (fun m i => m = .int .i64 1 ∧ i = .int .i64 0) (fun _ _ => 0)
  case atStart => exact ⟨rfl, rfl⟩
  case round =>
    obtain ⟨rfl, rfl⟩ := hrel
    go_wp2
    go_ret
    exact ⟨rfl, rfl⟩
theorem markSt (B m : Nat) (v : Value) (F : List Int) (w : World) (hn : m ≤ 1048576) (h : StRow w B v m F) :
    Calls Try.prog 20 #[v, .int .i64 1] w fun e w' => e = .returned (.int .i64 (1 + (m : Int) * 2)) ∧ StRow w' B v m (mks (m * 2)) ∧ w.grownBy w' v.ownBlock := by
  rcases h.2 with ⟨rfl, rfl⟩ | ⟨g, cap, cur, rfl, _⟩
  · refine (markSt_nil none 0 w).mono ?_
    rintro e w' ⟨rfl, rfl⟩
    exact ⟨by simp, World.ownsRow_nil w' B 38 2, grown_refl _ _⟩
  · exact markSt_pos B g cap m F w hn h
set_option maxHeartbeats 2000000 in
theorem heldSt (B m : Nat) (v : Value) (w : World) (hn : m ≤ 1048576) (h : StRow w B v m (mks (m * 2))) :
    Calls Try.prog 21 #[v, .int .i64 1] w fun e w' => e = .returned (.int .i64 (1 + (m : Int) * 2)) ∧ w' = w := by
  obtain ⟨a, cap, rfl, hg⟩ := h.form
  have H := hide h
  have G := hide hg
  clear h hg
  go_enter Try.func21, Try.ntmps21
  go_wp2
  go_loop [1, 5] (fun mv i => ∃ k : Nat, k ≤ m ∧ i = .int .i64 k ∧ mv = .int .i64 (1 + (k : Int) * 2)) (fun _ i => m - (intOf i).toNat)
  case atStart => exact ⟨0, Nat.zero_le _, rfl, rfl⟩
  case round =>
    obtain ⟨k, hk, rfl, rfl⟩ := hrel
    by_cases hlt : k < m
    · have hlt' : (k : Int) < (m : Int) := by omega
      obtain ⟨g, rfl, _, _⟩ := unhide G (by omega)
      have r0 := ((unhide H).cell (k * 2) (by omega)).1
      have r1 := ((unhide H).cell (k * 2 + 1) (by omega)).1
      rw [mks_at _ _ (by omega), show (1 + ((k * 2 : Nat) : Int)) = 1 + (k : Int) * 2 by omega] at r0
      rw [mks_at _ _ (by omega), show (1 + ((k * 2 + 1 : Nat) : Int)) = 1 + (k : Int) * 2 + 1 by omega] at r1
      have e0 : ((1 + (k : Int) * 2) != (1 + (k : Int) * 2)) = false := by simp
      have e1 : ((1 + (k : Int) * 2 + 1) != (1 + (k : Int) * 2 + 1)) = false := by simp
      go_wp2
      go_round
      case rel => exact ⟨k + 1, by omega, by go_num, by go_num⟩
      case measure => simp [intOf]; omega
    · obtain rfl : k = m := by omega
      go_wp2
      go_ret
      exact ⟨rfl, rfl⟩
end Go.Proofs.Ytfnaclpkpjembaa.Bd
