/- The program's rowOf and twinOf answer as the plain numbers say, wherever the table lies as its text lays it. -/
import Derived.Test.YtbaedapnikhdgaaGreatDoorRows
import Derived.Test.YtbaedapnikhdgaaGreatDoorIndex
import Derived.Test.YtbaedapnikhdgaaGreatDoorBase
import Derived.WalkKit
import Derived.WalkLawsBesides
import Derived.WalkSpells
import Derived.Below
namespace Go.Proofs.YtbaedapnikhdgaaGreatDoor
open Go.RowKit
/-- The table lies in the first block: a row is two numbers of 16 bits and two of 8. -/
def TabAt (w : World) : Prop := 2 < w.heap.size ∧ ∀ m : Nat, m < 49 →
  w.cell? ⟨2, m * 4, none⟩ = some (.int .u16 (F m)) ∧ w.cell? ⟨2, m * 4 + 1, none⟩ = some (.int .u16 (L m)) ∧
  w.cell? ⟨2, m * 4 + 2, none⟩ = some (.int .u8 (C m)) ∧ w.cell? ⟨2, m * 4 + 3, none⟩ = some (.int .u8 (S m))
theorem TabAt.below {w w' : World} (h : TabAt w) (hb : Below w.heap.size w w') : TabAt w' := by
  refine ⟨Nat.lt_of_lt_of_le h.1 hb.size, fun m hm => ?_⟩
  have := h.2 m hm
  refine ⟨?_, ?_, ?_, ?_⟩
  · rw [hb.cell (p := ⟨2, m * 4, none⟩) h.1]; exact this.1
  · rw [hb.cell (p := ⟨2, m * 4 + 1, none⟩) h.1]; exact this.2.1
  · rw [hb.cell (p := ⟨2, m * 4 + 2, none⟩) h.1]; exact this.2.2.1
  · rw [hb.cell (p := ⟨2, m * 4 + 3, none⟩) h.1]; exact this.2.2.2
theorem TabAt.alloc {w : World} (h : TabAt w) (o : Obj) : TabAt (w.alloc o) :=
  h.below ((Below.refl _ _).alloc (Nat.le_refl _) o)

set_option maxRecDepth 100000 in
theorem twin_any (p : Int) (w : World) : Calls Tryz.prog 78 #[.int .i64 p] w fun e w' => e = .returned (.int .i64 (twin p)) ∧ w' = w := by
  by_cases h1 : 768 ≤ p
  · by_cases h2 : p < 1280
    · go_enter Tryz.func78, Tryz.ntmps78
      go_wp2
      go_ret
      exact ⟨ret_int (by unfold twin; rw [if_pos ⟨h1, h2⟩]), rfl⟩
    · go_enter Tryz.func78, Tryz.ntmps78
      go_wp2
      go_ret
      exact ⟨ret_int (by unfold twin; rw [if_neg (by omega)]), rfl⟩
  · go_enter Tryz.func78, Tryz.ntmps78
    go_wp2
    go_ret
    exact ⟨ret_int (by unfold twin; rw [if_neg (by omega)]), rfl⟩

theorem wrap_u16 (n : Int) (h0 : 0 ≤ n) (h1 : n ≤ 65535) : wrap64 n = n := by unfold wrap64; omega
set_option maxRecDepth 100000 in
set_option maxHeartbeats 1000000 in
theorem rowOf_ex (p : Int) (w : World) (ht : TabAt w) : Calls Tryz.prog 77 #[.int .i64 p] w fun e w' =>
    e = .returned (.agg #[.int .u16 (rowOf p).1, .int .u16 (rowOf p).2.1, .int .u8 (rowOf p).2.2.1, .int .u8 (rowOf p).2.2.2]) ∧ ∃ o, w' = w.alloc o := by
  have hix := idx_le p
  have H := hide ht
  have hpos := ht.1
  clear ht
  go_enter Tryz.func77, Tryz.ntmps77
  go_wp2
  go_loop [3, 4] (fun l h => ∃ a b : Nat, a ≤ idx p ∧ idx p ≤ b ∧ b ≤ 49 ∧ l = .int .i64 a ∧ h = .int .i64 b) (fun l h => (intOf h).toNat - (intOf l).toNat)
  case atStart => exact ⟨0, 49, by omega, by omega, by omega, rfl, rfl⟩
  case round =>
    obtain ⟨a, b, ha, hb, hb49, rfl, rfl⟩ := hrel
    by_cases hlt : a < b
    · have hm : (a + b) / 2 < 49 := by omega
      have hcell := ((unhide H).2 ((a + b) / 2) hm).2.1
      have hbd := bd ((a + b) / 2) hm
      have hw64 := wrap_u16 (L ((a + b) / 2)) hbd.2.2.1 hbd.2.2.2.1
      clear hbd
      by_cases hc : L ((a + b) / 2) < p
      · have hi : (a + b) / 2 < idx p := by
          by_cases hh : (a + b) / 2 < idx p
          · exact hh
          · have := ge_idx p _ hm (by omega); omega
        go_wp2
        go_round
        case rel => exact ⟨(a + b) / 2 + 1, b, by omega, hb, hb49, by go_num, rfl⟩
        case measure => simp [intOf]; omega
      · have hi : idx p ≤ (a + b) / 2 := by
          by_cases hh : (a + b) / 2 < idx p
          · have := lt_idx p _ hh; omega
          · omega
        go_wp2
        go_round
        case rel => exact ⟨a, (a + b) / 2, ha, hi, by omega, rfl, by go_num⟩
        case measure => simp [intOf]; omega
    · have hai : a = idx p := by omega
      by_cases h49 : a = 49
      · have HR := hide (row_none p (.inl (by omega)))
        clear hai ha hb
        subst h49
        go_wp2
        exact bodyPost_ret (v := .agg #[.int .u16 0, .int .u16 0, .int .u8 0, .int .u8 0]) (by simp [results, Tryz.results77, go_sem]) rfl
          ⟨by rw [unhide HR]; rfl, _, rfl⟩
      · have h49' : ((a : Int) == 49) = false := by simp; omega
        have ha49 : a < 49 := by omega
        have hcell := (unhide H).2 a ha49
        obtain ⟨k0, k1, k2, k3⟩ := hcell
        have hbd := bd a (by omega)
        have hw64 := wrap_u16 (F a) hbd.1 hbd.2.1
        clear hbd
        by_cases hF : p < F a
        · have HR := hide (row_none p (.inr (by rw [← hai]; exact hF)))
          clear hai ha hb h49
          go_wp2
          exact bodyPost_ret (v := .agg #[.int .u16 0, .int .u16 0, .int .u8 0, .int .u8 0]) (by simp [results, Tryz.results77, go_sem]) rfl
            ⟨by rw [unhide HR]; rfl, _, rfl⟩
        · have HR := hide (row_some p (by omega) (by rw [← hai]; omega))
          rw [← hai] at HR
          clear hai ha hb h49
          go_wp2
          exact bodyPost_ret (v := .agg #[.int .u16 (F a), .int .u16 (L a), .int .u8 (C a), .int .u8 (S a)]) (by simp [results, Tryz.results77, go_sem]) rfl
            ⟨by rw [unhide HR], _, rfl⟩
theorem below_ex {w w' : World} (h : ∃ o, w' = w.alloc o) : Below w.heap.size w w' := by obtain ⟨o, rfl⟩ := h; exact (Below.refl _ _).alloc (Nat.le_refl _) _
theorem rowOf_any (p : Int) (w : World) (ht : TabAt w) : Calls Tryz.prog 77 #[.int .i64 p] w fun e w' =>
    e = .returned (.agg #[.int .u16 (rowOf p).1, .int .u16 (rowOf p).2.1, .int .u8 (rowOf p).2.2.1, .int .u8 (rowOf p).2.2.2]) ∧ Below w.heap.size w w' :=
  (rowOf_ex p w ht).mono fun _ _ h => ⟨h.1, below_ex h.2⟩
end Go.Proofs.YtbaedapnikhdgaaGreatDoor
