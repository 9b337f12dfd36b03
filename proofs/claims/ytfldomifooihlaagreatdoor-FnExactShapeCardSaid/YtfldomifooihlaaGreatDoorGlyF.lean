/- Marks in rows of glyphs. -/
import Derived.Test.YtfldomifooihlaaGreatDoorGlyE
namespace Go.Proofs.YtfldomifooihlaaGreatDoor.Gly
open Go.RowKit Chr
set_option linter.unusedVariables false
theorem um5 {F : List Int} {k : Nat} (h : Upm F (k * 5)) (hl : k * 5 + 5 ≤ F.length) :
    Upm (((((F.set (k * 5) (1 + (k : Int) * 5)).set (k * 5 + 1) (1 + (k : Int) * 5 + 1)).set (k * 5 + 2) (1 + (k : Int) * 5 + 1 + 1)).set (k * 5 + 3) (1 + (k : Int) * 5 + 1 + 1 + 1)).set (k * 5 + 4) (1 + (k : Int) * 5 + 1 + 1 + 1 + 1)) ((k + 1) * 5) := by
  have u1 := h.more (by omega)
  have u2 := u1.more (by simp; omega)
  have u3 := u2.more (by simp; omega)
  have u4 := u3.more (by simp; omega)
  have u5 := u4.more (by simp; omega)
  have e : (k + 1) * 5 = k * 5 + 1 + 1 + 1 + 1 + 1 := by omega
  rw [e]
  have e0 : (1 + ((k * 5 : Nat) : Int)) = 1 + (k : Int) * 5 := by omega
  have e1 : (1 + ((k * 5 + 1 : Nat) : Int)) = 1 + (k : Int) * 5 + 1 := by omega
  have e2 : (1 + ((k * 5 + 1 + 1 : Nat) : Int)) = 1 + (k : Int) * 5 + 1 + 1 := by omega
  have e3 : (1 + ((k * 5 + 1 + 1 + 1 : Nat) : Int)) = 1 + (k : Int) * 5 + 1 + 1 + 1 := by omega
  have e4 : (1 + ((k * 5 + 1 + 1 + 1 + 1 : Nat) : Int)) = 1 + (k : Int) * 5 + 1 + 1 + 1 + 1 := by omega
  rw [e0, e1, e2, e3, e4] at u5
  exact u5
set_option maxHeartbeats 2000000 in
theorem markG_pos (B g cap m : Nat) (F : List Int) (w : World) (hn : m ≤ 1048576) (h : FR w B (.slice (some ⟨g, 0, none⟩) m cap) m F) :
    Calls Tryz.prog 36 #[.slice (some ⟨g, 0, none⟩) m cap, .int .i64 1] w fun e w' => e = .returned (.int .i64 (1 + (m : Int) * 5)) ∧ FR w' B (.slice (some ⟨g, 0, none⟩) m cap) m (mks (m * 5)) ∧ w.grownBy w' (some g) := by
  have H := hide h
  have HL := hide h.len
  clear h
  go_enter Tryz.func36, Tryz.ntmps36
  go_wp2
  go_loopw [1, 5] (fun mv i wr => ∃ (k : Nat) (F' : List Int), k ≤ m ∧ i = .int .i64 k ∧ mv = .int .i64 (1 + (k : Int) * 5) ∧ Hid (F'.length = m * 5) ∧ Hid (Upm F' (k * 5)) ∧ Hid (FR wr B (.slice (some ⟨g, 0, none⟩) m cap) m F') ∧ Hid (w.grownBy wr (some g))) (fun _ i _ => m - (intOf i).toNat)
  case atStart => exact ⟨0, F, Nat.zero_le _, rfl, by simp, HL, hide (fun j hj => by omega), H, hide (grown_refl _ _)⟩
  case round =>
    obtain ⟨k, F', hk, rfl, rfl, HL', HU, HO, HB⟩ := hrel
    clear H HL
    by_cases hlt : k < m
    · have hlt' : (k : Int) < (m : Int) := by omega
      have hl := unhide HL'
      obtain ⟨c0, f0⟩ := (unhide HO).cell (k * 5) (by omega)
      have s1 := (unhide HO).set (k * 5) (1 + (k : Int) * 5)
      obtain ⟨c1, f1⟩ := s1.cell (k * 5 + 1) (by omega)
      have s2 := s1.set (k * 5 + 1) (1 + (k : Int) * 5 + 1)
      obtain ⟨c2, f2⟩ := s2.cell (k * 5 + 2) (by omega)
      have s3 := s2.set (k * 5 + 2) (1 + (k : Int) * 5 + 1 + 1)
      obtain ⟨c3, f3⟩ := s3.cell (k * 5 + 3) (by omega)
      have s4 := s3.set (k * 5 + 3) (1 + (k : Int) * 5 + 1 + 1 + 1)
      obtain ⟨c4, f4⟩ := s4.cell (k * 5 + 4) (by omega)
      have s5 := s4.set (k * 5 + 4) (1 + (k : Int) * 5 + 1 + 1 + 1 + 1)
      have HO2 := hide s5
      have HB2 := hide (grown_set (j := k * 5 + 4) (u := .int .i64 (1 + (k : Int) * 5 + 1 + 1 + 1 + 1)) (grown_set (j := k * 5 + 3) (u := .int .i64 (1 + (k : Int) * 5 + 1 + 1 + 1)) (grown_set (j := k * 5 + 2) (u := .int .i64 (1 + (k : Int) * 5 + 1 + 1)) (grown_set (j := k * 5 + 1) (u := .int .i64 (1 + (k : Int) * 5 + 1)) (grown_set (j := k * 5) (u := .int .i64 (1 + (k : Int) * 5)) (unhide HB))))))
      have HU2 := hide (um5 (unhide HU) (by omega))
      have HL2 : Hid ((((((F'.set (k * 5) (1 + (k : Int) * 5)).set (k * 5 + 1) (1 + (k : Int) * 5 + 1)).set (k * 5 + 2) (1 + (k : Int) * 5 + 1 + 1)).set (k * 5 + 3) (1 + (k : Int) * 5 + 1 + 1 + 1)).set (k * 5 + 4) (1 + (k : Int) * 5 + 1 + 1 + 1 + 1)).length = m * 5) := hide (by simp; exact hl)
      generalize nth F' (k * 5) = z0 at c0
      generalize nth (F'.set (k * 5) (1 + (k : Int) * 5)) (k * 5 + 1) = z1 at c1
      generalize nth ((F'.set (k * 5) (1 + (k : Int) * 5)).set (k * 5 + 1) (1 + (k : Int) * 5 + 1)) (k * 5 + 2) = z2 at c2
      generalize nth (((F'.set (k * 5) (1 + (k : Int) * 5)).set (k * 5 + 1) (1 + (k : Int) * 5 + 1)).set (k * 5 + 2) (1 + (k : Int) * 5 + 1 + 1)) (k * 5 + 3) = z3 at c3
      generalize nth ((((F'.set (k * 5) (1 + (k : Int) * 5)).set (k * 5 + 1) (1 + (k : Int) * 5 + 1)).set (k * 5 + 2) (1 + (k : Int) * 5 + 1 + 1)).set (k * 5 + 3) (1 + (k : Int) * 5 + 1 + 1 + 1)) (k * 5 + 4) = z4 at c4
      clear s1 s2 s3 s4 s5 HO HB HU hl HL'
      go_wp2
      go_roundw
      case rel => exact ⟨k + 1, _, by omega, by go_num, by go_num, HL2, HU2, HO2, HB2⟩
      case measure => simp [intOf]; omega
    · obtain rfl : k = m := by omega
      have e := Upm.all (unhide HU) (unhide HL')
      subst e
      go_wp2
      go_ret
      exact ⟨rfl, unhide HO, unhide HB⟩
theorem markG_nil (a : Option Addr) (cap : Nat) (w : World) : Calls Tryz.prog 36 #[.slice a 0 cap, .int .i64 1] w fun e w' => e = .returned (.int .i64 1) ∧ w' = w := by
  go_enter Tryz.func36, Tryz.ntmps36
  go_wp2
  go_loop [1, 5] (fun m i => m = .int .i64 1 ∧ i = .int .i64 0) (fun _ _ => 0)
  case atStart => exact ⟨rfl, rfl⟩
  case round =>
    obtain ⟨rfl, rfl⟩ := hrel
    go_wp2
    go_ret
    exact ⟨rfl, rfl⟩
theorem markG (B m : Nat) (v : Value) (F : List Int) (w : World) (hn : m ≤ 1048576) (h : FR w B v m F) :
    Calls Tryz.prog 36 #[v, .int .i64 1] w fun e w' => e = .returned (.int .i64 (1 + (m : Int) * 5)) ∧ FR w' B v m (mks (m * 5)) ∧ w.grownBy w' v.ownBlock := by
  rcases h.2 with ⟨rfl, rfl⟩ | ⟨g, cap, cur, rfl, _⟩
  · refine (markG_nil none 0 w).mono ?_
    rintro e w' ⟨rfl, rfl⟩
    exact ⟨by simp, World.ownsRow_nil w' B 52 5, grown_refl _ _⟩
  · exact markG_pos B g cap m F w hn h
set_option maxHeartbeats 2000000 in
theorem heldG (B m : Nat) (v : Value) (w : World) (hn : m ≤ 1048576) (h : FR w B v m (mks (m * 5))) :
    Calls Tryz.prog 37 #[v, .int .i64 1] w fun e w' => e = .returned (.int .i64 (1 + (m : Int) * 5)) ∧ w' = w := by
  have hform : ∃ a c, v = .slice a m c ∧ (0 < m → ∃ g, a = some ⟨g, 0, none⟩) := by
    rcases h.2 with ⟨hv, hn⟩ | ⟨g, cap, cur, hv, hg, hh, _⟩
    · exact ⟨none, 0, by rw [hv, hn], fun h => by omega⟩
    · exact ⟨_, _, hv, fun _ => ⟨g, rfl⟩⟩
  obtain ⟨a, c, rfl, hg⟩ := hform
  have H := hide h
  have HG := hide hg
  clear h hg
  go_enter Tryz.func37, Tryz.ntmps37
  go_wp2
  go_loopw [1, 5] (fun mv i wr => ∃ k : Nat, k ≤ m ∧ i = .int .i64 k ∧ mv = .int .i64 (1 + (k : Int) * 5) ∧ wr = w) (fun _ i _ => m - (intOf i).toNat)
  case atStart => exact ⟨0, Nat.zero_le _, rfl, by simp, rfl⟩
  case round =>
    obtain ⟨k, hk, rfl, rfl, rfl⟩ := hrel
    by_cases hlt : k < m
    · have hlt' : (k : Int) < (m : Int) := by omega
      obtain ⟨g, rfl⟩ := unhide HG (by omega)
      have c0 := ((unhide H).cell (k * 5) (by omega)).1
      have c1 := ((unhide H).cell (k * 5 + 1) (by omega)).1
      have c2 := ((unhide H).cell (k * 5 + 2) (by omega)).1
      have c3 := ((unhide H).cell (k * 5 + 3) (by omega)).1
      have c4 := ((unhide H).cell (k * 5 + 4) (by omega)).1
      rw [mks_at _ _ (by omega), show (1 + ((k * 5 : Nat) : Int)) = 1 + (k : Int) * 5 by omega] at c0
      rw [mks_at _ _ (by omega), show (1 + ((k * 5 + 1 : Nat) : Int)) = 1 + (k : Int) * 5 + 1 by omega] at c1
      rw [mks_at _ _ (by omega), show (1 + ((k * 5 + 2 : Nat) : Int)) = 1 + (k : Int) * 5 + 1 + 1 by omega] at c2
      rw [mks_at _ _ (by omega), show (1 + ((k * 5 + 3 : Nat) : Int)) = 1 + (k : Int) * 5 + 1 + 1 + 1 by omega] at c3
      rw [mks_at _ _ (by omega), show (1 + ((k * 5 + 4 : Nat) : Int)) = 1 + (k : Int) * 5 + 1 + 1 + 1 + 1 by omega] at c4
      have n0 : ((1 + (k : Int) * 5) != (1 + (k : Int) * 5)) = false := by simp
      have n1 : ((1 + (k : Int) * 5 + 1) != (1 + (k : Int) * 5 + 1)) = false := by simp
      have n2 : ((1 + (k : Int) * 5 + 1 + 1) != (1 + (k : Int) * 5 + 1 + 1)) = false := by simp
      have n3 : ((1 + (k : Int) * 5 + 1 + 1 + 1) != (1 + (k : Int) * 5 + 1 + 1 + 1)) = false := by simp
      have n4 : ((1 + (k : Int) * 5 + 1 + 1 + 1 + 1) != (1 + (k : Int) * 5 + 1 + 1 + 1 + 1)) = false := by simp
      go_wp2
      go_roundw
      case rel => exact ⟨k + 1, by omega, by go_num, by go_num, trivial⟩
      case measure => simp [intOf]; omega
    · obtain rfl : k = m := by omega
      go_wp2
      go_ret
      exact ⟨rfl, rfl⟩
end Go.Proofs.YtfldomifooihlaaGreatDoor.Gly
