/- Marks written into rows of numbers of the call's own, and found again. -/
import Derived.Test.YtfnaclpkpjembaaSetGL
namespace Go.Proofs.Ytfnaclpkpjembaa
open Go.RowKit
/-- The marks m0, m0 + 1 and so on. -/
def mkI (m0 : Int) (n : Nat) : List Value := (List.range n).map (fun (i : Nat) => Value.int .i64 (m0 + (i : Int)))
theorem mkI_len (m0 : Int) (n : Nat) : (mkI m0 n).length = n := by simp [mkI]
theorem mkI_at (m0 : Int) (n k : Nat) (h : k < n) : (mkI m0 n)[k]? = some (Value.int .i64 (m0 + (k : Int))) := by simp [mkI, h]
theorem mkI_all {m0 : Int} {n : Nat} {xs : List Value} (hl : xs.length = n) (h : ∀ j, j < n → xs[j]? = some (Value.int .i64 (m0 + (j : Int)))) : xs = mkI m0 n := by
  refine List.ext_getElem? (fun j => ?_)
  by_cases hj : j < n
  · rw [h j hj, mkI_at _ _ _ hj]
  · rw [List.getElem?_eq_none (by omega), List.getElem?_eq_none (by rw [mkI_len]; omega)]
theorem own_pos {w : World} {B n : Nat} {v : Value} {xs : List Value} (h : w.ownsRow B 2 1 v n xs) (hn : 0 < n) : ∃ g cap, v = .slice (some ⟨g, 0, none⟩) n cap := by
  rcases h.2 with ⟨_, h0⟩ | ⟨g, cap, cur, hv, _⟩
  · omega
  · exact ⟨g, cap, hv⟩
set_option maxHeartbeats 4000000 in
theorem markI_pos (B g cap n : Nat) (xs : List Value) (m0 : Int) (w : World) (hm : 0 ≤ m0 ∧ m0 ≤ 100000000) (hn : n ≤ 1048576) (h : w.ownsRow B 2 1 (.slice (some ⟨g, 0, none⟩) n cap) n xs) :
    Calls Try.prog 11 #[.slice (some ⟨g, 0, none⟩) n cap, .int .i64 m0] w fun e w' => e = .returned (.int .i64 (m0 + (n : Int))) ∧ w'.ownsRow B 2 1 (.slice (some ⟨g, 0, none⟩) n cap) n (mkI m0 n) ∧ w.grownBy w' (some g) := by
  have H := hide h
  clear h
  go_enter Try.func11, Try.ntmps11
  go_wp2
  go_loopw [1, 5] (fun m i wr => ∃ (k : Nat) (ys : List Value), k ≤ n ∧ i = .int .i64 k ∧ m = .int .i64 (m0 + (k : Int)) ∧ Hid (∀ j, j < k → ys[j]? = some (Value.int .i64 (m0 + (j : Int)))) ∧ Hid (wr.ownsRow B 2 1 (.slice (some ⟨g, 0, none⟩) n cap) n ys) ∧ Hid (w.grownBy wr (some g))) (fun _ i _ => n - (intOf i).toNat)
  case atStart => exact ⟨0, _, Nat.zero_le _, rfl, by simp, hide (fun j hj => by omega), H, hide (grown_refl _ _)⟩
  case round =>
    obtain ⟨k, ys, hk, rfl, rfl, HM, HO, HB⟩ := hrel
    clear H
    by_cases hlt : k < n
    · have hlt' : (k : Int) < (n : Int) := by omega
      have hxl : ys.length = n := by have := (unhide HO).1; omega
      have c0 := (unhide HO).cellAt k (by omega)
      rw [List.getElem?_eq_getElem (by omega)] at c0
      have c1 := (unhide HO).frozenAt k
      have HO' := hide ((unhide HO).stored k (.int .i64 (m0 + (k : Int)))).1
      have HB' := hide (grown_set (j := k) (u := .int .i64 (m0 + (k : Int))) (unhide HB))
      have HM' : Hid (∀ j, j < k + 1 → (ys.set k (.int .i64 (m0 + (k : Int))))[j]? = some (Value.int .i64 (m0 + (j : Int)))) := hide (fun j hj => by
        by_cases e : j = k
        · subst e; rw [List.getElem?_set_self (by omega)]
        · rw [List.getElem?_set_ne (by omega)]; exact unhide HM j (by omega))
      generalize ys[k] = xk at *
      clear HO HB hxl HM
      go_wp2
      go_roundw
      case rel => exact ⟨k + 1, _, by omega, by go_num, by go_num, HM', HO', HB'⟩
      case measure => simp [intOf]; omega
    · obtain rfl : k = n := by omega
      have e : ys = mkI m0 k := mkI_all (by have := (unhide HO).1; omega) (unhide HM)
      subst e
      go_wp2
      go_ret
      exact ⟨rfl, unhide HO, unhide HB⟩
theorem markI_nil (a : Option Addr) (cap : Nat) (m0 : Int) (w : World) : Calls Try.prog 11 #[.slice a 0 cap, .int .i64 m0] w fun e w' => e = .returned (.int .i64 m0) ∧ w' = w := by
  go_enter Try.func11, Try.ntmps11
  go_wp2
  go_loop [1, 5] (fun m i => m = .int .i64 m0 ∧ i = .int .i64 0) (fun _ _ => 0)
  case atStart => exact ⟨rfl, rfl⟩
  case round =>
    obtain ⟨rfl, rfl⟩ := hrel
    go_wp2
    go_ret
    exact ⟨rfl, rfl⟩
theorem markI_own (B n : Nat) (v : Value) (xs : List Value) (m0 : Int) (w : World) (hm : 0 ≤ m0 ∧ m0 ≤ 100000000) (hn : n ≤ 1048576) (h : w.ownsRow B 2 1 v n xs) :
    Calls Try.prog 11 #[v, .int .i64 m0] w fun e w' => e = .returned (.int .i64 (m0 + (n : Int))) ∧ w'.ownsRow B 2 1 v n (mkI m0 n) ∧ w.grownBy w' v.ownBlock := by
  rcases h.2 with ⟨rfl, rfl⟩ | ⟨g, cap, cur, rfl, _⟩
  · refine (markI_nil none 0 m0 w).mono ?_
    rintro e w' ⟨rfl, rfl⟩
    exact ⟨by simp, by simpa [mkI] using World.ownsRow_nil w' B 2 1, grown_refl _ _⟩
  · exact markI_pos B g cap n xs m0 w hm hn h
set_option maxHeartbeats 4000000 in
theorem heldI_own (B n : Nat) (v : Value) (m0 : Int) (w : World) (hm : 0 ≤ m0 ∧ m0 ≤ 100000000) (hn : n ≤ 1048576) (h : w.ownsRow B 2 1 v n (mkI m0 n)) :
    Calls Try.prog 12 #[v, .int .i64 m0] w fun e w' => e = .returned (.int .i64 (m0 + (n : Int))) ∧ w' = w := by
  obtain ⟨a, cap, rfl⟩ : ∃ a cap, v = .slice a n cap := by
    rcases h.2 with ⟨rfl, rfl⟩ | ⟨g, cap, cur, rfl, _⟩
    · exact ⟨_, _, rfl⟩
    · exact ⟨_, _, rfl⟩
  have H := hide h
  clear h
  go_enter Try.func12, Try.ntmps12
  go_wp2
  go_loopw [1, 5] (fun m i wr => ∃ k : Nat, k ≤ n ∧ i = .int .i64 k ∧ m = .int .i64 (m0 + (k : Int)) ∧ wr = w) (fun _ i _ => n - (intOf i).toNat)
  case atStart => exact ⟨0, Nat.zero_le _, rfl, by simp, rfl⟩
  case round =>
    obtain ⟨k, hk, rfl, rfl, rfl⟩ := hrel
    by_cases hlt : k < n
    · have hlt' : (k : Int) < (n : Int) := by omega
      obtain ⟨g, cap', e⟩ := own_pos (unhide H) (by omega)
      injection e with e1 e2 e3
      subst e1
      have c0 := (unhide H).cellAt k (by omega)
      rw [mkI_at _ _ _ hlt] at c0
      go_wp2
      go_roundw
      case rel => exact ⟨k + 1, by omega, by go_num, by go_num, trivial⟩
      case measure => simp [intOf]; omega
    · obtain rfl : k = n := by omega
      go_wp2
      go_ret
      exact ⟨rfl, rfl⟩
end Go.Proofs.Ytfnaclpkpjembaa
