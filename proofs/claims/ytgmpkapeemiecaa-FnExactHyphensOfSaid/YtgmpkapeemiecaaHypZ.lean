/- Marks written into rows of numbers and of texts, and found again. -/
import Derived.Test.YtgmpkapeemiecaaIntA
import Derived.Test.YtgmpkapeemiecaaStrB
namespace Go.Proofs.Ytgmpkapeemiecaa
namespace Hyp
open Go.RowKit
set_option linter.unusedVariables false
theorem grown_setM {w w' : World} {g j : Nat} {u : Value} (h : w.grownBy w' (some g)) : w.grownBy (w'.setCell ⟨g, j, none⟩ u) (some g) :=
  ⟨h.os, h.tape, h.output, by simp; exact h.size, fun k hk hne => (heap_setCell_other w' ⟨g, j, none⟩ k u (fun e => hne (by rw [e]))).trans (h.block k hk hne)⟩
theorem grown_refl (w : World) (r : Option Nat) : w.grownBy w r := ⟨rfl, rfl, rfl, Nat.le_refl _, fun _ _ _ => rfl⟩
/-- The marks m0, m0 + 1 and so on. -/
def mkI (m0 : Int) (n : Nat) : List Value := (List.range n).map (fun (i : Nat) => Value.int .i64 (m0 + (i : Int)))
theorem mkI_len (m0 : Int) (n : Nat) : (mkI m0 n).length = n := by simp [mkI]
theorem mkI_at (m0 : Int) (n k : Nat) (h : k < n) : (mkI m0 n)[k]? = some (Value.int .i64 (m0 + (k : Int))) := by simp [mkI, h]
theorem mkI_all {m0 : Int} {n : Nat} {xs : List Value} (hl : xs.length = n) (h : ∀ j, j < n → xs[j]? = some (Value.int .i64 (m0 + (j : Int)))) : xs = mkI m0 n := by
  refine List.ext_getElem? (fun j => ?_)
  by_cases hj : j < n
  · rw [h j hj, mkI_at _ _ _ hj]
  · rw [List.getElem?_eq_none (by omega), List.getElem?_eq_none (by rw [mkI_len]; omega)]
theorem own_pos {w : World} {B n : Nat} {v : Value} {xs : List Value} (h : w.ownsRow B 2 1 v n xs) (hn : 0 < n) : ∃ g cap, v = .slice (some ⟨g, 0, none⟩) n cap := by
  rcases h.2 with ⟨_, h0⟩ | ⟨g, cap, cur, hv, _⟩
  · omega
  · exact ⟨g, cap, hv⟩
set_option maxHeartbeats 4000000 in
theorem markI_pos (B g cap n : Nat) (xs : List Value) (m0 : Int) (w : World) (hm : 0 ≤ m0 ∧ m0 ≤ 100000000) (hn : n ≤ 1048576) (h : w.ownsRow B 2 1 (.slice (some ⟨g, 0, none⟩) n cap) n xs) :
    Calls Try.prog 15 #[.slice (some ⟨g, 0, none⟩) n cap, .int .i64 m0] w fun e w' => e = .returned (.int .i64 (m0 + (n : Int))) ∧ w'.ownsRow B 2 1 (.slice (some ⟨g, 0, none⟩) n cap) n (mkI m0 n) ∧ w.grownBy w' (some g) := by
  have H := hide h
  clear h
  go_enter Try.func15, Try.ntmps15
  go_wp2
  go_loopw [1, 5] (fun m i wr => ∃ (k : Nat) (ys : List Value), k ≤ n ∧ i = .int .i64 k ∧ m = .int .i64 (m0 + (k : Int)) ∧ Hid (∀ j, j < k → ys[j]? = some (Value.int .i64 (m0 + (j : Int)))) ∧ Hid (wr.ownsRow B 2 1 (.slice (some ⟨g, 0, none⟩) n cap) n ys) ∧ Hid (w.grownBy wr (some g))) (fun _ i _ => n - (intOf i).toNat)
  case atStart => exact ⟨0, _, Nat.zero_le _, rfl, by simp, hide (fun j hj => by omega), H, hide (grown_refl _ _)⟩
  case round =>
    obtain ⟨k, ys, hk, rfl, rfl, HM, HO, HB⟩ := hrel
    clear H
    by_cases hlt : k < n
    · have hlt' : (k : Int) < (n : Int) := by omega
      have hxl : ys.length = n := by have := (unhide HO).1; omega
      have c0 := (unhide HO).cellAt k (by omega)
      rw [List.getElem?_eq_getElem (by omega)] at c0
      have c1 := (unhide HO).frozenAt k
      have HO' := hide ((unhide HO).stored k (.int .i64 (m0 + (k : Int)))).1
      have HB' := hide (grown_setM (j := k) (u := .int .i64 (m0 + (k : Int))) (unhide HB))
      have HM' : Hid (∀ j, j < k + 1 → (ys.set k (.int .i64 (m0 + (k : Int))))[j]? = some (Value.int .i64 (m0 + (j : Int)))) := hide (fun j hj => by
        by_cases e : j = k
        · subst e; rw [List.getElem?_set_self (by omega)]
        · rw [List.getElem?_set_ne (by omega)]; exact unhide HM j (by omega))
      generalize ys[k] = xk at *
      clear HO HB hxl HM
      go_wp2
      go_roundw
      case rel => exact ⟨k + 1, _, by omega, by go_num, by go_num, HM', HO', HB'⟩
      case measure => simp [intOf]; omega
    · obtain rfl : k = n := by omega
      have e : ys = mkI m0 k := mkI_all (by have := (unhide HO).1; omega) (unhide HM)
      subst e
      go_wp2
      go_ret
      exact ⟨rfl, unhide HO, unhide HB⟩
theorem markI_nil (a : Option Addr) (cap : Nat) (m0 : Int) (w : World) : Calls Try.prog 15 #[.slice a 0 cap, .int .i64 m0] w fun e w' => e = .returned (.int .i64 m0) ∧ w' = w := by
  go_enter Try.func15, Try.ntmps15
  go_wp2
  go_loop [1, 5] (fun m i => m = .int .i64 m0 ∧ i = .int .i64 0) (fun _ _ => 0)
  case atStart => exact ⟨rfl, rfl⟩
  case round =>
    obtain ⟨rfl, rfl⟩ := hrel
    go_wp2
    go_ret
    exact ⟨rfl, rfl⟩
theorem markI_own (B n : Nat) (v : Value) (xs : List Value) (m0 : Int) (w : World) (hm : 0 ≤ m0 ∧ m0 ≤ 100000000) (hn : n ≤ 1048576) (h : w.ownsRow B 2 1 v n xs) :
    Calls Try.prog 15 #[v, .int .i64 m0] w fun e w' => e = .returned (.int .i64 (m0 + (n : Int))) ∧ w'.ownsRow B 2 1 v n (mkI m0 n) ∧ w.grownBy w' v.ownBlock := by
  rcases h.2 with ⟨rfl, rfl⟩ | ⟨g, cap, cur, rfl, _⟩
  · refine (markI_nil none 0 m0 w).mono ?_
    rintro e w' ⟨rfl, rfl⟩
    exact ⟨by simp, by simpa [mkI] using World.ownsRow_nil w' B 2 1, grown_refl _ _⟩
  · exact markI_pos B g cap n xs m0 w hm hn h
set_option maxHeartbeats 4000000 in
theorem heldI_own (B n : Nat) (v : Value) (m0 : Int) (w : World) (hm : 0 ≤ m0 ∧ m0 ≤ 100000000) (hn : n ≤ 1048576) (h : w.ownsRow B 2 1 v n (mkI m0 n)) :
    Calls Try.prog 16 #[v, .int .i64 m0] w fun e w' => e = .returned (.int .i64 (m0 + (n : Int))) ∧ w' = w := by
  obtain ⟨a, cap, rfl⟩ : ∃ a cap, v = .slice a n cap := by
    rcases h.2 with ⟨rfl, rfl⟩ | ⟨g, cap, cur, rfl, _⟩
    · exact ⟨_, _, rfl⟩
    · exact ⟨_, _, rfl⟩
  have H := hide h
  clear h
  go_enter Try.func16, Try.ntmps16
  go_wp2
  go_loopw [1, 5] (fun m i wr => ∃ k : Nat, k ≤ n ∧ i = .int .i64 k ∧ m = .int .i64 (m0 + (k : Int)) ∧ wr = w) (fun _ i _ => n - (intOf i).toNat)
  case atStart => exact ⟨0, Nat.zero_le _, rfl, by simp, rfl⟩
  case round =>
    obtain ⟨k, hk, rfl, rfl, rfl⟩ := hrel
    by_cases hlt : k < n
    · have hlt' : (k : Int) < (n : Int) := by omega
      obtain ⟨g, cap', e⟩ := own_pos (unhide H) (by omega)
      injection e with e1 e2 e3
      subst e1
      have c0 := (unhide H).cellAt k (by omega)
      rw [mkI_at _ _ _ hlt] at c0
      go_wp2
      go_roundw
      case rel => exact ⟨k + 1, by omega, by go_num, by go_num, trivial⟩
      case measure => simp [intOf]; omega
    · obtain rfl : k = n := by omega
      go_wp2
      go_ret
      exact ⟨rfl, rfl⟩
set_option maxHeartbeats 2000000 in
theorem markS_oth (base g cap : Nat) (l : List ByteArray) (c : Nat) (w : World) (hl : l.length ≤ 1048576) (hc0 : 0 < c) (hc1 : c ≤ 1048576) (hbg : base ≤ g) (hbw : base ≤ w.heap.size)
    (h : w.ownsRow base 9 1 (.slice (some ⟨g, 0, none⟩) l.length cap) l.length (l.map Value.string)) :
    Calls Try.prog 14 #[.slice (some ⟨g, 0, none⟩) l.length cap, .int .i64 (c : Int)] w fun e w' => e = .returned (.int .i64 ((c : Int) + l.length)) ∧
      w'.ownsRow base 9 1 (.slice (some ⟨g, 0, none⟩) l.length cap) l.length ((seqS c l.length).map Value.string) ∧ Below base w w' ∧ ∀ k, k ≠ g → k < w.heap.size → w'.heap[k]? = w.heap[k]? := by
  have H := hide h
  clear h
  go_enter Try.func14, Try.ntmps14
  go_wp2
  go_loopw [1, 5] (fun m i wr => ∃ k : Nat, k ≤ l.length ∧ i = .int .i64 k ∧ m = .int .i64 ((c + k : Nat) : Int) ∧ Hid (wr.ownsRow base 9 1 (.slice (some ⟨g, 0, none⟩) l.length cap) l.length ((mrkS l c k).map Value.string)) ∧ Hid (Below base w wr) ∧ Hid (∀ j, j ≠ g → j < w.heap.size → wr.heap[j]? = w.heap[j]?)) (fun _ i _ => l.length - (intOf i).toNat)
  case atStart => exact ⟨0, Nat.zero_le _, rfl, by simp, hide (by rw [mrkS_zero]; exact unhide H), hide (Below.refl _ _), hide (fun _ _ _ => rfl)⟩
  case round =>
    obtain ⟨k, hk, rfl, rfl, HO, HB, HT⟩ := hrel
    have hsz := (unhide HB).size
    clear H
    by_cases hlt : k < l.length
    · have CM := hide (fun W => markText_any (c + k) W (by omega) (by omega))
      have hbr := Nat.le_trans hbw (unhide HB).size
      have HM := hide (mrkS_set l c k hlt Value.string)
      have hlen := hide (mrkS_length l c k hk)
      generalize mtx (c + k) = X at *
      obtain ⟨m, hm⟩ : ∃ m, c + k = m := ⟨_, rfl⟩
      rw [hm] at CM ⊢
      have hm1 : m ≤ 2097152 := by omega
      have HMM := hide hm
      clear hm
      go_wp2_with (go_at_call 30; refine ((unhide CM) _).mono ?_; rintro e w2 ⟨rfl, hb2⟩; have O2 := hide (ownsRow_below (unhide HO) hb2); have B2 := hide ((unhide HB).trans (hb2.mono hbr)); have T2 := hide (fun (j : Nat) (h1 : j ≠ g) (h2 : j < w.heap.size) => (hb2.block j (by omega)).trans ((unhide HT) j h1 h2)); clear hb2; have c2 := (unhide O2).cellAt k (by omega); rw [List.getElem?_eq_getElem (by simp [unhide hlen]; omega)] at c2; have c3 := (unhide O2).frozenAt k)
      have hst := (unhide O2).stored k (.string X)
      rw [unhide HM] at hst
      have HO' := hide hst.1
      have HB' := hide ((unhide B2).setCell (p := ⟨g, k, none⟩) hbg (.string X))
      have HT' : Hid (∀ j, j ≠ g → j < w.heap.size → (w2.setCell ⟨g, k, none⟩ (.string X)).heap[j]? = w.heap[j]?) := hide (fun j h1 h2 => (heap_setCell_other w2 ⟨g, k, none⟩ j _ h1).trans ((unhide T2) j h1 h2))
      clear hst
      go_roundw
      case rel => exact ⟨k + 1, by omega, by go_num, by rw [← unhide HMM]; go_num, HO', HB', HT'⟩
      case measure => simp [intOf]; omega
    · obtain rfl : k = l.length := by omega
      go_wp2
      go_ret
      have ho := unhide HO
      rw [mrkS_all] at ho
      exact ⟨by go_num, ho, unhide HB, unhide HT⟩
end Hyp
end Go.Proofs.Ytgmpkapeemiecaa
