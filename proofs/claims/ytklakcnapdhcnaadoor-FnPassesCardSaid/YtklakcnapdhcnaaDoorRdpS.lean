/- Signs of a rule and its bars, as the program reads them. -/
import Derived.Test.YtklakcnapdhcnaaDoorRdpT
namespace Go.Proofs.YtklakcnapdhcnaaDoor.Pas
open Go.RowKit
set_option linter.unusedVariables false
theorem ba_ext {a b : ByteArray} (h : a.size = b.size) (hb : ∀ k, k < a.size → bt a k = bt b k) : a = b := by
  apply ByteArray.ext
  apply Array.ext
  · exact h
  · intro k h1 h2
    have e := hb k h1
    rw [← bt_get a k h1, ← bt_get b k h2] at e
    exact UInt8.toNat_inj.1 e
theorem bytes_eqR {a b : ByteArray} (h : a.toList = b.toList) : a = b := by
  rw [Go.ByteArray.toList_eq, Go.ByteArray.toList_eq] at h
  apply ByteArray.ext
  exact Array.toList_inj.1 h
theorem str_beq {a b : ByteArray} : (a.toList == b.toList) = decide (a = b) := by
  by_cases h : a = b
  · rw [decide_eq_true h, h]; exact beq_self_eq_true _
  · rw [decide_eq_false h, beq_eq_false_iff_ne]; exact fun e => h (bytes_eqR e)
theorem pfx_iff (t : ByteArray) (L : List Nat) : ∀ i, i ≤ t.size → (pfx t i L = true ↔ i + L.length ≤ t.size ∧ ∀ k (h : k < L.length), bt t (i + k) = L[k]) := by
  induction L with
  | nil => intro i h; simp [pfx]; exact h
  | cons c r ih =>
    intro i h
    simp only [pfx, Bool.and_eq_true, decide_eq_true_eq, beq_iff_eq, List.length_cons]
    constructor
    · rintro ⟨⟨h1, h2⟩, h3⟩
      obtain ⟨h4, h5⟩ := (ih (i + 1) (by omega)).1 h3
      refine ⟨by omega, fun k hk => ?_⟩
      cases k with
      | zero => simpa using h2
      | succ k => have := h5 k (by omega); simp only [List.getElem_cons_succ]; rw [← this]; congr 1; omega
    · rintro ⟨h1, h2⟩
      refine ⟨⟨by omega, by simpa using h2 0 (by omega)⟩, (ih (i + 1) (by omega)).2 ⟨by omega, fun k hk => ?_⟩⟩
      have := h2 (k + 1) (by omega)
      simp only [List.getElem_cons_succ] at this
      rw [← this]; congr 1; omega
/-- Whether a text begins with p. -/
def hp (s p : ByteArray) : Bool := decide (p.size ≤ s.size) && ((s.extract 0 p.size).toList == p.toList)
theorem hp_pfx (t p : ByteArray) (L : List Nat) (i : Nat) (hi : i ≤ t.size) (hp' : p.size = L.length) (hL : ∀ k (h : k < L.length), bt p k = L[k]) : hp (t.extract i t.size) p = pfx t i L := by
  rw [Bool.eq_iff_iff, pfx_iff t L i hi]
  unfold hp
  rw [Bool.and_eq_true, decide_eq_true_eq, str_beq, decide_eq_true_eq, ext_size, hp']
  constructor
  · rintro ⟨h1, h2⟩
    refine ⟨by omega, fun k hk => ?_⟩
    rw [← hL k hk, ← h2]
    have e : ((t.extract i t.size).extract 0 L.length) = t.extract i (i + L.length) := by
      rw [ByteArray.extract_extract]; congr 1; omega
    rw [e, ← bt_get t (i + k) (by omega), ← bt_get _ k (by rw [ByteArray.size_extract]; omega)]
    congr 1
    exact (ByteArray.getElem_extract _).symm
  · rintro ⟨h1, h2⟩
    refine ⟨by omega, ?_⟩
    have e : ((t.extract i t.size).extract 0 L.length) = t.extract i (i + L.length) := by
      rw [ByteArray.extract_extract]; congr 1; omega
    rw [e]
    have hz : (t.extract i (i + L.length)).size = L.length := by rw [ByteArray.size_extract]; omega
    refine ba_ext (by omega) (fun k hk => ?_)
    rw [hz] at hk
    rw [hL k hk, ← h2 k hk, ← bt_get t (i + k) (by omega), ← bt_get _ k (by omega)]
    congr 1
    exact ByteArray.getElem_extract _
set_option maxHeartbeats 1000000 in
theorem lhp_any (s p : ByteArray) (w : World) : Calls Tryd.prog 63 #[.string s, .string p] w fun e w' => e = .returned (.bool (hp s p)) ∧ w' = w := by
  by_cases h : p.size ≤ s.size
  · have h' : (p.size : Int) ≤ (s.size : Int) := by omega
    have h0 : (0 : Int) ≤ (p.size : Int) := by omega
    have e : hp s p = ((s.extract 0 p.size).toList == p.toList) := by unfold hp; rw [decide_eq_true h, Bool.true_and]
    rw [e]
    go_enter Tryd.func63, Tryd.ntmps63
    go_wp2
    go_ret
    exact ⟨rfl, rfl⟩
  · have h' : ¬ (p.size : Int) ≤ (s.size : Int) := by omega
    have e : hp s p = false := by unfold hp; rw [decide_eq_false h, Bool.false_and]
    rw [e]
    go_enter Tryd.func63, Tryd.ntmps63
    go_wp2
    go_ret
    exact ⟨rfl, rfl⟩
set_option maxHeartbeats 1000000 in
theorem lcp_any (s p : ByteArray) (w : World) : Calls Tryd.prog 67 #[.string s, .string p] w fun e w' => e = .returned (.tuple #[.string (if hp s p = true then s.extract p.size s.size else s), .bool (hp s p)]) ∧ w' = w := by
  have C := hide (fun W => lhp_any s p W)
  by_cases h : hp s p = true
  · have h1 : p.size ≤ s.size := by unfold hp at h; rw [Bool.and_eq_true, decide_eq_true_eq] at h; exact h.1
    have h' : (p.size : Int) ≤ (s.size : Int) := by omega
    have h0 : (0 : Int) ≤ (p.size : Int) := by omega
    rw [if_pos h, h]
    rw [h] at C
    clear h
    go_enter Tryd.func67, Tryd.ntmps67
    go_wp2_with (go_at_call 63; refine ((unhide C) _).mono ?_; rintro e w' ⟨rfl, hw⟩; obtain rfl := hw.symm; clear hw)
    go_ret2
    exact ⟨rfl, rfl⟩
  · rw [if_neg h]
    rw [Bool.not_eq_true] at h
    rw [h]
    rw [h] at C
    clear h
    go_enter Tryd.func67, Tryd.ntmps67
    go_wp2_with (go_at_call 63; refine ((unhide C) _).mono ?_; rintro e w' ⟨rfl, hw⟩; obtain rfl := hw.symm; clear hw)
    go_ret2
    exact ⟨rfl, rfl⟩
set_option maxHeartbeats 1000000 in
theorem cp_any (s p : ByteArray) (w : World) : Calls Tryd.prog 53 #[.string s, .string p] w fun e w' => e = .returned (.tuple #[.string (if hp s p = true then s.extract p.size s.size else s), .bool (hp s p)]) ∧ w' = w := by
  have C := hide (fun W => lcp_any s p W)
  generalize (if hp s p = true then s.extract p.size s.size else s) = u at *
  generalize hp s p = b at *
  go_enter Tryd.func53, Tryd.ntmps53
  go_wp2_with (go_at_call 67; refine ((unhide C) _).mono ?_; rintro e w' ⟨rfl, hw⟩; obtain rfl := hw.symm; clear hw)
  go_ret2
  exact ⟨rfl, rfl⟩
set_option maxHeartbeats 2000000 in
/-- takeSign. -/
theorem sgt_any (A i : Nat) (t p : ByteArray) (L : List Nat) (q : Bool) (w : World) (hi : i ≤ t.size) (hp' : p.size = L.length) (hL : ∀ k (h : k < L.length), bt p k = L[k]) (hB : Bx w A (t.extract i t.size) q) :
    Calls Tryd.prog 69 #[.pointer (some ⟨A, 0, none⟩), .string p] w fun e w' => e = .returned (.tuple #[]) ∧ Bx w' A (t.extract (sgI t L (i, q)).1 t.size) (sgI t L (i, q)).2 ∧ Kx A w w' := by
  have C := hide (fun W => cp_any (t.extract i t.size) p W)
  rw [hp_pfx t p L i hi hp' hL] at C
  have HB := hide hB
  obtain ⟨c0, c1, f0, f1⟩ := two_cellsR hB
  unfold sgI
  by_cases h : pfx t i L = true
  · have hle := ((pfx_iff t L i hi).1 h).1
    rw [if_pos h, hp', ext_ext t i L.length hle] at C
    rw [h] at C
    simp only [if_pos h]
    clear hB hp' hL h
    generalize t.extract i t.size = s at *
    generalize t.extract (i + L.length) t.size = u at *
    have B2 := hide (((unhide HB).put0 u).put1 q)
    have K2 := hide (((Kx.refl A w).put 0 (.string u)).put 1 (.bool q))
    obtain ⟨d0, d1, g0, g1⟩ := two_cellsR ((unhide HB).put0 u)
    cases q
    · go_enter Tryd.func69, Tryd.ntmps69
      go_wp2_with (go_at_call 53; refine ((unhide C) _).mono ?_; rintro e w' ⟨rfl, hw⟩; obtain rfl := hw.symm; clear hw)
      go_end0
      exact ⟨rfl, unhide B2, unhide K2⟩
    · go_enter Tryd.func69, Tryd.ntmps69
      go_wp2_with (go_at_call 53; refine ((unhide C) _).mono ?_; rintro e w' ⟨rfl, hw⟩; obtain rfl := hw.symm; clear hw)
      go_end0
      exact ⟨rfl, unhide B2, unhide K2⟩
  · rw [if_neg h] at C
    simp only [if_neg h]
    rw [Bool.not_eq_true] at h
    rw [h] at C
    clear hB hp' hL h
    generalize t.extract i t.size = s at *
    have B2 := hide (((unhide HB).put0 s).put1 true)
    have K2 := hide (((Kx.refl A w).put 0 (.string s)).put 1 (.bool true))
    obtain ⟨d0, d1, g0, g1⟩ := two_cellsR ((unhide HB).put0 s)
    cases q
    · go_enter Tryd.func69, Tryd.ntmps69
      go_wp2_with (go_at_call 53; refine ((unhide C) _).mono ?_; rintro e w' ⟨rfl, hw⟩; obtain rfl := hw.symm; clear hw)
      go_end0
      exact ⟨rfl, unhide B2, unhide K2⟩
    · go_enter Tryd.func69, Tryd.ntmps69
      go_wp2_with (go_at_call 53; refine ((unhide C) _).mono ?_; rintro e w' ⟨rfl, hw⟩; obtain rfl := hw.symm; clear hw)
      go_end0
      exact ⟨rfl, unhide B2, unhide K2⟩
end Go.Proofs.YtklakcnapdhcnaaDoor.Pas
