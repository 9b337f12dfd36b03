/- Two stretches of a row exchanged; a row rotated. -/
import Derived.Test.YtnfdkcphmolkiaaSegP
namespace Go.Proofs.Ytnfdkcphmolkiaa
open Go.RowKit
theorem take_snoc (l : List Int) (i : Nat) (h : i < l.length) : l.take (i + 1) = l.take i ++ [nth l i] := by
  have e : nth l i = l[i] := by simp [nth, List.getD, h]
  rw [e, List.take_succ_eq_append_getElem h]
theorem drop_at (l : List Int) (i : Nat) (h : i < l.length) : l.drop i = nth l i :: l.drop (i + 1) := by
  have e : nth l i = l[i] := by simp [nth, List.getD, h]
  rw [e, List.drop_eq_getElem_cons h]
/-- Two stretches, the first i of each exchanged. -/
def swR (P U M V Q : List Int) (i : Nat) : List Int := P ++ V.take i ++ U.drop i ++ M ++ U.take i ++ V.drop i ++ Q
theorem swR_step (P U M V Q : List Int) (i : Nat) (hUV : V.length = U.length) (hi : i < U.length) :
    swapL (swR P U M V Q i) (P.length + i) (P.length + U.length + M.length + i) = swR P U M V Q (i + 1) ∧ nth (swR P U M V Q i) (P.length + i) = nth U i ∧ nth (swR P U M V Q i) (P.length + U.length + M.length + i) = nth V i := by
  have e0 : swR P U M V Q i = (P ++ V.take i) ++ nth U i :: ((U.drop (i + 1) ++ M ++ U.take i) ++ nth V i :: (V.drop (i + 1) ++ Q)) := by
    unfold swR
    rw [drop_at U i hi, drop_at V i (by omega)]
    simp [List.append_assoc]
  have l1 : P.length + i = (P ++ V.take i).length := by simp; omega
  have l2 : P.length + U.length + M.length + i = (P ++ V.take i).length + 1 + (U.drop (i + 1) ++ M ++ U.take i).length := by simp; omega
  refine ⟨?_, ?_, ?_⟩
  · rw [e0, swap_app _ _ _ _ _ _ _ l1 l2]
    unfold swR
    rw [take_snoc U i hi, take_snoc V i (by omega)]
    simp [List.append_assoc]
  · rw [e0]
    exact nth_at _ _ _ _ l1
  · have e1 : swR P U M V Q i = ((P ++ V.take i) ++ nth U i :: (U.drop (i + 1) ++ M ++ U.take i)) ++ nth V i :: (V.drop (i + 1) ++ Q) := by rw [e0]; simp [List.append_assoc]
    rw [e1]
    exact nth_at _ _ _ _ (by rw [l2]; simp; omega)
theorem swR_len (P U M V Q : List Int) (i : Nat) (hUV : V.length = U.length) : (swR P U M V Q i).length = P.length + U.length + M.length + U.length + Q.length := by
  unfold swR
  simp
  omega
set_option maxHeartbeats 2000000 in
set_option maxRecDepth 100000 in
theorem swapRange_any (w0 w : World) (g cap a b n N : Nat) (A B : List Value) (P U M V Q : List Int) (f : Value) (hUV : V.length = U.length) (ha : a = P.length) (hb : b = P.length + U.length + M.length) (hn : n = U.length) (hN : N = P.length + U.length + M.length + U.length + Q.length) (hbd : N ≤ 1000000000)
    (S : Seg w0 w g A (P ++ U ++ M ++ V ++ Q) B) :
    Calls Try.prog 125 #[.slice (some ⟨g, A.length, none⟩) N cap, .int .i64 a, .int .i64 b, .int .i64 n, f] w fun e w' => e = .returned (.tuple #[]) ∧ Seg w0 w' g A (P ++ V ++ M ++ U ++ Q) B := by
  have S0 : Hid (Seg w0 w g A (swR P U M V Q 0) B) := hide (by
    have e : swR P U M V Q 0 = P ++ U ++ M ++ V ++ Q := by unfold swR; simp
    rw [e]
    exact S)
  have HL := hide (fun i => swR_len P U M V Q i hUV)
  have HS : Hid (∀ i, i < n → swapL (swR P U M V Q i) (a + i) (b + i) = swR P U M V Q (i + 1) ∧ nth (swR P U M V Q i) (a + i) = nth U i ∧ nth (swR P U M V Q i) (b + i) = nth V i) := hide (fun i hi => by
    rw [ha, hb]
    exact swR_step P U M V Q i hUV (by omega))
  have HE : Hid (swR P U M V Q n = P ++ V ++ M ++ U ++ Q) := hide (by
    unfold swR
    have e1 : V.take n = V := List.take_of_length_le (by omega)
    have e2 : U.take n = U := List.take_of_length_le (by omega)
    have e3 : V.drop n = [] := List.drop_eq_nil_iff.2 (by omega)
    have e4 : U.drop n = [] := List.drop_eq_nil_iff.2 (by omega)
    rw [e1, e2, e3, e4]
    simp)
  have h1 : a + n ≤ b := by omega
  have h2 : b + n ≤ N := by omega
  have HN : Hid (P.length + U.length + M.length + U.length + Q.length = N) := hide hN.symm
  clear S ha hb hn hN hUV
  go_enter Try.func125, Try.ntmps125
  go_wp2
  go_loopw [10] (fun iv wr => ∃ i : Nat, i ≤ n ∧ iv = .int .i64 i ∧ Hid (Seg w0 wr g A (swR P U M V Q i) B)) (fun iv _ => n - (intOf iv).toNat)
  case atStart => exact ⟨0, Nat.zero_le _, rfl, S0⟩
  case round =>
    obtain ⟨i, hi, rfl, SI⟩ := hrel
    clear S0
    by_cases hlt : i < n
    · have hlt' : (i : Int) < (n : Int) := by omega
      obtain ⟨hs, hx, hy⟩ := unhide HS i hlt
      have hlen := (unhide HL i).trans (unhide HN)
      obtain ⟨p, hp⟩ : ∃ p : Nat, p = a + i := ⟨_, rfl⟩
      obtain ⟨q, hq⟩ : ∃ q : Nat, q = b + i := ⟨_, rfl⟩
      have hs' : swapL (swR P U M V Q i) p q = swR P U M V Q (i + 1) := by rw [hp, hq]; exact hs
      have hx' : nth (swR P U M V Q i) p = nth U i := by rw [hp]; exact hx
      have hy' : nth (swR P U M V Q i) q = nth V i := by rw [hq]; exact hy
      obtain ⟨ca, cb, fa, fb, ⟨u, cc⟩, s2⟩ := (unhide SI).swp (p := p) (q := q) (by omega) (by omega) hx' hy' hs'
      have S2 := hide s2
      clear hs hlen SI hx hy hs' hx' hy' s2
      generalize nth U i = x at *
      generalize nth V i = y at *
      have ea : ((a : Int) + (i : Int)).toNat = p := by omega
      have pa : (0 : Int) ≤ (a : Int) + (i : Int) := by omega
      have ba : (a : Int) + (i : Int) < (N : Int) := by omega
      have ra : IntKind.i64.wrap ((a : Int) + (i : Int)) = (a : Int) + (i : Int) := wrap_in _ (by omega) (by omega)
      have eb : ((b : Int) + (i : Int)).toNat = q := by omega
      have pb : (0 : Int) ≤ (b : Int) + (i : Int) := by omega
      have bb : (b : Int) + (i : Int) < (N : Int) := by omega
      have rb : IntKind.i64.wrap ((b : Int) + (i : Int)) = (b : Int) + (i : Int) := wrap_in _ (by omega) (by omega)
      clear hp hq
      have mixed := mixedO
      go_wp2_with fail
      go_big_region_o
      clear mixed
      clear ca cb cc fa fb
      generalize ((wr.setCell ⟨g, A.length + p, none⟩ (.int .i64 y)).setCell ⟨g, A.length + q, none⟩ (.int .i64 x)).drew = w3 at *
      clear ea eb
      go_wp2
      go_roundw
      case rel => exact ⟨i + 1, by omega, by go_num, S2⟩
      case measure => simp [intOf]; omega
    · obtain rfl : i = n := by omega
      go_wp2
      go_end0
      rw [unhide HE] at SI
      exact ⟨rfl, unhide SI⟩
end Go.Proofs.Ytnfdkcphmolkiaa
