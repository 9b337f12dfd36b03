/- A row rotated. -/
import Derived.Test.YtnfdkcphmolkiaaSwpR
namespace Go.Proofs.Ytnfdkcphmolkiaa
open Go.RowKit
set_option maxHeartbeats 2000000 in
set_option maxRecDepth 100000 in
theorem rotate_any (w0 w : World) (g cap a m b N : Nat) (A B : List Value) (P U V Q : List Int) (f : Value) (hU : 0 < U.length) (hV : 0 < V.length) (ha : a = P.length) (hm : m = P.length + U.length) (hb : b = P.length + U.length + V.length) (hN : N = P.length + U.length + V.length + Q.length) (hbd : N ≤ 1000000000)
    (S : Seg w0 w g A (P ++ U ++ V ++ Q) B) :
    Calls Try.prog 124 #[.slice (some ⟨g, A.length, none⟩) N cap, .int .i64 a, .int .i64 m, .int .i64 b, f] w fun e w' => e = .returned (.tuple #[]) ∧ Seg w0 w' g A (P ++ V ++ U ++ Q) B := by
  obtain ⟨T, hT⟩ : ∃ T, P ++ V ++ U ++ Q = T := ⟨_, rfl⟩
  rw [hT]
  have I0 : Hid (∃ P' U' V' Q' : List Int, U'.length = U.length ∧ V'.length = V.length ∧ m = P'.length + U'.length ∧ N = P'.length + U'.length + V'.length + Q'.length ∧ P' ++ V' ++ U' ++ Q' = T ∧ Seg w0 w g A (P' ++ U' ++ V' ++ Q') B) := hide ⟨P, U, V, Q, rfl, rfl, hm, hN, hT, S⟩
  have zi : (m : Int) - (a : Int) = (U.length : Int) := by omega
  have zj : (b : Int) - (m : Int) = (V.length : Int) := by omega
  have hbn : b ≤ N := by omega
  have hmb : m ≤ b := by omega
  have ham : a ≤ m := by omega
  clear S hT hm hN hb ha
  generalize U.length = i0 at *
  generalize V.length = j0 at *
  go_enter Try.func124, Try.ntmps124
  go_wp2
  go_loopw [10, 11] (fun iv jv wr => ∃ i j : Nat, 0 < i ∧ 0 < j ∧ iv = .int .i64 i ∧ jv = .int .i64 j ∧ Hid (∃ P' U' V' Q' : List Int, U'.length = i ∧ V'.length = j ∧ m = P'.length + U'.length ∧ N = P'.length + U'.length + V'.length + Q'.length ∧ P' ++ V' ++ U' ++ Q' = T ∧ Seg w0 wr g A (P' ++ U' ++ V' ++ Q') B)) (fun iv jv _ => (intOf iv).toNat + (intOf jv).toNat)
  case atStart => exact ⟨i0, j0, hU, hV, by first | rfl | (congr 1), by first | rfl | (congr 1), I0⟩
  case round =>
    obtain ⟨i, j, hi, hj, rfl, rfl, HI⟩ := hrel
    clear I0 zi zj
    obtain ⟨P', U', V', Q', eU, eV, em, eN, eT, s1⟩ := unhide HI
    have S1 := hide s1
    clear HI s1
    by_cases hne : i = j
    · subst hne
      have t0 : ((i : Int) != (i : Int)) = false := by simp
      have e0 : (m : Int) - (i : Int) = ((P'.length : Nat) : Int) := by omega
      have SR := hide (swapRange_any w0 wr g cap P'.length m i N A B P' U' [] V' Q' f (by omega) rfl (by simp; omega) (by omega) (by simp; omega) hbd (by simpa using unhide S1))
      have ET := hide eT
      clear S1 eU eV em eN eT
      generalize P'.length = pl at *
      go_wp2_with fail
      try rw [e0]
      refine (unhide SR).mono ?_
      rintro e w2 ⟨rfl, s2⟩
      have S2 := hide s2
      clear s2
      go_wp2
      go_end0
      have s3 := unhide S2
      rw [← unhide ET]
      exact ⟨rfl, by simpa using s3⟩
    · have t0 : ((i : Int) != (j : Int)) = true := by simp; omega
      by_cases hgt : j < i
      · have hgt' : (j : Int) < (i : Int) := by omega
        have e0 : (m : Int) - (i : Int) = ((P'.length : Nat) : Int) := by omega
        have hU1 : (U'.take j).length = j := by rw [List.length_take]; omega
        have hU2 : (U'.drop j).length = i - j := by rw [List.length_drop]; omega
        have eU' : U'.take j ++ U'.drop j = U' := List.take_append_drop j U'
        have SR := hide (swapRange_any w0 wr g cap P'.length m j N A B P' (U'.take j) (U'.drop j) V' Q' f (by omega) rfl (by omega) (by omega) (by omega) hbd (by
          have e : P' ++ U'.take j ++ U'.drop j ++ V' ++ Q' = P' ++ U' ++ V' ++ Q' := by rw [List.append_assoc P', eU']
          rw [e]
          exact unhide S1))
        have I2 : Hid (∀ W, Seg w0 W g A (P' ++ V' ++ U'.drop j ++ U'.take j ++ Q') B → ∃ P' U' V' Q' : List Int, U'.length = i - j ∧ V'.length = j ∧ m = P'.length + U'.length ∧ N = P'.length + U'.length + V'.length + Q'.length ∧ P' ++ V' ++ U' ++ Q' = T ∧ Seg w0 W g A (P' ++ U' ++ V' ++ Q') B) := hide (fun W h => ⟨P' ++ V', U'.drop j, U'.take j, Q', hU2, hU1, by rw [List.length_append]; omega, by rw [List.length_append]; omega, by rw [← eT, List.append_assoc (P' ++ V') (U'.take j), eU'], h⟩)
        clear S1 eT hU1 hU2 eU' eN em eU eV
        have hij : ((i - j : Nat) : Int) = (i : Int) - (j : Int) := by omega
        generalize P'.length = pl at *
        go_wp2_with fail
        try rw [e0]
        refine (unhide SR).mono ?_
        rintro e w2 ⟨rfl, s2⟩
        have S2 := hide (unhide I2 _ s2)
        clear s2 I2 SR
        go_wp2
        go_roundw
        case rel => exact ⟨i - j, j, by omega, hj, by rw [hij], rfl, S2⟩
        case measure => simp [intOf]; omega
      · have hgt' : ¬ (j : Int) < (i : Int) := by omega
        have e0 : (m : Int) - (i : Int) = ((P'.length : Nat) : Int) := by omega
        obtain ⟨q, hq⟩ : ∃ q : Nat, q = m + (j - i) := ⟨_, rfl⟩
        have e1 : (m : Int) + (j : Int) - (i : Int) = (q : Int) := by omega
        have mb : m + j ≤ 1000000000 := by omega
        have hV1 : (V'.take (j - i)).length = j - i := by rw [List.length_take]; omega
        have hV2 : (V'.drop (j - i)).length = i := by rw [List.length_drop]; omega
        have eV' : V'.take (j - i) ++ V'.drop (j - i) = V' := List.take_append_drop _ V'
        have SR := hide (swapRange_any w0 wr g cap P'.length q i N A B P' U' (V'.take (j - i)) (V'.drop (j - i)) Q' f (by omega) rfl (by omega) (by omega) (by omega) hbd (by
          have e : P' ++ U' ++ V'.take (j - i) ++ V'.drop (j - i) ++ Q' = P' ++ U' ++ V' ++ Q' := by rw [List.append_assoc (P' ++ U'), eV']
          rw [e]
          exact unhide S1))
        have I2 : Hid (∀ W, Seg w0 W g A (P' ++ V'.drop (j - i) ++ V'.take (j - i) ++ U' ++ Q') B → ∃ P' U' V' Q' : List Int, U'.length = i ∧ V'.length = j - i ∧ m = P'.length + U'.length ∧ N = P'.length + U'.length + V'.length + Q'.length ∧ P' ++ V' ++ U' ++ Q' = T ∧ Seg w0 W g A (P' ++ U' ++ V' ++ Q') B) := hide (fun W h => ⟨P', V'.drop (j - i), V'.take (j - i), U' ++ Q', hV2, hV1, by omega, by rw [List.length_append]; omega, by rw [← eT, List.append_assoc P' (V'.take (j - i)), eV']; simp [List.append_assoc], by simpa [List.append_assoc] using h⟩)
        clear S1 eT hV1 hV2 eV' eN em eU eV
        have hij : ((j - i : Nat) : Int) = (j : Int) - (i : Int) := by omega
        generalize P'.length = pl at *
        clear hq
        go_wp2_with fail
        try rw [e0]
        try rw [e1]
        refine (unhide SR).mono ?_
        rintro e w2 ⟨rfl, s2⟩
        have S2 := hide (unhide I2 _ s2)
        clear s2 I2 SR
        go_wp2
        go_roundw
        case rel => exact ⟨i, j - i, hi, by omega, rfl, by rw [hij], S2⟩
        case measure => simp [intOf]; omega
end Go.Proofs.Ytnfdkcphmolkiaa
