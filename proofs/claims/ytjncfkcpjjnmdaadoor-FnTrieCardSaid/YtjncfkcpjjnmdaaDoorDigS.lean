/- Numbers written in digits: the specification's. -/
import Derived.Test.YtjncfkcpjjnmdaaDoorPakP
namespace Go.Proofs.YtjncfkcpjjnmdaaDoor
open Go.RowKit
theorem one_belowD (w : World) (o : Obj) : Below w.heap.size w (w.alloc o) := (Below.refl _ _).alloc (Nat.le_refl _) o
theorem nums_plus (A B : List Int) : strOfNums A ++ strOfNums B = strOfNums (A ++ B) := by
  unfold strOfNums
  apply ByteArray.ext
  simp [ByteArray.data_append]
theorem add_nums (A B : List Int) (h : A.length + B.length ≤ 100000000) (W : World) : (Op.stringOp .add (strOfNums A) (strOfNums B)).run Tryd.prog W = .ok (.string (strOfNums (A ++ B))) W := by
  rw [run_string_add_sum W _ _ (by rw [strOfNums_size, strOfNums_size]; omega), nums_plus]
set_option maxHeartbeats 1000000 in
set_option maxRecDepth 100000 in
theorem digitsS (N : Nat) (w : World) (h : N ≤ 9223372036854775807) :
    Calls Tryd.prog 52 #[.int .i64 N] w fun e w' => e = .returned (.string (strOfNums (digZ N))) ∧ Below w.heap.size w w' := by
  have hlen : (digZ N).length ≤ 21 := by
    have := itoaZ_len (N : Int) (by omega) (by omega)
    rwa [itoaZ_pos (by omega), Int.toNat_natCast] at this
  have HL := hide hlen
  clear hlen
  have hcv := conv1
  have E0 : ({ data := #[] } : ByteArray) = strOfNums [] := rfl
  go_enter Tryd.func52, Tryd.ntmps52
  go_wp2
  go_loopw [0, 3] (fun nv ov wr => ∃ (m : Nat) (out : List Int), nv = .int .i64 m ∧ ov = .string (strOfNums out) ∧ m ≤ N ∧ Hid (digZ N = digZ m ++ out) ∧ Hid (Below w.heap.size w wr)) (fun nv _ _ => (intOf nv).toNat)
  case atStart => exact ⟨N, [], rfl, rfl, Nat.le_refl _, hide (by simp), hide (Below.refl _ _)⟩
  case round =>
    obtain ⟨m, out, rfl, rfl, hm, HE, HB⟩ := hrel
    have hol : out.length ≤ 21 := by
      have h1 := congrArg List.length (unhide HE)
      rw [List.length_append] at h1
      have := unhide HL
      omega
    have hadd := fun (x : Int) (W : World) => add_nums [x] out (by simp; omega) W
    by_cases h9 : 9 < m
    · have hr : ((m : Int)).tmod 10 = ((m % 10 : Nat) : Int) := by rw [Int.tmod_eq_emod_of_nonneg (by omega)]; omega
      have hq : ((m : Int)).tdiv 10 = ((m / 10 : Nat) : Int) := by rw [Int.tdiv_eq_ediv_of_nonneg (by omega)]; omega
      have HE2 : Hid (digZ N = digZ (m / 10) ++ ([48 + ((m % 10 : Nat) : Int)] ++ out)) := hide (by rw [unhide HE, digZ_big (show ¬ m < 10 by omega), List.append_assoc])
      have h10 : m % 10 < 10 := Nat.mod_lt _ (by omega)
      have hq2 : m / 10 ≤ m := Nat.div_le_self _ _
      have hq3 : m / 10 < m := Nat.div_lt_self (by omega) (by omega)
      generalize m % 10 = r at *
      generalize m / 10 = q at *
      clear HE
      go_wp2
      go_roundw
      case rel => exact ⟨q, (48 + (r : Int)) :: out, rfl, rfl, by omega, HE2, hide ((unhide HB).trans ((one_belowD wr _).mono (unhide HB).size))⟩
      case measure => simp [intOf]; omega
    · have HE2 : Hid (strOfNums (digZ N) = strOfNums ([48 + (m : Int)] ++ out)) := hide (by rw [unhide HE, digZ_small (show m < 10 by omega)])
      clear HE
      go_wp2
      go_ret
      exact ⟨by rw [unhide HE2]; rfl, (unhide HB).trans ((one_belowD wr _).mono (unhide HB).size)⟩
theorem dz (u v r : Nat) (h1 : u / 10 = v) (h2 : u % 10 = r) (h3 : ¬ u < 10) : digZ u = digZ v ++ [48 + (r : Int)] := by rw [digZ_big h3, h1, h2]
theorem dig_min : digZ 9223372036854775808 = [57, 50, 50, 51, 51, 55, 50, 48, 51, 54, 56, 53, 52, 55, 55, 53, 56, 48, 56] := by
  rw [dz 9223372036854775808 922337203685477580 8 (by decide) (by decide) (by decide), dz 922337203685477580 92233720368547758 0 (by decide) (by decide) (by decide), dz 92233720368547758 9223372036854775 8 (by decide) (by decide) (by decide), dz 9223372036854775 922337203685477 5 (by decide) (by decide) (by decide), dz 922337203685477 92233720368547 7 (by decide) (by decide) (by decide), dz 92233720368547 9223372036854 7 (by decide) (by decide) (by decide), dz 9223372036854 922337203685 4 (by decide) (by decide) (by decide), dz 922337203685 92233720368 5 (by decide) (by decide) (by decide), dz 92233720368 9223372036 8 (by decide) (by decide) (by decide), dz 9223372036 922337203 6 (by decide) (by decide) (by decide), dz 922337203 92233720 3 (by decide) (by decide) (by decide), dz 92233720 9223372 0 (by decide) (by decide) (by decide), dz 9223372 922337 2 (by decide) (by decide) (by decide), dz 922337 92233 7 (by decide) (by decide) (by decide), dz 92233 9223 3 (by decide) (by decide) (by decide), dz 9223 922 3 (by decide) (by decide) (by decide), dz 922 92 2 (by decide) (by decide) (by decide), dz 92 9 2 (by decide) (by decide) (by decide), digZ_small (by decide)]
  rfl
theorem digitsMin (w : World) : Calls Tryd.prog 52 #[.int .i64 (-9223372036854775808)] w fun e w' => e = .returned (.string (strOfNums (digZ 9223372036854775808))) ∧ w' = w := by
  rw [dig_min]
  go_enter Tryd.func52, Tryd.ntmps52
  go_wp2
  go_ret
  exact ⟨rfl, rfl⟩
set_option maxRecDepth 100000 in
/-- A number written. -/
theorem decS (n : Int) (w : World) (h0 : -9223372036854775808 ≤ n) (h1 : n ≤ 9223372036854775807) :
    Calls Tryd.prog 47 #[.int .i64 n] w fun e w' => e = .returned (.string (strOfNums (itoaZ n))) ∧ Below w.heap.size w w' := by
  by_cases hn : n < 0
  · have HE : Hid (itoaZ n = [45] ++ digZ n.natAbs) := hide (itoaZ_neg hn)
    have hlen := itoaZ_len n h0 h1
    rw [unhide HE, List.length_append] at hlen
    have hsz : (strOfNums (digZ n.natAbs)).size ≤ 21 := by rw [strOfNums_size]; simp at hlen; omega
    by_cases hm : n = -9223372036854775808
    · subst hm
      have C := hide (digitsMin)
      have e : (-9223372036854775808 : Int).natAbs = 9223372036854775808 := rfl
      rw [e] at HE hsz
      clear hlen e
      obtain ⟨D, hD⟩ : ∃ D, digZ 9223372036854775808 = D := ⟨_, rfl⟩
      rw [hD] at HE hsz C
      obtain ⟨V, hV⟩ : ∃ V, strOfNums (itoaZ (-9223372036854775808)) = V := ⟨_, rfl⟩
      rw [hV]
      have HV : Hid (V = strOfNums ([45] ++ D)) := hide (by rw [← hV, unhide HE])
      clear HE hV hD
      go_enter Tryd.func47, Tryd.ntmps47
      go_wp2_with fail
      rw [show wrap64 9223372036854775808 = -9223372036854775808 by unfold wrap64; omega]
      refine ((unhide C) _).mono ?_
      rintro e w1 ⟨rfl, hw1⟩
      replace hw1 := hw1.symm
      subst hw1
      go_wp2
      go_ret
      exact ⟨by rw [unhide HV, ← nums_plus]; rfl, Below.refl _ _⟩
    · have hna : -n = (n.natAbs : Int) := by omega
      have hbb : -9223372036854775807 ≤ n := by omega
      have C := hide (fun W => digitsS n.natAbs W (by omega))
      rw [← hna] at C
      clear hlen hna
      generalize digZ n.natAbs = D at *
      go_enter Tryd.func47, Tryd.ntmps47
      go_wp2_with (go_at_call 52; refine ((unhide C) _).mono ?_; rintro e w1 ⟨rfl, hb1⟩)
      go_ret
      exact ⟨by rw [unhide HE, ← nums_plus]; rfl, hb1⟩
  · obtain ⟨m, rfl⟩ := Int.eq_ofNat_of_zero_le (show 0 ≤ n by omega)
    have HE : Hid (itoaZ (m : Int) = digZ m) := hide (by rw [itoaZ_pos (by omega), Int.toNat_natCast])
    have C := hide (fun W => digitsS m W (by omega))
    generalize digZ m = D at *
    go_enter Tryd.func47, Tryd.ntmps47
    go_wp2_with (go_at_call 52; refine ((unhide C) _).mono ?_; rintro e w1 ⟨rfl, hb1⟩)
    go_ret
    exact ⟨by rw [unhide HE]; rfl, hb1⟩
end Go.Proofs.YtjncfkcpjjnmdaaDoor
