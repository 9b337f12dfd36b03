/- orderMarks. -/
import Derived.Test.YtnfdkcphmolkiaaOrdP
import Derived.Test.YtnfdkcphmolkiaaStbW
namespace Go.Proofs.Ytnfdkcphmolkiaa
open Go.RowKit
theorem OSt.sort {w0 w : World} {g : Nat} {A B : List Value} {L : List Int} {f i : Nat} (h : OSt w0 w g A B L f i) (n cap o : Nat) (hn : n = i - f) (ho : o = A.length + f) (hbd : n ≤ 1000000000) (hi : i < L.length) (hz : clsZ (nth L i) = 0) :
    Calls Try.prog 115 #[.slice (some ⟨g, o, none⟩) n cap, .func (.func 112) #[] #[]] w fun e w' => e = .returned (.tuple #[]) ∧ OSt w0 w' g A B L (i + 1) (i + 1) := by
  obtain ⟨D, Y, R, e, l1, l2, hs, hY, s⟩ := h
  rw [List.length_append] at l2
  match R, e, s with
  | [], e, _ => rw [e, List.append_nil, List.length_append] at hi; omega
  | x :: R, e, s =>
    rw [e, nth_at _ _ _ _ (by rw [List.length_append]; omega)] at hz
    have ea : o = (A ++ (ordL D).map (Value.int .i64)).length := by rw [List.length_append, List.length_map, ordL_len]; omega
    rw [ea]
    refine (sortStable_any w0 w g cap n _ _ Y (by omega) hbd s.within).mono ?_
    rintro e' w' ⟨rfl, Z, z1, z2, z3⟩
    have hd := ord_done hs hY z1 z2
    have hx := ord_zero (D ++ Y) hz
    rw [hd] at hx
    refine ⟨rfl, D ++ Y ++ [x], [], R, by rw [e]; simp, ?_, ?_, .inr ⟨ordL D ++ Z, x, hx, hz⟩, by simp, ?_⟩
    · simp; omega
    · simp; omega
    · have := z3.whole
      rw [hx]
      simpa [List.append_assoc] using this
theorem OSt.last {w0 w : World} {g : Nat} {A B : List Value} {L : List Int} {f i : Nat} (h : OSt w0 w g A B L f i) (n cap o : Nat) (hn : n = i - f) (ho : o = A.length + f) (hbd : n ≤ 1000000000) (hi : i = L.length) :
    Calls Try.prog 115 #[.slice (some ⟨g, o, none⟩) n cap, .func (.func 112) #[] #[]] w fun e w' => e = .returned (.tuple #[]) ∧ Seg w0 w' g A (ordL L) B := by
  obtain ⟨D, Y, R, e, l1, l2, hs, hY, s⟩ := h
  rw [List.length_append] at l2
  rw [e] at hi
  simp only [List.length_append] at hi
  obtain rfl : R = [] := List.length_eq_zero_iff.1 (by omega)
  have ea : o = (A ++ (ordL D).map (Value.int .i64)).length := by rw [List.length_append, List.length_map, ordL_len]; omega
  rw [ea]
  refine (sortStable_any w0 w g cap n _ _ Y (by omega) hbd s.within).mono ?_
  rintro e' w' ⟨rfl, Z, z1, z2, z3⟩
  have hd := ord_done hs hY z1 z2
  refine ⟨rfl, ?_⟩
  rw [e, List.append_nil, hd]
  simpa using z3.whole
theorem insNone (b : Option Addr) (cap : Nat) (w : World) : Calls Try.prog 122 #[.slice b 0 cap, .int .i64 0, .int .i64 0, .func (.func 112) #[] #[]] w fun e w' => e = .returned (.tuple #[]) ∧ w' = w := by
  go_enter Try.func122, Try.ntmps122
  go_wp2
  go_loopw [8] (fun iv wr => iv = .int .i64 1 ∧ wr = w) (fun _ _ => 0)
  case atStart => exact ⟨rfl, rfl⟩
  case round =>
    obtain ⟨rfl, rfl⟩ := hrel
    go_wp2
    go_end0
    exact ⟨rfl, rfl⟩
theorem stableNone (b : Option Addr) (cap : Nat) (w : World) : Calls Try.prog 121 #[.slice b 0 cap, .int .i64 0, .func (.func 112) #[] #[]] w fun e w' => e = .returned (.tuple #[]) ∧ w' = w := by
  have C := hide (insNone b cap w)
  go_enter Try.func121, Try.ntmps121
  go_wp2
  go_loopw [7, 8] (fun av bv wr => av = .int .i64 0 ∧ bv = .int .i64 20 ∧ wr = w) (fun _ _ _ => 0)
  case atStart => exact ⟨rfl, rfl, rfl⟩
  case round =>
    obtain ⟨rfl, rfl, rfl⟩ := hrel
    go_wp2_with fail
    refine (unhide C).mono ?_
    rintro e' w2 ⟨rfl, rfl⟩
    clear C
    go_wp2
    go_loopw [6] (fun kv wr2 => kv = .int .i64 20 ∧ wr2 = w2) (fun _ _ => 0)
    case atStart => exact ⟨rfl, rfl⟩
    case round =>
      obtain ⟨rfl, rfl⟩ := hrel
      go_wp2
      go_end0
      exact ⟨rfl, rfl⟩
theorem sortNone (b : Option Addr) (cap : Nat) (w : World) : Calls Try.prog 115 #[.slice b 0 cap, .func (.func 112) #[] #[]] w fun e w' => e = .returned (.tuple #[]) ∧ w' = w := by
  have C := hide (stableNone b cap w)
  go_enter Try.func115, Try.ntmps115
  go_wp2_with fail
  refine (unhide C).mono ?_
  rintro e' w2 ⟨rfl, rfl⟩
  clear C
  go_wp2
  go_end0
  exact ⟨rfl, rfl⟩
set_option maxHeartbeats 4000000 in
set_option maxRecDepth 100000 in
theorem orderMarks_any (w0 w : World) (g cap N : Nat) (A B : List Value) (L : List Int) (hN : N = L.length) (hbd : N ≤ 1000000000) (hcap : N ≤ cap) (hcb : cap ≤ 9223372036854775807) (S : Seg w0 w g A L B) :
    Calls Try.prog 94 #[.slice (some ⟨g, A.length, none⟩) N cap] w fun e w' => e = .returned (.tuple #[]) ∧ Seg w0 w' g A (ordL L) B := by
  have mixed := mixedO
  have I0 := hide (OSt.start S)
  have HN := hide hN
  clear S hN
  go_enter Try.func94, Try.ntmps94
  go_wp2
  go_loopw [3, 8] (fun fv iv wr => ∃ f i : Nat, f ≤ i ∧ i ≤ N ∧ fv = .int .i64 f ∧ iv = .int .i64 i ∧ Hid (OSt w0 wr g A B L f i)) (fun _ iv _ => N - (intOf iv).toNat)
  case atStart => exact ⟨0, 0, Nat.le_refl _, Nat.zero_le _, rfl, rfl, I0⟩
  case round =>
    obtain ⟨f, i, hfi, hiN, rfl, rfl, I1⟩ := hrel
    clear I0
    by_cases hlt : i < N
    · have hlt' : (i : Int) < (N : Int) := by omega
      have hiL : i < L.length := by have := unhide HN; omega
      have c := (unhide I1).cell hiL
      have CM := hide (fun W => markI (nth L i) W)
      by_cases hz : clsZ (nth L i) = 0
      · rw [hz] at CM
        have C := hide ((unhide I1).sort (i - f) (cap - f) (A.length + f) rfl rfl (by omega) hiL hz)
        clear I1 hz hiL
        generalize nth L i = x at *
        go_wp2_with fail
        refine ((unhide CM) _).mono ?_
        rintro e' w2 ⟨rfl, rfl⟩
        clear CM
        go_wp2_with fail
        refine (unhide C).mono ?_
        rintro e' w3 ⟨rfl, f2⟩
        have F2 := hide f2
        clear f2 C c
        go_wp2
        go_roundw
        case rel => exact ⟨i + 1, i + 1, Nat.le_refl _, hlt, by go_num, by go_num, F2⟩
        case measure => simp [intOf]; omega
      · have F2 := hide ((unhide I1).mark hiL hz)
        have hz' : (clsZ (nth L i) == 0) = false := by rw [beq_eq_false_iff_ne]; exact hz
        clear I1 hz hiL
        generalize clsZ (nth L i) = z at *
        generalize nth L i = x at *
        go_wp2_with fail
        refine ((unhide CM) _).mono ?_
        rintro e' w2 ⟨rfl, rfl⟩
        clear CM c
        go_wp2
        go_roundw
        case rel => exact ⟨f, i + 1, by omega, hlt, rfl, by go_num, F2⟩
        case measure => simp [intOf]; omega
    · have hlt' : ¬ (i : Int) < (N : Int) := by omega
      obtain rfl : i = N := by omega
      by_cases hf : f = i
      · have F2 := hide ((unhide I1).fin (unhide HN) hf)
        have C := hide (fun b cap => sortNone b cap wr)
        subst hf
        clear I1
        by_cases hc : cap = f
        · subst hc
          go_wp2_with fail
          refine ((unhide C) _ _).mono ?_
          rintro e' w3 ⟨rfl, rfl⟩
          go_wp2
          go_end0
          exact ⟨rfl, unhide F2⟩
        · go_wp2_with fail
          refine ((unhide C) _ _).mono ?_
          rintro e' w3 ⟨rfl, rfl⟩
          go_wp2
          go_end0
          exact ⟨rfl, unhide F2⟩
      · have hc : ¬ cap = f := by omega
        have C := hide ((unhide I1).last (i - f) (cap - f) (A.length + f) rfl rfl (by omega) (unhide HN))
        clear I1
        go_wp2_with fail
        refine (unhide C).mono ?_
        rintro e' w3 ⟨rfl, f2⟩
        have F2 := hide f2
        clear f2 C
        go_wp2
        go_end0
        exact ⟨rfl, unhide F2⟩
set_option maxRecDepth 100000 in
theorem orderNone (b : Option Addr) (cap : Nat) (w : World) : Calls Try.prog 94 #[.slice b 0 cap] w fun e w' => e = .returned (.tuple #[]) ∧ w' = w := by
  have C := hide (fun b cap => sortNone b cap w)
  go_enter Try.func94, Try.ntmps94
  go_wp2
  go_loopw [3, 8] (fun fv iv wr => fv = .int .i64 0 ∧ iv = .int .i64 0 ∧ wr = w) (fun _ _ _ => 0)
  case atStart => exact ⟨rfl, rfl, rfl⟩
  case round =>
    obtain ⟨rfl, rfl, rfl⟩ := hrel
    by_cases hc : cap = 0
    · subst hc
      go_wp2_with fail
      refine ((unhide C) _ _).mono ?_
      rintro e' w3 ⟨rfl, rfl⟩
      go_wp2
      go_end0
      exact ⟨rfl, rfl⟩
    · go_wp2_with fail
      refine ((unhide C) _ _).mono ?_
      rintro e' w3 ⟨rfl, rfl⟩
      go_wp2
      go_end0
      exact ⟨rfl, rfl⟩
end Go.Proofs.Ytnfdkcphmolkiaa
