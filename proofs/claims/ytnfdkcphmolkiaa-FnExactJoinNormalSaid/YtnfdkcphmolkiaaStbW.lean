/- A row put in order, those that are alike as they stood. -/
import Derived.Test.YtnfdkcphmolkiaaStbC
import Derived.Test.YtnfdkcphmolkiaaInsR
namespace Go.Proofs.Ytnfdkcphmolkiaa
open Go.RowKit
/-- Chunks of k in order up to a; the rest as it was. -/
def Fst (w0 w : World) (g : Nat) (A B : List Value) (X : List Int) (k a : Nat) : Prop := ∃ Pd R, Pd.length = a ∧ (∃ q, a = q * k) ∧ Ch k Pd ∧ StEq clsLt (Pd ++ R) X ∧ Seg w0 w g A (Pd ++ R) B
def Snd (w0 w : World) (g : Nat) (A B : List Value) (X : List Int) (k a : Nat) : Prop := ∃ Pd R, Half k a X Pd R ∧ Seg w0 w g A (Pd ++ R) B
def Thd (w0 w : World) (g : Nat) (A B : List Value) (X : List Int) (k : Nat) : Prop := ∃ L, Ch k L ∧ StEq clsLt L X ∧ Seg w0 w g A L B
theorem Thd.snd {w0 w : World} {g : Nat} {A B : List Value} {X : List Int} {k : Nat} : Thd w0 w g A B X k → Snd w0 w g A B X k 0 := fun ⟨L, h1, h2, h3⟩ => ⟨[], L, Half.start h1 h2, by simpa using h3⟩
theorem Thd.last {w0 w : World} {g : Nat} {A B : List Value} {X : List Int} {k : Nat} (h : Thd w0 w g A B X k) (hk : X.length ≤ k) : ∃ Z, Srt clsLt Z ∧ StEq clsLt Z X ∧ Seg w0 w g A Z B := by
  obtain ⟨L, h1, h2, h3⟩ := h
  exact ⟨L, ch_all h1 (by rw [StEq.length cls_weak h2]; exact hk), h2, h3⟩
theorem Fst.step {w0 w : World} {g : Nat} {A B : List Value} {X : List Int} {k a cap N : Nat} (h : Fst w0 w g A B X k a) (b : Nat) (hb : b = a + k) (hle : b ≤ N) (hN : N = X.length) (hbd : N ≤ 1000000000) :
    Calls Try.prog 122 #[.slice (some ⟨g, A.length, none⟩) N cap, .int .i64 a, .int .i64 b, .func (.func 112) #[] #[]] w fun e w' => e = .returned (.tuple #[]) ∧ Fst w0 w' g A B X k b := by
  obtain ⟨Pd, R, l1, ⟨q, hq⟩, c1, s1, g1⟩ := h
  have lX := StEq.length cls_weak s1
  rw [List.length_append] at lX
  have lt : (R.take k).length = k := by rw [List.length_take]; omega
  have ld : (R.drop k).length = R.length - k := List.length_drop
  refine (insSort_any w0 w g cap a b N A B Pd (R.take k) (R.drop k) l1.symm (by omega) (by omega) hbd (by rw [List.append_assoc, List.take_append_drop]; exact g1)).mono ?_
  rintro e w' ⟨rfl, Z, z1, z2, z3⟩
  have lZ := StEq.length cls_weak z2
  refine ⟨rfl, Pd ++ Z, R.drop k, by rw [List.length_append]; omega, ⟨q + 1, by rw [Nat.add_mul, ← hq]; omega⟩, ch_app c1 (ch_one z1 (by omega)) (by rw [l1]; exact hq), ?_, z3⟩
  refine StEq.trans ?_ s1
  have : StEq clsLt (Pd ++ (Z ++ R.drop k)) (Pd ++ (R.take k ++ R.drop k)) := (StEq.refl Pd).app (z2.app (StEq.refl _))
  rw [List.take_append_drop, ← List.append_assoc] at this
  exact this
theorem Fst.fin {w0 w : World} {g : Nat} {A B : List Value} {X : List Int} {k a cap N : Nat} (h : Fst w0 w g A B X k a) (hlt : N < a + k) (hN : N = X.length) (hbd : N ≤ 1000000000) :
    Calls Try.prog 122 #[.slice (some ⟨g, A.length, none⟩) N cap, .int .i64 a, .int .i64 N, .func (.func 112) #[] #[]] w fun e w' => e = .returned (.tuple #[]) ∧ Thd w0 w' g A B X k := by
  obtain ⟨Pd, R, l1, ⟨q, hq⟩, c1, s1, g1⟩ := h
  have lX := StEq.length cls_weak s1
  rw [List.length_append] at lX
  refine (insSort_any w0 w g cap a N N A B Pd R [] l1.symm (by omega) (by simp; omega) hbd (by rw [List.append_nil]; exact g1)).mono ?_
  rintro e w' ⟨rfl, Z, z1, z2, z3⟩
  have lZ := StEq.length cls_weak z2
  rw [List.append_nil] at z3
  exact ⟨rfl, Pd ++ Z, ch_app c1 (ch_one z1 (by omega)) (by rw [l1]; exact hq), ((StEq.refl Pd).app z2).trans s1, z3⟩
theorem Snd.step {w0 w : World} {g : Nat} {A B : List Value} {X : List Int} {k a cap N : Nat} (h : Snd w0 w g A B X k a) (m b : Nat) (hm : m = a + k) (hb : b = a + 2 * k) (hk : 0 < k) (hle : b ≤ N) (hN : N = X.length) (hbd : N ≤ 1000000000) :
    Calls Try.prog 123 #[.slice (some ⟨g, A.length, none⟩) N cap, .int .i64 a, .int .i64 m, .int .i64 b, .func (.func 112) #[] #[]] w fun e w' => e = .returned (.tuple #[]) ∧ Snd w0 w' g A B X k b := by
  obtain ⟨Pd, R, h1, g1⟩ := h
  have lX := StEq.length cls_weak h1.st
  rw [List.length_append, h1.le] at lX
  have l0 : 2 * k ≤ R.length := by omega
  obtain ⟨e1, l1, l2, t1, t2⟩ := h1.two l0
  have ld : (R.drop (2 * k)).length = R.length - 2 * k := List.length_drop
  refine (merges_all _ w0 w g cap a m b N A B Pd (R.take k) ((R.drop k).take k) (R.drop (2 * k)) (Nat.le_refl _) (by omega) (by omega) t1 t2 h1.le.symm (by omega) (by omega) (by omega) hbd ?_).mono ?_
  · rw [List.append_assoc Pd, List.append_assoc Pd, ← e1]
    exact g1
  · rintro e w' ⟨rfl, Z, z1, z2, z3⟩
    subst hb
    exact ⟨rfl, Pd ++ Z, R.drop (2 * k), h1.next l0 z1 z2, z3⟩
theorem Snd.fin {w0 w : World} {g : Nat} {A B : List Value} {X : List Int} {k a cap N : Nat} (h : Snd w0 w g A B X k a) (m : Nat) (hm : m = a + k) (hk : 0 < k) (hlt : N < a + 2 * k) (hmN : m < N) (hN : N = X.length) (hbd : N ≤ 1000000000) :
    Calls Try.prog 123 #[.slice (some ⟨g, A.length, none⟩) N cap, .int .i64 a, .int .i64 m, .int .i64 N, .func (.func 112) #[] #[]] w fun e w' => e = .returned (.tuple #[]) ∧ Thd w0 w' g A B X (2 * k) := by
  obtain ⟨Pd, R, h1, g1⟩ := h
  have lX := StEq.length cls_weak h1.st
  rw [List.length_append, h1.le] at lX
  have lt : (R.take k).length = k := by rw [List.length_take]; omega
  have ld : (R.drop k).length = R.length - k := List.length_drop
  have t2 : Srt clsLt (R.drop k) := by
    have := h1.td 1
    rwa [Nat.one_mul, List.take_of_length_le (by omega)] at this
  refine (merges_all _ w0 w g cap a m N N A B Pd (R.take k) (R.drop k) [] (Nat.le_refl _) (by omega) (by omega) (ch_take h1.td) t2 h1.le.symm (by omega) (by omega) (by simp) hbd ?_).mono ?_
  · rw [List.append_nil, List.append_assoc, List.take_append_drop]
    exact g1
  · rintro e w' ⟨rfl, Z, z1, z2, z3⟩
    rw [List.take_append_drop] at z2
    rw [List.append_nil] at z3
    obtain ⟨u1, u2⟩ := h1.last (by omega) z1 z2
    exact ⟨rfl, Pd ++ Z, u1, u2, z3⟩
theorem Snd.done {w0 w : World} {g : Nat} {A B : List Value} {X : List Int} {k a N : Nat} (h : Snd w0 w g A B X k a) (hmN : N ≤ a + k) (hN : N = X.length) : Thd w0 w g A B X (2 * k) := by
  obtain ⟨Pd, R, h1, g1⟩ := h
  have lX := StEq.length cls_weak h1.st
  rw [List.length_append, h1.le] at lX
  have t1 : Srt clsLt R := ch_all h1.td (by omega)
  by_cases hk : R.length < 2 * k
  · obtain ⟨u1, u2⟩ := h1.last hk t1 (StEq.refl _)
    exact ⟨Pd ++ R, u1, u2, g1⟩
  · have hR : R = [] := List.length_eq_zero_iff.1 (by omega)
    subst hR
    exact ⟨Pd ++ [], by rw [List.append_nil]; exact h1.dn, h1.st, g1⟩
set_option maxHeartbeats 4000000 in
set_option maxRecDepth 100000 in
theorem stable_any (w0 w : World) (g cap N : Nat) (A B : List Value) (X : List Int) (hN : N = X.length) (hbd : N ≤ 1000000000) (S : Seg w0 w g A X B) :
    Calls Try.prog 121 #[.slice (some ⟨g, A.length, none⟩) N cap, .int .i64 N, .func (.func 112) #[] #[]] w fun e w' => e = .returned (.tuple #[]) ∧ ∃ Z, Srt clsLt Z ∧ StEq clsLt Z X ∧ Seg w0 w' g A Z B := by
  have mixed := mixedO
  have F0 : Hid (Fst w0 w g A B X 20 0) := hide ⟨[], X, rfl, ⟨0, by simp⟩, ch_nil _, by simpa using StEq.refl X, by simpa using S⟩
  have HN := hide hN
  clear S hN
  go_enter Try.func121, Try.ntmps121
  go_wp2
  go_loopw [7, 8] (fun av bv wr => ∃ a b : Nat, a ≤ N ∧ Hid (b = a + 20) ∧ av = .int .i64 a ∧ bv = .int .i64 b ∧ Hid (Fst w0 wr g A B X 20 a)) (fun av _ _ => N - (intOf av).toNat)
  case atStart => exact ⟨0, 20, Nat.zero_le _, hide rfl, rfl, rfl, F0⟩
  case round =>
    obtain ⟨a, b, haN, Hb, rfl, rfl, F1⟩ := hrel
    clear F0
    have hb2 : b ≤ 1000000020 := by have := unhide Hb; omega
    by_cases hle : b ≤ N
    · have hle' : (b : Int) ≤ (N : Int) := by omega
      have C := hide ((unhide F1).step (cap := cap) b (unhide Hb) hle (unhide HN) hbd)
      clear F1
      go_wp2_with fail
      refine (unhide C).mono ?_
      rintro e' w2 ⟨rfl, f2⟩
      have F2 := hide f2
      clear f2 C
      go_wp2
      go_roundw
      case rel => exact ⟨b, b + 20, hle, hide rfl, rfl, by go_num, F2⟩
      case measure =>
        have := unhide Hb
        simp [intOf]; omega
    · have hle' : ¬ (b : Int) ≤ (N : Int) := by omega
      have C := hide ((unhide F1).fin (cap := cap) (by have := unhide Hb; omega) (unhide HN) hbd)
      clear F1
      go_wp2_with fail
      refine (unhide C).mono ?_
      rintro e' w2 ⟨rfl, f2⟩
      have F2 := hide f2
      clear f2 C hle hle' hb2 Hb haN
      go_wp2
      go_loopw [6] (fun kv wr => ∃ k : Nat, 20 ≤ k ∧ k ≤ 2000000000 ∧ kv = .int .i64 k ∧ Hid (Thd w0 wr g A B X k)) (fun kv _ => 2000000000 - (intOf kv).toNat)
      case atStart => exact ⟨20, Nat.le_refl _, by omega, rfl, F2⟩
      case round =>
        obtain ⟨k, hk1, hk2, rfl, F3⟩ := hrel
        clear F2
        by_cases hlt : k < N
        · have hlt' : (k : Int) < (N : Int) := by omega
          obtain ⟨k2, hk3⟩ : ∃ k2, k2 = 2 * k := ⟨_, rfl⟩
          have z2 : (2 : Int) * (k : Int) = (k2 : Int) := by omega
          have z3 : (k : Int) * 2 = (k2 : Int) := by omega
          have hk4 : k2 ≤ 2000000000 := by omega
          have hk5 : k < k2 := by omega
          have HK := hide hk3
          have F4 := hide (unhide F3).snd
          clear F3 hk3
          go_wp2
          go_loopw [7, 8] (fun av bv wr2 => ∃ a b : Nat, a ≤ N ∧ Hid (b = a + k2) ∧ av = .int .i64 a ∧ bv = .int .i64 b ∧ Hid (Snd w0 wr2 g A B X k a)) (fun av _ _ => N - (intOf av).toNat)
          case atStart => exact ⟨0, k2, Nat.zero_le _, hide (by omega), rfl, rfl, F4⟩
          case round =>
            obtain ⟨a, b, haN, Hb, rfl, rfl, F5⟩ := hrel
            clear F4
            obtain ⟨m, hm⟩ : ∃ m, m = a + k := ⟨_, rfl⟩
            have zm : (a : Int) + (k : Int) = (m : Int) := by omega
            have hb2 : b ≤ 3000000000 := by have := unhide Hb; omega
            have hm2 : m ≤ 3000000000 := by omega
            have Hm := hide hm
            clear hm
            by_cases hle : b ≤ N
            · have hle' : (b : Int) ≤ (N : Int) := by omega
              have C := hide ((unhide F5).step (cap := cap) m b (unhide Hm) (by have := unhide Hb; have := unhide HK; omega) (by omega) hle (unhide HN) hbd)
              clear F5
              go_wp2_with fail
              refine (unhide C).mono ?_
              rintro e' w2 ⟨rfl, f2⟩
              have F6 := hide f2
              clear f2 C
              go_wp2
              go_roundw
              case rel => exact ⟨b, b + k2, hle, hide rfl, rfl, by go_num, F6⟩
              case measure =>
                have := unhide Hb
                simp [intOf]; omega
            · have hle' : ¬ (b : Int) ≤ (N : Int) := by omega
              by_cases hmN : m < N
              · have hmN' : (m : Int) < (N : Int) := by omega
                have C := hide ((unhide F5).fin (cap := cap) m (unhide Hm) (by omega) (by have := unhide Hb; have := unhide HK; omega) hmN (unhide HN) hbd)
                clear F5
                go_wp2_with fail
                refine (unhide C).mono ?_
                rintro e' w2 ⟨rfl, f2⟩
                have F6 : Hid (Thd w0 w2 g A B X k2) := hide (by rw [unhide HK]; exact f2)
                clear f2 C
                go_wp2
                go_roundw
                case rel => exact ⟨k2, by omega, hk4, rfl, F6⟩
                case measure => simp [intOf]; omega
              · have hmN' : ¬ (m : Int) < (N : Int) := by omega
                have F6 : Hid (Thd w0 wr g A B X k2) := hide (by rw [unhide HK]; exact (unhide F5).done (by have := unhide Hm; omega) (unhide HN))
                clear F5
                go_wp2
                go_roundw
                case rel => exact ⟨k2, by omega, hk4, rfl, F6⟩
                case measure => simp [intOf]; omega
        · have hlt' : ¬ (k : Int) < (N : Int) := by omega
          go_wp2
          go_end0
          exact ⟨rfl, (unhide F3).last (by have := unhide HN; omega)⟩
set_option maxRecDepth 100000 in
/-- slices.SortStableFunc by the class of marks. -/
theorem sortStable_any (w0 w : World) (g cap N : Nat) (A B : List Value) (X : List Int) (hN : N = X.length) (hbd : N ≤ 1000000000) (S : Seg w0 w g A X B) :
    Calls Try.prog 115 #[.slice (some ⟨g, A.length, none⟩) N cap, .func (.func 112) #[] #[]] w fun e w' => e = .returned (.tuple #[]) ∧ ∃ Z, Srt clsLt Z ∧ StEq clsLt Z X ∧ Seg w0 w' g A Z B := by
  have mixed := mixedO
  have C := hide (stable_any w0 w g cap N A B X hN hbd S)
  clear S hN
  go_enter Try.func115, Try.ntmps115
  go_wp2_with fail
  refine (unhide C).mono ?_
  rintro e' w2 ⟨rfl, f2⟩
  have F2 := hide f2
  clear f2 C
  go_wp2
  go_end0
  exact ⟨rfl, unhide F2⟩
end Go.Proofs.Ytnfdkcphmolkiaa
