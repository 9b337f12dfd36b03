/- The last hyphen of a label; a text that is handed out. -/
import Derived.Test.YthjjojkabbepdaaDoorLabG
namespace Go.Proofs.YthjjojkabbepdaaDoor.Lab
open Go.RowKit
set_option linter.unusedVariables false
theorem bt_last {X D : List Int} (hX : X = [] ∨ ∃ P, X = P ++ [45]) (hD : ∀ x ∈ D, x ≠ 45) (hb : ∀ x ∈ X ++ D, 0 ≤ x ∧ x < 256) :
    (∀ k : Nat, X.length ≤ k → k < X.length + D.length → bt (strOfNums (X ++ D)) k ≠ 45) ∧ (X ≠ [] → bt (strOfNums (X ++ D)) (X.length - 1) = 45) := by
  constructor
  · intro k h1 h2 e
    have := bt_nums (X ++ D) k (by rw [List.length_append]; omega) hb
    rw [List.getElem_append_right h1] at this
    exact hD (D[k - X.length]'(by omega)) (List.getElem_mem _) (by omega)
  · intro hne
    rcases hX with h | ⟨P, rfl⟩
    · exact absurd h hne
    · have := bt_nums ((P ++ [45]) ++ D) P.length (by simp) hb
      have e : (P ++ [45] ++ D)[P.length]'(by simp) = 45 := by simp
      rw [e] at this
      have e2 : (P ++ [45]).length - 1 = P.length := by simp
      rw [e2]
      omega
set_option maxRecDepth 100000 in
set_option maxHeartbeats 2000000 in
theorem lastBI (X D : List Int) (w : World) (hX : X = [] ∨ ∃ P, X = P ++ [45]) (hD : ∀ x ∈ D, x ≠ 45) (hb : ∀ x ∈ X ++ D, 0 ≤ x ∧ x < 256) (hl : X.length + D.length ≤ 1000000) :
    Calls Tryd.prog 56 #[.string (strOfNums (X ++ D)), .int .u8 45] w fun e w' => e = .returned (.int .i64 ((X.length : Int) - 1)) ∧ w' = w := by
  obtain ⟨h1, h2⟩ := bt_last hX hD hb
  have HZ : (strOfNums (X ++ D)).size = X.length + D.length := by rw [strOfNums_size, List.length_append]
  have HX : X ≠ [] ∨ X.length = 0 := by rcases hX with h | ⟨P, h⟩ <;> simp [h]
  generalize strOfNums (X ++ D) = s at *
  clear hb hD hX
  have H1 := hide h1
  have H2 := hide h2
  clear h1 h2
  generalize hn : X.length = n at *
  generalize D.length = m at *
  go_enter Tryd.func56, Tryd.ntmps56
  go_wp2
  go_loopw [5] (fun iv wr => ∃ k : Nat, n ≤ k ∧ k ≤ n + m ∧ iv = .int .i64 ((k : Int) - 1) ∧ wr = w) (fun iv _ => (intOf iv + 1).toNat)
  case atStart => exact ⟨n + m, by omega, by omega, by simp, rfl⟩
  case round =>
    obtain ⟨k, hk1, hk2, rfl, rfl⟩ := hrel
    by_cases hkn : k = 0
    · subst hkn
      obtain rfl : n = 0 := by omega
      go_wp2
      go_ret
      exact ⟨rfl, rfl⟩
    · obtain ⟨j, rfl⟩ : ∃ j, k = j + 1 := ⟨k - 1, by omega⟩
      have hj : ((j + 1 : Nat) : Int) - 1 = (j : Int) := by omega
      rw [hj]
      have hjs : j < s.size := by omega
      have f0 : ∀ h, (s[j]'h).toNat = bt s j := fun h => bt_get s j h
      by_cases hjn : n ≤ j
      · have hne : ¬ (bt s j : Int) = 45 := by have := (unhide H1) j hjn (by omega); omega
        go_wp2
        go_roundw
        case rel => exact ⟨j, hjn, by omega, by go_num, by first | rfl | trivial⟩
        case measure => first | (simp [intOf]; done) | (simp [intOf]; omega)
      · have hnj : n = j + 1 := by omega
        have hX2 : X ≠ [] := by rcases HX with h | h <;> first | exact h | omega
        have heq : (bt s j : Int) = 45 := by have := (unhide H2) hX2; rw [hnj] at this; simp at this; omega
        go_wp2
        go_ret
        exact ⟨by subst hnj; simp, rfl⟩
set_option maxRecDepth 100000 in
theorem lastI (X D : List Int) (w : World) (hX : X = [] ∨ ∃ P, X = P ++ [45]) (hD : ∀ x ∈ D, x ≠ 45) (hb : ∀ x ∈ X ++ D, 0 ≤ x ∧ x < 256) (hl : X.length + D.length ≤ 1000000) :
    Calls Tryd.prog 42 #[.string (strOfNums (X ++ D)), .int .u8 45] w fun e w' => e = .returned (.int .i64 ((X.length : Int) - 1)) ∧ w' = w := by
  have C := hide (lastBI X D w hX hD hb hl)
  clear hX hD hb
  generalize strOfNums (X ++ D) = s at *
  generalize X.length = n at *
  go_enter Tryd.func42, Tryd.ntmps42
  go_wp2_with (go_at_call 56; refine (unhide C).mono ?_; rintro e w' ⟨rfl, hw⟩; obtain rfl := hw.symm; clear hw)
  go_ret
  exact ⟨rfl, rfl⟩
set_option maxRecDepth 100000 in
/-- Where nothing is refused. -/
theorem hostOk (t : ByteArray) (w : World) : Calls Tryd.prog 24 #[.string t, .nilIface] w fun e w' => e = .returned (.agg #[.int .i64 0, .int .i64 0, .string t]) ∧ Below w.heap.size w w' := by
  go_enter Tryd.func24, Tryd.ntmps24
  go_wp2
  first | go_ret | go_returns | go_ret2
  exact ⟨rfl, (Below.refl _ _).alloc (Nat.le_refl _) _⟩
set_option maxRecDepth 100000 in
set_option maxHeartbeats 2000000 in
theorem decOk (s t : ByteArray) (w : World) (hR : ∀ W, Calls Tryd.prog 23 #[.string s] W fun e w' => e = .returned (.tuple #[.string t, .nilIface]) ∧ Below W.heap.size W w') :
    Calls Tryd.prog 8 #[.string s] w fun e w' => e = .returned (.agg #[.int .i64 0, .int .i64 0, .string t]) ∧ Below w.heap.size w w' := by
  have CR := hide hR
  have CH := hide (fun W => hostOk t W)
  clear hR
  obtain ⟨x, hx⟩ : ∃ x : Obj, x = .cells #[.int .i64 0, .int .i64 0, .string ⟨#[]⟩] 26 (0, 0) := ⟨_, rfl⟩
  have W0 : Hid (Below w.heap.size w (w.alloc x)) := hide ((Below.refl _ _).alloc (Nat.le_refl _) x)
  have S0 : Hid ((w.alloc x).heap.size = w.heap.size + 1) := hide (by simp)
  have C0 : Hid ((w.alloc x).heap[w.heap.size]? = some x) := hide (heap_alloc_new _ _)
  subst hx
  go_enter Tryd.func8, Tryd.ntmps8
  go_wp2_with fail
  generalize w.alloc (.cells #[.int .i64 0, .int .i64 0, .string ⟨#[]⟩] 26) = w0 at *
  refine ((unhide CR) _).mono ?_
  rintro e w1 ⟨rfl, hb1⟩
  have B1 := hide hb1
  clear hb1
  go_wp2_with fail
  refine ((unhide CH) _).mono ?_
  rintro e w2 ⟨rfl, hb2⟩
  have B2 : Hid (Below (w.heap.size + 1) w0 w2) := hide (((unhide B1).trans (hb2.mono (unhide B1).size)).mono (by rw [unhide S0]; exact Nat.le_refl _))
  clear hb2 B1
  have h7 : w2.heap[w.heap.size]? = some (.cells #[.int .i64 0, .int .i64 0, .string ⟨#[]⟩] 26 (0, 0)) := ((unhide B2).block _ (by omega)).trans (unhide C0)
  have e0 : w2.cell? ⟨w.heap.size, 0, none⟩ = some (.int .i64 0) := by simp [World.cell?, h7]
  have e1 : w2.cell? ⟨w.heap.size, 1, none⟩ = some (.int .i64 0) := by simp [World.cell?, h7]
  have e2 : w2.cell? ⟨w.heap.size, 2, none⟩ = some (.string ⟨#[]⟩) := by simp [World.cell?, h7]
  have f0 : w2.frozen? ⟨w.heap.size, 0, none⟩ = false := by simp [World.frozen?, h7]
  have f1 : w2.frozen? ⟨w.heap.size, 1, none⟩ = false := by simp [World.frozen?, h7]
  have f2 : w2.frozen? ⟨w.heap.size, 2, none⟩ = false := by simp [World.frozen?, h7]
  clear h7
  go_wp2
  refine bodyPost_ret (by simp [results, Tryd.results8, go_sem, e0, e1, e2]; try rfl) rfl ?_
  exact ⟨rfl, ((((unhide W0).trans ((unhide B2).mono (by omega))).setCell (p := ⟨w.heap.size, 0, none⟩) (Nat.le_refl _) _).setCell (p := ⟨w.heap.size, 1, none⟩) (Nat.le_refl _) _).setCell (p := ⟨w.heap.size, 2, none⟩) (Nat.le_refl _) _⟩
end Go.Proofs.YthjjojkabbepdaaDoor.Lab
