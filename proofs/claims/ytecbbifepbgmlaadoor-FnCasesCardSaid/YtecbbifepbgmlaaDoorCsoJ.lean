/- slices.Sort of three or four numbers; a row without what comes twice, in plain numbers. -/
import Derived.Test.YtecbbifepbgmlaaDoorCsoI
namespace Go.Proofs.YtecbbifepbgmlaaDoor.Cas
open Go.RowKit
set_option linter.unusedVariables false
set_option maxRecDepth 100000 in
set_option maxHeartbeats 4000000 in
theorem len64C (n : Nat) (hn : n = 3 ∨ n = 4) (w : World) : Calls Tryd.prog 52 #[.int .u64 (n : Int)] w fun e w' => (∃ z, e = .returned (.int .i64 z)) ∧ w' = w := by
  rcases hn with rfl | rfl
  · go_enter Tryd.func52, Tryd.ntmps52
    go_wp2
    go_ret
    exact ⟨⟨_, rfl⟩, rfl⟩
  · go_enter Tryd.func52, Tryd.ntmps52
    go_wp2
    go_ret
    exact ⟨⟨_, rfl⟩, rfl⟩
set_option maxRecDepth 100000 in
theorem lenC (n : Nat) (hn : n = 3 ∨ n = 4) (w : World) : Calls Tryd.prog 33 #[.int .u64 (n : Int)] w fun e w' => (∃ z, e = .returned (.int .i64 z)) ∧ w' = w := by
  have C := hide (fun W => len64C n hn W)
  clear hn
  go_enter Tryd.func33, Tryd.ntmps33
  go_wp2_with (go_at_call 52; refine ((unhide C) _).mono ?_; rintro e w' ⟨⟨z, rfl⟩, rfl⟩)
  go_ret
  exact ⟨⟨_, rfl⟩, rfl⟩
set_option maxRecDepth 100000 in
set_option maxHeartbeats 4000000 in
theorem pdqC (w0 w : World) (B g n cap : Nat) (O : List Int) (z : Int) (hn : n ≤ 12) (hn1 : 1 ≤ n) (h : Rw w0 w B g n cap O) :
    Calls Tryd.prog 32 #[.slice (some ⟨g, 0, none⟩) n cap, .int .i64 0, .int .i64 n, .int .i64 z] w fun e w' => e = .returned (.tuple #[]) ∧ Rw w0 w' B g n cap (srt O) := by
  have C := hide (insC w0 w B g n cap O hn hn1 h)
  have hl : (n : Int) ≤ 12 := by omega
  clear h
  go_enter Tryd.func32, Tryd.ntmps32
  go_wp2
  go_loopw [1, 2] (fun av bv wr => av = .int .i64 0 ∧ bv = .int .i64 n ∧ wr = w) (fun _ _ _ => 0)
  case atStart => exact ⟨rfl, rfl, rfl⟩
  case round =>
    obtain ⟨rfl, rfl, rfl⟩ := hrel
    go_wp2_with (go_at_call 42; refine (unhide C).mono ?_; rintro e w' ⟨rfl, hr⟩; have R := hide hr; clear hr)
    exact bodyPost_ret (v := .tuple #[]) (results_none (by rfl) _ _ _) rfl ⟨rfl, unhide R⟩
set_option maxRecDepth 100000 in
set_option maxHeartbeats 4000000 in
theorem sortC (w0 w : World) (B g n cap : Nat) (O : List Int) (hn : n = 3 ∨ n = 4) (h : Rw w0 w B g n cap O) :
    Calls Tryd.prog 18 #[.slice (some ⟨g, 0, none⟩) n cap] w fun e w' => e = .returned (.tuple #[]) ∧ Rw w0 w' B g n cap (srt O) := by
  have CL := hide (fun W => lenC n hn W)
  have CP := hide (fun z => pdqC w0 w B g n cap O z (by omega) (by omega) h)
  have hl : (n : Int) ≤ 4 := by omega
  have hl0 : (0 : Int) ≤ (n : Int) := by omega
  clear h hn
  go_enter Tryd.func18, Tryd.ntmps18
  go_wp2_with (first
    | (go_at_call 33; refine ((unhide CL) _).mono ?_; rintro e w' ⟨⟨z, rfl⟩, rfl⟩)
    | (go_at_call 32; refine ((unhide CP) _).mono ?_; rintro e w' ⟨rfl, hr⟩; have R := hide hr; clear hr))
  go_end0
  exact ⟨rfl, unhide R⟩
/-- The first k of a row without what comes twice side by side. -/
def cmk (L : List Int) : Nat → List Int
  | 0 => []
  | k + 1 => if 0 < k ∧ L.getD k 0 = L.getD (k - 1) 0 then cmk L k else cmk L k ++ [L.getD k 0]
theorem cmk_dup {L : List Int} {k : Nat} (h0 : 0 < k) (h : L.getD k 0 = L.getD (k - 1) 0) : cmk L (k + 1) = cmk L k := if_pos ⟨h0, h⟩
theorem cmk_new {L : List Int} {k : Nat} (h : L.getD k 0 ≠ L.getD (k - 1) 0) : cmk L (k + 1) = cmk L k ++ [L.getD k 0] := if_neg (fun e => h e.2)
theorem cmk_one (L : List Int) : cmk L 1 = [L.getD 0 0] := by simp [cmk]
theorem cmk_le (L : List Int) : ∀ k, (cmk L k).length ≤ k
  | 0 => Nat.le_refl _
  | k + 1 => by
    have ih := cmk_le L k
    unfold cmk
    split
    · omega
    · simp; omega
theorem take_snoc (L : List Int) (k : Nat) (h : k < L.length) : L.take (k + 1) = L.take k ++ [L.getD k 0] := by
  rw [List.take_add_one]
  simp [List.getD, h]
theorem cmk_ok {L : List Int} (hs : L.Pairwise (· ≤ ·)) : ∀ k, k ≤ L.length → (cmk L k).Pairwise (· < ·) ∧ ∀ y, y ∈ cmk L k ↔ y ∈ L.take k
  | 0, _ => ⟨List.Pairwise.nil, fun y => by simp [cmk]⟩
  | k + 1, hk => by
    obtain ⟨h1, h2⟩ := cmk_ok hs k (by omega)
    have hup : ∀ y ∈ L.take k, y ≤ L.getD k 0 ∧ (0 < k → y ≤ L.getD (k - 1) 0) := fun y hy => by
      obtain ⟨i, hi, rfl⟩ := List.mem_iff_getElem.1 hy
      simp only [List.length_take] at hi
      rw [List.getElem_take]
      refine ⟨?_, fun hk0 => ?_⟩
      · have := List.pairwise_iff_getElem.1 hs i k (by omega) (by omega) (by omega)
        simpa [List.getD, show k < L.length by omega] using this
      · by_cases e : i = k - 1
        · subst e
          simp [List.getD, show k - 1 < L.length by omega]
        · have := List.pairwise_iff_getElem.1 hs i (k - 1) (by omega) (by omega) (by omega)
          simpa [List.getD, show k - 1 < L.length by omega] using this
    rw [take_snoc L k (by omega)]
    by_cases h : 0 < k ∧ L.getD k 0 = L.getD (k - 1) 0
    · rw [cmk_dup h.1 h.2]
      refine ⟨h1, fun y => ?_⟩
      rw [h2, List.mem_append, List.mem_singleton]
      constructor
      · exact fun h => .inl h
      · rintro (h' | rfl)
        · exact h'
        · rw [h.2]
          have e : L.take k = L.take (k - 1) ++ [L.getD (k - 1) 0] := by
            have := take_snoc L (k - 1) (by omega)
            rwa [show k - 1 + 1 = k by omega] at this
          rw [e]
          simp
    · have e : cmk L (k + 1) = cmk L k ++ [L.getD k 0] := if_neg h
      rw [e]
      refine ⟨?_, fun y => ?_⟩
      · rw [List.pairwise_append]
        refine ⟨h1, by simp, fun a ha b hb => ?_⟩
        rw [List.mem_singleton] at hb
        subst hb
        have ha' := (h2 a).1 ha
        obtain ⟨u1, u2⟩ := hup a ha'
        have hk0 : 0 < k := by
          cases k with
          | zero => simp at ha'
          | succ k => omega
        have u3 := u2 hk0
        have hne : L.getD k 0 ≠ L.getD (k - 1) 0 := fun e => h ⟨hk0, e⟩
        have u4 : L.getD (k - 1) 0 ≤ L.getD k 0 := (hup (L.getD (k - 1) 0) (by
          have e : L.take k = L.take (k - 1) ++ [L.getD (k - 1) 0] := by
            have := take_snoc L (k - 1) (by omega)
            rwa [show k - 1 + 1 = k by omega] at this
          rw [e]; simp)).1
        omega
      · rw [List.mem_append, List.mem_append, h2]
theorem cmk_cmp {L : List Int} (hs : L.Pairwise (· ≤ ·)) : cmk L L.length = cmp L := by
  obtain ⟨h1, h2⟩ := cmk_ok hs L.length (Nat.le_refl _)
  obtain ⟨c1, c2⟩ := cmp_ok L hs
  refine rise_one h1 c1 fun y => ?_
  rw [h2, c2, List.take_length]
end Go.Proofs.YtecbbifepbgmlaaDoor.Cas
