/- What the specification looks back for: dots behind the stroke that binds, flags, pictures; and its word on a place. -/
import Derived.Test.YtbaedapnikhdgaaGreatDoorChrS
namespace Go.Proofs.YtbaedapnikhdgaaGreatDoor
namespace Chr
open Go.RowKit
/-- A row of numbers that is read where it lies. -/
def RowAt (w : World) (b off : Nat) (L : List Int) : Prop := b < w.heap.size ∧ ∀ i, i < L.length → w.cell? ⟨b, off + i, none⟩ = some (.int .i64 (nth L i))
theorem RowAt.below {w w' : World} {b off : Nat} {L : List Int} (h : RowAt w b off L) (hb : Below w.heap.size w w') : RowAt w' b off L :=
  ⟨Nat.lt_of_lt_of_le h.1 hb.size, fun i hi => by rw [hb.cell (p := ⟨b, off + i, none⟩) h.1]; exact h.2 i hi⟩
theorem RowAt.of {w : World} {v : Value} {L : List Int} (h : IntsAt w v L) (hl : 0 < L.length) : ∃ b off cap, v = .slice (some ⟨b, off, none⟩) L.length cap ∧ RowAt w b off L := by
  obtain ⟨a, cap, rfl, h⟩ := h
  rcases h with h | ⟨b, off, rfl, hbs, hc⟩
  · rw [h] at hl; simp at hl
  · exact ⟨b, off, cap, rfl, hbs, hc⟩
theorem bnd_on {L : List Int} {k : Nat} (h : (nth L (k + 1) == 1585) = true) : bnd L (k + 1) = bnd L k := by
  show (if L.getD (k + 1) 0 == 1585 then bnd L k else _) = _
  rw [show (L.getD (k + 1) 0 == 1585) = true from h]; rfl
theorem bnd_end {L : List Int} {k : Nat} (h : (nth L (k + 1) == 1585) = false) : bnd L (k + 1) = (nth L (k + 1) == 1584) := by
  show (if L.getD (k + 1) 0 == 1585 then bnd L k else _) = _
  rw [if_neg (by rw [show (L.getD (k + 1) 0 == 1585) = false from h]; simp)]; rfl
set_option maxRecDepth 100000 in
set_option maxHeartbeats 1000000 in
theorem sBound (b off cap n : Nat) (L : List Int) (w : World) (hr : RowAt w b off L) (hL : L.length ≤ 65536) (hn : n < L.length) : Calls Tryz.prog 82 #[.slice (some ⟨b, off, none⟩) L.length cap, .int .i64 (n : Int)] w fun e w' => e = .returned (.bool (bnd L n)) ∧ w' = w := by
  have hb := hr.1
  have HR := hide hr.2
  clear hr
  go_enter Tryz.func82, Tryz.ntmps82
  go_wp2
  go_loop [1] (fun x => ∃ k : Nat, x = .int .i64 k ∧ k < L.length ∧ Hid (bnd L k = bnd L n)) (fun x => (intOf x).toNat)
  case atStart => exact ⟨n, rfl, hn, hide rfl⟩
  case round =>
    obtain ⟨k, rfl, hk, HK⟩ := hrel
    have hc := (unhide HR) k hk
    cases k with
    | zero =>
      have HE : Hid (bnd L n = (nth L 0 == 1584)) := hide (by rw [← unhide HK]; rfl)
      simp only [Nat.add_zero] at hc
      go_wp2
      go_ret
      exact ⟨by rw [unhide HE]; rfl, rfl⟩
    | succ k =>
      have hc0 := (unhide HR) k (by omega)
      cases he : (nth L (k + 1) == 1585)
      · have HE : Hid (bnd L n = (nth L (k + 1) == 1584)) := hide (by rw [← unhide HK]; exact bnd_end he)
        go_wp2
        go_ret
        exact ⟨by rw [unhide HE]; rfl, rfl⟩
      · have HE : Hid (bnd L k = bnd L n) := hide (by rw [← unhide HK]; exact (bnd_on he).symm)
        go_wp2
        go_round
        case rel => exact ⟨k, by go_num, by omega, HE⟩
        case measure => simp [intOf]
theorem fls_on {L : List Int} {k : Nat} (h : flg (nth L (k + 1)) = true) : fls L (k + 1) = fls L k + 1 := by
  show (if flg (L.getD (k + 1) 0) then fls L k + 1 else 0) = _
  rw [show flg (L.getD (k + 1) 0) = true from h]; rfl
theorem fls_end {L : List Int} {k : Nat} (h : flg (nth L k) = false) : fls L k = 0 := fls_flg L k h
theorem fls_zero {L : List Int} (h : flg (nth L 0) = true) : fls L 0 = 1 := by
  show (if flg (L.getD 0 0) then 1 else 0) = 1
  rw [show flg (L.getD 0 0) = true from h]; rfl
theorem fls_le (L : List Int) (k : Nat) : fls L k ≤ k + 1 := by
  induction k with
  | zero => unfold fls; split <;> omega
  | succ k ih => unfold fls; split <;> omega
set_option maxRecDepth 100000 in
set_option maxHeartbeats 1000000 in
theorem sFlags (b off cap n : Nat) (L : List Int) (w : World) (hr : RowAt w b off L) (hL : L.length ≤ 65536) (hn : n < L.length) : Calls Tryz.prog 84 #[.slice (some ⟨b, off, none⟩) L.length cap, .int .i64 (n : Int)] w fun e w' => e = .returned (.int .i64 (fls L n : Int)) ∧ w' = w := by
  have hb := hr.1
  have HR := hide hr.2
  clear hr
  have H0 : Hid (0 ≤ n ∧ fls L n = 0 + fls L (n - 0)) := hide ⟨by omega, by simp⟩
  go_enter Tryz.func84, Tryz.ntmps84
  go_wp2
  go_loop [5] (fun x => ∃ k : Nat, x = .int .i64 k ∧ k ≤ n + 1 ∧ Hid ((k ≤ n ∧ fls L n = k + fls L (n - k)) ∨ (k = n + 1 ∧ fls L n = n + 1))) (fun x => n + 1 - (intOf x).toNat)
  case atStart => exact ⟨0, rfl, by omega, hide (.inl (unhide H0))⟩
  case round =>
    obtain ⟨k, rfl, hk, HK⟩ := hrel
    clear H0
    by_cases hkn : k ≤ n
    · have hc := (unhide HR) (n - k) (by omega)
      have hsub : (n : Int) - (k : Int) = ((n - k : Nat) : Int) := by omega
      have HF : Hid (fls L n = k + fls L (n - k)) := hide (by rcases unhide HK with h | h; exact h.2; omega)
      clear HK
      have CF := hide (fun W => sFlag (nth L (n - k)) W)
      cases hf : flg (nth L (n - k))
      · rw [hf] at CF
        have HE : Hid (fls L n = k) := hide (by rw [unhide HF, fls_end hf]; rfl)
        go_wp2_with (go_at_call 83; refine ((unhide CF) _).mono ?_; rintro e w2 ⟨rfl, rfl⟩)
        go_ret
        exact ⟨by rw [unhide HE]; rfl, rfl⟩
      · rw [hf] at CF
        have HN : Hid ((k + 1 ≤ n ∧ fls L n = (k + 1) + fls L (n - (k + 1))) ∨ (k + 1 = n + 1 ∧ fls L n = n + 1)) := hide (by
          by_cases h : k < n
          · left
            refine ⟨h, ?_⟩
            rw [unhide HF]
            have e : n - k = (n - (k + 1)) + 1 := by omega
            rw [e] at hf ⊢
            rw [fls_on hf]; omega
          · right
            have e : k = n := by omega
            subst e
            rw [Nat.sub_self] at hf
            refine ⟨rfl, ?_⟩
            rw [unhide HF, Nat.sub_self, fls_zero hf])
        go_wp2_with (go_at_call 83; refine ((unhide CF) _).mono ?_; rintro e w2 ⟨rfl, rfl⟩)
        go_round
        case rel => exact ⟨k + 1, by go_num, by omega, HN⟩
        case measure => simp [intOf]; omega
    · have HE : Hid (fls L n = k) := hide (by rcases unhide HK with h | h <;> omega)
      have hge : ¬ 0 ≤ (n : Int) - (k : Int) := by omega
      go_wp2
      go_ret
      exact ⟨by rw [unhide HE]; rfl, rfl⟩
end Chr
end Go.Proofs.YtbaedapnikhdgaaGreatDoor
