/- Where points stand from the left; carets. -/
import Derived.Test.YtfnaclpkpjembaaBidL
namespace Go.Proofs.Ytfnaclpkpjembaa.Bd
open Go.RowKit
set_option linter.unusedVariables false
/-- The row of where points stand, after k of them. -/
def spo (O : List Int) (n : Nat) : Nat → List Int
  | 0 => List.replicate n 0
  | k + 1 => (spo O n k).set (nth O k).toNat (k : Int)
theorem spo_len (O : List Int) (n k : Nat) : (spo O n k).length = n := by
  induction k with
  | zero => simp [spo]
  | succ k ih => simp [spo, ih]
theorem spo_succ (O : List Int) (n k : Nat) : spo O n (k + 1) = (spo O n k).set (nth O k).toNat (k : Int) := rfl
/-- Where each point stands from the left. -/
def seenL (L : List Int) : List Int := spo (ordL L) L.length L.length
theorem seen_len (L : List Int) : (seenL L).length = L.length := spo_len _ _ _
theorem spo_bd (O : List Int) (n k m : Nat) (h : k ≤ m) (j : Nat) : 0 ≤ nth (spo O n k) j ∧ nth (spo O n k) j ≤ m := by
  induction k with
  | zero =>
    unfold spo nth List.getD
    by_cases hj : j < n
    · simp [hj]
    · simp [hj]
  | succ k ih =>
    rw [spo_succ]
    have i := ih (by omega)
    by_cases e : j = (nth O k).toNat ∧ j < (spo O n k).length
    · obtain ⟨e1, e2⟩ := e
      rw [nth_set _ _ _ _ (by rw [← e1]; exact e2), if_pos e1]
      omega
    · by_cases e3 : (nth O k).toNat < (spo O n k).length
      · rw [nth_set _ _ _ _ e3, if_neg (by intro h; exact e ⟨h, by omega⟩)]
        exact i
      · rw [List.set_eq_of_length_le (by omega)]
        exact i
theorem seen_bd (L : List Int) (j : Nat) : 0 ≤ nth (seenL L) j ∧ nth (seenL L) j ≤ L.length := spo_bd _ _ _ _ (Nat.le_refl _) j
/-- The point that a caret stands at. -/
def pnt (at' : Int) (ahead : Bool) : Int := if ahead then at' - 1 else at'
/-- The caret at a place. -/
def car (L : List Int) (base at' : Int) (ahead : Bool) : Int :=
  if pnt at' ahead < 0 then base * L.length else if (L.length : Int) ≤ pnt at' ahead then (1 - base) * L.length
  else if ahead = decide ((nth L (pnt at' ahead).toNat).tmod 2 = 0) then nth (seenL L) (pnt at' ahead).toNat + 1 else nth (seenL L) (pnt at' ahead).toNat
theorem car_low {L : List Int} {b a : Int} {h : Bool} (e : pnt a h < 0) : car L b a h = b * L.length := by unfold car; rw [if_pos e]
theorem car_top {L : List Int} {b a : Int} {h : Bool} (e : (L.length : Int) ≤ pnt a h) : car L b a h = (1 - b) * L.length := by unfold car; rw [if_neg (by omega), if_pos e]
theorem car_one {L : List Int} {b a : Int} {h : Bool} (e1 : ¬ pnt a h < 0) (e2 : ¬ (L.length : Int) ≤ pnt a h) (e : h = decide ((nth L (pnt a h).toNat).tmod 2 = 0)) : car L b a h = nth (seenL L) (pnt a h).toNat + 1 := by
  unfold car; rw [if_neg e1, if_neg e2, if_pos e]
theorem car_none {L : List Int} {b a : Int} {h : Bool} (e1 : ¬ pnt a h < 0) (e2 : ¬ (L.length : Int) ≤ pnt a h) (e : ¬ h = decide ((nth L (pnt a h).toNat).tmod 2 = 0)) : car L b a h = nth (seenL L) (pnt a h).toNat := by
  unfold car; rw [if_neg e1, if_neg e2, if_neg e]
/-- A slice value's numbers, read one by one. -/
theorem at_cells {w : World} {v : Value} {l : List Int} (h : IntsAt w v l) : ∃ a cap, v = .slice a l.length cap ∧ ∀ k, k < l.length → ∃ b off, a = some ⟨b, off, none⟩ ∧ b < w.heap.size ∧ w.cell? ⟨b, off + k, none⟩ = some (.int .i64 (nth l k)) := by
  obtain ⟨a, cap, rfl, h⟩ := h
  refine ⟨a, cap, rfl, fun k hk => ?_⟩
  rcases h with rfl | ⟨b, off, rfl, hb, hc⟩
  · simp at hk
  · exact ⟨b, off, rfl, hb, hc k hk⟩
theorem isOdd_any (x : Int) (w : World) (hx : 0 ≤ x ∧ x ≤ 20) : Calls Try.prog 33 #[.int .i64 x] w fun e w' => e = .returned (.bool (!decide (x.tmod 2 = 0))) ∧ w' = w := by
  rcases (show x.tmod 2 = 0 ∨ x.tmod 2 = 1 by rw [Int.tmod_eq_emod_of_nonneg hx.1]; omega) with e | e
  · go_enter Try.func33, Try.ntmps33
    go_wp2
    go_ret
    simp [e]
  · go_enter Try.func33, Try.ntmps33
    go_wp2
    go_ret
    simp [e]
set_option maxHeartbeats 2000000 in
set_option maxRecDepth 100000 in
theorem l09Caret_any (vl vs : Value) (L : List Int) (base at' : Int) (ahead : Bool) (w : World) (hL : IntsAt w vl L) (hS : IntsAt w vs (seenL L)) (hb : base = 0 ∨ base = 1) (ha : 0 ≤ at' ∧ at' ≤ L.length) (hl : L.length ≤ 1000) (hok : ∀ k, k < L.length → 0 ≤ nth L k ∧ nth L k ≤ 20) :
    Calls Try.prog 26 #[vl, vs, .int .i64 base, .int .i64 at', .bool ahead] w fun e w' => e = .returned (.int .i64 (car L base at' ahead)) ∧ w' = w := by
  obtain ⟨a1, c1, rfl, HL⟩ := at_cells hL
  obtain ⟨a2, c2, rfl, HS⟩ := at_cells hS
  rw [seen_len] at HS ⊢
  have HL := hide HL
  have HS := hide HS
  clear hL hS
  obtain ⟨p, hp⟩ : ∃ p, p = pnt at' ahead := ⟨_, rfl⟩
  have hpa : (ahead = true ∧ p = at' - 1) ∨ (ahead = false ∧ p = at') := by
    cases ahead
    · right; exact ⟨rfl, hp⟩
    · left; exact ⟨rfl, hp⟩
  by_cases e1 : p < 0
  · have R : Hid (car L base at' ahead = base * L.length) := hide (car_low (by rw [← hp]; exact e1))
    clear hp
    rcases hpa with ⟨rfl, rfl⟩ | ⟨rfl, rfl⟩
    · rcases hb with rfl | rfl
      · rw [unhide R]
        go_enter Try.func26, Try.ntmps26
        go_wp2
        go_ret
        simp
      · rw [unhide R]
        go_enter Try.func26, Try.ntmps26
        go_wp2
        go_ret
        simp
    · omega
  by_cases e2 : (L.length : Int) ≤ p
  · have R : Hid (car L base at' ahead = (1 - base) * L.length) := hide (car_top (by rw [← hp]; exact e2))
    clear hp
    rcases hpa with ⟨rfl, rfl⟩ | ⟨rfl, rfl⟩
    · omega
    · rcases hb with rfl | rfl
      · rw [unhide R]
        go_enter Try.func26, Try.ntmps26
        go_wp2
        go_ret
        simp
      · rw [unhide R]
        go_enter Try.func26, Try.ntmps26
        go_wp2
        go_ret
        simp
  obtain ⟨k, hk⟩ : ∃ k : Nat, p = (k : Int) := ⟨p.toNat, by omega⟩
  have hkn : k < L.length := by omega
  obtain ⟨b1, o1, rfl, _, d1⟩ := unhide HL k hkn
  obtain ⟨b2, o2, rfl, _, d2⟩ := unhide HS k hkn
  have hx := hok k hkn
  have hsb := seen_bd L k
  have hkn' : (k : Int) < (L.length : Int) := by omega
  have hkn2 : ¬ (L.length : Int) ≤ (k : Int) := by omega
  have hkk : (pnt at' ahead).toNat = k := by rw [← hp, hk]; rfl
  have hpar : (nth L k).tmod 2 = 0 ∨ (nth L k).tmod 2 = 1 := by rw [Int.tmod_eq_emod_of_nonneg hx.1]; omega
  have R1 : Hid (ahead = decide ((nth L k).tmod 2 = 0) → car L base at' ahead = nth (seenL L) k + 1) := hide (fun e => by rw [car_one (by rw [← hp]; exact e1) (by rw [← hp]; exact e2) (by rw [hkk]; exact e), hkk])
  have R2 : Hid (¬ ahead = decide ((nth L k).tmod 2 = 0) → car L base at' ahead = nth (seenL L) k) := hide (fun e => by rw [car_none (by rw [← hp]; exact e1) (by rw [← hp]; exact e2) (by rw [hkk]; exact e), hkk])
  clear hkk hp HL HS
  generalize nth L k = x at *
  generalize nth (seenL L) k = y at *
  rcases hpa with ⟨rfl, hat⟩ | ⟨rfl, hat⟩
  · obtain rfl : at' = (k : Int) + 1 := by omega
    clear hat hk e1 e2
    rcases hpar with q | q
    · have R := hide (unhide R1 (by rw [q]; rfl))
      go_enter Try.func26, Try.ntmps26
      go_wp2
      go_ret
      rw [unhide R]
      exact ⟨rfl, rfl⟩
    · have R := hide (unhide R2 (by rw [q]; simp))
      go_enter Try.func26, Try.ntmps26
      go_wp2
      go_ret
      rw [unhide R]
      exact ⟨rfl, rfl⟩
  · obtain rfl : at' = (k : Int) := by omega
    clear hat hk e1 e2
    rcases hpar with q | q
    · have R := hide (unhide R2 (by rw [q]; simp))
      go_enter Try.func26, Try.ntmps26
      go_wp2
      go_ret
      rw [unhide R]
      exact ⟨rfl, rfl⟩
    · have R := hide (unhide R1 (by rw [q]; simp))
      go_enter Try.func26, Try.ntmps26
      go_wp2
      go_ret
      rw [unhide R]
      exact ⟨rfl, rfl⟩
end Go.Proofs.Ytfnaclpkpjembaa.Bd
