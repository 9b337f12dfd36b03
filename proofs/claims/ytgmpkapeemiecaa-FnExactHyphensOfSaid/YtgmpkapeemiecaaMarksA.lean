/- Marks written into a slice that the call owns, and found there again. -/
import Derived.Test.YtgmpkapeemiecaaIntA
namespace Go.Proofs.Ytgmpkapeemiecaa
open Go.RowKit
/-- c, c + 1, .. in the first k places of l. -/
def markL (l : List Int) (c : Int) (k : Nat) : List Int := (List.range k).map (fun i : Nat => c + (i : Int)) ++ l.drop k
theorem markL_zero (l : List Int) (c : Int) : markL l c 0 = l := by simp [markL]
theorem markL_length (l : List Int) (c : Int) (k : Nat) (h : k ≤ l.length) : (markL l c k).length = l.length := by simp [markL]; omega
theorem markL_set (l : List Int) (c : Int) (k : Nat) (h : k < l.length) (f : Int → Value) : ((markL l c k).map f).set k (f (c + k)) = (markL l c (k + 1)).map f := by
  rw [← List.map_set]
  congr 1
  unfold markL
  have hk : ((List.range k).map (fun i : Nat => c + (i : Int))).length = k := by simp
  rw [List.set_append_right _ _ (by omega), hk, Nat.sub_self, List.drop_eq_getElem_cons h, List.set_cons_zero, List.range_succ, List.map_append, List.append_assoc]
  rfl
theorem markL_all (l : List Int) (c : Int) : markL l c l.length = (List.range l.length).map (fun i : Nat => c + (i : Int)) := by simp [markL]
def seqL (c : Int) (n : Nat) : List Int := (List.range n).map (fun i : Nat => c + (i : Int))
theorem seqL_length (c : Int) (n : Nat) : (seqL c n).length = n := by simp [seqL]
theorem nth_seqL (c : Int) (n k : Nat) (h : k < n) : nth (seqL c n) k = c + k := by simp [nth, seqL, List.getD, h]
theorem owned_slice {w : World} {base : Nat} {e : TypeId} {v : Value} {n : Nat} {xs : List Value} (h : w.ownsRow base e 1 v n xs) (hn : 0 < n) : ∃ g cap, v = .slice (some ⟨g, 0, none⟩) n cap ∧ base ≤ g := by
  rcases h.2 with ⟨_, h0⟩ | ⟨g, cap, cur, hv, hg, _⟩
  · omega
  · exact ⟨g, cap, hv, hg⟩
theorem owned_nil {w : World} {base : Nat} {e : TypeId} {v : Value} {n : Nat} {xs : List Value} (h : w.ownsRow base e 1 v n xs) : ∃ a cap, v = .slice a n cap := by
  rcases h.2 with ⟨hv, h0⟩ | ⟨g, cap, cur, hv, hg, _⟩
  · subst h0; exact ⟨_, _, hv⟩
  · exact ⟨_, _, hv⟩
set_option maxHeartbeats 1000000 in
theorem mark_atA (base g cap : Nat) (l : List Int) (c : Int) (w : World) (hl : l.length ≤ 1048576) (hc0 : 0 ≤ c) (hc1 : c ≤ 1048576) (hbg : base ≤ g)
    (h : w.ownsRow base 2 1 (.slice (some ⟨g, 0, none⟩) l.length cap) l.length (l.map (Value.int .i64))) :
    Calls Try.prog 15 #[.slice (some ⟨g, 0, none⟩) l.length cap, .int .i64 c] w fun e w' => e = .returned (.int .i64 (c + l.length)) ∧
      w'.ownsRow base 2 1 (.slice (some ⟨g, 0, none⟩) l.length cap) l.length ((seqL c l.length).map (Value.int .i64)) ∧ Below base w w' := by
  have H := hide h
  clear h
  go_enter Try.func15, Try.ntmps15
  go_wp2
  go_loopw [1, 5] (fun m i wr => ∃ k : Nat, k ≤ l.length ∧ i = .int .i64 k ∧ m = .int .i64 (c + k) ∧ Hid (wr.ownsRow base 2 1 (.slice (some ⟨g, 0, none⟩) l.length cap) l.length ((markL l c k).map (Value.int .i64))) ∧ Hid (Below base w wr)) (fun _ i _ => l.length - (intOf i).toNat)
  case atStart => exact ⟨0, Nat.zero_le _, rfl, by simp, hide (by rw [markL_zero]; exact unhide H), hide (Below.refl _ _)⟩
  case round =>
    obtain ⟨k, hk, rfl, rfl, HO, HB⟩ := hrel
    clear H
    by_cases hlt : k < l.length
    · have c2 := (unhide HO).cellAt k (by omega)
      rw [List.getElem?_eq_getElem (by simp [markL_length l c k hk]; omega)] at c2
      have c3 := (unhide HO).frozenAt k
      have hst := (unhide HO).stored k (.int .i64 (c + k))
      rw [markL_set l c k hlt] at hst
      have HO' := hide hst.1
      have HB' := hide ((unhide HB).setCell (p := ⟨g, k, none⟩) hbg (.int .i64 (c + k)))
      clear hst
      go_wp2
      go_roundw
      case rel => exact ⟨k + 1, by omega, by go_num, by go_num, HO', HB'⟩
      case measure => simp [intOf]; omega
    · obtain rfl : k = l.length := by omega
      go_wp2
      go_ret
      have ho := unhide HO
      rw [markL_all] at ho
      exact ⟨rfl, ho, unhide HB⟩
set_option maxHeartbeats 1000000 in
theorem mark_nilA (base : Nat) (a : Option Addr) (cap : Nat) (l : List Int) (c : Int) (w : World) (h0 : l.length = 0)
    (h : w.ownsRow base 2 1 (.slice a l.length cap) l.length (l.map (Value.int .i64))) :
    Calls Try.prog 15 #[.slice a l.length cap, .int .i64 c] w fun e w' => e = .returned (.int .i64 (c + l.length)) ∧
      w'.ownsRow base 2 1 (.slice a l.length cap) l.length ((seqL c l.length).map (Value.int .i64)) ∧ Below base w w' := by
  have H := hide h
  obtain rfl : l = [] := List.length_eq_zero_iff.1 h0
  clear h h0
  go_enter Try.func15, Try.ntmps15
  go_wp2
  refine wp_loop_rounds 1 ?_
  rw [rounds_succ]
  go_wp2
  go_ret
  exact ⟨by simp, unhide H, Below.refl _ _⟩
theorem mark_anyA (base : Nat) (v : Value) (l : List Int) (c : Int) (w : World) (hl : l.length ≤ 1048576) (hc0 : 0 ≤ c) (hc1 : c ≤ 1048576) (h : w.ownsRow base 2 1 v l.length (l.map (Value.int .i64))) :
    Calls Try.prog 15 #[v, .int .i64 c] w fun e w' => e = .returned (.int .i64 (c + l.length)) ∧ w'.ownsRow base 2 1 v l.length ((seqL c l.length).map (Value.int .i64)) ∧ Below base w w' := by
  by_cases h0 : l.length = 0
  · obtain ⟨a, cap, rfl⟩ := owned_nil h
    exact mark_nilA base a cap l c w h0 h
  · obtain ⟨g, cap, rfl, hg⟩ := owned_slice h (by omega)
    exact mark_atA base g cap l c w hl hc0 hc1 hg h
set_option maxHeartbeats 1000000 in
theorem held_atA (b off cap n : Nat) (c : Int) (w : World) (hl : n ≤ 1048576) (hc0 : 0 ≤ c) (hc1 : c ≤ 1048576) (hc : ∀ i, i < n → w.cell? ⟨b, off + i, none⟩ = some (.int .i64 (c + i))) :
    Calls Try.prog 16 #[.slice (some ⟨b, off, none⟩) n cap, .int .i64 c] w fun e w' => e = .returned (.int .i64 (c + n)) ∧ w' = w := by
  have HC := hide hc
  clear hc
  go_enter Try.func16, Try.ntmps16
  go_wp2
  go_loop [1, 5] (fun m i => ∃ k : Nat, k ≤ n ∧ i = .int .i64 k ∧ m = .int .i64 (c + k)) (fun _ i => n - (intOf i).toNat)
  case atStart => exact ⟨0, Nat.zero_le _, rfl, by simp⟩
  case round =>
    obtain ⟨k, hk, rfl, rfl⟩ := hrel
    by_cases hlt : k < n
    · have c1 := (unhide HC) k hlt
      have hne : (c + (k : Int) != c + (k : Int)) = false := by simp
      go_wp2
      go_round
      case rel => exact ⟨k + 1, by omega, by go_num, by go_num⟩
      case measure => simp [intOf]; omega
    · obtain rfl : k = n := by omega
      go_wp2
      go_ret
      exact ⟨rfl, rfl⟩
set_option maxHeartbeats 1000000 in
theorem held_nilA (a : Option Addr) (cap : Nat) (c : Int) (w : World) :
    Calls Try.prog 16 #[.slice a 0 cap, .int .i64 c] w fun e w' => e = .returned (.int .i64 c) ∧ w' = w := by
  go_enter Try.func16, Try.ntmps16
  go_wp2
  refine wp_loop_rounds 1 ?_
  rw [rounds_succ]
  go_wp2
  go_ret
  exact ⟨rfl, rfl⟩
theorem held_anyA (v : Value) (n : Nat) (c : Int) (w : World) (hl : n ≤ 1048576) (hc0 : 0 ≤ c) (hc1 : c ≤ 1048576) (h : IntsAt w v (seqL c n)) :
    Calls Try.prog 16 #[v, .int .i64 c] w fun e w' => e = .returned (.int .i64 (c + n)) ∧ w' = w := by
  obtain ⟨a, cap, hv, h⟩ := h
  rw [seqL_length] at hv h
  subst hv
  rcases h with h | ⟨b, off, rfl, _, hc⟩
  · obtain rfl : n = 0 := by have := congrArg List.length h; simpa [seqL] using this
    refine (held_nilA a cap c w).mono fun e w' ⟨he, hw⟩ => ⟨by rw [he]; simp, hw⟩
  · exact held_atA b off cap n c w hl hc0 hc1 (fun i hi => by rw [← nth_seqL c n i hi]; exact hc i hi)
end Go.Proofs.Ytgmpkapeemiecaa
