/- The specification's l01Known answers as the plain numbers say. -/
import Derived.Test.YtbaedapnikhdgaaGreatDoorSpecB
namespace Go.Proofs.YtbaedapnikhdgaaGreatDoor
open Go.RowKit
theorem csd_length : csd.length = 7 := by decide
theorem spc_length : spc.length = 32 := by decide
theorem csd_cat0 : ((List.range 7).all fun i => decide (gC csd i ≠ 0)) = true := by decide +kernel
theorem csd_cat (i : Nat) (h : i < 7) : gC csd i ≠ 0 := by
  have := List.all_eq_true.1 csd_cat0 i (by simpa using h)
  simpa using this
/-- None of the first k rows has q. -/
def NoneOf (l : List (Int × Int × Int × Int)) (q : Int) (k : Nat) : Prop := ∀ i, i < k → ¬ (gA l i ≤ q ∧ q ≤ gB l i)
theorem NoneOf.succ {l : List (Int × Int × Int × Int)} {q : Int} {k : Nat} (h : NoneOf l q k) (hk : ¬ (gA l k ≤ q ∧ q ≤ gB l k)) : NoneOf l q (k + 1) := by
  intro i hi
  by_cases e : i = k
  · subst e; exact hk
  · exact h i (by omega)
theorem NoneOf.nil {l : List (Int × Int × Int × Int)} {q : Int} (h : NoneOf l q l.length) : find l q = Z4 := find_nil l q h
theorem NoneOf.at {l : List (Int × Int × Int × Int)} {q : Int} {k : Nat} (h : NoneOf l q k) (hk : k < l.length) (h1 : gA l k ≤ q) (h2 : q ≤ gB l k) : (find l q).2.2.1 = gC l k ∧ (find l q).2.2.2 = gD l k := by
  rw [find_at l q k hk h h1 h2]; exact ⟨rfl, rfl⟩
theorem known_cased (p : Int) (h1 : 512 ≤ p) (h2 : p < 1280) : known p = if (find csd (p % 256)).2.2.1 = 0 then (0, 0) else ((find csd (p % 256)).2.2.1, p / 256) := by
  unfold known; rw [if_pos ⟨h1, h2⟩]
theorem known_main (p : Int) (h1 : ¬ (512 ≤ p ∧ p < 1280)) (h2 : ¬ (8192 ≤ p ∧ p < 9728)) : known p = ((find spc p).2.2.1, (find spc p).2.2.2) := by
  unfold known; rw [if_neg h1, if_neg h2]
theorem ret_two {a b c d : Int} (h1 : a = c) (h2 : b = d) : Ending.returned (.tuple #[.int .i64 a, .int .i64 b]) = .returned (.tuple #[.int .i64 c, .int .i64 d]) := by rw [h1, h2]
set_option maxHeartbeats 1000000 in
theorem known_A (p : Int) (w : World) (h1 : 512 ≤ p) (h2 : p < 1280) : Calls Tryz.prog 85 #[.int .i64 p] w fun e w' =>
    e = .returned (.tuple #[.int .i64 (known p).1, .int .i64 (known p).2]) ∧ Below w.heap.size w w' := by
  go_enter Tryz.func85, Tryz.ntmps85
  go_wp2_with (go_at_call 95; refine (cased_any _).mono ?_; rintro e w' ⟨rfl, hb, hs, hr, _⟩)
  have HB := hide hb
  have HR := hide hr
  clear hb hr
  go_loop [5] (fun i => ∃ k : Nat, k ≤ 7 ∧ i = .int .i64 k ∧ Hid (NoneOf csd (p % 256) k)) (fun i => 7 - (intOf i).toNat)
  case atStart => exact ⟨0, by omega, rfl, hide (fun i hi => by omega)⟩
  case round =>
    obtain ⟨k, hk, rfl, HN⟩ := hrel
    by_cases hlt : k < 7
    · obtain ⟨k0, k1, k2, _⟩ := (unhide HR) k (by rw [csd_length]; exact hlt)
      by_cases t1 : gA csd k ≤ p % 256
      · by_cases t2 : p % 256 ≤ gB csd k
        · have HE := hide ((unhide HN).at (by rw [csd_length]; exact hlt) t1 t2).1
          go_wp2
          go_ret2
          have e := unhide HE
          have n := csd_cat k hlt
          exact ⟨ret_two (by rw [known_cased p h1 h2, e, if_neg n]) (by rw [known_cased p h1 h2, e, if_neg n]), unhide HB⟩
        · have HN' := hide ((unhide HN).succ (k := k) (by omega))
          clear HN
          go_wp2
          go_round
          case rel => exact ⟨k + 1, by omega, by go_num, HN'⟩
          case measure => simp [intOf]; omega
      · have HN' := hide ((unhide HN).succ (k := k) (by omega))
        clear HN
        go_wp2
        go_round
        case rel => exact ⟨k + 1, by omega, by go_num, HN'⟩
        case measure => simp [intOf]; omega
    · obtain rfl : k = 7 := by omega
      have HE := hide (NoneOf.nil (l := csd) (by rw [csd_length]; exact unhide HN))
      go_wp2
      go_ret2
      have e := unhide HE
      exact ⟨ret_two (by rw [known_cased p h1 h2, e]; rfl) (by rw [known_cased p h1 h2, e]; rfl), unhide HB⟩
set_option maxHeartbeats 400000 in
theorem known_B (p : Int) (w : World) (h1 : 8192 ≤ p) (h2 : p < 9728) : Calls Tryz.prog 85 #[.int .i64 p] w fun e w' =>
    e = .returned (.tuple #[.int .i64 (known p).1, .int .i64 (known p).2]) ∧ Below w.heap.size w w' := by
  have hk : known p = if 416 ≤ p % 512 then (0, 0) else if p % 512 < 208 then (4, 1) else (5, 1) := by
    unfold known; rw [if_neg (by omega), if_pos ⟨h1, h2⟩]
  have HK := hide hk
  clear hk
  have n1 : 512 ≤ p := by omega
  have n2 : ¬ p < 1280 := by omega
  by_cases c1 : 416 ≤ p % 512
  · go_enter Tryz.func85, Tryz.ntmps85
    go_wp2
    go_ret2
    exact ⟨ret_two (by rw [unhide HK, if_pos c1]) (by rw [unhide HK, if_pos c1]), Below.refl _ _⟩
  · by_cases c2 : p % 512 < 208
    · go_enter Tryz.func85, Tryz.ntmps85
      go_wp2
      go_ret2
      exact ⟨ret_two (by rw [unhide HK, if_neg (by omega), if_pos c2]) (by rw [unhide HK, if_neg (by omega), if_pos c2]), Below.refl _ _⟩
    · go_enter Tryz.func85, Tryz.ntmps85
      go_wp2
      go_ret2
      exact ⟨ret_two (by rw [unhide HK, if_neg (by omega), if_neg (by omega)]) (by rw [unhide HK, if_neg (by omega), if_neg (by omega)]), Below.refl _ _⟩
set_option maxHeartbeats 1000000 in
theorem known_C1 (p : Int) (w : World) (h1 : p < 512) : Calls Tryz.prog 85 #[.int .i64 p] w fun e w' =>
    e = .returned (.tuple #[.int .i64 (known p).1, .int .i64 (known p).2]) ∧ Below w.heap.size w w' := by
  have HK := hide (known_main p (by omega) (by omega))
  go_enter Tryz.func85, Tryz.ntmps85
  go_wp2_with (go_at_call 96; refine (rows_any _).mono ?_; rintro e w' ⟨rfl, hb, hs, hr, _⟩)
  have HB := hide hb
  have HR := hide hr
  clear hb hr
  go_loop [8] (fun i => ∃ k : Nat, k ≤ 32 ∧ i = .int .i64 k ∧ Hid (NoneOf spc p k)) (fun i => 32 - (intOf i).toNat)
  case atStart => exact ⟨0, by omega, rfl, hide (fun i hi => by omega)⟩
  case round =>
    obtain ⟨k, hk, rfl, HN⟩ := hrel
    by_cases hlt : k < 32
    · obtain ⟨k0, k1, k2, k3⟩ := (unhide HR) k (by rw [spc_length]; exact hlt)
      by_cases t1 : gA spc k ≤ p
      · by_cases t2 : p ≤ gB spc k
        · have HE := hide ((unhide HN).at (by rw [spc_length]; exact hlt) t1 t2)
          go_wp2
          go_quiet (fail)
          go_wp2
          go_ret2
          have e := unhide HE
          exact ⟨ret_two (by rw [unhide HK]; exact e.1.symm) (by rw [unhide HK]; exact e.2.symm), bdrew (unhide HB) _⟩
        · have HN' := hide ((unhide HN).succ (k := k) (by omega))
          clear HN
          go_wp2
          go_round
          case rel => exact ⟨k + 1, by omega, by go_num, HN'⟩
          case measure => simp [intOf]; omega
      · have HN' := hide ((unhide HN).succ (k := k) (by omega))
        clear HN
        go_wp2
        go_round
        case rel => exact ⟨k + 1, by omega, by go_num, HN'⟩
        case measure => simp [intOf]; omega
    · obtain rfl : k = 32 := by omega
      have HE := hide (NoneOf.nil (l := spc) (by rw [spc_length]; exact unhide HN))
      go_wp2
      go_ret2
      have e := unhide HE
      exact ⟨ret_two (by rw [unhide HK, e]; rfl) (by rw [unhide HK, e]; rfl), unhide HB⟩
set_option maxHeartbeats 1000000 in
theorem known_C2 (p : Int) (w : World) (h1 : 1280 ≤ p) (h2 : p < 8192) : Calls Tryz.prog 85 #[.int .i64 p] w fun e w' =>
    e = .returned (.tuple #[.int .i64 (known p).1, .int .i64 (known p).2]) ∧ Below w.heap.size w w' := by
  have n1 : 512 ≤ p := by omega
  have HK := hide (known_main p (by omega) (by omega))
  go_enter Tryz.func85, Tryz.ntmps85
  go_wp2_with (go_at_call 96; refine (rows_any _).mono ?_; rintro e w' ⟨rfl, hb, hs, hr, _⟩)
  have HB := hide hb
  have HR := hide hr
  clear hb hr
  go_loop [8] (fun i => ∃ k : Nat, k ≤ 32 ∧ i = .int .i64 k ∧ Hid (NoneOf spc p k)) (fun i => 32 - (intOf i).toNat)
  case atStart => exact ⟨0, by omega, rfl, hide (fun i hi => by omega)⟩
  case round =>
    obtain ⟨k, hk, rfl, HN⟩ := hrel
    by_cases hlt : k < 32
    · obtain ⟨k0, k1, k2, k3⟩ := (unhide HR) k (by rw [spc_length]; exact hlt)
      by_cases t1 : gA spc k ≤ p
      · by_cases t2 : p ≤ gB spc k
        · have HE := hide ((unhide HN).at (by rw [spc_length]; exact hlt) t1 t2)
          go_wp2
          go_quiet (fail)
          go_wp2
          go_ret2
          have e := unhide HE
          exact ⟨ret_two (by rw [unhide HK]; exact e.1.symm) (by rw [unhide HK]; exact e.2.symm), bdrew (unhide HB) _⟩
        · have HN' := hide ((unhide HN).succ (k := k) (by omega))
          clear HN
          go_wp2
          go_round
          case rel => exact ⟨k + 1, by omega, by go_num, HN'⟩
          case measure => simp [intOf]; omega
      · have HN' := hide ((unhide HN).succ (k := k) (by omega))
        clear HN
        go_wp2
        go_round
        case rel => exact ⟨k + 1, by omega, by go_num, HN'⟩
        case measure => simp [intOf]; omega
    · obtain rfl : k = 32 := by omega
      have HE := hide (NoneOf.nil (l := spc) (by rw [spc_length]; exact unhide HN))
      go_wp2
      go_ret2
      have e := unhide HE
      exact ⟨ret_two (by rw [unhide HK, e]; rfl) (by rw [unhide HK, e]; rfl), unhide HB⟩
set_option maxHeartbeats 1000000 in
theorem known_C3 (p : Int) (w : World) (h1 : 9728 ≤ p) : Calls Tryz.prog 85 #[.int .i64 p] w fun e w' =>
    e = .returned (.tuple #[.int .i64 (known p).1, .int .i64 (known p).2]) ∧ Below w.heap.size w w' := by
  have n1 : 512 ≤ p := by omega
  have n2 : 1280 ≤ p := by omega
  have n3 : 8192 ≤ p := by omega
  have HK := hide (known_main p (by omega) (by omega))
  go_enter Tryz.func85, Tryz.ntmps85
  go_wp2_with (go_at_call 96; refine (rows_any _).mono ?_; rintro e w' ⟨rfl, hb, hs, hr, _⟩)
  have HB := hide hb
  have HR := hide hr
  clear hb hr
  go_loop [8] (fun i => ∃ k : Nat, k ≤ 32 ∧ i = .int .i64 k ∧ Hid (NoneOf spc p k)) (fun i => 32 - (intOf i).toNat)
  case atStart => exact ⟨0, by omega, rfl, hide (fun i hi => by omega)⟩
  case round =>
    obtain ⟨k, hk, rfl, HN⟩ := hrel
    by_cases hlt : k < 32
    · obtain ⟨k0, k1, k2, k3⟩ := (unhide HR) k (by rw [spc_length]; exact hlt)
      by_cases t1 : gA spc k ≤ p
      · by_cases t2 : p ≤ gB spc k
        · have HE := hide ((unhide HN).at (by rw [spc_length]; exact hlt) t1 t2)
          go_wp2
          go_quiet (fail)
          go_wp2
          go_ret2
          have e := unhide HE
          exact ⟨ret_two (by rw [unhide HK]; exact e.1.symm) (by rw [unhide HK]; exact e.2.symm), bdrew (unhide HB) _⟩
        · have HN' := hide ((unhide HN).succ (k := k) (by omega))
          clear HN
          go_wp2
          go_round
          case rel => exact ⟨k + 1, by omega, by go_num, HN'⟩
          case measure => simp [intOf]; omega
      · have HN' := hide ((unhide HN).succ (k := k) (by omega))
        clear HN
        go_wp2
        go_round
        case rel => exact ⟨k + 1, by omega, by go_num, HN'⟩
        case measure => simp [intOf]; omega
    · obtain rfl : k = 32 := by omega
      have HE := hide (NoneOf.nil (l := spc) (by rw [spc_length]; exact unhide HN))
      go_wp2
      go_ret2
      have e := unhide HE
      exact ⟨ret_two (by rw [unhide HK, e]; rfl) (by rw [unhide HK, e]; rfl), unhide HB⟩
theorem known_any (p : Int) (w : World) : Calls Tryz.prog 85 #[.int .i64 p] w fun e w' =>
    e = .returned (.tuple #[.int .i64 (known p).1, .int .i64 (known p).2]) ∧ Below w.heap.size w w' := by
  by_cases h1 : p < 512
  · exact known_C1 p w h1
  by_cases h2 : p < 1280
  · exact known_A p w (by omega) h2
  by_cases h3 : p < 8192
  · exact known_C2 p w (by omega) h3
  by_cases h4 : p < 9728
  · exact known_B p w (by omega) h4
  exact known_C3 p w (by omega)
end Go.Proofs.YtbaedapnikhdgaaGreatDoor
