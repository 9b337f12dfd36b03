/- Values of all points by spans: the program. -/
import Derived.Test.YtnfdkcphmolkiaaVlsL
import Derived.Laws.CopyOwn
import Derived.Deep.RegionLaw
namespace Go.Proofs.Ytnfdkcphmolkiaa
open Go.RowKit
theorem mul64_c (w : World) : Calls Try.prog 118 #[.int .u64 1, .int .u64 32768] w fun e w' => e = .returned (.tuple #[.int .u64 0, .int .u64 32768]) ∧ w' = w := by
  go_enter Try.func118, Try.ntmps118
  go_wp2
  refine bodyPost_ret (v := .tuple #[.int .u64 0, .int .u64 32768]) (by kernel_rfl) rfl ?_
  exact ⟨rfl, rfl⟩
theorem mul_c (w : World) : Calls Try.prog 99 #[.int .u64 1, .int .u64 32768] w fun e w' => e = .returned (.tuple #[.int .u64 0, .int .u64 32768]) ∧ w' = w := by
  go_enter Try.func99, Try.ntmps99
  go_wp2_with fail
  refine (mul64_c w).mono ?_
  rintro e w' ⟨rfl, rfl⟩
  go_wp2
  refine bodyPost_ret (v := .tuple #[.int .u64 0, .int .u64 32768]) (by kernel_rfl) rfl ?_
  exact ⟨rfl, rfl⟩
/-- The row while it is filled: n of it are. -/
def halfL (o : Int) (n : Nat) : List Value := List.replicate n (.int .i64 o) ++ List.replicate (32768 - n) (.int .i64 0)
theorem halfL_len (o : Int) (n : Nat) (h : n ≤ 32768) : (halfL o n).length = 32768 := by simp [halfL]; omega
theorem halfL_splice (o : Int) (n m : Nat) (_ : n + m ≤ 32768) : splice (halfL o n) n (List.replicate m (.int .i64 o)) = halfL o (n + m) := by
  unfold splice halfL
  have e1 : (List.replicate n (Value.int .i64 o)).length = n := by simp
  rw [List.take_append_of_le_length (by omega), List.take_of_length_le (by omega), List.drop_append, List.drop_eq_nil_of_le (by simp)]
  simp
  rw [← List.append_assoc, List.replicate_append_replicate]
  congr 2
  omega
theorem halfL_full (o : Int) : halfL o 32768 = (tabF 32768 (fun _ => o)).map (Value.int .i64) := by
  rw [tabF_replicate, List.map_replicate]
  unfold halfL
  rw [Nat.sub_self, List.replicate_zero, List.append_nil]
theorem rep_one (o : Int) (m : Nat) : ∀ v ∈ List.replicate m (Value.int .i64 o), v.oneCell' = true := by
  intro v hv
  rw [(List.mem_replicate.1 hv).2]
  rfl
theorem half_cell {w : World} {g n : Nat} {o : Int} (hg : w.heap[g]? = some (.cells (halfL o n).toArray 2 (0, 0))) (m : Nat) (hm : m ≤ n) : ∀ j v, (List.replicate m (Value.int .i64 o))[j]? = some v → w.cell? ((⟨g, 0, none⟩ : Addr).add j) = some v := by
  intro j v hj
  rw [List.getElem?_replicate] at hj
  split at hj
  · rename_i hjm
    injection hj with hj
    subst hj
    have : (⟨g, 0, none⟩ : Addr).add j = ⟨g, j, none⟩ := by unfold Addr.add; split <;> simp_all
    rw [this]
    simp only [World.cell?, hg]
    unfold halfL
    have hl : j < (List.replicate n (Value.int .i64 o)).length := by simp; omega
    simp [List.getElem?_append_left hl, show j < n by omega]
  · cases hj
theorem one_src {w : World} {g0 : Nat} {o : Int} (h : w.cell? ⟨g0, 0, none⟩ = some (.int .i64 o)) : ∀ j v, (List.replicate 1 (Value.int .i64 o))[j]? = some v → w.cell? ((⟨g0, 0, none⟩ : Addr).add j) = some v := by
  intro j v hj
  match j, hj with
  | 0, hj => simp at hj; subst hj; simpa [Addr.add] using h
  | (j + 1), hj => simp at hj
theorem bdrewB {B : Nat} {a w : World} (h : Below B a w) : Below B a w.drew := h.trans ⟨rfl, rfl, rfl, Nat.le_refl _, fun _ _ => rfl⟩
theorem heap_of_own {w : World} {B g n : Nat} {xs : List Value} (h : w.ownsRow B 2 1 (.slice (some ⟨g, 0, none⟩) n n) n xs) : w.heap[g]? = some (.cells xs.toArray 2 (0, 0)) := by
  rcases h.2 with ⟨hv, _⟩ | ⟨g', cap, cur, hv, _, hh, _, _, hs, ht⟩
  · cases hv
  · simp only [Value.slice.injEq, Option.some.injEq, Addr.mk.injEq] at hv
    obtain ⟨⟨rfl, _⟩, _, rfl⟩ := hv
    rw [List.take_of_length_le (by simp; omega)] at ht
    rw [hh, ← ht]
theorem own_of_heap {w : World} {g n : Nat} {xs : List Value} (h : w.heap[g]? = some (.cells xs.toArray 2 (0, 0))) (hn : xs.length = n) (hm : n ≤ maxLen) : w.ownsRow g 2 1 (.slice (some ⟨g, 0, none⟩) n n) n xs := by
  refine ⟨by omega, .inr ⟨g, n, xs.toArray, rfl, Nat.le_refl _, h, Nat.le_refl _, hm, by simp; omega, ?_⟩⟩
  rw [List.take_of_length_le (by simp; omega)]
set_option maxHeartbeats 2000000 in
set_option maxRecDepth 100000 in
theorem repeat_any (g0 : Nat) (o : Int) (w : World) (hc : w.cell? ⟨g0, 0, none⟩ = some (.int .i64 o)) :
    Calls Try.prog 82 #[.slice (some ⟨g0, 0, none⟩) 1 1, .int .i64 32768] w fun e w' => e = .returned (.slice (some ⟨w.heap.size, 0, none⟩) 32768 32768) ∧ VRow w' w.heap.size (fun _ => o) ∧ Below w.heap.size w w' := by
  obtain ⟨i0, hi, hz0, hz1, hz2⟩ := info_parts info2
  have hsz : (Try.prog.info? 2).map (·.size) = some 1 := by kernel_rfl
  have hgl : g0 < w.heap.size := block_lt_of_cell (a := ⟨g0, 0, none⟩) hc
  have HC := hide hc
  clear hc
  go_enter Try.func82, Try.ntmps82
  go_wp2_with fail
  refine (mul_c _).mono ?_
  rintro e w' ⟨rfl, rfl⟩
  go_wp2_with (at_make; refine wpList_make_full _ rfl _ _ 24 rfl w'.heap.size 2 i0 (.int .i64 0) 1 Try.underlying24 hi hz0 hz1 .i64 .i64 _ _ 32768 rfl rfl rfl rfl ?b2 ?b3 ?b4 ?_)
  case b2 => rw [hz2]; omega
  case b3 => unfold maxLen; omega
  case b4 => omega
  intro w1 hown hgrow
  have hh : w1.heap[w'.heap.size]? = some (.cells (halfL o 0).toArray 2 (0, 0)) := by
    rw [toList_madeCells_one] at hown
    have := heap_of_own hown
    rw [this]
    unfold halfL
    rw [List.replicate_zero, List.nil_append, Nat.sub_zero]
  have H0 := hide hh
  have B0 := hide (made_below hgrow)
  have d0 : w1.cell? ⟨g0, 0, none⟩ = some (.int .i64 o) := ((unhide B0).cell (p := ⟨g0, 0, none⟩) hgl).trans (unhide HC)
  have D0 := hide d0
  clear hown hgrow hh d0
  go_upto_region 7 with fail
  go_wp2_with (refine wpList_copy_splice rfl _ _ 24 24 rfl 2 Try.underlying24 hsz (some ⟨w'.heap.size, 0, none⟩) (some ⟨g0, 0, none⟩) 32768 32768 1 1 rfl rfl w'.heap.size 0 (halfL o 0) 2 (unhide H0) (List.replicate 1 (.int .i64 o)) rfl (fun _ => ⟨rfl, ⟨g0, 0, none⟩, rfl, one_src (unhide D0)⟩) (by rw [halfL_len o 0 (by omega)]; simp) (rep_one _ _) w'.heap.size w' (unhide B0) (Nat.le_refl _) ?_)
  intro w2 hg2 hb2
  have H1 : Hid (w2.heap[w'.heap.size]? = some (.cells (halfL o 1).toArray 2 (0, 0))) := hide (by have := unhide hg2; rw [show [Value.int .i64 o] = List.replicate 1 (Value.int .i64 o) from rfl, halfL_splice o 0 1 (by omega)] at this; exact this)
  have B1 := hide hb2
  clear hg2 hb2 H0 B0
  go_wp2
  go_loopw [8] (fun nv wr => ∃ n : Nat, 1 ≤ n ∧ n ≤ 32768 ∧ nv = .int .i64 n ∧ Hid (wr.heap[w'.heap.size]? = some (.cells (halfL o n).toArray 2 (0, 0))) ∧ Hid (Below w'.heap.size w' wr)) (fun n _ => 32768 - (intOf n).toNat)
  case atStart => exact ⟨1, by omega, by omega, rfl, H1, B1⟩
  case round =>
    obtain ⟨n, hn1, hn2, rfl, HH, HB⟩ := hrel
    clear H1 B1
    by_cases hlt : n < 32768
    · have hlt' : (n : Int) < 32768 := by omega
      have hne : ¬ (32768 : Nat) = n := by omega
      have hle : (n : Int) ≤ 32768 := by omega
      obtain ⟨m, hm⟩ : ∃ m, m = Nat.min n (32768 - n) := ⟨_, rfl⟩
      have hm1 : 1 ≤ m ∧ m ≤ n ∧ n + m ≤ 32768 := by
        have h0 : m = if n ≤ 32768 - n then n else 32768 - n := by rw [hm]; rfl
        rw [h0]
        split <;> omega
      obtain ⟨hm1, hm2, hm3⟩ := hm1
      have HM : Hid ((List.replicate m (Value.int .i64 o)).length = Nat.min n (32768 - n)) := hide (by rw [List.length_replicate]; exact hm)
      have HS := hide (halfL_splice o n m hm3)
      have hw1 : IntKind.i64.wrap ((n : Int) + (m : Int)) = (n : Int) + (m : Int) := wrap_in _ (by omega) (by omega)
      have hfit : n + (List.replicate m (Value.int .i64 o)).length ≤ (halfL o n).length := by rw [List.length_replicate, halfL_len o n hn2]; exact hm3
      clear hm
      go_upto_region 9 with fail
      go_region_law (refine step_copy_splice (by rfl) (.tmp 41) (.tmp 44) 24 24 (by rfl) 2 Try.underlying24 hsz (some ⟨w'.heap.size, n, none⟩) (some ⟨w'.heap.size, 0, none⟩) (32768 - n) (32768 - n) n 32768 (by simp [Act.eval, Act.put]) (by simp [Act.eval, Act.put]) w'.heap.size n (halfL o n) 2 (unhide HH) (List.replicate m (.int .i64 o)) (unhide HM) (fun _ => ⟨rfl, ⟨w'.heap.size, 0, none⟩, rfl, half_cell (unhide HH) m hm2⟩) hfit (rep_one _ _) w'.heap.size w' (by first | exact unhide HB | exact bdrewB (unhide HB)) (Nat.le_refl _) ?_; intro w4 hg4 hb4; have H4 : Hid (w4.heap[w'.heap.size]? = some (.cells (halfL o (n + m)).toArray 2 (0, 0))) := hide (by have := unhide hg4; rw [unhide HS] at this; exact this); have B4 := hide hb4; clear hg4 hb4)
      all_goals
        simp only [Act.put, List.getElem_toArray, List.getElem_cons_succ, List.getElem_cons_zero, List.setIfInBounds_toArray, List.set_cons_succ, List.set_cons_zero]
        go_wp2
        go_roundw
        case rel => exact ⟨n + m, by omega, by omega, by go_num, H4, B4⟩
        case measure => simp [intOf]; omega
    · obtain rfl : n = 32768 := by omega
      have HV : Hid (VRow wr w'.heap.size (fun _ => o)) := hide (by
        unfold VRow
        rw [← halfL_full]
        exact own_of_heap (unhide HH) (halfL_len o 32768 (Nat.le_refl _)) (by unfold maxLen; omega))
      go_wp2
      go_ret
      exact ⟨rfl, unhide HV, unhide HB⟩
end Go.Proofs.Ytnfdkcphmolkiaa
