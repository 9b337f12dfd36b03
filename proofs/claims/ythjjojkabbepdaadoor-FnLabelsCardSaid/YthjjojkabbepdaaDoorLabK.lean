/- Labels, as the program writes them: the plain points, the least, a label. -/
import Derived.Test.YthjjojkabbepdaaDoorLabJ
namespace Go.Proofs.YthjjojkabbepdaaDoor.Lab
open Go.RowKit
set_option linter.unusedVariables false
set_option maxRecDepth 100000 in
set_option maxHeartbeats 2000000 in
theorem plainI (v : Value) (L : List Int) (w : World) (hv : IntsAt w v L) (hL : L.length ≤ 1000) (hP : ∀ x ∈ L, 0 ≤ x ∧ x ≤ 1114111) :
    Calls Tryd.prog 35 #[v] w fun e w' => ∃ v', e = .returned v' ∧ By w.heap.size w' v' (pl L) ∧ Below w.heap.size w w' := by
  obtain ⟨i0, hi, hz0, hz1, hz2⟩ := info_parts infoB
  have HV := hide hv
  have HP := hide hP
  obtain ⟨va, cap, rfl, _⟩ := hv
  clear hP
  have HO0 := hide (By.nil w.heap.size w)
  go_enter Tryd.func35, Tryd.ntmps35
  go_wp2
  go_loopw [3, 8] (fun ov iv wr => ∃ k : Nat, k ≤ L.length ∧ iv = .int .i64 k ∧ Hid (By w.heap.size wr ov (plK L k)) ∧ Hid (Below w.heap.size w wr)) (fun _ iv _ => L.length - (intOf iv).toNat)
  case atStart => exact ⟨0, Nat.zero_le _, rfl, HO0, hide (Below.refl _ _)⟩
  case round =>
    obtain ⟨k, hk, rfl, HO, HB⟩ := hrel
    clear HO0
    have hBs := (unhide HB).size
    by_cases hlt : k < L.length
    · obtain ⟨b, off, cp, he, hbw, hc⟩ := rd_at (unhide HV) (by omega)
      cases he
      have kc := ((unhide HB).cell (p := ⟨b, off + k, none⟩) hbw).trans (hc k hlt)
      have hbr : b < wr.heap.size := by omega
      have HS := hide (plK_succ L k hlt)
      have hpp := (unhide HP) _ (nth_mem hlt)
      have hpl := plK_le L k
      clear hc
      generalize nth L k = p at *
      obtain ⟨p0, p1⟩ := hpp
      by_cases hp : p < 128
      · rw [if_pos hp] at HS
        have hw8 := wrap_u8 p p0 hp
        go_wp2_with (at_builtin; refine wpList_appG _ rfl _ _ 22 rfl w.heap.size 5 i0 (.int .u8 0) 1 1 Tryd.underlying22 hi hz0 hz1 hz2 rfl (by decide) _ _ _ rfl (By.alloc (unhide HO) _) ⟨wr.heap.size, 0, none⟩ 1 1 [.int .u8 p] rfl rfl (one_new _ _) (one_oneB _) ?c3 ?c4 ?c5 ?_)
        case c3 => unfold maxLen; omega
        case c4 => omega
        case c5 => simp; omega
        intro v' w2 hown' hgrow hnew
        have HO2 := hide (By.snoc (N := [p]) hown' rfl)
        rw [← unhide HS] at HO2
        have HB2 := hide (((unhide HB).trans ((al1 wr _).mono hBs)).trans (by_grown (By.below (unhide HO) (al1 wr _)) (by simp; omega) hgrow))
        clear hown' hgrow hnew
        go_wp2
        go_roundw
        case rel => exact ⟨k + 1, by omega, by go_num, HO2, HB2⟩
        case measure => simp [intOf]; omega
      · rw [if_neg hp, List.append_nil] at HS
        rw [← unhide HS] at HO
        go_wp2
        go_roundw
        case rel => exact ⟨k + 1, by omega, by go_num, HO, HB⟩
        case measure => simp [intOf]; omega
    · obtain rfl : k = L.length := by omega
      go_wp2
      go_ret
      exact ⟨_, rfl, unhide HO, unhide HB⟩
set_option maxRecDepth 100000 in
set_option maxHeartbeats 2000000 in
theorem leastI (v : Value) (L : List Int) (n : Int) (w : World) (hv : IntsAt w v L) (hL : L.length ≤ 1000) (hP : ∀ x ∈ L, 0 ≤ x ∧ x ≤ 1114111) (hn : 0 ≤ n) (hn1 : n ≤ 1114111) :
    Calls Tryd.prog 36 #[v, .int .i64 n] w fun e w' => e = .returned (.int .i64 (lst L n)) ∧ w' = w := by
  have HV := hide hv
  have HP := hide hP
  obtain ⟨va, cap, rfl, _⟩ := hv
  clear hP
  go_enter Tryd.func36, Tryd.ntmps36
  go_wp2
  go_loopw [5, 10] (fun mv iv wr => ∃ i : Nat, i ≤ L.length ∧ mv = .int .i64 (lsK L n i) ∧ iv = .int .i64 i ∧ wr = w) (fun _ iv _ => L.length - (intOf iv).toNat)
  case atStart => exact ⟨0, Nat.zero_le _, by rfl, rfl, rfl⟩
  case round =>
    obtain ⟨i, hi', rfl, rfl, rfl⟩ := hrel
    by_cases hil : i < L.length
    · obtain ⟨b, off, cp, he, hbw, hc⟩ := rd_at (unhide HV) (by omega)
      cases he
      have kc := hc i hil
      have HS := hide (lsK_succ L n i hil)
      obtain ⟨g1, g2, _⟩ := lsK_bd L n hn1 i hi'
      obtain ⟨p0, p1⟩ := (unhide HP) _ (nth_mem hil)
      have L1 := hide (fun (m p : Int) (h : n ≤ p) => show lsm n m p = min m p by unfold lsm; split <;> omega)
      have L2 := hide (fun (m p : Int) (h : ¬ n ≤ p) => show lsm n m p = m from if_neg (fun g => h g.1))
      clear hc
      generalize nth L i = p at *
      generalize lsK L n i = m at *
      by_cases c1 : n ≤ p
      · have HM : Hid (lsK L n (i + 1) = min m p) := hide ((unhide HS).trans ((unhide L1) m p c1))
        clear L1 L2 HS
        go_wp2
        go_roundw
        case rel => exact ⟨i + 1, by omega, by rw [unhide HM], by go_num, trivial⟩
        case measure => simp [intOf]; omega
      · have HM : Hid (lsK L n (i + 1) = m) := hide ((unhide HS).trans ((unhide L2) m p c1))
        clear L1 L2 HS
        go_wp2
        go_roundw
        case rel => exact ⟨i + 1, by omega, by rw [unhide HM], by go_num, trivial⟩
        case measure => simp [intOf]; omega
    · obtain rfl : i = L.length := by omega
      go_wp2
      go_ret
      exact ⟨rfl, rfl⟩
end Go.Proofs.YthjjojkabbepdaaDoor.Lab
