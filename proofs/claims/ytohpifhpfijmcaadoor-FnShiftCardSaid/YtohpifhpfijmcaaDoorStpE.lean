/- EncodeSteps of the program and of the specification. -/
import Derived.Test.YtohpifhpfijmcaaDoorStpD
import Derived.Laws.RangeAny
import Derived.Lib.EndianBits
import Derived.Handy
namespace Go.Proofs.YtohpifhpfijmcaaDoor
open Go.RowKit
theorem stepsFromI (p : Int) (h0 : 0 ≤ p) (h1 : p ≤ 1114111) (w : World) :
    Calls Tryd.prog 37 #[.int .i64 p] w fun e w' => e = .returned (.int .i64 (mid p)) ∧ w = w' := by
  have e : p.tdiv 128 = p / 128 := Int.tdiv_eq_ediv_of_nonneg h0
  go_enter Tryd.func37, Tryd.ntmps37
  go_wp2
  go_ret
  exact ⟨rfl, rfl⟩
theorem middleS (p : Int) (h0 : 0 ≤ p) (h1 : p ≤ 1114111) (w : World) :
    Calls Tryd.prog 40 #[.int .i64 p] w fun e w' => e = .returned (.int .i64 (mid p)) ∧ w = w' := by
  have e : p.tdiv 128 = p / 128 := Int.tdiv_eq_ediv_of_nonneg h0
  go_enter Tryd.func40, Tryd.ntmps40
  go_wp2
  go_ret
  exact ⟨rfl, rfl⟩
theorem u8_or128 (x : Int) (h0 : 0 ≤ x) (h1 : x < 128) : bits .or .u8 x 128 = 128 + x := by
  have h := bits_join_low .u8 8 (by decide) (fun n h0 h1 => by rw [IntKind.wrap_u8]; omega) 7 x 128 h0 (by omega) (by omega) (by omega) (by omega) (by omega)
  omega
theorem vl_next {M : List Int} {m n0 : Nat} (h : M ++ vl m = vl n0) (hm : ¬ m < 128) : (M ++ [((128 + m % 128 : Nat) : Int)]) ++ vl (m / 128) = vl n0 := by
  rw [← h, vl_more hm, List.append_assoc]; rfl
theorem vl_end {M : List Int} {m n0 : Nat} (h : M ++ vl m = vl n0) (hm : m < 128) : M ++ [(m : Int)] = vl n0 := by
  rw [← h, vl_last hm]
set_option maxHeartbeats 1000000 in
set_option maxRecDepth 100000 in
theorem layStep_any (B : Nat) (v : Value) (L : List Int) (d : Int) (n0 : Nat) (hz : zig d = n0) (hn0 : n0 < 268435456) (w : World) (hown : w.ownsRow B 5 1 v L.length (L.map (Value.int .u8))) (hlen : L.length ≤ 1000000) (hB : B ≤ w.heap.size) :
    Calls Tryd.prog 38 #[v, .int .i64 d] w fun e w' => ∃ v', e = .returned v' ∧ w'.ownsRow B 5 1 v' (L ++ vl n0).length ((L ++ vl n0).map (Value.int .u8)) ∧ Below B w w' ∧ Keeps w w' := by
  obtain ⟨i0, hi, hz0, hz1, hz2⟩ := info_parts info5
  have HO0 : Hid (w.ownsRow B 5 1 v (L ++ []).length ((L ++ []).map (Value.int .u8))) := hide (by rw [List.append_nil]; exact hown)
  have hvl := (vl_len n0 hn0).2
  have hd : -134217728 ≤ d ∧ d ≤ 134217728 := by unfold zig at hz; split at hz <;> omega
  have hd0 := hd.1
  have hd1 := hd.2
  by_cases hneg : d < 0
  all_goals
    unfold zig at hz
    first | rw [if_pos hneg] at hz | rw [if_neg hneg] at hz
    have HX := hide hz
    clear hz
  all_goals
    clear hown hd
    go_enter Tryd.func38, Tryd.ntmps38
    go_wp2
    go_loopw [0, 5] (fun s x wr => ∃ (M : List Int) (m : Nat), Hid (M ++ vl m = vl n0) ∧ m < 268435456 ∧ M.length ≤ 4 ∧ x = .int .i64 m ∧ Hid (wr.ownsRow B 5 1 s (L ++ M).length ((L ++ M).map (Value.int .u8))) ∧ Hid (Below B w wr) ∧ Hid (Keeps w wr)) (fun _ x _ => (intOf x).toNat)
    case atStart => exact ⟨[], n0, hide rfl, hn0, by simp, by have := unhide HX; go_num, HO0, hide (Below.refl _ _), hide (Keeps.refl _)⟩
    case round =>
      obtain ⟨M, m, HV, hm, hM, rfl, HO, HB, HK⟩ := hrel
      have hml : M.length + (vl m).length ≤ 4 := by have := congrArg List.length (unhide HV); rw [List.length_append] at this; omega
      have hm1 := (vl_len m hm).1
      have hbs := (unhide HB).size
      have hLM : (L ++ M).length ≤ 1000004 := by simp; omega
      have HT : Hid (∀ x, L ++ (M ++ [x]) = (L ++ M) ++ [x]) := hide fun x => (List.append_assoc _ _ _).symm
      clear HO0 HX
      generalize L ++ M = T at *
      by_cases hlt : m < 128
      · have HE := hide (vl_end (unhide HV) hlt)
        go_wp2_with (at_builtin; refine wpList_append_own _ rfl _ _ 22 rfl B 5 i0 (.int .u8 0) 1 1 Tryd.underlying22 hi hz0 hz1 hz2 rfl (by decide) _ _ _ rfl (owned_alloc (unhide HO) _) ⟨wr.heap.size, 0, none⟩ 1 1 [.int .u8 m] rfl rfl ?c1 ?c2 ?c3 ?c4 ?c5 ?_)
        case c1 => exact cell_one_new _ _ _
        case c2 => intro u hu; simp at hu; subst hu; rfl
        case c3 => unfold maxLen; omega
        case c4 => omega
        case c5 => simp; omega
        intro v' w3 hown' hgrow _
        have R := hide (lay_step hB (unhide HB) (unhide HK) (Below.refl _ _) (unhide HO) hown' hgrow)
        clear hown' hgrow
        go_wp2
        go_ret
        refine ⟨_, rfl, ?_, (unhide R).2.1, (unhide R).2.2⟩
        rw [← unhide HE, unhide HT]
        exact (unhide R).1
      · have hor := u8_or128 ((m : Int) % 128) (by omega) (by omega)
        have HV' := hide (vl_next (unhide HV) hlt)
        have hm2 := (vl_len (m / 128) (by omega)).1
        have hml2 : M.length + 1 + (vl (m / 128)).length ≤ 4 := by have := congrArg List.length (unhide HV'); simp at this; omega
        go_wp2_with (at_builtin; refine wpList_append_own _ rfl _ _ 22 rfl B 5 i0 (.int .u8 0) 1 1 Tryd.underlying22 hi hz0 hz1 hz2 rfl (by decide) _ _ _ rfl (owned_alloc (unhide HO) _) ⟨wr.heap.size, 0, none⟩ 1 1 [.int .u8 (128 + (m : Int) % 128)] rfl rfl ?c1 ?c2 ?c3 ?c4 ?c5 ?_)
        case c1 => exact cell_one_new _ _ _
        case c2 => intro u hu; simp at hu; subst hu; rfl
        case c3 => unfold maxLen; omega
        case c4 => omega
        case c5 => simp; omega
        intro v' w3 hown' hgrow _
        have R := hide (lay_step hB (unhide HB) (unhide HK) (Below.refl _ _) (unhide HO) hown' hgrow)
        clear hown' hgrow
        go_wp2
        go_roundw
        case rel =>
          have RR : ∃ (M : List Int) (m' : Nat), Hid (M ++ vl m' = vl n0) ∧ m' < 268435456 ∧ M.length ≤ 4 ∧ Value.int .i64 ((m : Int) / 128) = .int .i64 m' ∧ Hid (w3.ownsRow B 5 1 v' (L ++ M).length ((L ++ M).map (Value.int .u8))) ∧ Hid (Below B w w3) ∧ Hid (Keeps w w3) :=
            ⟨M ++ [((128 + m % 128 : Nat) : Int)], m / 128, HV', by omega, by simp; omega, by go_num, hide (by rw [unhide HT]; exact (unhide R).1), hide (unhide R).2.1, hide (unhide R).2.2⟩
          first | exact RR | ((repeat apply Exists.intro); exact ⟨RR, rfl⟩)
        case measure => simp [intOf]; omega
end Go.Proofs.YtohpifhpfijmcaaDoor
