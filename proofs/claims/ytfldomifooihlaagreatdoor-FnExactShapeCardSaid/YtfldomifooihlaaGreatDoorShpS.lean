/- Forms of points, as the specification tells them. -/
import Derived.Test.YtfldomifooihlaaGreatDoorShpI
namespace Go.Proofs.YtfldomifooihlaaGreatDoor.Shp
open Go.RowKit Chr
set_option linter.unusedVariables false
/-- A row of n numbers of the call's own, at the block g. -/
def IRow (w : World) (B g n : Nat) (F : List Int) : Prop := w.ownsRow B 2 1 (.slice (some ⟨g, 0, none⟩) n n) n (F.map (Value.int .i64))
theorem IRow.below {w w' : World} {B g n : Nat} {F : List Int} (h : IRow w B g n F) (hb : Below w.heap.size w w') : IRow w' B g n F := ownsRow_below h hb
theorem IRow.len {w : World} {B g n : Nat} {F : List Int} (h : IRow w B g n F) : F.length = n := by have := h.1; simpa using this
theorem IRow.cell {w : World} {B g n : Nat} {F : List Int} (h : IRow w B g n F) (i : Nat) (hi : i < n) : w.cell? ⟨g, i, none⟩ = some (.int .i64 (nth F i)) ∧ w.frozen? ⟨g, i, none⟩ = false := by
  refine ⟨?_, World.ownsRow.frozenAt h i⟩
  have e := h.len
  rw [World.ownsRow.cellAt h i (by omega), List.getElem?_map]
  simp [nth, List.getD, e, hi]
theorem IRow.set {w : World} {B g n : Nat} {F : List Int} (h : IRow w B g n F) (i : Nat) (x : Int) : IRow (w.setCell ⟨g, i, none⟩ (.int .i64 x)) B g n (F.set i x) := by
  unfold IRow
  rw [List.map_set]
  exact (World.ownsRow.stored h i (.int .i64 x)).1
theorem nxf_of (x : Int) (h : x = 0 ∨ x = 1 ∨ x = 2 ∨ x = 3) : (x = 0 ∧ nxf x = 1) ∨ (x = 1 ∧ nxf x = 1) ∨ (x = 2 ∧ nxf x = 2) ∨ (x = 3 ∧ nxf x = 2) := by
  rcases h with rfl | rfl | rfl | rfl <;> simp [nxf]
theorem fset_tt {L F : List Int} {l k : Nat} (h1 : jlt (nth L l) = true) (h2 : jlt (nth L k) = true) : fset L F l k = (F.set l (nxf (nth F l))).set k 3 := by unfold fset; rw [h1, h2]; rfl
theorem fset_tf {L F : List Int} {l k : Nat} (h1 : jlt (nth L l) = true) (h2 : jlt (nth L k) = false) : fset L F l k = F.set l (nxf (nth F l)) := by unfold fset; rw [h1, h2]; rfl
theorem fset_ft {L F : List Int} {l k : Nat} (h1 : jlt (nth L l) = false) (h2 : jlt (nth L k) = true) : fset L F l k = F.set k 3 := by unfold fset; rw [h1, h2]; rfl
theorem fset_ff {L F : List Int} {l k : Nat} (h1 : jlt (nth L l) = false) (h2 : jlt (nth L k) = false) : fset L F l k = F := by unfold fset; rw [h1, h2]; rfl
set_option maxHeartbeats 4000000 in
set_option maxRecDepth 100000 in
theorem sForms (v : Value) (L : List Int) (w : World) (h : IntsAt w v L) (hl : L.length ≤ 65536) :
    Calls Tryz.prog 43 #[v] w fun e w' => ∃ sv, e = .returned sv ∧ w'.ownsRow w.heap.size 2 1 sv (frs L).length ((frs L).map (Value.int .i64)) ∧ Below w.heap.size w w' := by
  obtain ⟨a, cap, rfl, h⟩ := h
  have HC : Hid (∀ k, k < L.length → ∃ b off, a = some ⟨b, off, none⟩ ∧ b < w.heap.size ∧ ∀ j, j < L.length → w.cell? ⟨b, off + j, none⟩ = some (.int .i64 (nth L j))) := hide (fun k hk => by
    rcases h with rfl | ⟨b, off, rfl, hb, hc⟩
    · simp at hk
    · exact ⟨b, off, rfl, hb, hc⟩)
  clear h
  obtain ⟨i0, hi, hz0, hz1, hz2⟩ := info_parts info2
  go_enter Tryz.func43, Tryz.ntmps43
  go_wp2_with (at_make; refine wpList_make_full _ rfl _ _ 69 rfl w.heap.size 2 i0 (.int .i64 0) 1 Tryz.underlying69 hi hz0 hz1 .i64 .i64 _ _ L.length rfl rfl rfl rfl ?b2 ?b3 ?b4 ?_)
  case b2 => rw [hz2]; omega
  case b3 => unfold maxLen; omega
  case b4 => omega
  intro w1 hown hgrow
  have O1 : Hid (IRow w1 w.heap.size w.heap.size L.length (fms L (jst L 0).2)) := hide (by
    unfold IRow
    rw [fms_zero, List.map_replicate, ← toList_madeCells_one]
    simpa using hown)
  have HB1 := hide (made_below hgrow)
  clear hown hgrow hi hz0 hz1 hz2
  go_wp2
  go_loopw [4, 5] (fun lv i wr => ∃ k : Nat, k ≤ L.length ∧ i = .int .i64 k ∧ lv = .int .i64 (lstI (jst L k).1) ∧ Hid (IRow wr w.heap.size w.heap.size L.length (fms L (jst L k).2)) ∧ Hid (Below w.heap.size w wr)) (fun _ i _ => L.length - (intOf i).toNat)
  case atStart => exact ⟨0, Nat.zero_le _, rfl, rfl, O1, HB1⟩
  case round =>
    obtain ⟨k, hk, rfl, rfl, HO, HB⟩ := hrel
    clear O1 HB1
    have hBs := (unhide HB).size
    by_cases hlt : k < L.length
    · have hlt' : (k : Int) < (L.length : Int) := by omega
      obtain ⟨b, off, rfl, hb, hc⟩ := unhide HC k hlt
      have HCC := hide hc
      have c1 := ((unhide HB).cell (p := ⟨b, off + k, none⟩) hb).trans (hc k hlt)
      have CJ := hide (sJoins (nth L k) wr)
      have I := jok L k hk
      have hbw : b < wr.heap.size := by omega
      clear hc HC
      by_cases hps : jns (nth L k) < 0
      · have ES := hide (jst_pass hps)
        clear I HCC
        generalize jns (nth L k) = j at *
        generalize nth L k = p at *
        go_wp2_with (go_at_call 73; refine (unhide CJ).mono ?_; rintro e w2 ⟨rfl, hb2⟩; have HB2 := hide hb2; clear hb2)
        have HO2 := hide ((unhide HO).below (unhide HB2))
        have HB3 := hide ((unhide HB).trans ((unhide HB2).mono hBs))
        go_roundw
        case rel => exact ⟨k + 1, by omega, by go_num, by rw [unhide ES], hide (by rw [unhide ES]; exact unhide HO2), HB3⟩
        case measure => simp [intOf]; omega
      · cases eo : (jst L k).1 with
        | none =>
          have ES := hide (jst_first hps eo)
          have z2 : lstI none = -1 := rfl
          rw [z2]
          clear I z2 eo HCC
          generalize jns (nth L k) = j at *
          generalize nth L k = p at *
          go_wp2_with (go_at_call 73; refine (unhide CJ).mono ?_; rintro e w2 ⟨rfl, hb2⟩; have HB2 := hide hb2; clear hb2)
          have HO2 := hide ((unhide HO).below (unhide HB2))
          have HB3 := hide ((unhide HB).trans ((unhide HB2).mono hBs))
          go_roundw
          case rel => exact ⟨k + 1, by omega, by go_num, by rw [unhide ES]; rfl, hide (by rw [unhide ES]; exact unhide HO2), HB3⟩
          case measure => simp [intOf]; omega
        | some l =>
          have hll := (I.lt l eo).1
          have z2 : lstI (some l) = (l : Int) := rfl
          rw [z2]
          have hll' : (l : Int) < (L.length : Int) := by omega
          have h0l : (0 : Int) ≤ (l : Int) := by omega
          have CL := hide (fun W => sJoins (nth L l) W)
          cases hj : jnd (nth L l) (nth L k)
          · have ES := hide (jst_loose hps eo hj)
            unfold jnd at hj
            clear I z2 eo
            have HCL := hide ((unhide HCC) l (by omega))
            clear HCC
            generalize jns (nth L l) = jl at *
            generalize jns (nth L k) = j at *
            generalize nth L k = p at *
            generalize nth L l = q at *
            go_wp2_with fail
            refine (unhide CJ).mono ?_
            rintro e w2 ⟨rfl, hb2⟩
            have HB2 := hide hb2
            have HB3 := hide ((unhide HB).trans ((unhide HB2).mono hBs))
            have c2 := ((unhide HB3).cell (p := ⟨b, off + l, none⟩) hb).trans (unhide HCL)
            clear hb2
            cases q3 : (jl == 3)
            · clear hj
              go_wp2_with (go_at_call 73; refine ((unhide CL) _).mono ?_; rintro e w3 ⟨rfl, hb3⟩; have HB4 := hide hb3; clear hb3)
              have HB5 := hide ((unhide HB2).trans ((unhide HB4).mono (unhide HB2).size))
              have HO2 := hide ((unhide HO).below (unhide HB5))
              have HB6 := hide ((unhide HB).trans ((unhide HB5).mono hBs))
              go_roundw
              case rel => exact ⟨k + 1, by omega, by go_num, by rw [unhide ES]; rfl, hide (by rw [unhide ES]; exact unhide HO2), HB6⟩
              case measure => simp [intOf]; omega
            · have hj' : ¬ 2 ≤ j := by rw [q3] at hj; simpa using hj
              clear hj
              go_wp2_with (go_at_call 73; refine ((unhide CL) _).mono ?_; rintro e w3 ⟨rfl, hb3⟩; have HB4 := hide hb3; clear hb3)
              have HB5 := hide ((unhide HB2).trans ((unhide HB4).mono (unhide HB2).size))
              have HO2 := hide ((unhide HO).below (unhide HB5))
              have HB6 := hide ((unhide HB).trans ((unhide HB5).mono hBs))
              go_roundw
              case rel => exact ⟨k + 1, by omega, by go_num, by rw [unhide ES]; rfl, hide (by rw [unhide ES]; exact unhide HO2), HB6⟩
              case measure => simp [intOf]; omega
          · have ES := hide (jst_join hps eo hj)
            have EF := hide (fset_eq L (jst L k).2 l k hll hlt I.len I.new)
            have hx := nxf_of _ (fms_in L (jst L k).2 l (by omega))
            unfold jnd at hj
            obtain ⟨q3, hj'⟩ : (jns (nth L l) == 3) = true ∧ 2 ≤ jns (nth L k) := by simpa using hj
            have W1 := hide (fun W => sLetter (nth L l) W)
            have W2 := hide (fun W => sLetter (nth L k) W)
            clear I z2 eo hj
            have HCL := hide ((unhide HCC) l (by omega))
            have HCK := hide ((unhide HCC) k hlt)
            clear HCC
            generalize fms L (jst L k).2 = F at *
            go_wp2_with fail
            refine (unhide CJ).mono ?_
            rintro e w2 ⟨rfl, hb2⟩
            have HB2 := hide hb2
            have HB3 := hide ((unhide HB).trans ((unhide HB2).mono hBs))
            have c2 := ((unhide HB3).cell (p := ⟨b, off + l, none⟩) hb).trans (unhide HCL)
            clear hb2
            go_wp2_with fail
            refine ((unhide CL) _).mono ?_
            rintro e w3 ⟨rfl, hb3⟩
            have HB4 := hide hb3
            have HB5 := hide ((unhide HB2).trans ((unhide HB4).mono (unhide HB2).size))
            have O3 := hide ((unhide HO).below (unhide HB5))
            have B3 := hide ((unhide HB).trans ((unhide HB5).mono hBs))
            have d1 := ((unhide B3).cell (p := ⟨b, off + l, none⟩) hb).trans (unhide HCL)
            have d2 := ((unhide B3).cell (p := ⟨b, off + k, none⟩) hb).trans (unhide HCK)
            clear hb3 HB4 HB5 HO HB HB2 HB3 c1 c2 CJ
            cases q1 : jlt (nth L l)
            · rw [q1] at W1
              cases q2 : jlt (nth L k)
              · rw [q2] at W2
                have EF2 := hide ((fset_ff q1 q2).symm.trans (unhide EF))
                clear EF q1 q2 hx
                generalize jns (nth L l) = jl at *
                generalize jns (nth L k) = j at *
                generalize nth L k = p at *
                generalize nth L l = q at *
                go_wp2_with fail
                refine ((unhide W1) _).mono ?_
                rintro e w4 ⟨rfl, rfl⟩
                go_wp2_with fail
                refine ((unhide W2) _).mono ?_
                rintro e w5 ⟨rfl, rfl⟩
                go_wp2
                go_roundw
                case rel => exact ⟨k + 1, by omega, by go_num, by rw [unhide ES]; rfl, hide (by rw [unhide ES]; dsimp only; rw [← unhide EF2]; exact unhide O3), B3⟩
                case measure => simp [intOf]; omega
              · rw [q2] at W2
                have EF2 := hide ((fset_ft q1 q2).symm.trans (unhide EF))
                clear EF q1 q2 hx
                obtain ⟨d3, f3⟩ := (unhide O3).cell k hlt
                have O4 := hide ((unhide O3).set k 3)
                have B4 := hide ((unhide B3).setCell (p := ⟨w.heap.size, k, none⟩) (Nat.le_refl _) (.int .i64 3))
                generalize nth F k = y at *
                generalize jns (nth L l) = jl at *
                generalize jns (nth L k) = j at *
                generalize nth L k = p at *
                generalize nth L l = q at *
                go_wp2_with fail
                refine ((unhide W1) _).mono ?_
                rintro e w4 ⟨rfl, rfl⟩
                go_wp2_with fail
                refine ((unhide W2) _).mono ?_
                rintro e w5 ⟨rfl, rfl⟩
                go_wp2
                go_roundw
                case rel => exact ⟨k + 1, by omega, by go_num, by rw [unhide ES]; rfl, hide (by rw [unhide ES]; dsimp only; rw [← unhide EF2]; exact unhide O4), B4⟩
                case measure => simp [intOf]; omega
            · rw [q1] at W1
              cases q2 : jlt (nth L k)
              · rw [q2] at W2
                have EF2 := hide ((fset_tf q1 q2).symm.trans (unhide EF))
                clear EF q1 q2
                have HA : Hid (Below w3.heap.size w3 (w3.alloc (.cells #[.int .i64 1, .int .i64 1, .int .i64 2, .int .i64 2] 2))) := hide ((Below.refl _ _).alloc (Nat.le_refl _) _)
                have OA := hide ((unhide O3).below (unhide HA))
                have BA := hide ((unhide B3).trans ((unhide HA).mono (unhide B3).size))
                obtain ⟨d3, f3⟩ := (unhide OA).cell l (by omega)
                generalize nth F l = x at *
                obtain ⟨y, ey⟩ : ∃ y, y = nxf x := ⟨_, rfl⟩
                rw [← ey] at hx EF2
                have O4 := hide ((unhide OA).set l y)
                have B4 := hide ((unhide BA).setCell (p := ⟨w.heap.size, l, none⟩) (Nat.le_refl _) (.int .i64 y))
                have d4 := ((unhide B4).cell (p := ⟨b, off + k, none⟩) hb).trans (unhide HCK)
                generalize jns (nth L l) = jl at *
                generalize jns (nth L k) = j at *
                generalize nth L k = p at *
                generalize nth L l = q at *
                clear ey O3 B3 HA OA BA
                go_wp2_with fail
                refine ((unhide W1) _).mono ?_
                rintro e w4 ⟨rfl, rfl⟩
                rcases hx with ⟨rfl, rfl⟩ | ⟨rfl, rfl⟩ | ⟨rfl, rfl⟩ | ⟨rfl, rfl⟩
                all_goals
                  go_wp2_with fail
                  refine ((unhide W2) _).mono ?_
                  rintro e w5 ⟨rfl, rfl⟩
                  go_wp2
                  go_roundw
                  case rel => exact ⟨k + 1, by omega, by go_num, by rw [unhide ES]; rfl, hide (by rw [unhide ES]; dsimp only; rw [← unhide EF2]; exact unhide O4), B4⟩
                  case measure => simp [intOf]; omega
              · rw [q2] at W2
                have EF2 := hide ((fset_tt q1 q2).symm.trans (unhide EF))
                clear EF q1 q2
                have HA : Hid (Below w3.heap.size w3 (w3.alloc (.cells #[.int .i64 1, .int .i64 1, .int .i64 2, .int .i64 2] 2))) := hide ((Below.refl _ _).alloc (Nat.le_refl _) _)
                have OA := hide ((unhide O3).below (unhide HA))
                have BA := hide ((unhide B3).trans ((unhide HA).mono (unhide B3).size))
                obtain ⟨d3, f3⟩ := (unhide OA).cell l (by omega)
                generalize nth F l = x at *
                obtain ⟨y, ey⟩ : ∃ y, y = nxf x := ⟨_, rfl⟩
                rw [← ey] at hx EF2
                have O4 := hide ((unhide OA).set l y)
                have B4 := hide ((unhide BA).setCell (p := ⟨w.heap.size, l, none⟩) (Nat.le_refl _) (.int .i64 y))
                have d4 := ((unhide B4).cell (p := ⟨b, off + k, none⟩) hb).trans (unhide HCK)
                obtain ⟨d5, f5⟩ := (unhide O4).cell k hlt
                have O5 := hide ((unhide O4).set k 3)
                have B5 := hide ((unhide B4).setCell (p := ⟨w.heap.size, k, none⟩) (Nat.le_refl _) (.int .i64 3))
                generalize nth (F.set l y) k = z at *
                generalize jns (nth L l) = jl at *
                generalize jns (nth L k) = j at *
                generalize nth L k = p at *
                generalize nth L l = q at *
                clear ey O3 B3 HA OA BA
                go_wp2_with fail
                refine ((unhide W1) _).mono ?_
                rintro e w4 ⟨rfl, rfl⟩
                rcases hx with ⟨rfl, rfl⟩ | ⟨rfl, rfl⟩ | ⟨rfl, rfl⟩ | ⟨rfl, rfl⟩
                all_goals
                  go_wp2_with fail
                  refine ((unhide W2) _).mono ?_
                  rintro e w5 ⟨rfl, rfl⟩
                  go_wp2
                  go_roundw
                  case rel => exact ⟨k + 1, by omega, by go_num, by rw [unhide ES]; rfl, hide (by rw [unhide ES]; dsimp only; rw [← unhide EF2]; exact unhide O5), B5⟩
                  case measure => simp [intOf]; omega
    · obtain rfl : k = L.length := by omega
      have HO' : Hid (wr.ownsRow w.heap.size 2 1 (.slice (some ⟨w.heap.size, 0, none⟩) L.length L.length) (frs L).length ((frs L).map (Value.int .i64))) := hide (by
        rw [frs_len]
        exact unhide HO)
      go_wp2
      go_ret
      exact ⟨_, rfl, unhide HO', unhide HB⟩
end Go.Proofs.YtfldomifooihlaaGreatDoor.Shp
