/- Cuts of words, by the program: the places that stand alone, the starts, WordCuts. -/
import Derived.Test.YtbecklokapcgbaaDoorWdaP
import Derived.Test.YtbecklokapcgbaaDoorAppG
import Derived.Test.YtbecklokapcgbaaDoorChrC
namespace Go.Proofs.YtbecklokapcgbaaDoor
namespace Wrd
open Go.RowKit
open Chr (cat ctl mrk stb sts ctk cutsL BoolsAt cutsAhead_any charStarts_any)
set_option linter.unusedVariables false
theorem info3 : (Tryd.prog.info? 3).map (fun i => (i.zero, i.size, i.bytes)) = some (some (.int .i64 0), 1, 8) := by kernel_rfl
theorem makeI (n : Nat) (hn : n ≤ 65536) (W : World) : (Instr.makeSlice 59 (.int .i64 0) (.int .i64 (n : Int))).run Tryd.prog W = .ok (.slice (some ⟨W.heap.size, 0, none⟩) 0 n) (W.alloc (.cells (List.replicate n (Value.int .i64 0)).toArray 3)) := by
  obtain ⟨i0, hi, hz0, hz1, hz2⟩ := info_parts info3
  have := run_makeSlice (P := Tryd.prog) W 59 3 i0 (.int .i64 0) Tryd.underlying59 hi hz0 .i64 .i64 0 (n : Int) (by omega) (by omega) (by rw [hz1]; omega) (by rw [hz2]; omega) (by omega)
  have e : madeCells #[Value.int .i64 0] n = (List.replicate n (Value.int .i64 0)).toArray := by
    apply Array.toList_inj.1
    rw [toList_madeCells_one]
  rw [hz1] at this
  simp only [Int.toNat_natCast, Nat.mul_one, Int.toNat_zero] at this
  rw [← e]
  exact this
theorem own_made (w : World) (n : Nat) (hn : n ≤ 65536) : (w.alloc (.cells (List.replicate n (Value.int .i64 0)).toArray 3)).ownsRow w.heap.size 3 1 (.slice (some ⟨w.heap.size, 0, none⟩) 0 n) 0 [] := by
  refine ⟨rfl, .inr ⟨w.heap.size, n, (List.replicate n (Value.int .i64 0)).toArray, rfl, Nat.le_refl _, heap_alloc_last _ _, Nat.zero_le _, by unfold maxLen; omega, by simp, by simp⟩⟩
theorem owned_atW {w : World} {base : Nat} {e : TypeId} {v : Value} {l : List Int} {n : Nat} (h : w.ownsRow base e 1 v n (l.map (Value.int .i64))) : IntsAt w v l := by
  have hn : l.length = n := by have := h.1; simpa using this
  rcases h.2 with ⟨hv, h0⟩ | ⟨g, cap, cur, hv, hg, hh, r⟩
  · have : l = [] := List.eq_nil_of_length_eq_zero (by omega)
    subst this
    exact ⟨none, 0, by rw [hv]; rfl, .inl rfl⟩
  · subst hv
    refine ⟨some ⟨g, 0, none⟩, cap, by rw [hn], .inr ⟨g, 0, rfl, (Array.getElem?_eq_some_iff.1 hh).1, fun i hi => ?_⟩⟩
    have c := h.cellAt i (by omega)
    rw [Nat.zero_add, c, List.getElem?_map]
    unfold nth
    rw [List.getD_eq_getElem?_getD, List.getElem?_eq_getElem hi]
    rfl
theorem ownW_below {w w' : World} {base : Nat} {v : Value} {n : Nat} {xs : List Value} (h : w.ownsRow base 3 1 v n xs) (hb : Below w.heap.size w w') : w'.ownsRow base 3 1 v n xs := by
  refine ⟨h.1, ?_⟩
  rcases h.2 with h' | ⟨g, cap, cur, hv, hg, hh, r⟩
  · exact .inl h'
  · exact .inr ⟨g, cap, cur, hv, hg, (hb.block g (Array.getElem?_eq_some_iff.1 hh).1).trans hh, r⟩
theorem growW {w w1 w2 : World} {B : Nat} {v : Value} {n : Nat} {xs : List Value} {o : Obj} (h : w1.ownsRow B 3 1 v n xs) (hb : Below B w w1) (hB : B ≤ w1.heap.size) (hg : (w1.alloc o).grownBy w2 v.ownBlock) : Below B w w2 :=
  (hb.alloc hB o).grown hg (by simp; omega) (fun k e => (h.lt k e).1)
/-- The point ahead. -/
def ahd (L : List Int) (k : Nat) : Int := if k = 0 then -1 else nth L (k - 1)
set_option maxRecDepth 100000 in
set_option maxHeartbeats 8000000 in
theorem placesA (v : Value) (L : List Int) (w : World) (hv : IntsAt w v L) (hL : L.length ≤ 65536) (ht : TabAt w) :
    Calls Tryd.prog 38 #[v] w fun e w' => ∃ u, e = .returned u ∧ w'.ownsRow w.heap.size 3 1 u (alA L).length ((alA L).map (Value.int .i64)) ∧ Below w.heap.size w w' := by
  obtain ⟨i0, hi, hz0, hz1, hz2⟩ := info_parts info3
  obtain ⟨a, cap, rfl, hc⟩ := hv
  have HT := hide ht
  have hmk := makeI L.length hL w
  have O0 : Hid ((w.alloc (.cells (List.replicate L.length (Value.int .i64 0)).toArray 3)).ownsRow w.heap.size 3 1 (.slice (some ⟨w.heap.size, 0, none⟩) 0 L.length) (alk L 0).length ((alk L 0).map (Value.int .i64))) := hide (own_made w L.length hL)
  have B0 := hide ((Below.refl w.heap.size w).alloc (Nat.le_refl _) (.cells (List.replicate L.length (Value.int .i64 0)).toArray 3))
  have HC := hide hc
  clear hc ht
  go_enter Tryd.func38, Tryd.ntmps38
  go_wp2
  go_loopw [3, 4, 12] (fun av pv iv wr => ∃ k : Nat, k ≤ L.length ∧ iv = .int .i64 (k : Int) ∧ pv = .int .i64 (ahd L k) ∧ Hid (wr.ownsRow w.heap.size 3 1 av (alk L k).length ((alk L k).map (Value.int .i64))) ∧ Hid (Below w.heap.size w wr)) (fun _ _ iv _ => L.length - (intOf iv).toNat)
  case atStart => exact ⟨0, Nat.zero_le _, rfl, rfl, O0, B0⟩
  case round =>
    obtain ⟨k, hk, rfl, rfl, HO, HB⟩ := hrel
    clear O0 B0 hmk
    by_cases hlt : k < L.length
    · have hlt' : (k : Int) < (L.length : Int) := by omega
      have h0k : (0 : Int) ≤ (k : Int) := by omega
      have hb : ∃ b off, a = some ⟨b, off, none⟩ ∧ b < w.heap.size ∧ ∀ i, i < L.length → w.cell? ⟨b, off + i, none⟩ = some (.int .i64 (nth L i)) := by
        rcases unhide HC with h | h
        · rw [h] at hlt; simp at hlt
        · exact h
      obtain ⟨b, off, rfl, hbw, hcs⟩ := hb
      have c1 := ((unhide HB).cell (p := ⟨b, off + k, none⟩) hbw).trans (hcs k hlt)
      have hsz := (unhide HB).size
      have hlen := alk_len L k
      have T1 := hide ((unhide HT).below (unhide HB))
      clear hcs
      have HN : Hid (ahd L (k + 1) = nth L k) := hide (by unfold ahd; rw [if_neg (by omega)]; rfl)
      have HY := hide (fun h => alk_yes (L := L) (k := k) h)
      have HF := hide (fun h => alk_no (L := L) (k := k) h)
      by_cases hk0 : k = 0
      · subst hk0
        rw [Nat.add_zero] at c1
        have HA := hide ((unhide HY) rfl)
        clear HY HF
        generalize alk L 0 = X at *
        generalize nth L 0 = p at *
        go_wp2_with (at_builtin; refine wpList_append_own _ rfl _ _ 59 rfl w.heap.size 3 i0 (.int .i64 0) 1 8 Tryd.underlying59 hi hz0 hz1 hz2 rfl (by decide) _ _ _ rfl (owned_alloc (unhide HO) _) ⟨wr.heap.size, 0, none⟩ 1 1 [.int .i64 0] rfl rfl (cell_one_new _ _ _) (by intro u hu; simp at hu; subst hu; rfl) (by unfold maxLen; omega) (by omega) (by simp; omega) ?_)
        intro v' w2 hown hgrow _
        have B2 := hide (growW (unhide HO) (unhide HB) hsz hgrow)
        have O2 : Hid (w2.ownsRow w.heap.size 3 1 v' (alk L (0 + 1)).length ((alk L (0 + 1)).map (Value.int .i64))) := hide (by rw [unhide HA, List.length_append, List.map_append]; exact hown)
        clear hown hgrow
        go_wp2
        go_roundw
        case rel => exact ⟨1, by omega, rfl, by rw [unhide HN], O2, B2⟩
        case measure => simp [intOf]; omega
      · have hk0' : ((k : Int) == 0) = false := by rw [beq_eq_false_iff_ne]; omega
        have hah : ahd L k = nth L (k - 1) := if_neg hk0
        have HP := hide (aln_prog L k (by omega))
        rw [hah]
        clear hah
        generalize nth L (k - 1) = q at *
        generalize nth L k = p at *
        have CC := hide (fun W h => ctlB q W h)
        have CS := hide (fun W h => spaceB q W h)
        have CM := hide (fun W h => mblB p W h)
        cases hc : ctl q with
        | true =>
          rw [hc] at CC HP
          rw [Bool.true_or] at HP
          clear hc CS CM
          have HA := hide ((unhide HY) (unhide HP))
          clear HY HF HP
          go_wp2_with (first
            | (go_at_call 66; refine ((unhide CC) _ (unhide T1)).mono ?_; rintro e w1 ⟨rfl, hb1⟩; replace T1 := hide ((unhide T1).below hb1); replace HO := hide (ownW_below (unhide HO) hb1); replace HB := hide ((unhide HB).trans (hb1.mono (unhide HB).size)); clear hb1)
            | (at_builtin; refine wpList_append_own _ rfl _ _ 59 rfl w.heap.size 3 i0 (.int .i64 0) 1 8 Tryd.underlying59 hi hz0 hz1 hz2 rfl (by decide) _ _ _ rfl (owned_alloc (unhide HO) _) _ 1 1 [.int .i64 (k : Int)] rfl rfl (cell_one_new _ _ _) (by intro u hu; simp at hu; subst hu; rfl) (by unfold maxLen; omega) (by omega) (by have := (unhide HB).size; simp; omega) ?_))
          intro v' w2 hown hgrow _
          have B2 := hide (growW (unhide HO) (unhide HB) (unhide HB).size hgrow)
          have O2 : Hid (w2.ownsRow w.heap.size 3 1 v' (alk L (k + 1)).length ((alk L (k + 1)).map (Value.int .i64))) := hide (by rw [unhide HA, List.length_append, List.map_append]; exact hown)
          clear hown hgrow
          go_wp2
          go_roundw
          case rel => exact ⟨k + 1, by omega, by go_num, by rw [unhide HN], O2, B2⟩
          case measure => simp [intOf]; omega
        | false =>
          rw [hc] at CC HP
          rw [Bool.false_or] at HP
          clear hc
          cases hs : (cat q == 2) with
          | true =>
            rw [hs] at CS HP
            rw [Bool.true_or] at HP
            clear hs CM
            have HA := hide ((unhide HY) (unhide HP))
            clear HY HF HP
            go_wp2_with (first
              | (go_at_call 66; refine ((unhide CC) _ (unhide T1)).mono ?_; rintro e w1 ⟨rfl, hb1⟩; replace T1 := hide ((unhide T1).below hb1); replace HO := hide (ownW_below (unhide HO) hb1); replace HB := hide ((unhide HB).trans (hb1.mono (unhide HB).size)); clear hb1)
              | (go_at_call 67; refine ((unhide CS) _ (unhide T1)).mono ?_; rintro e w1 ⟨rfl, hb1⟩; replace T1 := hide ((unhide T1).below hb1); replace HO := hide (ownW_below (unhide HO) hb1); replace HB := hide ((unhide HB).trans (hb1.mono (unhide HB).size)); clear hb1)
              | (at_builtin; refine wpList_append_own _ rfl _ _ 59 rfl w.heap.size 3 i0 (.int .i64 0) 1 8 Tryd.underlying59 hi hz0 hz1 hz2 rfl (by decide) _ _ _ rfl (owned_alloc (unhide HO) _) _ 1 1 [.int .i64 (k : Int)] rfl rfl (cell_one_new _ _ _) (by intro u hu; simp at hu; subst hu; rfl) (by unfold maxLen; omega) (by omega) (by have := (unhide HB).size; simp; omega) ?_))
            intro v' w2 hown hgrow _
            have B2 := hide (growW (unhide HO) (unhide HB) (unhide HB).size hgrow)
            have O2 : Hid (w2.ownsRow w.heap.size 3 1 v' (alk L (k + 1)).length ((alk L (k + 1)).map (Value.int .i64))) := hide (by rw [unhide HA, List.length_append, List.map_append]; exact hown)
            clear hown hgrow
            go_wp2
            go_roundw
            case rel => exact ⟨k + 1, by omega, by go_num, by rw [unhide HN], O2, B2⟩
            case measure => simp [intOf]; omega
          | false =>
            rw [hs] at CS HP
            rw [Bool.false_or] at HP
            clear hs
            cases hm : mbl p with
            | true =>
              rw [hm] at CM HP
              clear hm
              have HA := hide ((unhide HF) (unhide HP))
              rw [← unhide HA] at HO
              clear HY HF HP HA
              go_wp2_with (first
                | (go_at_call 66; refine ((unhide CC) _ (unhide T1)).mono ?_; rintro e w1 ⟨rfl, hb1⟩; replace T1 := hide ((unhide T1).below hb1); replace HO := hide (ownW_below (unhide HO) hb1); replace HB := hide ((unhide HB).trans (hb1.mono (unhide HB).size)); clear hb1)
                | (go_at_call 67; refine ((unhide CS) _ (unhide T1)).mono ?_; rintro e w1 ⟨rfl, hb1⟩; replace T1 := hide ((unhide T1).below hb1); replace HO := hide (ownW_below (unhide HO) hb1); replace HB := hide ((unhide HB).trans (hb1.mono (unhide HB).size)); clear hb1)
                | (go_at_call 68; refine ((unhide CM) _ (unhide T1)).mono ?_; rintro e w1 ⟨rfl, hb1⟩; replace T1 := hide ((unhide T1).below hb1); replace HO := hide (ownW_below (unhide HO) hb1); replace HB := hide ((unhide HB).trans (hb1.mono (unhide HB).size)); clear hb1))
              go_roundw
              case rel => exact ⟨k + 1, by omega, by go_num, by rw [unhide HN], HO, HB⟩
              case measure => simp [intOf]; omega
            | false =>
              rw [hm] at CM HP
              clear hm
              have HA := hide ((unhide HY) (unhide HP))
              clear HY HF HP
              go_wp2_with (first
                | (go_at_call 66; refine ((unhide CC) _ (unhide T1)).mono ?_; rintro e w1 ⟨rfl, hb1⟩; replace T1 := hide ((unhide T1).below hb1); replace HO := hide (ownW_below (unhide HO) hb1); replace HB := hide ((unhide HB).trans (hb1.mono (unhide HB).size)); clear hb1)
                | (go_at_call 67; refine ((unhide CS) _ (unhide T1)).mono ?_; rintro e w1 ⟨rfl, hb1⟩; replace T1 := hide ((unhide T1).below hb1); replace HO := hide (ownW_below (unhide HO) hb1); replace HB := hide ((unhide HB).trans (hb1.mono (unhide HB).size)); clear hb1)
                | (go_at_call 68; refine ((unhide CM) _ (unhide T1)).mono ?_; rintro e w1 ⟨rfl, hb1⟩; replace T1 := hide ((unhide T1).below hb1); replace HO := hide (ownW_below (unhide HO) hb1); replace HB := hide ((unhide HB).trans (hb1.mono (unhide HB).size)); clear hb1)
                | (at_builtin; refine wpList_append_own _ rfl _ _ 59 rfl w.heap.size 3 i0 (.int .i64 0) 1 8 Tryd.underlying59 hi hz0 hz1 hz2 rfl (by decide) _ _ _ rfl (owned_alloc (unhide HO) _) _ 1 1 [.int .i64 (k : Int)] rfl rfl (cell_one_new _ _ _) (by intro u hu; simp at hu; subst hu; rfl) (by unfold maxLen; omega) (by omega) (by have := (unhide HB).size; simp; omega) ?_))
              intro v' w2 hown hgrow _
              have B2 := hide (growW (unhide HO) (unhide HB) (unhide HB).size hgrow)
              have O2 : Hid (w2.ownsRow w.heap.size 3 1 v' (alk L (k + 1)).length ((alk L (k + 1)).map (Value.int .i64))) := hide (by rw [unhide HA, List.length_append, List.map_append]; exact hown)
              clear hown hgrow
              go_wp2
              go_roundw
              case rel => exact ⟨k + 1, by omega, by go_num, by rw [unhide HN], O2, B2⟩
              case measure => simp [intOf]; omega
    · obtain rfl : k = L.length := by omega
      have hlt' : ¬ (L.length : Int) < (L.length : Int) := by omega
      go_wp2
      go_ret
      exact ⟨_, rfl, unhide HO, unhide HB⟩
end Wrd
end Go.Proofs.YtbecklokapcgbaaDoor
