/- What a trie tells of all points, as spans: the program. -/
import Derived.Test.YtnaebifmnhgjiaaSpsL
import Derived.Test.YtnaebifmnhgjiaaTriA
namespace Go.Proofs.Ytnaebifmnhgjiaa
open Go.RowKit
def fTrie (ix dt : List Int) (p : Int) : Int := atP ix dt p.toNat
set_option maxHeartbeats 4000000 in
set_option maxRecDepth 100000 in
theorem spansBy_trie (vi vd : Value) (ix dt : List Int) (w : World) (hi : DatAt w w.heap.size vi ix) (hd : DatAt w w.heap.size vd dt) (li : ix.length ≤ 1048576) (ld : dt.length ≤ 1048576) (ho : TrieOk ix dt) :
    Calls Try.prog 60 #[.func (.func 58) #[.agg #[vi, vd]] #[]] w fun e w' => ∃ (v : Value) (L : List Sp), e = .returned v ∧ RunsR (fTrie ix dt) L.reverse 32768 ∧ L.length ≤ 32768 ∧ SpRow w' w.heap.size v L ∧ Below w.heap.size w w' := by
  obtain ⟨i0, hz, hz0, hz1, hz2⟩ := info_parts infoSp
  have C : Hid (∀ (q : Nat) (W : World), q < 32768 → Below w.heap.size w W → Calls Try.prog 58 #[.agg #[vi, vd], .int .i64 q] W fun e w' => e = .returned (.int .i64 (fTrie ix dt q)) ∧ Below W.heap.size W w') := hide (fun q W hq hW => (valueAt_any vi vd ix dt q W (hi.below hW) (hd.below hW) li ld ho hq).mono (fun e w' ⟨he, hb⟩ => ⟨by rw [he]; unfold fTrie; rw [Int.toNat_natCast], hb⟩))
  obtain ⟨ai, ci, rfl, _, _⟩ := hi
  obtain ⟨ad, cd, rfl, _, _⟩ := hd
  clear ho
  go_enter Try.func60, Try.ntmps60
  go_wp2_with fail
  refine ((unhide C) 0 _ (by omega) (Below.refl _ _)).mono ?_
  rintro e w1 ⟨rfl, hb1⟩
  have HB0 := hide hb1
  have HO0 : Hid (SpRow w1 w.heap.size (.slice none 0 0) []) := hide (World.ownsRow_nil _ _ _ _)
  clear hb1
  generalize hf : fTrie ix dt = F at *
  have HF := hide hf
  clear hf
  go_wp2
  go_loopw [3, 4, 5, 6] (fun sv fv vv pv wr => ∃ (L : List Sp) (x q : Nat) (v : Int), 1 ≤ q ∧ q ≤ 32768 ∧ x < q ∧ L.length ≤ x ∧ pv = .int .i64 q ∧ fv = .int .i64 x ∧ vv = .int .i64 v ∧ Hid (SpRow wr w.heap.size sv L) ∧ Hid (Below w.heap.size w wr) ∧ Hid (RunsR F L.reverse x) ∧ Hid (∀ r : Int, (x : Int) ≤ r → r < (q : Int) → F r = v) ∧ Hid (headNe L.reverse v)) (fun _ _ _ p _ => 32768 - (intOf p).toNat)
  case atStart => exact ⟨[], 0, 1, F ((0 : Nat) : Int), by omega, by omega, by omega, by simp, rfl, rfl, rfl, HO0, HB0, hide rfl, hide (fun r h1 h2 => by rw [show r = ((0 : Nat) : Int) by omega]), hide (headNe_nil _)⟩
  case round =>
    obtain ⟨L, x, q, v, hq1, hq2, hxq, hLx, rfl, rfl, rfl, HO, HB, HR, HC, HN⟩ := hrel
    clear HO0 HB0
    have hBs := (unhide HB).size
    by_cases hlt : q ≤ 32767
    · have hlt' : (q : Int) ≤ 32767 := by omega
      go_wp2_with fail
      refine ((unhide C) q _ (by omega) (unhide HB)).mono ?_
      rintro e w2 ⟨rfl, hb2⟩
      have HO2 := hide ((unhide HO).below hb2)
      have HB2 := hide ((unhide HB).trans (hb2.mono hBs))
      have hB2s := hb2.size
      clear hb2
      cases hv : (F q != v)
      · have hv' : F q = v := by simpa using hv
        have HC' : Hid (∀ r : Int, (x : Int) ≤ r → r < ((q + 1 : Nat) : Int) → F r = v) := hide (fun r h1 h2 => by
          by_cases e : r = (q : Int)
          · rw [e]; exact hv'
          · exact (unhide HC) r h1 (by omega))
        clear hv'
        go_wp2
        go_roundw
        case rel => exact ⟨L, x, q + 1, v, by omega, by omega, by omega, hLx, by go_num, rfl, rfl, HO2, HB2, HR, HC', HN⟩
        case measure => simp [intOf]; omega
      · have hv' : F q ≠ v := by simpa using hv
        have hR' : RunsR F (L ++ [((x : Int), (q : Int) - 1, v)]).reverse q := by
          rw [List.reverse_append]
          have := runs_new (unhide HR) (show (x : Int) ≤ (q : Int) - 1 by omega) (fun r h1 h2 => (unhide HC) r h1 (by omega)) (unhide HN)
          rwa [show (q : Int) - 1 + 1 = q by omega] at this
        have HR' := hide hR'
        have HN' : Hid (headNe (L ++ [((x : Int), (q : Int) - 1, v)]).reverse (F q)) := hide (by rw [List.reverse_append]; exact headNe_cons _ _ _ (Ne.symm hv'))
        have HC' : Hid (∀ r : Int, (q : Int) ≤ r → r < ((q + 1 : Nat) : Int) → F r = F q) := hide (fun r h1 h2 => by rw [show r = (q : Int) by omega])
        clear hR' hv'
        generalize F q = v2 at *
        go_wp2_with (at_builtin; refine wpList_append_own _ rfl _ _ 25 rfl w.heap.size 54 i0 (.agg #[.int .i64 0, .int .i64 0, .int .i64 0]) 3 24 Try.underlying25 hz hz0 hz1 hz2 rfl (by decide) _ _ _ rfl (World.ownsRow.alloc (unhide HO2) _) ⟨w2.heap.size, 0, none⟩ 1 1 [.int .i64 x, .int .i64 ((q : Int) - 1), .int .i64 v] rfl rfl ?c1 ?c2 ?c3 ?c4 ?c5 ?_)
        case c1 => exact three_new _ _ _ _ _
        case c2 => exact three_one _ _ _
        case c3 => unfold maxLen; omega
        case c4 => omega
        case c5 => simp; omega
        intro v' w3 hown' hgrow _
        have R := hide (sp_step (unhide HB2) (unhide HO2) hown' hgrow)
        clear hown' hgrow
        go_wp2
        go_roundw
        case rel => exact ⟨L ++ [((x : Int), (q : Int) - 1, v)], q, q + 1, v2, by omega, by omega, by omega, by simp; omega, by go_num, rfl, rfl, hide (unhide R).1, hide (unhide R).2, HR', HC', HN'⟩
        case measure => simp [intOf]; omega
    · obtain rfl : q = 32768 := by omega
      have HR' : Hid (RunsR F (L ++ [((x : Int), 32767, v)]).reverse 32768) := hide (by
        rw [List.reverse_append]
        exact runs_new (unhide HR) (show (x : Int) ≤ 32767 by omega) (fun r h1 h2 => (unhide HC) r h1 (by omega)) (unhide HN))
      go_wp2_with (at_builtin; refine wpList_append_own _ rfl _ _ 25 rfl w.heap.size 54 i0 (.agg #[.int .i64 0, .int .i64 0, .int .i64 0]) 3 24 Try.underlying25 hz hz0 hz1 hz2 rfl (by decide) _ _ _ rfl (World.ownsRow.alloc (unhide HO) _) ⟨wr.heap.size, 0, none⟩ 1 1 [.int .i64 x, .int .i64 32767, .int .i64 v] rfl rfl ?c1 ?c2 ?c3 ?c4 ?c5 ?_)
      case c1 => exact three_new _ _ _ _ _
      case c2 => exact three_one _ _ _
      case c3 => unfold maxLen; omega
      case c4 => omega
      case c5 => simp; omega
      intro v' w3 hown' hgrow _
      have R := hide (sp_step (unhide HB) (unhide HO) hown' hgrow)
      clear hown' hgrow
      go_wp2
      go_ret
      exact ⟨_, _, rfl, by rw [unhide HF]; exact unhide HR', by simp; omega, (unhide R).1, (unhide R).2⟩
end Go.Proofs.Ytnaebifmnhgjiaa
