/- The program's SpansOf: the longest stretches of one value. -/
import Derived.Test.YtbkeaoplncaihaaDoorKdV
import Derived.WalkKit
import Derived.WalkLawsBesides
import Derived.WalkSpells
import Derived.Below
namespace Go.Proofs.YtbkeaoplncaihaaDoor.Kd
open Go.RowKit
theorem infoSp : (Tryd.prog.info? 33).map (fun i => (i.zero, i.size, i.bytes)) = some (some (.agg #[.int .i64 0, .int .i64 0, .int .i64 0]), 3, 24) := by kernel_rfl
/-- The cells of spans. -/
def cells (L : List Sp) : List Value := L.flatMap fun r => [.int .i64 r.1, .int .i64 r.2.1, .int .i64 r.2.2]
theorem cells_len (L : List Sp) : (cells L).length = L.length * 3 := by
  induction L with
  | nil => rfl
  | cons a t ih =>
    have : cells (a :: t) = [.int .i64 a.1, .int .i64 a.2.1, .int .i64 a.2.2] ++ cells t := rfl
    rw [this, List.length_append, ih, List.length_cons]; simp; omega
theorem cells_snoc (L : List Sp) (r : Sp) : cells (L ++ [r]) = cells L ++ [.int .i64 r.1, .int .i64 r.2.1, .int .i64 r.2.2] := by
  unfold cells; rw [List.flatMap_append, List.flatMap_singleton]
/-- Spans in a row of the call's own. -/
def SpRow (w : World) (B : Nat) (v : Value) (L : List Sp) : Prop := w.ownsRow B 33 3 v L.length (cells L)
theorem SpRow.below {w w' : World} {B : Nat} {v : Value} {L : List Sp} (h : SpRow w B v L) (hb : Below w.heap.size w w') : SpRow w' B v L := by
  refine ⟨h.1, ?_⟩
  rcases h.2 with h' | ⟨g, cap, cur, hv, hg, hh, r⟩
  · exact .inl h'
  · have hlt : g < w.heap.size := (Array.getElem?_eq_some_iff.1 hh).1
    exact .inr ⟨g, cap, cur, hv, hg, (hb.block g hlt).trans hh, r⟩
theorem three_new (w : World) (x y z : Value) (t : TypeId) : ∀ j u, [x, y, z][j]? = some u → (w.alloc (.cells #[x, y, z] t)).cell? ((⟨w.heap.size, 0, none⟩ : Addr).add j) = some u := by
  intro j u hj
  match j, hj with
  | 0, hj => simp at hj; subst hj; simp [Addr.add]
  | 1, hj => simp at hj; subst hj; simp [Addr.add]
  | 2, hj => simp at hj; subst hj; simp [Addr.add]
  | (j + 3), hj => simp at hj
theorem three_one (x y z : Int) : ∀ u ∈ [Value.int .i64 x, Value.int .i64 y, Value.int .i64 z], u.oneCell' = true := by
  intro u hu; simp at hu; rcases hu with rfl | rfl | rfl <;> rfl
/-- One span more. -/
theorem sp_step {w wr w3 : World} {v v' : Value} {L : List Sp} {x y z : Int} {o : Obj} (hb : Below w.heap.size w wr) (h : SpRow wr w.heap.size v L)
    (ho : w3.ownsRow w.heap.size 33 3 v' (L.length + 1) (cells L ++ [.int .i64 x, .int .i64 y, .int .i64 z])) (hg : (wr.alloc o).grownBy w3 v.ownBlock) :
    SpRow w3 w.heap.size v' (L ++ [(x, y, z)]) ∧ Below w.heap.size w w3 := by
  refine ⟨?_, (hb.alloc hb.size o).grown hg (by have := hb.size; simp; omega) (fun j hj => (h.lt j hj).1)⟩
  unfold SpRow
  rw [cells_snoc, List.length_append]
  exact ho
theorem clo_any (k p : Int) (g : Nat) (hk : 1 ≤ k ∧ k ≤ 4) (w : World) (ht : TabAt w) (hc : w.cell? ⟨g, 0, none⟩ = some (.int .i64 k)) :
    Calls Tryd.prog 31 #[.int .i64 p, .pointer (some ⟨g, 0, none⟩)] w fun e w' => e = .returned (.int .i64 (valW k p)) ∧ Below w.heap.size w w' := by
  have HK := hide hk
  have HT := hide ht
  clear hk ht
  go_enter Tryd.func31, Tryd.ntmps31
  go_wp2_with fail
  refine (propertyOf_any k p (unhide HK) _ (unhide HT)).mono ?_
  rintro e w1 ⟨rfl, hb1⟩
  have HB := hide hb1
  clear hb1
  go_wp2
  go_ret
  exact ⟨rfl, unhide HB⟩
set_option maxHeartbeats 2000000 in
theorem spansByP (k : Int) (hk : 1 ≤ k ∧ k ≤ 4) (g : Nat) (w : World) (ht : TabAt w) (hc : w.cell? ⟨g, 0, none⟩ = some (.int .i64 k)) :
    Calls Tryd.prog 30 #[.func (.func 31) #[] #[.pointer (some ⟨g, 0, none⟩)]] w fun e w' => ∃ (v : Value) (L : List Sp), e = .returned v ∧ RunsR (valW k) L.reverse 32768 ∧ L.length ≤ 32768 ∧ SpRow w' w.heap.size v L ∧ Below w.heap.size w w' := by
  obtain ⟨i0, hi, hz0, hz1, hz2⟩ := info_parts infoSp
  have H := hide ht
  have HK := hide hk
  have HC0 := hide hc
  have hgl : g < w.heap.size := block_lt_of_cell (a := ⟨g, 0, none⟩) hc
  clear ht hk hc
  go_enter Tryd.func30, Tryd.ntmps30
  go_wp2_with fail
  refine (clo_any k 0 g (unhide HK) _ (unhide H) (unhide HC0)).mono ?_
  rintro e w1 ⟨rfl, hb1⟩
  have HB0 := hide hb1
  have HO0 : Hid (SpRow w1 w.heap.size (.slice none 0 0) []) := hide (World.ownsRow_nil _ _ _ _)
  clear hb1
  go_wp2
  go_loopw [3, 4, 5, 6] (fun sv fv vv pv wr => ∃ (L : List Sp) (x q : Nat) (v : Int), 1 ≤ q ∧ q ≤ 32768 ∧ x < q ∧ L.length ≤ x ∧ pv = .int .i64 q ∧ fv = .int .i64 x ∧ vv = .int .i64 v ∧ Hid (SpRow wr w.heap.size sv L) ∧ Hid (Below w.heap.size w wr) ∧ Hid (RunsR (valW k) L.reverse x) ∧ Hid (∀ r : Int, (x : Int) ≤ r → r < (q : Int) → valW k r = v) ∧ Hid (headNe L.reverse v)) (fun _ _ _ p _ => 32768 - (intOf p).toNat)
  case atStart => exact ⟨[], 0, 1, valW k 0, by omega, by omega, by omega, by simp, rfl, rfl, rfl, HO0, HB0, hide rfl, hide (fun r h1 h2 => by rw [show r = 0 by omega]), hide (headNe_nil _)⟩
  case round =>
    obtain ⟨L, x, q, v, hq1, hq2, hxq, hLx, rfl, rfl, rfl, HO, HB, HR, HC, HN⟩ := hrel
    clear HO0 HB0
    have hBs := (unhide HB).size
    by_cases hlt : q ≤ 32767
    · have hlt' : (q : Int) ≤ 32767 := by omega
      go_wp2_with fail
      refine (clo_any k q g (unhide HK) _ ((unhide H).below (unhide HB)) (((unhide HB).cell (p := ⟨g, 0, none⟩) hgl).trans (unhide HC0))).mono ?_
      rintro e w2 ⟨rfl, hb2⟩
      have HO2 := hide ((unhide HO).below hb2)
      have HB2 := hide ((unhide HB).trans (hb2.mono hBs))
      have hB2s := hb2.size
      clear hb2
      cases hv : (valW k q != v)
      · have hv' : valW k q = v := by simpa using hv
        have HC' : Hid (∀ r : Int, (x : Int) ≤ r → r < ((q + 1 : Nat) : Int) → valW k r = v) := hide (fun r h1 h2 => by
          by_cases e : r = (q : Int)
          · rw [e]; exact hv'
          · exact (unhide HC) r h1 (by omega))
        clear hv'
        go_wp2
        go_roundw
        case rel => exact ⟨L, x, q + 1, v, by omega, by omega, by omega, hLx, by go_num, rfl, rfl, HO2, HB2, HR, HC', HN⟩
        case measure => simp [intOf]; omega
      · have hv' : valW k q ≠ v := by simpa using hv
        have hR' : RunsR (valW k) (L ++ [((x : Int), (q : Int) - 1, v)]).reverse q := by
          rw [List.reverse_append]
          have := runs_new (unhide HR) (show (x : Int) ≤ (q : Int) - 1 by omega) (fun r h1 h2 => (unhide HC) r h1 (by omega)) (unhide HN)
          rwa [show (q : Int) - 1 + 1 = q by omega] at this
        have HR' := hide hR'
        have HN' : Hid (headNe (L ++ [((x : Int), (q : Int) - 1, v)]).reverse (valW k q)) := hide (by rw [List.reverse_append]; exact headNe_cons _ _ _ (Ne.symm hv'))
        have HC' : Hid (∀ r : Int, (q : Int) ≤ r → r < ((q + 1 : Nat) : Int) → valW k r = valW k q) := hide (fun r h1 h2 => by rw [show r = (q : Int) by omega])
        clear hR' hv'
        generalize valW k q = v2 at *
        go_wp2_with (at_builtin; refine wpList_append_own _ rfl _ _ 28 rfl w.heap.size 33 i0 (.agg #[.int .i64 0, .int .i64 0, .int .i64 0]) 3 24 Tryd.underlying28 hi hz0 hz1 hz2 rfl (by decide) _ _ _ rfl (World.ownsRow.alloc (unhide HO2) _) ⟨w2.heap.size, 0, none⟩ 1 1 [.int .i64 x, .int .i64 ((q : Int) - 1), .int .i64 v] rfl rfl ?c1 ?c2 ?c3 ?c4 ?c5 ?_)
        case c1 => exact three_new _ _ _ _ _
        case c2 => exact three_one _ _ _
        case c3 => unfold maxLen; omega
        case c4 => omega
        case c5 => simp; omega
        intro v' w3 hown' hgrow _
        have R := hide (sp_step (unhide HB2) (unhide HO2) hown' hgrow)
        clear hown' hgrow
        go_wp2
        go_roundw
        case rel => exact ⟨L ++ [((x : Int), (q : Int) - 1, v)], q, q + 1, v2, by omega, by omega, by omega, by simp; omega, by go_num, rfl, rfl, hide (unhide R).1, hide (unhide R).2, HR', HC', HN'⟩
        case measure => simp [intOf]; omega
    · obtain rfl : q = 32768 := by omega
      have HR' : Hid (RunsR (valW k) (L ++ [((x : Int), 32767, v)]).reverse 32768) := hide (by
        rw [List.reverse_append]
        exact runs_new (unhide HR) (show (x : Int) ≤ 32767 by omega) (fun r h1 h2 => (unhide HC) r h1 (by omega)) (unhide HN))
      go_wp2_with (at_builtin; refine wpList_append_own _ rfl _ _ 28 rfl w.heap.size 33 i0 (.agg #[.int .i64 0, .int .i64 0, .int .i64 0]) 3 24 Tryd.underlying28 hi hz0 hz1 hz2 rfl (by decide) _ _ _ rfl (World.ownsRow.alloc (unhide HO) _) ⟨wr.heap.size, 0, none⟩ 1 1 [.int .i64 x, .int .i64 32767, .int .i64 v] rfl rfl ?c1 ?c2 ?c3 ?c4 ?c5 ?_)
      case c1 => exact three_new _ _ _ _ _
      case c2 => exact three_one _ _ _
      case c3 => unfold maxLen; omega
      case c4 => omega
      case c5 => simp; omega
      intro v' w3 hown' hgrow _
      have R := hide (sp_step (unhide HB) (unhide HO) hown' hgrow)
      clear hown' hgrow
      go_wp2
      go_ret
      exact ⟨_, _, rfl, unhide HR', by simp; omega, (unhide R).1, (unhide R).2⟩
set_option maxHeartbeats 2000000 in
theorem implSpans (k : Int) (hk : 1 ≤ k ∧ k ≤ 4) (w : World) (ht : TabAt w) :
    Calls Tryd.prog 15 #[.int .i64 k] w fun e w' => ∃ (v : Value) (L : List Sp), e = .returned v ∧ RunsR (valW k) L.reverse 32768 ∧ L.length ≤ 32768 ∧ SpRow w' w.heap.size v L ∧ Below w.heap.size w w' := by
  have H := hide ht
  have HK := hide hk
  have k1 : ¬ k < 1 := by omega
  have k4 : ¬ 4 < k := by omega
  have W1 : Hid (Below w.heap.size w (w.alloc (.cells #[.int .i64 k] 2))) := hide ((Below.refl _ _).alloc (Nat.le_refl _) _)
  have c1 : (w.alloc (.cells #[.int .i64 k] 2)).cell? ⟨w.heap.size, 0, none⟩ = some (.int .i64 k) := by simp
  have C1 := hide c1
  clear ht hk c1
  go_enter Tryd.func15, Tryd.ntmps15
  go_wp2_with fail
  refine (spansByP k (unhide HK) w.heap.size _ ((unhide H).below (unhide W1)) (unhide C1)).mono ?_
  rintro e w2 ⟨v, L, rfl, hr, hl, hs, hb⟩
  have hs' : SpRow w2 w.heap.size v L := by
    refine ⟨hs.1, ?_⟩
    rcases hs.2 with h' | ⟨g, cap, cur, hv, hg, r⟩
    · exact .inl h'
    · exact .inr ⟨g, cap, cur, hv, by simp at hg; omega, r⟩
  have R := hide (⟨hr, hl, hs', (unhide W1).trans (hb.mono (unhide W1).size)⟩ : _ ∧ _ ∧ _ ∧ _)
  clear hr hl hs hs' hb
  go_wp2
  go_ret
  exact ⟨_, _, rfl, (unhide R).1, (unhide R).2.1, (unhide R).2.2.1, (unhide R).2.2.2⟩
end Go.Proofs.YtbkeaoplncaihaaDoor.Kd
