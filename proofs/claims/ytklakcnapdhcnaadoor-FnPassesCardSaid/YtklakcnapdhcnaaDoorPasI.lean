/- A rule that is right, as the program tells it. -/
import Derived.Test.YtklakcnapdhcnaaDoorPasC
import Derived.Test.YtklakcnapdhcnaaDoorPasP
import Derived.Test.YtklakcnapdhcnaaDoorNPointsC
import Derived.Test.YtklakcnapdhcnaaDoorShelf
import Derived.Deep.RegionHeld3
import Derived.Deep.Cut
import Derived.Deep.CutRange
namespace Go.Proofs.YtklakcnapdhcnaaDoor.Pas
open Go.RowKit
set_option linter.unusedVariables false
theorem tkP {P : Program} {ops : Array Oper} {Q : Exit → Act → World → Prop} {md : Region.Mode} {S : World → Prop} {i : Nat} {oi : Oper} {d : Option Tmp} {v : Value} {fuel : Nat} {listed : Array Bool} {a : Act} {w : World} (hi : ops[i]? = some oi) (hd : oi.dst = d)
    (hs : Region.noSelect ops = true) (hf : Region.free md ops listed i = true) (hr : (Region.ready md ops listed).contains i = true)
    (hQ : ∀ c a w, Q (.panic c) (a.put d v) w → Q (.panic c) a w) (hy : YieldsIf P ops S oi v a) (hS : S w)
    (h : wpAnyH P md ops Q S fuel (listed.setIfInBounds i true) (a.put d v) w) : wpAnyH P md ops Q S (fuel + 1) listed a w := by
  subst hd
  exact wpAnyH_take hi hs hf hr hQ hy hS h
set_option maxRecDepth 100000 in
set_option maxHeartbeats 1000000 in
theorem count_any (s : ByteArray) (w : World) (hs : s.size ≤ 65536) : Calls Tryd.prog 43 #[.string s] w fun e w' => e = .returned (.int .i64 ((pts s).length : Int)) ∧ Below w.heap.size w w' := by
  have HB0 : Hid (Below w.heap.size w (w.iter s 0)) := hide ((Below.refl _ _).alloc (Nat.le_refl _) _)
  have HI0 : Hid ((w.iter s 0).heap[w.heap.size]? = some (.stringIter s 0)) := hide (World.iter_heap w s 0)
  go_enter Tryd.func43, Tryd.ntmps43
  go_wp2
  go_loopw [2] (fun v wr => ∃ (n : Nat) (L : List Int) (pos : Nat), v = .int .i64 (L.length : Int) ∧ Hid (steps s n = (L, pos)) ∧ pos ≤ s.size ∧ L.length ≤ pos ∧ Hid (wr.heap[w.heap.size]? = some (.stringIter s pos)) ∧ Hid (Below w.heap.size w wr)) (fun _ wr => s.size - wr.iterPos w.heap.size)
  case atStart => exact ⟨0, [], 0, rfl, hide rfl, by omega, by simp, HI0, HB0⟩
  case round =>
    obtain ⟨n, L, pos, rfl, HS, hpos, hL, HI, HB⟩ := hrel
    clear HB0 HI0
    have HM := hide (iterPos_of (unhide HI))
    by_cases hlt : pos < s.size
    · have hbd := dN_bd s pos hlt
      have d1 := hbd.1
      have d2 := hbd.2.1
      have hBs := (unhide HB).size
      have HS' := hide (pts_step (unhide HS) hlt)
      have hnx : ∀ ty, (Instr.next (.pointer (some ⟨w.heap.size, 0, none⟩)) true ty).run Tryd.prog wr = .ok (.tuple #[.bool true, .int .i64 pos, .int .i32 (dP s pos)]) (wr.iterAt w.heap.size s (pos + dN s pos)) := fun ty => Lib.run_next_any_at wr _ s pos ty (unhide HI) hlt
      obtain ⟨w2, hw2⟩ : ∃ w2, wr.iterAt w.heap.size s (pos + dN s pos) = w2 := ⟨_, rfl⟩
      rw [hw2] at hnx
      have HI2 : Hid (w2.heap[w.heap.size]? = some (.stringIter s (pos + dN s pos))) := hide (by rw [← hw2]; exact Lib.iterAt_heap wr _ s pos _ (unhide HI))
      have HB2 : Hid (Below w.heap.size w w2) := hide (by rw [← hw2]; exact Lib.below_iterAt (unhide HB) (Nat.le_refl _) _ _)
      have HM3 := hide (iterPos_of (unhide HI2))
      clear hbd hw2
      go_wp2
      go_roundw
      case rel => exact ⟨n + 1, L ++ [(dP s pos : Int)], pos + dN s pos, by simp, HS', by omega, by simp; omega, HI2, HB2⟩
      case measure => rw [unhide HM, unhide HM3]; omega
    · have hnx : ∀ ty, (Instr.next (.pointer (some ⟨w.heap.size, 0, none⟩)) true ty).run Tryd.prog wr = .ok (.tuple #[.bool false]) wr := fun ty => Lib.run_next_end_at wr _ s pos ty (unhide HI) hlt
      have e := steps_pts s n (by rw [unhide HS]; show s.size ≤ pos; omega)
      rw [unhide HS] at e
      have e' : L = pts s := e
      have HL := hide (congrArg List.length e')
      clear e e'
      go_wp2
      go_ret
      exact ⟨by rw [← unhide HL]; rfl, unhide HB⟩
theorem in_any (p a b : Int) (w : World) (q : Bool) (h : decide (a ≤ p ∧ p ≤ b) = q) : Calls Tryd.prog 25 #[.int .i64 p, .int .i64 a, .int .i64 b] w fun e w' => e = .returned (.bool q) ∧ w' = w := by
  by_cases h1 : a ≤ p
  · by_cases h2 : p ≤ b
    · obtain rfl : q = true := by rw [← h]; exact decide_eq_true ⟨h1, h2⟩
      clear h
      go_enter Tryd.func25, Tryd.ntmps25
      go_wp2
      go_ret
      exact ⟨rfl, rfl⟩
    · obtain rfl : q = false := by rw [← h]; exact decide_eq_false (fun e => h2 e.2)
      clear h
      go_enter Tryd.func25, Tryd.ntmps25
      go_wp2
      go_ret
      exact ⟨rfl, rfl⟩
  · obtain rfl : q = false := by rw [← h]; exact decide_eq_false (fun e => h1 e.1)
    clear h
    go_enter Tryd.func25, Tryd.ntmps25
    go_wp2
    go_ret
    exact ⟨rfl, rfl⟩
/-- The tables that ValidString reads, as they are laid. -/
abbrev Tabs (w : World) : Prop := Lib.Utf8Tabs (Tryd.laysValid_ren.g 3) (Tryd.laysValid_ren.g 4) w
set_option maxRecDepth 100000 in
set_option maxHeartbeats 1000000 in
theorem isRT_any (t : ByteArray) (w : World) (hm : t.size ≤ 9223372036854775807) (hT : Tabs w) : Calls Tryd.prog 42 #[.string t] w fun e w' => e = .returned (.bool (okT t)) ∧ Below w.heap.size w w' := by
  have hU : undef = Value.tuple #[] := rfl
  by_cases h80 : 80 < t.size
  · have HE := hide (okT_big h80)
    have h80' : ¬ (t.size : Int) ≤ 80 := by omega
    clear h80 hT
    generalize okT t = K at *
    go_enter Tryd.func42, Tryd.ntmps42
    go_wp2
    go_ret
    exact ⟨by rw [unhide HE]; rfl, Below.refl _ _⟩
  · have h80' : (t.size : Int) ≤ 80 := by omega
    have cV : Calls Tryd.prog 59 #[.string t] w _ := Any.utf8_ValidString Tryd.laysValid t w (by omega) hT
    have hvb : Lib.validD t.data.toList = vB t := rfl
    rw [hvb] at cV
    have CV := hide cV
    clear cV hvb hT
    have HO : Hid (okT t = (vB t && decide ((pts t).length ≤ 20))) := hide rfl
    generalize okT t = K at *
    cases hv : vB t with
    | false =>
      rw [hv] at CV HO
      have HE : Hid (K = false) := hide (by rw [unhide HO]; rfl)
      clear hv HO
      go_enter Tryd.func42, Tryd.ntmps42
      go_wp2_with (go_at_call 59; refine (unhide CV).mono ?_; rintro e w2 ⟨rfl, hb2⟩; have B2 := hide hb2; clear hb2)
      go_ret
      exact ⟨by rw [unhide HE]; rfl, unhide B2⟩
    | true =>
      rw [hv] at CV HO
      have CR := hide (fun W => count_any t W (by omega))
      clear hv
      by_cases hl : (pts t).length ≤ 20
      · have HE : Hid (K = true) := hide (by rw [unhide HO, decide_eq_true hl]; rfl)
        have hl' : ((pts t).length : Int) ≤ 20 := by omega
        clear HO hl
        generalize (pts t).length = n at *
        go_enter Tryd.func42, Tryd.ntmps42
        go_wp2_with (first
          | (go_at_call 59; refine (unhide CV).mono ?_; rintro e w2 ⟨rfl, hb2⟩; have B2 := hide hb2; clear hb2)
          | (go_at_call 43; refine ((unhide CR) _).mono ?_; rintro e w3 ⟨rfl, hb3⟩; have B3 := hide ((unhide B2).trans (hb3.mono (unhide B2).size)); clear hb3))
        go_ret
        exact ⟨by rw [unhide HE]; rfl, unhide B3⟩
      · have HE : Hid (K = false) := hide (by rw [unhide HO, decide_eq_false hl]; rfl)
        have hl' : ¬ ((pts t).length : Int) ≤ 20 := by omega
        clear HO hl
        generalize (pts t).length = n at *
        go_enter Tryd.func42, Tryd.ntmps42
        go_wp2_with (first
          | (go_at_call 59; refine (unhide CV).mono ?_; rintro e w2 ⟨rfl, hb2⟩; have B2 := hide hb2; clear hb2)
          | (go_at_call 43; refine ((unhide CR) _).mono ?_; rintro e w3 ⟨rfl, hb3⟩; have B3 := hide ((unhide B2).trans (hb3.mono (unhide B2).size)); clear hb3))
        go_ret
        exact ⟨by rw [unhide HE, ← decide_eq_false (show ¬ (n : Int) ≤ 20 by omega)]; rfl, unhide B3⟩
end Go.Proofs.YtklakcnapdhcnaaDoor.Pas
