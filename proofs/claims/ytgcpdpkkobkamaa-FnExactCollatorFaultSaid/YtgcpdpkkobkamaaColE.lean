/- Rows of entries: a text and a row of elements each; how large they are, a copy, what is alike. -/
import Derived.Test.YtgcpdpkkobkamaaMA
namespace Go.Proofs.Ytgcpdpkkobkamaa.Col
open Go.RowKit
set_option linter.unusedVariables false
abbrev En := ByteArray × List Sp
def ge (E : List En) (i : Nat) : En := E.getD i (ByteArray.empty, [])
/-- A slice value that holds just the entries E; R: how a row of elements lies. -/
def EnAt (R : World → Value → List Sp → Prop) (w : World) (v : Value) (E : List En) : Prop :=
  ∃ a cap, v = .slice a E.length cap ∧ (E = [] ∨ ∃ b off, a = some ⟨b, off, none⟩ ∧ b < w.heap.size ∧ ∀ i, i < E.length → w.cell? ⟨b, off + i * 2, none⟩ = some (.string (ge E i).1) ∧ ∃ u, w.cell? ⟨b, off + i * 2 + 1, none⟩ = some u ∧ R w u (ge E i).2)
theorem EnAt.below {R : World → Value → List Sp → Prop} (hR : ∀ w w' v L, R w v L → Below w.heap.size w w' → R w' v L) {w w' : World} {v : Value} {E : List En} (h : EnAt R w v E) (hb : Below w.heap.size w w') : EnAt R w' v E := by
  obtain ⟨a, cap, rfl, h⟩ := h
  refine ⟨a, cap, rfl, ?_⟩
  rcases h with h | ⟨b, off, rfl, hbs, hc⟩
  · exact .inl h
  · refine .inr ⟨b, off, rfl, Nat.lt_of_lt_of_le hbs hb.size, fun i hi => ?_⟩
    obtain ⟨c1, u, c2, hu⟩ := hc i hi
    exact ⟨(hb.cell (p := ⟨b, off + i * 2, none⟩) hbs).trans c1, u, (hb.cell (p := ⟨b, off + i * 2 + 1, none⟩) hbs).trans c2, hR _ _ _ _ hu hb⟩
theorem keepS : ∀ w w' v L, SpsAt w v L → Below w.heap.size w w' → SpsAt w' v L := fun _ _ _ _ h hb => h.below hb
def Rr (B : Nat) (w : World) (v : Value) (L : List Sp) : Prop := SpRow w B v L
theorem keepR (B : Nat) : ∀ w w' v L, Rr B w v L → Below w.heap.size w w' → Rr B w' v L := fun _ _ _ _ h hb => SpRow.below h hb
/-- A row of elements of one's own is one that can be read. -/
theorem sps_of {w : World} {B : Nat} {v : Value} {L : List Sp} (h : SpRow w B v L) : SpsAt w v L := by
  obtain ⟨a, c, rfl, hg⟩ := h.form
  refine ⟨a, c, rfl, ?_⟩
  by_cases hl : 0 < L.length
  · obtain ⟨g, rfl, _, hgl⟩ := hg hl
    refine .inr ⟨g, 0, rfl, hgl, fun i hi => ?_⟩
    obtain ⟨h0, h1, h2⟩ := h.read i hi
    rw [Nat.zero_add]
    exact ⟨h0, h1, h2⟩
  · exact .inl (List.length_eq_zero_iff.1 (by omega))
/-- How large entries are. -/
def sz1 (e : En) : Nat := e.1.size + e.2.length
def szk (E : List En) : Nat → Nat
  | 0 => 0
  | k + 1 => szk E k + sz1 (ge E k)
theorem szk_up (E : List En) (i k : Nat) (h : i < k) : sz1 (ge E i) ≤ szk E k := by
  induction k with
  | zero => omega
  | succ k ih =>
    unfold szk
    by_cases e : i = k
    · subst e; omega
    · have := ih (by omega); omega
theorem szk_mono (E : List En) (i k : Nat) (h : i ≤ k) : szk E i ≤ szk E k := by
  induction k with
  | zero => obtain rfl : i = 0 := by omega
            exact Nat.le_refl _
  | succ k ih =>
    by_cases e : i = k + 1
    · subst e; exact Nat.le_refl _
    · have := ih (by omega)
      have e2 : szk E (k + 1) = szk E k + sz1 (ge E k) := rfl
      omega
set_option maxRecDepth 100000 in
set_option maxHeartbeats 2000000 in
theorem szEntry_any (t : ByteArray) (v : Value) (L : List Sp) (m : Int) (w : World) (hv : SpsAt w v L) (hm : 0 ≤ m ∧ m ≤ 1048576) (hL : L.length ≤ 9223372036854775807) (ht : t.size ≤ 9223372036854775807) :
    Calls Try.prog 17 #[.agg #[.string t, v], .int .i64 m] w fun e w' => e = .returned (.int .i64 (if m - ((t.size + L.length : Nat) : Int) < 0 then -1 else m - ((t.size + L.length : Nat) : Int))) ∧ Below w.heap.size w w' := by
  obtain ⟨a, cap, rfl, _⟩ := hv
  have B1 := hide ((Below.refl w.heap.size w).alloc (Nat.le_refl _) (.cells #[.string t, .slice a L.length cap] 50))
  by_cases h1 : m - (t.size : Int) < 0
  · have HE : Hid ((if m - ((t.size + L.length : Nat) : Int) < 0 then (-1 : Int) else m - ((t.size + L.length : Nat) : Int)) = -1) := hide (if_pos (by omega))
    generalize (if m - ((t.size + L.length : Nat) : Int) < 0 then (-1 : Int) else m - ((t.size + L.length : Nat) : Int)) = Q at *
    go_enter Try.func17, Try.ntmps17
    go_wp2
    go_ret
    exact ⟨by rw [unhide HE]; rfl, unhide B1⟩
  · have CS := hide (fun W => szSpans_any a L.length cap (m - (t.size : Int)) (by omega) W hL)
    by_cases h2 : m - (t.size : Int) - (L.length : Int) < 0
    · have HE : Hid ((if m - ((t.size + L.length : Nat) : Int) < 0 then (-1 : Int) else m - ((t.size + L.length : Nat) : Int)) = -1) := hide (if_pos (by omega))
      rw [if_pos h2] at CS
      generalize (if m - ((t.size + L.length : Nat) : Int) < 0 then (-1 : Int) else m - ((t.size + L.length : Nat) : Int)) = Q at *
      go_enter Try.func17, Try.ntmps17
      go_wp2_with (go_at_call 27; refine ((unhide CS) _).mono ?_; rintro e w' ⟨rfl, hw⟩; obtain rfl := hw.symm; clear hw)
      go_ret
      exact ⟨by rw [unhide HE]; rfl, unhide B1⟩
    · have HE : Hid ((if m - ((t.size + L.length : Nat) : Int) < 0 then (-1 : Int) else m - ((t.size + L.length : Nat) : Int)) = m - (t.size : Int) - (L.length : Int)) := hide (by rw [if_neg (by omega)]; omega)
      rw [if_neg h2] at CS
      generalize (if m - ((t.size + L.length : Nat) : Int) < 0 then (-1 : Int) else m - ((t.size + L.length : Nat) : Int)) = Q at *
      go_enter Try.func17, Try.ntmps17
      go_wp2_with (go_at_call 27; refine ((unhide CS) _).mono ?_; rintro e w' ⟨rfl, hw⟩; obtain rfl := hw.symm; clear hw)
      go_ret
      exact ⟨by rw [unhide HE]; rfl, unhide B1⟩
/-- What szEntryS tells: how much is left, or -1. -/
def left (m : Int) (E : List En) : Int := if m - (E.length : Int) - (szk E E.length : Int) < 0 then -1 else m - (E.length : Int) - (szk E E.length : Int)
set_option maxRecDepth 100000 in
set_option maxHeartbeats 2000000 in
theorem szEntries_any (v : Value) (E : List En) (w : World) (hv : EnAt SpsAt w v E) (hE : E.length ≤ 9223372036854775807) (hsz : ∀ i, i < E.length → (ge E i).1.size ≤ 9223372036854775807 ∧ (ge E i).2.length ≤ 9223372036854775807) :
    Calls Try.prog 9 #[v, .int .i64 1048576] w fun e w' => e = .returned (.int .i64 (left 1048576 E)) ∧ Below w.heap.size w w' := by
  obtain ⟨a, cap, rfl, hv⟩ := hv
  have HV := hide hv
  have HZ := hide hsz
  clear hv hsz
  by_cases h0 : (1048576 : Int) - (E.length : Int) < 0
  · have HE : Hid (left 1048576 E = -1) := hide (if_pos (by omega))
    go_enter Try.func9, Try.ntmps9
    go_wp2
    go_ret
    exact ⟨by rw [unhide HE]; rfl, Below.refl _ _⟩
  · have HE : Hid (left 1048576 E = if 1048576 - (E.length : Int) - (szk E E.length : Int) < 0 then -1 else 1048576 - (E.length : Int) - (szk E E.length : Int)) := hide rfl
    have HM := hide (fun i h => szk_mono E i E.length h)
    have HU := hide (fun k => (show szk E (k + 1) = szk E k + sz1 (ge E k) from rfl))
    go_enter Try.func9, Try.ntmps9
    go_wp2
    go_loopw [1, 5] (fun lv iv wr => ∃ k : Nat, k ≤ E.length ∧ iv = .int .i64 k ∧ lv = .int .i64 (1048576 - (E.length : Int) - (szk E k : Int)) ∧ (szk E k : Int) ≤ 1048576 - (E.length : Int) ∧ Hid (Below w.heap.size w wr)) (fun _ iv _ => E.length - (intOf iv).toNat)
    case atStart => exact ⟨0, Nat.zero_le _, rfl, by simp [szk], by simp [szk]; omega, hide (Below.refl _ _)⟩
    case round =>
      obtain ⟨k, hk, rfl, rfl, hle, HB⟩ := hrel
      by_cases hlt : k < E.length
      · have hlt' : (k : Int) < (E.length : Int) := by omega
        rcases unhide HV with h' | ⟨b, off, rfl, hbs, hc⟩
        · rw [h'] at hlt; simp at hlt
        obtain ⟨c1, u, c2, hu⟩ := hc k hlt
        have d1 := ((unhide HB).cell (p := ⟨b, off + k * 2, none⟩) hbs).trans c1
        have d2 := ((unhide HB).cell (p := ⟨b, off + k * 2 + 1, none⟩) hbs).trans c2
        obtain ⟨z1, z2⟩ := (unhide HZ) k hlt
        have C := hide (fun W h => szEntry_any (ge E k).1 u (ge E k).2 (1048576 - (E.length : Int) - (szk E k : Int)) W h (by omega) z2 z1)
        have I := hide (hu.below (unhide HB))
        have hs := (unhide HU) k
        unfold sz1 at hs
        have hm := (unhide HM) (k + 1) (by omega)
        have hBs := (unhide HB).size
        clear c1 c2 hu hc z1 z2
        generalize (ge E k).1 = t at *
        generalize (ge E k).2 = L at *
        by_cases hq : 1048576 - (E.length : Int) - (szk E k : Int) - ((t.size + L.length : Nat) : Int) < 0
        · rw [if_pos hq] at C
          have HE2 : Hid (left 1048576 E = -1) := hide (by rw [unhide HE, if_pos (by omega)])
          go_wp2_with (go_at_call 17; refine ((unhide C) _ (unhide I)).mono ?_; rintro e w1 ⟨rfl, hb1⟩; have B1 := hide ((unhide HB).trans (hb1.mono hBs)); clear hb1)
          go_ret
          exact ⟨by rw [unhide HE2]; rfl, unhide B1⟩
        · rw [if_neg hq] at C
          have es : (1048576 : Int) - (E.length : Int) - (szk E k : Int) - ((t.size + L.length : Nat) : Int) = 1048576 - (E.length : Int) - (szk E (k + 1) : Int) := by omega
          rw [es] at C hq
          have hle2 : (szk E (k + 1) : Int) ≤ 1048576 - (E.length : Int) := by omega
          clear es hs hm
          go_wp2_with (go_at_call 17; refine ((unhide C) _ (unhide I)).mono ?_; rintro e w1 ⟨rfl, hb1⟩; have B1 := hide ((unhide HB).trans (hb1.mono hBs)); clear hb1)
          go_roundw
          case rel => exact ⟨k + 1, by omega, by go_num, rfl, hle2, B1⟩
          case measure => simp [intOf]; omega
      · obtain rfl : k = E.length := by omega
        have HE2 : Hid (left 1048576 E = 1048576 - (E.length : Int) - (szk E E.length : Int)) := hide (by rw [unhide HE, if_neg (by omega)])
        go_wp2
        go_ret
        exact ⟨by rw [unhide HE2]; rfl, unhide HB⟩
end Go.Proofs.Ytgcpdpkkobkamaa.Col
