/- An entry that is right, as the program tells it. -/
import Derived.Test.YtgcpdpkkobkamaaColI
namespace Go.Proofs.Ytgcpdpkkobkamaa.Col
open Go.RowKit
set_option linter.unusedVariables false
theorem okEk_take {L : List Sp} {k : Nat} (h : okEk L k = true) (h2 : okEl (gx L k) = true) : okEk L (k + 1) = true := by
  unfold okEk
  rw [h, h2]
  rfl
set_option maxRecDepth 100000 in
set_option maxHeartbeats 2000000 in
theorem index_any (v : Value) (L : List Sp) (w : World) (hv : SpsAt w v L) (hL : L.length ≤ 1048576) :
    Calls Try.prog 38 #[v, .func (.func 25) #[] #[]] w fun e w' => (∃ z : Int, e = .returned (.int .i64 z) ∧ decide (0 ≤ z) = !okEk L L.length) ∧ Below w.heap.size w w' := by
  obtain ⟨a, cap, rfl, hv⟩ := hv
  have HV := hide hv
  clear hv
  go_enter Try.func38, Try.ntmps38
  go_wp2
  go_loopw [8] (fun iv wr => ∃ k : Nat, k ≤ L.length ∧ iv = .int .i64 k ∧ Hid (okEk L k = true) ∧ Hid (Below w.heap.size w wr)) (fun iv _ => L.length - (intOf iv).toNat)
  case atStart => exact ⟨0, Nat.zero_le _, rfl, hide rfl, hide (Below.refl _ _)⟩
  case round =>
    obtain ⟨k, hk, rfl, HK, HB⟩ := hrel
    by_cases hlt : k < L.length
    · have hlt' : (k : Int) < (L.length : Int) := by omega
      rcases unhide HV with h' | ⟨b, off, rfl, hbs, hc⟩
      · rw [h'] at hlt; simp at hlt
      obtain ⟨c0, c1, c2⟩ := hc k hlt
      have d0 := ((unhide HB).cell (p := ⟨b, off + k * 3, none⟩) hbs).trans c0
      have d1 := ((unhide HB).cell (p := ⟨b, off + k * 3 + 1, none⟩) hbs).trans c1
      have d2 := ((unhide HB).cell (p := ⟨b, off + k * 3 + 2, none⟩) hbs).trans c2
      have hBs := (unhide HB).size
      have CW := hide (fun W => wrong_any (gx L k).1 (gx L k).2.1 (gx L k).2.2 W)
      obtain ⟨q, hq⟩ : ∃ q, okEl (gx L k) = q := ⟨_, rfl⟩
      rw [show okEl ((gx L k).1, (gx L k).2.1, (gx L k).2.2) = q from hq] at CW
      clear c0 c1 c2 hc
      cases q
      · have HE : Hid (okEk L L.length = false) := hide (okEk_no hlt hq)
        clear hq
        generalize gx L k = r at *
        go_wp2_with (go_at_call 25; refine ((unhide CW) _).mono ?_; rintro e w2 ⟨rfl, hb2⟩; have B2 := hide ((unhide HB).trans (hb2.mono hBs)); clear hb2)
        go_ret
        exact ⟨⟨_, rfl, by rw [unhide HE]; simp⟩, unhide B2⟩
      · have HK2 := hide (okEk_take (unhide HK) hq)
        clear hq
        generalize gx L k = r at *
        go_wp2_with (go_at_call 25; refine ((unhide CW) _).mono ?_; rintro e w2 ⟨rfl, hb2⟩; have B2 := hide ((unhide HB).trans (hb2.mono hBs)); clear hb2)
        go_roundw
        case rel => exact ⟨k + 1, by omega, by go_num, HK2, B2⟩
        case measure => simp [intOf]; omega
    · obtain rfl : k = L.length := by omega
      go_wp2
      go_ret
      exact ⟨⟨_, rfl, by rw [unhide HK]; rfl⟩, unhide HB⟩
set_option maxRecDepth 100000 in
theorem contains_any (v : Value) (L : List Sp) (w : World) (hv : SpsAt w v L) (hL : L.length ≤ 1048576) :
    Calls Try.prog 24 #[v, .func (.func 25) #[] #[]] w fun e w' => e = .returned (.bool (!okEk L L.length)) ∧ Below w.heap.size w w' := by
  have C := hide (index_any v L w hv hL)
  obtain ⟨a, cap, rfl, _⟩ := hv
  generalize okEk L L.length = q at *
  go_enter Try.func24, Try.ntmps24
  go_wp2_with (go_at_call 38; refine (unhide C).mono ?_; rintro e w2 ⟨⟨z, rfl, hz⟩, hb2⟩; have HZ := hide hz; have B2 := hide hb2; clear hz hb2)
  go_ret
  exact ⟨by rw [← unhide HZ]; rfl, unhide B2⟩
set_option maxRecDepth 100000 in
set_option maxHeartbeats 4000000 in
theorem right_any (t : ByteArray) (u : Value) (L : List Sp) (w : World) (hu : SpsAt w u L) (hL : L.length ≤ 1048576) :
    Calls Try.prog 15 #[.agg #[.string t, u]] w fun e w' => e = .returned (.bool (okTI t && (decide (L.length ≤ 20) && okEk L L.length))) ∧ Below w.heap.size w w' := by
  have HU := hide hu
  have CC := hide (fun W h => contains_any u L W h hL)
  obtain ⟨a, cap, rfl, _⟩ := hu
  have B0 := hide ((Below.refl w.heap.size w).alloc (Nat.le_refl _) (.cells #[.string t, .slice a L.length cap] 36))
  have z0 : (w.alloc (.cells #[.string t, .slice a L.length cap] 36)).heap[w.heap.size]? = some (.cells #[.string t, .slice a L.length cap] 36 (0, 0)) := heap_new w _
  by_cases h1 : t.size ≤ 12
  · have CN := hide (fun W => implIsN 1 t W (by omega))
    have CR := hide (fun W => count_any t W (by omega))
    have h1' : ¬ (12 : Int) < (t.size : Int) := by omega
    obtain ⟨n, hn⟩ : ∃ n, isN 1 t = n := ⟨_, rfl⟩
    rw [hn] at CN
    have HT : Hid (okTI t = (n && decide (1 ≤ (pts t).length ∧ (pts t).length ≤ 3))) := hide (by unfold okTI; rw [decide_eq_true h1, hn]; rfl)
    have hpl := pts_le t
    clear hn h1
    generalize okTI t = T at *
    generalize okEk L L.length = K at *
    cases n
    · have HE : Hid (T = false) := hide (by rw [unhide HT]; rfl)
      go_enter Try.func15, Try.ntmps15
      go_wp2_with (go_at_call 22; refine ((unhide CN) _).mono ?_; rintro e w2 ⟨rfl, hb2⟩; have B2 := hide ((unhide B0).trans (hb2.mono (unhide B0).size)); clear hb2)
      go_ret
      exact ⟨by rw [unhide HE]; rfl, unhide B2⟩
    · obtain ⟨q, hq⟩ : ∃ q, decide (1 ≤ (pts t).length ∧ (pts t).length ≤ 3) = q := ⟨_, rfl⟩
      have hq2 : decide ((1 : Int) ≤ ((pts t).length : Int) ∧ ((pts t).length : Int) ≤ 3) = q := by
        rw [← hq]
        exact decide_eq_decide.2 ⟨fun h => by omega, fun h => by omega⟩
      have CI := hide (fun W => in_any ((pts t).length : Int) 1 3 W q hq2)
      have HE : Hid (T = q) := hide (by rw [unhide HT, hq]; rfl)
      clear hq hq2 HT
      generalize (pts t).length = m at *
      cases q
      · go_enter Try.func15, Try.ntmps15
        go_wp2_with (first
          | (go_at_call 22; refine ((unhide CN) _).mono ?_; rintro e w2 ⟨rfl, hb2⟩; have B2 := hide ((unhide B0).trans (hb2.mono (unhide B0).size)); have k2 := (hb2.block w.heap.size (by simp)).trans z0; obtain ⟨d0, d1, _, _⟩ := two_cells k2; clear hb2)
          | (go_at_call 23; refine ((unhide CR) _).mono ?_; rintro e w3 ⟨rfl, hb3⟩; have B3 := hide ((unhide B2).trans (hb3.mono (unhide B2).size)); clear hb3)
          | (go_at_call 14; refine ((unhide CI) _).mono ?_; rintro e w' ⟨rfl, hw⟩; obtain rfl := hw.symm; clear hw))
        go_ret
        exact ⟨by rw [unhide HE]; rfl, unhide B3⟩
      · by_cases h20 : L.length ≤ 20
        · have h20' : (L.length : Int) ≤ 20 := by omega
          have h20d : decide (L.length ≤ 20) = true := decide_eq_true h20
          have HD := hide h20d
          clear h20d
          go_enter Try.func15, Try.ntmps15
          go_wp2_with (first
            | (go_at_call 22; refine ((unhide CN) _).mono ?_; rintro e w2 ⟨rfl, hb2⟩; have B2 := hide ((unhide B0).trans (hb2.mono (unhide B0).size)); have k2 := (hb2.block w.heap.size (by simp)).trans z0; obtain ⟨d0, d1, _, _⟩ := two_cells k2; have y2 : w.heap.size < w2.heap.size := Nat.lt_of_lt_of_le (by simp) hb2.size; clear hb2)
            | (go_at_call 23; refine ((unhide CR) _).mono ?_; rintro e w3 ⟨rfl, hb3⟩; have B3 := hide ((unhide B2).trans (hb3.mono (unhide B2).size)); have k3 := (hb3.block w.heap.size y2).trans k2; obtain ⟨f0, f1, _, _⟩ := two_cells k3; clear hb3)
            | (go_at_call 14; refine ((unhide CI) _).mono ?_; rintro e w' ⟨rfl, hw⟩; obtain rfl := hw.symm; clear hw)
            | (go_at_call 24; refine ((unhide CC) _ ((unhide HU).below (unhide B3))).mono ?_; rintro e w4 ⟨rfl, hb4⟩; have B4 := hide ((unhide B3).trans (hb4.mono (unhide B3).size)); clear hb4))
          go_ret
          exact ⟨by rw [unhide HE, unhide HD]; cases K <;> rfl, unhide B4⟩
        · have h20' : ¬ (L.length : Int) ≤ 20 := by omega
          have h20d : decide (L.length ≤ 20) = false := decide_eq_false h20
          have HD := hide h20d
          clear h20d
          go_enter Try.func15, Try.ntmps15
          go_wp2_with (first
            | (go_at_call 22; refine ((unhide CN) _).mono ?_; rintro e w2 ⟨rfl, hb2⟩; have B2 := hide ((unhide B0).trans (hb2.mono (unhide B0).size)); have k2 := (hb2.block w.heap.size (by simp)).trans z0; obtain ⟨d0, d1, _, _⟩ := two_cells k2; have y2 : w.heap.size < w2.heap.size := Nat.lt_of_lt_of_le (by simp) hb2.size; clear hb2)
            | (go_at_call 23; refine ((unhide CR) _).mono ?_; rintro e w3 ⟨rfl, hb3⟩; have B3 := hide ((unhide B2).trans (hb3.mono (unhide B2).size)); have k3 := (hb3.block w.heap.size y2).trans k2; obtain ⟨f0, f1, _, _⟩ := two_cells k3; clear hb3)
            | (go_at_call 14; refine ((unhide CI) _).mono ?_; rintro e w' ⟨rfl, hw⟩; obtain rfl := hw.symm; clear hw))
          go_ret
          exact ⟨rfl, unhide B3⟩
  · have HE : Hid (okTI t = false) := hide (by unfold okTI; rw [decide_eq_false h1]; rfl)
    have h1' : (12 : Int) < (t.size : Int) := by omega
    generalize okTI t = T at *
    generalize okEk L L.length = K at *
    go_enter Try.func15, Try.ntmps15
    go_wp2
    go_ret
    exact ⟨by rw [unhide HE]; rfl, unhide B0⟩
end Go.Proofs.Ytgcpdpkkobkamaa.Col
