/- StyleFault of both sides. -/
import Derived.Test.YtgmpkapeemiecaaHypH
namespace Go.Proofs.Ytgmpkapeemiecaa.Sty
open Go.RowKit Hyp
set_option linter.unusedVariables false
/-- Whether the numbers are right. -/
def nok (p d c : Int) : Bool := (decide (1 ≤ p) && decide (p ≤ 200)) && ((decide (0 ≤ d) && decide (d ≤ p)) && (decide (0 ≤ c) && decide (c ≤ 1000000)))
def sf (p d c : Int) (K : List ByteArray) : Int := if nok p d c = true then pf K else 1
theorem pf_two (K : List ByteArray) : pf K = 0 ∨ pf K = 1 := by
  unfold pf
  split
  · exact .inr rfl
  · split
    · exact .inl rfl
    · exact .inr rfl
theorem sf_bad {p d c : Int} {K : List ByteArray} (h : nok p d c = false) : sf p d c K = 1 := by unfold sf; rw [h]; rfl
theorem sf_good {p d c : Int} {K : List ByteArray} (h : nok p d c = true) : sf p d c K = pf K := by unfold sf; rw [if_pos h]
theorem nok_iff {p d c : Int} : nok p d c = true ↔ (1 ≤ p ∧ p ≤ 200) ∧ (0 ≤ d ∧ d ≤ p) ∧ 0 ≤ c ∧ c ≤ 1000000 := by unfold nok; simp
theorem nok_not {p d c : Int} (h : ¬ ((1 ≤ p ∧ p ≤ 200) ∧ (0 ≤ d ∧ d ≤ p) ∧ 0 ≤ c ∧ c ≤ 1000000)) : nok p d c = false := by
  cases e : nok p d c
  · rfl
  · exact absurd (nok_iff.1 e) h
set_option maxRecDepth 100000 in
set_option maxHeartbeats 4000000 in
theorem specSty (p d c : Int) (v : Value) (K : List ByteArray) (w : World) (hv : StrsAt w v K) (hz : ∀ i, i < K.length → (nthS K i).size ≤ 1048576) (hl : K.length ≤ 1048576) :
    Calls Try.prog 18 #[.agg #[.int .i64 p, .int .i64 d, .int .i64 c, v]] w fun e w' => e = .returned (.int .i64 (sf p d c K)) ∧ Below w.heap.size w w' := by
  have CP := hide (fun W h => faultS v K W h hz hl)
  have HV := hide hv
  have B0 := hide ((Below.refl w.heap.size w).alloc (Nat.le_refl _) (.cells #[.int .i64 p, .int .i64 d, .int .i64 c, v] 37))
  obtain ⟨va, vc, rfl, _⟩ := hv
  clear hz hl
  by_cases h1 : p < 1
  · have HR := hide (sf_bad (K := K) (nok_not (p := p) (d := d) (c := c) (by omega)))
    go_enter Try.func18, Try.ntmps18
    go_wp2
    go_ret
    exact ⟨by rw [unhide HR]; rfl, unhide B0⟩
  by_cases h2 : 200 < p
  · have HR := hide (sf_bad (K := K) (nok_not (p := p) (d := d) (c := c) (by omega)))
    go_enter Try.func18, Try.ntmps18
    go_wp2
    go_ret
    exact ⟨by rw [unhide HR]; rfl, unhide B0⟩
  by_cases h3 : d < 0
  · have HR := hide (sf_bad (K := K) (nok_not (p := p) (d := d) (c := c) (by omega)))
    go_enter Try.func18, Try.ntmps18
    go_wp2
    go_ret
    exact ⟨by rw [unhide HR]; rfl, unhide B0⟩
  by_cases h4 : p < d
  · have HR := hide (sf_bad (K := K) (nok_not (p := p) (d := d) (c := c) (by omega)))
    go_enter Try.func18, Try.ntmps18
    go_wp2
    go_ret
    exact ⟨by rw [unhide HR]; rfl, unhide B0⟩
  by_cases h5 : c < 0
  · have HR := hide (sf_bad (K := K) (nok_not (p := p) (d := d) (c := c) (by omega)))
    go_enter Try.func18, Try.ntmps18
    go_wp2
    go_ret
    exact ⟨by rw [unhide HR]; rfl, unhide B0⟩
  by_cases h6 : 1000000 < c
  · have HR := hide (sf_bad (K := K) (nok_not (p := p) (d := d) (c := c) (by omega)))
    go_enter Try.func18, Try.ntmps18
    go_wp2
    go_ret
    exact ⟨by rw [unhide HR]; rfl, unhide B0⟩
  · have HR := hide (sf_good (K := K) (nok_iff (p := p) (d := d) (c := c) |>.2 (by omega)))
    go_enter Try.func18, Try.ntmps18
    go_wp2_with (go_at_call 7; refine ((unhide CP) _ (StrsAt.below (unhide HV) (unhide B0))).mono ?_; rintro e w2 ⟨rfl, hb2⟩; have B2 := hide ((unhide B0).trans (hb2.mono (unhide B0).size)); clear hb2)
    go_ret
    exact ⟨by rw [unhide HR]; rfl, unhide B2⟩
set_option maxRecDepth 100000 in
set_option maxHeartbeats 4000000 in
theorem hyphensSty (p d c : Int) (v : Value) (K : List ByteArray) (w : World) (hv : StrsAt w v K) (hz : ∀ i, i < K.length → (nthS K i).size ≤ 1048576) (hl : K.length ≤ 1048576) :
    Calls Try.prog 31 #[.agg #[.int .i64 p, .int .i64 d, .int .i64 c, v]] w fun e w' => (∃ q, e = .returned (.tuple #[.pointer q, .bool (sf p d c K == 0)])) ∧ Below w.heap.size w w' := by
  have CT := hide (fun W h => treeI v K W h hz hl)
  have W1 := hide (fun W => withinH p 1 200 W)
  have W2 := hide (fun W => withinH d 0 p W)
  have W3 := hide (fun W => withinH c 0 1000000 W)
  have HV := hide hv
  have B0 := hide ((Below.refl w.heap.size w).alloc (Nat.le_refl _) (.cells #[.int .i64 p, .int .i64 d, .int .i64 c, v] 37))
  have hR : Hid (∀ a b e, (decide (1 ≤ p) && decide (p ≤ 200)) = a → (decide (0 ≤ d) && decide (d ≤ p)) = b → (decide (0 ≤ c) && decide (c ≤ 1000000)) = e → sf p d c K = if (a && (b && e)) = true then pf K else 1) := hide (fun a b e ha hb he => by unfold sf nok; rw [ha, hb, he])
  obtain ⟨va, vc, rfl, _⟩ := hv
  clear hz hl
  generalize (decide (1 ≤ p) && decide (p ≤ 200)) = a at *
  generalize (decide (0 ≤ d) && decide (d ≤ p)) = b at *
  generalize (decide (0 ≤ c) && decide (c ≤ 1000000)) = e0 at *
  have HR := hide ((unhide hR) _ _ _ rfl rfl rfl)
  clear hR
  cases a
  · have HR2 : Hid (sf p d c K = 1) := hide (unhide HR)
    go_enter Try.func31, Try.ntmps31
    go_wp2_with (go_at_call 35; refine ((unhide W1) _).mono ?_; rintro e w' ⟨rfl, hw⟩; obtain rfl := hw.symm; clear hw)
    go_ret2
    exact ⟨⟨_, by rw [unhide HR2]; rfl⟩, unhide B0⟩
  cases b
  · have HR2 : Hid (sf p d c K = 1) := hide (unhide HR)
    go_enter Try.func31, Try.ntmps31
    go_wp2_with (first
      | (go_at_call 35; refine ((unhide W1) _).mono ?_; rintro e w' ⟨rfl, hw⟩; obtain rfl := hw.symm; clear hw W1)
      | (go_at_call 35; refine ((unhide W2) _).mono ?_; rintro e w' ⟨rfl, hw⟩; obtain rfl := hw.symm; clear hw))
    go_ret2
    exact ⟨⟨_, by rw [unhide HR2]; rfl⟩, unhide B0⟩
  cases e0
  · have HR2 : Hid (sf p d c K = 1) := hide (unhide HR)
    go_enter Try.func31, Try.ntmps31
    go_wp2_with (first
      | (go_at_call 35; refine ((unhide W1) _).mono ?_; rintro e w' ⟨rfl, hw⟩; obtain rfl := hw.symm; clear hw W1)
      | (go_at_call 35; refine ((unhide W2) _).mono ?_; rintro e w' ⟨rfl, hw⟩; obtain rfl := hw.symm; clear hw W2)
      | (go_at_call 35; refine ((unhide W3) _).mono ?_; rintro e w' ⟨rfl, hw⟩; obtain rfl := hw.symm; clear hw))
    go_ret2
    exact ⟨⟨_, by rw [unhide HR2]; rfl⟩, unhide B0⟩
  · have HR2 : Hid (sf p d c K = pf K) := hide (unhide HR)
    go_enter Try.func31, Try.ntmps31
    go_wp2_with (first
      | (go_at_call 35; refine ((unhide W1) _).mono ?_; rintro e w' ⟨rfl, hw⟩; obtain rfl := hw.symm; clear hw W1)
      | (go_at_call 35; refine ((unhide W2) _).mono ?_; rintro e w' ⟨rfl, hw⟩; obtain rfl := hw.symm; clear hw W2)
      | (go_at_call 35; refine ((unhide W3) _).mono ?_; rintro e w' ⟨rfl, hw⟩; obtain rfl := hw.symm; clear hw)
      | (go_at_call 23; refine ((unhide CT) _ (StrsAt.below (unhide HV) (unhide B0))).mono ?_; rintro e w2 ⟨⟨q, rfl, _⟩, hb2⟩; have B2 := hide ((unhide B0).trans (hb2.mono (unhide B0).size)); clear hb2))
    go_ret2
    exact ⟨⟨_, by rw [unhide HR2]; rfl⟩, unhide B2⟩
set_option maxRecDepth 100000 in
set_option maxHeartbeats 4000000 in
theorem implSty (p d c : Int) (v : Value) (K : List ByteArray) (w : World) (hv : StrsAt w v K) (hz : ∀ i, i < K.length → (nthS K i).size ≤ 1048576) (hl : K.length ≤ 1048576) :
    Calls Try.prog 20 #[.agg #[.int .i64 p, .int .i64 d, .int .i64 c, v]] w fun e w' => e = .returned (.int .i64 (sf p d c K)) ∧ Below w.heap.size w w' := by
  have B0 := ((Below.refl w.heap.size w).alloc (Nat.le_refl _) (.cells #[.int .i64 p, .int .i64 d, .int .i64 c, v] 37))
  have CT := hide (hyphensSty p d c v K _ (StrsAt.below hv B0) hz hl)
  have BB := hide B0
  have hp : sf p d c K = 0 ∨ sf p d c K = 1 := by
    unfold sf
    split
    · exact pf_two K
    · exact .inr rfl
  obtain ⟨va, vc, rfl, _⟩ := hv
  clear hz hl B0
  generalize sf p d c K = r at *
  rcases hp with rfl | rfl
  · go_enter Try.func20, Try.ntmps20
    go_wp2_with (go_at_call 31; refine (unhide CT).mono ?_; rintro e w2 ⟨⟨q, rfl⟩, hb2⟩; have B2 := hide ((unhide BB).trans (hb2.mono (unhide BB).size)); clear hb2)
    go_ret
    exact ⟨rfl, unhide B2⟩
  · go_enter Try.func20, Try.ntmps20
    go_wp2_with (go_at_call 31; refine (unhide CT).mono ?_; rintro e w2 ⟨⟨q, rfl⟩, hb2⟩; have B2 := hide ((unhide BB).trans (hb2.mono (unhide BB).size)); clear hb2)
    go_ret
    exact ⟨rfl, unhide B2⟩
end Go.Proofs.Ytgmpkapeemiecaa.Sty
