/- The law FnChars. -/
import Derived.Test.YtaepdcgofjcfcaaDoorMQ
import Derived.Test.YtaepdcgofjcfcaaDoorML
import Derived.Test.YtaepdcgofjcfcaaDoorChqX
import Derived.Deep.RegionHeld3
import Derived.Deep.Cut
namespace Go.Proofs.YtaepdcgofjcfcaaDoor
namespace Chr
/-- Take number i first; its temporary is told. -/
theorem tkC {P : Program} {ops : Array Oper} {Q : Exit → Act → World → Prop} {md : Region.Mode} {S : World → Prop} {i : Nat} {oi : Oper} {d : Option Tmp} {v : Value} {fuel : Nat} {listed : Array Bool} {a : Act} {w : World} (hi : ops[i]? = some oi) (hd : oi.dst = d)
    (hs : Region.noSelect ops = true) (hf : Region.free md ops listed i = true) (hr : (Region.ready md ops listed).contains i = true)
    (hQ : ∀ c a w, Q (.panic c) (a.put d v) w → Q (.panic c) a w) (hy : YieldsIf P ops S oi v a) (hS : S w)
    (h : wpAnyH P md ops Q S fuel (listed.setIfInBounds i true) (a.put d v) w) : wpAnyH P md ops Q S (fuel + 1) listed a w := by
  subst hd
  exact wpAnyH_take hi hs hf hr hQ hy hS h
open Go.RowKit
set_option linter.unusedVariables false
theorem le_al (w : World) (o : Obj) : w.heap.size ≤ (w.alloc o).heap.size := by simp
theorem q_al {w w' : World} (h : Below w.heap.size w w') (o : Obj) : Below w.heap.size w (w'.alloc o) := h.alloc h.size o
theorem lt_al {w : World} {b : Nat} (h : b < w.heap.size) (o : Obj) : b < (w.alloc o).heap.size := Nat.lt_of_lt_of_le h (le_al w o)
theorem one_str (w : World) (x : ByteArray) : StrsAt (w.alloc (.cells #[.string x] 9)) (.slice (some ⟨w.heap.size, 0, none⟩) 1 1) [x] := by
  refine ⟨_, _, rfl, .inr ⟨_, _, rfl, by simp, fun i hi => ?_⟩⟩
  obtain rfl : i = 0 := by simp at hi; omega
  simp [nthS]
theorem cuts_up (s : ByteArray) (hs : s.size ≤ 65536) : (cutsOut s).Pairwise (· < ·) := by
  by_cases h0 : 0 < s.size
  · exact cuts_lt s hs h0
  · have e : s = ByteArray.empty := by
      apply ByteArray.ext
      apply Array.eq_empty_of_size_eq_zero
      show s.size = 0
      omega
    subst e
    decide +kernel
theorem char_ones (s : ByteArray) (hs : s.size ≤ 65536) (k : Nat) (hk : k < (charsOut s).length) : charsOut (nthS (charsOut s) k) = [nthS (charsOut s) k] ∧ (nthS (charsOut s) k).size ≤ 65536 := by
  by_cases h0 : 0 < s.size
  · exact char_one s hs h0 k hk
  · have e : s = ByteArray.empty := by
      apply ByteArray.ext
      apply Array.eq_empty_of_size_eq_zero
      show s.size = 0
      omega
    subst e
    have : (charsOut ByteArray.empty).length = 0 := by decide +kernel
    omega
set_option maxHeartbeats 8000000 in
set_option maxRecDepth 100000 in
theorem lawFnChars (w : World) (a : Option Addr) (len cap : Nat) (hc : Dr.CodeIn w a len) (ht : TabAt w) :
    Calls Tryd.prog 3 #[.slice a len cap] w fun e w' => e = .returned (.bool true) ∧ Below w.heap.size w w' := by
  by_cases hl : 1048576 < len
  · have hl' : (1048576 : Int) < (len : Int) := by omega
    go_enter Tryd.func3, Tryd.ntmps3
    go_wp2
    go_ret
    exact ⟨rfl, Below.refl _ _⟩
  have hl' : ¬ (1048576 : Int) < (len : Int) := by omega
  have HT := hide ht
  have DC := hide (Dr.drawChars_any w a len cap (by omega) hc)
  clear ht hc
  go_enter Tryd.func3, Tryd.ntmps3
  go_wp2_with fail
  refine (unhide DC).mono ?_
  rintro e w1 ⟨s, rfl, hsz, hb1⟩
  have B1 := hide hb1
  have CI := hide (fun W h => implChars s W h (by omega))
  have CS := hide (fun W => specChars s W (by omega))
  have DI := hide (fun W h => implCharCuts s W h (by omega))
  have DS := hide (fun W => specCharCuts s W (by omega))
  obtain ⟨hj1, hj2⟩ := chars_join s (by omega)
  have JN := hide (fun V W h hR => lwJoin V (charsOut s) W h hR hj2)
  rw [hj1] at JN
  have HI : Hid (∀ k, k < (charsOut s).length → ∀ W, TabAt W → Calls Tryd.prog 5 #[.string (nthS (charsOut s) k)] W fun e w' => ∃ v, e = .returned v ∧ StrsAt w' v [nthS (charsOut s) k] ∧ Below W.heap.size W w') := hide (fun k hk W h => by
    obtain ⟨e1, e2⟩ := char_ones s (by omega) k hk
    refine (implChars (nthS (charsOut s) k) W h (by omega)).mono ?_
    rintro e w' ⟨v, rfl, ho, hb⟩
    rw [e1] at ho
    exact ⟨v, rfl, StrsAt.owned ho, hb⟩)
  have HN : Hid (∀ k, k + 1 < (cutsOut s).length → ∀ W, TabAt W → Calls Tryd.prog 12 #[.string s, .int .i64 (nth (cutsOut s) k)] W fun e w' => e = .returned (.int .i64 (nth (cutsOut s) (k + 1))) ∧ Below W.heap.size W w') := hide (fun k hk W h => nextChar s _ k W h (by omega) rfl (cuts_up s (by omega)) hk)
  have HL : Hid (∀ k, k + 1 < (cutsOut s).length → ∀ W, TabAt W → Calls Tryd.prog 13 #[.string s, .int .i64 (nth (cutsOut s) (k + 1))] W fun e w' => e = .returned (.int .i64 (nth (cutsOut s) k)) ∧ Below W.heap.size W w') := hide (fun k hk W h => lastChar s _ k W h (by omega) rfl (cuts_up s (by omega)) hk)
  have hRl := charsOut_le s
  have hCl := cutsOut_le s
  have hns := str_ne s
  clear hb1 DC hl hl' hj1 hj2
  generalize charsOut s = R at *
  generalize cutsOut s = C at *
  go_wp2_with fail
  refine ((unhide CI) _ ((unhide HT).below (unhide B1))).mono ?_
  rintro e w2 ⟨v2, rfl, ho2, hb2⟩
  have I2 := hide (StrsAt.owned ho2)
  have B2 := hide ((unhide B1).trans (hb2.mono (unhide B1).size))
  clear ho2 hb2 B1 CI
  go_wp2_with fail
  refine ((unhide DI) _ ((unhide HT).below (unhide B2))).mono ?_
  rintro e w3 ⟨v3, rfl, ho3, hb3⟩
  have J3 := hide (IntsAt.owned ho3)
  have I3 := hide ((unhide I2).below hb3)
  have B3 := hide ((unhide B2).trans (hb3.mono (unhide B2).size))
  clear ho3 hb3 B2 DI I2
  go_wp2_with fail
  refine ((unhide CS) _).mono ?_
  rintro e w4 ⟨v4, rfl, ho4, hb4⟩
  have K4 := hide ho4
  have J4 := hide ((unhide J3).below hb4)
  have I4 := hide ((unhide I3).below hb4)
  have B4 := hide ((unhide B3).trans (hb4.mono (unhide B3).size))
  clear ho4 hb4 B3 CS I3 J3
  go_wp2_with fail
  refine (lwTexts _ _ R _ (unhide I4) (unhide K4) (by omega)).mono ?_
  rintro e w5 ⟨rfl, hb5⟩
  have J5 := hide ((unhide J4).below hb5)
  have I5 := hide ((unhide I4).below hb5)
  have B5 := hide ((unhide B4).trans (hb5.mono (unhide B4).size))
  clear hb5 B4 K4 I4 J4
  go_wp2_with fail
  refine ((unhide DS) _).mono ?_
  rintro e w6 ⟨v6, rfl, ho6, hb6⟩
  have K6 := hide ho6
  have J6 := hide ((unhide J5).below hb6)
  have I6 := hide ((unhide I5).below hb6)
  have B6 := hide ((unhide B5).trans (hb6.mono (unhide B5).size))
  clear ho6 hb6 B5 DS I5 J5
  go_wp2_with fail
  refine (lwSame _ _ C _ (unhide J6) (unhide K6) (by omega)).mono ?_
  rintro e w7 ⟨rfl, hb7⟩
  have J7 := hide ((unhide J6).below hb7)
  have I7 := hide ((unhide I6).below hb7)
  have B7 := hide ((unhide B6).trans (hb7.mono (unhide B6).size))
  clear hb7 B6 K6 I6 J6
  go_wp2_with fail
  refine ((unhide JN) _ _ (unhide I7) (by omega)).mono ?_
  rintro e w8 ⟨rfl, hb8⟩
  have J8 := hide ((unhide J7).below hb8)
  have I8 := hide ((unhide I7).below hb8)
  have B8 := hide ((unhide B7).trans (hb8.mono (unhide B7).size))
  have HT8 := hide ((unhide HT).below (unhide B8))
  clear hb8 B7 I7 J7 JN HT
  obtain ⟨va, vc, rfl, hvc⟩ := unhide I8
  obtain ⟨ua, uc, rfl, huc⟩ := unhide J8
  have HV := hide hvc
  have HU := hide huc
  clear hvc huc
  go_wp2
  go_loopw [6] (fun i wr => ∃ k : Nat, k ≤ R.length ∧ i = .int .i64 k ∧ Hid (Below w8.heap.size w8 wr)) (fun i _ => R.length - (intOf i).toNat)
  case atStart => exact ⟨0, Nat.zero_le _, rfl, hide (Below.refl _ _)⟩
  case round =>
    obtain ⟨k, hk, rfl, HB⟩ := hrel
    by_cases hlt : k < R.length
    · have hlt' : (k : Int) < (R.length : Int) := by omega
      rcases unhide HV with h0 | ⟨b, off, rfl, hbl, hcell⟩
      · rw [h0] at hlt; simp at hlt
      have CX := hide (fun W h => (unhide HI) k hlt W h)
      have c0 := ((unhide HB).cell (p := ⟨b, off + k, none⟩) hbl).trans (hcell k hlt)
      have hBs := (unhide HB).size
      have hbr : b < wr.heap.size := by omega
      clear hcell
      generalize nthS R k = x at *
      go_upto_region 11 with fail
      go_region_with (first
        | (go_at_call 5; refine ((unhide CX) _ ((unhide HT8).below (unhide HB).drew)).mono ?_; rintro e w9 ⟨v9, rfl, ho9, hb9⟩; have I9 := hide ho9; have Q9 := hide ((unhide HB).drew.trans (hb9.mono hBs)); have c9 := (hb9.cell (p := ⟨b, off + k, none⟩) hbr).trans c0; have z9 := Nat.lt_of_lt_of_le hbr hb9.size; clear ho9 hb9 CX)
        | (go_at_call 5; refine ((unhide CX) _ ((unhide HT8).below (q_al (unhide HB).drew _))).mono ?_; rintro e w9 ⟨v9, rfl, ho9, hb9⟩; have I9 := hide ho9; have X9 := hide ((one_str wr.drew x).below hb9); have Q9 := hide ((q_al (unhide HB).drew _).trans (hb9.mono (q_al (unhide HB).drew _).size)); clear ho9 hb9 CX)
        | (go_at_call 7; refine (lwTexts _ _ [x] _ (unhide I9) (unhide X9) (by simp)).mono ?_; rintro e w10 ⟨rfl, hb10⟩; have Q10 := hide ((unhide Q9).trans (hb10.mono (unhide Q9).size)); clear hb10)
        | (go_at_call 7; refine (lwTexts _ _ [x] _ ((unhide I9).below (q_al (Below.refl _ _) _)) (one_str w9 x) (by simp)).mono ?_; rintro e w10 ⟨rfl, hb10⟩; have Q10 := hide ((q_al (unhide Q9) _).trans (hb10.mono (q_al (unhide Q9) _).size)); clear hb10))
      all_goals
        go_wp2
        go_roundw
        case rel => exact ⟨k + 1, by omega, by go_num, Q10⟩
        case measure => simp [intOf]; omega
    · have hlt' : ¬ (k : Int) < (R.length : Int) := by omega
      have HB8 := HB
      go_wp2
      go_loopw [7] (fun i wq => ∃ m : Nat, m ≤ 50 ∧ i = .int .i64 m ∧ Hid (Below w8.heap.size w8 wq)) (fun i _ => 50 - (intOf i).toNat)
      case atStart => exact ⟨0, Nat.zero_le _, rfl, HB8⟩
      case round =>
        obtain ⟨m, hm, rfl, HM⟩ := hrel
        by_cases h1 : m + 1 < C.length
        · by_cases h2 : m < 50
          · have h2' : (m : Int) < 50 := by omega
            have h1'' : (m : Int) < (C.length : Int) := by omega
            rcases unhide HU with h0 | ⟨b, off, rfl, hbl, hcell⟩
            · rw [h0] at h1; simp at h1
            have CN := hide (fun W h => (unhide HN) m h1 W h)
            have CL := hide (fun W h => (unhide HL) m h1 W h)
            have c0 := ((unhide HM).cell (p := ⟨b, off + m, none⟩) hbl).trans (hcell m (by omega))
            have c1 := ((unhide HM).cell (p := ⟨b, off + (m + 1), none⟩) hbl).trans (hcell (m + 1) h1)
            have hBs := (unhide HM).size
            have hbr : b < wr.heap.size := by omega
            clear hcell
            generalize nth C m = x at *
            generalize nth C (m + 1) = y at *
            obtain ⟨m', hm'⟩ : ∃ m', m + 1 = m' := ⟨_, rfl⟩
            have hmm : (m : Int) + 1 = (m' : Int) := by omega
            rw [hm'] at c1
            have hlt2 : (m' : Int) < (C.length : Int) := by omega
            have hw1 : IntKind.i64.wrap (m' : Int) = (m' : Int) := wrapN m' (by omega)
            clear hm'
            have pa0 : (0 : Int) ≤ (m : Int) := by omega
            have pb0 : (0 : Int) ≤ (m' : Int) := by omega
            have ra0 : IntKind.i64.wrap (m : Int) = (m : Int) := wrapN m (by omega)
            have hxx : (x != x) = false := by simp
            have hyy : (y != y) = false := by simp
            go_upto_region 16 with fail
            have KS := (show (fun w' => w'.cell? ⟨b, off + m, none⟩ = some (.int .i64 x) ∧ w'.cell? ⟨b, off + m', none⟩ = some (.int .i64 y)) wr from ⟨c0, c1⟩)
            refine wp_region_held_drew (S := fun w' => w'.cell? ⟨b, off + m, none⟩ = some (.int .i64 x) ∧ w'.cell? ⟨b, off + m', none⟩ = some (.int .i64 y)) (by kernel_rfl) (by first | go_keep | exact KS) (fun hHeld => ?_)
            refine tkC (i := 0) (d := some 64) (v := ?_) rfl rfl (by kernel_rfl) (by kernel_rfl) (by kernel_rfl) (fun _ _ _ h => h) (Or.inl ⟨by rfl, ?_⟩) (by assumption) ?_
            rotate_left
            · intro w hSw; (try dsimp only at hSw); go_simp; try with_reducible rfl
            try simp only [Act.put, List.setIfInBounds_toArray, List.set_cons_zero, List.set_cons_succ]
            refine tkC (i := 1) (d := some 65) (v := ?_) rfl rfl (by kernel_rfl) (by kernel_rfl) (by kernel_rfl) (fun _ _ _ h => h) (Or.inl ⟨by rfl, ?_⟩) (by assumption) ?_
            rotate_left
            · intro w hSw; (try dsimp only at hSw); go_simp; try with_reducible rfl
            try simp only [Act.put, List.setIfInBounds_toArray, List.set_cons_zero, List.set_cons_succ]
            refine tkC (i := 2) (d := some 66) (v := ?_) rfl rfl (by kernel_rfl) (by kernel_rfl) (by kernel_rfl) (fun _ _ _ h => h) (Or.inl ⟨by rfl, ?_⟩) (by assumption) ?_
            rotate_left
            · intro w hSw; (try dsimp only at hSw); go_simp; try with_reducible rfl
            try simp only [Act.put, List.setIfInBounds_toArray, List.set_cons_zero, List.set_cons_succ]
            refine tkC (i := 3) (d := some 67) (v := ?_) rfl rfl (by kernel_rfl) (by kernel_rfl) (by kernel_rfl) (fun _ _ _ h => h) (Or.inl ⟨by rfl, ?_⟩) (by assumption) ?_
            rotate_left
            · intro w hSw; (try dsimp only at hSw); go_simp; try with_reducible rfl
            try simp only [Act.put, List.setIfInBounds_toArray, List.set_cons_zero, List.set_cons_succ]
            refine tkC (i := 4) (d := some 68) (v := ?_) rfl rfl (by kernel_rfl) (by kernel_rfl) (by kernel_rfl) (fun _ _ _ h => h) (Or.inl ⟨by rfl, ?_⟩) (by assumption) ?_
            rotate_left
            · intro w hSw; (try dsimp only at hSw); go_simp; try with_reducible rfl
            try simp only [Act.put, List.setIfInBounds_toArray, List.set_cons_zero, List.set_cons_succ]
            refine tkC (i := 6) (d := some 70) (v := ?_) rfl rfl (by kernel_rfl) (by kernel_rfl) (by kernel_rfl) (fun _ _ _ h => h) (Or.inl ⟨by rfl, ?_⟩) (by assumption) ?_
            rotate_left
            · intro w hSw; (try dsimp only at hSw); go_simp; try with_reducible rfl
            try simp only [Act.put, List.setIfInBounds_toArray, List.set_cons_zero, List.set_cons_succ]
            refine tkC (i := 7) (d := some 71) (v := ?_) rfl rfl (by kernel_rfl) (by kernel_rfl) (by kernel_rfl) (fun _ _ _ h => h) (Or.inl ⟨by rfl, ?_⟩) (by assumption) ?_
            rotate_left
            · intro w hSw; (try dsimp only at hSw); go_simp; try with_reducible rfl
            try simp only [Act.put, List.setIfInBounds_toArray, List.set_cons_zero, List.set_cons_succ]
            refine tkC (i := 8) (d := some 72) (v := ?_) rfl rfl (by kernel_rfl) (by kernel_rfl) (by kernel_rfl) (fun _ _ _ h => h) (Or.inl ⟨by rfl, ?_⟩) (by assumption) ?_
            rotate_left
            · intro w hSw; (try dsimp only at hSw); go_simp; try with_reducible rfl
            try simp only [Act.put, List.setIfInBounds_toArray, List.set_cons_zero, List.set_cons_succ]
            refine tkC (i := 9) (d := some 73) (v := ?_) rfl rfl (by kernel_rfl) (by kernel_rfl) (by kernel_rfl) (fun _ _ _ h => h) (Or.inl ⟨by rfl, ?_⟩) (by assumption) ?_
            rotate_left
            · intro w hSw; (try dsimp only at hSw); go_simp; try with_reducible rfl
            try simp only [Act.put, List.setIfInBounds_toArray, List.set_cons_zero, List.set_cons_succ]
            refine tkC (i := 10) (d := some 74) (v := ?_) rfl rfl (by kernel_rfl) (by kernel_rfl) (by kernel_rfl) (fun _ _ _ h => h) (Or.inl ⟨by rfl, ?_⟩) (by assumption) ?_
            rotate_left
            · intro w hSw; (try dsimp only at hSw); go_simp; try with_reducible rfl
            try simp only [Act.put, List.setIfInBounds_toArray, List.set_cons_zero, List.set_cons_succ]
            refine wpAnyH_ready (rs := [5]) (by kernel_rfl) (by simp) (AllReadyH.cons rfl (fun K hK => ?_) AllReadyH.nil)
            go_simp
            go_at_call 12
            refine ((unhide CN) _ ((unhide HT8).below (unhide HM).drew)).mono ?_
            rintro e w9 ⟨rfl, hb_w9⟩
            have Q9 := hide ((unhide HM).drew.trans (hb_w9.mono hBs))
            have z9 := Nat.lt_of_lt_of_le hbr hb_w9.size
            have KS9 : (fun w' => w'.cell? ⟨b, off + m, none⟩ = some (.int .i64 x) ∧ w'.cell? ⟨b, off + m', none⟩ = some (.int .i64 y)) w9 := ⟨(hb_w9.cell (p := ⟨b, off + m, none⟩) hbr).trans c0, (hb_w9.cell (p := ⟨b, off + m', none⟩) hbr).trans c1⟩
            clear hb_w9 CN
            try go_wp2_with fail
            refine hK.out _ _ KS9 (fun hHeld3 => ?_)
            clear hK K hHeld
            try simp only [Act.put, List.setIfInBounds_toArray, List.set_cons_zero, List.set_cons_succ]
            refine tkC (i := 11) (d := some 75) (v := ?_) rfl rfl (by kernel_rfl) (by kernel_rfl) (by kernel_rfl) (fun _ _ _ h => h) (Or.inl ⟨by rfl, ?_⟩) (by assumption) ?_
            rotate_left
            · intro w hSw; (try dsimp only at hSw); go_simp; try with_reducible rfl
            try simp only [Act.put, List.setIfInBounds_toArray, List.set_cons_zero, List.set_cons_succ]
            refine tkC (i := 12) (d := some 76) (v := ?_) rfl rfl (by kernel_rfl) (by kernel_rfl) (by kernel_rfl) (fun _ _ _ h => h) (Or.inl ⟨by rfl, ?_⟩) (by assumption) ?_
            rotate_left
            · intro w hSw; (try dsimp only at hSw); go_simp; try with_reducible rfl
            try simp only [Act.put, List.setIfInBounds_toArray, List.set_cons_zero, List.set_cons_succ]
            refine tkC (i := 13) (d := some 77) (v := ?_) rfl rfl (by kernel_rfl) (by kernel_rfl) (by kernel_rfl) (fun _ _ _ h => h) (Or.inl ⟨by rfl, ?_⟩) (by assumption) ?_
            rotate_left
            · intro w hSw; (try dsimp only at hSw); go_simp; try with_reducible rfl
            try simp only [Act.put, List.setIfInBounds_toArray, List.set_cons_zero, List.set_cons_succ]
            refine tkC (i := 14) (d := some 78) (v := ?_) rfl rfl (by kernel_rfl) (by kernel_rfl) (by kernel_rfl) (fun _ _ _ h => h) (Or.inl ⟨by rfl, ?_⟩) (by assumption) ?_
            rotate_left
            · intro w hSw; (try dsimp only at hSw); go_simp; try with_reducible rfl
            try simp only [Act.put, List.setIfInBounds_toArray, List.set_cons_zero, List.set_cons_succ]
            refine tkC (i := 15) (d := some 79) (v := ?_) rfl rfl (by kernel_rfl) (by kernel_rfl) (by kernel_rfl) (fun _ _ _ h => h) (Or.inl ⟨by rfl, ?_⟩) (by assumption) ?_
            rotate_left
            · intro w hSw; (try dsimp only at hSw); go_simp; try with_reducible rfl
            try simp only [Act.put, List.setIfInBounds_toArray, List.set_cons_zero, List.set_cons_succ]
            refine tkC (i := 16) (d := some 80) (v := ?_) rfl rfl (by kernel_rfl) (by kernel_rfl) (by kernel_rfl) (fun _ _ _ h => h) (Or.inl ⟨by rfl, ?_⟩) (by assumption) ?_
            rotate_left
            · intro w hSw; (try dsimp only at hSw); go_simp; try with_reducible rfl
            try simp only [Act.put, List.setIfInBounds_toArray, List.set_cons_zero, List.set_cons_succ]
            refine tkC (i := 17) (d := some 81) (v := ?_) rfl rfl (by kernel_rfl) (by kernel_rfl) (by kernel_rfl) (fun _ _ _ h => h) (Or.inl ⟨by rfl, ?_⟩) (by assumption) ?_
            rotate_left
            · intro w hSw; (try dsimp only at hSw); go_simp; try with_reducible rfl
            try simp only [Act.put, List.setIfInBounds_toArray, List.set_cons_zero, List.set_cons_succ]
            refine tkC (i := 18) (d := some 82) (v := ?_) rfl rfl (by kernel_rfl) (by kernel_rfl) (by kernel_rfl) (fun _ _ _ h => h) (Or.inl ⟨by rfl, ?_⟩) (by assumption) ?_
            rotate_left
            · intro w hSw; (try dsimp only at hSw); go_simp; try with_reducible rfl
            try simp only [Act.put, List.setIfInBounds_toArray, List.set_cons_zero, List.set_cons_succ]
            refine tkC (i := 20) (d := some 84) (v := ?_) rfl rfl (by kernel_rfl) (by kernel_rfl) (by kernel_rfl) (fun _ _ _ h => h) (Or.inl ⟨by rfl, ?_⟩) (by assumption) ?_
            rotate_left
            · intro w hSw; (try dsimp only at hSw); go_simp; try with_reducible rfl
            try simp only [Act.put, List.setIfInBounds_toArray, List.set_cons_zero, List.set_cons_succ]
            refine tkC (i := 21) (d := some 85) (v := ?_) rfl rfl (by kernel_rfl) (by kernel_rfl) (by kernel_rfl) (fun _ _ _ h => h) (Or.inl ⟨by rfl, ?_⟩) (by assumption) ?_
            rotate_left
            · intro w hSw; (try dsimp only at hSw); go_simp; try with_reducible rfl
            try simp only [Act.put, List.setIfInBounds_toArray, List.set_cons_zero, List.set_cons_succ]
            refine tkC (i := 22) (d := some 86) (v := ?_) rfl rfl (by kernel_rfl) (by kernel_rfl) (by kernel_rfl) (fun _ _ _ h => h) (Or.inl ⟨by rfl, ?_⟩) (by assumption) ?_
            rotate_left
            · intro w hSw; (try dsimp only at hSw); go_simp; try with_reducible rfl
            try simp only [Act.put, List.setIfInBounds_toArray, List.set_cons_zero, List.set_cons_succ]
            refine tkC (i := 23) (d := some 87) (v := ?_) rfl rfl (by kernel_rfl) (by kernel_rfl) (by kernel_rfl) (fun _ _ _ h => h) (Or.inl ⟨by rfl, ?_⟩) (by assumption) ?_
            rotate_left
            · intro w hSw; (try dsimp only at hSw); go_simp; try with_reducible rfl
            try simp only [Act.put, List.setIfInBounds_toArray, List.set_cons_zero, List.set_cons_succ]
            refine wpAnyH_ready (rs := [19]) (by kernel_rfl) (by simp) (AllReadyH.cons rfl (fun K hK => ?_) AllReadyH.nil)
            go_simp
            go_at_call 13
            refine ((unhide CL) _ ((unhide HT8).below (unhide Q9))).mono ?_
            rintro e w10 ⟨rfl, hb_w10⟩
            have Q10 := hide ((unhide Q9).trans (hb_w10.mono (unhide Q9).size))
            have KS10 : (fun w' => w'.cell? ⟨b, off + m, none⟩ = some (.int .i64 x) ∧ w'.cell? ⟨b, off + m', none⟩ = some (.int .i64 y)) w10 := ⟨(hb_w10.cell (p := ⟨b, off + m, none⟩) z9).trans KS9.1, (hb_w10.cell (p := ⟨b, off + m', none⟩) z9).trans KS9.2⟩
            clear hb_w10 CL
            try go_wp2_with fail
            refine hK.out _ _ KS10 (fun hHeld4 => ?_)
            clear hK K hHeld3
            try simp only [Act.put, List.setIfInBounds_toArray, List.set_cons_zero, List.set_cons_succ]
            refine tkC (i := 24) (d := some 88) (v := ?_) rfl rfl (by kernel_rfl) (by kernel_rfl) (by kernel_rfl) (fun _ _ _ h => h) (Or.inl ⟨by rfl, ?_⟩) (by assumption) ?_
            rotate_left
            · intro w hSw; (try dsimp only at hSw); go_simp; try with_reducible rfl
            try simp only [Act.put, List.setIfInBounds_toArray, List.set_cons_zero, List.set_cons_succ]
            refine tkC (i := 25) (d := some 89) (v := ?_) rfl rfl (by kernel_rfl) (by kernel_rfl) (by kernel_rfl) (fun _ _ _ h => h) (Or.inl ⟨by rfl, ?_⟩) (by assumption) ?_
            rotate_left
            · intro w hSw; (try dsimp only at hSw); go_simp; try with_reducible rfl
            try simp only [Act.put, List.setIfInBounds_toArray, List.set_cons_zero, List.set_cons_succ]
            refine wpAnyH_done (by kernel_rfl) ?_ _
            go_wp2
            go_roundw
            case rel => exact ⟨m + 1, by omega, by go_num, Q10⟩
            case measure => simp [intOf]; omega
          · have h2' : ¬ (m : Int) < 50 := by omega
            have h1' : (m : Int) + 1 < (C.length : Int) := by omega
            go_wp2
            go_ret
            exact ⟨rfl, (unhide B8).trans ((unhide HM).mono (unhide B8).size)⟩
        · have h1' : ¬ (m : Int) + 1 < (C.length : Int) := by omega
          go_wp2
          go_ret
          exact ⟨rfl, (unhide B8).trans ((unhide HM).mono (unhide B8).size)⟩
end Chr
end Go.Proofs.YtaepdcgofjcfcaaDoor
