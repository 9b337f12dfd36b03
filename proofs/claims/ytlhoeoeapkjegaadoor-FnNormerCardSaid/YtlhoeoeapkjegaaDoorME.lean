/- Several texts in one. -/
import Derived.Test.YtlhoeoeapkjegaaDoorQckS
import Derived.Test.YtlhoeoeapkjegaaDoorSafI
import Derived.Test.YtlhoeoeapkjegaaDoorShelf
/- NormerFault of the specification. -/
namespace Go.Proofs.YtlhoeoeapkjegaaDoor
open Go.RowKit
theorem safeS (f p : Int) (w : World) (hf : isF f = true) (hp : 0 ≤ p ∧ p ≤ 1114111) :
    Calls Tryd.prog 33 #[.int .i64 f, .int .i64 p] w fun e w' => e = .returned (.bool (safB (isK f) p)) ∧ Below w.heap.size w w' := by
  have CK := hide (fun W => isKS f W hf)
  have CA := hide (fun W => allS (isK f) 2 (Nat.le_refl _) p W (all_deep _ _) hp)
  have hl := (allF_len (isK f) 2 p).1
  have HS : Hid (safB (isK f) p = fstB (nth (allF (isK f) 2 p) 0)) := hide rfl
  generalize safB (isK f) p = R at *
  generalize allF (isK f) 2 p = xs at *
  generalize isK f = k at *
  clear hf hp
  go_enter Tryd.func33, Tryd.ntmps33
  go_wp2_with (go_at_call 49; refine ((unhide CK) _).mono ?_; rintro e w1 ⟨rfl, hw1⟩; replace hw1 := hw1.symm; subst hw1)
  refine ((unhide CA) _).mono ?_
  rintro e w2 ⟨v, rfl, ho, hb⟩
  obtain ⟨g, cap, rfl⟩ := own_pos ho hl
  have c0 := cell_at ho 0 hl
  have HB := hide hb
  have hl' : (0 : Int) < (xs.length : Int) := by omega
  clear ho hb CA CK
  generalize nth xs 0 = x at *
  have CC := hide (fun W => clsS x W)
  have CS := hide (fun W => secS x W)
  have HF : Hid (R = (decide (clsZ x = 0) && !isSec x)) := hide (unhide HS)
  clear HS
  generalize clsZ x = z at *
  by_cases h0 : z = 0
  · subst h0
    cases hs : isSec x with
    | false =>
      rw [hs] at CS
      have HR : Hid (R = true) := hide (by rw [unhide HF, hs]; rfl)
      clear HF hs
      go_wp2_with (first | (go_at_call 50; refine ((unhide CC) _).mono ?_; rintro e w3 ⟨rfl, hw3⟩; replace hw3 := hw3.symm; subst hw3) | (go_at_call 51; refine ((unhide CS) _).mono ?_; rintro e w3 ⟨rfl, hw3⟩; replace hw3 := hw3.symm; subst hw3))
      go_ret
      exact ⟨ret_bool (unhide HR).symm, unhide HB⟩
    | true =>
      rw [hs] at CS
      have HR : Hid (R = false) := hide (by rw [unhide HF, hs]; rfl)
      clear HF hs
      go_wp2_with (first | (go_at_call 50; refine ((unhide CC) _).mono ?_; rintro e w3 ⟨rfl, hw3⟩; replace hw3 := hw3.symm; subst hw3) | (go_at_call 51; refine ((unhide CS) _).mono ?_; rintro e w3 ⟨rfl, hw3⟩; replace hw3 := hw3.symm; subst hw3))
      go_ret
      exact ⟨ret_bool (unhide HR).symm, unhide HB⟩
  · have t1 : (z == 0) = false := by simpa using h0
    have HR : Hid (R = false) := hide (by rw [unhide HF, decide_eq_false h0]; rfl)
    clear HF h0
    go_wp2_with (go_at_call 50; refine ((unhide CC) _).mono ?_; rintro e w3 ⟨rfl, hw3⟩; replace hw3 := hw3.symm; subst hw3)
    go_ret
    exact ⟨ret_bool (unhide HR).symm, unhide HB⟩
set_option maxRecDepth 100000 in
theorem wellS (s : ByteArray) (w : World) (hs : s.size ≤ 65536) :
    Calls Tryd.prog 47 #[.string s] w fun e w' => e = .returned (.bool (vB s)) ∧ Below w.heap.size w w' := by
  have C1 := hide (fun W => l01Points s W (by omega))
  have hpl := pts_le s
  have C2 := hide (fun (W : World) (v : Value) (h : IntsAt W v (pts s)) => l01Text v _ W h (by omega))
  have HI := hide (wel_iff s)
  clear hpl
  generalize strOfNums (textL (pts s)) = t at *
  generalize pts s = X at *
  have hv : (t = s ∧ vB s = true) ∨ (¬ t = s ∧ vB s = false) := by
    by_cases h : t = s
    · exact .inl ⟨h, (unhide HI).1 h⟩
    · refine .inr ⟨h, ?_⟩
      cases e : vB s with
      | false => rfl
      | true => exact absurd ((unhide HI).2 e) h
  generalize vB s = b at *
  clear HI
  rcases hv with ⟨ht, hb⟩ | ⟨ht, hb⟩
  · subst ht
    subst hb
    go_enter Tryd.func47, Tryd.ntmps47
    go_wp2_with (first | (go_at_call 28; refine ((unhide C1) _).mono ?_; rintro e w1 ⟨v1, rfl, ho1, hb1⟩) | (go_at_call 31; refine ((unhide C2) _ _ (IntsAt.owned ho1)).mono ?_; rintro e w2 ⟨rfl, hb2⟩))
    go_ret
    exact ⟨rfl, hb1.trans (hb2.mono hb1.size)⟩
  · have hq : (t.toList == s.toList) = false := str_ne ht
    subst hb
    clear ht
    go_enter Tryd.func47, Tryd.ntmps47
    go_wp2_with (first | (go_at_call 28; refine ((unhide C1) _).mono ?_; rintro e w1 ⟨v1, rfl, ho1, hb1⟩) | (go_at_call 31; refine ((unhide C2) _ _ (IntsAt.owned ho1)).mono ?_; rintro e w2 ⟨rfl, hb2⟩))
    go_ret
    exact ⟨rfl, hb1.trans (hb2.mono hb1.size)⟩
/-- Whether a normer is not right. -/
def nfB (f : Int) (s : ByteArray) : Bool := !isF f || decide (1000 < s.size) || !vB s || decide (0 < lastTo (isK f) (pts s) (pts s).length)
def nfOut (f : Int) (s : ByteArray) : Int := if nfB f s = true then 1 else 0
theorem nf_bad {f : Int} {s : ByteArray} (h : isF f = false ∨ 1000 < s.size ∨ vB s = false ∨ 0 < lastTo (isK f) (pts s) (pts s).length) : nfOut f s = 1 := by
  unfold nfOut
  have : nfB f s = true := by
    unfold nfB
    rcases h with h | h | h | h
    · rw [h]; simp
    · rw [decide_eq_true h]; simp
    · rw [h]; simp
    · rw [decide_eq_true h]; simp
  rw [if_pos this]
theorem nf_good {f : Int} {s : ByteArray} (h1 : isF f = true) (h2 : s.size ≤ 1000) (h3 : vB s = true) (h4 : ¬ 0 < lastTo (isK f) (pts s) (pts s).length) : nfOut f s = 0 := by
  unfold nfOut
  have : nfB f s = false := by
    unfold nfB
    rw [h1, h3, decide_eq_false (show ¬ 1000 < s.size by omega), decide_eq_false h4]
    rfl
  rw [if_neg (by rw [this]; simp)]
/-- Behind a safe one that is not the first, the last one is not the first, either. -/
theorem last_pos {k : Bool} {L : List Int} : ∀ {n i : Nat}, 1 ≤ i → i < n → safB k (nth L i) = true → 0 < lastTo k L n
  | 0, i, _, h, _ => absurd h (by omega)
  | n + 1, i, h1, h2, hs => by
    unfold lastTo
    by_cases e : safB k (nth L n) = true
    · rw [if_pos e]
      omega
    · rw [if_neg e]
      by_cases hi : i = n
      · rw [hi] at hs
        exact absurd hs e
      · exact last_pos h1 (by omega) hs
theorem last_none {k : Bool} {L : List Int} : ∀ {n : Nat}, (∀ i, 1 ≤ i → i < n → safB k (nth L i) = false) → ¬ 0 < lastTo k L n
  | 0, _ => by simp [lastTo]
  | n + 1, h => by
    unfold lastTo
    by_cases e : safB k (nth L n) = true
    · rw [if_pos e]
      by_cases h0 : n = 0
      · omega
      · have := h n (by omega) (by omega)
        rw [e] at this
        cases this
    · rw [if_neg e]
      exact last_none (fun i h1 h2 => h i h1 (by omega))
set_option maxHeartbeats 2000000 in
set_option maxRecDepth 100000 in
theorem nfS_go (f : Int) (s : ByteArray) (w : World) (hf : isF f = true) (hs : s.size ≤ 1000) (hv : vB s = true) :
    Calls Tryd.prog 32 #[.agg #[.int .i64 f, .string s]] w fun e w' => e = .returned (.int .i64 (nfOut f s)) ∧ Below w.heap.size w w' := by
  have mixed := mixedO
  have CF := hide (fun W => isFormS f W)
  have CW := hide (fun W => wellS s W (by omega))
  have C1 := hide (fun W => l01Points s W (by omega))
  have CS := hide (fun p W (hp : 0 ≤ p ∧ p ≤ 1114111) => safeS f p W hf hp)
  have HBad := hide (fun h => nf_bad (f := f) (s := s) (.inr (.inr (.inr h))))
  have HGood := hide (fun h => nf_good hf hs hv h)
  have hpl := pts_le s
  have HPt := hide (pts_bd s)
  rw [hf] at CF
  rw [hv] at CW
  clear hf hv
  generalize nfOut f s = R at *
  generalize pts s = X at *
  go_enter Tryd.func32, Tryd.ntmps32
  go_wp2_with (first | (go_at_call 21; refine ((unhide CF) _).mono ?_; rintro e w1 ⟨rfl, hw1⟩; replace hw1 := hw1.symm; subst hw1) | (go_at_call 47; refine ((unhide CW) _).mono ?_; rintro e w2 ⟨rfl, hb2⟩; have f0 := hb2.cell (p := ⟨w.heap.size, 0, none⟩) (by simp); have f1 := hb2.cell (p := ⟨w.heap.size, 1, none⟩) (by simp); have B2 := hide ((one_below w (.cells #[.int .i64 f, .string s] 27)).trans (hb2.mono (by simp))); clear hb2; simp at f0 f1) | (go_at_call 28; refine ((unhide C1) _).mono ?_; rintro e w3 ⟨v, rfl, ho3, hb3⟩; have g0 := (hb3.cell (p := ⟨w.heap.size, 0, none⟩) (block_lt_of_cell f0)).trans f0; have B3 := hide ((unhide B2).trans (hb3.mono (unhide B2).size)); have O3 := hide ho3; clear hb3 ho3))
  obtain ⟨a, cap, rfl⟩ := form_ownI (unhide O3)
  have G0 := hide g0
  clear C1 CW CF f0 f1 B2 g0
  obtain ⟨k, hk⟩ : ∃ k, k = isK f := ⟨_, rfl⟩
  rw [← hk] at CS HBad HGood
  have HP : Hid (∀ i, i < X.length → 0 ≤ nth X i ∧ nth X i ≤ 1114111) := hide (fun i hi => unhide HPt (nth X i) (by simp [nth, List.getD, hi]))
  have HB1 : Hid (∀ i, 1 ≤ i → i < X.length → safB k (nth X i) = true → R = 1) := hide (fun i h1 h2 h3 => (unhide HBad) (last_pos h1 h2 h3))
  have HG1 : Hid ((∀ i, 1 ≤ i → i < X.length → safB k (nth X i) = false) → R = 0) := hide (fun h => (unhide HGood) (by have := last_none h; omega))
  clear HPt HBad HGood hk
  generalize hn : X.length = n at *
  have hn2 : n ≤ 1000 := by omega
  clear hn hpl
  go_wp2
  go_loopw [4] (fun iv wr => ∃ i : Nat, 1 ≤ i ∧ i ≤ n + 1 ∧ iv = .int .i64 i ∧ Hid (∀ j, 1 ≤ j → j < i → safB k (nth X j) = false) ∧ Hid (wr.cell? ⟨w.heap.size, 0, none⟩ = some (.int .i64 f)) ∧ Hid (Below w3.heap.size w3 wr) ∧ Hid (Below w.heap.size w wr)) (fun iv _ => n + 1 - (intOf iv).toNat)
  case atStart => exact ⟨1, Nat.le_refl _, by omega, rfl, hide (fun j h1 h2 => by omega), G0, hide (Below.refl _ _), B3⟩
  case round =>
    obtain ⟨i, hi1, hin, rfl, HN, HC, HBr, HB⟩ := hrel
    clear G0 B3
    by_cases hlt : i < n
    · have hlt' : (i : Int) < (n : Int) := by omega
      obtain ⟨g, c1, hv⟩ := own_pos (unhide O3) (by omega)
      injection hv with hv1 _ hv3
      subst hv1 hv3
      have hgl := ((unhide O3).lt g rfl).2
      have c0 := ((unhide HBr).cell (p := ⟨g, i, none⟩) hgl).trans (cell_at (unhide O3) i hlt)
      have f0 := unhide HC
      have CS1 := hide (fun W => (unhide CS) (nth X i) W ((unhide HP) i hlt))
      have HR1 := hide ((unhide HB1) i hi1 hlt)
      have HN1 : Hid (safB k (nth X i) = false → ∀ j, 1 ≤ j → j < i + 1 → safB k (nth X j) = false) := hide (fun h j h1 h2 => by
        by_cases e : j = i
        · rw [e]; exact h
        · exact (unhide HN) j h1 (by omega))
      have hfl := block_lt_of_cell f0
      generalize nth X i = x at *
      clear CS HN HP HG1 HB1
      cases hs : safB k x with
      | true =>
        rw [hs] at CS1
        have HR := hide ((unhide HR1) hs)
        clear HR1 HN1 hs
        go_upto_region 7 with fail
        go_region_law (refine step_call rfl 33 #[.tmp 31, .tmp 35] #[2, 2] rfl #[.int .i64 f, .int .i64 x] (by simp [Act.eval]) (by kernel_rfl) (((unhide CS1) _).mono ?_); rintro e w4 ⟨rfl, hb4⟩; have B4 := hide ((bdrew (unhide HB) _).trans (hb4.mono (unhide HB).size)); clear hb4; refine ⟨_, rfl, ?_⟩)
        all_goals
          go_wp2
          go_ret
          exact ⟨ret_int (unhide HR).symm, unhide B4⟩
      | false =>
        rw [hs] at CS1
        have HN2 := hide ((unhide HN1) hs)
        clear HR1 HN1 hs
        go_upto_region 7 with fail
        go_region_law (refine step_call rfl 33 #[.tmp 31, .tmp 35] #[2, 2] rfl #[.int .i64 f, .int .i64 x] (by simp [Act.eval]) (by kernel_rfl) (((unhide CS1) _).mono ?_); rintro e w4 ⟨rfl, hb4⟩; have B4 := hide ((bdrew (unhide HB) _).trans (hb4.mono (unhide HB).size)); have B5 := hide ((bdrew (unhide HBr) _).trans (hb4.mono (unhide HBr).size)); have F4 := hide ((hb4.cell (p := ⟨w.heap.size, 0, none⟩) hfl).trans f0); clear hb4; refine ⟨_, rfl, ?_⟩)
        all_goals
          go_wp2
          go_roundw
          case rel => exact ⟨i + 1, by omega, by omega, by go_num, HN2, F4, B5, B4⟩
          case measure => simp [intOf]; omega
    · have hge : ¬ (i : Int) < (n : Int) := by omega
      have HR := hide ((unhide HG1) (fun j h1 h2 => (unhide HN) j h1 (by omega)))
      clear HN HP HG1 HB1 CS
      go_wp2
      go_ret
      exact ⟨ret_int (unhide HR).symm, unhide HB⟩
set_option maxRecDepth 100000 in
theorem specNF (f : Int) (s : ByteArray) (w : World) :
    Calls Tryd.prog 32 #[.agg #[.int .i64 f, .string s]] w fun e w' => e = .returned (.int .i64 (nfOut f s)) ∧ Below w.heap.size w w' := by
  have CF := hide (fun W => isFormS f W)
  cases hf : isF f with
  | false =>
    have HR := hide (nf_bad (f := f) (s := s) (.inl hf))
    rw [hf] at CF
    clear hf
    go_enter Tryd.func32, Tryd.ntmps32
    go_wp2_with (go_at_call 21; refine ((unhide CF) _).mono ?_; rintro e w1 ⟨rfl, hw1⟩; replace hw1 := hw1.symm; subst hw1)
    go_ret
    exact ⟨ret_int (unhide HR).symm, one_below _ _⟩
  | true =>
    by_cases hs : 1000 < s.size
    · have HR := hide (nf_bad (f := f) (s := s) (.inr (.inl hs)))
      have hs' : (1000 : Int) < (s.size : Int) := by omega
      rw [hf] at CF
      clear hf
      go_enter Tryd.func32, Tryd.ntmps32
      go_wp2_with (go_at_call 21; refine ((unhide CF) _).mono ?_; rintro e w1 ⟨rfl, hw1⟩; replace hw1 := hw1.symm; subst hw1)
      go_ret
      exact ⟨ret_int (unhide HR).symm, one_below _ _⟩
    · cases hv : vB s with
      | false =>
        have HR := hide (nf_bad (f := f) (s := s) (.inr (.inr (.inl hv))))
        have hs' : (s.size : Int) ≤ 1000 := by omega
        have CW := hide (fun W => wellS s W (by omega))
        rw [hf] at CF
        rw [hv] at CW
        clear hf hv
        go_enter Tryd.func32, Tryd.ntmps32
        go_wp2_with (first | (go_at_call 21; refine ((unhide CF) _).mono ?_; rintro e w1 ⟨rfl, hw1⟩; replace hw1 := hw1.symm; subst hw1) | (go_at_call 47; refine ((unhide CW) _).mono ?_; rintro e w2 ⟨rfl, hb2⟩))
        go_ret
        exact ⟨ret_int (unhide HR).symm, (one_below w _).trans (hb2.mono (by simp))⟩
      | true => exact nfS_go f s w hf (by omega) hv
end Go.Proofs.YtlhoeoeapkjegaaDoor
/- NormerFault of the program, and the law. -/
namespace Go.Proofs.YtlhoeoeapkjegaaDoor
open Go.RowKit
set_option maxHeartbeats 2000000 in
set_option maxRecDepth 100000 in
theorem nfI_go (f : Int) (s : ByteArray) (w : World) (hf : isF f = true) (hs : s.size ≤ 1000) (hT : Lib.Utf8Tabs (Tryd.laysValid_ren.g 3) (Tryd.laysValid_ren.g 4) w) :
    Calls Tryd.prog 12 #[.agg #[.int .i64 f, .string s]] w fun e w' => e = .returned (.int .i64 (nfOut f s)) ∧ Below w.heap.size w w' := by
  have mixed := mixedO
  have CF := hide (fun W => isFormI f W)
  have cV : Calls Tryd.prog 35 #[.string s] (w.alloc (.cells #[.int .i64 f, .string s] 27)) _ := Any.utf8_ValidString Tryd.laysValid s (w.alloc (.cells #[.int .i64 f, .string s] 27)) (by omega) (Utf8Tabs_below hT (one_below _ _))
  have hvb : Lib.validD s.data.toList = vB s := rfl
  rw [hvb] at cV
  have CV := hide cV
  rw [hf] at CF
  clear cV hvb hT
  cases hv : vB s with
  | false =>
    have HR := hide (nf_bad (f := f) (s := s) (.inr (.inr (.inl hv))))
    rw [hv] at CV
    clear hf hv
    go_enter Tryd.func12, Tryd.ntmps12
    go_wp2_with (first | (go_at_call 24; refine ((unhide CF) _).mono ?_; rintro e w1 ⟨rfl, hw1⟩; replace hw1 := hw1.symm; subst hw1) | (go_at_call 35; refine (unhide CV).mono ?_; rintro e w2 ⟨rfl, hb2⟩))
    go_ret
    exact ⟨ret_int (unhide HR).symm, (one_below w _).trans (hb2.mono (by simp))⟩
  | true =>
    rw [hv] at CV
    have HBad := hide (fun h => nf_bad (f := f) (s := s) (.inr (.inr (.inr h))))
    have HGood := hide (fun h => nf_good hf hs hv h)
    have C1 := hide (fun W => implPoints s W (by omega))
    have hpl := pts_le s
    have hk : isK f = true ↔ f = 3 ∨ f = 4 := by simp [isK]
    have CL := hide (fun (W : World) (B : Nat) (v : Value) (ho : W.ownsRow B 2 1 v (pts s).length ((pts s).map (Value.int .i64))) => lastSafeI f (isK f) hk B _ v (pts s) W ho (by omega))
    clear hf hv hk hpl
    generalize lastTo (isK f) (pts s) (pts s).length = z at *
    generalize nfOut f s = R at *
    generalize pts s = X at *
    go_enter Tryd.func12, Tryd.ntmps12
    go_wp2_with (first | (go_at_call 24; refine ((unhide CF) _).mono ?_; rintro e w1 ⟨rfl, hw1⟩; replace hw1 := hw1.symm; subst hw1) | (go_at_call 35; refine (unhide CV).mono ?_; rintro e w2 ⟨rfl, hb2⟩; have f0 := hb2.cell (p := ⟨w.heap.size, 0, none⟩) (by simp); have f1 := hb2.cell (p := ⟨w.heap.size, 1, none⟩) (by simp); have B2 := hide ((one_below w (.cells #[.int .i64 f, .string s] 27)).trans (hb2.mono (by simp))); clear hb2; simp at f0 f1) | fail)
    have hfl := block_lt_of_cell f0
    have hb0 := (unhide B2).size
    have hz : (0 < z ∧ R = 1) ∨ (¬ 0 < z ∧ R = 0) := by
      by_cases h : 0 < z
      · exact .inl ⟨h, (unhide HBad) h⟩
      · exact .inr ⟨h, (unhide HGood) (by omega)⟩
    clear HBad HGood CF CV
    rcases hz with ⟨hz, hr⟩ | ⟨hz, hr⟩
    all_goals
      have HR := hide hr
      clear hr
      go_upto_region 3 with fail
      go_region_law (first
        | (refine step_call rfl 27 #[.tmp 22] #[9] rfl #[.string s] (by simp [Act.eval]) (by kernel_rfl) (((unhide C1) _).mono ?_); rintro e w3 ⟨v, rfl, ho3, hb3⟩; have q0 := (hb3.cell (p := ⟨w.heap.size, 0, none⟩) hfl).trans f0; have O3 := hide ho3; have B3 := hide ((bdrew (unhide B2) _).trans (hb3.mono (unhide B2).size)); clear ho3 hb3; refine ⟨_, rfl, ?_⟩)
        | (refine step_call rfl 29 #[.tmp 20, .tmp 23] #[2, 28] rfl #[.int .i64 f, v] (by simp [Act.eval]) (by kernel_rfl) (((unhide CL) _ _ _ (unhide O3)).mono ?_); rintro e w4 ⟨rfl, hb4⟩; have B4 := hide ((unhide B3).trans (hb4.mono (unhide B3).size)); clear hb4; refine ⟨_, rfl, ?_⟩))
      all_goals
        go_wp2
        go_ret
        exact ⟨ret_int (unhide HR).symm, unhide B4⟩
set_option maxRecDepth 100000 in
theorem implNF (f : Int) (s : ByteArray) (w : World) (hT : Lib.Utf8Tabs (Tryd.laysValid_ren.g 3) (Tryd.laysValid_ren.g 4) w) :
    Calls Tryd.prog 12 #[.agg #[.int .i64 f, .string s]] w fun e w' => e = .returned (.int .i64 (nfOut f s)) ∧ Below w.heap.size w w' := by
  have CF := hide (fun W => isFormI f W)
  cases hf : isF f with
  | false =>
    have HR := hide (nf_bad (f := f) (s := s) (.inl hf))
    rw [hf] at CF
    clear hf hT
    go_enter Tryd.func12, Tryd.ntmps12
    go_wp2_with (go_at_call 24; refine ((unhide CF) _).mono ?_; rintro e w1 ⟨rfl, hw1⟩; replace hw1 := hw1.symm; subst hw1)
    go_ret
    exact ⟨ret_int (unhide HR).symm, one_below _ _⟩
  | true =>
    by_cases hs : 1000 < s.size
    · have HR := hide (nf_bad (f := f) (s := s) (.inr (.inl hs)))
      have hs' : (1000 : Int) < (s.size : Int) := by omega
      rw [hf] at CF
      clear hf hT
      go_enter Tryd.func12, Tryd.ntmps12
      go_wp2_with (go_at_call 24; refine ((unhide CF) _).mono ?_; rintro e w1 ⟨rfl, hw1⟩; replace hw1 := hw1.symm; subst hw1)
      go_ret
      exact ⟨ret_int (unhide HR).symm, one_below _ _⟩
    · exact nfI_go f s w hf (by omega) hT
end Go.Proofs.YtlhoeoeapkjegaaDoor
/- EndNormer of both, and the law. -/
namespace Go.Proofs.YtlhoeoeapkjegaaDoor
open Go.RowKit
/-- A block of four cells. -/
theorem four_cells {w : World} {g : Nat} {a b c d : Value} {T : TypeId} (h : w.heap[g]? = some (.cells #[a, b, c, d] T (0, 0))) :
    w.cell? ⟨g, 0, none⟩ = some a ∧ w.cell? ⟨g, 1, none⟩ = some b ∧ w.cell? ⟨g, 2, none⟩ = some c ∧ w.cell? ⟨g, 3, none⟩ = some d ∧
    w.frozen? ⟨g, 0, none⟩ = false ∧ w.frozen? ⟨g, 1, none⟩ = false ∧ w.frozen? ⟨g, 2, none⟩ = false ∧ w.frozen? ⟨g, 3, none⟩ = false := by
  simp [World.cell?, World.frozen?, h]
theorem four_put {w : World} {g : Nat} {x y z u : Value} {T : TypeId} (h : w.heap[g]? = some (.cells #[x, y, z, u] T (0, 0))) (a b c d : Value) :
    (w.setCell ⟨g, 0, none⟩ a).cell? ⟨g, 0, none⟩ = some a ∧ ((w.setCell ⟨g, 0, none⟩ a).setCell ⟨g, 1, none⟩ b).cell? ⟨g, 1, none⟩ = some b ∧
    (((w.setCell ⟨g, 0, none⟩ a).setCell ⟨g, 1, none⟩ b).setCell ⟨g, 2, none⟩ c).cell? ⟨g, 2, none⟩ = some c ∧
    ((((w.setCell ⟨g, 0, none⟩ a).setCell ⟨g, 1, none⟩ b).setCell ⟨g, 2, none⟩ c).setCell ⟨g, 3, none⟩ d).cell? ⟨g, 3, none⟩ = some d := by
  have h0 := heap_setCell_same w g 0 _ T a h
  have h1 := heap_setCell_same _ g 1 _ T b h0
  have h2 := heap_setCell_same _ g 2 _ T c h1
  have h3 := heap_setCell_same _ g 3 _ T d h2
  exact ⟨(four_cells h0).1, (four_cells h1).2.1, (four_cells h2).2.2.1, (four_cells h3).2.2.2.1⟩
theorem four_below {w0 w : World} {B g : Nat} (h : Below B w0 w) (hg : B ≤ g) (a b c d : Value) : Below B w0 ((((w.setCell ⟨g, 0, none⟩ a).setCell ⟨g, 1, none⟩ b).setCell ⟨g, 2, none⟩ c).setCell ⟨g, 3, none⟩ d) :=
  (((h.setCell (p := ⟨g, 0, none⟩) hg _).setCell (p := ⟨g, 1, none⟩) hg _).setCell (p := ⟨g, 2, none⟩) hg _).setCell (p := ⟨g, 3, none⟩) hg _
/-- What the end of a normer tells. -/
def endV (f : Int) (s : ByteArray) : Value := if nfB f s = true then .agg #[.int .i64 1, .int .i64 0, .string ⟨#[]⟩, .string ⟨#[]⟩] else .agg #[.int .i64 0, .int .i64 f, .string ⟨#[]⟩, .string (strOfNums (nrmT f s))]
theorem nf_parts {f : Int} {s : ByteArray} (h : nfB f s = false) : isF f = true ∧ s.size ≤ 1000 := by
  unfold nfB at h
  simp at h
  exact ⟨h.1.1.1, by have := h.1.1.2; omega⟩
theorem nml_end {f : Int} {s : ByteArray} (hf : isF f = true) (hs : s.size ≤ 1000) : nmlOut f s = nrmT f s := by
  have h1 := pts_le s
  have h2 := nrmL_len f (pts s)
  have h3 := textL_le (nrmL f (pts s))
  unfold nmlOut small
  rw [if_neg (by rw [hf]; rintro (h | h); omega; cases h), if_neg]
  unfold nrmT
  omega
end Go.Proofs.YtlhoeoeapkjegaaDoor
/- EndNormer of the program, and the law. -/
namespace Go.Proofs.YtlhoeoeapkjegaaDoor
open Go.RowKit
set_option maxHeartbeats 2000000 in
set_option maxRecDepth 100000 in
theorem implEnd (f : Int) (s : ByteArray) (w : World) (hT : Lib.Utf8Tabs (Tryd.laysValid_ren.g 3) (Tryd.laysValid_ren.g 4) w) :
    Calls Tryd.prog 13 #[.agg #[.int .i64 f, .string s]] w fun e w' => e = .returned (endV f s) ∧ Below w.heap.size w w' := by
  have mixed := mixedO
  have CN := hide (fun W (h : Below w.heap.size w W) => implNF f s W (Utf8Tabs_below hT h))
  have hW : ((w.alloc (.cells #[.int .i64 f, .string s] 27)).alloc (.cells #[.int .i64 0, .int .i64 0, .string ⟨#[]⟩, .string ⟨#[]⟩] 32)).heap.size = w.heap.size + 2 := by simp
  cases hn : nfB f s with
  | true =>
    have HV : Hid (endV f s = .agg #[.int .i64 1, .int .i64 0, .string ⟨#[]⟩, .string ⟨#[]⟩]) := hide (by unfold endV; rw [if_pos hn])
    have ho : nfOut f s = 1 := by unfold nfOut; rw [if_pos hn]
    rw [ho] at CN
    clear hn ho hT
    generalize endV f s = V at *
    go_enter Tryd.func13, Tryd.ntmps13
    go_wp2_with fail
    refine ((unhide CN) _ (two_below w _ _)).mono ?_
    rintro e w2 ⟨rfl, hb2⟩
    have hh : w2.heap[w.heap.size + 1]? = some (.cells #[.int .i64 0, .int .i64 0, .string ⟨#[]⟩, .string ⟨#[]⟩] 32 (0, 0)) := (hb2.block (w.heap.size + 1) (by omega)).trans (by have := heap_alloc_new (w.alloc (.cells #[.int .i64 f, .string s] 27)) (.cells #[.int .i64 0, .int .i64 0, .string ⟨#[]⟩, .string ⟨#[]⟩] 32); simpa using this)
    obtain ⟨c0, c1, c2, c3, z0, z1, z2, z3⟩ := four_cells hh
    obtain ⟨p0, p1, p2, p3⟩ := four_put hh (.int .i64 1) (.int .i64 0) (.string ⟨#[]⟩) (.string ⟨#[]⟩)
    have B2 := hide (four_below ((two_below w _ _).trans (hb2.mono (by omega))) (show w.heap.size ≤ w.heap.size + 1 by omega) (.int .i64 1) (.int .i64 0) (.string ⟨#[]⟩) (.string ⟨#[]⟩))
    clear hh hb2 CN hW
    go_wp2
    try simp only [Exit.inBlock, Exit.then]
    refine bodyPost_ret (by simp [results, Tryd.results13, go_sem, p0, p1, p2, p3]; try rfl) rfl ?_
    exact ⟨by rw [unhide HV], unhide B2⟩
  | false =>
    obtain ⟨hf, hs⟩ := nf_parts hn
    have HV : Hid (endV f s = .agg #[.int .i64 0, .int .i64 f, .string ⟨#[]⟩, .string (strOfNums (nrmT f s))]) := hide (by unfold endV; rw [if_neg (by rw [hn]; simp)])
    have ho : nfOut f s = 0 := by unfold nfOut; rw [if_neg (by rw [hn]; simp)]
    have CT := hide (fun W => implNormalize f s W (by omega))
    rw [nml_end hf hs] at CT
    rw [ho] at CN
    clear hn ho hf hs hT
    generalize endV f s = V at *
    generalize strOfNums (nrmT f s) = t at *
    go_enter Tryd.func13, Tryd.ntmps13
    go_wp2_with fail
    refine ((unhide CN) _ (two_below w _ _)).mono ?_
    rintro e w2 ⟨rfl, hb2⟩
    have hh : w2.heap[w.heap.size + 1]? = some (.cells #[.int .i64 0, .int .i64 0, .string ⟨#[]⟩, .string ⟨#[]⟩] 32 (0, 0)) := (hb2.block (w.heap.size + 1) (by omega)).trans (by have := heap_alloc_new (w.alloc (.cells #[.int .i64 f, .string s] 27)) (.cells #[.int .i64 0, .int .i64 0, .string ⟨#[]⟩, .string ⟨#[]⟩] 32); simpa using this)
    have f0 := hb2.cell (p := ⟨w.heap.size, 0, none⟩) (by simp; omega)
    have f1 := hb2.cell (p := ⟨w.heap.size, 1, none⟩) (by simp; omega)
    simp at f0 f1
    have hfl := block_lt_of_cell f0
    have HH := hide hh
    have hol : w.heap.size + 1 < w2.heap.size := (Array.getElem?_eq_some_iff.1 hh).1
    have B2 := hide ((two_below w (.cells #[.int .i64 f, .string s] 27) (.cells #[.int .i64 0, .int .i64 0, .string ⟨#[]⟩, .string ⟨#[]⟩] 32)).trans (hb2.mono (by omega)))
    have hbs := (unhide B2).size
    clear hh hb2 CN hW
    go_upto_region 3 with fail
    go_region_law (refine step_call rfl 6 #[.tmp 11, .tmp 13] #[2, 9] rfl #[.int .i64 f, .string s] (by simp [Act.eval, Act.put]) (by kernel_rfl) (((unhide CT) _).mono ?_); rintro e w3 ⟨rfl, hb3⟩; have q0 := (hb3.cell (p := ⟨w.heap.size, 0, none⟩) hfl).trans f0; have hh3 := (hb3.block (w.heap.size + 1) hol).trans (unhide HH); obtain ⟨c0, c1, c2, c3, z0, z1, z2, z3⟩ := four_cells hh3; obtain ⟨p0, p1, p2, p3⟩ := four_put hh3 (.int .i64 0) (.int .i64 f) (.string ⟨#[]⟩) (.string t); have B3 := hide (four_below ((bdrew (unhide B2) _).trans (hb3.mono hbs)) (show w.heap.size ≤ w.heap.size + 1 by omega) (.int .i64 0) (.int .i64 f) (.string ⟨#[]⟩) (.string t)); clear hh3 hb3; refine ⟨_, rfl, ?_⟩)
    all_goals
      go_wp2
      try simp only [Exit.inBlock, Exit.then]
      refine bodyPost_ret (by simp [results, Tryd.results13, go_sem, p0, p1, p2, p3]; try rfl) rfl ?_
      exact ⟨by rw [unhide HV], unhide B3⟩
theorem endV_form (f : Int) (s : ByteArray) : ∃ c f' h t, endV f s = .agg #[.int .i64 c, .int .i64 f', .string h, .string t] := by
  unfold endV
  split
  · exact ⟨_, _, _, _, rfl⟩
  · exact ⟨_, _, _, _, rfl⟩
theorem kept2 {w1 w2 : World} {g : Nat} {x : Value} {j : Nat} (h : w1.cell? ⟨g, j, none⟩ = some x) (hb : Below w1.heap.size w1 w2) : w2.cell? ⟨g, j, none⟩ = some x := (hb.cell (p := ⟨g, j, none⟩) (block_lt_of_cell h)).trans h
end Go.Proofs.YtlhoeoeapkjegaaDoor
