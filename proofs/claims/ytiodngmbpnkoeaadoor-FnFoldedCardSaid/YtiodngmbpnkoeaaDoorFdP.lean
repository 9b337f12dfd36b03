/- What FnFolded asks: a text's folded, upper, lower and title text fold to one text, and are without case the same. No Go in sight. -/
import Derived.Test.YtiodngmbpnkoeaaDoorMT
import Derived.Test.YtiodngmbpnkoeaaDoorCslC
import Derived.Test.YtiodngmbpnkoeaaDoorMF
namespace Go.Proofs.YtiodngmbpnkoeaaDoor
namespace Cas
open Go.RowKit
/-- A mark ahead of higher ones may as well come behind them. -/
theorem ord_front (x : Int) (hx : clsZ x ≠ 0) : ∀ (Z X : List Int), (∀ z ∈ Z, clsZ x < clsZ z) → ordL (X ++ x :: Z) = ordL (X ++ Z ++ [x])
  | [], X, _ => by simp
  | z :: Z, X, h => by
    have e : ordL (X ++ x :: z :: Z) = ordL ((X ++ [z]) ++ x :: Z) := by
      rw [ord_app, List.append_assoc, ord_app]
      show List.foldl insO (insO (insO (ordL X) x) z) Z = List.foldl insO (insO (insO (ordL X) z) x) Z
      rw [ins_swap (ordL X) hx (h z (by simp))]
    rw [e, ord_front x hx Z (X ++ [z]) (fun y hy => h y (by simp [hy]))]
    simp
theorem flat_self {h : Int → List Int} : ∀ {l : List Int}, (∀ x ∈ l, h x = [x]) → l.flatMap h = l
  | [], _ => rfl
  | y :: l, e => by rw [List.flatMap_cons, e y (by simp), flat_self (fun x hx => e x (by simp [hx]))]; rfl
/-- Where marks stay as they are, it does not matter whether they were in order. -/
theorem ord_flat {h : Int → List Int} (hm : ∀ m, clsZ m ≠ 0 → h m = [m]) : ∀ (n : Nat) (M : List Int), M.length = n → ordL ((ordL M).flatMap h) = ordL (M.flatMap h)
  | 0, M, e => by
    obtain rfl := List.length_eq_zero_iff.1 e
    rfl
  | n + 1, M, e => by
    rcases snoc_cases M with rfl | ⟨M', x, rfl⟩
    · simp at e
    · have ih := ord_flat hm n M' (by simpa using e)
      by_cases hx : clsZ x = 0
      · rw [ord_zero M' hx, List.flatMap_append, List.flatMap_append, ord_app, ord_app, ih]
      · obtain ⟨Z1, Z2, e1, h2, h1⟩ := split_last x _ (ordL M') rfl
        have hz : ∀ z ∈ Z2, clsZ x < clsZ z := fun z hz => of_decide_eq_true (h2 z hz)
        have hz2 : Z2.flatMap h = Z2 := flat_self (fun z hz' => hm z (by have := hz z hz'; have := cls_nonneg x; omega))
        have e3 : (M' ++ [x]).flatMap h = M'.flatMap h ++ [x] := by rw [List.flatMap_append]; simp [hm x hx]
        have e4 : (Z1 ++ x :: Z2).flatMap h = Z1.flatMap h ++ x :: Z2 := by rw [List.flatMap_append, List.flatMap_cons, hz2, hm x hx]; rfl
        rw [ordL_snoc, e1, insO_at hx h2 h1, e3, e4, ordL_snoc, ← ih, e1, List.flatMap_append, hz2, ← ordL_snoc]
        exact ord_front x hx Z2 _ hz
theorem mark_is {m : Int} (h : clsZ m ≠ 0) : m = 1584 ∨ m = 1585 ∨ (4096 ≤ m ∧ m < 4152) := by
  unfold clsZ at h
  by_cases h1 : m = 1584
  · exact .inl h1
  by_cases h2 : m = 1585
  · exact .inr (.inl h2)
  rw [if_neg h1, if_neg h2] at h
  by_cases h3 : m < 4096
  · rw [if_pos h3] at h
    exact absurd rfl h
  by_cases h4 : m < 4152
  · exact .inr (.inr ⟨by omega, h4⟩)
  rw [if_neg h3, if_neg (by omega), if_neg (by omega), if_neg (by omega), if_neg (by omega), if_neg h4] at h
  exact absurd rfl h
theorem fo_mark {m : Int} (h : clsZ m ≠ 0) : fo1 m = [m] := by
  have hm := mark_is h
  have e1 : three m = none := by
    unfold three; rw [if_neg (by omega), if_neg (by omega), if_neg (by omega), if_pos (by omega)]
  have e2 : bl m = 0 := by unfold bl; rw [if_pos (by omega)]
  unfold fo1 lowS
  rw [e1, e2, if_neg (by omega), if_neg (by omega), if_neg (by omega)]
/-- What a point comes to in what CaselessSame holds against each other. -/
def kk (p : Int) : List Int := (allF false 2 p).flatMap fun q => (fo1 q).flatMap (allF false 2)
theorem csl_kk (L : List Int) : nrmL 1 ((nrmL 1 L).flatMap fo1) = ordL (L.flatMap kk) := by
  have e1 : nrmL 1 L = ordL (L.flatMap (allF false 2)) := rfl
  have e2 : nrmL 1 ((nrmL 1 L).flatMap fo1) = ordL (((nrmL 1 L).flatMap fo1).flatMap (allF false 2)) := rfl
  rw [e2, e1, List.flatMap_assoc, ord_flat (fun m hm => by rw [fo_mark hm]; simp [allF_none (mark_none hm)]) _ _ rfl, List.flatMap_assoc]
  rfl
/-- All that a point may become. -/
def imgs (p : Int) : List (List Int) := [fo1 p, uo1 p, [lowS p], tiI p, [p]] ++ (if tw p = 530 then [[609 + p - tw p]] else [])
def okI (p : Int) (I : List Int) : Bool := decide (I.flatMap fo1 = fo1 p) && decide (I.flatMap kk = kk p) && (I.all fun x => decide (0 ≤ x ∧ x < 55296)) && (decide (I.length ≤ 1) || (decide (I.length ≤ 2) && I.all fun x => decide (x < 2048)))
def okR (a n : Nat) : Bool := (List.range n).all fun i => (imgs ((a + i : Nat) : Int)).all (okI ((a + i : Nat) : Int))
theorem ok_65 : okR 65 58 = true := by decide +kernel
theorem ok_512 : okR 512 256 = true := by decide +kernel
theorem ok_768 : okR 768 256 = true := by decide +kernel
theorem ok_1024 : okR 1024 256 = true := by decide +kernel
theorem ok_8192 : okR 8192 223 = true := by decide +kernel
theorem ok_8415 : okR 8415 223 = true := by decide +kernel
theorem ok_8638 : okR 8638 223 = true := by decide +kernel
theorem ok_8861 : okR 8861 223 = true := by decide +kernel
theorem ok_9084 : okR 9084 223 = true := by decide +kernel
theorem ok_9307 : okR 9307 223 = true := by decide +kernel
theorem ok_9530 : okR 9530 224 = true := by decide +kernel
theorem ok_at {a n : Nat} (h : okR a n = true) {p : Int} (h0 : (a : Int) ≤ p) (h1 : p < a + n) {I : List Int} (hI : I ∈ imgs p) : okI p I = true := by
  have h2 := List.all_eq_true.1 h (p.toNat - a) (by simp; omega)
  have e : ((a + (p.toNat - a) : Nat) : Int) = p := by omega
  rw [e] at h2
  exact List.all_eq_true.1 h2 I hI
theorem imgs_far {p : Int} (h : p < 65 ∨ (90 < p ∧ p < 97) ∨ (122 < p ∧ p < 512) ∨ (1280 ≤ p ∧ p < 8192) ∨ 9754 ≤ p) : ∀ I ∈ imgs p, I = [p] := by
  have ht : tw p = p := by unfold tw; rw [if_neg (by omega)]
  have e1 : three p = none := by
    unfold three; rw [if_neg (by omega), if_neg (by omega), if_neg (by omega), if_pos (by omega)]
  have e2 : bl p = 0 := by unfold bl; rw [if_pos (by omega)]
  have e3 : lowS p = p := by unfold lowS; rw [e1, if_neg (by omega)]
  have e4 : upS p = p := by unfold upS; rw [e1, e2, if_neg (by omega)]
  have e5 : titS p = p := by unfold titS; rw [e1, e2, if_neg (by omega)]
  have f1 : fo1 p = [p] := by unfold fo1; rw [e2, e3, if_neg (by omega), if_neg (by omega)]
  have f2 : uo1 p = [p] := by unfold uo1; rw [e2, e4, if_neg (by omega)]
  have f3 : tiI p = [p] := by unfold tiI; rw [ht, e5, if_neg (by omega)]
  intro I hI
  unfold imgs at hI
  rw [f1, f2, f3, e3, ht, if_neg (by omega)] at hI
  simpa using hI
theorem enc_le2 {p : Int} (h0 : 0 ≤ p) (h : p < 2048) : (Lib.encodeRuneZ p).length ≤ 2 := by
  by_cases h1 : p < 128
  · rw [Lib.encodeRuneZ_one h0 (by omega)]; simp
  · rw [Lib.encodeRuneZ_two (by omega) (by omega)]; simp
theorem enc_le4 (p : Int) : (Lib.encodeRuneZ p).length ≤ 4 := by
  have := textL_le [p]
  simpa [textL] using this
theorem img_near {p : Int} (h : ¬ (p < 65 ∨ (90 < p ∧ p < 97) ∨ (122 < p ∧ p < 512) ∨ (1280 ≤ p ∧ p < 8192) ∨ 9754 ≤ p)) {I : List Int} (hI : I ∈ imgs p) : okI p I = true := by
  have hd : (65 ≤ p ∧ p < 123) ∨ (512 ≤ p ∧ p < 768) ∨ (768 ≤ p ∧ p < 1024) ∨ (1024 ≤ p ∧ p < 1280) ∨ (8192 ≤ p ∧ p < 8415) ∨ (8415 ≤ p ∧ p < 8638) ∨ (8638 ≤ p ∧ p < 8861) ∨ (8861 ≤ p ∧ p < 9084) ∨ (9084 ≤ p ∧ p < 9307) ∨ (9307 ≤ p ∧ p < 9530) ∨ (9530 ≤ p ∧ p < 9754) := by omega
  rcases hd with h | h | h | h | h | h | h | h | h | h | h
  · exact ok_at ok_65 (by omega) (by omega) hI
  · exact ok_at ok_512 (by omega) (by omega) hI
  · exact ok_at ok_768 (by omega) (by omega) hI
  · exact ok_at ok_1024 (by omega) (by omega) hI
  · exact ok_at ok_8192 (by omega) (by omega) hI
  · exact ok_at ok_8415 (by omega) (by omega) hI
  · exact ok_at ok_8638 (by omega) (by omega) hI
  · exact ok_at ok_8861 (by omega) (by omega) hI
  · exact ok_at ok_9084 (by omega) (by omega) hI
  · exact ok_at ok_9307 (by omega) (by omega) hI
  · exact ok_at ok_9530 (by omega) (by omega) hI
theorem img_ok {p : Int} (hp : isPt p = true) {I : List Int} (hI : I ∈ imgs p) : I.flatMap fo1 = fo1 p ∧ I.flatMap kk = kk p ∧ (∀ x ∈ I, isPt x = true) ∧ wid I ≤ 4 := by
  by_cases h : p < 65 ∨ (90 < p ∧ p < 97) ∨ (122 < p ∧ p < 512) ∨ (1280 ≤ p ∧ p < 8192) ∨ 9754 ≤ p
  · have e := imgs_far h I hI
    subst e
    refine ⟨by simp, by simp, fun x hx => ?_, ?_⟩
    · simp at hx
      rw [hx]
      exact hp
    · have := textL_le [p]
      simpa [wid] using this
  · have h2 := img_near h hI
    unfold okI at h2
    simp only [Bool.and_eq_true, Bool.or_eq_true, decide_eq_true_eq, List.all_eq_true] at h2
    obtain ⟨⟨⟨a1, a2⟩, a3⟩, a4⟩ := h2
    refine ⟨a1, a2, fun x hx => ?_, ?_⟩
    · rw [isPt_iff]
      have := a3 x hx
      omega
    · rcases a4 with a4 | ⟨a4, a5⟩
      · have := textL_le I
        unfold wid
        omega
      · match I, a3, a4, a5 with
        | [], _, _, _ => simp [wid, textL]
        | [x], _, _, _ => have := textL_le [x]; simpa [wid] using this
        | [x, y], a3, _, a5 =>
          have b1 := enc_le2 (a3 x (by simp)).1 (a5 x (by simp))
          have b2 := enc_le2 (a3 y (by simp)).1 (a5 y (by simp))
          rw [wid_cons, wid_cons, wid_nil]
          omega
        | _ :: _ :: _ :: _, _, a4, _ => simp at a4
/-- Rows behind each other. -/
def cat (g : Nat → List Int) : Nat → List Int
  | 0 => []
  | k + 1 => cat g k ++ g k
theorem cat_ok {L : List Int} (hL : ∀ p ∈ L, isPt p = true) {g : Nat → List Int} (hg : ∀ k, k < L.length → g k ∈ imgs (L.getD k 0)) : ∀ k, k ≤ L.length →
    (cat g k).flatMap fo1 = (L.take k).flatMap fo1 ∧ (cat g k).flatMap kk = (L.take k).flatMap kk ∧ (∀ x ∈ cat g k, isPt x = true) ∧ wid (cat g k) ≤ 4 * k
  | 0, _ => ⟨by simp [cat], by simp [cat], by simp [cat], by simp [cat, wid_nil]⟩
  | k + 1, hk => by
    obtain ⟨a1, a2, a3, a4⟩ := cat_ok hL hg k (by omega)
    have hp : isPt (L.getD k 0) = true := hL _ (mem_nth (by omega))
    obtain ⟨b1, b2, b3, b4⟩ := img_ok hp (hg k (by omega))
    refine ⟨?_, ?_, ?_, ?_⟩
    · rw [cat, List.flatMap_append, a1, b1, flat_take L k (by omega)]
    · rw [cat, List.flatMap_append, a2, b2, flat_take L k (by omega)]
    · intro x hx
      rcases List.mem_append.1 hx with hx | hx
      · exact a3 x hx
      · exact b3 x hx
    · rw [cat, wid_app]
      omega
theorem cat_flat (f : Int → List Int) (L : List Int) : ∀ k, k ≤ L.length → cat (fun k => f (L.getD k 0)) k = (L.take k).flatMap f
  | 0, _ => by simp [cat]
  | k + 1, hk => by rw [cat, cat_flat f L k (by omega), flat_take L k (by omega)]
theorem cat_low (L : List Int) : ∀ k, cat (fun k => [loI L k]) k = (List.range k).map (loI L)
  | 0 => rfl
  | k + 1 => by rw [cat, cat_low L k, List.range_succ]; simp
theorem cat_tit (L : List Int) : ∀ k, cat (tt1 L) k = ttk L k
  | 0 => rfl
  | k + 1 => by rw [cat, cat_tit L k]; rfl
theorem lo_img (L : List Int) (k : Nat) : [loI L k] ∈ imgs (L.getD k 0) := by
  unfold loI imgs
  by_cases h : tw (L.getD k 0) = 530 ∧ endW L k = true
  · rw [if_pos h, if_pos h.1]; simp
  · rw [if_neg h]; simp
theorem tt_img (L : List Int) (k : Nat) : tt1 L k ∈ imgs (L.getD k 0) := by
  have h1 := lo_img L k
  unfold tt1
  have e : nth L k = L.getD k 0 := rfl
  rw [e]
  split
  · simp [imgs]
  · split
    · exact h1
    · split
      · simp [imgs]
      · simp [imgs]
/-- A text that a short text became. -/
theorem became {s : ByteArray} (hs : s.size ≤ 10000) {g : Nat → List Int} (hg : ∀ k, k < (ptsOut s).length → g k ∈ imgs ((ptsOut s).getD k 0)) {X : List Int} (hX : X = cat g (ptsOut s).length) :
    (strOfNums (Go.Proofs.YtiodngmbpnkoeaaDoor.small (textL X))).size ≤ 65536 ∧ foldT (strOfNums (Go.Proofs.YtiodngmbpnkoeaaDoor.small (textL X))) = foldT s ∧ csl (strOfNums (Go.Proofs.YtiodngmbpnkoeaaDoor.small (textL X))) = csl s := by
  have e0 : ptsOut s = pts s := by unfold ptsOut; rw [if_neg (by omega)]
  have hle : (pts s).length ≤ s.size := by
    have := pts_le s
    omega
  obtain ⟨a1, a2, a3, a4⟩ := cat_ok (ptsOut_pt s) hg (ptsOut s).length (Nat.le_refl _)
  rw [← hX] at a1 a2 a3 a4
  rw [List.take_length, e0] at a1 a2
  rw [e0] at a4
  have hw : (textL X).length ≤ 40000 := by
    have e : wid X = (textL X).length := rfl
    omega
  have e1 : Go.Proofs.YtiodngmbpnkoeaaDoor.small (textL X) = textL X := by unfold Go.Proofs.YtiodngmbpnkoeaaDoor.small; rw [if_neg (by omega)]
  have hz : (strOfNums (textL X)).size ≤ 65536 := by rw [strOfNums_size]; omega
  have e2 : pts (strOfNums (textL X)) = X := pts_text X a3
  have e3 : ptsOut (strOfNums (textL X)) = X := by unfold ptsOut; rw [if_neg (by omega), e2]
  rw [e1]
  refine ⟨hz, ?_, ?_⟩
  · unfold foldT
    rw [e3, a1, e0]
  · unfold csl
    rw [e2, csl_kk, csl_kk, a2]
theorem fold_became {s : ByteArray} (hs : s.size ≤ 10000) : (strOfNums (foldT s)).size ≤ 65536 ∧ foldT (strOfNums (foldT s)) = foldT s ∧ csl (strOfNums (foldT s)) = csl s :=
  became hs (g := fun k => fo1 ((ptsOut s).getD k 0)) (fun k _ => by simp [imgs]) (by rw [cat_flat _ _ _ (Nat.le_refl _), List.take_length])
theorem upper_became {s : ByteArray} (hs : s.size ≤ 10000) : (strOfNums (upperT s)).size ≤ 65536 ∧ foldT (strOfNums (upperT s)) = foldT s ∧ csl (strOfNums (upperT s)) = csl s :=
  became hs (g := fun k => uo1 ((ptsOut s).getD k 0)) (fun k _ => by simp [imgs]) (by rw [cat_flat _ _ _ (Nat.le_refl _), List.take_length])
theorem lower_became {s : ByteArray} (hs : s.size ≤ 10000) : (strOfNums (lowerT s)).size ≤ 65536 ∧ foldT (strOfNums (lowerT s)) = foldT s ∧ csl (strOfNums (lowerT s)) = csl s :=
  became hs (g := fun k => [loI (ptsOut s) k]) (fun k _ => lo_img _ k) (by rw [cat_low]; rfl)
theorem title_became {s : ByteArray} (hs : s.size ≤ 10000) : (strOfNums (titleT s)).size ≤ 65536 ∧ foldT (strOfNums (titleT s)) = foldT s ∧ csl (strOfNums (titleT s)) = csl s :=
  became hs (g := tt1 (ptsOut s)) (fun k _ => tt_img _ k) (by rw [cat_tit])
theorem csl_same {a b : ByteArray} (ha : a.size ≤ 65536) (hb : b.size ≤ 65536) (h : csl a = csl b) : cslB a b = true := by
  unfold cslB
  rw [decide_eq_true ha, decide_eq_true hb, h]
  simp [sameB]
theorem csl_d {s : ByteArray} (hs : s.size ≤ 10000) : cslB s (strOfNums (nmlOut 1 s)) = true := by
  have e := nml_small (f := 1) (by decide) hs (wid_d s)
  have hz := (eqv_d hs).2
  refine csl_same (by omega) hz ?_
  rw [e]
  unfold csl
  rw [pts_text _ (nrm1_pt s), dd]
end Cas
end Go.Proofs.YtiodngmbpnkoeaaDoor
