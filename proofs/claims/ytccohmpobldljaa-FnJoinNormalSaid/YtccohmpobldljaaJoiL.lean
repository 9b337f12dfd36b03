/- JoinNormal of both, and the law. -/
import Derived.Test.YtccohmpobldljaaEqvL
import Derived.Laws.AppendOwnNone
namespace Go.Proofs.Ytccohmpobldljaa
open Go.RowKit
def fixP (p : Int) : Int := if isPt p = true then p else 65533
theorem fix_pt (p : Int) : isPt (fixP p) = true := by
  unfold fixP
  split
  · assumption
  · exact isPt_broken
theorem fix_enc (p : Int) : Lib.encodeRuneZ (fixP p) = Lib.encodeRuneZ p := by
  unfold fixP
  split
  · rfl
  · rename_i h
    exact enc_bad p (by simpa using h)
theorem fix_text : ∀ (l : List Int), textL (l.map fixP) = textL l
  | [] => rfl
  | x :: l => by
    have h := fix_text l
    unfold textL at h ⊢
    rw [List.map_cons, List.flatMap_cons, List.flatMap_cons, fix_enc, h]
/-- A text that is the text of points is that of its own points. -/
theorem well_text {a : ByteArray} {l : List Int} (h : strOfNums (textL l) = a) : strOfNums (textL (pts a)) = a := by
  have e : strOfNums (textL (l.map fixP)) = a := by rw [fix_text, h]
  have p := pts_text (l.map fixP) (fun x hx => by
    obtain ⟨y, _, rfl⟩ := List.mem_map.1 hx
    exact fix_pt y)
  rw [e] at p
  rw [p]
  exact e
theorem nums_app (x y : List Int) : strOfNums x ++ strOfNums y = strOfNums (x ++ y) := by
  apply ByteArray.ext
  apply Array.ext'
  simp [strOfNums]
theorem pts_app {a b : ByteArray} (ha : strOfNums (textL (pts a)) = a) (hb : strOfNums (textL (pts b)) = b) : pts (a ++ b) = pts a ++ pts b := by
  have e : a ++ b = strOfNums (textL (pts a ++ pts b)) := by
    have : textL (pts a ++ pts b) = textL (pts a) ++ textL (pts b) := by unfold textL; rw [List.flatMap_append]
    rw [this, ← nums_app, ha, hb]
  rw [e]
  exact pts_text _ (fun x hx => by
    rcases List.mem_append.1 hx with hx | hx
    · exact pts_pt a x hx
    · exact pts_pt b x hx)
theorem isN_parts {f : Int} {s : ByteArray} (h : isN f s = true) : isF f = true ∧ s.size ≤ 65536 ∧ strOfNums (textL (pts s)) = s := by
  unfold isN at h
  rw [Bool.and_eq_true, Bool.and_eq_true] at h
  exact ⟨h.1.1, of_decide_eq_true h.1.2, well_text (of_decide_eq_true h.2)⟩
def joinOut (f : Int) (a b : ByteArray) : List Int := if isN f a = true ∧ isN f b = true then small (textL (nrmL f (pts a ++ pts b))) else []
set_option maxRecDepth 100000 in
theorem specJoin (f : Int) (a b : ByteArray) (w : World) (ha : a.size ≤ 1048576) (hb : b.size ≤ 1048576) :
    Calls Try.prog 6 #[.int .i64 f, .string a, .string b] w fun e w' => e = .returned (.string (strOfNums (joinOut f a b))) ∧ Below w.heap.size w w' := by
  have C1 := hide (fun W => specIsN f a W ha)
  have C2 := hide (fun W => specIsN f b W hb)
  cases h1 : isN f a with
  | false =>
    have HE : Hid (strOfNums (joinOut f a b) = { data := #[] }) := hide (by unfold joinOut; rw [if_neg (by rw [h1]; simp)]; rfl)
    rw [h1] at C1
    clear h1 C2
    go_enter Try.func6, Try.ntmps6
    go_wp2_with (go_at_call 7; refine ((unhide C1) _).mono ?_; rintro e w1 ⟨rfl, hb1⟩)
    go_ret
    exact ⟨by rw [unhide HE]; rfl, hb1⟩
  | true =>
    cases h2 : isN f b with
    | false =>
      have HE : Hid (strOfNums (joinOut f a b) = { data := #[] }) := hide (by unfold joinOut; rw [if_neg (by rw [h2]; simp)]; rfl)
      rw [h1] at C1
      rw [h2] at C2
      clear h1 h2
      go_enter Try.func6, Try.ntmps6
      go_wp2_with (first | (go_at_call_of 7 a; refine ((unhide C1) _).mono ?_; rintro e w1 ⟨rfl, hb1⟩; clear C1) | (go_at_call_of 7 b; refine ((unhide C2) _).mono ?_; rintro e w2 ⟨rfl, hb2⟩))
      go_ret
      exact ⟨by rw [unhide HE]; rfl, hb1.trans (hb2.mono hb1.size)⟩
    | true =>
      obtain ⟨hf, s1, t1⟩ := isN_parts h1
      obtain ⟨_, s2, t2⟩ := isN_parts h2
      have C3 := hide (fun W => l05TextS f (a ++ b) W hf (by rw [ByteArray.size_append]; omega))
      have C4 := hide (fun W => smallS (nrmT f (a ++ b)) W)
      have HE : Hid (small (nrmT f (a ++ b)) = joinOut f a b) := hide (by unfold joinOut nrmT; rw [if_pos ⟨h1, h2⟩, pts_app t1 t2])
      rw [h1] at C1
      rw [h2] at C2
      clear h1 h2 hf t1 t2
      generalize small (nrmT f (a ++ b)) = T2 at *
      generalize nrmT f (a ++ b) = T1 at *
      go_enter Try.func6, Try.ntmps6
      go_wp2_with (first | (go_at_call_of 7 a; refine ((unhide C1) _).mono ?_; rintro e w1 ⟨rfl, hb1⟩; clear C1) | (go_at_call_of 7 b; refine ((unhide C2) _).mono ?_; rintro e w2 ⟨rfl, hb2⟩) | (go_at_call 19; refine ((unhide C3) _).mono ?_; rintro e w3 ⟨rfl, hb3⟩) | (go_at_call 18; refine ((unhide C4) _).mono ?_; rintro e w4 ⟨rfl, rfl⟩))
      go_ret
      exact ⟨by rw [← unhide HE]; rfl, (hb1.trans (hb2.mono hb1.size)).trans (hb3.mono (Nat.le_trans hb1.size hb2.size))⟩
set_option maxHeartbeats 1000000 in
set_option maxRecDepth 100000 in
theorem implJoin (f : Int) (a b : ByteArray) (w : World) (ha : a.size ≤ 1048576) (hb : b.size ≤ 1048576) :
    Calls Try.prog 5 #[.int .i64 f, .string a, .string b] w fun e w' => e = .returned (.string (strOfNums (joinOut f a b))) ∧ Below w.heap.size w w' := by
  obtain ⟨i0, hi, hz0, hz1, hz2⟩ := info_parts info2
  have C1 := hide (fun W => implIsN f a W ha)
  have C2 := hide (fun W => implIsN f b W hb)
  cases h1 : isN f a with
  | false =>
    have HE : Hid (strOfNums (joinOut f a b) = { data := #[] }) := hide (by unfold joinOut; rw [if_neg (by rw [h1]; simp)]; rfl)
    rw [h1] at C1
    clear h1 C2
    go_enter Try.func5, Try.ntmps5
    go_wp2_with (go_at_call 9; refine ((unhide C1) _).mono ?_; rintro e w1 ⟨rfl, hb1⟩)
    go_ret
    exact ⟨by rw [unhide HE]; rfl, hb1⟩
  | true =>
    cases h2 : isN f b with
    | false =>
      have HE : Hid (strOfNums (joinOut f a b) = { data := #[] }) := hide (by unfold joinOut; rw [if_neg (by rw [h2]; simp)]; rfl)
      rw [h1] at C1
      rw [h2] at C2
      clear h1 h2
      go_enter Try.func5, Try.ntmps5
      go_wp2_with (first | (go_at_call_of 9 a; refine ((unhide C1) _).mono ?_; rintro e w1 ⟨rfl, hb1⟩; clear C1) | (go_at_call_of 9 b; refine ((unhide C2) _).mono ?_; rintro e w2 ⟨rfl, hb2⟩))
      go_ret
      exact ⟨by rw [unhide HE]; rfl, hb1.trans (hb2.mono hb1.size)⟩
    | true =>
      obtain ⟨hf, s1, t1⟩ := isN_parts h1
      obtain ⟨_, s2, t2⟩ := isN_parts h2
      have hpa := pts_le a
      have hpb := pts_le b
      have hl := nrmL_len f (pts a ++ pts b)
      rw [List.length_append] at hl
      have P1 := hide (fun W => implPoints a W s1)
      have P2 := hide (fun W => implPoints b W s2)
      have NO := hide (fun (W : World) (B0 n : Nat) (v : Value) (hn : n ≤ 131072) (ho : W.ownsRow B0 2 1 v n ((pts a ++ pts b).map (Value.int .i64))) => normalI f B0 n v (pts a ++ pts b) W ho hn)
      have BT := hide (fun (W : World) (v : Value) (h : IntsAt W v (nrmL f (pts a ++ pts b))) => boundedI v _ W h (by omega))
      have HE : Hid (small (textL (nrmL f (pts a ++ pts b))) = joinOut f a b) := hide (by unfold joinOut; rw [if_pos ⟨h1, h2⟩])
      rw [h1] at C1
      rw [h2] at C2
      have hla : (pts a).length ≤ 65536 := by omega
      have hlb : (pts b).length ≤ 65536 := by omega
      clear h1 h2 hf t1 t2 hpa hpb hl
      generalize nrmL f (pts a ++ pts b) = Y at *
      generalize pts a = X1 at *
      generalize pts b = X2 at *
      go_enter Try.func5, Try.ntmps5
      go_wp2_with fail
      refine ((unhide C1) _).mono ?_
      rintro e w1 ⟨rfl, hb1⟩
      have B1 := hide hb1
      clear hb1 C1
      go_wp2_with fail
      refine ((unhide C2) _).mono ?_
      rintro e w2 ⟨rfl, hb2⟩
      have B2 := hide ((unhide B1).trans (hb2.mono (unhide B1).size))
      clear hb2 C2 B1
      go_wp2_with fail
      refine ((unhide P1) _).mono ?_
      rintro e w3 ⟨v3, rfl, ho3, hb3⟩
      have O3 := hide ho3
      have B3 := hide ((unhide B2).trans (hb3.mono (unhide B2).size))
      have hs23 := hb3.size
      clear ho3 hb3 P1
      go_wp2_with fail
      refine ((unhide P2) _).mono ?_
      rintro e w4 ⟨v4, rfl, ho4, hb4⟩
      have O4 := hide ho4
      have Q4 := hide (ownsRow_below (unhide O3) hb4)
      have B4 := hide ((unhide B3).trans (hb4.mono (unhide B3).size))
      have hs34 := hb4.size
      have hs2 := (unhide B2).size
      clear ho4 hb4 P2 O3 B3
      rcases (unhide O4).2 with ⟨hv, hn0⟩ | ⟨g4, c4, cur, hv, _⟩
      · subst hv
        have hX : X2 = [] := List.length_eq_zero_iff.1 hn0
        subst hX
        have Q5 : Hid (w4.ownsRow w2.heap.size 2 1 v3 X1.length ((X1 ++ []).map (Value.int .i64))) := hide (by rw [List.append_nil]; exact unhide Q4)
        go_wp2_with (at_builtin; refine wpList_append_own_none rfl _ _ 35 rfl w2.heap.size 2 i0 1 Try.underlying35 hi _ _ _ rfl (unhide Q4) rfl ?_)
        go_wp2_with fail
        refine ((unhide NO) _ _ _ _ (by omega) (unhide Q5)).mono ?_
        rintro e w6 ⟨v6, rfl, ho6, hb6⟩
        have O6 := hide ho6
        have B6 := hide ((unhide B4).trans (hb6.mono (unhide B4).size))
        clear ho6 hb6
        go_wp2_with fail
        refine ((unhide BT) _ _ (IntsAt.owned (unhide O6))).mono ?_
        rintro e w7 ⟨rfl, hb7⟩
        have B7 := hide ((unhide B6).trans (hb7.mono (unhide B6).size))
        clear hb7
        go_wp2
        go_ret
        exact ⟨by rw [← unhide HE]; rfl, unhide B7⟩
      · subst hv
        go_wp2_with (at_builtin; refine wpList_append_own _ rfl _ _ 35 rfl w2.heap.size 2 i0 (.int .i64 0) 1 8 Try.underlying35 hi hz0 hz1 hz2 rfl (by decide) _ _ _ rfl (unhide Q4) ⟨g4, 0, none⟩ X2.length c4 (X2.map (Value.int .i64)) rfl (by simp) (row_src (unhide O4)) (nums_oneN _) (by unfold maxLen; omega) (by omega) (by omega) ?_)
        intro v5 w5 hown' hgrow _
        have O5 : Hid (w5.ownsRow w2.heap.size 2 1 v5 (X1.length + X2.length) ((X1 ++ X2).map (Value.int .i64))) := hide (by rw [List.map_append]; exact hown')
        have B5 := hide ((unhide B4).grown hgrow (by omega) (fun m hm => Nat.le_trans hs2 ((unhide Q4).lt m hm).1))
        clear hown' hgrow
        go_wp2_with fail
        refine ((unhide NO) _ _ _ _ (by omega) (unhide O5)).mono ?_
        rintro e w6 ⟨v6, rfl, ho6, hb6⟩
        have O6 := hide ho6
        have B6 := hide ((unhide B5).trans (hb6.mono (unhide B5).size))
        clear ho6 hb6
        go_wp2_with fail
        refine ((unhide BT) _ _ (IntsAt.owned (unhide O6))).mono ?_
        rintro e w7 ⟨rfl, hb7⟩
        have B7 := hide ((unhide B6).trans (hb7.mono (unhide B6).size))
        clear hb7
        go_wp2
        go_ret
        exact ⟨by rw [← unhide HE]; rfl, unhide B7⟩
end Go.Proofs.Ytccohmpobldljaa
