/- RopeFault, RopeText and Piece of both sides, and their laws. -/
import Derived.Test.YtaipnmmlfbfcnaaDoorRpfT
import Derived.Test.YtaipnmmlfbfcnaaDoorRpfS
import Derived.Test.YtaipnmmlfbfcnaaDoorRpfW
namespace Go.Proofs.YtaipnmmlfbfcnaaDoor.Rop
open Go.RowKit Rwc
set_option linter.unusedVariables false
/-- What is asked of a rope that is small enough. -/
structure Sm (L : List Nd) (M : List Mk) : Prop where
  l : L.length ≤ 1048576
  m : M.length ≤ 1048576
  t : ∀ i, i < L.length → (nd_g L i).text.size ≤ 1048576
  n : ∀ i, i < M.length → (mk_g M i).name.size ≤ 1048576
  c : (cat L).size ≤ 1048576
theorem sm_of {L : List Nd} {M : List Mk} (h : ¬ lf 1048576 (nd_sR L + mk_sR M) < 0) : Sm L M := by
  have hs : nd_sR L + mk_sR M ≤ 1048576 := by
    by_cases c : (1048576 : Int) - ((nd_sR L + mk_sR M : Nat) : Int) < 0
    · rw [lf_no c] at h; omega
    · omega
  have e1 : nd_sR L = L.length + nd_sk L L.length := rfl
  have e2 : mk_sR M = M.length + mk_sk M M.length := rfl
  refine ⟨by omega, by omega, fun i hi => ?_, fun i hi => ?_, cat_le L _ (by omega)⟩
  · have := nd_sk_up L i L.length hi
    have e : nd_s1 (nd_g L i) = (nd_g L i).text.size := rfl
    omega
  · have := mk_sk_up M i M.length hi
    have e : mk_s1 (mk_g M i) = (mk_g M i).name.size := rfl
    omega
theorem rgt_split (L N : List Nd) (M : List Mk) : rgt L N M = (decide ((cat L).size ≤ 65536) && ((decide (M.length ≤ 100) && mksR M (cat L).size 0) && (N.length == L.length && sameR L N 0))) := by
  unfold rgt
  cases decide ((cat L).size ≤ 65536) <;> cases decide (M.length ≤ 100) <;> cases (N.length == L.length) <;> cases sameR L N 0 <;> cases mksR M (cat L).size 0 <;> rfl
/-- The tree of a rope, whatever it is. -/
def Ans (T : RT) (b : Bool) (W : World) (p : Option Addr) : Prop := (b = false ∧ p = none) ∨ (b = true ∧ ∃ H : HT, p = H.ptr ∧ H.sh = T ∧ In W.heap.size W H)
theorem treeAny (v1 v2 : Value) (L : List Nd) (M : List Mk) (T : RT) (B : Nat) (w : World) (h1 : nd_At B w v1 L) (h2 : mk_At B w v2 M) (hT : IsTr (cat L) T) (hTab : TabD w) (hS : Sm L M) :
    Calls Tryd.prog 28 #[.agg #[v1, v2]] w fun e w' => ∃ p, e = .returned (.tuple #[.pointer p, .bool (rgt L (nds T 0) M)]) ∧ Ans T (rgt L (nds T 0) M) w' p ∧ Below w.heap.size w w' := by
  rw [rgt_split]
  by_cases hc : (cat L).size ≤ 65536
  · rw [decide_eq_true hc, Bool.true_and]
    cases hm : (decide (M.length ≤ 100) && mksR M (cat L).size 0)
    · refine (treeMarks v1 v2 L M T B w h1 h2 hT hTab hS.l hS.m hS.t hS.n hc hm).mono ?_
      rintro e w' ⟨rfl, hb⟩
      exact ⟨none, rfl, .inl ⟨rfl, rfl⟩, hb⟩
    · rw [Bool.true_and]
      cases he : ((nds T 0).length == L.length && sameR L (nds T 0) 0)
      · refine (treeNo v1 v2 L M T B w h1 h2 hT hTab hS.l hS.m hS.t hS.n hc hm he).mono ?_
        rintro e w' ⟨rfl, hb⟩
        exact ⟨none, rfl, .inl ⟨rfl, rfl⟩, hb⟩
      · refine (treeYes v1 v2 L M T B w h1 h2 hT hTab hS.l hS.m hS.t hS.n hc hm he).mono ?_
        rintro e w' ⟨H, rfl, hs, hi, hb⟩
        exact ⟨_, rfl, .inr ⟨rfl, H, rfl, hs, hi⟩, hb⟩
  · rw [decide_eq_false hc, Bool.false_and]
    refine (treeLong v1 v2 L M T B w h1 h2 hT hTab hS.l hS.m hS.t hS.n hc).mono ?_
    rintro e w' ⟨rfl, hb⟩
    exact ⟨none, rfl, .inl ⟨rfl, rfl⟩, hb⟩
def txt (b : Bool) (C : ByteArray) : ByteArray := if b then C else ⟨#[]⟩
set_option maxRecDepth 100000 in
theorem textNone (w : World) : Calls Tryd.prog 31 #[.pointer none] w fun e w' => e = .returned (.string ⟨#[]⟩) ∧ w' = w := by
  go_enter Tryd.func31, Tryd.ntmps31
  go_wp2
  go_ret
  exact ⟨rfl, rfl⟩
set_option maxRecDepth 100000 in
theorem textSome (b : Nat) (t : ByteArray) (n : Nat) (p q : Option Addr) (w : World) (h : w.heap[b]? = some (brn t n p q)) : Calls Tryd.prog 31 #[.pointer (some ⟨b, 0, none⟩)] w fun e w' => e = .returned (.string t) ∧ w' = w := by
  unfold brn at h
  obtain ⟨c0, _⟩ := five_cellsR h
  clear h
  go_enter Tryd.func31, Tryd.ntmps31
  go_wp2
  go_ret
  exact ⟨rfl, rfl⟩
theorem textAny (T : RT) (C : ByteArray) (hT : IsTr C T) (b : Bool) (w : World) (p : Option Addr) (h : Ans T b w p) : Calls Tryd.prog 31 #[.pointer p] w fun e w' => e = .returned (.string (txt b C)) ∧ w' = w := by
  rcases h with ⟨rfl, rfl⟩ | ⟨rfl, H, rfl, hs, hi⟩
  · exact textNone w
  · by_cases hn : H.sh = .nil
    · have hp : H.ptr = none := by cases H <;> first | rfl | (exact absurd hn (by simp [HT.sh]))
      have hC : C = ⟨#[]⟩ := by
        have := hT.text
        rw [← hs, hn] at this
        exact this.symm
      rw [hp]
      show Calls _ _ _ _ fun e w' => e = .returned (.string C) ∧ w' = w
      rw [hC]
      exact textNone w
    · obtain ⟨b, p, q, e1, e2, e3⟩ := In.head hi hn
      rw [e1]
      have : H.sh.text = C := by rw [hs]; exact hT.text
      rw [this] at e3
      exact textSome b C _ p q w e3
set_option maxRecDepth 100000 in
set_option maxHeartbeats 2000000 in
theorem faultI (v1 v2 : Value) (L : List Nd) (M : List Mk) (T : RT) (B : Nat) (w : World) (h1 : nd_At B w v1 L) (h2 : mk_At B w v2 M) (hT : IsTr (cat L) T) (hS : Sm L M) (hTab : TabD w) :
    Calls Tryd.prog 11 #[.agg #[v1, v2]] w fun e w' => e = .returned (.int .i64 (flt (rgt L (nds T 0) M))) ∧ Below w.heap.size w w' := by
  have CT := hide (fun W (x : nd_At B W v1 L) (y : mk_At B W v2 M) (z : TabD W) => treeAny v1 v2 L M T B W x y hT z hS)
  have HTAB := hide hTab
  have H1 := hide h1
  have H2 := hide h2
  obtain ⟨a1, c1, rfl⟩ := nd_form h1
  obtain ⟨a2, c2, rfl⟩ := mk_form h2
  clear h1 h2
  have B0 := hide ((Below.refl w.heap.size w).alloc (Nat.le_refl _) (.cells #[.slice a1 L.length c1, .slice a2 M.length c2] 31))
  have N0 := hide (heap_new w (.cells #[.slice a1 L.length c1, .slice a2 M.length c2] 31))
  have Z0 : Hid ((w.alloc (.cells #[.slice a1 L.length c1, .slice a2 M.length c2] 31)).heap.size = w.heap.size + 1) := hide (by simp)
  clear hTab hT hS
  generalize rgt L (nds T 0) M = b at *
  go_enter Tryd.func11, Tryd.ntmps11
  go_wp2_with fail
  generalize w.alloc (.cells #[.slice a1 L.length c1, .slice a2 M.length c2] 31) = w0 at *
  refine ((unhide CT) _ (nd_below (unhide H1) (unhide B0)) (mk_below (unhide H2) (unhide B0)) ((unhide HTAB).below (unhide B0))).mono ?_
  rintro e w1 ⟨p, rfl, _, hb1⟩
  have B1 := hide ((unhide B0).trans (hb1.mono (unhide B0).size))
  clear hb1 CT
  cases b
  · go_wp2
    go_ret
    exact ⟨rfl, unhide B1⟩
  · go_wp2
    go_ret
    exact ⟨rfl, unhide B1⟩
set_option maxRecDepth 100000 in
set_option maxHeartbeats 2000000 in
theorem ropeTextI (v1 v2 : Value) (L : List Nd) (M : List Mk) (T : RT) (B : Nat) (w : World) (h1 : nd_At B w v1 L) (h2 : mk_At B w v2 M) (hT : IsTr (cat L) T) (hS : Sm L M) (hTab : TabD w) :
    Calls Tryd.prog 14 #[.agg #[v1, v2]] w fun e w' => e = .returned (.string (txt (rgt L (nds T 0) M) (cat L))) ∧ Below w.heap.size w w' := by
  have CT := hide (fun W (x : nd_At B W v1 L) (y : mk_At B W v2 M) (z : TabD W) => treeAny v1 v2 L M T B W x y hT z hS)
  have CX := hide (fun b W p (x : Ans T b W p) => textAny T (cat L) hT b W p x)
  have HTAB := hide hTab
  have H1 := hide h1
  have H2 := hide h2
  obtain ⟨a1, c1, rfl⟩ := nd_form h1
  obtain ⟨a2, c2, rfl⟩ := mk_form h2
  clear h1 h2
  have B0 := hide ((Below.refl w.heap.size w).alloc (Nat.le_refl _) (.cells #[.slice a1 L.length c1, .slice a2 M.length c2] 31))
  have N0 := hide (heap_new w (.cells #[.slice a1 L.length c1, .slice a2 M.length c2] 31))
  have Z0 : Hid ((w.alloc (.cells #[.slice a1 L.length c1, .slice a2 M.length c2] 31)).heap.size = w.heap.size + 1) := hide (by simp)
  clear hTab hT hS
  generalize rgt L (nds T 0) M = b at *
  generalize cat L = C at *
  go_enter Tryd.func14, Tryd.ntmps14
  go_wp2_with fail
  generalize w.alloc (.cells #[.slice a1 L.length c1, .slice a2 M.length c2] 31) = w0 at *
  refine ((unhide CT) _ (nd_below (unhide H1) (unhide B0)) (mk_below (unhide H2) (unhide B0)) ((unhide HTAB).below (unhide B0))).mono ?_
  rintro e w1 ⟨p, rfl, ha, hb1⟩
  have HA := hide ha
  have B1 := hide ((unhide B0).trans (hb1.mono (unhide B0).size))
  clear hb1 CT ha
  generalize txt b C = R at *
  go_wp2_with (go_at_call 31; refine ((unhide CX) b _ _ (unhide HA)).mono ?_; rintro e w2 ⟨rfl, hw⟩; obtain rfl := hw.symm; clear hw)
  go_ret
  exact ⟨rfl, unhide B1⟩
theorem flt_no : flt false = 1 := rfl
theorem flt_yes : flt true = 0 := rfl
set_option maxRecDepth 100000 in
set_option maxHeartbeats 2000000 in
theorem ropeTextS (v1 v2 : Value) (L : List Nd) (M : List Mk) (T : RT) (B : Nat) (w : World) (h1 : nd_At B w v1 L) (h2 : mk_At B w v2 M) (hT : IsTr (cat L) T) (hS : Sm L M) :
    Calls Tryd.prog 13 #[.agg #[v1, v2]] w fun e w' => e = .returned (.string (txt (rgt L (nds T 0) M) (cat L))) ∧ Below w.heap.size w w' := by
  have hcc := hS.c
  have CF := hide (fun W (x : nd_At B W v1 L) (y : mk_At B W v2 M) => faultS v1 v2 L M T B W x y hT hS.l hS.m (by omega) hS.n)
  have CX := hide (fun W (x : nd_At B W v1 L) => textS v1 L B W x hS.l (by omega))
  have H1 := hide h1
  have H2 := hide h2
  obtain ⟨a1, c1, rfl⟩ := nd_form h1
  obtain ⟨a2, c2, rfl⟩ := mk_form h2
  clear h1 h2
  have B0 := hide ((Below.refl w.heap.size w).alloc (Nat.le_refl _) (.cells #[.slice a1 L.length c1, .slice a2 M.length c2] 31))
  have N0 := hide (heap_new w (.cells #[.slice a1 L.length c1, .slice a2 M.length c2] 31))
  have Z0 : Hid ((w.alloc (.cells #[.slice a1 L.length c1, .slice a2 M.length c2] 31)).heap.size = w.heap.size + 1) := hide (by simp)
  clear hT hS hcc
  generalize rgt L (nds T 0) M = b at *
  generalize cat L = C at *
  go_enter Tryd.func13, Tryd.ntmps13
  go_wp2_with fail
  generalize w.alloc (.cells #[.slice a1 L.length c1, .slice a2 M.length c2] 31) = w0 at *
  cases b
  · rw [flt_no] at CF
    refine ((unhide CF) _ (nd_below (unhide H1) (unhide B0)) (mk_below (unhide H2) (unhide B0))).mono ?_
    rintro e w1 ⟨rfl, hb1⟩
    have B1 := hide ((unhide B0).trans (hb1.mono (unhide B0).size))
    clear hb1 CF
    go_wp2
    go_ret
    exact ⟨rfl, unhide B1⟩
  · rw [flt_yes] at CF
    refine ((unhide CF) _ (nd_below (unhide H1) (unhide B0)) (mk_below (unhide H2) (unhide B0))).mono ?_
    rintro e w1 ⟨rfl, hb1⟩
    have B1 := hide ((unhide B0).trans (hb1.mono (unhide B0).size))
    obtain ⟨n0, n1, _, _⟩ := two_cells ((hb1.block w.heap.size (by rw [unhide Z0]; omega)).trans (unhide N0))
    clear hb1 CF
    go_wp2_with (go_at_call 23; refine ((unhide CX) _ (nd_below (unhide H1) (unhide B1))).mono ?_; rintro e w2 ⟨rfl, hb2⟩; have B2 := hide ((unhide B1).trans (hb2.mono (unhide B1).size)); clear hb2)
    go_ret
    exact ⟨rfl, unhide B2⟩
def pcs (t : ByteArray) (a b : Int) : ByteArray := if 0 ≤ a ∧ a ≤ b ∧ b ≤ (t.size : Int) then t.extract a.toNat b.toNat else ⟨#[]⟩
theorem pcs_no {t : ByteArray} {a b : Int} (h : ¬ (0 ≤ a ∧ a ≤ b ∧ b ≤ (t.size : Int))) : pcs t a b = ⟨#[]⟩ := if_neg h
theorem pcs_yes {t : ByteArray} {a b : Int} (h : 0 ≤ a ∧ a ≤ b ∧ b ≤ (t.size : Int)) : pcs t a b = t.extract a.toNat b.toNat := if_pos h
set_option maxRecDepth 100000 in
set_option maxHeartbeats 4000000 in
theorem pieceS (v1 v2 : Value) (L : List Nd) (M : List Mk) (T : RT) (B : Nat) (w : World) (h1 : nd_At B w v1 L) (h2 : mk_At B w v2 M) (hT : IsTr (cat L) T) (hS : Sm L M) (fr tq : Int) :
    Calls Tryd.prog 15 #[.agg #[v1, v2], .int .i64 fr, .int .i64 tq] w fun e w' => e = .returned (.string (pcs (txt (rgt L (nds T 0) M) (cat L)) fr tq)) ∧ Below w.heap.size w w' := by
  have CT := hide (fun W (x : nd_At B W v1 L) (y : mk_At B W v2 M) => ropeTextS v1 v2 L M T B W x y hT hS)
  have H1 := hide h1
  have H2 := hide h2
  obtain ⟨a1, c1, rfl⟩ := nd_form h1
  obtain ⟨a2, c2, rfl⟩ := mk_form h2
  clear h1 h2
  have B0 := hide ((Below.refl w.heap.size w).alloc (Nat.le_refl _) (.cells #[.slice a1 L.length c1, .slice a2 M.length c2] 31))
  have N0 := hide (heap_new w (.cells #[.slice a1 L.length c1, .slice a2 M.length c2] 31))
  have Z0 : Hid ((w.alloc (.cells #[.slice a1 L.length c1, .slice a2 M.length c2] 31)).heap.size = w.heap.size + 1) := hide (by simp)
  clear hT hS
  generalize txt (rgt L (nds T 0) M) (cat L) = X at *
  have HN := hide (pcs_no (t := X) (a := fr) (b := tq))
  have HY := hide (pcs_yes (t := X) (a := fr) (b := tq))
  generalize pcs X fr tq = R at *
  go_enter Tryd.func15, Tryd.ntmps15
  go_wp2_with fail
  generalize w.alloc (.cells #[.slice a1 L.length c1, .slice a2 M.length c2] 31) = w0 at *
  refine ((unhide CT) _ (nd_below (unhide H1) (unhide B0)) (mk_below (unhide H2) (unhide B0))).mono ?_
  rintro e w1 ⟨rfl, hb1⟩
  have B1 := hide ((unhide B0).trans (hb1.mono (unhide B0).size))
  clear hb1 CT
  by_cases c1 : fr < 0
  · have HR := hide ((unhide HN) (by omega))
    go_wp2
    go_ret
    exact ⟨by rw [unhide HR]; rfl, unhide B1⟩
  have c1b : decide (fr < 0) = false := decide_eq_false c1
  by_cases c2 : tq < fr
  · have HR := hide ((unhide HN) (by omega))
    go_wp2
    go_ret
    exact ⟨by rw [unhide HR]; rfl, unhide B1⟩
  have c2b : decide (tq < fr) = false := decide_eq_false c2
  by_cases c3 : (X.size : Int) < tq
  · have HR := hide ((unhide HN) (by omega))
    go_wp2
    go_ret
    exact ⟨by rw [unhide HR]; rfl, unhide B1⟩
  have c3b : decide ((X.size : Int) < tq) = false := decide_eq_false c3
  have HR := hide ((unhide HY) (by omega))
  obtain ⟨m, rfl⟩ : ∃ m : Nat, fr = (m : Int) := ⟨fr.toNat, by omega⟩
  obtain ⟨n, rfl⟩ : ∃ n : Nat, tq = (n : Int) := ⟨tq.toNat, by omega⟩
  have d1 : m ≤ n := by omega
  have d2 : n ≤ X.size := by omega
  have d0 : (0 : Int) ≤ (m : Int) := by omega
  have d3 : (m : Int) ≤ (n : Int) := by omega
  have d4 : (n : Int) ≤ (X.size : Int) := by omega
  rw [Int.toNat_natCast, Int.toNat_natCast] at HR
  clear HN HY c1 c2 c3
  go_wp2
  go_ret
  exact ⟨by rw [unhide HR]; rfl, unhide B1⟩
set_option maxRecDepth 100000 in
set_option maxHeartbeats 4000000 in
theorem pieceI (v1 v2 : Value) (L : List Nd) (M : List Mk) (T : RT) (B : Nat) (w : World) (h1 : nd_At B w v1 L) (h2 : mk_At B w v2 M) (hT : IsTr (cat L) T) (hS : Sm L M) (hTab : TabD w) (fr tq : Int) :
    Calls Tryd.prog 16 #[.agg #[v1, v2], .int .i64 fr, .int .i64 tq] w fun e w' => e = .returned (.string (pcs (txt (rgt L (nds T 0) M) (cat L)) fr tq)) ∧ Below w.heap.size w w' := by
  have CT := hide (fun W (x : nd_At B W v1 L) (y : mk_At B W v2 M) (z : TabD W) => treeAny v1 v2 L M T B W x y hT z hS)
  have CX := hide (fun W p (x : Ans T (rgt L (nds T 0) M) W p) => textAny T (cat L) hT (rgt L (nds T 0) M) W p x)
  have CW := hide (fun W => within_any fr 0 tq W)
  have HTAB := hide hTab
  have H1 := hide h1
  have H2 := hide h2
  obtain ⟨a1, c1, rfl⟩ := nd_form h1
  obtain ⟨a2, c2, rfl⟩ := mk_form h2
  clear h1 h2
  have B0 := hide ((Below.refl w.heap.size w).alloc (Nat.le_refl _) (.cells #[.slice a1 L.length c1, .slice a2 M.length c2] 31))
  have N0 := hide (heap_new w (.cells #[.slice a1 L.length c1, .slice a2 M.length c2] 31))
  have Z0 : Hid ((w.alloc (.cells #[.slice a1 L.length c1, .slice a2 M.length c2] 31)).heap.size = w.heap.size + 1) := hide (by simp)
  clear hTab hT hS
  generalize rgt L (nds T 0) M = b at *
  generalize cat L = C at *
  generalize txt b C = X at *
  have HN := hide (pcs_no (t := X) (a := fr) (b := tq))
  have HY := hide (pcs_yes (t := X) (a := fr) (b := tq))
  generalize pcs X fr tq = R at *
  go_enter Tryd.func16, Tryd.ntmps16
  go_wp2_with fail
  generalize w.alloc (.cells #[.slice a1 L.length c1, .slice a2 M.length c2] 31) = w0 at *
  refine ((unhide CT) _ (nd_below (unhide H1) (unhide B0)) (mk_below (unhide H2) (unhide B0)) ((unhide HTAB).below (unhide B0))).mono ?_
  rintro e w1 ⟨p, rfl, ha, hb1⟩
  have HA := hide ha
  have B1 := hide ((unhide B0).trans (hb1.mono (unhide B0).size))
  have CX1 := hide ((unhide CX) w1 p ha)
  clear hb1 CT ha CX
  go_wp2_with fail
  refine (unhide CX1).mono ?_
  rintro e w2 ⟨rfl, hw⟩
  obtain rfl := hw.symm
  clear hw CX1
  by_cases c1 : 0 ≤ fr ∧ fr ≤ tq
  · rw [decide_eq_true c1.1, decide_eq_true c1.2] at CW
    by_cases c3 : (X.size : Int) < tq
    · have HR := hide ((unhide HN) (by omega))
      clear c1
      go_wp2_with (go_at_call 32; refine ((unhide CW) _).mono ?_; rintro e w3 ⟨rfl, hw⟩; obtain rfl := hw.symm; clear hw)
      go_ret
      exact ⟨by rw [unhide HR]; rfl, unhide B1⟩
    have c3b : decide ((X.size : Int) < tq) = false := decide_eq_false c3
    have HR := hide ((unhide HY) (by omega))
    obtain ⟨m, rfl⟩ : ∃ m : Nat, fr = (m : Int) := ⟨fr.toNat, by omega⟩
    obtain ⟨n, rfl⟩ : ∃ n : Nat, tq = (n : Int) := ⟨tq.toNat, by omega⟩
    have d1 : m ≤ n := by omega
    have d2 : n ≤ X.size := by omega
    have d0 : (0 : Int) ≤ (m : Int) := by omega
    have d3 : (m : Int) ≤ (n : Int) := by omega
    have d4 : (n : Int) ≤ (X.size : Int) := by omega
    rw [Int.toNat_natCast, Int.toNat_natCast] at HR
    clear HN HY c1 c3
    go_wp2_with (go_at_call 32; refine ((unhide CW) _).mono ?_; rintro e w3 ⟨rfl, hw⟩; obtain rfl := hw.symm; clear hw)
    go_ret
    exact ⟨by rw [unhide HR]; rfl, unhide B1⟩
  · have hF : (decide (0 ≤ fr) && decide (fr ≤ tq)) = false := by
      by_cases h : 0 ≤ fr
      · rw [decide_eq_false (show ¬ fr ≤ tq by omega), Bool.and_false]
      · rw [decide_eq_false h, Bool.false_and]
    rw [hF] at CW
    have HR := hide ((unhide HN) (by omega))
    clear c1 hF
    go_wp2_with (go_at_call 32; refine ((unhide CW) _).mono ?_; rintro e w3 ⟨rfl, hw⟩; obtain rfl := hw.symm; clear hw)
    go_ret
    exact ⟨by rw [unhide HR]; rfl, unhide B1⟩
set_option maxRecDepth 100000 in
set_option maxHeartbeats 8000000 in
theorem lawRopeFault (v1 v2 : Value) (L : List Nd) (M : List Mk) (w : World) (h1 : nd_At 0 w v1 L) (h2 : mk_At 0 w v2 M) (f1 : nd_FR L) (f2 : mk_FR M) (hTab : TabD w) :
    Calls Tryd.prog 3 #[.agg #[v1, v2]] w fun e w' => e = .returned (.bool true) ∧ Below w.heap.size w w' := by
  have CZ := hide (fun W (x : nd_At 0 W v1 L) (y : mk_At 0 W v2 M) => szRopeI v1 v2 L M 0 W x y f1 f2)
  have HTAB := hide hTab
  have H1 := hide h1
  have H2 := hide h2
  obtain ⟨a1, c1, rfl⟩ := nd_form h1
  obtain ⟨a2, c2, rfl⟩ := mk_form h2
  clear h1 h2 hTab f1 f2
  have B0 := hide ((Below.refl w.heap.size w).alloc (Nat.le_refl _) (.cells #[.slice a1 L.length c1, .slice a2 M.length c2] 25))
  have N0 := hide (heap_new w (.cells #[.slice a1 L.length c1, .slice a2 M.length c2] 25))
  have Z0 : Hid (w.heap.size < (w.alloc (.cells #[.slice a1 L.length c1, .slice a2 M.length c2] 25)).heap.size) := hide (by simp)
  have HSM := hide (sm_of (L := L) (M := M))
  generalize lf 1048576 (nd_sR L + mk_sR M) = F at *
  go_enter Tryd.func3, Tryd.ntmps3
  go_wp2_with fail
  generalize w.alloc (.cells #[.slice a1 L.length c1, .slice a2 M.length c2] 25) = w0 at *
  refine ((unhide CZ) _ (nd_below (unhide H1) (unhide B0)) (mk_below (unhide H2) (unhide B0))).mono ?_
  rintro e w1 ⟨rfl, hb1⟩
  have B1 := hide ((unhide B0).trans (hb1.mono (unhide B0).size))
  have N1 := hide ((hb1.block w.heap.size (unhide Z0)).trans (unhide N0))
  have Z1 : Hid (w.heap.size < w1.heap.size) := hide (by have := hb1.size; have := unhide Z0; omega)
  clear hb1 N0 CZ Z0 B0
  by_cases hneg : F < 0
  · go_wp2
    go_ret
    exact ⟨rfl, unhide B1⟩
  · have hS := (unhide HSM) (by omega)
    obtain ⟨T, hT⟩ := isTr_exists (cat L).size (cat L) (Nat.le_refl _)
    have CT := hide (fun W (x : nd_At 0 W (.slice a1 L.length c1) L) (y : mk_At 0 W (.slice a2 M.length c2) M) => toRopeI (.slice a1 L.length c1) (.slice a2 M.length c2) L M 0 W x y hS.l hS.m)
    have CS := hide (fun u1 u2 B W (x : nd_At B W u1 L) (y : mk_At B W u2 M) => faultS u1 u2 L M T B W x y hT hS.l hS.m (by have := hS.c; omega) hS.n)
    have CI := hide (fun u1 u2 B W (x : nd_At B W u1 L) (y : mk_At B W u2 M) (z : TabD W) => faultI u1 u2 L M T B W x y hT hS z)
    have CE := hide (fun u1 u2 u3 u4 B1 B2 W (x : nd_At B1 W u1 L) (y : mk_At B1 W u2 M) (x' : nd_At B2 W u3 L) (y' : mk_At B2 W u4 M) => eqRope2 u1 u2 u3 u4 L M B1 B2 W x y x' y' hS.l hS.m)
    clear hS hT HSM
    generalize flt (rgt L (nds T 0) M) = Q at *
    have hQQ : (Q != Q) = false := by simp
    obtain ⟨n0, n1, _, _⟩ := two_cells (unhide N1)
    go_wp2_with fail
    refine ((unhide CT) _ (nd_below (unhide H1) (unhide B1)) (mk_below (unhide H2) (unhide B1))).mono ?_
    rintro e w2 ⟨q1, q2, rfl, ho2, hp2, hb2⟩
    have O2 := hide ho2
    have P2 := hide hp2
    have B2 := hide ((unhide B1).trans (hb2.mono (unhide B1).size))
    have N2 := hide ((hb2.block w.heap.size (unhide Z1)).trans (unhide N1))
    have Z2 : Hid (w.heap.size < w2.heap.size) := hide (by have := hb2.size; have := unhide Z1; omega)
    clear ho2 hp2 hb2 n0 n1 N1
    go_wp2_with fail
    refine ((unhide CS) _ _ _ _ (unhide O2) (unhide P2)).mono ?_
    rintro e w3 ⟨rfl, hb3⟩
    have B3 := hide ((unhide B2).trans (hb3.mono (unhide B2).size))
    have N3 := hide ((hb3.block w.heap.size (unhide Z2)).trans (unhide N2))
    have Z3 : Hid (w.heap.size < w3.heap.size) := hide (by have := hb3.size; have := unhide Z2; omega)
    clear hb3 CS O2 P2 N2
    obtain ⟨n0, n1, _, _⟩ := two_cells (unhide N3)
    go_wp2_with fail
    refine ((unhide CT) _ (nd_below (unhide H1) (unhide B3)) (mk_below (unhide H2) (unhide B3))).mono ?_
    rintro e w4 ⟨q3, q4, rfl, ho4, hp4, hb4⟩
    have B4 := hide ((unhide B3).trans (hb4.mono (unhide B3).size))
    have N4 := hide ((hb4.block w.heap.size (unhide Z3)).trans (unhide N3))
    have Z4 : Hid (w.heap.size < w4.heap.size) := hide (by have := hb4.size; have := unhide Z3; omega)
    have hal := (Below.refl w4.heap.size w4).alloc (Nat.le_refl _) (.cells #[.slice (some ⟨q3, 0, none⟩) L.length L.length, .slice (some ⟨q4, 0, none⟩) M.length M.length] 31)
    have B5 := hide ((unhide B4).trans (hal.mono (unhide B4).size))
    have X5 := hide (heap_new w4 (.cells #[.slice (some ⟨q3, 0, none⟩) L.length L.length, .slice (some ⟨q4, 0, none⟩) M.length M.length] 31))
    have N5 := hide ((hal.block w.heap.size (unhide Z4)).trans (unhide N4))
    have O5 := hide (nd_below ho4 hal)
    have P5 := hide (mk_below hp4 hal)
    have Z5 : Hid (w4.heap.size < (w4.alloc (.cells #[.slice (some ⟨q3, 0, none⟩) L.length L.length, .slice (some ⟨q4, 0, none⟩) M.length M.length] 31)).heap.size) := hide (by simp)
    clear ho4 hp4 hb4 hal n0 n1 N3 N4
    obtain ⟨x0, x1, _, _⟩ := two_cells (unhide X5)
    go_wp2_with fail
    generalize w4.alloc (.cells #[.slice (some ⟨q3, 0, none⟩) L.length L.length, .slice (some ⟨q4, 0, none⟩) M.length M.length] 31) = w5 at *
    refine ((unhide CI) _ _ _ _ (unhide O5) (unhide P5) ((unhide HTAB).below (unhide B5))).mono ?_
    rintro e w6 ⟨rfl, hb6⟩
    have B6 := hide ((unhide B5).trans (hb6.mono (unhide B5).size))
    have O6 := hide (nd_below (unhide O5) hb6)
    have P6 := hide (mk_below (unhide P5) hb6)
    obtain ⟨y0, y1, _, _⟩ := two_cells ((hb6.block w4.heap.size (unhide Z5)).trans (unhide X5))
    obtain ⟨n0, n1, _, _⟩ := two_cells ((hb6.block w.heap.size (by have := unhide Z5; have := unhide Z4; omega)).trans (unhide N5))
    have Z6 : Hid (w4.heap.size < w6.heap.size) := hide (by have := hb6.size; have := unhide Z5; omega)
    have Z7 : Hid (w.heap.size < w6.heap.size) := hide (by have := unhide Z6; have := unhide Z4; omega)
    clear hb6 CI x0 x1 X5 N5 O5 P5
    go_wp2_with fail
    have K6 : (fun w' : World => (w'.cell? ⟨w4.heap.size, 0, none⟩ = some (.slice (some ⟨q3, 0, none⟩) L.length L.length) ∧ w'.cell? ⟨w4.heap.size, 1, none⟩ = some (.slice (some ⟨q4, 0, none⟩) M.length M.length)) ∧ w'.cell? ⟨w.heap.size, 0, none⟩ = some (.slice a1 L.length c1) ∧ w'.cell? ⟨w.heap.size, 1, none⟩ = some (.slice a2 M.length c2)) w6 := ⟨⟨y0, y1⟩, n0, n1⟩
    refine wp_region_held_drew (S := fun w' : World => (w'.cell? ⟨w4.heap.size, 0, none⟩ = some (.slice (some ⟨q3, 0, none⟩) L.length L.length) ∧ w'.cell? ⟨w4.heap.size, 1, none⟩ = some (.slice (some ⟨q4, 0, none⟩) M.length M.length)) ∧ w'.cell? ⟨w.heap.size, 0, none⟩ = some (.slice a1 L.length c1) ∧ w'.cell? ⟨w.heap.size, 1, none⟩ = some (.slice a2 M.length c2)) (by kernel_rfl) (by first | go_keep | exact K6) (fun hHeld => ?_)
    refine tkM (i := 0) (d := some 22) (v := ?_) rfl rfl (by kernel_rfl) (by kernel_rfl) (by kernel_rfl) (fun _ _ _ h => h) (Or.inl ⟨by rfl, ?_⟩) (by assumption) ?_
    rotate_left
    · intro w hSw; (try dsimp only at hSw); go_simp; try with_reducible rfl
    try simp only [Act.put, List.setIfInBounds_toArray, List.set_cons_zero, List.set_cons_succ]
    refine tkM (i := 1) (d := some 23) (v := ?_) rfl rfl (by kernel_rfl) (by kernel_rfl) (by kernel_rfl) (fun _ _ _ h => h) (Or.inl ⟨by rfl, ?_⟩) (by assumption) ?_
    rotate_left
    · intro w hSw; (try dsimp only at hSw); go_simp; try with_reducible rfl
    try simp only [Act.put, List.setIfInBounds_toArray, List.set_cons_zero, List.set_cons_succ]
    refine wpAnyH_ready (rs := [2]) (by kernel_rfl) (by simp) (AllReadyH.cons rfl (fun Kq hK => ?_) AllReadyH.nil)
    go_simp
    go_at_call 10
    refine ((unhide CT) _ (nd_below (unhide H1) (bdrew (unhide B6) 1)) (mk_below (unhide H2) (bdrew (unhide B6) 1))).mono ?_
    rintro e w8 ⟨q5, q6, rfl, ho8, hp8, hb8⟩
    have hd8 : Below w6.heap.size w6 w8 := ((Below.refl w6.heap.size w6).trans (bdrew (Below.refl w6.heap.size w6) 1)).trans hb8
    have O8 := hide ho8
    have P8 := hide hp8
    have O68 := hide (nd_below (unhide O6) hd8)
    have P68 := hide (mk_below (unhide P6) hd8)
    have B8 := hide ((unhide B6).trans (hd8.mono (unhide B6).size))
    have K8 : (fun w' : World => (w'.cell? ⟨w4.heap.size, 0, none⟩ = some (.slice (some ⟨q3, 0, none⟩) L.length L.length) ∧ w'.cell? ⟨w4.heap.size, 1, none⟩ = some (.slice (some ⟨q4, 0, none⟩) M.length M.length)) ∧ w'.cell? ⟨w.heap.size, 0, none⟩ = some (.slice a1 L.length c1) ∧ w'.cell? ⟨w.heap.size, 1, none⟩ = some (.slice a2 M.length c2)) w8 := ⟨⟨(hd8.cell (p := ⟨w4.heap.size, 0, none⟩) (unhide Z6)).trans y0, (hd8.cell (p := ⟨w4.heap.size, 1, none⟩) (unhide Z6)).trans y1⟩, (hd8.cell (p := ⟨w.heap.size, 0, none⟩) (unhide Z7)).trans n0, (hd8.cell (p := ⟨w.heap.size, 1, none⟩) (unhide Z7)).trans n1⟩
    have hz8 := hd8.size
    clear ho8 hp8 hb8 hd8
    try go_wp2_with fail
    refine hK.out _ _ K8 (fun hHeld8 => ?_)
    clear hK Kq
    try simp only [Act.put, List.setIfInBounds_toArray, List.set_cons_zero, List.set_cons_succ]
    refine wpAnyH_ready (rs := [3]) (by kernel_rfl) (by simp) (AllReadyH.cons rfl (fun Kq hK => ?_) AllReadyH.nil)
    go_simp
    go_at_call 12
    refine ((unhide CE) _ _ _ _ _ _ _ (unhide O68) (unhide P68) (unhide O8) (unhide P8)).mono ?_
    rintro e w9 ⟨rfl, hb9⟩
    have B9 := hide ((unhide B8).trans (hb9.mono (unhide B8).size))
    have K9 : (fun w' : World => (w'.cell? ⟨w4.heap.size, 0, none⟩ = some (.slice (some ⟨q3, 0, none⟩) L.length L.length) ∧ w'.cell? ⟨w4.heap.size, 1, none⟩ = some (.slice (some ⟨q4, 0, none⟩) M.length M.length)) ∧ w'.cell? ⟨w.heap.size, 0, none⟩ = some (.slice a1 L.length c1) ∧ w'.cell? ⟨w.heap.size, 1, none⟩ = some (.slice a2 M.length c2)) w9 := ⟨⟨(hb9.cell (p := ⟨w4.heap.size, 0, none⟩) (by have := unhide Z6; show w4.heap.size < _; omega)).trans K8.1.1, (hb9.cell (p := ⟨w4.heap.size, 1, none⟩) (by have := unhide Z6; show w4.heap.size < _; omega)).trans K8.1.2⟩, (hb9.cell (p := ⟨w.heap.size, 0, none⟩) (by have := unhide Z7; show w.heap.size < _; omega)).trans K8.2.1, (hb9.cell (p := ⟨w.heap.size, 1, none⟩) (by have := unhide Z7; show w.heap.size < _; omega)).trans K8.2.2⟩
    clear hb9
    try go_wp2_with fail
    refine hK.out _ _ K9 (fun hHeld9 => ?_)
    clear hK Kq
    try simp only [Act.put, List.setIfInBounds_toArray, List.set_cons_zero, List.set_cons_succ]
    refine tkM (i := 4) (d := some 26) (v := ?_) rfl rfl (by kernel_rfl) (by kernel_rfl) (by kernel_rfl) (fun _ _ _ h => h) (Or.inl ⟨by rfl, ?_⟩) (by assumption) ?_
    rotate_left
    · intro w hSw; (try dsimp only at hSw); go_simp; try with_reducible rfl
    try simp only [Act.put, List.setIfInBounds_toArray, List.set_cons_zero, List.set_cons_succ]
    refine wpAnyH_done (by kernel_rfl) ?_ _
    go_wp2
    go_ret
    exact ⟨rfl, unhide B9⟩
set_option maxRecDepth 100000 in
set_option maxHeartbeats 8000000 in
theorem lawRopeText (v1 v2 : Value) (L : List Nd) (M : List Mk) (w : World) (h1 : nd_At 0 w v1 L) (h2 : mk_At 0 w v2 M) (f1 : nd_FR L) (f2 : mk_FR M) (hTab : TabD w) :
    Calls Tryd.prog 4 #[.agg #[v1, v2]] w fun e w' => e = .returned (.bool true) ∧ Below w.heap.size w w' := by
  have CZ := hide (fun W (x : nd_At 0 W v1 L) (y : mk_At 0 W v2 M) => szRopeI v1 v2 L M 0 W x y f1 f2)
  have HTAB := hide hTab
  have H1 := hide h1
  have H2 := hide h2
  obtain ⟨a1, c1, rfl⟩ := nd_form h1
  obtain ⟨a2, c2, rfl⟩ := mk_form h2
  clear h1 h2 hTab f1 f2
  have B0 := hide ((Below.refl w.heap.size w).alloc (Nat.le_refl _) (.cells #[.slice a1 L.length c1, .slice a2 M.length c2] 25))
  have N0 := hide (heap_new w (.cells #[.slice a1 L.length c1, .slice a2 M.length c2] 25))
  have Z0 : Hid (w.heap.size < (w.alloc (.cells #[.slice a1 L.length c1, .slice a2 M.length c2] 25)).heap.size) := hide (by simp)
  have HSM := hide (sm_of (L := L) (M := M))
  generalize lf 1048576 (nd_sR L + mk_sR M) = F at *
  go_enter Tryd.func4, Tryd.ntmps4
  go_wp2_with fail
  generalize w.alloc (.cells #[.slice a1 L.length c1, .slice a2 M.length c2] 25) = w0 at *
  refine ((unhide CZ) _ (nd_below (unhide H1) (unhide B0)) (mk_below (unhide H2) (unhide B0))).mono ?_
  rintro e w1 ⟨rfl, hb1⟩
  have B1 := hide ((unhide B0).trans (hb1.mono (unhide B0).size))
  have N1 := hide ((hb1.block w.heap.size (unhide Z0)).trans (unhide N0))
  have Z1 : Hid (w.heap.size < w1.heap.size) := hide (by have := hb1.size; have := unhide Z0; omega)
  clear hb1 N0 CZ Z0 B0
  by_cases hneg : F < 0
  · go_wp2
    go_ret
    exact ⟨rfl, unhide B1⟩
  · have hS := (unhide HSM) (by omega)
    obtain ⟨T, hT⟩ := isTr_exists (cat L).size (cat L) (Nat.le_refl _)
    have CT := hide (fun W (x : nd_At 0 W (.slice a1 L.length c1) L) (y : mk_At 0 W (.slice a2 M.length c2) M) => toRopeI (.slice a1 L.length c1) (.slice a2 M.length c2) L M 0 W x y hS.l hS.m)
    have CS := hide (fun u1 u2 B W (x : nd_At B W u1 L) (y : mk_At B W u2 M) => ropeTextS u1 u2 L M T B W x y hT hS)
    have CI := hide (fun u1 u2 B W (x : nd_At B W u1 L) (y : mk_At B W u2 M) (z : TabD W) => ropeTextI u1 u2 L M T B W x y hT hS z)
    have CE := hide (fun u1 u2 u3 u4 B1 B2 W (x : nd_At B1 W u1 L) (y : mk_At B1 W u2 M) (x' : nd_At B2 W u3 L) (y' : mk_At B2 W u4 M) => eqRope2 u1 u2 u3 u4 L M B1 B2 W x y x' y' hS.l hS.m)
    clear hS hT HSM
    generalize txt (rgt L (nds T 0) M) (cat L) = Q at *
    skip
    obtain ⟨n0, n1, _, _⟩ := two_cells (unhide N1)
    go_wp2_with fail
    refine ((unhide CT) _ (nd_below (unhide H1) (unhide B1)) (mk_below (unhide H2) (unhide B1))).mono ?_
    rintro e w2 ⟨q1, q2, rfl, ho2, hp2, hb2⟩
    have O2 := hide ho2
    have P2 := hide hp2
    have B2 := hide ((unhide B1).trans (hb2.mono (unhide B1).size))
    have N2 := hide ((hb2.block w.heap.size (unhide Z1)).trans (unhide N1))
    have Z2 : Hid (w.heap.size < w2.heap.size) := hide (by have := hb2.size; have := unhide Z1; omega)
    clear ho2 hp2 hb2 n0 n1 N1
    go_wp2_with fail
    refine ((unhide CS) _ _ _ _ (unhide O2) (unhide P2)).mono ?_
    rintro e w3 ⟨rfl, hb3⟩
    have B3 := hide ((unhide B2).trans (hb3.mono (unhide B2).size))
    have N3 := hide ((hb3.block w.heap.size (unhide Z2)).trans (unhide N2))
    have Z3 : Hid (w.heap.size < w3.heap.size) := hide (by have := hb3.size; have := unhide Z2; omega)
    clear hb3 CS O2 P2 N2
    obtain ⟨n0, n1, _, _⟩ := two_cells (unhide N3)
    go_wp2_with fail
    refine ((unhide CT) _ (nd_below (unhide H1) (unhide B3)) (mk_below (unhide H2) (unhide B3))).mono ?_
    rintro e w4 ⟨q3, q4, rfl, ho4, hp4, hb4⟩
    have B4 := hide ((unhide B3).trans (hb4.mono (unhide B3).size))
    have N4 := hide ((hb4.block w.heap.size (unhide Z3)).trans (unhide N3))
    have Z4 : Hid (w.heap.size < w4.heap.size) := hide (by have := hb4.size; have := unhide Z3; omega)
    have hal := (Below.refl w4.heap.size w4).alloc (Nat.le_refl _) (.cells #[.slice (some ⟨q3, 0, none⟩) L.length L.length, .slice (some ⟨q4, 0, none⟩) M.length M.length] 31)
    have B5 := hide ((unhide B4).trans (hal.mono (unhide B4).size))
    have X5 := hide (heap_new w4 (.cells #[.slice (some ⟨q3, 0, none⟩) L.length L.length, .slice (some ⟨q4, 0, none⟩) M.length M.length] 31))
    have N5 := hide ((hal.block w.heap.size (unhide Z4)).trans (unhide N4))
    have O5 := hide (nd_below ho4 hal)
    have P5 := hide (mk_below hp4 hal)
    have Z5 : Hid (w4.heap.size < (w4.alloc (.cells #[.slice (some ⟨q3, 0, none⟩) L.length L.length, .slice (some ⟨q4, 0, none⟩) M.length M.length] 31)).heap.size) := hide (by simp)
    clear ho4 hp4 hb4 hal n0 n1 N3 N4
    obtain ⟨x0, x1, _, _⟩ := two_cells (unhide X5)
    go_wp2_with fail
    generalize w4.alloc (.cells #[.slice (some ⟨q3, 0, none⟩) L.length L.length, .slice (some ⟨q4, 0, none⟩) M.length M.length] 31) = w5 at *
    refine ((unhide CI) _ _ _ _ (unhide O5) (unhide P5) ((unhide HTAB).below (unhide B5))).mono ?_
    rintro e w6 ⟨rfl, hb6⟩
    have B6 := hide ((unhide B5).trans (hb6.mono (unhide B5).size))
    have O6 := hide (nd_below (unhide O5) hb6)
    have P6 := hide (mk_below (unhide P5) hb6)
    obtain ⟨y0, y1, _, _⟩ := two_cells ((hb6.block w4.heap.size (unhide Z5)).trans (unhide X5))
    obtain ⟨n0, n1, _, _⟩ := two_cells ((hb6.block w.heap.size (by have := unhide Z5; have := unhide Z4; omega)).trans (unhide N5))
    have Z6 : Hid (w4.heap.size < w6.heap.size) := hide (by have := hb6.size; have := unhide Z5; omega)
    have Z7 : Hid (w.heap.size < w6.heap.size) := hide (by have := unhide Z6; have := unhide Z4; omega)
    clear hb6 CI x0 x1 X5 N5 O5 P5
    go_wp2_with fail
    have K6 : (fun w' : World => (w'.cell? ⟨w4.heap.size, 0, none⟩ = some (.slice (some ⟨q3, 0, none⟩) L.length L.length) ∧ w'.cell? ⟨w4.heap.size, 1, none⟩ = some (.slice (some ⟨q4, 0, none⟩) M.length M.length)) ∧ w'.cell? ⟨w.heap.size, 0, none⟩ = some (.slice a1 L.length c1) ∧ w'.cell? ⟨w.heap.size, 1, none⟩ = some (.slice a2 M.length c2)) w6 := ⟨⟨y0, y1⟩, n0, n1⟩
    refine wp_region_held_drew (S := fun w' : World => (w'.cell? ⟨w4.heap.size, 0, none⟩ = some (.slice (some ⟨q3, 0, none⟩) L.length L.length) ∧ w'.cell? ⟨w4.heap.size, 1, none⟩ = some (.slice (some ⟨q4, 0, none⟩) M.length M.length)) ∧ w'.cell? ⟨w.heap.size, 0, none⟩ = some (.slice a1 L.length c1) ∧ w'.cell? ⟨w.heap.size, 1, none⟩ = some (.slice a2 M.length c2)) (by kernel_rfl) (by first | go_keep | exact K6) (fun hHeld => ?_)
    refine tkM (i := 0) (d := some 22) (v := ?_) rfl rfl (by kernel_rfl) (by kernel_rfl) (by kernel_rfl) (fun _ _ _ h => h) (Or.inl ⟨by rfl, ?_⟩) (by assumption) ?_
    rotate_left
    · intro w hSw; (try dsimp only at hSw); go_simp; try with_reducible rfl
    try simp only [Act.put, List.setIfInBounds_toArray, List.set_cons_zero, List.set_cons_succ]
    refine tkM (i := 1) (d := some 23) (v := ?_) rfl rfl (by kernel_rfl) (by kernel_rfl) (by kernel_rfl) (fun _ _ _ h => h) (Or.inl ⟨by rfl, ?_⟩) (by assumption) ?_
    rotate_left
    · intro w hSw; (try dsimp only at hSw); go_simp; try with_reducible rfl
    try simp only [Act.put, List.setIfInBounds_toArray, List.set_cons_zero, List.set_cons_succ]
    refine wpAnyH_ready (rs := [2]) (by kernel_rfl) (by simp) (AllReadyH.cons rfl (fun Kq hK => ?_) AllReadyH.nil)
    go_simp
    go_at_call 10
    refine ((unhide CT) _ (nd_below (unhide H1) (bdrew (unhide B6) 1)) (mk_below (unhide H2) (bdrew (unhide B6) 1))).mono ?_
    rintro e w8 ⟨q5, q6, rfl, ho8, hp8, hb8⟩
    have hd8 : Below w6.heap.size w6 w8 := ((Below.refl w6.heap.size w6).trans (bdrew (Below.refl w6.heap.size w6) 1)).trans hb8
    have O8 := hide ho8
    have P8 := hide hp8
    have O68 := hide (nd_below (unhide O6) hd8)
    have P68 := hide (mk_below (unhide P6) hd8)
    have B8 := hide ((unhide B6).trans (hd8.mono (unhide B6).size))
    have K8 : (fun w' : World => (w'.cell? ⟨w4.heap.size, 0, none⟩ = some (.slice (some ⟨q3, 0, none⟩) L.length L.length) ∧ w'.cell? ⟨w4.heap.size, 1, none⟩ = some (.slice (some ⟨q4, 0, none⟩) M.length M.length)) ∧ w'.cell? ⟨w.heap.size, 0, none⟩ = some (.slice a1 L.length c1) ∧ w'.cell? ⟨w.heap.size, 1, none⟩ = some (.slice a2 M.length c2)) w8 := ⟨⟨(hd8.cell (p := ⟨w4.heap.size, 0, none⟩) (unhide Z6)).trans y0, (hd8.cell (p := ⟨w4.heap.size, 1, none⟩) (unhide Z6)).trans y1⟩, (hd8.cell (p := ⟨w.heap.size, 0, none⟩) (unhide Z7)).trans n0, (hd8.cell (p := ⟨w.heap.size, 1, none⟩) (unhide Z7)).trans n1⟩
    have hz8 := hd8.size
    clear ho8 hp8 hb8 hd8
    try go_wp2_with fail
    refine hK.out _ _ K8 (fun hHeld8 => ?_)
    clear hK Kq
    try simp only [Act.put, List.setIfInBounds_toArray, List.set_cons_zero, List.set_cons_succ]
    refine wpAnyH_ready (rs := [3]) (by kernel_rfl) (by simp) (AllReadyH.cons rfl (fun Kq hK => ?_) AllReadyH.nil)
    go_simp
    go_at_call 12
    refine ((unhide CE) _ _ _ _ _ _ _ (unhide O68) (unhide P68) (unhide O8) (unhide P8)).mono ?_
    rintro e w9 ⟨rfl, hb9⟩
    have B9 := hide ((unhide B8).trans (hb9.mono (unhide B8).size))
    have K9 : (fun w' : World => (w'.cell? ⟨w4.heap.size, 0, none⟩ = some (.slice (some ⟨q3, 0, none⟩) L.length L.length) ∧ w'.cell? ⟨w4.heap.size, 1, none⟩ = some (.slice (some ⟨q4, 0, none⟩) M.length M.length)) ∧ w'.cell? ⟨w.heap.size, 0, none⟩ = some (.slice a1 L.length c1) ∧ w'.cell? ⟨w.heap.size, 1, none⟩ = some (.slice a2 M.length c2)) w9 := ⟨⟨(hb9.cell (p := ⟨w4.heap.size, 0, none⟩) (by have := unhide Z6; show w4.heap.size < _; omega)).trans K8.1.1, (hb9.cell (p := ⟨w4.heap.size, 1, none⟩) (by have := unhide Z6; show w4.heap.size < _; omega)).trans K8.1.2⟩, (hb9.cell (p := ⟨w.heap.size, 0, none⟩) (by have := unhide Z7; show w.heap.size < _; omega)).trans K8.2.1, (hb9.cell (p := ⟨w.heap.size, 1, none⟩) (by have := unhide Z7; show w.heap.size < _; omega)).trans K8.2.2⟩
    clear hb9
    try go_wp2_with fail
    refine hK.out _ _ K9 (fun hHeld9 => ?_)
    clear hK Kq
    try simp only [Act.put, List.setIfInBounds_toArray, List.set_cons_zero, List.set_cons_succ]
    refine tkM (i := 4) (d := some 26) (v := ?_) rfl rfl (by kernel_rfl) (by kernel_rfl) (by kernel_rfl) (fun _ _ _ h => h) (Or.inl ⟨by rfl, ?_⟩) (by assumption) ?_
    rotate_left
    · intro w hSw; (try dsimp only at hSw); go_simp; try with_reducible rfl
    try simp only [Act.put, List.setIfInBounds_toArray, List.set_cons_zero, List.set_cons_succ]
    refine wpAnyH_done (by kernel_rfl) ?_ _
    go_wp2
    go_ret
    exact ⟨rfl, unhide B9⟩
set_option maxRecDepth 100000 in
set_option maxHeartbeats 8000000 in
theorem lawPiece (v1 v2 : Value) (L : List Nd) (M : List Mk) (fr : Int) (tq : Int) (w : World) (h1 : nd_At 0 w v1 L) (h2 : mk_At 0 w v2 M) (f1 : nd_FR L) (f2 : mk_FR M) (hTab : TabD w) :
    Calls Tryd.prog 5 #[.agg #[v1, v2], .int .i64 fr, .int .i64 tq] w fun e w' => e = .returned (.bool true) ∧ Below w.heap.size w w' := by
  have CZ := hide (fun W (x : nd_At 0 W v1 L) (y : mk_At 0 W v2 M) => szRopeI v1 v2 L M 0 W x y f1 f2)
  have HTAB := hide hTab
  have H1 := hide h1
  have H2 := hide h2
  obtain ⟨a1, c1, rfl⟩ := nd_form h1
  obtain ⟨a2, c2, rfl⟩ := mk_form h2
  clear h1 h2 hTab f1 f2
  have B0 := hide ((Below.refl w.heap.size w).alloc (Nat.le_refl _) (.cells #[.slice a1 L.length c1, .slice a2 M.length c2] 25))
  have N0 := hide (heap_new w (.cells #[.slice a1 L.length c1, .slice a2 M.length c2] 25))
  have Z0 : Hid (w.heap.size < (w.alloc (.cells #[.slice a1 L.length c1, .slice a2 M.length c2] 25)).heap.size) := hide (by simp)
  have HSM := hide (sm_of (L := L) (M := M))
  generalize lf 1048576 (nd_sR L + mk_sR M) = F at *
  go_enter Tryd.func5, Tryd.ntmps5
  go_wp2_with fail
  generalize w.alloc (.cells #[.slice a1 L.length c1, .slice a2 M.length c2] 25) = w0 at *
  refine ((unhide CZ) _ (nd_below (unhide H1) (unhide B0)) (mk_below (unhide H2) (unhide B0))).mono ?_
  rintro e w1 ⟨rfl, hb1⟩
  have B1 := hide ((unhide B0).trans (hb1.mono (unhide B0).size))
  have N1 := hide ((hb1.block w.heap.size (unhide Z0)).trans (unhide N0))
  have Z1 : Hid (w.heap.size < w1.heap.size) := hide (by have := hb1.size; have := unhide Z0; omega)
  clear hb1 N0 CZ Z0 B0
  by_cases hneg : F < 0
  · go_wp2
    go_ret
    exact ⟨rfl, unhide B1⟩
  · have hS := (unhide HSM) (by omega)
    obtain ⟨T, hT⟩ := isTr_exists (cat L).size (cat L) (Nat.le_refl _)
    have CT := hide (fun W (x : nd_At 0 W (.slice a1 L.length c1) L) (y : mk_At 0 W (.slice a2 M.length c2) M) => toRopeI (.slice a1 L.length c1) (.slice a2 M.length c2) L M 0 W x y hS.l hS.m)
    have CS := hide (fun u1 u2 B W (x : nd_At B W u1 L) (y : mk_At B W u2 M) => pieceS u1 u2 L M T B W x y hT hS fr tq)
    have CI := hide (fun u1 u2 B W (x : nd_At B W u1 L) (y : mk_At B W u2 M) (z : TabD W) => pieceI u1 u2 L M T B W x y hT hS z fr tq)
    have CE := hide (fun u1 u2 u3 u4 B1 B2 W (x : nd_At B1 W u1 L) (y : mk_At B1 W u2 M) (x' : nd_At B2 W u3 L) (y' : mk_At B2 W u4 M) => eqRope2 u1 u2 u3 u4 L M B1 B2 W x y x' y' hS.l hS.m)
    clear hS hT HSM
    generalize pcs (txt (rgt L (nds T 0) M) (cat L)) fr tq = Q at *
    skip
    obtain ⟨n0, n1, _, _⟩ := two_cells (unhide N1)
    go_wp2_with fail
    refine ((unhide CT) _ (nd_below (unhide H1) (unhide B1)) (mk_below (unhide H2) (unhide B1))).mono ?_
    rintro e w2 ⟨q1, q2, rfl, ho2, hp2, hb2⟩
    have O2 := hide ho2
    have P2 := hide hp2
    have B2 := hide ((unhide B1).trans (hb2.mono (unhide B1).size))
    have N2 := hide ((hb2.block w.heap.size (unhide Z1)).trans (unhide N1))
    have Z2 : Hid (w.heap.size < w2.heap.size) := hide (by have := hb2.size; have := unhide Z1; omega)
    clear ho2 hp2 hb2 n0 n1 N1
    go_wp2_with fail
    refine ((unhide CS) _ _ _ _ (unhide O2) (unhide P2)).mono ?_
    rintro e w3 ⟨rfl, hb3⟩
    have B3 := hide ((unhide B2).trans (hb3.mono (unhide B2).size))
    have N3 := hide ((hb3.block w.heap.size (unhide Z2)).trans (unhide N2))
    have Z3 : Hid (w.heap.size < w3.heap.size) := hide (by have := hb3.size; have := unhide Z2; omega)
    clear hb3 CS O2 P2 N2
    obtain ⟨n0, n1, _, _⟩ := two_cells (unhide N3)
    go_wp2_with fail
    refine ((unhide CT) _ (nd_below (unhide H1) (unhide B3)) (mk_below (unhide H2) (unhide B3))).mono ?_
    rintro e w4 ⟨q3, q4, rfl, ho4, hp4, hb4⟩
    have B4 := hide ((unhide B3).trans (hb4.mono (unhide B3).size))
    have N4 := hide ((hb4.block w.heap.size (unhide Z3)).trans (unhide N3))
    have Z4 : Hid (w.heap.size < w4.heap.size) := hide (by have := hb4.size; have := unhide Z3; omega)
    have hal := (Below.refl w4.heap.size w4).alloc (Nat.le_refl _) (.cells #[.slice (some ⟨q3, 0, none⟩) L.length L.length, .slice (some ⟨q4, 0, none⟩) M.length M.length] 31)
    have B5 := hide ((unhide B4).trans (hal.mono (unhide B4).size))
    have X5 := hide (heap_new w4 (.cells #[.slice (some ⟨q3, 0, none⟩) L.length L.length, .slice (some ⟨q4, 0, none⟩) M.length M.length] 31))
    have N5 := hide ((hal.block w.heap.size (unhide Z4)).trans (unhide N4))
    have O5 := hide (nd_below ho4 hal)
    have P5 := hide (mk_below hp4 hal)
    have Z5 : Hid (w4.heap.size < (w4.alloc (.cells #[.slice (some ⟨q3, 0, none⟩) L.length L.length, .slice (some ⟨q4, 0, none⟩) M.length M.length] 31)).heap.size) := hide (by simp)
    clear ho4 hp4 hb4 hal n0 n1 N3 N4
    obtain ⟨x0, x1, _, _⟩ := two_cells (unhide X5)
    go_wp2_with fail
    generalize w4.alloc (.cells #[.slice (some ⟨q3, 0, none⟩) L.length L.length, .slice (some ⟨q4, 0, none⟩) M.length M.length] 31) = w5 at *
    refine ((unhide CI) _ _ _ _ (unhide O5) (unhide P5) ((unhide HTAB).below (unhide B5))).mono ?_
    rintro e w6 ⟨rfl, hb6⟩
    have B6 := hide ((unhide B5).trans (hb6.mono (unhide B5).size))
    have O6 := hide (nd_below (unhide O5) hb6)
    have P6 := hide (mk_below (unhide P5) hb6)
    obtain ⟨y0, y1, _, _⟩ := two_cells ((hb6.block w4.heap.size (unhide Z5)).trans (unhide X5))
    obtain ⟨n0, n1, _, _⟩ := two_cells ((hb6.block w.heap.size (by have := unhide Z5; have := unhide Z4; omega)).trans (unhide N5))
    have Z6 : Hid (w4.heap.size < w6.heap.size) := hide (by have := hb6.size; have := unhide Z5; omega)
    have Z7 : Hid (w.heap.size < w6.heap.size) := hide (by have := unhide Z6; have := unhide Z4; omega)
    clear hb6 CI x0 x1 X5 N5 O5 P5
    go_wp2_with fail
    have K6 : (fun w' : World => (w'.cell? ⟨w4.heap.size, 0, none⟩ = some (.slice (some ⟨q3, 0, none⟩) L.length L.length) ∧ w'.cell? ⟨w4.heap.size, 1, none⟩ = some (.slice (some ⟨q4, 0, none⟩) M.length M.length)) ∧ w'.cell? ⟨w.heap.size, 0, none⟩ = some (.slice a1 L.length c1) ∧ w'.cell? ⟨w.heap.size, 1, none⟩ = some (.slice a2 M.length c2)) w6 := ⟨⟨y0, y1⟩, n0, n1⟩
    refine wp_region_held_drew (S := fun w' : World => (w'.cell? ⟨w4.heap.size, 0, none⟩ = some (.slice (some ⟨q3, 0, none⟩) L.length L.length) ∧ w'.cell? ⟨w4.heap.size, 1, none⟩ = some (.slice (some ⟨q4, 0, none⟩) M.length M.length)) ∧ w'.cell? ⟨w.heap.size, 0, none⟩ = some (.slice a1 L.length c1) ∧ w'.cell? ⟨w.heap.size, 1, none⟩ = some (.slice a2 M.length c2)) (by kernel_rfl) (by first | go_keep | exact K6) (fun hHeld => ?_)
    refine tkM (i := 0) (d := some 30) (v := ?_) rfl rfl (by kernel_rfl) (by kernel_rfl) (by kernel_rfl) (fun _ _ _ h => h) (Or.inl ⟨by rfl, ?_⟩) (by assumption) ?_
    rotate_left
    · intro w hSw; (try dsimp only at hSw); go_simp; try with_reducible rfl
    try simp only [Act.put, List.setIfInBounds_toArray, List.set_cons_zero, List.set_cons_succ]
    refine tkM (i := 1) (d := some 31) (v := ?_) rfl rfl (by kernel_rfl) (by kernel_rfl) (by kernel_rfl) (fun _ _ _ h => h) (Or.inl ⟨by rfl, ?_⟩) (by assumption) ?_
    rotate_left
    · intro w hSw; (try dsimp only at hSw); go_simp; try with_reducible rfl
    try simp only [Act.put, List.setIfInBounds_toArray, List.set_cons_zero, List.set_cons_succ]
    refine wpAnyH_ready (rs := [2]) (by kernel_rfl) (by simp) (AllReadyH.cons rfl (fun Kq hK => ?_) AllReadyH.nil)
    go_simp
    go_at_call 10
    refine ((unhide CT) _ (nd_below (unhide H1) (bdrew (unhide B6) 1)) (mk_below (unhide H2) (bdrew (unhide B6) 1))).mono ?_
    rintro e w8 ⟨q5, q6, rfl, ho8, hp8, hb8⟩
    have hd8 : Below w6.heap.size w6 w8 := ((Below.refl w6.heap.size w6).trans (bdrew (Below.refl w6.heap.size w6) 1)).trans hb8
    have O8 := hide ho8
    have P8 := hide hp8
    have O68 := hide (nd_below (unhide O6) hd8)
    have P68 := hide (mk_below (unhide P6) hd8)
    have B8 := hide ((unhide B6).trans (hd8.mono (unhide B6).size))
    have K8 : (fun w' : World => (w'.cell? ⟨w4.heap.size, 0, none⟩ = some (.slice (some ⟨q3, 0, none⟩) L.length L.length) ∧ w'.cell? ⟨w4.heap.size, 1, none⟩ = some (.slice (some ⟨q4, 0, none⟩) M.length M.length)) ∧ w'.cell? ⟨w.heap.size, 0, none⟩ = some (.slice a1 L.length c1) ∧ w'.cell? ⟨w.heap.size, 1, none⟩ = some (.slice a2 M.length c2)) w8 := ⟨⟨(hd8.cell (p := ⟨w4.heap.size, 0, none⟩) (unhide Z6)).trans y0, (hd8.cell (p := ⟨w4.heap.size, 1, none⟩) (unhide Z6)).trans y1⟩, (hd8.cell (p := ⟨w.heap.size, 0, none⟩) (unhide Z7)).trans n0, (hd8.cell (p := ⟨w.heap.size, 1, none⟩) (unhide Z7)).trans n1⟩
    have hz8 := hd8.size
    clear ho8 hp8 hb8 hd8
    try go_wp2_with fail
    refine hK.out _ _ K8 (fun hHeld8 => ?_)
    clear hK Kq
    try simp only [Act.put, List.setIfInBounds_toArray, List.set_cons_zero, List.set_cons_succ]
    refine wpAnyH_ready (rs := [3]) (by kernel_rfl) (by simp) (AllReadyH.cons rfl (fun Kq hK => ?_) AllReadyH.nil)
    go_simp
    go_at_call 12
    refine ((unhide CE) _ _ _ _ _ _ _ (unhide O68) (unhide P68) (unhide O8) (unhide P8)).mono ?_
    rintro e w9 ⟨rfl, hb9⟩
    have B9 := hide ((unhide B8).trans (hb9.mono (unhide B8).size))
    have K9 : (fun w' : World => (w'.cell? ⟨w4.heap.size, 0, none⟩ = some (.slice (some ⟨q3, 0, none⟩) L.length L.length) ∧ w'.cell? ⟨w4.heap.size, 1, none⟩ = some (.slice (some ⟨q4, 0, none⟩) M.length M.length)) ∧ w'.cell? ⟨w.heap.size, 0, none⟩ = some (.slice a1 L.length c1) ∧ w'.cell? ⟨w.heap.size, 1, none⟩ = some (.slice a2 M.length c2)) w9 := ⟨⟨(hb9.cell (p := ⟨w4.heap.size, 0, none⟩) (by have := unhide Z6; show w4.heap.size < _; omega)).trans K8.1.1, (hb9.cell (p := ⟨w4.heap.size, 1, none⟩) (by have := unhide Z6; show w4.heap.size < _; omega)).trans K8.1.2⟩, (hb9.cell (p := ⟨w.heap.size, 0, none⟩) (by have := unhide Z7; show w.heap.size < _; omega)).trans K8.2.1, (hb9.cell (p := ⟨w.heap.size, 1, none⟩) (by have := unhide Z7; show w.heap.size < _; omega)).trans K8.2.2⟩
    clear hb9
    try go_wp2_with fail
    refine hK.out _ _ K9 (fun hHeld9 => ?_)
    clear hK Kq
    try simp only [Act.put, List.setIfInBounds_toArray, List.set_cons_zero, List.set_cons_succ]
    refine tkM (i := 4) (d := some 34) (v := ?_) rfl rfl (by kernel_rfl) (by kernel_rfl) (by kernel_rfl) (fun _ _ _ h => h) (Or.inl ⟨by rfl, ?_⟩) (by assumption) ?_
    rotate_left
    · intro w hSw; (try dsimp only at hSw); go_simp; try with_reducible rfl
    try simp only [Act.put, List.setIfInBounds_toArray, List.set_cons_zero, List.set_cons_succ]
    refine wpAnyH_done (by kernel_rfl) ?_ _
    go_wp2
    go_ret
    exact ⟨rfl, unhide B9⟩
end Go.Proofs.YtaipnmmlfbfcnaaDoor.Rop
