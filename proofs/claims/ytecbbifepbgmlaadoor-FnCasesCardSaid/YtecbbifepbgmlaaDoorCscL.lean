/- The law FnCases. -/
import Derived.Test.YtecbbifepbgmlaaDoorCsoS
import Derived.Test.YtecbbifepbgmlaaDoorFdK
import Derived.Test.YtecbbifepbgmlaaDoorLwA
import Derived.Test.YtecbbifepbgmlaaDoorTxtS
import Derived.Test.YtecbbifepbgmlaaDoorCspD
namespace Go.Proofs.YtecbbifepbgmlaaDoor
namespace Cas
open Go.RowKit
set_option linter.unusedVariables false
theorem csI_T (p : Int) : csI p = csT p := by
  unfold csI csT
  split
  · exact cs_eq (by omega)
  · rfl
theorem csI_few (p : Int) : (csI p).length ≤ 40000 := by
  rw [csI_T]
  unfold csT csS
  split
  · have := fl_len p 32768
    split <;> simp <;> omega
  · simp
/-- What is told of a point that is told of. -/
theorem csI_in {p x : Int} (hx : x ∈ csI p) : pt p ∧ pt x ∧ x ∈ raw (root p) ∧ csI x = csI p := by
  by_cases hp : pt p
  · have e : csI p = csA p := if_pos hp
    rw [e] at hx ⊢
    obtain ⟨s1, _, s3⟩ := srt_ok (raw (root p))
    obtain ⟨c1, c2⟩ := cmp_ok _ s1
    have hr : x ∈ raw (root p) := (s3 x).1 ((c2 x).1 hx)
    obtain ⟨r1, r2, r3⟩ := (raw_root hp.1).2 x hr
    have hxp : pt x := by
      by_cases h : p ≤ 32767
      · have := r3 h
        exact ⟨r2, by omega, by omega⟩
      · obtain ⟨e1, e2⟩ := far_is (p := p) (by omega)
        rw [e1, e2] at hr
        simp at hr
        rw [hr]
        exact hp
    refine ⟨hp, hxp, hr, ?_⟩
    have e2 : csI x = csA x := if_pos hxp
    rw [e2]
    unfold csA
    rw [r1]
  · have e : csI p = [] := if_neg hp
    rw [e] at hx
    simp at hx
/-- A point's text and that of one of its cases are without case the same. -/
theorem csl_in {p x : Int} (hx : x ∈ csI p) : cslB (strOfNums (textL [p])) (strOfNums (textL [x])) = true := by
  obtain ⟨h1, h2, h3, _⟩ := csI_in hx
  have sz : ∀ y : Int, (strOfNums (textL [y])).size ≤ 65536 := fun y => by
    rw [strOfNums_size]
    have := textL_le [y]
    simp at this
    omega
  have pp : ∀ y : Int, pt y → pts (strOfNums (textL [y])) = [y] := fun y hy => pts_text [y] (by
    intro z hz
    simp at hz
    rw [hz, isPt_iff]
    exact hy)
  have e : csl (strOfNums (textL [p])) = csl (strOfNums (textL [x])) := by
    unfold csl
    rw [pp p h1, pp x h2, csl_kk, csl_kk]
    simp [kk_raw h3]
  unfold cslB
  rw [decide_eq_true (sz p), decide_eq_true (sz x), e]
  simp [sameB]
theorem one_at (w : World) (x : Int) : IntsAt (w.alloc (.cells #[.int .i64 x] 2)) (.slice (some ⟨w.heap.size, 0, none⟩) 1 1) [x] := IntsAt.owned (own_one w x)
theorem q_al {w w' : World} (h : Below w.heap.size w w') (o : Obj) : Below w.heap.size w (w'.alloc o) := h.alloc h.size o
theorem two_at1 (w : World) (p x : Int) : IntsAt ((w.alloc (.cells #[.int .i64 p] 2)).alloc (.cells #[.int .i64 x] 2)) (.slice (some ⟨w.heap.size, 0, none⟩) 1 1) [p] := (one_at w p).below (q_al (Below.refl _ _) _)
theorem two_at2 (w : World) (p x : Int) : IntsAt ((w.alloc (.cells #[.int .i64 p] 2)).alloc (.cells #[.int .i64 x] 2)) (.slice (some ⟨w.heap.size + 1, 0, none⟩) 1 1) [x] := by
  have := one_at (w.alloc (.cells #[.int .i64 p] 2)) x
  simpa using this
theorem lt_al {w : World} {b : Nat} (h : b < w.heap.size) (o : Obj) : b < (w.alloc o).heap.size := Nat.lt_of_lt_of_le h (le_al w o)
set_option maxHeartbeats 8000000 in
set_option maxRecDepth 100000 in
theorem lawFnCases (w : World) (a : Option Addr) (len cap : Nat) (hc : Dr.CodeIn w a len) (ht : BlkAt w) :
    Calls Tryd.prog 3 #[.slice a len cap] w fun e w' => e = .returned (.bool true) ∧ Below w.heap.size w w' := by
  by_cases hl : 1048576 < len
  · have hl' : (1048576 : Int) < (len : Int) := by omega
    go_enter Tryd.func3, Tryd.ntmps3
    go_wp2
    go_ret
    exact ⟨rfl, Below.refl _ _⟩
  have hl' : ¬ (1048576 : Int) < (len : Int) := by omega
  have HT := hide ht
  have DC := hide (Dr.drawCases_any w a len cap (by omega) hc)
  clear ht hc
  go_enter Tryd.func3, Tryd.ntmps3
  go_wp2_with fail
  refine (unhide DC).mono ?_
  rintro e w1 ⟨p, rfl, hb1⟩
  have B1 := hide hb1
  have CI := hide (fun W h => implCases p W h)
  have CS := hide (fun W => specCases p W)
  rw [← csI_T] at CS
  have hfew := csI_few p
  have HX := hide (fun x (hx : x ∈ csI p) => csI_in hx)
  have HC := hide (fun x (hx : x ∈ csI p) => csl_in hx)
  have HI : Hid (∀ x, x ∈ csI p → ∀ W, BlkAt W → Calls Tryd.prog 5 #[.int .i64 x] W fun e w' => ∃ v, e = .returned v ∧ w'.ownsRow W.heap.size 2 1 v (csI p).length ((csI p).map (Value.int .i64)) ∧ Below W.heap.size W w') := hide (fun x hx W h => by
    have := implCases x W h
    rwa [(csI_in hx).2.2.2] at this)
  clear hb1 DC hl hl' HX
  generalize csI p = L at *
  go_wp2_with fail
  refine ((unhide CI) _ ((unhide HT).below (unhide B1))).mono ?_
  rintro e w2 ⟨v, rfl, ho2, hb2⟩
  have I2 := hide (IntsAt.owned ho2)
  have B2 := hide ((unhide B1).trans (hb2.mono (unhide B1).size))
  clear ho2 hb2 B1 CI
  go_wp2_with fail
  refine ((unhide CS) _).mono ?_
  rintro e w3 ⟨v3, rfl, ho3, hb3⟩
  have J3 := hide (IntsAt.owned ho3)
  have I3 := hide ((unhide I2).below hb3)
  have B3 := hide ((unhide B2).trans (hb3.mono (unhide B2).size))
  clear ho3 hb3 B2 CS I2
  go_wp2_with fail
  refine (lwSame _ _ L _ (unhide I3) (unhide J3) (by omega)).mono ?_
  rintro e w5 ⟨rfl, hb5⟩
  have IV := hide ((unhide I3).below hb5)
  have B5 := hide ((unhide B3).trans (hb5.mono (unhide B3).size))
  have HT5 := hide ((unhide HT).below (unhide B5))
  clear hb5 B3 I3 J3 HT
  obtain ⟨va, vc, rfl, hvc⟩ := unhide IV
  have HV := hide hvc
  clear hvc
  go_wp2
  go_loopw [5] (fun i wr => ∃ k : Nat, k ≤ L.length ∧ i = .int .i64 k ∧ Hid (Below w5.heap.size w5 wr)) (fun i _ => L.length - (intOf i).toNat)
  case atStart => exact ⟨0, Nat.zero_le _, rfl, hide (Below.refl _ _)⟩
  case round =>
    obtain ⟨k, hk, rfl, HB⟩ := hrel
    by_cases hlt : k < L.length
    · have hlt' : (k : Int) < (L.length : Int) := by omega
      rcases unhide HV with h0 | ⟨b, off, rfl, hbl, hcell⟩
      · rw [h0] at hlt; simp at hlt
      have hmem : nth L k ∈ L := mem_nth hlt
      have CX := hide (fun W h => (unhide HI) (nth L k) hmem W h)
      have KB := (unhide HC) (nth L k) hmem
      have KS := hide (fun W h => implSame (strOfNums (textL [p])) (strOfNums (textL [nth L k])) W h)
      rw [KB] at KS
      have T1 := hide (fun V W h => specTextFew V [p] W h (by simp))
      have T2 := hide (fun V W h => specTextFew V [nth L k] W h (by simp))
      have c0 := ((unhide HB).cell (p := ⟨b, off + k, none⟩) hbl).trans (hcell k hlt)
      have hBs := (unhide HB).size
      have hbr : b < wr.heap.size := by omega
      clear hmem KB hcell
      generalize strOfNums (textL [p]) = t1 at *
      generalize strOfNums (textL [nth L k]) = t2 at *
      generalize nth L k = x at *
      go_upto_region 10 with fail
      go_region_with (first
        | (go_at_call 5; refine ((unhide CX) _ ((unhide HT5).below (unhide HB).drew)).mono ?_; rintro e w6 ⟨v6, rfl, ho6, hb6⟩; have I6 := hide (IntsAt.owned ho6); have Q6 := hide ((unhide HB).drew.trans (hb6.mono hBs)); have c6 := (hb6.cell (p := ⟨b, off + k, none⟩) hbr).trans c0; have z6 := Nat.lt_of_lt_of_le hbr hb6.size; clear ho6 hb6 CX)
        | (go_at_call 6; refine (lwSame _ _ L _ (unhide I6) ((unhide IV).below (unhide Q6)) (by omega)).mono ?_; rintro e w7 ⟨rfl, hb7⟩; have Q7 := hide ((unhide Q6).trans (hb7.mono (unhide Q6).size)); have c7 := (hb7.cell (p := ⟨b, off + k, none⟩) z6).trans c6; have z7 := Nat.lt_of_lt_of_le z6 hb7.size; clear hb7 I6 Q6 c6 z6)
        | (go_at_call 9; refine ((unhide T1) _ _ (one_at w7 p)).mono ?_; rintro e w8 ⟨rfl, hb8⟩; have c8 := (hb8.cell (p := ⟨b, off + k, none⟩) (lt_al z7 _)).trans (cell_alloc c7 _); have Q8 := hide ((q_al (unhide Q7) _).trans (hb8.mono (q_al (unhide Q7) _).size)); have z8 := Nat.lt_of_lt_of_le (lt_al z7 _) hb8.size; clear hb8 T1)
        | (go_at_call 9; refine ((unhide T1) _ _ (two_at1 w7 p x)).mono ?_; rintro e w8 ⟨rfl, hb8⟩; have X8 := hide ((two_at2 w7 p x).below hb8); have Q8 := hide ((q_al (q_al (unhide Q7) _) _).trans (hb8.mono (q_al (q_al (unhide Q7) _) _).size)); clear hb8 T1)
        | (go_at_call 9; refine ((unhide T1) _ _ (two_at2 w7 x p)).mono ?_; rintro e w8 ⟨rfl, hb8⟩; have X8 := hide ((two_at1 w7 x p).below hb8); have Q8 := hide ((q_al (q_al (unhide Q7) _) _).trans (hb8.mono (q_al (q_al (unhide Q7) _) _).size)); clear hb8 T1)
        | (go_at_call 9; refine ((unhide T2) _ _ (unhide X8)).mono ?_; rintro e w9 ⟨rfl, hb9⟩; have Q9 := hide ((unhide Q8).trans (hb9.mono (unhide Q8).size)); clear hb9 T2)
        | (go_at_call 9; refine ((unhide T2) _ _ (one_at w8 x)).mono ?_; rintro e w9 ⟨rfl, hb9⟩; have Q9 := hide ((q_al (unhide Q8) _).trans (hb9.mono (q_al (unhide Q8) _).size)); clear hb9 T2)
        | (go_at_call 8; refine ((unhide KS) _ ((unhide HT5).below (unhide Q9))).mono ?_; rintro e w10 ⟨rfl, hb10⟩; have Q10 := hide ((unhide Q9).trans (hb10.mono (unhide Q9).size)); clear hb10 KS))
      all_goals
        go_wp2
        go_roundw
        case rel => exact ⟨k + 1, by omega, by go_num, Q10⟩
        case measure => simp [intOf]; omega
    · have hlt' : ¬ (k : Int) < (L.length : Int) := by omega
      go_wp2
      go_ret
      exact ⟨rfl, (unhide B5).trans ((unhide HB).mono (unhide B5).size)⟩
end Cas
end Go.Proofs.YtecbbifepbgmlaaDoor
