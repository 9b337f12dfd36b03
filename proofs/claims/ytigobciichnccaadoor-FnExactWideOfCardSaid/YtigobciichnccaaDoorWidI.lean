/- How wide a character is, as the program tells it. -/
import Derived.Test.YtigobciichnccaaDoorMQ
import Derived.Test.YtigobciichnccaaDoorShelfD
namespace Go.Proofs.YtigobciichnccaaDoor
namespace Wid
open Go.RowKit Chr
set_option linter.unusedVariables false
def TabD (w : World) : Prop := Lib.Utf8Tabs (Tryd.laysDec_ren.g 3) (Tryd.laysDec_ren.g 4) w
theorem ideB (p : Int) (w : World) (ht : TabAt w) : Calls Tryd.prog 32 #[.int .i64 p] w fun e w' => e = .returned (.bool (ide p)) ∧ Below w.heap.size w w' := by
  have C := hide (scrI_any p w ht)
  have HE := hide (ide_iff p)
  clear ht
  generalize scr p = c at *
  go_enter Tryd.func32, Tryd.ntmps32
  go_wp2_with (go_at_call 59; refine (unhide C).mono ?_; rintro e w2 ⟨rfl, hb2⟩)
  go_ret
  exact ⟨by rw [← unhide HE]; rfl, hb2⟩
theorem dec_le (size pos b0 b1 b2 b3 : Nat) (h : b0 < 256) : (dec size pos b0 b1 b2 b3).1 ≤ 1114111 := by
  unfold dec
  repeat' split
  all_goals (first | omega | (simp only; omega))
/-- The first point by which the program goes. -/
def gp (x : ByteArray) : Int := ((Lib.decodeGo x).1 : Int)
theorem go_at (x : ByteArray) (h : 0 < x.size) : Lib.decodeGo x = Utf8.decode x 0 := by
  show (if x.size = 0 then (65533, 0) else Utf8.decode x 0) = _
  rw [if_neg (by omega)]
theorem gp_bd (x : ByteArray) : 0 ≤ gp x ∧ gp x ≤ 1114111 := by
  unfold gp
  by_cases h : 0 < x.size
  · rw [go_at x h, decode_dec]
    have := dec_le x.size 0 (bt x 0) (bt x (0 + 1)) (bt x (0 + 2)) (bt x (0 + 3)) (bt_lt x 0)
    omega
  · have e : Lib.decodeGo x = (65533, 0) := by
      show (if x.size = 0 then (65533, 0) else Utf8.decode x 0) = _
      rw [if_pos (by omega)]
    rw [e]
    omega
def wg (x : ByteArray) : Int := wd (gp x)
theorem wg_eq (x : ByteArray) (h : 0 < x.size) : wg x = wc x := by
  unfold wg wc gp
  rw [go_at x h]
  rfl
theorem wg_bd (x : ByteArray) : 0 ≤ wg x ∧ wg x ≤ 2 := wd_bd _
def wgs : List ByteArray → Int
  | [] => 0
  | x :: l => wg x + wgs l
theorem wgs_bd (l : List ByteArray) : 0 ≤ wgs l ∧ wgs l ≤ 2 * (l.length : Int) := by
  induction l with
  | nil => exact ⟨Int.le_refl _, Int.le_refl _⟩
  | cons x l ih =>
    have := wg_bd x
    simp only [wgs, List.length_cons]
    omega
theorem wgs_snoc (l : List ByteArray) (x : ByteArray) : wgs (l ++ [x]) = wgs l + wg x := by
  induction l with
  | nil => simp [wgs]
  | cons y l ih => simp only [List.cons_append, wgs, ih]; omega
theorem wgs_eq (l : List ByteArray) (h : ∀ k, k < l.length → 0 < (nthS l k).size) : wgs l = ws l := by
  induction l with
  | nil => rfl
  | cons x l ih =>
    have h0 := h 0 (by simp)
    have hx : wg x = wc x := wg_eq x (by simpa [nthS] using h0)
    rw [wgs, ws, hx, ih (fun k hk => by have := h (k + 1) (by simp; omega); simpa [nthS] using this)]
theorem decD (x : ByteArray) (w : World) (hT : TabD w) : Calls Tryd.prog 30 #[.string x] w fun e w' => (∃ q : Int, e = .returned (.tuple #[.int .i32 (gp x), .int .i64 q])) ∧ Below w.heap.size w w' := by
  refine (Any.utf8_DecodeRuneInString Tryd.laysDec x w hT).mono (fun e' w' h' => ⟨⟨_, h'.1⟩, h'.2⟩)
theorem TabD.below {w w' : World} (h : TabD w) (hb : Below w.heap.size w w') : TabD w' := Utf8Tabs_below h hb
set_option maxRecDepth 100000 in
set_option maxHeartbeats 4000000 in
theorem wide_any (x : ByteArray) (w : World) (ht : TabAt w) (hT : TabD w) : Calls Tryd.prog 12 #[.string x] w fun e w' => e = .returned (.int .i64 (wg x)) ∧ Below w.heap.size w w' := by
  have CD := hide (decD x w hT)
  have HT := hide ht
  obtain ⟨p0, p1⟩ := gp_bd x
  have HW : Hid (wg x = wd (gp x)) := hide rfl
  generalize gp x = p at *
  clear hT ht
  have CS := hide (fun W => isSyllable_any p W)
  have CI := hide (fun W hW => ideB p W hW)
  have CP := hide (fun W => isPicture_any p W)
  have CC := hide (fun W hW => cat_any p W hW)
  have HD : Hid (wd p = if sil p = true ∨ ide p = true ∨ pic p = true then 2 else if cat p = 1 ∨ cat p = 11 ∨ cat p = 3 then 0 else 1) := hide rfl
  generalize sil p = b1 at *
  generalize ide p = b2 at *
  generalize pic p = b3 at *
  generalize cat p = c at *
  cases b1
  case true =>
    go_enter Tryd.func12, Tryd.ntmps12
    go_wp2_with (first
      | (go_at_call 30; refine (unhide CD).mono ?_; rintro e w1 ⟨⟨q, rfl⟩, hb1⟩; have B1 := hide hb1; have T1 := hide ((unhide HT).below hb1); clear hb1)
      | (go_at_call 31; refine ((unhide CS) _).mono ?_; rintro e w' ⟨rfl, hw⟩; obtain rfl := hw.symm; clear hw))
    go_ret
    exact ⟨by rw [unhide HW, unhide HD]; rfl, unhide B1⟩
  case false =>
  cases b2
  case true =>
    go_enter Tryd.func12, Tryd.ntmps12
    go_wp2_with (first
      | (go_at_call 30; refine (unhide CD).mono ?_; rintro e w1 ⟨⟨q, rfl⟩, hb1⟩; have B1 := hide hb1; have T1 := hide ((unhide HT).below hb1); clear hb1)
      | (go_at_call 31; refine ((unhide CS) _).mono ?_; rintro e w' ⟨rfl, hw⟩; obtain rfl := hw.symm; clear hw)
      | (go_at_call 32; refine ((unhide CI) _ (unhide T1)).mono ?_; rintro e w2 ⟨rfl, hb2⟩; have B2 := hide ((unhide B1).trans (hb2.mono (unhide B1).size)); have T2 := hide ((unhide T1).below hb2); clear hb2))
    go_ret
    exact ⟨by rw [unhide HW, unhide HD]; rfl, unhide B2⟩
  case false =>
  cases b3
  case true =>
    go_enter Tryd.func12, Tryd.ntmps12
    go_wp2_with (first
      | (go_at_call 30; refine (unhide CD).mono ?_; rintro e w1 ⟨⟨q, rfl⟩, hb1⟩; have B1 := hide hb1; have T1 := hide ((unhide HT).below hb1); clear hb1)
      | (go_at_call 31; refine ((unhide CS) _).mono ?_; rintro e w' ⟨rfl, hw⟩; obtain rfl := hw.symm; clear hw)
      | (go_at_call 33; refine ((unhide CP) _).mono ?_; rintro e w' ⟨rfl, hw⟩; obtain rfl := hw.symm; clear hw)
      | (go_at_call 32; refine ((unhide CI) _ (unhide T1)).mono ?_; rintro e w2 ⟨rfl, hb2⟩; have B2 := hide ((unhide B1).trans (hb2.mono (unhide B1).size)); have T2 := hide ((unhide T1).below hb2); clear hb2))
    go_ret
    exact ⟨by rw [unhide HW, unhide HD]; rfl, unhide B2⟩
  case false =>
  have HD2 : Hid (wd p = if c = 1 ∨ c = 11 ∨ c = 3 then 0 else 1) := hide (by rw [unhide HD, if_neg (by simp)])
  clear HD
  cases h1 : (c == 1) <;> cases h11 : (c == 11) <;> cases h3 : (c == 3)
  all_goals
    have HV : Hid (wd p = if (c == 1) = true ∨ (c == 11) = true ∨ (c == 3) = true then 0 else 1) := hide (by rw [unhide HD2]; simp only [beq_iff_eq])
    rw [h1, h11, h3] at HV
    go_enter Tryd.func12, Tryd.ntmps12
    go_wp2_with (first
      | (go_at_call 30; refine (unhide CD).mono ?_; rintro e w1 ⟨⟨q, rfl⟩, hb1⟩; have B1 := hide hb1; have T1 := hide ((unhide HT).below hb1); clear hb1)
      | (go_at_call 31; refine ((unhide CS) _).mono ?_; rintro e w' ⟨rfl, hw⟩; obtain rfl := hw.symm; clear hw)
      | (go_at_call 33; refine ((unhide CP) _).mono ?_; rintro e w' ⟨rfl, hw⟩; obtain rfl := hw.symm; clear hw)
      | (go_at_call 32; refine ((unhide CI) _ (unhide T1)).mono ?_; rintro e w2 ⟨rfl, hb2⟩; have B2 := hide ((unhide B1).trans (hb2.mono (unhide B1).size)); have T2 := hide ((unhide T1).below hb2); clear hb2)
      | (go_at_call 34; refine ((unhide CC) _ (unhide T2)).mono ?_; rintro e w3 ⟨rfl, o3, hw3⟩; have B3 := hide (show Below w.heap.size w w3 by rw [hw3]; exact (unhide B2).alloc (unhide B2).size _); clear hw3))
    go_ret
    exact ⟨by rw [unhide HW, unhide HV]; rfl, unhide B3⟩
end Wid
end Go.Proofs.YtigobciichnccaaDoor
