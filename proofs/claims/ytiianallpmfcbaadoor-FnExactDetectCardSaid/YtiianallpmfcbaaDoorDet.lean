/- Whether a text begins with another one; and that a text behind the mark is detected in each form. -/
import Derived.Test.YtiianallpmfcbaaDoorEncS
import Derived.Lib.IndexBytes
import Derived.Lib.PathFns
namespace Go.Proofs.YtiianallpmfcbaaDoor
open Go.RowKit
def hasP (s p : ByteArray) : Bool := s.data.toList.take p.size == p.data.toList
theorem hasP_short (s p : ByteArray) (h : s.size < p.size) : hasP s p = false := by
  unfold hasP
  rw [beq_eq_false_iff_ne]
  intro e
  have := congrArg List.length e
  have h1 : s.data.toList.length = s.size := by simp
  have h2 : p.data.toList.length = p.size := by simp
  rw [List.length_take, h1, h2] at this
  omega
theorem extr_upto (s : ByteArray) (k : Nat) : s.extract 0 k = ⟨(s.data.toList.take k).toArray⟩ := by
  rw [Lib.extract_eq]
  simp
theorem hasP_long (s p : ByteArray) : ((s.extract 0 p.size).toList == p.toList) = hasP s p := by
  rw [ByteArray.toList_eq, ByteArray.toList_eq, extr_upto]
  rfl
theorem hasPre_any (s p : ByteArray) (w : World) :
    Calls Tryd.prog 11 #[.string s, .string p] w fun e w' => e = .returned (.bool (hasP s p)) ∧ w' = w := by
  by_cases h : s.size < p.size
  · have H := hide (hasP_short s p h)
    go_enter Tryd.func11, Tryd.ntmps11
    go_wp2
    go_ret
    exact ⟨by rw [unhide H]; rfl, rfl⟩
  · have h' : p.size ≤ s.size := by omega
    have H := hide (hasP_long s p)
    go_enter Tryd.func11, Tryd.ntmps11
    go_wp2
    go_ret
    exact ⟨by rw [← unhide H]; rfl, rfl⟩
theorem detect1 (s : ByteArray) (w : World) (hs : s.size ≤ 65536) (h1 : hasP s ⟨#[239, 187, 191]⟩ = true) :
    Calls Tryd.prog 6 #[.string s] w fun e w' => e = .returned (.int .i64 1) ∧ w' = w := by
  go_enter Tryd.func6, Tryd.ntmps6
  go_wp2_with (go_at_call 11; refine (hasPre_any _ _ _).mono ?_; rintro e w' ⟨rfl, rfl⟩)
  go_ret
  exact ⟨rfl, rfl⟩
theorem detect5 (s : ByteArray) (w : World) (hs : s.size ≤ 65536) (h1 : hasP s ⟨#[239, 187, 191]⟩ = false) (h2 : hasP s ⟨#[255, 254, 0, 0]⟩ = true) :
    Calls Tryd.prog 6 #[.string s] w fun e w' => e = .returned (.int .i64 5) ∧ w' = w := by
  go_enter Tryd.func6, Tryd.ntmps6
  go_wp2_with (go_at_call 11; refine (hasPre_any _ _ _).mono ?_; rintro e w' ⟨rfl, rfl⟩)
  go_ret
  exact ⟨rfl, rfl⟩
theorem detect4 (s : ByteArray) (w : World) (hs : s.size ≤ 65536) (h1 : hasP s ⟨#[239, 187, 191]⟩ = false) (h2 : hasP s ⟨#[255, 254, 0, 0]⟩ = false) (h3 : hasP s ⟨#[0, 0, 254, 255]⟩ = true) :
    Calls Tryd.prog 6 #[.string s] w fun e w' => e = .returned (.int .i64 4) ∧ w' = w := by
  go_enter Tryd.func6, Tryd.ntmps6
  go_wp2_with (go_at_call 11; refine (hasPre_any _ _ _).mono ?_; rintro e w' ⟨rfl, rfl⟩)
  go_ret
  exact ⟨rfl, rfl⟩
theorem detect2 (s : ByteArray) (w : World) (hs : s.size ≤ 65536) (h1 : hasP s ⟨#[239, 187, 191]⟩ = false) (h2 : hasP s ⟨#[255, 254, 0, 0]⟩ = false) (h3 : hasP s ⟨#[0, 0, 254, 255]⟩ = false) (h4 : hasP s ⟨#[254, 255]⟩ = true) :
    Calls Tryd.prog 6 #[.string s] w fun e w' => e = .returned (.int .i64 2) ∧ w' = w := by
  go_enter Tryd.func6, Tryd.ntmps6
  go_wp2_with (go_at_call 11; refine (hasPre_any _ _ _).mono ?_; rintro e w' ⟨rfl, rfl⟩)
  go_ret
  exact ⟨rfl, rfl⟩
theorem detect3 (s : ByteArray) (w : World) (hs : s.size ≤ 65536) (h1 : hasP s ⟨#[239, 187, 191]⟩ = false) (h2 : hasP s ⟨#[255, 254, 0, 0]⟩ = false) (h3 : hasP s ⟨#[0, 0, 254, 255]⟩ = false) (h4 : hasP s ⟨#[254, 255]⟩ = false) (h5 : hasP s ⟨#[255, 254]⟩ = true) :
    Calls Tryd.prog 6 #[.string s] w fun e w' => e = .returned (.int .i64 3) ∧ w' = w := by
  go_enter Tryd.func6, Tryd.ntmps6
  go_wp2_with (go_at_call 11; refine (hasPre_any _ _ _).mono ?_; rintro e w' ⟨rfl, rfl⟩)
  go_ret
  exact ⟨rfl, rfl⟩
/- The bytes of a text behind the mark. -/
def u8 (z : Int) : UInt8 := UInt8.ofNat z.toNat
theorem hasP_nums (L : List Int) (p : ByteArray) : hasP (strOfNums L) p = ((L.take p.size).map u8 == p.data.toList) := by
  unfold hasP
  rw [strOfNums_data, List.map_take]
  rfl
theorem steps_one (s : ByteArray) (h : 0 < s.size) : steps s 1 = ([(dP s 0 : Int)], dN s 0) := by
  have := steps_next s 0 h
  simpa [steps] using this
theorem steps_two (s : ByteArray) (h : 0 < s.size) (h2 : dN s 0 < s.size) : steps s 2 = ([(dP s 0 : Int), (dP s (dN s 0) : Int)], dN s 0 + dN s (dN s 0)) := by
  have h1 := steps_one s h
  have := steps_next s 1 (by rw [h1]; exact h2)
  rw [h1] at this
  simpa using this
theorem steps_pre (s : ByteArray) (n m : Nat) : ∃ R, (steps s (n + m)).1 = (steps s n).1 ++ R := by
  induction m with
  | zero => exact ⟨[], by simp⟩
  | succ m ih =>
    obtain ⟨R, hR⟩ := ih
    rw [← Nat.add_assoc]
    by_cases h : (steps s (n + m)).2 < s.size
    · rw [steps_next s (n + m) h]
      exact ⟨R ++ [(dP s (steps s (n + m)).2 : Int)], by simp only []; rw [hR, List.append_assoc]⟩
    · refine ⟨R, ?_⟩
      show (if (steps s (n + m)).2 < s.size then _ else steps s (n + m)).1 = _
      rw [if_neg h, hR]
theorem dec_zero (size pos b0 b1 b2 b3 : Nat) (h0 : b0 ≠ 0) : (dec size pos b0 b1 b2 b3).1 ≠ 0 := by
  unfold dec
  repeat' split
  all_goals simp only []
  all_goals omega
/-- The points of a text that begins with the mark. -/
theorem pts_mark (s : ByteArray) (h3 : 3 ≤ s.size) (b0 : bt s 0 = 239) (b1 : bt s 1 = 187) (b2 : bt s 2 = 191) (hz : s.size = 3 ∨ bt s 3 ≠ 0) :
    ∃ R, pts s = 65279 :: R ∧ (R = [] ∨ ∃ q T, R = q :: T ∧ q ≠ 0) := by
  have hd : Utf8.decode s 0 = (65279, 3) := by
    have c1 : bt s (0 + 1) = 187 := b1
    have c2 : bt s (0 + 2) = 191 := b2
    rw [decode_dec, dec_three (by omega) (by omega) (by omega) (by omega) (by omega) (by omega) (by omega), b0, c1, c2]
    rfl
  have hP : dP s 0 = 65279 := by unfold dP; rw [hd]
  have hN : dN s 0 = 3 := by unfold dN; rw [hd]
  have s1 := steps_one s (by omega)
  rw [hP, hN] at s1
  by_cases e3 : s.size = 3
  · refine ⟨[], ?_, .inl rfl⟩
    have := steps_pts s 1 (by rw [s1]; show s.size ≤ 3; omega)
    rw [← this, s1]; rfl
  · have s2 := steps_two s (by omega) (by omega)
    rw [hP, hN] at s2
    obtain ⟨R, hR⟩ := steps_pre s 2 (s.size - 2)
    rw [s2] at hR
    have hR2 : pts s = 65279 :: ((dP s 3 : Int) :: R) := by
      unfold pts
      have e : 2 + (s.size - 2) = s.size := by omega
      rw [e] at hR
      rw [hR]; rfl
    refine ⟨_, hR2, .inr ⟨_, R, rfl, ?_⟩⟩
    have h4 : bt s 3 ≠ 0 := by omega
    have := dec_zero s.size 3 (bt s 3) (bt s (3 + 1)) (bt s (3 + 2)) (bt s (3 + 3)) h4
    unfold dP
    rw [decode_dec]
    omega
theorem u8_ne (z : Int) (h0 : 0 < z) (h1 : z < 256) : (u8 z == 0) = false := by
  rw [beq_eq_false_iff_ne]
  intro e
  have := congrArg UInt8.toNat e
  unfold u8 at this
  rw [UInt8.toNat_ofNat_of_lt' (by show z.toNat < 256; omega)] at this
  simp at this
  omega
theorem unit2_little (n : Int) : unitL 2 true n = [n / 2 ^ (8 * 0) % 256, n / 2 ^ (8 * 1) % 256] := rfl
theorem first3 (q : Int) (h0 : 0 ≤ q) (h1 : q ≤ 1114111) (hq : q ≠ 0) : ∃ x y M, encP 3 q = x :: y :: M ∧ ((u8 x == 0) = false ∨ (u8 y == 0) = false) := by
  unfold encP
  rw [if_neg (by omega), if_neg (by omega)]
  by_cases hl : q < 65536
  · rw [if_pos hl]
    refine ⟨_, _, _, unit2_little q, ?_⟩
    by_cases hx : q % 256 = 0
    · refine .inr (u8_ne _ ?_ ?_)
      · simp; omega
      · omega
    · refine .inl (u8_ne _ ?_ ?_)
      · simp; omega
      · omega
  · rw [if_neg hl]
    refine ⟨_, _, _, by rw [show decide ((3 : Int) = 3) = true from rfl, unit2_little]; rfl, ?_⟩
    refine .inr (u8_ne _ ?_ ?_)
    · simp; omega
    · omega
theorem mark_len (s : ByteArray) (hs : s.size ≤ 1003) (f : Int) (hf : 1 ≤ f ∧ f ≤ 5) (l : List Int) (hl : pts s = l) : encOut f s = encL f l ∧ (strOfNums (encL f l)).size ≤ 65536 := by
  have h1 := pts_le s
  have h2 := encL_le f l
  rw [hl] at h1
  refine ⟨?_, by rw [strOfNums_size]; omega⟩
  unfold encOut
  rw [if_neg (by omega), if_neg (by omega), hl, if_neg (by omega)]
theorem detect_form (s : ByteArray) (hs : s.size ≤ 1003) (h3 : 3 ≤ s.size) (b0 : bt s 0 = 239) (b1 : bt s 1 = 187) (b2 : bt s 2 = 191) (hz : s.size = 3 ∨ bt s 3 ≠ 0) (f : Int) (hf : 1 ≤ f ∧ f ≤ 5) (w : World) :
    Calls Tryd.prog 6 #[.string (strOfNums (encOut f s))] w fun e w' => e = .returned (.int .i64 f) ∧ w' = w := by
  obtain ⟨R, hR, hq⟩ := pts_mark s h3 b0 b1 b2 hz
  have hpt := pts_pt s
  obtain ⟨e1, e2⟩ := mark_len s hs f hf _ hR
  rw [e1]
  have ec : encL f (65279 :: R) = encP f 65279 ++ encL f R := by simp [encL]
  obtain rfl | rfl | rfl | rfl | rfl : f = 1 ∨ f = 2 ∨ f = 3 ∨ f = 4 ∨ f = 5 := by omega
  · have hb : encP 1 65279 = [239, 187, 191] := by decide +kernel
    rw [hb] at ec
    refine detect1 _ w e2 ?_
    rw [hasP_nums, ec]; rfl
  · have hb : encP 2 65279 = [254, 255] := by decide +kernel
    rw [hb] at ec
    refine detect2 _ w e2 ?_ ?_ ?_ ?_
    all_goals (rw [hasP_nums, ec]; rfl)
  · have hb : encP 3 65279 = [255, 254] := by decide +kernel
    rw [hb] at ec
    refine detect3 _ w e2 ?_ ?_ ?_ ?_ ?_
    · rw [hasP_nums, ec]; rfl
    · rw [hasP_nums, ec]
      rcases hq with rfl | ⟨q, T, rfl, hq⟩
      · rfl
      · have hqb := (isPt_iff q).1 (hpt q (by rw [hR]; simp))
        obtain ⟨x, y, M, hM, hxy⟩ := first3 q hqb.1 hqb.2.1 hq
        have : encL 3 (q :: T) = x :: y :: (M ++ encL 3 T) := by simp [encL, hM]
        rw [this]
        rcases hxy with h | h
        · show ([u8 255, u8 254, u8 x, u8 y] == [255, 254, 0, 0]) = false
          have h' : u8 x ≠ 0 := by simpa using h
          simp [h']
        · show ([u8 255, u8 254, u8 x, u8 y] == [255, 254, 0, 0]) = false
          have h' : u8 y ≠ 0 := by simpa using h
          simp [h']
    · rw [hasP_nums, ec]; rfl
    · rw [hasP_nums, ec]; rfl
    · rw [hasP_nums, ec]; rfl
  · have hb : encP 4 65279 = [0, 0, 254, 255] := by decide +kernel
    rw [hb] at ec
    refine detect4 _ w e2 ?_ ?_ ?_
    all_goals (rw [hasP_nums, ec]; rfl)
  · have hb : encP 5 65279 = [255, 254, 0, 0] := by decide +kernel
    rw [hb] at ec
    refine detect5 _ w e2 ?_ ?_
    all_goals (rw [hasP_nums, ec]; rfl)
end Go.Proofs.YtiianallpmfcbaaDoor
