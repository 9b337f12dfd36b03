/- MirrorOf of both. -/
import Derived.Test.YtbkeaoplncaihaaDoorBase
import Derived.Test.YtbkeaoplncaihaaDoorRows
namespace Go.Proofs.YtbkeaoplncaihaaDoor.Kd
open Go.RowKit
/-- A number is a point. -/
def isPt (p : Int) : Bool := decide (0 ≤ p ∧ p ≤ 1114111 ∧ (p < 55296 ∨ 57343 < p))
theorem isPointS (p : Int) (w : World) :
    Calls Tryd.prog 37 #[.int .i64 p] w fun e w' => e = .returned (.bool (isPt p)) ∧ w' = w := by
  by_cases h1 : 0 ≤ p
  · by_cases h2 : p ≤ 1114111
    · by_cases h3 : p < 55296
      · go_enter Tryd.func37, Tryd.ntmps37
        go_wp2
        go_ret
        exact ⟨by simp [isPt]; omega, rfl⟩
      · by_cases h4 : 57343 < p
        · go_enter Tryd.func37, Tryd.ntmps37
          go_wp2
          go_ret
          exact ⟨by simp [isPt]; omega, rfl⟩
        · go_enter Tryd.func37, Tryd.ntmps37
          go_wp2
          go_ret
          exact ⟨by simp [isPt]; omega, rfl⟩
    · go_enter Tryd.func37, Tryd.ntmps37
      go_wp2
      go_ret
      exact ⟨by simp [isPt]; omega, rfl⟩
  · go_enter Tryd.func37, Tryd.ntmps37
    go_wp2
    go_ret
    exact ⟨by simp [isPt]; omega, rfl⟩
theorem isPointI (p : Int) (w : World) :
    Calls Tryd.prog 36 #[.int .i64 p] w fun e w' => e = .returned (.bool (isPt p)) ∧ w' = w := by
  by_cases h1 : 0 ≤ p
  · by_cases h2 : p ≤ 1114111
    · by_cases h3 : p < 55296
      · go_enter Tryd.func36, Tryd.ntmps36
        go_wp2
        go_ret
        exact ⟨by simp [isPt]; omega, rfl⟩
      · by_cases h4 : 57343 < p
        · go_enter Tryd.func36, Tryd.ntmps36
          go_wp2
          go_ret
          exact ⟨by simp [isPt]; omega, rfl⟩
        · go_enter Tryd.func36, Tryd.ntmps36
          go_wp2
          go_ret
          exact ⟨by simp [isPt]; omega, rfl⟩
    · go_enter Tryd.func36, Tryd.ntmps36
      go_wp2
      go_ret
      exact ⟨by simp [isPt]; omega, rfl⟩
  · go_enter Tryd.func36, Tryd.ntmps36
    go_wp2
    go_ret
    exact ⟨by simp [isPt]; omega, rfl⟩
def mir (p : Int) : Int := if p = 40 then 41 else if p = 41 then 40 else if p = 60 then 62 else if p = 62 then 60 else if p = 91 then 93 else if p = 93 then 91 else if p = 123 then 125 else if p = 125 then 123 else if isPt p then p else 0
def Not8 (p : Int) : Prop := p ≠ 40 ∧ p ≠ 41 ∧ p ≠ 60 ∧ p ≠ 62 ∧ p ≠ 91 ∧ p ≠ 93 ∧ p ≠ 123 ∧ p ≠ 125
theorem mir_pt (p : Int) (h : Not8 p) (hp : isPt p = true) : mir p = p := by
  obtain ⟨h1, h2, h3, h4, h5, h6, h7, h8⟩ := h
  simp [mir, h1, h2, h3, h4, h5, h6, h7, h8, hp]
theorem mir_no (p : Int) (h : Not8 p) (hp : isPt p = false) : mir p = 0 := by
  obtain ⟨h1, h2, h3, h4, h5, h6, h7, h8⟩ := h
  simp [mir, h1, h2, h3, h4, h5, h6, h7, h8, hp]
theorem mirI_at (p : Int) (w : World) (h : ¬ Not8 p) : Calls Tryd.prog 20 #[.int .i64 p] w fun e w' => e = .returned (.int .i64 (mir p)) ∧ w' = w := by
  have h' : p = 40 ∨ p = 41 ∨ p = 60 ∨ p = 62 ∨ p = 91 ∨ p = 93 ∨ p = 123 ∨ p = 125 := by unfold Not8 at h; omega
  clear h
  rcases h' with rfl | rfl | rfl | rfl | rfl | rfl | rfl | rfl
  all_goals
    go_enter Tryd.func20, Tryd.ntmps20
    go_wp2
    go_ret
    exact ⟨ret_int (by decide), rfl⟩
theorem mirI (p : Int) (w : World) : Calls Tryd.prog 20 #[.int .i64 p] w fun e w' => e = .returned (.int .i64 (mir p)) ∧ w' = w := by
  by_cases h : Not8 p
  · have H := hide h
    obtain ⟨h1, h2, h3, h4, h5, h6, h7, h8⟩ := h
    have e0 : (p == 40) = false := by simp; omega
    have e1 : (p == 41) = false := by simp; omega
    have e2 : (p == 60) = false := by simp; omega
    have e3 : (p == 62) = false := by simp; omega
    have e4 : (p == 91) = false := by simp; omega
    have e5 : (p == 93) = false := by simp; omega
    have e6 : (p == 123) = false := by simp; omega
    have e7 : (p == 125) = false := by simp; omega
    clear h1 h2 h3 h4 h5 h6 h7 h8
    cases hp : isPt p
    · go_enter Tryd.func20, Tryd.ntmps20
      go_wp2_with (go_at_call 36; refine (isPointI p _).mono ?_; rintro e w' ⟨rfl, rfl⟩)
      go_ret
      exact ⟨ret_int (mir_no p (unhide H) hp).symm, rfl⟩
    · go_enter Tryd.func20, Tryd.ntmps20
      go_wp2_with (go_at_call 36; refine (isPointI p _).mono ?_; rintro e w' ⟨rfl, rfl⟩)
      go_ret
      exact ⟨ret_int (mir_pt p (unhide H) hp).symm, rfl⟩
  · exact mirI_at p w h
theorem w64 (n : Nat) (h : n < 256) : wrap64 (n : Int) = n := by unfold wrap64; omega
theorem fr0 : ∀ h, wrap64 (((({ data := #[40, 41, 60, 62, 91, 93, 123, 125] } : ByteArray)[0]'h).toNat : Nat) : Int) = 40 := fun _ => by rw [w64 _ (UInt8.toNat_lt _)]; rfl
theorem to0 : ∀ h, wrap64 (((({ data := #[41, 40, 62, 60, 93, 91, 125, 123] } : ByteArray)[0]'h).toNat : Nat) : Int) = 41 := fun _ => by rw [w64 _ (UInt8.toNat_lt _)]; rfl
theorem fr1 : ∀ h, wrap64 (((({ data := #[40, 41, 60, 62, 91, 93, 123, 125] } : ByteArray)[1]'h).toNat : Nat) : Int) = 41 := fun _ => by rw [w64 _ (UInt8.toNat_lt _)]; rfl
theorem to1 : ∀ h, wrap64 (((({ data := #[41, 40, 62, 60, 93, 91, 125, 123] } : ByteArray)[1]'h).toNat : Nat) : Int) = 40 := fun _ => by rw [w64 _ (UInt8.toNat_lt _)]; rfl
theorem fr2 : ∀ h, wrap64 (((({ data := #[40, 41, 60, 62, 91, 93, 123, 125] } : ByteArray)[2]'h).toNat : Nat) : Int) = 60 := fun _ => by rw [w64 _ (UInt8.toNat_lt _)]; rfl
theorem to2 : ∀ h, wrap64 (((({ data := #[41, 40, 62, 60, 93, 91, 125, 123] } : ByteArray)[2]'h).toNat : Nat) : Int) = 62 := fun _ => by rw [w64 _ (UInt8.toNat_lt _)]; rfl
theorem fr3 : ∀ h, wrap64 (((({ data := #[40, 41, 60, 62, 91, 93, 123, 125] } : ByteArray)[3]'h).toNat : Nat) : Int) = 62 := fun _ => by rw [w64 _ (UInt8.toNat_lt _)]; rfl
theorem to3 : ∀ h, wrap64 (((({ data := #[41, 40, 62, 60, 93, 91, 125, 123] } : ByteArray)[3]'h).toNat : Nat) : Int) = 60 := fun _ => by rw [w64 _ (UInt8.toNat_lt _)]; rfl
theorem fr4 : ∀ h, wrap64 (((({ data := #[40, 41, 60, 62, 91, 93, 123, 125] } : ByteArray)[4]'h).toNat : Nat) : Int) = 91 := fun _ => by rw [w64 _ (UInt8.toNat_lt _)]; rfl
theorem to4 : ∀ h, wrap64 (((({ data := #[41, 40, 62, 60, 93, 91, 125, 123] } : ByteArray)[4]'h).toNat : Nat) : Int) = 93 := fun _ => by rw [w64 _ (UInt8.toNat_lt _)]; rfl
theorem fr5 : ∀ h, wrap64 (((({ data := #[40, 41, 60, 62, 91, 93, 123, 125] } : ByteArray)[5]'h).toNat : Nat) : Int) = 93 := fun _ => by rw [w64 _ (UInt8.toNat_lt _)]; rfl
theorem to5 : ∀ h, wrap64 (((({ data := #[41, 40, 62, 60, 93, 91, 125, 123] } : ByteArray)[5]'h).toNat : Nat) : Int) = 91 := fun _ => by rw [w64 _ (UInt8.toNat_lt _)]; rfl
theorem fr6 : ∀ h, wrap64 (((({ data := #[40, 41, 60, 62, 91, 93, 123, 125] } : ByteArray)[6]'h).toNat : Nat) : Int) = 123 := fun _ => by rw [w64 _ (UInt8.toNat_lt _)]; rfl
theorem to6 : ∀ h, wrap64 (((({ data := #[41, 40, 62, 60, 93, 91, 125, 123] } : ByteArray)[6]'h).toNat : Nat) : Int) = 125 := fun _ => by rw [w64 _ (UInt8.toNat_lt _)]; rfl
theorem fr7 : ∀ h, wrap64 (((({ data := #[40, 41, 60, 62, 91, 93, 123, 125] } : ByteArray)[7]'h).toNat : Nat) : Int) = 125 := fun _ => by rw [w64 _ (UInt8.toNat_lt _)]; rfl
theorem to7 : ∀ h, wrap64 (((({ data := #[41, 40, 62, 60, 93, 91, 125, 123] } : ByteArray)[7]'h).toNat : Nat) : Int) = 123 := fun _ => by rw [w64 _ (UInt8.toNat_lt _)]; rfl
def Not (p : Int) : Nat → Prop
  | 0 => True
  | 1 => p ≠ 40
  | 2 => p ≠ 40 ∧ p ≠ 41
  | 3 => p ≠ 40 ∧ p ≠ 41 ∧ p ≠ 60
  | 4 => p ≠ 40 ∧ p ≠ 41 ∧ p ≠ 60 ∧ p ≠ 62
  | 5 => p ≠ 40 ∧ p ≠ 41 ∧ p ≠ 60 ∧ p ≠ 62 ∧ p ≠ 91
  | 6 => p ≠ 40 ∧ p ≠ 41 ∧ p ≠ 60 ∧ p ≠ 62 ∧ p ≠ 91 ∧ p ≠ 93
  | 7 => p ≠ 40 ∧ p ≠ 41 ∧ p ≠ 60 ∧ p ≠ 62 ∧ p ≠ 91 ∧ p ≠ 93 ∧ p ≠ 123
  | 8 => p ≠ 40 ∧ p ≠ 41 ∧ p ≠ 60 ∧ p ≠ 62 ∧ p ≠ 91 ∧ p ≠ 93 ∧ p ≠ 123 ∧ p ≠ 125
  | _ => False
set_option maxHeartbeats 1000000 in
theorem mirS (p : Int) (w : World) : Calls Tryd.prog 21 #[.int .i64 p] w fun e w' => e = .returned (.int .i64 (mir p)) ∧ w' = w := by
  go_enter Tryd.func21, Tryd.ntmps21
  go_wp2
  go_loop [5] (fun i => ∃ k : Nat, k ≤ 8 ∧ i = .int .i64 k ∧ Hid (Not p k)) (fun i => 8 - (intOf i).toNat)
  case atStart => exact ⟨0, by omega, rfl, hide trivial⟩
  case round =>
    obtain ⟨k, hk, rfl, H⟩ := hrel
    obtain rfl | rfl | rfl | rfl | rfl | rfl | rfl | rfl | rfl : k = 0 ∨ k = 1 ∨ k = 2 ∨ k = 3 ∨ k = 4 ∨ k = 5 ∨ k = 6 ∨ k = 7 ∨ k = 8 := by omega
    · have cf := fr0
      have ct := to0
      by_cases hp : p = 40
      · subst hp
        go_wp2
        go_ret
        exact ⟨ret_int (by decide), rfl⟩
      · have e : (p == 40) = false := by simp; omega
        have H' : Hid (Not p 1) := hide (by have := unhide H; simp only [Not] at this ⊢; omega)
        clear H hp
        go_wp2
        go_round
        case rel => exact ⟨1, by omega, by go_num, H'⟩
        case measure => simp [intOf]
    · have cf := fr1
      have ct := to1
      by_cases hp : p = 41
      · subst hp
        go_wp2
        go_ret
        exact ⟨ret_int (by decide), rfl⟩
      · have e : (p == 41) = false := by simp; omega
        have H' : Hid (Not p 2) := hide (by have := unhide H; simp only [Not] at this ⊢; omega)
        clear H hp
        go_wp2
        go_round
        case rel => exact ⟨2, by omega, by go_num, H'⟩
        case measure => simp [intOf]
    · have cf := fr2
      have ct := to2
      by_cases hp : p = 60
      · subst hp
        go_wp2
        go_ret
        exact ⟨ret_int (by decide), rfl⟩
      · have e : (p == 60) = false := by simp; omega
        have H' : Hid (Not p 3) := hide (by have := unhide H; simp only [Not] at this ⊢; omega)
        clear H hp
        go_wp2
        go_round
        case rel => exact ⟨3, by omega, by go_num, H'⟩
        case measure => simp [intOf]
    · have cf := fr3
      have ct := to3
      by_cases hp : p = 62
      · subst hp
        go_wp2
        go_ret
        exact ⟨ret_int (by decide), rfl⟩
      · have e : (p == 62) = false := by simp; omega
        have H' : Hid (Not p 4) := hide (by have := unhide H; simp only [Not] at this ⊢; omega)
        clear H hp
        go_wp2
        go_round
        case rel => exact ⟨4, by omega, by go_num, H'⟩
        case measure => simp [intOf]
    · have cf := fr4
      have ct := to4
      by_cases hp : p = 91
      · subst hp
        go_wp2
        go_ret
        exact ⟨ret_int (by decide), rfl⟩
      · have e : (p == 91) = false := by simp; omega
        have H' : Hid (Not p 5) := hide (by have := unhide H; simp only [Not] at this ⊢; omega)
        clear H hp
        go_wp2
        go_round
        case rel => exact ⟨5, by omega, by go_num, H'⟩
        case measure => simp [intOf]
    · have cf := fr5
      have ct := to5
      by_cases hp : p = 93
      · subst hp
        go_wp2
        go_ret
        exact ⟨ret_int (by decide), rfl⟩
      · have e : (p == 93) = false := by simp; omega
        have H' : Hid (Not p 6) := hide (by have := unhide H; simp only [Not] at this ⊢; omega)
        clear H hp
        go_wp2
        go_round
        case rel => exact ⟨6, by omega, by go_num, H'⟩
        case measure => simp [intOf]
    · have cf := fr6
      have ct := to6
      by_cases hp : p = 123
      · subst hp
        go_wp2
        go_ret
        exact ⟨ret_int (by decide), rfl⟩
      · have e : (p == 123) = false := by simp; omega
        have H' : Hid (Not p 7) := hide (by have := unhide H; simp only [Not] at this ⊢; omega)
        clear H hp
        go_wp2
        go_round
        case rel => exact ⟨7, by omega, by go_num, H'⟩
        case measure => simp [intOf]
    · have cf := fr7
      have ct := to7
      by_cases hp : p = 125
      · subst hp
        go_wp2
        go_ret
        exact ⟨ret_int (by decide), rfl⟩
      · have e : (p == 125) = false := by simp; omega
        have H' : Hid (Not p 8) := hide (by have := unhide H; simp only [Not] at this ⊢; omega)
        clear H hp
        go_wp2
        go_round
        case rel => exact ⟨8, by omega, by go_num, H'⟩
        case measure => simp [intOf]
    · have H8 : Not8 p := unhide H
      have HH := hide H8
      clear H8 H
      cases hp : isPt p
      · go_wp2_with (go_at_call 37; refine (isPointS p _).mono ?_; rintro e w' ⟨rfl, rfl⟩)
        go_ret
        exact ⟨ret_int (mir_no p (unhide HH) hp).symm, rfl⟩
      · go_wp2_with (go_at_call 37; refine (isPointS p _).mono ?_; rintro e w' ⟨rfl, rfl⟩)
        go_ret
        exact ⟨ret_int (mir_pt p (unhide HH) hp).symm, rfl⟩
end Go.Proofs.YtbkeaoplncaihaaDoor.Kd
