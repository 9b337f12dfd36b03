/- For every int64 the law FnExactMirrorOf returns true: impl.MirrorOf answers as spec.MirrorOf; no condition. The frame is the guide's shell for a law over integers; the walks are ours. -/
import Derived.Test.YtopifpgkagcfbalRows
import Derived.WalkKit
import Derived.ProofKit
import Derived.OpenShut
import Derived.WalkSpells
namespace Go.Proofs.Ytopifpgkagcfbal.fnExactMirrorOf
open Go.ChangeShapes Go.WideShapes Go.ChangeAt Go.RowKit
set_option linter.unusedVariables false      -- a walk need not use every 'w<i>' (that an integer argument fits its kind)

theorem own : ownKnob Try.prog.godebug = none := by kernel_rfl

/-- A number is a point. -/
def isPt (p : Int) : Bool := decide (0 ≤ p ∧ p ≤ 1114111 ∧ (p < 55296 ∨ 57343 < p))
theorem isPointS (p : Int) (w : World) :
    Calls Try.prog 10 #[.int .i64 p] w fun e w' => e = .returned (.bool (isPt p)) ∧ w' = w := by
  by_cases h1 : 0 ≤ p
  · by_cases h2 : p ≤ 1114111
    · by_cases h3 : p < 55296
      · go_enter Try.func10, Try.ntmps10
        go_wp2
        go_ret
        exact ⟨by simp [isPt]; omega, rfl⟩
      · by_cases h4 : 57343 < p
        · go_enter Try.func10, Try.ntmps10
          go_wp2
          go_ret
          exact ⟨by simp [isPt]; omega, rfl⟩
        · go_enter Try.func10, Try.ntmps10
          go_wp2
          go_ret
          exact ⟨by simp [isPt]; omega, rfl⟩
    · go_enter Try.func10, Try.ntmps10
      go_wp2
      go_ret
      exact ⟨by simp [isPt]; omega, rfl⟩
  · go_enter Try.func10, Try.ntmps10
    go_wp2
    go_ret
    exact ⟨by simp [isPt]; omega, rfl⟩
theorem isPointI (p : Int) (w : World) :
    Calls Try.prog 11 #[.int .i64 p] w fun e w' => e = .returned (.bool (isPt p)) ∧ w' = w := by
  by_cases h1 : 0 ≤ p
  · by_cases h2 : p ≤ 1114111
    · by_cases h3 : p < 55296
      · go_enter Try.func11, Try.ntmps11
        go_wp2
        go_ret
        exact ⟨by simp [isPt]; omega, rfl⟩
      · by_cases h4 : 57343 < p
        · go_enter Try.func11, Try.ntmps11
          go_wp2
          go_ret
          exact ⟨by simp [isPt]; omega, rfl⟩
        · go_enter Try.func11, Try.ntmps11
          go_wp2
          go_ret
          exact ⟨by simp [isPt]; omega, rfl⟩
    · go_enter Try.func11, Try.ntmps11
      go_wp2
      go_ret
      exact ⟨by simp [isPt]; omega, rfl⟩
  · go_enter Try.func11, Try.ntmps11
    go_wp2
    go_ret
    exact ⟨by simp [isPt]; omega, rfl⟩
def mir (p : Int) : Int := if p = 40 then 41 else if p = 41 then 40 else if p = 60 then 62 else if p = 62 then 60 else if p = 91 then 93 else if p = 93 then 91 else if p = 123 then 125 else if p = 125 then 123 else if isPt p then p else 0
def Not8 (p : Int) : Prop := p ≠ 40 ∧ p ≠ 41 ∧ p ≠ 60 ∧ p ≠ 62 ∧ p ≠ 91 ∧ p ≠ 93 ∧ p ≠ 123 ∧ p ≠ 125
theorem mir_pt (p : Int) (h : Not8 p) (hp : isPt p = true) : mir p = p := by
  obtain ⟨h1, h2, h3, h4, h5, h6, h7, h8⟩ := h
  simp [mir, h1, h2, h3, h4, h5, h6, h7, h8, hp]
theorem mir_no (p : Int) (h : Not8 p) (hp : isPt p = false) : mir p = 0 := by
  obtain ⟨h1, h2, h3, h4, h5, h6, h7, h8⟩ := h
  simp [mir, h1, h2, h3, h4, h5, h6, h7, h8, hp]
theorem hide {p : Prop} (h : p) : Hid p := h
theorem unhide {p : Prop} (h : Hid p) : p := h
theorem ret_int {k : IntKind} {a b : Int} (h : a = b) : Ending.returned (.int k a) = .returned (.int k b) := by rw [h]
theorem mirI_at (p : Int) (w : World) (h : ¬ Not8 p) : Calls Try.prog 8 #[.int .i64 p] w fun e w' => e = .returned (.int .i64 (mir p)) ∧ w' = w := by
  have h' : p = 40 ∨ p = 41 ∨ p = 60 ∨ p = 62 ∨ p = 91 ∨ p = 93 ∨ p = 123 ∨ p = 125 := by unfold Not8 at h; omega
  clear h
  rcases h' with rfl | rfl | rfl | rfl | rfl | rfl | rfl | rfl
  all_goals
    go_enter Try.func8, Try.ntmps8
    go_wp2
    go_ret
    exact ⟨ret_int (by decide), rfl⟩
theorem mirI (p : Int) (w : World) : Calls Try.prog 8 #[.int .i64 p] w fun e w' => e = .returned (.int .i64 (mir p)) ∧ w' = w := by
  by_cases h : Not8 p
  · have H := hide h
    obtain ⟨h1, h2, h3, h4, h5, h6, h7, h8⟩ := h
    have e0 : (p == 40) = false := by simp; omega
    have e1 : (p == 41) = false := by simp; omega
    have e2 : (p == 60) = false := by simp; omega
    have e3 : (p == 62) = false := by simp; omega
    have e4 : (p == 91) = false := by simp; omega
    have e5 : (p == 93) = false := by simp; omega
    have e6 : (p == 123) = false := by simp; omega
    have e7 : (p == 125) = false := by simp; omega
    clear h1 h2 h3 h4 h5 h6 h7 h8
    cases hp : isPt p
    · go_enter Try.func8, Try.ntmps8
      go_wp2_with (go_at_call 11; refine (isPointI p _).mono ?_; rintro e w' ⟨rfl, rfl⟩)
      go_ret
      exact ⟨ret_int (mir_no p (unhide H) hp).symm, rfl⟩
    · go_enter Try.func8, Try.ntmps8
      go_wp2_with (go_at_call 11; refine (isPointI p _).mono ?_; rintro e w' ⟨rfl, rfl⟩)
      go_ret
      exact ⟨ret_int (mir_pt p (unhide H) hp).symm, rfl⟩
  · exact mirI_at p w h
theorem w64 (n : Nat) (h : n < 256) : wrap64 (n : Int) = n := by unfold wrap64; omega
theorem fr0 : ∀ h, wrap64 (((({ data := #[40, 41, 60, 62, 91, 93, 123, 125] } : ByteArray)[0]'h).toNat : Nat) : Int) = 40 := fun _ => by rw [w64 _ (UInt8.toNat_lt _)]; rfl
theorem to0 : ∀ h, wrap64 (((({ data := #[41, 40, 62, 60, 93, 91, 125, 123] } : ByteArray)[0]'h).toNat : Nat) : Int) = 41 := fun _ => by rw [w64 _ (UInt8.toNat_lt _)]; rfl
theorem fr1 : ∀ h, wrap64 (((({ data := #[40, 41, 60, 62, 91, 93, 123, 125] } : ByteArray)[1]'h).toNat : Nat) : Int) = 41 := fun _ => by rw [w64 _ (UInt8.toNat_lt _)]; rfl
theorem to1 : ∀ h, wrap64 (((({ data := #[41, 40, 62, 60, 93, 91, 125, 123] } : ByteArray)[1]'h).toNat : Nat) : Int) = 40 := fun _ => by rw [w64 _ (UInt8.toNat_lt _)]; rfl
theorem fr2 : ∀ h, wrap64 (((({ data := #[40, 41, 60, 62, 91, 93, 123, 125] } : ByteArray)[2]'h).toNat : Nat) : Int) = 60 := fun _ => by rw [w64 _ (UInt8.toNat_lt _)]; rfl
theorem to2 : ∀ h, wrap64 (((({ data := #[41, 40, 62, 60, 93, 91, 125, 123] } : ByteArray)[2]'h).toNat : Nat) : Int) = 62 := fun _ => by rw [w64 _ (UInt8.toNat_lt _)]; rfl
theorem fr3 : ∀ h, wrap64 (((({ data := #[40, 41, 60, 62, 91, 93, 123, 125] } : ByteArray)[3]'h).toNat : Nat) : Int) = 62 := fun _ => by rw [w64 _ (UInt8.toNat_lt _)]; rfl
theorem to3 : ∀ h, wrap64 (((({ data := #[41, 40, 62, 60, 93, 91, 125, 123] } : ByteArray)[3]'h).toNat : Nat) : Int) = 60 := fun _ => by rw [w64 _ (UInt8.toNat_lt _)]; rfl
theorem fr4 : ∀ h, wrap64 (((({ data := #[40, 41, 60, 62, 91, 93, 123, 125] } : ByteArray)[4]'h).toNat : Nat) : Int) = 91 := fun _ => by rw [w64 _ (UInt8.toNat_lt _)]; rfl
theorem to4 : ∀ h, wrap64 (((({ data := #[41, 40, 62, 60, 93, 91, 125, 123] } : ByteArray)[4]'h).toNat : Nat) : Int) = 93 := fun _ => by rw [w64 _ (UInt8.toNat_lt _)]; rfl
theorem fr5 : ∀ h, wrap64 (((({ data := #[40, 41, 60, 62, 91, 93, 123, 125] } : ByteArray)[5]'h).toNat : Nat) : Int) = 93 := fun _ => by rw [w64 _ (UInt8.toNat_lt _)]; rfl
theorem to5 : ∀ h, wrap64 (((({ data := #[41, 40, 62, 60, 93, 91, 125, 123] } : ByteArray)[5]'h).toNat : Nat) : Int) = 91 := fun _ => by rw [w64 _ (UInt8.toNat_lt _)]; rfl
theorem fr6 : ∀ h, wrap64 (((({ data := #[40, 41, 60, 62, 91, 93, 123, 125] } : ByteArray)[6]'h).toNat : Nat) : Int) = 123 := fun _ => by rw [w64 _ (UInt8.toNat_lt _)]; rfl
theorem to6 : ∀ h, wrap64 (((({ data := #[41, 40, 62, 60, 93, 91, 125, 123] } : ByteArray)[6]'h).toNat : Nat) : Int) = 125 := fun _ => by rw [w64 _ (UInt8.toNat_lt _)]; rfl
theorem fr7 : ∀ h, wrap64 (((({ data := #[40, 41, 60, 62, 91, 93, 123, 125] } : ByteArray)[7]'h).toNat : Nat) : Int) = 125 := fun _ => by rw [w64 _ (UInt8.toNat_lt _)]; rfl
theorem to7 : ∀ h, wrap64 (((({ data := #[41, 40, 62, 60, 93, 91, 125, 123] } : ByteArray)[7]'h).toNat : Nat) : Int) = 123 := fun _ => by rw [w64 _ (UInt8.toNat_lt _)]; rfl
def Not (p : Int) : Nat → Prop
  | 0 => True
  | 1 => p ≠ 40
  | 2 => p ≠ 40 ∧ p ≠ 41
  | 3 => p ≠ 40 ∧ p ≠ 41 ∧ p ≠ 60
  | 4 => p ≠ 40 ∧ p ≠ 41 ∧ p ≠ 60 ∧ p ≠ 62
  | 5 => p ≠ 40 ∧ p ≠ 41 ∧ p ≠ 60 ∧ p ≠ 62 ∧ p ≠ 91
  | 6 => p ≠ 40 ∧ p ≠ 41 ∧ p ≠ 60 ∧ p ≠ 62 ∧ p ≠ 91 ∧ p ≠ 93
  | 7 => p ≠ 40 ∧ p ≠ 41 ∧ p ≠ 60 ∧ p ≠ 62 ∧ p ≠ 91 ∧ p ≠ 93 ∧ p ≠ 123
  | 8 => p ≠ 40 ∧ p ≠ 41 ∧ p ≠ 60 ∧ p ≠ 62 ∧ p ≠ 91 ∧ p ≠ 93 ∧ p ≠ 123 ∧ p ≠ 125
  | _ => False
set_option maxHeartbeats 1000000 in
theorem mirS (p : Int) (w : World) : Calls Try.prog 7 #[.int .i64 p] w fun e w' => e = .returned (.int .i64 (mir p)) ∧ w' = w := by
  go_enter Try.func7, Try.ntmps7
  go_wp2
  go_loop [5] (fun i => ∃ k : Nat, k ≤ 8 ∧ i = .int .i64 k ∧ Hid (Not p k)) (fun i => 8 - (intOf i).toNat)
  case atStart => exact ⟨0, by omega, rfl, hide trivial⟩
  case round =>
    obtain ⟨k, hk, rfl, H⟩ := hrel
    obtain rfl | rfl | rfl | rfl | rfl | rfl | rfl | rfl | rfl : k = 0 ∨ k = 1 ∨ k = 2 ∨ k = 3 ∨ k = 4 ∨ k = 5 ∨ k = 6 ∨ k = 7 ∨ k = 8 := by omega
    · have cf := fr0
      have ct := to0
      by_cases hp : p = 40
      · subst hp
        go_wp2
        go_ret
        exact ⟨ret_int (by decide), rfl⟩
      · have e : (p == 40) = false := by simp; omega
        have H' : Hid (Not p 1) := hide (by have := unhide H; simp only [Not] at this ⊢; omega)
        clear H hp
        go_wp2
        go_round
        case rel => exact ⟨1, by omega, by go_num, H'⟩
        case measure => simp [intOf]
    · have cf := fr1
      have ct := to1
      by_cases hp : p = 41
      · subst hp
        go_wp2
        go_ret
        exact ⟨ret_int (by decide), rfl⟩
      · have e : (p == 41) = false := by simp; omega
        have H' : Hid (Not p 2) := hide (by have := unhide H; simp only [Not] at this ⊢; omega)
        clear H hp
        go_wp2
        go_round
        case rel => exact ⟨2, by omega, by go_num, H'⟩
        case measure => simp [intOf]
    · have cf := fr2
      have ct := to2
      by_cases hp : p = 60
      · subst hp
        go_wp2
        go_ret
        exact ⟨ret_int (by decide), rfl⟩
      · have e : (p == 60) = false := by simp; omega
        have H' : Hid (Not p 3) := hide (by have := unhide H; simp only [Not] at this ⊢; omega)
        clear H hp
        go_wp2
        go_round
        case rel => exact ⟨3, by omega, by go_num, H'⟩
        case measure => simp [intOf]
    · have cf := fr3
      have ct := to3
      by_cases hp : p = 62
      · subst hp
        go_wp2
        go_ret
        exact ⟨ret_int (by decide), rfl⟩
      · have e : (p == 62) = false := by simp; omega
        have H' : Hid (Not p 4) := hide (by have := unhide H; simp only [Not] at this ⊢; omega)
        clear H hp
        go_wp2
        go_round
        case rel => exact ⟨4, by omega, by go_num, H'⟩
        case measure => simp [intOf]
    · have cf := fr4
      have ct := to4
      by_cases hp : p = 91
      · subst hp
        go_wp2
        go_ret
        exact ⟨ret_int (by decide), rfl⟩
      · have e : (p == 91) = false := by simp; omega
        have H' : Hid (Not p 5) := hide (by have := unhide H; simp only [Not] at this ⊢; omega)
        clear H hp
        go_wp2
        go_round
        case rel => exact ⟨5, by omega, by go_num, H'⟩
        case measure => simp [intOf]
    · have cf := fr5
      have ct := to5
      by_cases hp : p = 93
      · subst hp
        go_wp2
        go_ret
        exact ⟨ret_int (by decide), rfl⟩
      · have e : (p == 93) = false := by simp; omega
        have H' : Hid (Not p 6) := hide (by have := unhide H; simp only [Not] at this ⊢; omega)
        clear H hp
        go_wp2
        go_round
        case rel => exact ⟨6, by omega, by go_num, H'⟩
        case measure => simp [intOf]
    · have cf := fr6
      have ct := to6
      by_cases hp : p = 123
      · subst hp
        go_wp2
        go_ret
        exact ⟨ret_int (by decide), rfl⟩
      · have e : (p == 123) = false := by simp; omega
        have H' : Hid (Not p 7) := hide (by have := unhide H; simp only [Not] at this ⊢; omega)
        clear H hp
        go_wp2
        go_round
        case rel => exact ⟨7, by omega, by go_num, H'⟩
        case measure => simp [intOf]
    · have cf := fr7
      have ct := to7
      by_cases hp : p = 125
      · subst hp
        go_wp2
        go_ret
        exact ⟨ret_int (by decide), rfl⟩
      · have e : (p == 125) = false := by simp; omega
        have H' : Hid (Not p 8) := hide (by have := unhide H; simp only [Not] at this ⊢; omega)
        clear H hp
        go_wp2
        go_round
        case rel => exact ⟨8, by omega, by go_num, H'⟩
        case measure => simp [intOf]
    · have H8 : Not8 p := unhide H
      have HH := hide H8
      clear H8 H
      cases hp : isPt p
      · go_wp2_with (go_at_call 10; refine (isPointS p _).mono ?_; rintro e w' ⟨rfl, rfl⟩)
        go_ret
        exact ⟨ret_int (mir_no p (unhide HH) hp).symm, rfl⟩
      · go_wp2_with (go_at_call 10; refine (isPointS p _).mono ?_; rintro e w' ⟨rfl, rfl⟩)
        go_ret
        exact ⟨ret_int (mir_pt p (unhide HH) hp).symm, rfl⟩

theorem walk (a0 : Int) (w0 : (Lit.int .i64 a0).wf = true) (w : World) :
    Calls Try.prog 4 #[.int .i64 a0] w fun e w' => e = .returned (.bool true) ∧ Grown w w' := by
  go_enter Try.func4, Try.ntmps4
  go_wp2_with (first | (go_at_call 7; refine (mirS a0 _).mono ?_; rintro e w' ⟨rfl, rfl⟩) | (go_at_call 8; refine (mirI a0 _).mono ?_; rintro e w' ⟨rfl, rfl⟩))
  go_ret
  exact ⟨rfl, by repeat (first | exact Grown.refl _ | apply Grown.drew | apply Grown.alloc)⟩

/-! ### THE ROW's STEP: WRITTEN OUT: LEAVE IT -/
set_option maxRecDepth 100000 in
theorem lifted (os : Os) (started : os.Started) (H : Type) (enc : TypeId × Value → H) :
    ReturnsInHanded {} Try.checked os 4 .any (Rows.fnExactMirrorOfSpec.pre6 enc Try.prog Try.f4 Rows.fnExactMirrorOfRow.domain false) (Rows.fnExactMirrorOfSpec.post enc Try.prog Try.f4 false true false false) := by
  refine returnsInHanded_of_change (C := Try.checked) own started (by kernel_rfl) Try.func4
    (ChangeSpec.witness6 (enc := enc) (C := Try.checked) false ⟨#[], #[.int .i64 0], []⟩ 8 (by kernel_rfl) (by kernel_rfl) (by kernel_rfl) (by kernel_rfl)) ?_
  intro W base args ds gs before hval0 hW hcnd _
  have hval : ∀ (j : Nat) t v, Try.f4.params[j]? = some t → args[j]? = some v → Value.okWide Try.prog W .any base t v := hval0
  have hW' := hW
  obtain ⟨p, q, hA0, hV, rfl, hfz, hnd⟩ := hW
  have hA : DataW.TrodAll enc Try.prog W 0 (fun _ => true) true Try.f4.params.toList args.toList ds p := hA0
  rw [Try.params4] at hA hval
  obtain ⟨v0, vs0, d0, ds0, p0, q0, hargs, rfl, rfl, h0, r0⟩ := trodAll_cons hA
  obtain ⟨rfl, rfl, rfl⟩ := trodAll_nil r0
  obtain rfl : args = #[v0] := by cases args; simp_all
  obtain ⟨rfl, rfl⟩ := trodVars_none hV
  obtain ⟨a0, rfl, rfl, rfl, w0⟩ := open_int Try.underlying2 (hval 0 2 v0 rfl rfl) h0
  clear hA0 hval0
  simp only [List.append_nil] at hW'
  refine (walk a0 w0 W).mono fun e W' ⟨he, hg⟩ => ?_
  subst he
  exact ⟨_, rfl, post_of_same (pa := []) (pv := []) hW' (fun _ _ _ => (trodAll_cons_mk (shut_bool Try.underlying4 _) trodAll_mk0)) (fun sp _ => (trodAll_cons_mk (shut_int Try.underlying2 w0) trodAll_mk0)) (fun _ _ => rfl) rfl
    (hg.frame _) hg.2.1 (ok_one (by kernel_rfl) rfl (okWide_bool_mk Try.underlying4 _))⟩

theorem over : Rows.fnExactMirrorOfRow.holds Try.pinned (OpenSpec.ofChange Rows.fnExactMirrorOfSpec) :=
  OpenClaim.holds_of_wide 4 Try.f4 rfl rfl rfl rfl rfl rfl rfl ⟨rfl, rfl, rfl, rfl, rfl⟩ rfl rfl rfl rfl rfl (by kernel_rfl) Try.func4 (by kernel_rfl)
    (of_decide_eq_true (by kernel_rfl)) (by unfold Func.isWrapper; first | (rw [if_pos (by decide +kernel)]; kernel_rfl) | (rw [if_neg (by decide +kernel)]; exact ⟨rfl, rfl⟩))
    (fun os started H enc _ => lifted os started H enc)

/-- ████ THE STATEMENT ████ -/
theorem proved : Rows.FnExactMirrorOfSaid :=
  over
end Go.Proofs.Ytopifpgkagcfbal.fnExactMirrorOf
namespace Go.Proofs.Ytopifpgkagcfbal
theorem fnExactMirrorOf_holds : Rows.FnExactMirrorOfSaid := fnExactMirrorOf.proved
#print axioms fnExactMirrorOf_holds
end Go.Proofs.Ytopifpgkagcfbal
