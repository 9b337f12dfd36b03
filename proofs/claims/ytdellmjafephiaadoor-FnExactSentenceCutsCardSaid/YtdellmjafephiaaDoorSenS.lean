/- Where a close ends, as the specification tells it. -/
import Derived.Test.YtdellmjafephiaaDoorSenJ
namespace Go.Proofs.YtdellmjafephiaaDoor
namespace Sen
open Go.RowKit
theorem cat_s (p : Int) (w : World) : Calls Tryd.prog 88 #[.int .i64 p] w fun e w' => e = .returned (.int .i64 (Chr.cat p)) ∧ Below w.heap.size w w' := specCat p w
def sgn (p : Int) : Bool := p == 46 || p == 33 || p == 63
def quo (p : Int) : Bool := p == 41 || p == 93 || p == 125 || p == 34 || p == 39
set_option maxRecDepth 100000 in
set_option maxHeartbeats 2000000 in
theorem in_sgn_any (s : ByteArray) (hsz : s.size = 3) (b0 : ∀ h, wrap64 (((s[0]'h).toNat : Nat) : Int) = 46) (b1 : ∀ h, wrap64 (((s[1]'h).toNat : Nat) : Int) = 33) (b2 : ∀ h, wrap64 (((s[2]'h).toNat : Nat) : Int) = 63) (p : Int) (w : World) : Calls Tryd.prog 63 #[.int .i64 p, .string s] w fun e w' => e = .returned (.bool (sgn p)) ∧ w' = w := by
  have HR : Hid (sgn p = (p == 46 || p == 33 || p == 63)) := hide rfl
  generalize sgn p = D at *
  have hsi : ((s.size : Nat) : Int) = 3 := by rw [hsz]; rfl
  cases h0 : (p == 46)
  · cases h1 : (p == 33)
    · cases h2 : (p == 63)
      · rw [h0, h1, h2] at HR
        go_enter Tryd.func63, Tryd.ntmps63
        go_wp2
        refine wp_loop_rounds 4 ?_
        rw [rounds_succ]
        go_wp2
        rw [rounds_succ]
        go_wp2
        rw [rounds_succ]
        go_wp2
        rw [rounds_succ]
        go_wp2
        go_ret
        exact ⟨by rw [unhide HR]; rfl, rfl⟩
      · rw [h0, h1, h2] at HR
        go_enter Tryd.func63, Tryd.ntmps63
        go_wp2
        refine wp_loop_rounds 4 ?_
        rw [rounds_succ]
        go_wp2
        rw [rounds_succ]
        go_wp2
        rw [rounds_succ]
        go_wp2
        go_ret
        exact ⟨by rw [unhide HR]; rfl, rfl⟩
    · rw [h0, h1] at HR
      go_enter Tryd.func63, Tryd.ntmps63
      go_wp2
      refine wp_loop_rounds 4 ?_
      rw [rounds_succ]
      go_wp2
      rw [rounds_succ]
      go_wp2
      go_ret
      exact ⟨by rw [unhide HR]; rfl, rfl⟩
  · rw [h0] at HR
    go_enter Tryd.func63, Tryd.ntmps63
    go_wp2
    refine wp_loop_rounds 4 ?_
    rw [rounds_succ]
    go_wp2
    go_ret
    exact ⟨by rw [unhide HR]; rfl, rfl⟩
theorem in_sgn (p : Int) (w : World) : Calls Tryd.prog 63 #[.int .i64 p, .string ⟨#[46, 33, 63]⟩] w fun e w' => e = .returned (.bool (sgn p)) ∧ w' = w :=
  in_sgn_any ⟨#[46, 33, 63]⟩ rfl (fun _ => (by unfold wrap64; omega : wrap64 ((46 : Nat) : Int) = 46)) (fun _ => (by unfold wrap64; omega : wrap64 ((33 : Nat) : Int) = 33)) (fun _ => (by unfold wrap64; omega : wrap64 ((63 : Nat) : Int) = 63)) p w
set_option maxRecDepth 100000 in
set_option maxHeartbeats 2000000 in
theorem in_quo_any (s : ByteArray) (hsz : s.size = 5) (b0 : ∀ h, wrap64 (((s[0]'h).toNat : Nat) : Int) = 41) (b1 : ∀ h, wrap64 (((s[1]'h).toNat : Nat) : Int) = 93) (b2 : ∀ h, wrap64 (((s[2]'h).toNat : Nat) : Int) = 125) (b3 : ∀ h, wrap64 (((s[3]'h).toNat : Nat) : Int) = 34) (b4 : ∀ h, wrap64 (((s[4]'h).toNat : Nat) : Int) = 39) (p : Int) (w : World) : Calls Tryd.prog 63 #[.int .i64 p, .string s] w fun e w' => e = .returned (.bool (quo p)) ∧ w' = w := by
  have HR : Hid (quo p = (p == 41 || p == 93 || p == 125 || p == 34 || p == 39)) := hide rfl
  generalize quo p = D at *
  have hsi : ((s.size : Nat) : Int) = 5 := by rw [hsz]; rfl
  cases h0 : (p == 41)
  · cases h1 : (p == 93)
    · cases h2 : (p == 125)
      · cases h3 : (p == 34)
        · cases h4 : (p == 39)
          · rw [h0, h1, h2, h3, h4] at HR
            go_enter Tryd.func63, Tryd.ntmps63
            go_wp2
            refine wp_loop_rounds 6 ?_
            rw [rounds_succ]
            go_wp2
            rw [rounds_succ]
            go_wp2
            rw [rounds_succ]
            go_wp2
            rw [rounds_succ]
            go_wp2
            rw [rounds_succ]
            go_wp2
            rw [rounds_succ]
            go_wp2
            go_ret
            exact ⟨by rw [unhide HR]; rfl, rfl⟩
          · rw [h0, h1, h2, h3, h4] at HR
            go_enter Tryd.func63, Tryd.ntmps63
            go_wp2
            refine wp_loop_rounds 6 ?_
            rw [rounds_succ]
            go_wp2
            rw [rounds_succ]
            go_wp2
            rw [rounds_succ]
            go_wp2
            rw [rounds_succ]
            go_wp2
            rw [rounds_succ]
            go_wp2
            go_ret
            exact ⟨by rw [unhide HR]; rfl, rfl⟩
        · rw [h0, h1, h2, h3] at HR
          go_enter Tryd.func63, Tryd.ntmps63
          go_wp2
          refine wp_loop_rounds 6 ?_
          rw [rounds_succ]
          go_wp2
          rw [rounds_succ]
          go_wp2
          rw [rounds_succ]
          go_wp2
          rw [rounds_succ]
          go_wp2
          go_ret
          exact ⟨by rw [unhide HR]; rfl, rfl⟩
      · rw [h0, h1, h2] at HR
        go_enter Tryd.func63, Tryd.ntmps63
        go_wp2
        refine wp_loop_rounds 6 ?_
        rw [rounds_succ]
        go_wp2
        rw [rounds_succ]
        go_wp2
        rw [rounds_succ]
        go_wp2
        go_ret
        exact ⟨by rw [unhide HR]; rfl, rfl⟩
    · rw [h0, h1] at HR
      go_enter Tryd.func63, Tryd.ntmps63
      go_wp2
      refine wp_loop_rounds 6 ?_
      rw [rounds_succ]
      go_wp2
      rw [rounds_succ]
      go_wp2
      go_ret
      exact ⟨by rw [unhide HR]; rfl, rfl⟩
  · rw [h0] at HR
    go_enter Tryd.func63, Tryd.ntmps63
    go_wp2
    refine wp_loop_rounds 6 ?_
    rw [rounds_succ]
    go_wp2
    go_ret
    exact ⟨by rw [unhide HR]; rfl, rfl⟩
theorem in_quo (p : Int) (w : World) : Calls Tryd.prog 63 #[.int .i64 p, .string ⟨#[41, 93, 125, 34, 39]⟩] w fun e w' => e = .returned (.bool (quo p)) ∧ w' = w :=
  in_quo_any ⟨#[41, 93, 125, 34, 39]⟩ rfl (fun _ => (by unfold wrap64; omega : wrap64 ((41 : Nat) : Int) = 41)) (fun _ => (by unfold wrap64; omega : wrap64 ((93 : Nat) : Int) = 93)) (fun _ => (by unfold wrap64; omega : wrap64 ((125 : Nat) : Int) = 125)) (fun _ => (by unfold wrap64; omega : wrap64 ((34 : Nat) : Int) = 34)) (fun _ => (by unfold wrap64; omega : wrap64 ((39 : Nat) : Int) = 39)) p w
end Sen
end Go.Proofs.YtdellmjafephiaaDoor
