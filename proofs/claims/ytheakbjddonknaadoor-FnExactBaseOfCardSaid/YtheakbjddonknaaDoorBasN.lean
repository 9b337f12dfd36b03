/- One of four signs. -/
import Derived.Test.YtheakbjddonknaaDoorBasP
import Derived.Test.YtheakbjddonknaaDoorChrS
namespace Go.Proofs.YtheakbjddonknaaDoor.Bs
open Go.RowKit Chr
set_option linter.unusedVariables false
def sep (p : Int) : Bool := p == 44 || p == 46 || p == 58 || p == 47
set_option maxRecDepth 100000 in
set_option maxHeartbeats 2000000 in
theorem in_sep_any (s : ByteArray) (hsz : s.size = 4) (b0 : ∀ h, wrap64 (((s[0]'h).toNat : Nat) : Int) = 44) (b1 : ∀ h, wrap64 (((s[1]'h).toNat : Nat) : Int) = 46) (b2 : ∀ h, wrap64 (((s[2]'h).toNat : Nat) : Int) = 58) (b3 : ∀ h, wrap64 (((s[3]'h).toNat : Nat) : Int) = 47) (p : Int) (w : World) : Calls Tryd.prog 21 #[.int .i64 p, .string s] w fun e w' => e = .returned (.bool (sep p)) ∧ w' = w := by
  have HR : Hid (sep p = (p == 44 || p == 46 || p == 58 || p == 47)) := hide rfl
  generalize sep p = D at *
  have hsi : ((s.size : Nat) : Int) = 4 := by rw [hsz]; rfl
  cases h0 : (p == 44)
  · cases h1 : (p == 46)
    · cases h2 : (p == 58)
      · cases h3 : (p == 47)
        · rw [h0, h1, h2, h3] at HR
          go_enter Tryd.func21, Tryd.ntmps21
          go_wp2
          refine wp_loop_rounds 5 ?_
          rw [rounds_succ]
          go_wp2
          rw [rounds_succ]
          go_wp2
          rw [rounds_succ]
          go_wp2
          rw [rounds_succ]
          go_wp2
          rw [rounds_succ]
          go_wp2
          go_ret
          exact ⟨by rw [unhide HR]; rfl, rfl⟩
        · rw [h0, h1, h2, h3] at HR
          go_enter Tryd.func21, Tryd.ntmps21
          go_wp2
          refine wp_loop_rounds 5 ?_
          rw [rounds_succ]
          go_wp2
          rw [rounds_succ]
          go_wp2
          rw [rounds_succ]
          go_wp2
          rw [rounds_succ]
          go_wp2
          go_ret
          exact ⟨by rw [unhide HR]; rfl, rfl⟩
      · rw [h0, h1, h2] at HR
        go_enter Tryd.func21, Tryd.ntmps21
        go_wp2
        refine wp_loop_rounds 5 ?_
        rw [rounds_succ]
        go_wp2
        rw [rounds_succ]
        go_wp2
        rw [rounds_succ]
        go_wp2
        go_ret
        exact ⟨by rw [unhide HR]; rfl, rfl⟩
    · rw [h0, h1] at HR
      go_enter Tryd.func21, Tryd.ntmps21
      go_wp2
      refine wp_loop_rounds 5 ?_
      rw [rounds_succ]
      go_wp2
      rw [rounds_succ]
      go_wp2
      go_ret
      exact ⟨by rw [unhide HR]; rfl, rfl⟩
  · rw [h0] at HR
    go_enter Tryd.func21, Tryd.ntmps21
    go_wp2
    refine wp_loop_rounds 5 ?_
    rw [rounds_succ]
    go_wp2
    go_ret
    exact ⟨by rw [unhide HR]; rfl, rfl⟩
theorem in_sep (p : Int) (w : World) : Calls Tryd.prog 21 #[.int .i64 p, .string ⟨#[44, 46, 58, 47]⟩] w fun e w' => e = .returned (.bool (sep p)) ∧ w' = w :=
  in_sep_any ⟨#[44, 46, 58, 47]⟩ rfl (fun _ => (by unfold wrap64; omega : wrap64 ((44 : Nat) : Int) = 44)) (fun _ => (by unfold wrap64; omega : wrap64 ((46 : Nat) : Int) = 46)) (fun _ => (by unfold wrap64; omega : wrap64 ((58 : Nat) : Int) = 58)) (fun _ => (by unfold wrap64; omega : wrap64 ((47 : Nat) : Int) = 47)) p w
end Go.Proofs.YtheakbjddonknaaDoor.Bs
