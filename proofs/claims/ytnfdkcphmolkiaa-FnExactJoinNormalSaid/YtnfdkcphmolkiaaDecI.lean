/- Decompose of the program. -/
import Derived.Test.YtnfdkcphmolkiaaHndS
namespace Go.Proofs.Ytnfdkcphmolkiaa
open Go.RowKit Go.Shelf
/-- A point. -/
def isP (p : Int) : Bool := decide (0 ≤ p ∧ p ≤ 1114111 ∧ (p < 55296 ∨ 57343 < p))
def isF (f : Int) : Bool := decide (1 ≤ f ∧ f ≤ 4)
def isK (f : Int) : Bool := decide (f = 3 ∨ f = 4)
/-- What Decompose answers. -/
def decL (p form : Int) : List Int := if isP p = true ∧ isF form = true then allF (isK form) 2 p else []
theorem isPointD (p : Int) (w : World) : Calls Try.prog 63 #[.int .i64 p] w fun e w' => e = .returned (.bool (isP p)) ∧ w' = w := by
  by_cases h1 : 0 ≤ p
  · by_cases h2 : p ≤ 1114111
    · by_cases h3 : p < 55296
      · have HP : Hid (isP p = true) := hide (decide_eq_true (by omega))
        go_enter Try.func63, Try.ntmps63
        go_wp2
        go_ret
        exact ⟨ret_bool (unhide HP).symm, rfl⟩
      · by_cases h4 : 57343 < p
        · have HP : Hid (isP p = true) := hide (decide_eq_true (by omega))
          go_enter Try.func63, Try.ntmps63
          go_wp2
          go_ret
          exact ⟨ret_bool (unhide HP).symm, rfl⟩
        · have HP : Hid (isP p = false) := hide (decide_eq_false (by omega))
          go_enter Try.func63, Try.ntmps63
          go_wp2
          go_ret
          exact ⟨ret_bool (unhide HP).symm, rfl⟩
    · have HP : Hid (isP p = false) := hide (decide_eq_false (by omega))
      go_enter Try.func63, Try.ntmps63
      go_wp2
      go_ret
      exact ⟨ret_bool (unhide HP).symm, rfl⟩
  · have HP : Hid (isP p = false) := hide (decide_eq_false (by omega))
    go_enter Try.func63, Try.ntmps63
    go_wp2
    go_ret
    exact ⟨ret_bool (unhide HP).symm, rfl⟩
theorem isFormI (f : Int) (w : World) : Calls Try.prog 64 #[.int .i64 f] w fun e w' => e = .returned (.bool (isF f)) ∧ w' = w := by
  by_cases h1 : 1 ≤ f
  · by_cases h2 : f ≤ 4
    · have HP : Hid (isF f = true) := hide (decide_eq_true (by omega))
      go_enter Try.func64, Try.ntmps64
      go_wp2
      go_ret
      exact ⟨ret_bool (unhide HP).symm, rfl⟩
    · have HP : Hid (isF f = false) := hide (decide_eq_false (by omega))
      go_enter Try.func64, Try.ntmps64
      go_wp2
      go_ret
      exact ⟨ret_bool (unhide HP).symm, rfl⟩
  · have HP : Hid (isF f = false) := hide (decide_eq_false (by omega))
    go_enter Try.func64, Try.ntmps64
    go_wp2
    go_ret
    exact ⟨ret_bool (unhide HP).symm, rfl⟩
theorem collectI (form p : Int) (w : World) (b1 b2 : Nat) (l1 : b1 < w.heap.size) (l2 : b2 < w.heap.size)
    (h1 : w.cell? ⟨b1, 0, none⟩ = some (.int .i64 form)) (h2 : w.cell? ⟨b2, 0, none⟩ = some (.int .i64 p)) :
    Calls Try.prog 65 #[.func (.func 87) #[] #[.pointer (some ⟨b1, 0, none⟩), .pointer (some ⟨b2, 0, none⟩)]] w fun e W' => NewRow w W' e (allF (isK form) 2 p) := by
  have AS := callsIn_wide.1 (appendSeq_in form p (isK form) (by simp [isK]) b1 b2 w l1 l2 h1 h2)
  clear h1 h2
  go_enter Try.func65, Try.ntmps65
  go_wp2_with (go_at_call 86; refine AS.mono ?_; rintro e w2 ⟨v, rfl, ho, hb2⟩)
  go_ret
  exact ⟨v, rfl, ho, hb2⟩
theorem form_ownI {w : World} {B n : Nat} {v : Value} {xs : List Value} (h : w.ownsRow B 2 1 v n xs) : ∃ a cap, v = .slice a n cap := by
  rcases h.2 with ⟨rfl, rfl⟩ | ⟨g, cap, cur, rfl, _⟩
  · exact ⟨_, _, rfl⟩
  · exact ⟨_, _, rfl⟩
theorem newRow_from {w w0 w' : World} {e : Ending} {l : List Int} (h : NewRow w0 w' e l) (hb : Below w.heap.size w w0) : NewRow w w' e l := by
  obtain ⟨v, he, ho, hb2⟩ := h
  have hs := hb.size
  refine ⟨v, he, ⟨ho.1, ?_⟩, hb.trans (hb2.mono hs)⟩
  rcases ho.2 with h' | ⟨g, cap, cur, hv, hg, r⟩
  · exact .inl h'
  · exact .inr ⟨g, cap, cur, hv, Nat.le_trans hs hg, r⟩
theorem implDec (p form : Int) (w : World) : Calls Try.prog 30 #[.int .i64 p, .int .i64 form] w fun e w' => NewRow w w' e (decL p form) := by
  by_cases hp : isP p = true
  · by_cases hf : isF form = true
    · have HD : Hid (decL p form = allF (isK form) 2 p) := hide (if_pos ⟨hp, hf⟩)
      have HC := hide (fun (W : World) (b1 b2 : Nat) => collectI form p W b1 b2)
      have HI := hide (fun W => isPointD p W)
      have HF := hide (fun W => isFormI form W)
      rw [hp] at HI
      rw [hf] at HF
      clear hp hf
      go_enter Try.func30, Try.ntmps30
      go_wp2_with (first | (go_at_call 63; refine ((unhide HI) _).mono ?_; rintro e w1 ⟨rfl, rfl⟩) | (go_at_call 64; refine ((unhide HF) _).mono ?_; rintro e w1 ⟨rfl, rfl⟩) | (go_at_call 66; refine (last_any _ _ _).mono ?_; rintro e w1 ⟨rfl, rfl⟩) | (go_at_call 65; refine ((unhide HC) _ _ _ ?k1 ?k2 ?k3 ?k4).mono ?_))
      case k1 => simp; omega
      case k2 => simp
      case k3 => simp
      case k4 => simp
      rintro e w2 hnr
      obtain ⟨v, rfl, ho, hb2⟩ := newRow_from hnr (two_below _ _ _)
      clear hnr
      go_wp2
      go_ret
      rw [unhide HD]
      exact ⟨v, rfl, ho, hb2⟩
    · have HD : Hid (decL p form = []) := hide (if_neg (fun h => hf h.2))
      have HI := hide (fun W => isPointD p W)
      have HF := hide (fun W => isFormI form W)
      rw [hp] at HI
      have hf' : isF form = false := by simpa using hf
      rw [hf'] at HF
      clear hp hf hf'
      go_enter Try.func30, Try.ntmps30
      go_wp2_with (first | (go_at_call 63; refine ((unhide HI) _).mono ?_; rintro e w1 ⟨rfl, rfl⟩) | (go_at_call 64; refine ((unhide HF) _).mono ?_; rintro e w1 ⟨rfl, rfl⟩))
      go_ret
      rw [unhide HD]
      exact ⟨_, rfl, World.ownsRow_nil _ _ _ _, Below.refl _ _⟩
  · have HD : Hid (decL p form = []) := hide (if_neg (fun h => hp h.1))
    have HI := hide (fun W => isPointD p W)
    have hp' : isP p = false := by simpa using hp
    rw [hp'] at HI
    clear hp hp'
    go_enter Try.func30, Try.ntmps30
    go_wp2_with (go_at_call 63; refine ((unhide HI) _).mono ?_; rintro e w1 ⟨rfl, rfl⟩)
    go_ret
    rw [unhide HD]
    exact ⟨_, rfl, World.ownsRow_nil _ _ _ _, Below.refl _ _⟩
end Go.Proofs.Ytnfdkcphmolkiaa
