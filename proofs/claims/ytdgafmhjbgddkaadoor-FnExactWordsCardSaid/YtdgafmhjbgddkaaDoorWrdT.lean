/- What belongs to the point ahead, and a joint between two points, as the specification tells them. -/
import Derived.Test.YtdgafmhjbgddkaaDoorWrdS
import Derived.Test.YtdgafmhjbgddkaaDoorChsI
namespace Go.Proofs.YtdgafmhjbgddkaaDoor
namespace Wrd
open Go.RowKit
open Chr (cat ctl mrk sCat sControl sMark)
set_option maxRecDepth 100000 in
set_option maxHeartbeats 4000000 in
theorem sBelongs (p a : Int) (w : World) : Calls Tryd.prog 33 #[.int .i64 p, .int .i64 a] w fun e w' => e = .returned (.bool (blg p a)) ∧ Below w.heap.size w w' := by
  have CM := hide (sMark p w)
  have CP := hide (fun W => sCat p W)
  have CA := hide (fun W => sCat a W)
  have CC := hide (fun W => sControl a W)
  have HE : Hid (blg p a = ((mrk p || (cat p == 11 && !(p == 7954) && !(p == 173))) && (!ctl a && !(cat a == 2)))) := hide rfl
  generalize blg p a = D at *
  generalize mrk p = m at *
  generalize ctl a = k at *
  generalize cat p = c at *
  generalize cat a = ca at *
  have hn2 : (ca != 2) = !(ca == 2) := rfl
  cases m
  · cases h11 : (c == 11)
    · have n11 : (c != 11) = true := by simp [bne, h11]
      rw [h11] at HE
      go_enter Tryd.func33, Tryd.ntmps33
      go_wp2_with (first | (go_at_call 48; refine (unhide CM).mono ?_; rintro e w2 ⟨rfl, hb2⟩; have B := hide hb2; clear hb2) | (go_at_call_of 42 p; refine ((unhide CP) _).mono ?_; rintro e w3 ⟨rfl, hb3⟩; replace B := hide (jn (unhide B) hb3); clear hb3))
      go_ret
      exact ⟨by rw [unhide HE]; rfl, unhide B⟩
    · have n11 : (c != 11) = false := by simp [bne, h11]
      rw [h11] at HE
      cases h1 : (p == 7954) <;> cases h2 : (p == 173)
      case false.false =>
        rw [h1, h2] at HE
        cases k
        all_goals
          go_enter Tryd.func33, Tryd.ntmps33
          go_wp2_with (first | (go_at_call 48; refine (unhide CM).mono ?_; rintro e w2 ⟨rfl, hb2⟩; have B := hide hb2; clear hb2) | (go_at_call_of 42 p; refine ((unhide CP) _).mono ?_; rintro e w3 ⟨rfl, hb3⟩; replace B := hide (jn (unhide B) hb3); clear hb3) | (go_at_call 49; refine ((unhide CC) _).mono ?_; rintro e w4 ⟨rfl, hb4⟩; replace B := hide (jn (unhide B) hb4); clear hb4) | (go_at_call_of 42 a; refine ((unhide CA) _).mono ?_; rintro e w5 ⟨rfl, hb5⟩; replace B := hide (jn (unhide B) hb5); clear hb5))
          go_ret
          exact ⟨by rw [unhide HE]; rfl, unhide B⟩
      all_goals
        rw [h1, h2] at HE
        go_enter Tryd.func33, Tryd.ntmps33
        go_wp2_with (first | (go_at_call 48; refine (unhide CM).mono ?_; rintro e w2 ⟨rfl, hb2⟩; have B := hide hb2; clear hb2) | (go_at_call_of 42 p; refine ((unhide CP) _).mono ?_; rintro e w3 ⟨rfl, hb3⟩; replace B := hide (jn (unhide B) hb3); clear hb3))
        go_ret
        exact ⟨by rw [unhide HE]; rfl, unhide B⟩
  · cases k
    all_goals
      go_enter Tryd.func33, Tryd.ntmps33
      go_wp2_with (first | (go_at_call 48; refine (unhide CM).mono ?_; rintro e w2 ⟨rfl, hb2⟩; have B := hide hb2; clear hb2) | (go_at_call 49; refine ((unhide CC) _).mono ?_; rintro e w4 ⟨rfl, hb4⟩; replace B := hide (jn (unhide B) hb4); clear hb4) | (go_at_call_of 42 a; refine ((unhide CA) _).mono ?_; rintro e w5 ⟨rfl, hb5⟩; replace B := hide (jn (unhide B) hb5); clear hb5))
      go_ret
      exact ⟨by rw [unhide HE]; rfl, unhide B⟩
/-- A joint at a place of a row. -/
def btw (L : List Int) (k : Nat) : Bool := if k = 0 ∨ L.length ≤ k + 1 then false else joi (nth L (k - 1)) (nth L k) (nth L (k + 1))
set_option maxRecDepth 100000 in
set_option maxHeartbeats 8000000 in
theorem sBetween (v : Value) (L : List Int) (k : Nat) (w : World) (hv : IntsAt w v L) (hk : k < L.length) (hL : L.length ≤ 1048576) :
    Calls Tryd.prog 55 #[v, .int .i64 (k : Int)] w fun e w' => e = .returned (.bool (btw L k)) ∧ Below w.heap.size w w' := by
  obtain ⟨b, off, cap, rfl, hbs, hc⟩ := ints_at hv (by omega)
  clear hv
  cases k with
  | zero =>
    have HR : Hid (btw L 0 = false) := hide rfl
    go_enter Tryd.func55, Tryd.ntmps55
    go_wp2
    go_ret
    exact ⟨by rw [unhide HR]; rfl, Below.refl _ _⟩
  | succ m =>
    have h1 : ¬ ((m : Int) + 1 < 1) := by omega
    have hw1 : IntKind.i64.wrap ((m : Int) + 1 + 1) = (m : Int) + 1 + 1 := wrapN (m + 1 + 1) (by omega)
    by_cases h2 : L.length ≤ m + 1 + 1
    · have HR : Hid (btw L (m + 1) = false) := hide (if_pos (.inr h2))
      have h2' : (L.length : Int) ≤ (m : Int) + 1 + 1 := by omega
      generalize btw L (m + 1) = D at *
      clear hc
      go_enter Tryd.func55, Tryd.ntmps55
      go_wp2
      go_ret
      exact ⟨by rw [unhide HR]; rfl, Below.refl _ _⟩
    · have HR : Hid (btw L (m + 1) = ((isJ (nth L (m + 1)) && (wcl (nth L m) == 1) && (wcl (nth L (m + 2)) == 1)) || (isP (nth L (m + 1)) && (wcl (nth L m) == 2) && (wcl (nth L (m + 2)) == 2)))) := hide (by
        unfold btw
        rw [if_neg (by omega), joi_eq]
        rfl)
      have h2' : ¬ ((L.length : Int) ≤ (m : Int) + 1 + 1) := by omega
      have hw0 : IntKind.i64.wrap (m : Int) = (m : Int) := wrapN m (by omega)
      have hs : (m : Int) + 1 - 1 = (m : Int) := by omega
      have i0 : (m : Int) < (L.length : Int) := by omega
      have i1 : (m : Int) + 1 < (L.length : Int) := by omega
      have i2 : (m : Int) + 1 + 1 < (L.length : Int) := by omega
      have p0 : (0 : Int) ≤ (m : Int) := by omega
      have p1 : (0 : Int) ≤ (m : Int) + 1 := by omega
      have p2 : (0 : Int) ≤ (m : Int) + 1 + 1 := by omega
      have t1 : ((m : Int) + 1).toNat = m + 1 := by omega
      have t2 : ((m : Int) + 1 + 1).toNat = m + 2 := by omega
      have c0 := hc m (by omega)
      have c1 := hc (m + 1) (by omega)
      have c2 := hc (m + 2) (by omega)
      generalize btw L (m + 1) = D at *
      generalize nth L m = x at *
      generalize nth L (m + 1) = y at *
      generalize nth L (m + 2) = z at *
      have CX := hide (fun W => sWord x W)
      have CZ := hide (fun W => sWord z W)
      have CJ := hide (fun W => sJoint y W)
      have CP := hide (fun W => sIsPoint2 y W)
      generalize wcl x = a at *
      generalize wcl z = d at *
      generalize isJ y = j at *
      generalize isP y = q at *
      clear hc
      cases j <;> cases q <;> cases a1 : (a == 1) <;> cases a2 : (a == 2) <;> cases d1 : (d == 1)
      all_goals
        rw [a1, a2, d1] at HR
        go_enter Tryd.func55, Tryd.ntmps55
        go_wp2_with (first | (go_at_call_of 27 x; refine ((unhide CX) _).mono ?_; rintro e w2 ⟨rfl, hb2⟩; have B := hide hb2; have k2 := (hb2.cell (p := ⟨b, off + (m + 2), none⟩) hbs).trans c2; have k1 := (hb2.cell (p := ⟨b, off + (m + 1), none⟩) hbs).trans c1; have z2 := Nat.lt_of_lt_of_le hbs hb2.size; clear hb2) | (go_at_call_of 27 z; refine ((unhide CZ) _).mono ?_; rintro e w3 ⟨rfl, hb3⟩; replace B := hide (jn (unhide B) hb3); have k3 := (hb3.cell (p := ⟨b, off + (m + 1), none⟩) z2).trans k1; clear hb3) | (go_at_call 79; refine ((unhide CJ) _).mono ?_; rintro e w4 ⟨rfl, rfl⟩) | (go_at_call 80; refine ((unhide CP) _).mono ?_; rintro e w5 ⟨rfl, rfl⟩))
        go_ret
        exact ⟨by rw [unhide HR]; rfl, unhide B⟩
end Wrd
end Go.Proofs.YtdgafmhjbgddkaaDoor
