/- HyphensOf: both sides, and the law. -/
import Derived.Test.YtgmpkapeemiecaaHypV
import Derived.Test.YtgmpkapeemiecaaHypZ
import Derived.Test.YtgmpkapeemiecaaStrD
namespace Go.Proofs.Ytgmpkapeemiecaa
namespace Hyp
open Go.RowKit
set_option linter.unusedVariables false
set_option linter.unusedSimpArgs false
theorem wrap_btH (s : ByteArray) (i : Nat) : ∀ h, wrap64 (((s[i]'h).toNat : Nat) : Int) = (bt s i : Int) := by
  intro h
  rw [bt_get s i h]
  have := bt_lt s i
  unfold wrap64; omega
theorem hy_congr {B C : List Int} (h : ∀ j, B.getD j 0 = C.getD j 0) : ∀ k, hy B k = hy C k
  | 0 => rfl
  | k + 1 => by rw [hy, hy, h, hy_congr h k]
/-- What HyphensOf tells. -/
def hyO (P : List ByteArray) (x : ByteArray) : List Int := if pf P = 0 ∧ x.size ≤ 65536 ∧ sm x = true then hy (bb (tx x) P P.length) (x.size - 4) else []
theorem hyO_len (P : List ByteArray) (x : ByteArray) : (hyO P x).length ≤ 65536 := by
  unfold hyO
  split
  · rename_i h
    exact Nat.le_trans (hy_len _ _) (by omega)
  · exact Nat.zero_le _
theorem pf_zero {P : List ByteArray} (h : pf P = 0) : P.length ≤ 1000 ∧ gd P P.length = true := by
  unfold pf at h
  split at h
  · cases h
  · split at h
    · exact ⟨by omega, by assumption⟩
    · cases h
theorem gd_right {P : List ByteArray} : ∀ n, gd P n = true → ∀ i, i < n → right (nthS P i) = true
  | 0, _, i, hi => absurd hi (by omega)
  | n + 1, h, i, hi => by
    rw [gd, Bool.and_eq_true, Bool.and_eq_true] at h
    by_cases e : i = n
    · subst e; exact h.2.1
    · exact gd_right n h.1 i (by omega)
theorem rowE (w : World) {l : List Int} (h : l = []) : (w.alloc (.cells #[] 2)).ownsRow w.heap.size 2 1 (.slice (some ⟨w.heap.size, 0, none⟩) 0 0) l.length (l.map (Value.int .i64)) := by
  subst h
  exact World.ownsRow_lit w #[] 0 (Nat.le_refl _) (by unfold maxLen; omega) rfl
theorem rowN (w : World) (B : Nat) {l : List Int} (h : l = []) : w.ownsRow B 2 1 (.slice none 0 0) l.length (l.map (Value.int .i64)) := by
  subst h
  exact ⟨rfl, .inl ⟨rfl, rfl⟩⟩
theorem newRow_on {w w0 w' : World} {e : Ending} {l : List Int} (h : NewRow w0 w' e l) (hb : Below w.heap.size w w0) : NewRow w w' e l := by
  obtain ⟨v, e1, ho, hb2⟩ := h
  exact ⟨v, e1, own_baseH ho hb.size, hb.trans (hb2.mono hb.size)⟩
set_option maxRecDepth 100000 in
set_option maxHeartbeats 2000000 in
theorem tooLongH (x : ByteArray) (w : World) : Calls Try.prog 26 #[.string x] w fun e w' => e = .returned (.bool (decide (65536 < x.size))) ∧ w' = w := by
  have e : decide ((65536 : Int) < (x.size : Int)) = decide (65536 < x.size) := decide_eq_decide.2 (by omega)
  go_enter Try.func26, Try.ntmps26
  go_wp2_with fail
  go_ret
  exact ⟨by first | (show Ending.returned (.bool (decide ((65536 : Int) < (x.size : Int)))) = _; rw [e]) | simp, rfl⟩
set_option maxRecDepth 100000 in
set_option maxHeartbeats 2000000 in
theorem smallS (c : Int) (h0 : 0 ≤ c) (h1 : c < 256) (w : World) : Calls Try.prog 24 #[.int .u8 c] w fun e w' => e = .returned (.bool (decide (97 ≤ c) && decide (c ≤ 122))) ∧ w' = w := by
  by_cases a : 97 ≤ c
  · by_cases b : c ≤ 122
    · have e : (decide (97 ≤ c) && decide (c ≤ 122)) = true := by simp [a, b]
      rw [e]
      clear e
      go_enter Try.func24, Try.ntmps24
      go_wp2
      go_ret
      exact ⟨rfl, rfl⟩
    · have e : (decide (97 ≤ c) && decide (c ≤ 122)) = false := by simp [b]
      rw [e]
      clear e
      go_enter Try.func24, Try.ntmps24
      go_wp2
      go_ret
      exact ⟨rfl, rfl⟩
  · have e : (decide (97 ≤ c) && decide (c ≤ 122)) = false := by simp [a]
    rw [e]
    clear e
    go_enter Try.func24, Try.ntmps24
    go_wp2
    go_ret
    exact ⟨rfl, rfl⟩
set_option maxRecDepth 100000 in
set_option maxHeartbeats 4000000 in
theorem specHyph (v : Value) (P : List ByteArray) (x : ByteArray) (w : World) (hv : StrsAt w v P) (hz : ∀ i, i < P.length → (nthS P i).size ≤ 1048576) (hl : P.length ≤ 1048576) (hx : x.size ≤ 1048576) :
    Calls Try.prog 11 #[v, .string x] w fun e w' => NewRow w w' e (hyO P x) := by
  by_cases hb : 65536 < x.size
  · have hbI : (65536 : Int) < (x.size : Int) := by omega
    have HR : Hid (hyO P x = []) := hide (if_neg (fun c => by omega))
    go_enter Try.func11, Try.ntmps11
    go_wp2_with fail
    go_ret
    exact ⟨_, rfl, rowE _ (unhide HR), al1 _ _⟩
  have hbI : ¬ (65536 : Int) < (x.size : Int) := by omega
  have FS := hide (faultS v P w hv hz hl)
  by_cases hp : pf P = 0
  · rw [hp] at FS
    have HV := hide hv
    have CS := hide (fun c h0 h1 W => smallS c h0 h1 W)
    obtain ⟨hP, hg⟩ := pf_zero hp
    have CL := hide (fun W (h : Below w.heap.size w W) => l22H v P x W (hv.below h) hz hP (gd_right _ hg) (by omega))
    have HP := hide hp
    clear hv hz hg hp hl
    go_enter Try.func11, Try.ntmps11
    go_wp2_with (go_at_call 7; refine (unhide FS).mono ?_; rintro e w1 ⟨rfl, hb1⟩)
    have B1 := hide hb1
    clear hb1 FS
    go_loopw [5] (fun v5 wr => ∃ i : Nat, i ≤ x.size ∧ v5 = .int .i64 (i : Int) ∧ Hid (smP x i) ∧ wr = w1) (fun u _ => x.size - (intOf u).toNat)
    case atStart => exact ⟨0, by omega, rfl, hide (fun i hi => absurd hi (by omega)), rfl⟩
    case round =>
      obtain ⟨i, hi, rfl, HS, hwr⟩ := hrel
      obtain rfl := hwr.symm
      clear hwr
      by_cases hlt : i < x.size
      · have hI : (i : Int) < (x.size : Int) := by omega
        have b0 : (0 : Int) ≤ (bt x i : Int) := by omega
        have b1 : (bt x i : Int) < 256 := by have := bt_lt x i; omega
        have CSi := hide (fun W => (unhide CS) (bt x i : Int) b0 b1 W)
        by_cases hs : 97 ≤ bt x i ∧ bt x i ≤ 122
        · have e : (decide ((97 : Int) ≤ (bt x i : Int)) && decide ((bt x i : Int) ≤ 122)) = true := by simp; omega
          rw [e] at CSi
          have HS2 := hide (smP_next (unhide HS) hs)
          clear e hs
          go_wp2_with (go_at_call 24; rw [bt_get x i hlt]; refine ((unhide CSi) _).mono ?_; rintro e w' ⟨rfl, hw⟩; obtain rfl := hw.symm; clear hw)
          go_roundw
          case rel => exact ⟨i + 1, by omega, by go_num, HS2, trivial⟩
          case measure => simp [intOf]; omega
        · have e : (decide ((97 : Int) ≤ (bt x i : Int)) && decide ((bt x i : Int) ≤ 122)) = false := by simp; omega
          rw [e] at CSi
          have HR : Hid (hyO P x = []) := hide (if_neg (fun c => by rw [sm_no hlt hs] at c; cases c.2.2))
          clear e hs
          go_wp2_with (go_at_call 24; rw [bt_get x i hlt]; refine ((unhide CSi) _).mono ?_; rintro e w' ⟨rfl, hw⟩; obtain rfl := hw.symm; clear hw)
          go_ret
          exact newRow_on ⟨_, rfl, rowE _ (unhide HR), al1 _ _⟩ (unhide B1)
      · obtain rfl : i = x.size := by omega
        have HR : Hid (hyO P x = hy (bb (tx x) P P.length) (x.size - 4)) := hide (if_pos ⟨unhide HP, by omega, sm_yes (unhide HS)⟩)
        rw [← unhide HR] at CL
        go_wp2_with (go_at_call 25; refine ((unhide CL) _ (unhide B1)).mono ?_; rintro e w2 ⟨sv, rfl, ho, hb2⟩)
        go_ret
        exact newRow_on ⟨_, rfl, ho, hb2⟩ (unhide B1)
  · have hp1 : pf P = 1 := by
      unfold pf at hp ⊢
      split
      · rfl
      · rw [if_neg (by assumption)] at hp
        split
        · rw [if_pos (by assumption)] at hp; exact absurd rfl hp
        · rfl
    have HR : Hid (hyO P x = []) := hide (if_neg (fun c => hp c.1))
    rw [hp1] at FS
    clear hv hz hp hp1
    go_enter Try.func11, Try.ntmps11
    go_wp2_with (go_at_call 7; refine (unhide FS).mono ?_; rintro e w1 ⟨rfl, hb1⟩)
    go_ret
    exact newRow_on ⟨_, rfl, rowE _ (unhide HR), al1 _ _⟩ hb1
set_option maxRecDepth 100000 in
set_option maxHeartbeats 4000000 in
theorem implHyph (v : Value) (P : List ByteArray) (x : ByteArray) (w : World) (hv : StrsAt w v P) (hz : ∀ i, i < P.length → (nthS P i).size ≤ 1048576) (hl : P.length ≤ 1048576) (hx : x.size ≤ 1048576) :
    Calls Try.prog 12 #[v, .string x] w fun e w' => NewRow w w' e (hyO P x) := by
  have CT := hide (treeI v P w hv hz hl)
  have TL := hide (fun W => tooLongH x W)
  have CC := hide (fun W => contI x hx W)
  clear hv hz hl
  by_cases hp : pf P = 0
  · have HP := hide hp
    rw [show (pf P == 0) = true by rw [hp]; rfl] at CT
    clear hp
    by_cases hb : 65536 < x.size
    · have HR : Hid (hyO P x = []) := hide (if_neg (fun c => by omega))
      rw [decide_eq_true hb] at TL
      clear hb
      go_enter Try.func12, Try.ntmps12
      go_wp2_with (first | (go_at_call 23; refine (unhide CT).mono ?_; rintro e w1 ⟨⟨p, rfl, hp⟩, hb1⟩; clear hp) | (go_at_call 26; refine ((unhide TL) _).mono ?_; rintro e w' ⟨rfl, hw⟩; obtain rfl := hw.symm; clear hw))
      go_ret
      exact ⟨_, rfl, rowN _ _ (unhide HR), hb1⟩
    · have hx2 : x.size ≤ 65536 := by omega
      rw [decide_eq_false hb] at TL
      cases hs : sm x
      · have HR : Hid (hyO P x = []) := hide (if_neg (fun c => by rw [hs] at c; cases c.2.2))
        rw [hs] at CC
        clear hs
        go_enter Try.func12, Try.ntmps12
        go_wp2_with (first | (go_at_call 23; refine (unhide CT).mono ?_; rintro e w1 ⟨⟨p, rfl, hp⟩, hb1⟩; clear hp) | (go_at_call 26; refine ((unhide TL) _).mono ?_; rintro e w' ⟨rfl, hw⟩; obtain rfl := hw.symm; clear hw) | (go_at_call 27; refine ((unhide CC) _).mono ?_; rintro e w2 ⟨rfl, hb2⟩))
        go_ret
        exact ⟨_, rfl, rowN _ _ (unhide HR), hb1.trans (hb2.mono hb1.size)⟩
      · have HR : Hid (hyO P x = hy (bb (tx x) P P.length) (x.size - 4)) := hide (if_pos ⟨unhide HP, hx2, hs⟩)
        have HE : Hid (∀ A : Mp, dgA A = dgs P P.length → hy (aa (dgA A) (tx x) (tx x).size) (x.size - 4) = hyO P x) := hide (fun A h => by
          rw [h, unhide HR]
          exact hy_congr (fun j => aa_bb (tx_letters hs) P P.length j) _)
        have CH := hide (fun (A : Mp) b0 B d0 W hT h0 hB hD => hyphI A b0 B d0 x W hT h0 hB hD hs hx2)
        rw [hs] at CC
        clear hs HR
        go_enter Try.func12, Try.ntmps12
        go_wp2_with (first | (go_at_call 23; refine (unhide CT).mono ?_; rintro e w1 ⟨⟨p, rfl, hp⟩, hb1⟩; obtain ⟨b0, A, d, rfl, hT, hA, hD⟩ := hp (unhide HP); have HT := hide hT; have HA := hide hA; have HD := hide hD; clear hp hT hA hD) | (go_at_call 26; refine ((unhide TL) _).mono ?_; rintro e w' ⟨rfl, hw⟩; obtain rfl := hw.symm; clear hw) | (go_at_call 27; refine ((unhide CC) _).mono ?_; rintro e w2 ⟨rfl, hb2⟩) | (go_at_call 29; refine ((unhide CH) A b0 w.heap.size d w2 ((unhide HT).below hb2) (unhide HA) (Nat.le_trans hb1.size hb2.size) (by rw [unhide HD]; exact dgs_len P P.length)).mono ?_; rw [(unhide HE) A (unhide HD)]; rintro e w3 ⟨sv, rfl, ho, hb3⟩))
        go_ret
        exact newRow_on ⟨_, rfl, ho, hb3⟩ (hb1.trans (hb2.mono hb1.size))
  · have HR : Hid (hyO P x = []) := hide (if_neg (fun c => hp c.1))
    rw [show (pf P == 0) = false by simpa using hp] at CT
    clear hp
    go_enter Try.func12, Try.ntmps12
    go_wp2_with (go_at_call 23; refine (unhide CT).mono ?_; rintro e w1 ⟨⟨p, rfl, hp⟩, hb1⟩; clear hp)
    go_ret
    exact ⟨_, rfl, rowN _ _ (unhide HR), hb1⟩
end Hyp
end Go.Proofs.Ytgmpkapeemiecaa
