/- Texts held against each other without case: the program's way and the specification's; the law of CaselessSame. -/
import Derived.Test.YtecbbifepbgmlaaDoorFolS
import Derived.Test.YtecbbifepbgmlaaDoorNrmI
import Derived.Test.YtecbbifepbgmlaaDoorEqvL
namespace Go.Proofs.YtecbbifepbgmlaaDoor
namespace Cas
open Go.RowKit
theorem parts_none {p : Int} (h : p < 8192 ∨ 23459 < p) : partsZ false p = [] := by
  unfold partsZ
  rw [if_neg (by omega), if_neg (by omega), if_neg (by omega), if_neg (by omega), if_neg (by omega), if_neg (by simp)]
/-- The second of two parts has none. -/
theorem parts_snd (p : Int) : partsZ false p = [] ∨ (∃ a, partsZ false p = [a]) ∨ ∃ a b, partsZ false p = [a, b] ∧ b < 8192 := by
  unfold partsZ
  split
  · exact .inr (.inr ⟨_, _, rfl, by omega⟩)
  split
  · exact .inr (.inr ⟨_, _, rfl, by omega⟩)
  split
  · exact .inr (.inr ⟨_, _, rfl, by omega⟩)
  split
  · exact .inr (.inl ⟨_, rfl⟩)
  split
  · split
    · exact .inr (.inr ⟨_, _, rfl, by omega⟩)
    · exact .inr (.inr ⟨_, _, rfl, by omega⟩)
  · exact .inl (by simp)
theorem allF_three (p : Int) : (allF false 2 p).length ≤ 3 := by
  rcases parts_snd p with e | ⟨a, e⟩ | ⟨a, b, e, hb⟩
  · rw [allF_none e]; simp
  · rw [allF_one e]
    have := (allF_len false 1 a).2
    omega
  · have h1 := (allF_len false 1 a).2
    have h2 : allF false 1 b = [b] := allF_none (parts_none (.inl hb)) 1
    have h3 : allF false 2 p = allF false 1 a ++ [b] := by
      show (if partsZ false p = [] then [p] else (partsZ false p).flatMap (allF false 1)) = _
      rw [e, if_neg (by simp)]
      simp [h2]
    rw [h3]
    simp
    omega
/-- What is read of some bytes has at most as many parts as bytes. -/
theorem len_dec {size pos b0 b1 b2 b3 p n : Nat} (hd : dec size pos b0 b1 b2 b3 = (p, n)) : (allF false 2 p).length ≤ n := by
  have one : ∀ q : Nat, (q < 8192 ∨ 23459 < q) → (allF false 2 q).length = 1 := fun q hq => by
    rw [allF_none (parts_none (by omega))]; rfl
  have bad : (allF false 2 (65533 : Nat)).length ≤ 1 := by rw [one 65533 (by omega)]; omega
  unfold dec at hd
  split at hd
  · injection hd with e1 e2
    subst e1
    subst e2
    rw [one b0 (by omega)]
    omega
  split at hd
  · split at hd
    · injection hd with e1 e2
      rw [← e2, ← e1, one _ (by omega)]
      omega
    · injection hd with e1 e2
      rw [← e2, ← e1]
      exact bad
  split at hd
  · split at hd
    · injection hd with e1 e2
      rw [← e2, ← e1]
      exact allF_three _
    · injection hd with e1 e2
      rw [← e2, ← e1]
      exact bad
  split at hd
  · split at hd
    · injection hd with e1 e2
      rw [← e2, ← e1]
      exact Nat.le_trans (allF_three _) (by omega)
    · injection hd with e1 e2
      rw [← e2, ← e1]
      exact bad
  · injection hd with e1 e2
    rw [← e2, ← e1]
    exact bad
theorem len_steps (s : ByteArray) : ∀ n, (nrmA false (steps s n).1).length ≤ (steps s n).2
  | 0 => Nat.le_refl _
  | n + 1 => by
    have ih := len_steps s n
    by_cases hs : (steps s n).2 < s.size
    · rw [steps_next s n hs]
      simp only
      have hd : dec s.size (steps s n).2 (bt s (steps s n).2) (bt s ((steps s n).2 + 1)) (bt s ((steps s n).2 + 2)) (bt s ((steps s n).2 + 3)) = (dP s (steps s n).2, dN s (steps s n).2) := (decode_dec s _).symm
      have h1 := len_dec hd
      have e : nrmA false [(dP s (steps s n).2 : Int)] = allF false 2 (dP s (steps s n).2) := by unfold nrmA; simp
      rw [show nrmA false ((steps s n).1 ++ [(dP s (steps s n).2 : Int)]) = nrmA false (steps s n).1 ++ nrmA false [(dP s (steps s n).2 : Int)] from List.flatMap_append, List.length_append, e]
      omega
    · have e : steps s (n + 1) = steps s n := by
        show (if (steps s n).2 < s.size then _ else _) = _
        rw [if_neg hs]
      rw [e]
      exact ih
theorem len_d (s : ByteArray) : (nrmL 1 (pts s)).length ≤ s.size := by
  have h1 := len_steps s s.size
  have h2 := (steps_le s s.size).1
  have e : nrmL 1 (pts s) = ordL (nrmA false (pts s)) := rfl
  rw [e, ordL_len]
  unfold pts
  omega
theorem low_bd (p : Int) : lowS p = p ∨ (0 ≤ lowS p ∧ lowS p < 20000) := by
  unfold lowS
  by_cases c0 : 9728 ≤ p ∧ p ≤ 9753
  · rw [if_pos c0]; right; omega
  rw [if_neg c0]
  unfold three
  by_cases c1 : 65 ≤ p ∧ p ≤ 90
  · rw [if_pos c1]; right; dsimp only; omega
  rw [if_neg c1]
  by_cases c2 : 97 ≤ p ∧ p ≤ 122
  · rw [if_pos c2]; left; dsimp only
  rw [if_neg c2]
  by_cases c3 : 8192 ≤ p ∧ p < 9728 ∧ p % 512 < 416
  · rw [if_pos c3]
    by_cases c4 : 208 ≤ p % 512
    · rw [if_pos c4]; left; dsimp only
    · rw [if_neg c4]; right; dsimp only; omega
  rw [if_neg c3]
  by_cases c5 : p < 512 ∨ 1280 ≤ p
  · rw [if_pos c5]; left; dsimp only
  rw [if_neg c5]
  by_cases c6 : p % 256 < 64
  · rw [if_pos c6]; right; dsimp only; omega
  rw [if_neg c6]
  by_cases c7 : p % 256 < 76
  · rw [if_pos c7]; right; dsimp only; omega
  · rw [if_neg c7]; left; dsimp only
theorem fo_pt (p : Int) (h : isPt p = true) : ∀ x ∈ fo1 p, isPt x = true := by
  have hp := pt_of h
  intro x hx
  rw [isPt_iff]
  unfold pt at hp
  have hl := low_bd p
  unfold fo1 at hx
  rcases tw_bl p with ⟨h1, h2, e1, e2⟩ | ⟨h1, e1, e2⟩
  · rw [e2] at hx
    split at hx
    · simp at hx; omega
    · split at hx
      · simp at hx; omega
      · simp at hx
        rw [hx]
        omega
  · rw [e2, if_neg (by omega), if_neg (by omega)] at hx
    simp at hx
    rw [hx]
    omega
theorem own_mono {w : World} {B B2 n : Nat} {v : Value} {xs : List Value} (h : w.ownsRow B2 2 1 v n xs) (hb : B ≤ B2) : w.ownsRow B 2 1 v n xs := by
  refine ⟨h.1, ?_⟩
  rcases h.2 with h' | ⟨g, cap, cur, hv, hg, r⟩
  · exact .inl h'
  · exact .inr ⟨g, cap, cur, hv, by omega, r⟩
/-- What CaselessSame holds against each other. -/
def csl (s : ByteArray) : List Int := nrmL 1 ((nrmL 1 (pts s)).flatMap fo1)
theorem csl_bd (s : ByteArray) (hs : s.size ≤ 65536) : ((nrmL 1 (pts s)).flatMap fo1).length ≤ 131072 := by
  have h1 := len_d s
  have h2 := flat_len (nrmL 1 (pts s)) fo_len
  omega
theorem csl_len (s : ByteArray) (hs : s.size ≤ 65536) : (csl s).length ≤ 600000 := by
  have h1 := csl_bd s hs
  have h2 := nrmL_len 1 ((nrmL 1 (pts s)).flatMap fo1)
  unfold csl
  omega
set_option maxRecDepth 100000 in
theorem implCsl (s : ByteArray) (w : World) (ht : BlkAt w) (hs : s.size ≤ 65536) : Calls Tryd.prog 23 #[.string s] w fun e w' => ∃ v, e = .returned v ∧ w'.ownsRow w.heap.size 2 1 v (csl s).length ((csl s).map (Value.int .i64)) ∧ Below w.heap.size w w' := by
  have HT := hide ht
  clear ht
  have CP := hide (fun W => implPointsOf s W (by omega))
  rw [show ptsOut s = pts s by unfold ptsOut; rw [if_neg (by omega)]] at CP
  have C1 := hide (fun B n v W h hn => normalI 1 B n v (pts s) W h hn)
  have CF := hide (fun v W h h2 => foldI v (nrmL 1 (pts s)) W h (by have := len_d s; omega) (nrm1_pt s) h2)
  have C2 := hide (fun B n v W h hn => normalI 1 B n v ((nrmL 1 (pts s)).flatMap fo1) W h hn)
  have HL1 := hide (pts_le s)
  have HL2 := hide (csl_bd s hs)
  have HC : Hid (csl s = nrmL 1 ((nrmL 1 (pts s)).flatMap fo1)) := hide rfl
  generalize csl s = Z at *
  generalize pts s = L at *
  generalize hM : nrmL 1 L = M at *
  generalize hF : M.flatMap fo1 = F at *
  clear hM hF
  go_enter Tryd.func23, Tryd.ntmps23
  go_wp2_with (first
    | (go_at_call 38; refine ((unhide CP) _).mono ?_; clear CP; rintro e w1 ⟨v1, rfl, ho1, hb1⟩; have O1 := hide ho1; have B1 := hide hb1; clear ho1 hb1)
    | (go_at_call_of 36 v1; refine ((unhide C1) _ _ _ _ (unhide O1) (by have := unhide HL1; omega)).mono ?_; rintro e w2 ⟨v2, rfl, ho2, hb2⟩; have O2 := hide ho2; have B2 := hide (join2 (unhide B1) hb2); clear ho2 hb2)
    | (go_at_call 37; refine ((unhide CF) _ _ (IntsAt.owned (unhide O2)) ((unhide HT).below (unhide B2))).mono ?_; rintro e w3 ⟨v3, rfl, ho3, hb3⟩; have O3 := hide ho3; have B3 := hide (join2 (unhide B2) hb3); clear ho3 hb3)
    | (go_at_call_of 36 v3; refine ((unhide C2) _ _ _ _ (unhide O3) (unhide HL2)).mono ?_; rintro e w4 ⟨v4, rfl, ho4, hb4⟩; have O4 := hide ho4; have B4 := hide (join2 (unhide B3) hb4); have S3 := hide (unhide B3).size; clear ho4 hb4))
  go_ret
  refine ⟨_, rfl, ?_, unhide B4⟩
  rw [unhide HC]
  exact own_mono (unhide O4) (unhide S3)
/-- What CaselessSame tells. -/
def cslB (a b : ByteArray) : Bool := decide (a.size ≤ 65536) && (decide (b.size ≤ 65536) && sameB (csl a) (csl b))
set_option maxRecDepth 100000 in
set_option maxHeartbeats 1000000 in
theorem implSame (a b : ByteArray) (w : World) (ht : BlkAt w) : Calls Tryd.prog 8 #[.string a, .string b] w fun e w' => e = .returned (.bool (cslB a b)) ∧ Below w.heap.size w w' := by
  have HT := hide ht
  clear ht
  by_cases ha : a.size ≤ 65536
  · by_cases hb : b.size ≤ 65536
    · have HE := hide (show cslB a b = sameB (csl a) (csl b) by simp [cslB, ha, hb])
      have CA := hide (fun W h => implCsl a W h ha)
      have CB := hide (fun W h => implCsl b W h hb)
      have HLa := hide (csl_len a ha)
      have HLb := hide (csl_len b hb)
      have ha' : ¬ 65536 < a.size := by omega
      have hb' : ¬ 65536 < b.size := by omega
      generalize csl a = X at *
      generalize csl b = Y at *
      go_enter Tryd.func8, Tryd.ntmps8
      go_wp2_with (first
        | (go_at_call_of 23 a; refine ((unhide CA) _ (unhide HT)).mono ?_; clear CA; rintro e w1 ⟨v1, rfl, ho1, hb1⟩; have O1 := hide ho1; have B1 := hide hb1; clear ho1 hb1)
        | (go_at_call_of 23 b; refine ((unhide CB) _ ((unhide HT).below (unhide B1))).mono ?_; rintro e w2 ⟨v2, rfl, ho2, hb2⟩; have O2 := hide ho2; have P1 := hide (ownsRow_below (unhide O1) hb2); have B2 := hide (join2 (unhide B1) hb2); clear ho2 hb2)
        | (go_at_call 22; refine (equal_any _ _ X Y _ (IntsAt.owned (unhide P1)) (IntsAt.owned (unhide O2)) (by have := unhide HLa; omega) (by have := unhide HLb; omega)).mono ?_; rintro e w3 ⟨rfl, n3, rfl⟩))
      go_ret
      exact ⟨by rw [unhide HE]; rfl, bdrew (unhide B2) _⟩
    · have HE := hide (show cslB a b = false by simp [cslB, hb])
      have ha' : ¬ 65536 < a.size := by omega
      have hb' : 65536 < b.size := by omega
      go_enter Tryd.func8, Tryd.ntmps8
      go_wp2
      go_ret
      exact ⟨by rw [unhide HE]; rfl, Below.refl _ _⟩
  · have HE := hide (show cslB a b = false by simp [cslB, ha])
    have ha' : 65536 < a.size := by omega
    go_enter Tryd.func8, Tryd.ntmps8
    go_wp2
    go_ret
    exact ⟨by rw [unhide HE]; rfl, Below.refl _ _⟩
end Cas
end Go.Proofs.YtecbbifepbgmlaaDoor
