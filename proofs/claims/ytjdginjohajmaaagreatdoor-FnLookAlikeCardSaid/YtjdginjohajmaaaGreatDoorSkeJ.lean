/- A text's skeleton, as the program makes it. -/
import Derived.Test.YtjdginjohajmaaaGreatDoorSkeI
import Derived.Test.YtjdginjohajmaaaGreatDoorNrmI
import Derived.Test.YtjdginjohajmaaaGreatDoorEqvL
namespace Go.Proofs.YtjdginjohajmaaaGreatDoor.Ske
open Go.RowKit
set_option linter.unusedVariables false
theorem parts_none {p : Int} (h : p < 8192 ∨ 23459 < p) : partsZ false p = [] := by
  unfold partsZ
  rw [if_neg (by omega), if_neg (by omega), if_neg (by omega), if_neg (by omega), if_neg (by omega), if_neg (by simp)]
/-- The second of two parts has none. -/
theorem parts_snd (p : Int) : partsZ false p = [] ∨ (∃ a, partsZ false p = [a]) ∨ ∃ a b, partsZ false p = [a, b] ∧ b < 8192 := by
  unfold partsZ
  split
  · exact .inr (.inr ⟨_, _, rfl, by omega⟩)
  split
  · exact .inr (.inr ⟨_, _, rfl, by omega⟩)
  split
  · exact .inr (.inr ⟨_, _, rfl, by omega⟩)
  split
  · exact .inr (.inl ⟨_, rfl⟩)
  split
  · split
    · exact .inr (.inr ⟨_, _, rfl, by omega⟩)
    · exact .inr (.inr ⟨_, _, rfl, by omega⟩)
  · exact .inl (by simp)
theorem allF_three (p : Int) : (allF false 2 p).length ≤ 3 := by
  rcases parts_snd p with e | ⟨a, e⟩ | ⟨a, b, e, hb⟩
  · rw [allF_none e]; simp
  · rw [allF_one e]
    have := (allF_len false 1 a).2
    omega
  · have h1 := (allF_len false 1 a).2
    have h2 : allF false 1 b = [b] := allF_none (parts_none (.inl hb)) 1
    have h3 : allF false 2 p = allF false 1 a ++ [b] := by
      show (if partsZ false p = [] then [p] else (partsZ false p).flatMap (allF false 1)) = _
      rw [e, if_neg (by simp)]
      simp [h2]
    rw [h3]
    simp
    omega
/-- What is read of some bytes has at most as many parts as bytes. -/
theorem len_dec {size pos b0 b1 b2 b3 p n : Nat} (hd : dec size pos b0 b1 b2 b3 = (p, n)) : (allF false 2 p).length ≤ n := by
  have one : ∀ q : Nat, (q < 8192 ∨ 23459 < q) → (allF false 2 q).length = 1 := fun q hq => by
    rw [allF_none (parts_none (by omega))]; rfl
  have bad : (allF false 2 (65533 : Nat)).length ≤ 1 := by rw [one 65533 (by omega)]; omega
  unfold dec at hd
  split at hd
  · injection hd with e1 e2
    subst e1
    subst e2
    rw [one b0 (by omega)]
    omega
  split at hd
  · split at hd
    · injection hd with e1 e2
      rw [← e2, ← e1, one _ (by omega)]
      omega
    · injection hd with e1 e2
      rw [← e2, ← e1]
      exact bad
  split at hd
  · split at hd
    · injection hd with e1 e2
      rw [← e2, ← e1]
      exact allF_three _
    · injection hd with e1 e2
      rw [← e2, ← e1]
      exact bad
  split at hd
  · split at hd
    · injection hd with e1 e2
      rw [← e2, ← e1]
      exact Nat.le_trans (allF_three _) (by omega)
    · injection hd with e1 e2
      rw [← e2, ← e1]
      exact bad
  · injection hd with e1 e2
    rw [← e2, ← e1]
    exact bad
theorem len_steps (s : ByteArray) : ∀ n, (nrmA false (steps s n).1).length ≤ (steps s n).2
  | 0 => Nat.le_refl _
  | n + 1 => by
    have ih := len_steps s n
    by_cases hs : (steps s n).2 < s.size
    · rw [steps_next s n hs]
      simp only
      have hd : dec s.size (steps s n).2 (bt s (steps s n).2) (bt s ((steps s n).2 + 1)) (bt s ((steps s n).2 + 2)) (bt s ((steps s n).2 + 3)) = (dP s (steps s n).2, dN s (steps s n).2) := (decode_dec s _).symm
      have h1 := len_dec hd
      have e : nrmA false [(dP s (steps s n).2 : Int)] = allF false 2 (dP s (steps s n).2) := by unfold nrmA; simp
      rw [show nrmA false ((steps s n).1 ++ [(dP s (steps s n).2 : Int)]) = nrmA false (steps s n).1 ++ nrmA false [(dP s (steps s n).2 : Int)] from List.flatMap_append, List.length_append, e]
      omega
    · have e : steps s (n + 1) = steps s n := by
        show (if (steps s n).2 < s.size then _ else _) = _
        rw [if_neg hs]
      rw [e]
      exact ih
theorem len_d (s : ByteArray) : (nrmL 1 (pts s)).length ≤ s.size := by
  have h1 := len_steps s s.size
  have h2 := (steps_le s s.size).1
  have e : nrmL 1 (pts s) = ordL (nrmA false (pts s)) := rfl
  rw [e, ordL_len]
  unfold pts
  omega
theorem own_mono {w : World} {B B2 n : Nat} {v : Value} {xs : List Value} (h : w.ownsRow B2 2 1 v n xs) (hb : B ≤ B2) : w.ownsRow B 2 1 v n xs := by
  refine ⟨h.1, ?_⟩
  rcases h.2 with h' | ⟨g, cap, cur, hv, hg, r⟩
  · exact .inl h'
  · exact .inr ⟨g, cap, cur, hv, by omega, r⟩
theorem row_many {w wr w1 w2 : World} {base n m : Nat} {v v' : Value} {R S : List Int} {o : Obj} {xs : List Value} (hb : Below base w wr) (hb1 : Below base wr w1) (hB : base ≤ w1.heap.size)
    (ho : w1.ownsRow base 2 1 v n xs) (ho2 : w2.ownsRow base 2 1 v' m (R.map (Value.int .i64) ++ S.map (Value.int .i64))) (hm : m = (R ++ S).length) (hg : (w1.alloc o).grownBy w2 v.ownBlock) :
    w2.ownsRow base 2 1 v' (R ++ S).length ((R ++ S).map (Value.int .i64)) ∧ Below base w w2 := by
  refine ⟨?_, ((hb.trans hb1).alloc hB o).grown hg (by simp; omega) (fun j hj => (ho.lt j hj).1)⟩
  rw [← hm, List.map_append]
  exact ho2
theorem rd_at {w : World} {v : Value} {L : List Int} (h : IntsAt w v L) (hl : 0 < L.length) : ∃ b off cap, v = .slice (some ⟨b, off, none⟩) L.length cap ∧ b < w.heap.size ∧ ∀ i, i < L.length → w.cell? ⟨b, off + i, none⟩ = some (.int .i64 (nth L i)) := by
  obtain ⟨a, cap, rfl, h⟩ := h
  rcases h with h | ⟨b, off, rfl, hbs, hc⟩
  · rw [h] at hl; simp at hl
  · exact ⟨b, off, cap, rfl, hbs, hc⟩

theorem fl_len (L : List Int) : (L.flatMap see).length ≤ 2 * L.length := by
  induction L with
  | nil => simp
  | cons a L ih =>
    have := see_len a
    simp only [List.flatMap_cons, List.length_append, List.length_cons]
    omega
theorem fl_take (L : List Int) (k : Nat) (h : k < L.length) : (L.take (k + 1)).flatMap see = (L.take k).flatMap see ++ see (nth L k) := by
  have e : L.take (k + 1) = L.take k ++ [nth L k] := by
    rw [List.take_succ_eq_append_getElem h]
    unfold nth
    rw [List.getD_eq_getElem?_getD, List.getElem?_eq_getElem h]
    rfl
  rw [e, List.flatMap_append]
  simp only [List.flatMap_cons, List.flatMap_nil, List.append_nil]
theorem nth_in {L : List Int} {j : Nat} (h : j < L.length) : nth L j ∈ L := by
  unfold nth
  rw [List.getD_eq_getElem?_getD, List.getElem?_eq_getElem h]
  exact List.getElem_mem h
def pa (p : Int) : Int := (pairL p (wideZ p)).1
def pb (p : Int) : Int := (pairL p (wideZ p)).2
theorem wide_forms (p : Int) : wideZ p = [] ∨ (∃ x, wideZ p = [x] ∧ 0 ≤ x ∧ x ≤ 1114111) ∨ ∃ x y, wideZ p = [x, y] ∧ (0 ≤ x ∧ x ≤ 1114111) ∧ 0 ≤ y ∧ y ≤ 1114111 := by
  unfold wideZ
  repeat' split
  all_goals first
    | exact .inl rfl
    | exact .inr (.inl ⟨_, rfl, by omega, by omega⟩)
    | exact .inr (.inr ⟨_, _, rfl, ⟨by omega, by omega⟩, by omega, by omega⟩)
theorem pa_pb (p : Int) (h : 0 ≤ p ∧ p ≤ 1114111) : (0 ≤ pa p ∧ pa p ≤ 1114111) ∧ ((pb p = -1 ∧ prt p = [pa p]) ∨ ((0 ≤ pb p ∧ pb p ≤ 1114111) ∧ prt p = [pa p, pb p])) := by
  unfold pa pb prt
  rcases wide_forms p with e | ⟨x, e, hx⟩ | ⟨x, y, e, hx, hy⟩
  · rw [e, if_pos rfl]
    exact ⟨h, .inl ⟨rfl, rfl⟩⟩
  · rw [e, if_neg (by simp)]
    exact ⟨hx, .inl ⟨rfl, rfl⟩⟩
  · rw [e, if_neg (by simp)]
    exact ⟨hx, .inr ⟨hy, rfl⟩⟩
/-- What stands behind k parts. -/
def lay (p : Int) (k : Nat) : List Int := if k = 0 then [] else if k = 1 then [lk (pa p)] else (prt p).map lk
set_option maxRecDepth 100000 in
set_option maxHeartbeats 2000000 in
/-- appendLook. -/
theorem appI (w0 w : World) (v : Value) (R : List Int) (p : Int) (hp : 0 ≤ p ∧ p ≤ 1114111) (ht : TabAt w0) (hb : Below w0.heap.size w0 w) (ho : w.ownsRow w0.heap.size 2 1 v R.length (R.map (Value.int .i64))) (hR : R.length ≤ 1000000) :
    Calls Tryz.prog 40 #[v, .int .i64 p] w fun e w' => ∃ v', e = .returned v' ∧ w'.ownsRow w0.heap.size 2 1 v' (R ++ see p).length ((R ++ see p).map (Value.int .i64)) ∧ Below w0.heap.size w0 w' := by
  obtain ⟨i0, hi, hz0, hz1, hz2⟩ := info_parts info2
  have CC := hide (implCat p w (ht.below hb))
  have HT := hide ht
  have HO := hide ho
  have HB := hide hb
  have hBs := hb.size
  clear ht ho hb
  by_cases c0 : catI p = 1 ∨ catI p = 11
  · have HS := hide (see_none c0)
    generalize catI p = c at *
    rcases c0 with rfl | rfl
    all_goals
      go_enter Tryz.func40, Tryz.ntmps40
      go_wp2_with (go_at_call 46; refine (unhide CC).mono ?_; rintro e w1 ⟨rfl, hb1⟩; have O1 := hide (ownsRow_below (unhide HO) hb1); have B1 := hide (j2 (unhide HB) hb1); clear hb1)
      go_ret
      exact ⟨_, rfl, by rw [unhide HS, List.append_nil]; exact unhide O1, unhide B1⟩
  · have n1 : (catI p == 1) = false := bf (fun h => c0 (.inl h))
    have n2 : (catI p == 11) = false := bf (fun h => c0 (.inr h))
    by_cases c1 : catI p = 10
    · have HS := hide (see_wide c1)
      have n3 : (catI p == 10) = true := bt' c1
      have CL := hide (fun W => looseI p W)
      obtain ⟨⟨a0, a1⟩, hab⟩ := pa_pb p hp
      have HLY : Hid (∀ k, lay p k = if k = 0 then [] else if k = 1 then [lk (pa p)] else (prt p).map lk) := hide (fun _ => rfl)
      have hpv : pairV (pairL p (wideZ p)) = .agg #[.int .i64 (pa p), .int .i64 (pb p)] := rfl
      rw [hpv] at CL
      have CK := hide (fun W x hx h => lookI x W hx h)
      clear hpv c0 c1
      generalize hA : pa p = a at *
      generalize hB' : pb p = b at *
      clear hA hB'
      generalize catI p = c at *
      have ix0 : ∀ W, (Instr.index 65 (.agg #[.int .i64 a, .int .i64 b]) (.int .i64 0)).run Tryz.prog W = .ok (.int .i64 a) W := fun _ => by kernel_rfl
      have ix1 : ∀ W, (Instr.index 65 (.agg #[.int .i64 a, .int .i64 b]) (.int .i64 1)).run Tryz.prog W = .ok (.int .i64 b) W := fun _ => by kernel_rfl
      have na : (a != -1) = true := by simp; omega
      go_enter Tryz.func40, Tryz.ntmps40
      go_wp2_with (first
        | (go_at_call 46; refine (unhide CC).mono ?_; rintro e w1 ⟨rfl, hb1⟩; have O1 := hide (ownsRow_below (unhide HO) hb1); have B1 := hide (j2 (unhide HB) hb1); clear hb1)
        | (go_at_call 62; refine ((unhide CL) _).mono ?_; rintro e w2 ⟨rfl, o2, rfl⟩; have O2 := hide (ownsRow_below (unhide O1) ((Below.refl _ _).alloc (Nat.le_refl _) o2)); have B2 := hide (j2 (unhide B1) ((Below.refl _ _).alloc (Nat.le_refl _) o2))))
      generalize w1.alloc o2 = w2 at *
      go_loopw [0, 17] (fun lv iv wr => ∃ k : Nat, k ≤ 2 ∧ iv = .int .i64 k ∧ Hid (wr.ownsRow w0.heap.size 2 1 lv (R ++ lay p k).length ((R ++ lay p k).map (Value.int .i64))) ∧ Hid (Below w0.heap.size w0 wr)) (fun _ iv _ => 2 - (intOf iv).toNat)
      case atStart => exact ⟨0, by omega, rfl, hide (by rw [unhide HLY, if_pos rfl, List.append_nil]; exact unhide O2), B2⟩
      case round =>
        obtain ⟨k, hk, rfl, HOr, HBr⟩ := hrel
        clear O1 O2 B1 B2
        have hBr := (unhide HBr).size
        have hk3 : k = 0 ∨ k = 1 ∨ k = 2 := by omega
        rcases hk3 with rfl | rfl | rfl
        · have e0 := (unhide HLY) 0
          rw [if_pos rfl] at e0
          rw [e0, List.append_nil] at HOr
          have e1 := (unhide HLY) 1
          rw [if_neg (by omega), if_pos rfl] at e1
          have HE1 := hide e1
          clear e0 e1
          go_wp2_with (first
            | (go_at_call 63; refine ((unhide CK) _ _ ⟨a0, a1⟩ ((unhide HT).below (unhide HBr))).mono ?_; rintro e w3 ⟨rfl, hb3⟩; have O3 := hide (ownsRow_below (unhide HOr) hb3); have B3 := hide (j2 (unhide HBr) hb3); have h3s := (unhide B3).size; clear hb3)
            | (at_builtin; refine wpList_appG _ rfl _ _ 28 rfl w0.heap.size 2 i0 (.int .i64 0) 1 8 Tryz.underlying28 hi hz0 hz1 hz2 rfl (by decide) _ _ _ rfl ((unhide O3).alloc _) ⟨w3.heap.size, 0, none⟩ 1 1 [.int .i64 (lk a)] rfl rfl (one_new _ _ _) ?c2 ?c3 ?c4 ?c5 ?_))
          case c2 => intro u hu; simp at hu; subst hu; rfl
          case c3 => unfold maxLen; omega
          case c4 => omega
          case c5 => simp; omega
          intro v' w4 hown' hgrow _
          have RR := hide (row_many (R := R) (S := [lk a]) (unhide B3) (Below.refl _ _) (by omega) (unhide O3) hown' (by simp) hgrow)
          clear hown' hgrow
          go_wp2
          go_roundw
          case rel => exact ⟨1, by omega, by go_num, hide (by rw [unhide HE1]; exact (unhide RR).1), hide (unhide RR).2⟩
          case measure => simp [intOf]
        · have e1 := (unhide HLY) 1
          rw [if_neg (by omega), if_pos rfl] at e1
          rw [e1] at HOr
          have e2 := (unhide HLY) 2
          rw [if_neg (by omega), if_neg (by omega)] at e2
          rcases hab with ⟨hb1, hpr⟩ | ⟨⟨b0, b1⟩, hpr⟩
          · rw [hpr] at e2
            have HE2 := hide e2
            have nb : (b != -1) = false := by simp [hb1]
            clear e1 e2 hpr hb1
            go_wp2
            go_roundw
            case rel => exact ⟨2, by omega, by go_num, hide (by rw [unhide HE2]; exact unhide HOr), HBr⟩
            case measure => simp [intOf]
          · rw [hpr] at e2
            have HE2 : Hid (R ++ lay p 2 = (R ++ [lk a]) ++ [lk b]) := hide (by rw [e2]; simp)
            have nb : (b != -1) = true := by simp; omega
            clear e1 e2 hpr
            have hRl : (R ++ [lk a]).length ≤ 1000001 := by simp; omega
            generalize R ++ [lk a] = R2 at *
            go_wp2_with (first
              | (go_at_call 63; refine ((unhide CK) _ _ ⟨b0, b1⟩ ((unhide HT).below (unhide HBr))).mono ?_; rintro e w3 ⟨rfl, hb3⟩; have O3 := hide (ownsRow_below (unhide HOr) hb3); have B3 := hide (j2 (unhide HBr) hb3); have h3s := (unhide B3).size; clear hb3)
              | (at_builtin; refine wpList_appG _ rfl _ _ 28 rfl w0.heap.size 2 i0 (.int .i64 0) 1 8 Tryz.underlying28 hi hz0 hz1 hz2 rfl (by decide) _ _ _ rfl ((unhide O3).alloc _) ⟨w3.heap.size, 0, none⟩ 1 1 [.int .i64 (lk b)] rfl rfl (one_new _ _ _) ?c2 ?c3 ?c4 ?c5 ?_))
            case c2 => intro u hu; simp at hu; subst hu; rfl
            case c3 => unfold maxLen; omega
            case c4 => omega
            case c5 => simp; omega
            intro v' w4 hown' hgrow _
            have RR := hide (row_many (R := R2) (S := [lk b]) (unhide B3) (Below.refl _ _) (by omega) (unhide O3) hown' (by simp) hgrow)
            clear hown' hgrow
            go_wp2
            go_roundw
            case rel => exact ⟨2, by omega, by go_num, hide (by rw [unhide HE2]; exact (unhide RR).1), hide (unhide RR).2⟩
            case measure => simp [intOf]
        · have e2 := (unhide HLY) 2
          rw [if_neg (by omega), if_neg (by omega), ← unhide HS] at e2
          rw [e2] at HOr
          clear e2
          go_wp2
          go_ret
          exact ⟨_, rfl, unhide HOr, unhide HBr⟩
    · have HS := hide (see_one c0 (.inr c1))
      have n3 : (catI p == 10) = false := bf c1
      have CK := hide (fun W h => lookI p W hp h)
      clear c0 c1
      generalize catI p = c at *
      generalize lk p = z at *
      go_enter Tryz.func40, Tryz.ntmps40
      go_wp2_with (first
        | (go_at_call 46; refine (unhide CC).mono ?_; rintro e w1 ⟨rfl, hb1⟩; have O1 := hide (ownsRow_below (unhide HO) hb1); have B1 := hide (j2 (unhide HB) hb1); clear hb1)
        | (go_at_call 63; refine ((unhide CK) _ ((unhide HT).below (unhide B1))).mono ?_; rintro e w3 ⟨rfl, hb3⟩; have O3 := hide (ownsRow_below (unhide O1) hb3); have B3 := hide (j2 (unhide B1) hb3); have h3s := (unhide B3).size; clear hb3)
        | (at_builtin; refine wpList_appG _ rfl _ _ 28 rfl w0.heap.size 2 i0 (.int .i64 0) 1 8 Tryz.underlying28 hi hz0 hz1 hz2 rfl (by decide) _ _ _ rfl ((unhide O3).alloc _) ⟨w3.heap.size, 0, none⟩ 1 1 [.int .i64 z] rfl rfl (one_new _ _ _) ?c2 ?c3 ?c4 ?c5 ?_))
      case c2 => intro u hu; simp at hu; subst hu; rfl
      case c3 => unfold maxLen; omega
      case c4 => omega
      case c5 => simp; omega
      intro v' w4 hown' hgrow _
      have RR := hide (row_many (R := R) (S := [z]) (unhide B3) (Below.refl _ _) (by omega) (unhide O3) hown' (by simp) hgrow)
      clear hown' hgrow
      go_wp2
      go_ret
      exact ⟨_, rfl, by rw [unhide HS]; exact (unhide RR).1, (unhide RR).2⟩
end Go.Proofs.YtjdginjohajmaaaGreatDoor.Ske
