/- Shift: the small functions of the program: a point's state, a state laid, a point laid. -/
import Derived.Test.YtohpifhpfijmcaaDoorShfM
import Derived.Test.YtohpifhpfijmcaaDoorStro
namespace Go.Proofs.YtohpifhpfijmcaaDoor
open Go.RowKit
set_option maxRecDepth 100000 in
theorem stFor_any (st p : Int) (hp : 0 ≤ p) (hp1 : p ≤ 1114111) (w : World) (ht : TabAt w) :
    Calls Tryd.prog 22 #[.int .i64 st, .int .i64 p] w fun e w' => e = .returned (.int .i64 (stF st p)) ∧ Below w.heap.size w w' := by
  have H := hide ht
  clear ht
  have em : p.tmod 256 = p % 256 := Int.tmod_eq_emod_of_nonneg hp
  have ed : p.tdiv 256 = p / 256 := Int.tdiv_eq_ediv_of_nonneg hp
  by_cases h27 : p = 27
  · have hq : (p == 27) = true := by rw [beq_iff_eq]; exact h27
    have HE : Hid (stF st p = -1) := hide (by unfold stF; rw [if_pos h27])
    clear h27
    go_enter Tryd.func22, Tryd.ntmps22
    go_wp2
    go_ret
    exact ⟨by rw [unhide HE]; rfl, Below.refl _ _⟩
  have hq : (p == 27) = false := by rw [beq_eq_false_iff_ne]; exact h27
  by_cases h32 : p < 32
  · have HE : Hid (stF st p = st) := hide (by unfold stF; rw [if_neg h27, if_pos h32])
    clear h27
    go_enter Tryd.func22, Tryd.ntmps22
    go_wp2
    go_ret
    exact ⟨by rw [unhide HE]; rfl, Below.refl _ _⟩
  by_cases h126 : p ≤ 126
  · have HE : Hid (stF st p = 0) := hide (by unfold stF; rw [if_neg h27, if_neg h32, if_pos h126])
    clear h27
    go_enter Tryd.func22, Tryd.ntmps22
    go_wp2
    go_ret
    exact ⟨by rw [unhide HE]; rfl, Below.refl _ _⟩
  by_cases hs : 512 ≤ p ∧ p < 1280 ∧ p % 256 < 96
  · have HE : Hid (stF st p = p / 256 - 1) := hide (by unfold stF; rw [if_neg h27, if_neg h32, if_neg h126, if_pos hs])
    obtain ⟨s1, s2, s3⟩ := hs
    clear h27
    go_enter Tryd.func22, Tryd.ntmps22
    go_wp2
    go_ret
    exact ⟨by rw [unhide HE]; rfl, Below.refl _ _⟩
  have HE : Hid (stF st p = if ideo p = true then 4 else -1) := hide (by
    unfold stF; rw [if_neg h27, if_neg h32, if_neg h126, if_neg hs]; unfold ideo
    by_cases h : 24576 ≤ p ∧ p ≤ 26623
    · rw [if_pos h, if_pos (decide_eq_true h)]
    · rw [if_neg h, if_neg (by rw [decide_eq_false h]; decide)])
  have hc : p < 512 ∨ (512 ≤ p ∧ 1280 ≤ p) ∨ (512 ≤ p ∧ p < 1280 ∧ 96 ≤ p % 256) := by omega
  clear h27 hs
  rcases hc with s1 | ⟨s1, s2⟩ | ⟨s1, s2, s3⟩
  all_goals
    cases hid : ideo p
    all_goals
      have HE2 := unhide HE
      rw [hid] at HE2
      have HE3 := hide HE2
      clear HE2
      go_enter Tryd.func22, Tryd.ntmps22
      go_wp2_with (go_at_call 42; refine (isIdeo_any p _ (unhide H)).mono ?_; rintro e w' ⟨rfl, hb⟩)
      go_ret
      exact ⟨by rw [unhide HE3]; rfl, hb⟩
theorem two_new (w : World) (t : TypeId) (a b : Value) : ∀ j u, [a, b][j]? = some u → (w.alloc (.cells #[a, b] t)).cell? ((⟨w.heap.size, 0, none⟩ : Addr).add j) = some u := by
  intro j u hj
  match j, hj with
  | 0, hj => simp at hj; subst hj; simp [Addr.add]
  | 1, hj => simp at hj; subst hj; simp [Addr.add]
  | (j + 2), hj => simp at hj
theorem lay_two {B : Nat} {w w3 : World} {s v' : Value} {M : List Int} {x y : Int} {o : Obj} (hB : B ≤ w.heap.size)
    (ho2 : w.ownsRow B 5 1 s M.length (M.map (Value.int .u8))) (ho3 : w3.ownsRow B 5 1 v' (M.length + 2) (M.map (Value.int .u8) ++ [.int .u8 x, .int .u8 y])) (hg : (w.alloc o).grownBy w3 s.ownBlock) :
    w3.ownsRow B 5 1 v' (M ++ [x, y]).length ((M ++ [x, y]).map (Value.int .u8)) ∧ Below B w w3 ∧ Keeps w w3 := by
  refine ⟨?_, ?_, ?_⟩
  · rw [List.length_append, List.map_append]; exact ho3
  · exact ((Below.refl B w).alloc hB o).grown hg (by simp; omega) (fun j hj => (ho2.lt j hj).1)
  · exact (Keeps.alloc w o).trans (Keeps.grown (owned_alloc ho2 o) hg)
/-- What a writer answers: bytes M behind those of the row. -/
def Laid (B : Nat) (L M : List Int) (w : World) (e : Ending) (w' : World) : Prop :=
  ∃ v', e = .returned v' ∧ w'.ownsRow B 5 1 v' (L ++ M).length ((L ++ M).map (Value.int .u8)) ∧ Below B w w' ∧ Keeps w w'
set_option maxHeartbeats 1000000 in
set_option maxRecDepth 100000 in
theorem layState_any (B : Nat) (v : Value) (L : List Int) (st nx : Int) (hx0 : 0 ≤ nx) (hx4 : nx ≤ 4) (w : World) (hown : w.ownsRow B 5 1 v L.length (L.map (Value.int .u8))) (hlen : L.length ≤ 1000000) (hB : B ≤ w.heap.size) :
    Calls Tryd.prog 23 #[v, .int .i64 st, .int .i64 nx] w fun e w' => Laid B L (layS st nx) w e w' := by
  obtain ⟨i0, hi, hz0, hz1, hz2⟩ := info_parts info5
  have HO := hide hown
  clear hown
  by_cases hs : st = nx
  · have e : layS st nx = [] := by unfold layS; rw [if_pos hs]
    rw [e]
    have hq : (st == nx) = true := by rw [beq_iff_eq]; exact hs
    clear hs e
    go_enter Tryd.func23, Tryd.ntmps23
    go_wp2
    go_ret
    exact ⟨_, rfl, by rw [List.append_nil]; exact unhide HO, Below.refl _ _, Keeps.refl _⟩
  · have e : layS st nx = [27, letter nx] := by unfold layS; rw [if_neg hs]
    rw [e]
    have hq : (st == nx) = false := by rw [beq_eq_false_iff_ne]; exact hs
    clear hs e
    have h5 : nx = 0 ∨ nx = 1 ∨ nx = 2 ∨ nx = 3 ∨ nx = 4 := by omega
    rcases h5 with rfl | rfl | rfl | rfl | rfl
    · have hix : ∀ w, (Instr.index 9 (.string { data := #[65, 66, 67, 68, 87] }) (.int .i64 0)).run Tryd.prog w = .ok (.int .u8 65) w := fun _ => by kernel_rfl
      clear hx0 hx4
      go_enter Tryd.func23, Tryd.ntmps23
      go_wp2_with (at_builtin; refine wpList_append_own _ rfl _ _ 22 rfl B 5 i0 (.int .u8 0) 1 1 Tryd.underlying22 hi hz0 hz1 hz2 rfl (by decide) _ _ _ rfl (owned_alloc (unhide HO) _) ⟨w.heap.size, 0, none⟩ 2 2 [.int .u8 27, .int .u8 65] rfl rfl ?c0 ?c2 ?c3 ?c4 ?c5 ?_)
      case c0 => exact two_new _ _ _ _
      case c2 => intro u hu; simp at hu; rcases hu with rfl | rfl <;> rfl
      case c3 => unfold maxLen; omega
      case c4 => omega
      case c5 => simp; omega
      intro v' w3 hown' hgrow _
      have R := hide (lay_two hB (unhide HO) hown' hgrow)
      clear hown' hgrow
      go_wp2
      go_ret
      exact ⟨_, rfl, (unhide R).1, (unhide R).2.1, (unhide R).2.2⟩
    · have hix : ∀ w, (Instr.index 9 (.string { data := #[65, 66, 67, 68, 87] }) (.int .i64 1)).run Tryd.prog w = .ok (.int .u8 66) w := fun _ => by kernel_rfl
      clear hx0 hx4
      go_enter Tryd.func23, Tryd.ntmps23
      go_wp2_with (at_builtin; refine wpList_append_own _ rfl _ _ 22 rfl B 5 i0 (.int .u8 0) 1 1 Tryd.underlying22 hi hz0 hz1 hz2 rfl (by decide) _ _ _ rfl (owned_alloc (unhide HO) _) ⟨w.heap.size, 0, none⟩ 2 2 [.int .u8 27, .int .u8 66] rfl rfl ?c0 ?c2 ?c3 ?c4 ?c5 ?_)
      case c0 => exact two_new _ _ _ _
      case c2 => intro u hu; simp at hu; rcases hu with rfl | rfl <;> rfl
      case c3 => unfold maxLen; omega
      case c4 => omega
      case c5 => simp; omega
      intro v' w3 hown' hgrow _
      have R := hide (lay_two hB (unhide HO) hown' hgrow)
      clear hown' hgrow
      go_wp2
      go_ret
      exact ⟨_, rfl, (unhide R).1, (unhide R).2.1, (unhide R).2.2⟩
    · have hix : ∀ w, (Instr.index 9 (.string { data := #[65, 66, 67, 68, 87] }) (.int .i64 2)).run Tryd.prog w = .ok (.int .u8 67) w := fun _ => by kernel_rfl
      clear hx0 hx4
      go_enter Tryd.func23, Tryd.ntmps23
      go_wp2_with (at_builtin; refine wpList_append_own _ rfl _ _ 22 rfl B 5 i0 (.int .u8 0) 1 1 Tryd.underlying22 hi hz0 hz1 hz2 rfl (by decide) _ _ _ rfl (owned_alloc (unhide HO) _) ⟨w.heap.size, 0, none⟩ 2 2 [.int .u8 27, .int .u8 67] rfl rfl ?c0 ?c2 ?c3 ?c4 ?c5 ?_)
      case c0 => exact two_new _ _ _ _
      case c2 => intro u hu; simp at hu; rcases hu with rfl | rfl <;> rfl
      case c3 => unfold maxLen; omega
      case c4 => omega
      case c5 => simp; omega
      intro v' w3 hown' hgrow _
      have R := hide (lay_two hB (unhide HO) hown' hgrow)
      clear hown' hgrow
      go_wp2
      go_ret
      exact ⟨_, rfl, (unhide R).1, (unhide R).2.1, (unhide R).2.2⟩
    · have hix : ∀ w, (Instr.index 9 (.string { data := #[65, 66, 67, 68, 87] }) (.int .i64 3)).run Tryd.prog w = .ok (.int .u8 68) w := fun _ => by kernel_rfl
      clear hx0 hx4
      go_enter Tryd.func23, Tryd.ntmps23
      go_wp2_with (at_builtin; refine wpList_append_own _ rfl _ _ 22 rfl B 5 i0 (.int .u8 0) 1 1 Tryd.underlying22 hi hz0 hz1 hz2 rfl (by decide) _ _ _ rfl (owned_alloc (unhide HO) _) ⟨w.heap.size, 0, none⟩ 2 2 [.int .u8 27, .int .u8 68] rfl rfl ?c0 ?c2 ?c3 ?c4 ?c5 ?_)
      case c0 => exact two_new _ _ _ _
      case c2 => intro u hu; simp at hu; rcases hu with rfl | rfl <;> rfl
      case c3 => unfold maxLen; omega
      case c4 => omega
      case c5 => simp; omega
      intro v' w3 hown' hgrow _
      have R := hide (lay_two hB (unhide HO) hown' hgrow)
      clear hown' hgrow
      go_wp2
      go_ret
      exact ⟨_, rfl, (unhide R).1, (unhide R).2.1, (unhide R).2.2⟩
    · have hix : ∀ w, (Instr.index 9 (.string { data := #[65, 66, 67, 68, 87] }) (.int .i64 4)).run Tryd.prog w = .ok (.int .u8 87) w := fun _ => by kernel_rfl
      clear hx0 hx4
      go_enter Tryd.func23, Tryd.ntmps23
      go_wp2_with (at_builtin; refine wpList_append_own _ rfl _ _ 22 rfl B 5 i0 (.int .u8 0) 1 1 Tryd.underlying22 hi hz0 hz1 hz2 rfl (by decide) _ _ _ rfl (owned_alloc (unhide HO) _) ⟨w.heap.size, 0, none⟩ 2 2 [.int .u8 27, .int .u8 87] rfl rfl ?c0 ?c2 ?c3 ?c4 ?c5 ?_)
      case c0 => exact two_new _ _ _ _
      case c2 => intro u hu; simp at hu; rcases hu with rfl | rfl <;> rfl
      case c3 => unfold maxLen; omega
      case c4 => omega
      case c5 => simp; omega
      intro v' w3 hown' hgrow _
      have R := hide (lay_two hB (unhide HO) hown' hgrow)
      clear hown' hgrow
      go_wp2
      go_ret
      exact ⟨_, rfl, (unhide R).1, (unhide R).2.1, (unhide R).2.2⟩
set_option maxHeartbeats 1000000 in
set_option maxRecDepth 100000 in
theorem layPoint_any (B : Nat) (v : Value) (L : List Int) (st p : Int) (hp : 0 ≤ p) (hf : (p < 32 ∨ st = 0 ∧ p ≤ 126) ∨ (32 ≤ p ∧ 1 ≤ st ∧ st ≤ 3 ∧ p % 256 < 96) ∨ (st = 4 ∧ 24576 ≤ p ∧ p ≤ 26623)) (w : World) (hown : w.ownsRow B 5 1 v L.length (L.map (Value.int .u8))) (hlen : L.length ≤ 1000000) (hB : B ≤ w.heap.size) :
    Calls Tryd.prog 24 #[v, .int .i64 st, .int .i64 p] w fun e w' => Laid B L (layP st p) w e w' := by
  obtain ⟨i0, hi, hz0, hz1, hz2⟩ := info_parts info5
  have HO := hide hown
  clear hown
  rcases hf with hf | ⟨h32, s1, s3, hm⟩ | ⟨s4, p1, p2⟩
  · have e : layP st p = [p] := by unfold layP; rw [if_pos (by omega)]
    rw [e]
    have hpb : p ≤ 126 := by omega
    have hc : p < 32 ∨ (32 ≤ p ∧ (st == 0) = true) := by rw [beq_iff_eq]; omega
    clear e hf
    rcases hc with hc | ⟨hc, hc2⟩
    all_goals
      go_enter Tryd.func24, Tryd.ntmps24
      go_wp2_with (at_builtin; refine wpList_append_own _ rfl _ _ 22 rfl B 5 i0 (.int .u8 0) 1 1 Tryd.underlying22 hi hz0 hz1 hz2 rfl (by decide) _ _ _ rfl (owned_alloc (unhide HO) _) ⟨w.heap.size, 0, none⟩ 1 1 [.int .u8 p] rfl rfl ?c0 ?c2 ?c3 ?c4 ?c5 ?_)
      case c0 => exact cell_one_new _ _ _
      case c2 => intro u hu; simp at hu; subst hu; rfl
      case c3 => unfold maxLen; omega
      case c4 => omega
      case c5 => simp; omega
      intro v' w3 hown' hgrow _
      have R := hide (lay_step hB (Below.refl _ _) (Keeps.refl _) (Below.refl _ _) (unhide HO) hown' hgrow)
      clear hown' hgrow
      go_wp2
      go_ret
      exact ⟨_, rfl, (unhide R).1, (unhide R).2.1, (unhide R).2.2⟩
  · have e : layP st p = [32 + p % 256] := by unfold layP; rw [if_neg (by omega), if_neg (by omega)]
    rw [e]
    have em : p.tmod 256 = p % 256 := Int.tmod_eq_emod_of_nonneg hp
    have hc0 : (st == 0) = false := by rw [beq_eq_false_iff_ne]; omega
    have hc4 : (st == 4) = false := by rw [beq_eq_false_iff_ne]; omega
    clear e
    go_enter Tryd.func24, Tryd.ntmps24
    go_wp2_with (at_builtin; refine wpList_append_own _ rfl _ _ 22 rfl B 5 i0 (.int .u8 0) 1 1 Tryd.underlying22 hi hz0 hz1 hz2 rfl (by decide) _ _ _ rfl (owned_alloc (unhide HO) _) ⟨w.heap.size, 0, none⟩ 1 1 [.int .u8 (32 + p % 256)] rfl rfl ?c0 ?c2 ?c3 ?c4 ?c5 ?_)
    case c0 => exact cell_one_new _ _ _
    case c2 => intro u hu; simp at hu; subst hu; rfl
    case c3 => unfold maxLen; omega
    case c4 => omega
    case c5 => simp; omega
    intro v' w3 hown' hgrow _
    have R := hide (lay_step hB (Below.refl _ _) (Keeps.refl _) (Below.refl _ _) (unhide HO) hown' hgrow)
    clear hown' hgrow
    go_wp2
    go_ret
    exact ⟨_, rfl, (unhide R).1, (unhide R).2.1, (unhide R).2.2⟩
  · have e : layP st p = [33 + (p - 24576) / 94, 33 + (p - 24576) % 94] := by unfold layP; rw [if_neg (by omega), if_pos s4]
    rw [e]
    have em : (p - 24576).tmod 94 = (p - 24576) % 94 := Int.tmod_eq_emod_of_nonneg (by omega)
    have ed : (p - 24576).tdiv 94 = (p - 24576) / 94 := Int.tdiv_eq_ediv_of_nonneg (by omega)
    have hc0 : (st == 0) = false := by rw [beq_eq_false_iff_ne]; omega
    have hc4 : (st == 4) = true := by rw [beq_iff_eq]; exact s4
    clear e s4
    go_enter Tryd.func24, Tryd.ntmps24
    go_wp2_with (at_builtin; refine wpList_append_own _ rfl _ _ 22 rfl B 5 i0 (.int .u8 0) 1 1 Tryd.underlying22 hi hz0 hz1 hz2 rfl (by decide) _ _ _ rfl (owned_alloc (unhide HO) _) ⟨w.heap.size, 0, none⟩ 2 2 [.int .u8 (33 + (p - 24576) / 94), .int .u8 (33 + (p - 24576) % 94)] rfl rfl ?c0 ?c2 ?c3 ?c4 ?c5 ?_)
    case c0 => exact two_new _ _ _ _
    case c2 => intro u hu; simp at hu; rcases hu with rfl | rfl <;> rfl
    case c3 => unfold maxLen; omega
    case c4 => omega
    case c5 => simp; omega
    intro v' w3 hown' hgrow _
    have R := hide (lay_two hB (unhide HO) hown' hgrow)
    clear hown' hgrow
    go_wp2
    go_ret
    exact ⟨_, rfl, (unhide R).1, (unhide R).2.1, (unhide R).2.2⟩
end Go.Proofs.YtohpifhpfijmcaaDoor
