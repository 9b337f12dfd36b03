/- Several texts in one. -/
import Derived.Test.YtcdhaikmedicfaaGreatDoorND
import Derived.Test.YtcdhaikmedicfaaGreatDoorAppG
import Derived.Lib.BufferRead
import Derived.Lib.Bytealg
import Derived.Test.YtcdhaikmedicfaaGreatDoorBase
import Derived.OrdersIn
import Derived.Deep.RegionHeld3
import Derived.OwnWalkIn
import Derived.Laws.Cover3
import Derived.Lib.ConvBytes
import Derived.Deep.Cut
/- Patterns of hyphens, in plain numbers: their letters, their digits, whether they are right. -/
namespace Go.Proofs.YtcdhaikmedicfaaGreatDoor
namespace Hyp
open Go.RowKit
set_option linter.unusedVariables false
structure St where
  L : List Int
  D : List Int
  d : Int
  b : Bool
def stp (s : St) (c : Int) : Option St :=
  if 49 ≤ c ∧ c ≤ 57 ∧ s.d = 0 then some ⟨s.L, s.D, c - 48, true⟩
  else if (97 ≤ c ∧ c ≤ 122) ∨ c = 46 then some ⟨s.L ++ [c], s.D ++ [s.d], 0, s.b⟩
  else none
def pr (t : ByteArray) : Nat → Option St
  | 0 => some ⟨[], [], 0, false⟩
  | i + 1 => (pr t i).bind fun s => stp s (bt t i : Int)
theorem pr_zero (t : ByteArray) : pr t 0 = some ⟨[], [], 0, false⟩ := rfl
theorem pr_next {t : ByteArray} {i : Nat} {s : St} (h : pr t i = some s) : pr t (i + 1) = stp s (bt t i : Int) := by
  rw [pr, h]
  rfl
theorem pr_none {t : ByteArray} {i : Nat} (h : pr t i = none) : ∀ k, pr t (i + k) = none
  | 0 => h
  | k + 1 => by
    rw [← Nat.add_assoc, pr, pr_none h k]
    rfl
def ltr (c : Int) : Prop := (97 ≤ c ∧ c ≤ 122) ∨ c = 46
structure Ok (s : St) (i : Nat) : Prop where
  len : s.D.length = s.L.length
  d0 : 0 ≤ s.d
  d9 : s.d ≤ 9
  dg : ∀ x ∈ s.D, 0 ≤ x ∧ x ≤ 9
  lt : ∀ x ∈ s.L, ltr x
  ge : i ≤ 2 * s.L.length + (if s.d = 0 then 0 else 1)
  le : s.L.length ≤ i
theorem pr_ok {t : ByteArray} : ∀ {i : Nat} {s : St}, pr t i = some s → Ok s i
  | 0, s, h => by
    rw [pr_zero] at h
    obtain rfl := Option.some.inj h
    exact ⟨rfl, by decide, by decide, (fun x hx => by cases hx), (fun x hx => by cases hx), by simp, by simp⟩
  | i + 1, s, h => by
    cases e : pr t i with
    | none => rw [pr_none e 1] at h; cases h
    | some s0 =>
      have o := pr_ok e
      rw [pr_next e] at h
      unfold stp at h
      have ge := o.ge
      split at h
      · rename_i c
        obtain rfl := Option.some.inj h
        rw [if_pos c.2.2] at ge
        refine ⟨o.len, by show 0 ≤ (bt t i : Int) - 48; omega, by show (bt t i : Int) - 48 ≤ 9; omega, o.dg, o.lt, ?_, by have := o.le; show s0.L.length ≤ i + 1; omega⟩
        show i + 1 ≤ 2 * s0.L.length + (if (bt t i : Int) - 48 = 0 then 0 else 1)
        rw [if_neg (by omega)]
        omega
      · split at h
        · rename_i c
          obtain rfl := Option.some.inj h
          refine ⟨by simp [o.len], by show (0 : Int) ≤ 0; omega, by show (0 : Int) ≤ 9; omega, ?_, ?_, ?_, by have := o.le; simp; omega⟩
          · intro x hx
            rcases List.mem_append.1 hx with hx | hx
            · exact o.dg x hx
            · rw [List.mem_singleton] at hx; subst hx; exact ⟨o.d0, o.d9⟩
          · intro x hx
            rcases List.mem_append.1 hx with hx | hx
            · exact o.lt x hx
            · rw [List.mem_singleton] at hx; subst hx; exact c
          · show i + 1 ≤ 2 * (s0.L ++ [(bt t i : Int)]).length + (if (0 : Int) = 0 then 0 else 1)
            rw [if_pos rfl, List.length_append, List.length_singleton]
            have : (if s0.d = 0 then 0 else 1) ≤ 1 := by split <;> omega
            omega
        · cases h
/-- A dot within. -/
def inner (L : List Int) : Bool := (List.range L.length).any fun i => decide (1 ≤ i) && (decide (i + 1 < L.length) && L.getD i 0 == 46)
theorem inner_iff (L : List Int) : inner L = true ↔ ∃ i, 1 ≤ i ∧ i + 1 < L.length ∧ L.getD i 0 = 46 := by
  unfold inner
  rw [List.any_eq_true]
  constructor
  · rintro ⟨i, hi, h⟩
    simp only [Bool.and_eq_true, decide_eq_true_eq, beq_iff_eq] at h
    exact ⟨i, h.1, h.2.1, h.2.2⟩
  · rintro ⟨i, h1, h2, h3⟩
    refine ⟨i, List.mem_range.2 (by omega), ?_⟩
    simp only [Bool.and_eq_true, decide_eq_true_eq, beq_iff_eq]
    exact ⟨h1, h2, h3⟩
theorem inner_no {L : List Int} (h : ∀ i, 1 ≤ i → i + 1 < L.length → L.getD i 0 ≠ 46) : inner L = false := by
  rw [Bool.eq_false_iff]
  intro e
  obtain ⟨i, h1, h2, h3⟩ := (inner_iff L).1 e
  exact h i h1 h2 h3
def okP (s : St) : Bool := s.b && (decide (1 ≤ s.L.length) && (decide (s.L.length ≤ 20) && !inner s.L))
def pat (t : ByteArray) : Option St := (pr t t.size).bind fun s => if okP s = true then some s else none
def right (t : ByteArray) : Bool := (pat t).isSome
theorem right_none {t : ByteArray} {i : Nat} (hi : i ≤ t.size) (h : pr t i = none) : right t = false := by
  have := pr_none h (t.size - i)
  rw [show i + (t.size - i) = t.size by omega] at this
  unfold right pat
  rw [this]
  rfl
theorem right_some {t : ByteArray} {s : St} (h : pr t t.size = some s) : right t = okP s := by
  unfold right pat
  rw [h]
  show (if okP s = true then some s else none).isSome = okP s
  cases okP s <;> rfl
theorem pat_some {t : ByteArray} {s : St} (h : pr t t.size = some s) (hr : right t = true) : pat t = some s := by
  rw [right_some h] at hr
  unfold pat
  rw [h]
  show (if okP s = true then some s else none) = some s
  rw [if_pos hr]
theorem pat_pr {t : ByteArray} {s : St} (h : pat t = some s) : pr t t.size = some s ∧ okP s = true := by
  unfold pat at h
  cases e : pr t t.size with
  | none => rw [e] at h; cases h
  | some s0 =>
    rw [e] at h
    change (if okP s0 = true then some s0 else none) = some s at h
    split at h
    · rename_i c
      obtain rfl := Option.some.inj h
      exact ⟨rfl, c⟩
    · cases h
/-- A pattern that is too long is none. -/
theorem right_long {t : ByteArray} (h : 41 < t.size) : right t = false := by
  cases e : pr t t.size with
  | none => exact right_none (Nat.le_refl _) e
  | some s =>
    rw [right_some e]
    have o := (pr_ok e).ge
    have : (if s.d = 0 then 0 else 1) ≤ 1 := by split <;> omega
    unfold okP
    rw [decide_eq_false (show ¬ s.L.length ≤ 20 by omega)]
    simp
end Hyp
end Go.Proofs.YtcdhaikmedicfaaGreatDoor
/- A pattern of hyphens, as the specification reads it. -/
namespace Go.Proofs.YtcdhaikmedicfaaGreatDoor
namespace Hyp
open Go.RowKit
set_option linter.unusedVariables false
set_option linter.unusedSimpArgs false
/-- Two rows of the call's own, in blocks apart. -/
structure Dw (B : Nat) (w : World) (e1 e2 : TypeId) (v1 v2 : Value) (n1 n2 : Nat) (X1 X2 : List Value) : Prop where
  o1 : w.ownsRow B e1 1 v1 n1 X1
  o2 : w.ownsRow B e2 1 v2 n2 X2
  d12 : ∀ k, v1.ownBlock = some k → v2.ownBlock ≠ some k
section T
variable {B : Nat} {w w1 w2 : World} {e1 e2 : TypeId} {v1 v2 v' : Value} {n1 n2 : Nat} {X1 X2 : List Value}
theorem own_atD {w w' : World} {B : Nat} {e : TypeId} {s : Nat} {v : Value} {n : Nat} {xs : List Value} (h : w.ownsRow B e s v n xs) (hs : ∀ k, v.ownBlock = some k → w'.heap[k]? = w.heap[k]?) : w'.ownsRow B e s v n xs := by
  refine ⟨h.1, ?_⟩
  rcases h.2 with h' | ⟨g, cap, cur, hv, hg, hh, r⟩
  · exact .inl h'
  · exact .inr ⟨g, cap, cur, hv, hg, (hs g (by rw [hv]; rfl)).trans hh, r⟩
theorem Dw.below (h : Dw B w e1 e2 v1 v2 n1 n2 X1 X2) (hb : Below w.heap.size w w1) : Dw B w1 e1 e2 v1 v2 n1 n2 X1 X2 :=
  ⟨own_atD h.o1 (fun k e => hb.block k (h.o1.lt k e).2), own_atD h.o2 (fun k e => hb.block k (h.o2.lt k e).2), h.d12⟩
theorem Dw.alloc (h : Dw B w e1 e2 v1 v2 n1 n2 X1 X2) (o : Obj) : Dw B (w.alloc o) e1 e2 v1 v2 n1 n2 X1 X2 := h.below ((Below.refl _ _).alloc (Nat.le_refl _) _)
theorem Dw.app1 (h : Dw B w e1 e2 v1 v2 n1 n2 X1 X2) (x : Value) (ho : w2.ownsRow B e1 1 v' (n1 + 1) (X1 ++ [x])) (hg : w.grownBy w2 v1.ownBlock) (hk : ∀ k, v'.ownBlock = some k → v1.ownBlock = some k ∨ w.heap.size ≤ k) : Dw B w2 e1 e2 v' v2 (n1 + 1) n2 (X1 ++ [x]) X2 := by
  refine ⟨ho, own_atD h.o2 (fun k e => ?_), fun k e e2 => ?_⟩
  · exact hg.block k (h.o2.lt k e).2 (fun e3 => h.d12 k e3.symm e)
  · rcases hk k e with e3 | e3
    · exact h.d12 k e3 e2
    · have := (h.o2.lt k e2).2; omega
theorem Dw.app2 (h : Dw B w e1 e2 v1 v2 n1 n2 X1 X2) (x : Value) (ho : w2.ownsRow B e2 1 v' (n2 + 1) (X2 ++ [x])) (hg : w.grownBy w2 v2.ownBlock) (hk : ∀ k, v'.ownBlock = some k → v2.ownBlock = some k ∨ w.heap.size ≤ k) : Dw B w2 e1 e2 v1 v' n1 (n2 + 1) X1 (X2 ++ [x]) := by
  refine ⟨own_atD h.o1 (fun k e => ?_), ho, fun k e e2 => ?_⟩
  · exact hg.block k (h.o1.lt k e).2 (fun e3 => h.d12 k e e3.symm)
  · rcases hk k e2 with e3 | e3
    · exact h.d12 k e e3
    · have := (h.o1.lt k e).2; omega
theorem Dw.set2 {g cap : Nat} (h : Dw B w e1 e2 v1 (.slice (some ⟨g, 0, none⟩) n2 cap) n1 n2 X1 X2) (i : Nat) (x : Value) : Dw B (w.setCell ⟨g, i, none⟩ x) e1 e2 v1 (.slice (some ⟨g, 0, none⟩) n2 cap) n1 n2 X1 (X2.set i x) := by
  refine ⟨own_atD h.o1 (fun k e => ?_), (h.o2.stored i x).1, h.d12⟩
  exact Below.heap_setCell _ _ _ _ (fun e3 => h.d12 k e (by show some g = some k; rw [e3]))
end T
theorem row_frm {w : World} {B n : Nat} {e : TypeId} {v : Value} {xs : List Value} (h : w.ownsRow B e 1 v n xs) : ∃ a cap, v = .slice a n cap ∧ (0 < n → ∃ b, a = some ⟨b, 0, none⟩ ∧ B ≤ b) := by
  rcases h.2 with ⟨rfl, h0⟩ | ⟨g, cap, cur, rfl, hb, _⟩
  · exact ⟨none, 0, by rw [h0], fun h => by omega⟩
  · exact ⟨_, cap, rfl, fun _ => ⟨g, rfl, hb⟩⟩
theorem conv_own (w : World) (B : Nat) (v : Value) (n : Nat) (zs : List Int) (h : w.ownsRow B 5 1 v n (zs.map (Value.int .u8))) :
    (convert 22 9 v).run Tryz.prog w = .ok (.string (strOfNums zs)) w := by
  have hl : zs.length = n := by simpa using h.1
  rcases h.2 with ⟨rfl, hn⟩ | ⟨g, cap, cur, hv, hg, hh, hn, hm, hs, ht⟩
  · obtain rfl : zs = [] := List.length_eq_zero_iff.1 (by omega)
    exact Lib.run_convert_nil_bytes w 22 9 5 0 Tryz.underlying22 Tryz.underlying5 Tryz.underlying9
  · subst hv
    refine conv_of w g cap zs n hl fun i hi => ?_
    rw [h.cellAt i (by omega), List.getElem?_map]
    simp [List.getD, show i < zs.length by omega]
theorem info5h : (Tryz.prog.info? 5).map (fun i => (i.zero, i.size, i.bytes)) = some (some (.int .u8 0), 1, 1) := by kernel_rfl
theorem pr_add {t : ByteArray} {i : Nat} {s : St} (h : pr t i = some s) {c : Int} (hc : (bt t i : Int) = c) : pr t (i + 1) = stp s c := by rw [pr_next h, hc]
def u8s (L : List Int) : List Value := L.map (Value.int .u8)
def i64s (L : List Int) : List Value := L.map (Value.int .i64)
set_option maxRecDepth 100000 in
set_option maxHeartbeats 8000000 in
theorem patS (t : ByteArray) (ht : t.size ≤ 1048576) (w : World) : Calls Tryz.prog 39 #[.string t] w fun e w' =>
    (∃ X v, e = .returned (.tuple #[.string X, v, .bool (right t)]) ∧ (right t = true → ∀ s, pat t = some s → X = strOfNums s.L ∧ w'.ownsRow w.heap.size 2 1 v (s.D.length + 1) (i64s (s.D ++ [s.d])))) ∧ Below w.heap.size w w' := by
  obtain ⟨i0, hi, hz0, hz1, hz2⟩ := info_parts info5h
  obtain ⟨j0, hj, hy0, hy1, hy2⟩ := info_parts info2
  have HT0 := hide (fun i (h : i ≤ t.size) (h2 : pr t i = none) => right_none h h2)
  have HT1 := hide (fun s (h : pr t t.size = some s) => right_some h)
  have HT2 := hide (fun s (h : pat t = some s) => pat_pr h)
  go_enter Tryz.func39, Tryz.ntmps39
  go_wp2
  obtain ⟨w1, hw1⟩ : ∃ w1, w1 = (w.alloc (.cells #[] 5)).alloc (.cells #[.int .i64 0] 2) := ⟨_, rfl⟩
  have h0 : Hid (Dw w.heap.size w1 5 2 (.slice (some ⟨w.heap.size, 0, none⟩) 0 0) (.slice (some ⟨w.heap.size + 1, 0, none⟩) 1 1) 0 1 (u8s ([] : List Int)) (i64s (([] : List Int) ++ [0]))) := hide (by
    rw [hw1]
    have hz : (w.alloc (.cells #[] 5)).heap.size = w.heap.size + 1 := by simp
    refine ⟨?_, ?_, fun k e e2 => ?_⟩
    · exact ownsRow_below (World.ownsRow_lit w #[] 0 (Nat.le_refl _) (by unfold maxLen; omega) rfl) ((Below.refl _ _).alloc (Nat.le_refl _) _)
    · have := World.ownsRow_lit (w.alloc (.cells #[] 5)) (e := 2) (size := 1) #[.int .i64 0] 1 (base := w.heap.size) (by omega) (by unfold maxLen; omega) rfl
      rw [hz] at this
      exact this
    · have : w.heap.size = k := by injection e
      have : w.heap.size + 1 = k := by injection e2
      omega)
  have b0 : Hid (Below w.heap.size w w1) := hide (by rw [hw1]; exact ((Below.refl _ _).alloc (Nat.le_refl _) _).alloc (by simp) _)
  have hl1 : 0 < w1.heap.size := by rw [hw1]; simp
  try rw [← hw1]
  clear hw1
  go_loopw [5, 6, 7, 8] (fun v5 v6 v7 v8 wr => ∃ (i : Nat) (s : St), i ≤ t.size ∧ v8 = .int .i64 (i : Int) ∧ v7 = .bool s.b ∧ Hid (pr t i = some s) ∧ Hid (Dw w.heap.size wr 5 2 v5 v6 s.L.length (s.L.length + 1) (u8s s.L) (i64s (s.D ++ [s.d]))) ∧ Hid (Below w.heap.size w wr)) (fun _ _ _ x _ => t.size - (intOf x).toNat)
  case atStart => exact ⟨0, ⟨[], [], 0, false⟩, by omega, rfl, rfl, hide rfl, h0, b0⟩
  case round =>
    obtain ⟨i, s, hi2, rfl, rfl, HP, HD, HB⟩ := hrel
    have hHD := unhide HD
    obtain ⟨a5, c5, rfl, hb5⟩ := row_frm hHD.o1
    obtain ⟨a6, c6, rfl, hb6⟩ := row_frm hHD.o2
    have o := pr_ok (unhide HP)
    have hL1 := o.le
    have hL2 := o.len
    have d0 := o.d0
    have d9 := o.d9
    have ok := hide o
    have eL : (u8s s.L).length = s.L.length := by simp [u8s]
    have eD : (i64s (s.D ++ [s.d])).length = s.L.length + 1 := by simp [i64s, hL2]
    obtain ⟨g6, rfl, hg6⟩ := hb6 (by omega)
    have cl : wr.cell? ⟨g6, s.L.length, none⟩ = some (.int .i64 s.d) := by
      have := hHD.o2.cellAt s.L.length (by simp [i64s, hL2])
      rw [this]
      simp [i64s, ← hL2]
    have clf := hHD.o2.frozenAt s.L.length
    clear hHD hb6 o
    by_cases hlt : i < t.size
    · have hI : (i : Int) < (t.size : Int) := by omega
      have hx : ∀ h, (((t[i]'h).toNat : Nat) : Int) = (bt t i : Int) := fun h => by rw [bt_get]
      have hc256 : (bt t i : Int) < 256 := by have := bt_lt t i; omega
      have hc0 : (0 : Int) ≤ (bt t i : Int) := by omega
      have HN := hide (fun (s2 : Option St) (h : stp s (bt t i : Int) = s2) => show pr t (i + 1) = s2 by rw [pr_next (unhide HP), h])
      have hsub : ((s.L.length : Int) + 1) - 1 = (s.L.length : Int) := by omega
      generalize (bt t i : Int) = c at *
      have HST : Hid (stp s c = if 49 ≤ c ∧ c ≤ 57 ∧ s.d = 0 then some ⟨s.L, s.D, c - 48, true⟩ else if (97 ≤ c ∧ c ≤ 122) ∨ c = 46 then some ⟨s.L ++ [c], s.D ++ [s.d], 0, s.b⟩ else none) := hide rfl
      by_cases q1 : 49 ≤ c
      · by_cases q2 : c ≤ 57
        · by_cases q3 : s.d = 0
          · have t3 : (s.d == 0) = true := by simpa using q3
            have HR := hide ((unhide HN) _ ((unhide HST).trans (if_pos ⟨q1, q2, q3⟩)))
            have hw8 : IntKind.u8.wrap (c - 48) = c - 48 := by simp [IntKind.wrap, IntKind.bits, IntKind.signed]; omega
            have D2 := hide ((unhide HD).set2 s.L.length (.int .i64 (c - 48)))
            have B2 : Hid (Below w.heap.size w (wr.setCell ⟨g6, s.L.length, none⟩ (.int .i64 (c - 48)))) := hide ((unhide HB).setCell (p := ⟨g6, s.L.length, none⟩) hg6 _)
            have eX : (i64s (s.D ++ [s.d])).set s.L.length (.int .i64 (c - 48)) = i64s (s.D ++ [c - 48]) := by
              unfold i64s
              rw [List.map_append, List.set_append, if_neg (by simp [hL2])]
              simp [hL2]
            rw [eX] at D2
            clear eX HST HN HP
            go_wp2_with fail
            go_roundw
            case rel => exact ⟨i + 1, _, by omega, by go_num, rfl, HR, D2, B2⟩
            case measure => simp [intOf]; omega
          · have t3 : (s.d == 0) = false := by simpa using q3
            have HR := hide ((unhide HT0) _ (by omega) ((unhide HN) _ ((unhide HST).trans ((if_neg (fun h => q3 h.2.2)).trans (if_neg (by omega))))))
            have r1 : ¬ 97 ≤ c := by omega
            have r2 : (c == 46) = false := by rw [beq_eq_false_iff_ne]; omega
            clear HST HN
            go_wp2_with fail
            go_ret3
            exact ⟨⟨⟨#[]⟩, .slice none 0 0, by rw [unhide HR] <;> rfl, fun h => by rw [unhide HR] at h; cases h⟩, unhide HB⟩
        · by_cases r1 : 97 ≤ c ∧ c ≤ 122
          · obtain ⟨r1, r1'⟩ := r1
            have HR := hide ((unhide HN) _ ((unhide HST).trans ((if_neg (by omega)).trans (if_pos (.inl ⟨r1, r1'⟩)))))
            clear HST HN
            go_wp2_with (at_builtin; go_loud (refine wpList_appG _ rfl _ _ 22 rfl w.heap.size 5 i0 (.int .u8 0) 1 1 Tryz.underlying22 hi hz0 hz1 hz2 rfl (by decide) _ _ _ rfl ((unhide HD).alloc _).o1 ⟨wr.heap.size, 0, none⟩ 1 1 [.int .u8 c] rfl rfl (cell_one_new _ _ _) (by intro u hu; simp at hu; subst hu; rfl) (by unfold maxLen; omega) (by omega) (by simp; have := (unhide HB).size; omega) ?_))
            intro v5 w3 hown' hgrow hblk
            have D3 := hide (((unhide HD).alloc (.cells #[.int .u8 c] 5)).app1 (.int .u8 c) hown' hgrow (by simpa using hblk))
            have B3 := hide (((unhide HB).alloc (unhide HB).size (.cells #[.int .u8 c] 5)).grown hgrow (by simp; have := (unhide HB).size; omega) (fun m hm => ((unhide HD).o1.lt m hm).1))
            clear hown' hgrow hblk
            go_wp2_with (at_builtin; go_loud (refine wpList_appG _ rfl _ _ 26 rfl w.heap.size 2 j0 (.int .i64 0) 1 8 Tryz.underlying26 hj hy0 hy1 hy2 rfl (by decide) _ _ _ rfl ((unhide D3).alloc _).o2 ⟨w3.heap.size, 0, none⟩ 1 1 [.int .i64 0] rfl rfl (cell_one_new _ _ _) (by intro u hu; simp at hu; subst hu; rfl) (by unfold maxLen; omega) (by omega) (by simp; have := (unhide B3).size; omega) ?_))
            intro v6 w4 hown' hgrow hblk
            have D4 := hide (((unhide D3).alloc (.cells #[.int .i64 0] 2)).app2 (.int .i64 0) hown' hgrow (by simpa using hblk))
            have B4 := hide (((unhide B3).alloc (unhide B3).size (.cells #[.int .i64 0] 2)).grown hgrow (by simp; have := (unhide B3).size; omega) (fun m hm => ((unhide D3).o2.lt m hm).1))
            clear hown' hgrow hblk
            obtain ⟨a7, c7, rfl, _⟩ := row_frm (unhide D4).o1
            obtain ⟨a8, c8, rfl, _⟩ := row_frm (unhide D4).o2
            go_wp2
            go_roundw
            case rel =>
              exact ⟨i + 1, ⟨s.L ++ [c], s.D ++ [s.d], 0, s.b⟩, by omega, by go_num, rfl, HR, (by simpa [u8s, i64s] using D4), B4⟩
            case measure => simp [intOf]; omega
          · by_cases r2 : c = 46
            · have t2 : (c == 46) = true := by simpa using r2
              have HR := hide ((unhide HN) _ ((unhide HST).trans ((if_neg (by omega)).trans (if_pos (.inr r2)))))
              have r3 : ¬ 97 ≤ c := by omega
              clear r2 r1
              clear HST HN
              go_wp2_with (at_builtin; go_loud (refine wpList_appG _ rfl _ _ 22 rfl w.heap.size 5 i0 (.int .u8 0) 1 1 Tryz.underlying22 hi hz0 hz1 hz2 rfl (by decide) _ _ _ rfl ((unhide HD).alloc _).o1 ⟨wr.heap.size, 0, none⟩ 1 1 [.int .u8 c] rfl rfl (cell_one_new _ _ _) (by intro u hu; simp at hu; subst hu; rfl) (by unfold maxLen; omega) (by omega) (by simp; have := (unhide HB).size; omega) ?_))
              intro v5 w3 hown' hgrow hblk
              have D3 := hide (((unhide HD).alloc (.cells #[.int .u8 c] 5)).app1 (.int .u8 c) hown' hgrow (by simpa using hblk))
              have B3 := hide (((unhide HB).alloc (unhide HB).size (.cells #[.int .u8 c] 5)).grown hgrow (by simp; have := (unhide HB).size; omega) (fun m hm => ((unhide HD).o1.lt m hm).1))
              clear hown' hgrow hblk
              go_wp2_with (at_builtin; go_loud (refine wpList_appG _ rfl _ _ 26 rfl w.heap.size 2 j0 (.int .i64 0) 1 8 Tryz.underlying26 hj hy0 hy1 hy2 rfl (by decide) _ _ _ rfl ((unhide D3).alloc _).o2 ⟨w3.heap.size, 0, none⟩ 1 1 [.int .i64 0] rfl rfl (cell_one_new _ _ _) (by intro u hu; simp at hu; subst hu; rfl) (by unfold maxLen; omega) (by omega) (by simp; have := (unhide B3).size; omega) ?_))
              intro v6 w4 hown' hgrow hblk
              have D4 := hide (((unhide D3).alloc (.cells #[.int .i64 0] 2)).app2 (.int .i64 0) hown' hgrow (by simpa using hblk))
              have B4 := hide (((unhide B3).alloc (unhide B3).size (.cells #[.int .i64 0] 2)).grown hgrow (by simp; have := (unhide B3).size; omega) (fun m hm => ((unhide D3).o2.lt m hm).1))
              clear hown' hgrow hblk
              obtain ⟨a7, c7, rfl, _⟩ := row_frm (unhide D4).o1
              obtain ⟨a8, c8, rfl, _⟩ := row_frm (unhide D4).o2
              go_wp2
              go_roundw
              case rel =>
                exact ⟨i + 1, ⟨s.L ++ [c], s.D ++ [s.d], 0, s.b⟩, by omega, by go_num, rfl, HR, (by simpa [u8s, i64s] using D4), B4⟩
              case measure => simp [intOf]; omega
            · have t2 : (c == 46) = false := by simpa using r2
              have HR := hide ((unhide HT0) _ (by omega) ((unhide HN) _ ((unhide HST).trans ((if_neg (by omega)).trans (if_neg (by omega))))))
              by_cases r3 : 97 ≤ c
              · have r4 : ¬ c ≤ 122 := by omega
                clear HST HN
                go_wp2_with fail
                go_ret3
                exact ⟨⟨⟨#[]⟩, .slice none 0 0, by rw [unhide HR] <;> rfl, fun h => by rw [unhide HR] at h; cases h⟩, unhide HB⟩
              · clear HST HN
                go_wp2_with fail
                go_ret3
                exact ⟨⟨⟨#[]⟩, .slice none 0 0, by rw [unhide HR] <;> rfl, fun h => by rw [unhide HR] at h; cases h⟩, unhide HB⟩
      · have r3 : ¬ 97 ≤ c := by omega
        by_cases r2 : c = 46
        · have t2 : (c == 46) = true := by simpa using r2
          have HR := hide ((unhide HN) _ ((unhide HST).trans ((if_neg (by omega)).trans (if_pos (.inr r2)))))
          clear r2
          clear HST HN
          go_wp2_with (at_builtin; go_loud (refine wpList_appG _ rfl _ _ 22 rfl w.heap.size 5 i0 (.int .u8 0) 1 1 Tryz.underlying22 hi hz0 hz1 hz2 rfl (by decide) _ _ _ rfl ((unhide HD).alloc _).o1 ⟨wr.heap.size, 0, none⟩ 1 1 [.int .u8 c] rfl rfl (cell_one_new _ _ _) (by intro u hu; simp at hu; subst hu; rfl) (by unfold maxLen; omega) (by omega) (by simp; have := (unhide HB).size; omega) ?_))
          intro v5 w3 hown' hgrow hblk
          have D3 := hide (((unhide HD).alloc (.cells #[.int .u8 c] 5)).app1 (.int .u8 c) hown' hgrow (by simpa using hblk))
          have B3 := hide (((unhide HB).alloc (unhide HB).size (.cells #[.int .u8 c] 5)).grown hgrow (by simp; have := (unhide HB).size; omega) (fun m hm => ((unhide HD).o1.lt m hm).1))
          clear hown' hgrow hblk
          go_wp2_with (at_builtin; go_loud (refine wpList_appG _ rfl _ _ 26 rfl w.heap.size 2 j0 (.int .i64 0) 1 8 Tryz.underlying26 hj hy0 hy1 hy2 rfl (by decide) _ _ _ rfl ((unhide D3).alloc _).o2 ⟨w3.heap.size, 0, none⟩ 1 1 [.int .i64 0] rfl rfl (cell_one_new _ _ _) (by intro u hu; simp at hu; subst hu; rfl) (by unfold maxLen; omega) (by omega) (by simp; have := (unhide B3).size; omega) ?_))
          intro v6 w4 hown' hgrow hblk
          have D4 := hide (((unhide D3).alloc (.cells #[.int .i64 0] 2)).app2 (.int .i64 0) hown' hgrow (by simpa using hblk))
          have B4 := hide (((unhide B3).alloc (unhide B3).size (.cells #[.int .i64 0] 2)).grown hgrow (by simp; have := (unhide B3).size; omega) (fun m hm => ((unhide D3).o2.lt m hm).1))
          clear hown' hgrow hblk
          obtain ⟨a7, c7, rfl, _⟩ := row_frm (unhide D4).o1
          obtain ⟨a8, c8, rfl, _⟩ := row_frm (unhide D4).o2
          go_wp2
          go_roundw
          case rel =>
            exact ⟨i + 1, ⟨s.L ++ [c], s.D ++ [s.d], 0, s.b⟩, by omega, by go_num, rfl, HR, (by simpa [u8s, i64s] using D4), B4⟩
          case measure => simp [intOf]; omega
        · have t2 : (c == 46) = false := by simpa using r2
          have HR := hide ((unhide HT0) _ (by omega) ((unhide HN) _ ((unhide HST).trans ((if_neg (by omega)).trans (if_neg (by omega))))))
          clear HST HN
          go_wp2_with fail
          go_ret3
          exact ⟨⟨⟨#[]⟩, .slice none 0 0, by rw [unhide HR] <;> rfl, fun h => by rw [unhide HR] at h; cases h⟩, unhide HB⟩
    · obtain rfl : i = t.size := by omega
      have HPR := hide (show pr t t.size = some s from unhide HP)
      have HRT := hide ((unhide HT1) s (unhide HP))
      have hcv := conv_own wr _ _ _ s.L (unhide HD).o1
      have hiff := hide (inner_iff s.L)
      have hno := hide (@inner_no s.L)
      have HO : Hid (okP s = (s.b && (decide (1 ≤ s.L.length) && (decide (s.L.length ≤ 20) && !inner s.L)))) := hide rfl
      have hcl : Hid (∀ j, j < s.L.length → wr.cell? ⟨(match a5 with | some x => x.block | none => 0), j, none⟩ = some (.int .u8 (s.L.getD j 0))) := hide (by
        intro j hj
        obtain ⟨b5, rfl, _⟩ := hb5 (by omega)
        have := (unhide HD).o1.cellAt j (by simp [u8s]; omega)
        rw [this]
        simp [u8s, List.getD_eq_getElem?_getD, hj])
      clear cl clf HP
      go_wp2_with fail
      go_loopw [11] (fun v11 wr' => ∃ j : Nat, 1 ≤ j ∧ j ≤ s.L.length + 1 ∧ v11 = .int .i64 (j : Int) ∧ wr' = wr ∧ Hid (∀ i, 1 ≤ i → i < j → i + 1 < s.L.length → s.L.getD i 0 ≠ 46)) (fun x _ => s.L.length + 1 - (intOf x).toNat)
      case atStart => exact ⟨1, by omega, by omega, rfl, rfl, hide (fun i h1 h2 => by omega)⟩
      case round =>
        obtain ⟨j, hj1, hj2, rfl, hwr, HJ⟩ := hrel
        obtain rfl := hwr.symm
        clear hwr
        by_cases q : j + 1 < s.L.length
        · have qI : (j : Int) + 1 < (s.L.length : Int) := by omega
          obtain ⟨b5, rfl, _⟩ := hb5 (by omega)
          have cj := (unhide hcl) j (by omega)
          simp only at cj
          have HJJ := hide ((unhide HJ))
          have HYES := hide (fun (h : s.L.getD j 0 = 46) => show right t = false by
            rw [unhide HRT, unhide HO, (unhide hiff).2 ⟨j, hj1, q, h⟩]
            simp)
          have HNX := hide (fun (h : s.L.getD j 0 ≠ 46) i (h1 : 1 ≤ i) (h2 : i < j + 1) (h3 : i + 1 < s.L.length) => show s.L.getD i 0 ≠ 46 by
            by_cases e : i = j
            · rw [e]; exact h
            · exact (unhide HJ) i h1 (by omega) h3)
          generalize s.L.getD j 0 = c at *
          by_cases e : c = 46
          · have te : (c == 46) = true := by simpa using e
            have HR := hide ((unhide HYES) e)
            clear e
            go_wp2_with fail
            go_ret3
            exact ⟨⟨⟨#[]⟩, .slice none 0 0, by rw [unhide HR] <;> rfl, fun h => by rw [unhide HR] at h; cases h⟩, unhide HB⟩
          · have te : (c == 46) = false := by simpa using e
            have HN2 := hide ((unhide HNX) e)
            clear e
            go_wp2_with fail
            go_roundw
            case rel => exact ⟨j + 1, by omega, by omega, by go_num, by first | rfl | trivial, HN2⟩
            case measure => simp [intOf]; omega
        · have qI : ¬ (j : Int) + 1 < (s.L.length : Int) := by omega
          have hin : Hid (inner s.L = false) := hide ((unhide hno) (fun i h1 h2 => (unhide HJ) i h1 (by omega) h2))
          have HR : Hid (right t = (s.b && (decide (1 ≤ s.L.length) && decide (s.L.length ≤ 20)))) := hide (by rw [unhide HRT, unhide HO, unhide hin]; simp)
          have fin : ∀ x : Bool, (s.b && (decide (1 ≤ s.L.length) && decide (s.L.length ≤ 20))) = x → (∃ X v, Ending.returned (.tuple #[.string (strOfNums s.L), .slice (some ⟨g6, 0, none⟩) (s.L.length + 1) c6, .bool x]) = .returned (.tuple #[.string X, v, .bool (right t)]) ∧ (right t = true → ∀ s, pat t = some s → X = strOfNums s.L ∧ wr.ownsRow w.heap.size 2 1 v (s.D.length + 1) (i64s (s.D ++ [s.d])))) ∧ Below w.heap.size w wr := by
            intro x hx
            refine ⟨⟨_, _, by rw [unhide HR, hx], fun h s2 h2 => ?_⟩, unhide HB⟩
            have h3 := ((unhide HT2) s2 h2).1
            rw [unhide HPR] at h3
            obtain rfl := Option.some.inj h3
            refine ⟨rfl, ?_⟩
            have := (unhide HD).o2
            rw [hL2]
            exact this
          have FIN := hide fin
          clear fin HRT HO hiff hno hcl HR HPR HT0 HT1
          generalize s.b = bb at *
          cases bb
          · have H1 := hide ((unhide FIN) false rfl)
            clear FIN
            go_wp2_with fail
            go_ret3
            exact unhide H1
          · by_cases z1 : 1 ≤ s.L.length
            · have zI : (1 : Int) ≤ (s.L.length : Int) := by omega
              by_cases z2 : s.L.length ≤ 20
              · have zJ : (s.L.length : Int) ≤ 20 := by omega
                have H1 := hide ((unhide FIN) true (by simp [z1, z2]))
                clear FIN
                go_wp2_with fail
                go_ret3
                exact unhide H1
              · have zJ : ¬ (s.L.length : Int) ≤ 20 := by omega
                have H1 := hide ((unhide FIN) false (by simp; omega))
                clear FIN
                go_wp2_with fail
                go_ret3
                exact unhide H1
            · have zI : ¬ (1 : Int) ≤ (s.L.length : Int) := by omega
              have H1 := hide ((unhide FIN) false (by simp; omega))
              clear FIN
              go_wp2_with fail
              go_ret3
              exact unhide H1
end Hyp
end Go.Proofs.YtcdhaikmedicfaaGreatDoor
/- A dot ahead, behind and within, as the program asks of a pattern's letters. -/
namespace Go.Proofs.YtcdhaikmedicfaaGreatDoor
namespace Hyp
open Go.RowKit
set_option linter.unusedVariables false
set_option maxRecDepth 100000 in
theorem idxD (t : ByteArray) (w : World) : Calls Tryz.prog 100 #[.string t, .string ⟨#[46]⟩] w fun e w' => e = .returned (.int .i64 (Lib.indexByte t.data.toList 46)) ∧ w' = w := by
  obtain ⟨j, h⟩ : ∃ j, Lib.indexByte t.data.toList 46 = j := ⟨_, rfl⟩
  have HE := hide h
  rw [h]
  have C3 : Hid (∀ w, Calls Tryz.prog 120 #[.string t, .int .u8 46] w fun e w' => e = .returned (.int .i64 j) ∧ w' = w) := hide (fun w => by
    go_enter Tryz.func120, Tryz.ntmps120
    go_wp2
    rw [run_callFunc_extern Tryz.func129 (by kernel_rfl) (by kernel_rfl) (by kernel_rfl) (e := Extern.BytealgIndexByte.indexByte) (by kernel_rfl), Lib.run_indexByteString]
    simp only [Result.andThen]
    rw [Oper.upon_value]
    go_wp2
    go_ret
    exact ⟨rfl, rfl⟩)
  have C2 : Hid (∀ w, Calls Tryz.prog 101 #[.string t, .string ⟨#[46]⟩] w fun e w' => e = .returned (.int .i64 j) ∧ w' = w) := hide (fun w => by
    by_cases hq : ([46] == t.toList) = true
    · have hj : j = 0 := by
        have e := (beq_iff_eq.1 hq).symm
        rw [ByteArray.toList_eq] at e
        rw [e] at h
        rw [← h]
        decide
      subst hj
      clear C3 HE h
      go_enter Tryz.func101, Tryz.ntmps101
      go_wp2
      go_ret
      exact ⟨rfl, rfl⟩
    · have hq2 : ([46] == t.toList) = false := by simpa using hq
      clear hq h HE
      go_enter Tryz.func101, Tryz.ntmps101
      go_wp2_with (go_at_call 120; refine ((unhide C3) _).mono ?_; rintro e w' ⟨rfl, hw⟩; obtain rfl := hw.symm; clear hw)
      go_ret
      exact ⟨rfl, rfl⟩)
  clear h C3 HE
  go_enter Tryz.func100, Tryz.ntmps100
  go_wp2_with (go_at_call 101; refine ((unhide C2) _).mono ?_; rintro e w' ⟨rfl, hw⟩; obtain rfl := hw.symm; clear hw)
  go_ret
  exact ⟨rfl, rfl⟩
/-- Whether a dot stands in a text. -/
def dots (t : ByteArray) : Bool := decide (0 ≤ Lib.indexByte t.data.toList 46)
theorem conD (t : ByteArray) (w : World) : Calls Tryz.prog 74 #[.string t, .string ⟨#[46]⟩] w fun e w' => e = .returned (.bool (dots t)) ∧ w' = w := by
  have C := hide (fun W => idxD t W)
  unfold dots
  generalize Lib.indexByte t.data.toList 46 = j at *
  go_enter Tryz.func74, Tryz.ntmps74
  go_wp2_with (go_at_call 100; refine ((unhide C) _).mono ?_; rintro e w' ⟨rfl, hw⟩; obtain rfl := hw.symm; clear hw)
  go_ret
  exact ⟨rfl, rfl⟩
def hdP (t : ByteArray) : Bool := decide (0 < t.size) && ((t.extract 0 1).toList == [46])
def hdS (t : ByteArray) : Bool := decide (0 < t.size) && ((t.extract (t.size - 1) t.size).toList == [46])
def trP (t : ByteArray) : ByteArray := if hdP t = true then t.extract 1 t.size else t
def trS (t : ByteArray) : ByteArray := if hdS t = true then t.extract 0 (t.size - 1) else t
set_option maxRecDepth 100000 in
theorem hasP (t : ByteArray) (w : World) : Calls Tryz.prog 88 #[.string t, .string ⟨#[46]⟩] w fun e w' => e = .returned (.bool (hdP t)) ∧ w' = w := by
  have HE : Hid (hdP t = (decide (0 < t.size) && ((t.extract 0 1).toList == [46]))) := hide rfl
  generalize hdP t = x at *
  by_cases h : 0 < t.size
  · have h1 : (1 : Int) ≤ (t.size : Int) := by omega
    rw [decide_eq_true h, Bool.true_and] at HE
    go_enter Tryz.func88, Tryz.ntmps88
    go_wp2
    go_ret
    exact ⟨by rw [unhide HE]; rfl, rfl⟩
  · have h1 : ¬ (1 : Int) ≤ (t.size : Int) := by omega
    rw [decide_eq_false h, Bool.false_and] at HE
    go_enter Tryz.func88, Tryz.ntmps88
    go_wp2
    go_ret
    exact ⟨by rw [unhide HE]; rfl, rfl⟩
set_option maxRecDepth 100000 in
theorem hasS (t : ByteArray) (w : World) (ht : t.size ≤ 1048576) : Calls Tryz.prog 119 #[.string t, .string ⟨#[46]⟩] w fun e w' => e = .returned (.bool (hdS t)) ∧ w' = w := by
  have HE : Hid (hdS t = (decide (0 < t.size) && ((t.extract (t.size - 1) t.size).toList == [46]))) := hide rfl
  generalize hdS t = x at *
  by_cases h : 0 < t.size
  · have h1 : (1 : Int) ≤ (t.size : Int) := by omega
    have h2 : (t.size : Int) - 1 = ((t.size - 1 : Nat) : Int) := by omega
    rw [decide_eq_true h, Bool.true_and] at HE
    go_enter Tryz.func119, Tryz.ntmps119
    go_wp2
    go_ret
    exact ⟨by rw [unhide HE]; rfl, rfl⟩
  · have h1 : ¬ (1 : Int) ≤ (t.size : Int) := by omega
    rw [decide_eq_false h, Bool.false_and] at HE
    go_enter Tryz.func119, Tryz.ntmps119
    go_wp2
    go_ret
    exact ⟨by rw [unhide HE]; rfl, rfl⟩
set_option maxRecDepth 100000 in
theorem trimP (t : ByteArray) (w : World) : Calls Tryz.prog 73 #[.string t, .string ⟨#[46]⟩] w fun e w' => e = .returned (.string (trP t)) ∧ w' = w := by
  have C2 : Hid (∀ w, Calls Tryz.prog 99 #[.string t, .string ⟨#[46]⟩] w fun e w' => e = .returned (.string (trP t)) ∧ w' = w) := hide (fun w => by
    have CH := hide (hasP t w)
    have HE : Hid (trP t = if hdP t = true then t.extract 1 t.size else t) := hide rfl
    have h0 : hdP t = true → 1 ≤ t.size := fun h => by unfold hdP at h; simp at h; omega
    generalize trP t = x at *
    generalize hdP t = b at *
    cases b
    · go_enter Tryz.func99, Tryz.ntmps99
      go_wp2_with (go_at_call 88; refine (unhide CH).mono ?_; rintro e w' ⟨rfl, hw⟩; obtain rfl := hw.symm; clear hw)
      go_ret
      exact ⟨by rw [unhide HE]; rfl, rfl⟩
    · have h1 := h0 rfl
      have h2 : (1 : Int) ≤ (t.size : Int) := by omega
      go_enter Tryz.func99, Tryz.ntmps99
      go_wp2_with (go_at_call 88; refine (unhide CH).mono ?_; rintro e w' ⟨rfl, hw⟩; obtain rfl := hw.symm; clear hw)
      go_ret
      exact ⟨by rw [unhide HE]; rfl, rfl⟩)
  go_enter Tryz.func73, Tryz.ntmps73
  go_wp2_with (go_at_call 99; refine ((unhide C2) _).mono ?_; rintro e w' ⟨rfl, hw⟩; obtain rfl := hw.symm; clear hw)
  go_ret
  exact ⟨rfl, rfl⟩
set_option maxRecDepth 100000 in
theorem trimS (t : ByteArray) (ht : t.size ≤ 1048576) (w : World) : Calls Tryz.prog 72 #[.string t, .string ⟨#[46]⟩] w fun e w' => e = .returned (.string (trS t)) ∧ w' = w := by
  have C2 : Hid (∀ w, Calls Tryz.prog 98 #[.string t, .string ⟨#[46]⟩] w fun e w' => e = .returned (.string (trS t)) ∧ w' = w) := hide (fun w => by
    have CH := hide (hasS t w ht)
    have HE : Hid (trS t = if hdS t = true then t.extract 0 (t.size - 1) else t) := hide rfl
    have h0 : hdS t = true → 1 ≤ t.size := fun h => by unfold hdS at h; simp at h; omega
    generalize trS t = x at *
    generalize hdS t = b at *
    cases b
    · go_enter Tryz.func98, Tryz.ntmps98
      go_wp2_with (go_at_call 119; refine (unhide CH).mono ?_; rintro e w' ⟨rfl, hw⟩; obtain rfl := hw.symm; clear hw)
      go_ret
      exact ⟨by rw [unhide HE]; rfl, rfl⟩
    · have h1 := h0 rfl
      have h2 : (t.size : Int) - 1 = ((t.size - 1 : Nat) : Int) := by omega
      have h3 : ((t.size - 1 : Nat) : Int) ≤ (t.size : Int) := by omega
      go_enter Tryz.func98, Tryz.ntmps98
      go_wp2_with (go_at_call 119; refine (unhide CH).mono ?_; rintro e w' ⟨rfl, hw⟩; obtain rfl := hw.symm; clear hw)
      go_ret
      exact ⟨by rw [unhide HE]; rfl, rfl⟩)
  go_enter Tryz.func72, Tryz.ntmps72
  go_wp2_with (go_at_call 98; refine ((unhide C2) _).mono ?_; rintro e w' ⟨rfl, hw⟩; obtain rfl := hw.symm; clear hw)
  go_ret
  exact ⟨rfl, rfl⟩
theorem withinH (p a b : Int) (w : World) : Calls Tryz.prog 29 #[.int .i64 p, .int .i64 a, .int .i64 b] w fun e w' => e = .returned (.bool (decide (a ≤ p) && decide (p ≤ b))) ∧ w' = w := by
  have rb : ∀ {x y : Bool}, x = y → (Ending.returned (.bool x) : Ending) = .returned (.bool y) := fun h => by rw [h]
  by_cases h1 : a ≤ p
  · by_cases h2 : p ≤ b
    · go_enter Tryz.func29, Tryz.ntmps29
      go_wp2
      go_ret
      exact ⟨rb (x := true) (by simp [h1, h2]), rfl⟩
    · go_enter Tryz.func29, Tryz.ntmps29
      go_wp2
      go_ret
      exact ⟨rb (x := false) (by simp [h2]), rfl⟩
  · go_enter Tryz.func29, Tryz.ntmps29
    go_wp2
    go_ret
    exact ⟨rb (x := false) (by simp; omega), rfl⟩
theorem smallH (c : Int) (h0 : 0 ≤ c) (h1 : c < 256) (w : World) : Calls Tryz.prog 52 #[.int .u8 c] w fun e w' => e = .returned (.bool (decide (97 ≤ c) && decide (c ≤ 122))) ∧ w' = w := by
  have C := hide (fun W => withinH c 97 122 W)
  generalize (decide (97 ≤ c) && decide (c ≤ 122)) = b at *
  go_enter Tryz.func52, Tryz.ntmps52
  go_wp2_with (go_at_call 29; refine ((unhide C) _).mono ?_; rintro e w' ⟨rfl, hw⟩; obtain rfl := hw.symm; clear hw)
  go_ret
  exact ⟨rfl, rfl⟩
/-- A pattern's letters are right, as the program asks. -/
def lrt (x : ByteArray) : Bool := (decide (1 ≤ x.size) && decide (x.size ≤ 20)) && !dots (trS (trP x))
theorem trP_le (t : ByteArray) : (trP t).size ≤ t.size := by
  unfold trP
  split
  · rw [ByteArray.size_extract]; omega
  · omega
set_option maxRecDepth 100000 in
theorem rightH (x : ByteArray) (hx : x.size ≤ 1048576) (v : Value) (hv : v.cells = #[v]) (w : World) : Calls Tryz.prog 53 #[.agg #[.string x, v]] w fun e w' => e = .returned (.bool (lrt x)) ∧ Below w.heap.size w w' := by
  have C1 := hide (fun W => trimP x W)
  have C2 := hide (fun W => trimS (trP x) (by have := trP_le x; omega) W)
  have C3 := hide (fun W => conD (trS (trP x)) W)
  have C4 := hide (fun W => withinH (x.size : Int) 1 20 W)
  have e1 : (decide ((1 : Int) ≤ (x.size : Int)) && decide ((x.size : Int) ≤ 20)) = (decide (1 ≤ x.size) && decide (x.size ≤ 20)) := by
    congr 1 <;> exact decide_eq_decide.2 (by omega)
  rw [e1] at C4
  have HE : Hid (lrt x = ((decide (1 ≤ x.size) && decide (x.size ≤ 20)) && !dots (trS (trP x)))) := hide rfl
  clear e1
  generalize lrt x = r at *
  generalize dots (trS (trP x)) = b2 at *
  generalize (decide (1 ≤ x.size) && decide (x.size ≤ 20)) = b1 at *
  generalize trS (trP x) = y2 at *
  generalize trP x = y1 at *
  cases b1
  · go_enter Tryz.func53, Tryz.ntmps53
    go_wp2_with (first
      | (go_at_call 73; refine ((unhide C1) _).mono ?_; rintro e w' ⟨rfl, hw⟩; obtain rfl := hw.symm; clear hw)
      | (go_at_call 72; refine ((unhide C2) _).mono ?_; rintro e w' ⟨rfl, hw⟩; obtain rfl := hw.symm; clear hw)
      | (go_at_call 29; refine ((unhide C4) _).mono ?_; rintro e w' ⟨rfl, hw⟩; obtain rfl := hw.symm; clear hw))
    go_ret
    exact ⟨by rw [unhide HE]; rfl, (Below.refl _ _).alloc (Nat.le_refl _) _⟩
  · cases b2
    all_goals
      go_enter Tryz.func53, Tryz.ntmps53
      go_wp2_with (first
        | (go_at_call 73; refine ((unhide C1) _).mono ?_; rintro e w' ⟨rfl, hw⟩; obtain rfl := hw.symm; clear hw)
        | (go_at_call 72; refine ((unhide C2) _).mono ?_; rintro e w' ⟨rfl, hw⟩; obtain rfl := hw.symm; clear hw)
        | (go_at_call 29; refine ((unhide C4) _).mono ?_; rintro e w' ⟨rfl, hw⟩; obtain rfl := hw.symm; clear hw)
        | (go_at_call 74; refine ((unhide C3) _).mono ?_; rintro e w' ⟨rfl, hw⟩; obtain rfl := hw.symm; clear hw))
      go_ret
      exact ⟨by rw [unhide HE]; rfl, (Below.refl _ _).alloc (Nat.le_refl _) _⟩
end Hyp
end Go.Proofs.YtcdhaikmedicfaaGreatDoor
/- Dots ahead, behind and within: what the program asks of letters is what the patterns' rule says (pure). -/
namespace Go.Proofs.YtcdhaikmedicfaaGreatDoor
namespace Hyp
open Go.RowKit
set_option linter.unusedVariables false
theorem idx_ge (l : List UInt8) (c : UInt8) : 0 ≤ Lib.indexByte l c ↔ c ∈ l := by
  induction l with
  | nil => simp [Lib.indexByte]
  | cons b l ih =>
    have hg := Lib.indexByte_ge l c
    unfold Lib.indexByte
    by_cases h : b = c
    · simp [h]
    · have h' : (b == c) = false := by simpa using h
      rw [h']
      simp only [Bool.false_eq_true, if_false, List.mem_cons]
      by_cases e : Lib.indexByte l c = -1
      · have e' : (Lib.indexByte l c == -1) = true := by simpa using e
        rw [e']
        simp only [if_true]
        constructor
        · intro hh; omega
        · rintro (hh | hh)
          · exact absurd hh.symm h
          · have := ih.2 hh; omega
      · have e' : (Lib.indexByte l c == -1) = false := by simpa using e
        rw [e']
        simp only [Bool.false_eq_true, if_false]
        constructor
        · intro _; exact .inr (ih.1 (by omega))
        · intro _; omega
theorem ext_list (x : ByteArray) (a b : Nat) : (x.extract a b).data.toList = (x.data.toList.take b).drop a := by
  rw [ByteArray.data_extract, Array.toList_extract, List.extract_eq_take_drop, List.drop_take]
def tp (l : List UInt8) : List UInt8 := if l.take 1 = [46] then l.drop 1 else l
def ts (l : List UInt8) : List UInt8 := if l.drop (l.length - 1) = [46] then l.take (l.length - 1) else l
theorem sz_list (x : ByteArray) : x.size = x.data.toList.length := by rw [Array.length_toList, ByteArray.size_data]
theorem trP_list (x : ByteArray) : (trP x).data.toList = tp x.data.toList := by
  have e : (x.extract 0 1).toList = x.data.toList.take 1 := by rw [ByteArray.toList_eq, ext_list, List.drop_zero]
  have e2 : (x.extract 1 x.size).data.toList = x.data.toList.drop 1 := by rw [ext_list, sz_list, List.take_length]
  have hs := sz_list x
  have hp : hdP x = (decide (0 < x.size) && ((x.extract 0 1).toList == [46])) := rfl
  rw [e] at hp
  unfold trP tp
  by_cases h : x.data.toList.take 1 = [46]
  · have h0 : 0 < x.size := by
      rw [hs]
      cases hl : x.data.toList with
      | nil => rw [hl] at h; cases h
      | cons a l => exact Nat.succ_pos _
    have : hdP x = true := by rw [hp, h, decide_eq_true h0]; rfl
    rw [if_pos h, if_pos this, e2]
  · have : ¬ hdP x = true := by
      rw [hp]
      intro hh
      rw [Bool.and_eq_true, beq_iff_eq] at hh
      exact h hh.2
    rw [if_neg h, if_neg this]
theorem trS_list (x : ByteArray) : (trS x).data.toList = ts x.data.toList := by
  have e : (x.extract (x.size - 1) x.size).toList = x.data.toList.drop (x.data.toList.length - 1) := by
    rw [ByteArray.toList_eq, ext_list, sz_list, List.take_length]
  have e2 : (x.extract 0 (x.size - 1)).data.toList = x.data.toList.take (x.data.toList.length - 1) := by rw [ext_list, sz_list, List.drop_zero]
  have hs := sz_list x
  have hp : hdS x = (decide (0 < x.size) && ((x.extract (x.size - 1) x.size).toList == [46])) := rfl
  rw [e] at hp
  unfold trS ts
  by_cases h : x.data.toList.drop (x.data.toList.length - 1) = [46]
  · have h0 : 0 < x.size := by
      rw [hs]
      cases hl : x.data.toList with
      | nil => rw [hl] at h; cases h
      | cons a l => exact Nat.succ_pos _
    have : hdS x = true := by rw [hp, h, decide_eq_true h0]; rfl
    rw [if_pos h, if_pos this, e2]
  · have : ¬ hdS x = true := by
      rw [hp]
      intro hh
      rw [Bool.and_eq_true, beq_iff_eq] at hh
      exact h hh.2
    rw [if_neg h, if_neg this]
theorem trim_mem (a z : UInt8) (k : List UInt8) : 46 ∈ ts (tp (a :: (k ++ [z]))) ↔ 46 ∈ k := by
  have h1 : ts (k ++ [z]) = if z = 46 then k else k ++ [z] := by
    unfold ts
    simp
  have h2 : ts (a :: (k ++ [z])) = if z = 46 then a :: k else a :: (k ++ [z]) := by
    have := h1
    unfold ts
    have e : (a :: (k ++ [z])).length - 1 = (a :: k).length := by simp
    rw [e, ← List.cons_append]
    simp
  unfold tp
  by_cases ha : a = 46
  · rw [if_pos (by simp [ha])]
    simp only [List.drop_succ_cons, List.drop_zero]
    rw [h1]
    split
    · exact Iff.rfl
    · rename_i hz
      simp [Ne.symm hz]
  · rw [if_neg (by simp [ha]), h2]
    split
    · simp [Ne.symm ha]
    · rename_i hz
      simp [Ne.symm hz, Ne.symm ha]
theorem trim_one (a : UInt8) : ¬ 46 ∈ ts (tp [a]) := by
  unfold tp
  by_cases ha : a = 46
  · rw [if_pos (by simp [ha])]
    simp [ts]
  · rw [if_neg (by simp [ha])]
    unfold ts
    simp [ha, Ne.symm ha]
def by8 (c : Int) : UInt8 := UInt8.ofNat c.toNat
theorem by8_dot {c : Int} (h : ltr c) : by8 c = 46 ↔ c = 46 := by
  unfold ltr at h
  constructor
  · intro e
    have := congrArg UInt8.toNat e
    unfold by8 at this
    rw [UInt8.toNat_ofNat_of_lt' (by show c.toNat < 256; omega)] at this
    simp at this
    omega
  · intro e
    subst e
    rfl
theorem inner_mem (a z : Int) (k : List Int) : inner (a :: (k ++ [z])) = true ↔ 46 ∈ k := by
  rw [inner_iff]
  constructor
  · rintro ⟨i, h1, h2, h3⟩
    obtain ⟨j, rfl⟩ : ∃ j, i = j + 1 := ⟨i - 1, by omega⟩
    simp at h2
    rw [List.getD_cons_succ, List.getD_eq_getElem?_getD, List.getElem?_append_left (by omega), List.getElem?_eq_getElem (by omega)] at h3
    exact (show k[j] = 46 from h3) ▸ List.getElem_mem _
  · intro h
    obtain ⟨j, hj, e⟩ := List.getElem_of_mem h
    refine ⟨j + 1, by omega, by simp; omega, ?_⟩
    rw [List.getD_cons_succ, List.getD_eq_getElem?_getD, List.getElem?_append_left hj, List.getElem?_eq_getElem hj]
    exact e
theorem dots_inner {L : List Int} (h : ∀ x ∈ L, ltr x) : dots (trS (trP (strOfNums L))) = inner L := by
  rw [Bool.eq_iff_iff]
  unfold dots
  rw [decide_eq_true_iff, idx_ge, trS_list, trP_list]
  have e : (strOfNums L).data.toList = L.map by8 := rfl
  rw [e]
  cases L with
  | nil => simp [tp, ts, inner]
  | cons a m =>
    rcases List.eq_nil_or_concat m with rfl | ⟨k, z, rfl⟩
    · have h2 : inner [a] = false := inner_no (fun i h1 h2 => by simp at h2)
      rw [h2]
      have := trim_one (by8 a)
      simpa using this
    · rw [List.concat_eq_append] at *
      rw [inner_mem, List.map_cons, List.map_append, List.map_cons, List.map_nil, trim_mem, List.mem_map]
      constructor
      · rintro ⟨c, hc, e⟩
        have := (by8_dot (h c (by simp [hc]))).1 e
        exact this ▸ hc
      · intro hc
        exact ⟨46, hc, rfl⟩
theorem lrt_ok {s : St} {i : Nat} (h : Ok s i) : (s.b && lrt (strOfNums s.L)) = okP s := by
  unfold lrt okP
  rw [strOfNums_size, dots_inner h.lt, Bool.and_assoc]
end Hyp
end Go.Proofs.YtcdhaikmedicfaaGreatDoor
/- A drawn region by one invariant over what has been done already: one step an operation, whatever the order. -/
namespace Go.Proofs.YtcdhaikmedicfaaGreatDoor.Hyp
section
variable {F : Fence} {n : Nat} {P : Program} {ops : Array Oper} {Q : Exit → Act → World → Prop}
theorem cnt_set : ∀ (l : List Bool) (i : Nat), l[i]? = some false → (l.set i true).count false + 1 = l.count false
  | [], i, h => by simp at h
  | b :: l, 0, h => by
    simp at h
    subst h
    simp
  | b :: l, i + 1, h => by
    have ih := cnt_set l i (by simpa using h)
    rw [List.set_cons_succ, List.count_cons, List.count_cons]
    omega
/-- Each operation waits for earlier ones alone. -/
def backs (ops : Array Oper) : Bool := (List.range ops.size).all fun i => ((ops[i]?).map (·.after.all fun e => !Region.binds .any e || decide (e.on < i))).getD true
theorem ready_nil {l : Array Bool} (hb : backs ops = true) (hl : l.size = ops.size) (hr : Region.ready .any ops l = []) (i : Nat) : i < ops.size → l[i]? = some true := by
  induction i using Nat.strongRecOn with
  | _ i ih =>
    intro hi
    have hil : i < l.size := by omega
    cases e : l[i] with
    | true => rw [Array.getElem?_eq_getElem hil, e]
    | false =>
      have hm : i ∈ Region.ready .any ops l := by
        refine mem_ready.2 ⟨by simp [hil, e], ops[i], Array.getElem?_eq_getElem hi, fun d hd hbd => ?_⟩
        have h1 := List.all_eq_true.1 hb i (List.mem_range.2 hi)
        rw [Array.getElem?_eq_getElem hi] at h1
        simp only [Option.map_some, Option.getD_some] at h1
        rw [Array.all_eq_true_iff_forall_mem] at h1
        have h2 := h1 d hd
        rw [hbd] at h2
        have h3 : d.on < i := by simpa using h2
        have h4 := ih d.on h3 (by omega)
        rw [Array.getD_eq_getD_getElem?, h4]
        rfl
      rw [hr] at hm
      cases hm
theorem wpAnyIn_inv (Inv : Array Bool → Act → World → Prop) (hb : backs ops = true) (hz : ∀ l a w, Inv l a w → l.size = ops.size)
    (hs : ∀ i l a w, Inv l a w → i ∈ Region.ready .any ops l → wpOpIn F n P ops Q i (fun a' w' => Inv (l.setIfInBounds i true) a' w') a w)
    (he : ∀ a w, Inv (Array.replicate ops.size true) a w → Q .normal a w) :
    ∀ (fuel : Nat) (l : Array Bool) (a : Act) (w : World), l.toList.count false ≤ fuel → Inv l a w → wpAnyIn F n P .any ops Q fuel l a w := by
  have hend : ∀ l a w, Inv l a w → Region.ready .any ops l = [] → Q .normal a w := fun l a w h hr => by
    have h1 := ready_nil hb (hz l a w h) hr
    have e : l = Array.replicate ops.size true := by
      apply Array.ext
      · rw [hz l a w h]; simp
      · intro i h2 h3
        have := h1 i (by rw [← hz l a w h]; exact h2)
        rw [Array.getElem?_eq_getElem h2] at this
        rw [Option.some.inj this]
        simp
    rw [e] at h
    exact he a w h
  intro fuel
  induction fuel with
  | zero =>
    intro l a w hc h
    have hr : Region.ready .any ops l = [] := by
      cases e : Region.ready .any ops l with
      | nil => rfl
      | cons i t =>
        have hi := (mem_ready.1 (show i ∈ Region.ready .any ops l by rw [e]; simp)).1
        rcases Nat.lt_or_ge i l.size with h' | h'
        · have h0 : false ∈ l.toList := by
            rw [← Array.mem_def]
            simp [h'] at hi
            rw [← hi]
            exact Array.getElem_mem h'
          have := List.count_pos_iff.2 h0
          omega
        · rw [Array.getD_eq_getD_getElem?, Array.getElem?_eq_none h'] at hi
          cases hi
    exact ⟨hr, hend l a w h hr⟩
  | succ fuel ih =>
    intro l a w hc h
    refine ⟨fun hr => hend l a w h hr, fun i hi => wpOpIn_mono (fun a' w' h' => ih _ a' w' ?_ h') (hs i l a w h hi)⟩
    have h1 := (mem_ready.1 hi).1
    rcases Nat.lt_or_ge i l.size with h' | h'
    · have h2 : l.toList[i]? = some false := by
        simp [h'] at h1
        rw [Array.getElem?_toList, Array.getElem?_eq_getElem h', h1]
      have := cnt_set l.toList i h2
      rw [Array.toList_setIfInBounds]
      omega
    · rw [Array.getD_eq_getD_getElem?, Array.getElem?_eq_none h'] at h1
      cases h1
theorem region_inv {id : Nat} {a : Act} {w : World} (hm : P.follows .mixedOrders = true) (Inv : Array Bool → Act → World → Prop) (hb : backs ops = true) (hz : ∀ l a w, Inv l a w → l.size = ops.size)
    (h0 : Inv (Array.replicate ops.size false) a w.drew)
    (hs : ∀ i l a w, Inv l a w → i ∈ Region.ready .any ops l → wpOpIn F n P ops Q i (fun a' w' => Inv (l.setIfInBounds i true) a' w') a w)
    (he : ∀ a w, Inv (Array.replicate ops.size true) a w → Q .normal a w) : (Code.region id ops true).wpIn F n P Q a w :=
  wpIn_region_any hm (wpAnyIn_inv Inv hb hz hs he ops.size _ a _ (by simp) h0)
end
end Go.Proofs.YtcdhaikmedicfaaGreatDoor.Hyp
/- Two rows that grow within one drawn region: what holds in whatever order. -/
namespace Go.Proofs.YtcdhaikmedicfaaGreatDoor
namespace Hyp
open Go.RowKit
set_option linter.unusedVariables false
structure Sg (B : Nat) (W : World) (vL vD : Value) (nL nD : Nat) (XL XD : List Value) (kL kD : Option Nat) (c d : Value) : Prop where
  dw : Dw B W 5 5 vL vD nL nD XL XD
  cL : ∀ h, kL = some h → W.cell? ⟨h, 0, none⟩ = some c ∧ h < W.heap.size ∧ vL.ownBlock ≠ some h ∧ vD.ownBlock ≠ some h
  cD : ∀ h, kD = some h → W.cell? ⟨h, 0, none⟩ = some d ∧ h < W.heap.size ∧ vL.ownBlock ≠ some h ∧ vD.ownBlock ≠ some h
/-- What a region leaves alone: all below B but one block. -/
structure Fr (B p : Nat) (a w : World) : Prop where
  os : w.os = a.os
  tape : w.tape = a.tape
  output : w.output = a.output
  size : a.heap.size ≤ w.heap.size
  block : ∀ k, k < B → k ≠ p → w.heap[k]? = a.heap[k]?
theorem Fr.refl (B p : Nat) (a : World) : Fr B p a a := ⟨rfl, rfl, rfl, Nat.le_refl _, fun _ _ _ => rfl⟩
theorem Fr.trans {B p : Nat} {a b c : World} (h : Fr B p a b) (g : Fr B p b c) : Fr B p a c :=
  ⟨g.os.trans h.os, g.tape.trans h.tape, g.output.trans h.output, Nat.le_trans h.size g.size, fun k a b => (g.block k a b).trans (h.block k a b)⟩
theorem Fr.of {B p : Nat} {a b : World} (h : Below B a b) : Fr B p a b := ⟨h.os, h.tape, h.output, h.size, fun k a _ => h.block k a⟩
theorem Fr.grown {B p : Nat} {a b c : World} {row : Option Nat} (h : Fr B p a b) (hB : B ≤ b.heap.size) (hg : b.grownBy c row) (hr : ∀ k, row = some k → B ≤ k ∨ k = p) : Fr B p a c :=
  h.trans ⟨hg.os, hg.tape, hg.output, hg.size, fun k a b => hg.block k (by omega) (fun e => by rcases hr k e.symm with h | h <;> omega)⟩
theorem Fr.alloc {B p : Nat} {a b : World} (h : Fr B p a b) (hB : B ≤ b.heap.size) (o : Obj) : Fr B p a (b.alloc o) := h.grown hB (World.grownBy_alloc b o none) (fun k e => by cases e)
theorem Fr.below {B p B' : Nat} {a b : World} (h : Fr B p a b) (hp : B' ≤ p) (hB : B' ≤ B) : Below B' a b := ⟨h.os, h.tape, h.output, h.size, fun k hk => h.block k (by omega) (by omega)⟩
section
variable {B : Nat} {W w2 : World} {vL vD v' : Value} {nL nD : Nat} {XL XD : List Value} {kL kD : Option Nat} {c d : Value}
theorem Sg.drew (h : Sg B W vL vD nL nD XL XD kL kD c d) (n : Nat) : Sg B (W.drewN n) vL vD nL nD XL XD kL kD c d := ⟨⟨h.dw.o1, h.dw.o2, h.dw.d12⟩, h.cL, h.cD⟩
theorem Sg.buildL (h : Sg B W vL vD nL nD XL XD kL kD c d) : Sg B (W.alloc (.cells #[c] 5)) vL vD nL nD XL XD (some W.heap.size) kD c d := by
  refine ⟨h.dw.alloc _, fun k e => ?_, fun k e => ?_⟩
  · obtain rfl := Option.some.inj e
    refine ⟨by simp, by simp, fun e2 => ?_, fun e2 => ?_⟩
    · have := (h.dw.o1.lt _ e2).2; omega
    · have := (h.dw.o2.lt _ e2).2; omega
  · obtain ⟨a1, a2, a3, a4⟩ := h.cD k e
    exact ⟨(((Below.refl _ _).alloc (Nat.le_refl _) _ : Below W.heap.size W (W.alloc (.cells #[c] 5))).cell (p := ⟨k, 0, none⟩) a2).trans a1, by simp; omega, a3, a4⟩
theorem Sg.buildD (h : Sg B W vL vD nL nD XL XD kL kD c d) : Sg B (W.alloc (.cells #[d] 5)) vL vD nL nD XL XD kL (some W.heap.size) c d := by
  refine ⟨h.dw.alloc _, fun k e => ?_, fun k e => ?_⟩
  · obtain ⟨a1, a2, a3, a4⟩ := h.cL k e
    exact ⟨(((Below.refl _ _).alloc (Nat.le_refl _) _ : Below W.heap.size W (W.alloc (.cells #[d] 5))).cell (p := ⟨k, 0, none⟩) a2).trans a1, by simp; omega, a3, a4⟩
  · obtain rfl := Option.some.inj e
    refine ⟨by simp, by simp, fun e2 => ?_, fun e2 => ?_⟩
    · have := (h.dw.o1.lt _ e2).2; omega
    · have := (h.dw.o2.lt _ e2).2; omega
theorem cell_same {a b : World} {k : Nat} (h : b.heap[k]? = a.heap[k]?) (j : Nat) : b.cell? ⟨k, j, none⟩ = a.cell? ⟨k, j, none⟩ := by
  simp [World.cell?, h]
theorem Sg.appL (h : Sg B W vL vD nL nD XL XD kL kD c d) (ho : w2.ownsRow B 5 1 v' (nL + 1) (XL ++ [c])) (hg : W.grownBy w2 vL.ownBlock) (hk : ∀ k, v'.ownBlock = some k → vL.ownBlock = some k ∨ W.heap.size ≤ k) : Sg B w2 v' vD (nL + 1) nD (XL ++ [c]) XD none kD c d := by
  refine ⟨h.dw.app1 c ho hg hk, (fun k e => by cases e), fun k e => ?_⟩
  obtain ⟨a1, a2, a3, a4⟩ := h.cD k e
  exact ⟨(cell_same (hg.block k a2 (fun e => a3 e.symm)) 0).trans a1, by have := hg.size; omega, fun e => by rcases hk k e with e | e <;> first | exact a3 e | omega, a4⟩
theorem Sg.appD (h : Sg B W vL vD nL nD XL XD kL kD c d) (ho : w2.ownsRow B 5 1 v' (nD + 1) (XD ++ [d])) (hg : W.grownBy w2 vD.ownBlock) (hk : ∀ k, v'.ownBlock = some k → vD.ownBlock = some k ∨ W.heap.size ≤ k) : Sg B w2 vL v' nL (nD + 1) XL (XD ++ [d]) kL none c d := by
  refine ⟨h.dw.app2 d ho hg hk, fun k e => ?_, (fun k e => by cases e)⟩
  obtain ⟨a1, a2, a3, a4⟩ := h.cL k e
  exact ⟨(cell_same (hg.block k a2 (fun e => a4 e.symm)) 0).trans a1, by have := hg.size; omega, a3, fun e => by rcases hk k e with e | e <;> first | exact a4 e | omega⟩
theorem Sg.setB (h : Sg B W vL vD nL nD XL XD none none c d) {p : Nat} (hp : p < B) (i : Nat) (u : Value) : Sg B (W.setCell ⟨p, i, none⟩ u) vL vD nL nD XL XD none none c d :=
  ⟨⟨ownsRow_setCell_below h.dw.o1 (a := ⟨p, i, none⟩) hp u, ownsRow_setCell_below h.dw.o2 (a := ⟨p, i, none⟩) hp u, h.dw.d12⟩, (fun k e => by cases e), (fun k e => by cases e)⟩
end
/-- An append, within a region by an invariant. -/
theorem step_appI {F : Fence} {n : Nat} {P : Program} (w : World) {o : Oper} {a : Act} {K : Act → World → Prop} {Q : Exit → Act → World → Prop} {ys : Bool} {E : Prop} (hy : ys = true)
    (s x : Operand) (t : TypeId) (hop : o.op = Op.call { callee := Callee.builtin Builtin.append, args := #[s, x], argTypes := #[t, t] })
    (base : Nat) (e : TypeId) (i : TypeInfo) (z : Value) (size bytes : Nat) (h1 : P.underlying t = some (.slice e)) (h2 : P.info? e = some i) (h3 : i.zero = some z) (h4 : i.size = size) (h5 : i.bytes = bytes) (h6 : z.cells.size = size) (h7 : 0 < size)
    (v : Value) (k : Nat) (xs : List Value) (hs : a.eval s = v) (hown : w.ownsRow base e size v k xs) (ad : Addr) (m c : Nat) (news : List Value) (hx : a.eval x = .slice (some ad) m c) (hn : news.length = m * size)
    (hc : ∀ j u, news[j]? = some u → w.cell? (ad.add j) = some u) (h1c : ∀ u ∈ news, u.oneCell' = true) (b1 : k + m ≤ maxLen) (b2 : (k + m) * bytes ≤ 140737488355328) (b3 : base ≤ w.heap.size)
    (hK : ∀ v' w', w'.ownsRow base e size v' (k + m) (xs ++ news) → w.grownBy w' v.ownBlock → (∀ j, v'.ownBlock = some j → v.ownBlock = some j ∨ w.heap.size ≤ j) → K (a.put o.dst v') w') :
    if ys = true then Oper.wpIn F n P o a w K Q else E := by
  rw [if_pos hy]
  obtain ⟨v', w', hrun, r1, r2, r3⟩ := app_blockG (P := P) w t o.type e i z size bytes h1 h2 h3 h4 h5 h6 h7 base v k xs hown ad m c news hn hc h1c b1 b2 b3
  unfold Oper.wpIn
  refine ⟨?_, ?_⟩
  · simp [Oper.about, hop, resolve, Target.leads, Sem.run_pure]
  · rw [Oper.semAt_plain F _ _ (by rw [hop]; intro c hc'; cases hc')]
    simp [execOp, hop, resolve, invoke, builtin, hs, hx, hrun, Result.andThen]
    exact hK v' w' r1 r2 r3
end Hyp
end Go.Proofs.YtcdhaikmedicfaaGreatDoor
/- A tree of patterns in memory: its nodes and their digits by the letters that lead to them. -/
namespace Go.Proofs.YtcdhaikmedicfaaGreatDoor
namespace Hyp
open Go.RowKit
set_option linter.unusedVariables false
set_option linter.unusedSimpArgs false
/-- Where a node lies, and where its digits are, if it has any. -/
abbrev Nd := Nat × Option (Nat × List Int)
abbrev Mp := List Nat → Option Nd
def dgV : Option (Nat × List Int) → Value
  | none => .slice none 0 0
  | some (g, L) => .slice (some ⟨g, 0, none⟩) L.length L.length
def chV (A : Mp) (p : List Nat) (k : Nat) : Value := .pointer ((A (p ++ [k])).map fun x => ⟨x.1, 0, none⟩)
structure Nde (w : World) (b : Nat) (c : Nat → Value) (d : Value) : Prop where
  ex : ∃ cs : Array Value, w.heap[b]? = some (.cells cs 65 (0, 0)) ∧ cs.size = 28 ∧ (∀ k, k < 27 → cs[k]? = some (c k)) ∧ cs[27]? = some d
theorem Nde.kept {w w' : World} {b : Nat} {c : Nat → Value} {d : Value} (h : Nde w b c d) (e : w'.heap[b]? = w.heap[b]?) : Nde w' b c d := by
  obtain ⟨cs, h1, h2, h3, h4⟩ := h.ex
  exact ⟨cs, e.trans h1, h2, h3, h4⟩
theorem Nde.lt {w : World} {b : Nat} {c : Nat → Value} {d : Value} (h : Nde w b c d) : b < w.heap.size := by
  obtain ⟨cs, h1, h2, h3, h4⟩ := h.ex
  exact lt_of_block h1
theorem Nde.cell {w : World} {b : Nat} {c : Nat → Value} {d : Value} (h : Nde w b c d) : (∀ k, k < 27 → w.cell? ⟨b, k, none⟩ = some (c k)) ∧ w.cell? ⟨b, 27, none⟩ = some d ∧ ∀ j, w.frozen? ⟨b, j, none⟩ = false := by
  obtain ⟨cs, h1, h2, h3, h4⟩ := h.ex
  refine ⟨fun k hk => ?_, ?_, fun j => by simp [World.frozen?, h1]⟩
  · have := h3 k hk
    simp [World.cell?, h1, this]
  · simp [World.cell?, h1, h4]
theorem setG_heap {W : World} {p : Nat} {cs : Array Value} {t : TypeId} (h : W.heap[p]? = some (.cells cs t (0, 0))) (i : Nat) (u : Value) : (W.setCell ⟨p, i, none⟩ u).heap[p]? = some (.cells (cs.setIfInBounds i u) t (0, 0)) := by
  have hlt := lt_of_block h
  have h' : W.heap[p] = .cells cs t (0, 0) := by simpa [Array.getElem?_eq_getElem hlt] using h
  show (W.heap.modify p _)[p]? = _
  rw [Array.getElem?_eq_getElem (by simpa using hlt), Array.getElem_modify_self, h']
  simp [Addr.spot]
theorem Nde.setC {w : World} {b : Nat} {c : Nat → Value} {d : Value} (h : Nde w b c d) (k : Nat) (hk : k < 27) (v : Value) : Nde (w.setCell ⟨b, k, none⟩ v) b (fun j => if j = k then v else c j) d := by
  obtain ⟨cs, h1, h2, h3, h4⟩ := h.ex
  refine ⟨_, setG_heap h1 k v, by simp [h2], fun j hj => ?_, ?_⟩
  · rw [Array.getElem?_setIfInBounds]
    by_cases e : k = j
    · subst e; simp [h2, show k < 28 by omega]
    · rw [if_neg e, h3 j hj]; simp [Ne.symm e]
  · rw [Array.getElem?_setIfInBounds, if_neg (by omega), h4]
theorem Nde.setD {w : World} {b : Nat} {c : Nat → Value} {d : Value} (h : Nde w b c d) (v : Value) : Nde (w.setCell ⟨b, 27, none⟩ v) b c v := by
  obtain ⟨cs, h1, h2, h3, h4⟩ := h.ex
  refine ⟨_, setG_heap h1 27 v, by simp [h2], fun j hj => ?_, ?_⟩
  · rw [Array.getElem?_setIfInBounds, if_neg (by omega), h3 j hj]
  · simp [h2]
theorem Nde.val {w : World} {b : Nat} {c c' : Nat → Value} {d : Value} (h : Nde w b c d) (e : ∀ k, k < 27 → c' k = c k) : Nde w b c' d := by
  obtain ⟨cs, h1, h2, h3, h4⟩ := h.ex
  exact ⟨cs, h1, h2, fun k hk => by rw [h3 k hk, e k hk], h4⟩
structure Tr (B : Nat) (w : World) (A : Mp) : Prop where
  up : ∀ p k, A (p ++ [k]) ≠ none → A p ≠ none
  node : ∀ p x, A p = some x → B ≤ x.1 ∧ Nde w x.1 (chV A p) (dgV x.2)
  dig : ∀ p b g L, A p = some (b, some (g, L)) → B ≤ g ∧ w.heap[g]? = some (.cells (u8s L).toArray 5 (0, 0)) ∧ L.length = p.length + 1
  inj : ∀ p q x y, A p = some x → A q = some y → x.1 = y.1 → p = q
  dinj : ∀ p q b b' g L L', A p = some (b, some (g, L)) → A q = some (b', some (g, L')) → p = q
/-- A block that is not the tree's. -/
def Nb (A : Mp) (x : Nat) : Prop := ∀ p y, A p = some y → y.1 ≠ x ∧ ∀ g L, y.2 = some (g, L) → g ≠ x
def upd (A : Mp) (p : List Nat) (x : Nd) : Mp := fun q => if q = p then some x else A q
theorem upd_at (A : Mp) (p : List Nat) (x : Nd) : upd A p x p = some x := if_pos rfl
theorem upd_ne {A : Mp} {p q : List Nat} (h : q ≠ p) (x : Nd) : upd A p x q = A q := if_neg h
theorem Tr.keep {B : Nat} {w w' : World} {A : Mp} (h : Tr B w A) (hk : ∀ p y, A p = some y → w'.heap[y.1]? = w.heap[y.1]? ∧ ∀ g L, y.2 = some (g, L) → w'.heap[g]? = w.heap[g]?) : Tr B w' A := by
  refine ⟨h.up, fun p x e => ⟨(h.node p x e).1, (h.node p x e).2.kept (hk p x e).1⟩, fun p b g L e => ?_, h.inj, h.dinj⟩
  obtain ⟨a1, a2, a3⟩ := h.dig p b g L e
  exact ⟨a1, ((hk p _ e).2 g L rfl).trans a2, a3⟩
theorem Tr.dlt {B : Nat} {w : World} {A : Mp} (h : Tr B w A) {p : List Nat} {b g : Nat} {L : List Int} (e : A p = some (b, some (g, L))) : g < w.heap.size := lt_of_block (h.dig p b g L e).2.1
/-- A node is no row of digits. -/
theorem Tr.ndg {B : Nat} {w : World} {A : Mp} (h : Tr B w A) {p q : List Nat} {x : Nd} {b g : Nat} {L : List Int} (e1 : A p = some x) (e2 : A q = some (b, some (g, L))) : x.1 ≠ g := by
  intro e
  obtain ⟨cs, h1, _⟩ := (h.node p x e1).2.ex
  have h2 := (h.dig q b g L e2).2.1
  rw [← e, h1] at h2
  injection h2 with h2
  injection h2 with _ h2
  exact absurd h2 (by decide)
theorem Tr.below {B : Nat} {w w' : World} {A : Mp} (h : Tr B w A) (hb : Below w.heap.size w w') : Tr B w' A :=
  h.keep fun p y e => ⟨hb.block _ (h.node p y e).2.lt, fun g L e2 => by
    obtain ⟨b, d⟩ := y
    simp only at e2
    subst e2
    exact hb.block _ (h.dlt e)⟩
/-- A node more. -/
theorem Tr.child {B : Nat} {w w1 : World} {A : Mp} (h : Tr B w A) {p : List Nat} {x : Nd} (e : A p = some x) {k : Nat} (hk : k < 27) (hn : A (p ++ [k]) = none) (hB : B ≤ w.heap.size)
    (hb : Below w.heap.size w w1) (n1 : Nde w1 w.heap.size (fun _ => .pointer none) (.slice none 0 0)) :
    Tr B (w1.setCell ⟨x.1, k, none⟩ (.pointer (some ⟨w.heap.size, 0, none⟩))) (upd A (p ++ [k]) (w.heap.size, none)) := by
  have hlt := (h.node p x e).2.lt
  have hs : ∀ j, j ≠ x.1 → (w1.setCell ⟨x.1, k, none⟩ (.pointer (some ⟨w.heap.size, 0, none⟩))).heap[j]? = w1.heap[j]? := fun j hj => Below.heap_setCell _ _ _ _ hj
  have none_below : ∀ j, A (p ++ [k] ++ [j]) = none := fun j => by
    by_cases c : A (p ++ [k] ++ [j]) = none
    · exact c
    · exact absurd hn (h.up _ _ c)
  have hne : ∀ q, q ≠ p → ∀ j, q ++ [j] ≠ p ++ [k] := fun q hq j c => hq (List.append_inj' c rfl).1
  refine ⟨fun q j c => ?_, fun q y c => ?_, fun q b g L c => ?_, fun q r y z c1 c2 c3 => ?_, fun q r b b' g L L' c1 c2 => ?_⟩
  · by_cases e1 : q = p ++ [k]
    · rw [e1, upd_at]; exact fun c => by cases c
    · rw [upd_ne e1]
      by_cases e2 : q ++ [j] = p ++ [k]
      · have := (List.append_inj' e2 rfl).1
        rw [this, e]; exact fun c => by cases c
      · rw [upd_ne e2] at c
        exact h.up _ _ c
  · by_cases e1 : q = p ++ [k]
    · subst e1
      rw [upd_at] at c
      obtain rfl := Option.some.inj c
      refine ⟨hB, (n1.kept (hs _ (by show w.heap.size ≠ x.1; omega))).val fun j hj => ?_⟩
      unfold chV
      rw [upd_ne (fun c => by have := congrArg List.length c; simp at this), none_below j]
      rfl
    · rw [upd_ne e1] at c
      obtain ⟨a1, a2⟩ := h.node q y c
      refine ⟨a1, ?_⟩
      by_cases e2 : q = p
      · subst e2
        rw [e] at c
        obtain rfl := Option.some.inj c
        refine (((a2.kept (hb.block _ hlt)).setC k hk (.pointer (some ⟨w.heap.size, 0, none⟩)))).val fun j hj => ?_
        unfold chV
        by_cases e3 : j = k
        · rw [if_pos e3, e3, upd_at]; rfl
        · rw [if_neg e3, upd_ne (fun c => e3 (by simpa using c))]
      · have hx : y.1 ≠ x.1 := fun c2 => e2 (h.inj q p y x c e c2)
        refine ((a2.kept (hb.block _ a2.lt)).kept (hs _ hx)).val fun j hj => ?_
        unfold chV
        rw [upd_ne (hne q e2 j)]
  · by_cases e1 : q = p ++ [k]
    · rw [e1, upd_at] at c
      injection c with c
      injection c with c1 c2
      cases c2
    · rw [upd_ne e1] at c
      obtain ⟨a1, a2, a3⟩ := h.dig q b g L c
      exact ⟨a1, (hs g (h.ndg e c).symm).trans ((hb.block _ (lt_of_block a2)).trans a2), a3⟩
  · by_cases e1 : q = p ++ [k]
    · by_cases e2 : r = p ++ [k]
      · rw [e1, e2]
      · subst e1
        rw [upd_at] at c1
        rw [upd_ne e2] at c2
        obtain rfl := Option.some.inj c1
        have := (h.node r z c2).2.lt
        simp only at c3
        omega
    · rw [upd_ne e1] at c1
      by_cases e2 : r = p ++ [k]
      · subst e2
        rw [upd_at] at c2
        obtain rfl := Option.some.inj c2
        have := (h.node q y c1).2.lt
        simp only at c3
        omega
      · rw [upd_ne e2] at c2
        exact h.inj q r y z c1 c2 c3
  · have f : ∀ q b g L, upd A (p ++ [k]) (w.heap.size, none) q = some (b, some (g, L)) → A q = some (b, some (g, L)) := fun q b g L c => by
      by_cases e1 : q = p ++ [k]
      · rw [e1, upd_at] at c; injection c with c; injection c with c1 c2; cases c2
      · rw [upd_ne e1] at c; exact c
    exact h.dinj q r b b' g L L' (f _ _ _ _ c1) (f _ _ _ _ c2)
/-- Digits that are new, or others: of a node whose children stay. -/
theorem Tr.digits {B : Nat} {w w2 : World} {A : Mp} (h : Tr B w A) {p : List Nat} {b : Nat} {dg : Option (Nat × List Int)} (e : A p = some (b, dg)) (g : Nat) (L : List Int) (hg : B ≤ g) (hgn : ∀ q y, A q = some y → y.1 ≠ g) (hgd : ∀ q b' L', q ≠ p → A q ≠ some (b', some (g, L')))
    (hl : L.length = p.length + 1) (n2 : Nde w2 b (chV A p) (dgV (some (g, L)))) (r2 : w2.heap[g]? = some (.cells (u8s L).toArray 5 (0, 0))) (hk : ∀ k, k < w.heap.size → k ≠ b → k ≠ g → w2.heap[k]? = w.heap[k]?) : Tr B w2 (upd A p (b, some (g, L))) := by
  have hch : ∀ q, chV (upd A p (b, some (g, L))) q = chV A q := fun q => by
    funext j
    unfold chV
    by_cases e1 : q ++ [j] = p
    · rw [e1, upd_at, e]; rfl
    · rw [upd_ne e1]
  refine ⟨fun q j c => ?_, fun q y c => ?_, fun q b' g' L' c => ?_, fun q r y z c1 c2 c3 => ?_, fun q r b1 b2 g' L1 L2 c1 c2 => ?_⟩
  · by_cases e1 : q = p
    · rw [e1, upd_at]; exact fun c => by cases c
    · rw [upd_ne e1]
      by_cases e2 : q ++ [j] = p
      · refine h.up q j ?_
        rw [e2, e]; exact fun c => by cases c
      · rw [upd_ne e2] at c; exact h.up q j c
  · rw [hch]
    by_cases e1 : q = p
    · subst e1
      rw [upd_at] at c
      obtain rfl := Option.some.inj c
      exact ⟨(h.node q _ e).1, n2⟩
    · rw [upd_ne e1] at c
      obtain ⟨a1, a2⟩ := h.node q y c
      exact ⟨a1, a2.kept (hk _ a2.lt (fun c2 => e1 (h.inj q p y _ c e c2)) (hgn q y c))⟩
  · by_cases e1 : q = p
    · subst e1
      rw [upd_at] at c
      injection c with c
      injection c with c1 c2
      injection c2 with c2
      injection c2 with c2 c3
      subst c1 c2 c3
      exact ⟨hg, r2, hl⟩
    · rw [upd_ne e1] at c
      obtain ⟨a1, a2, a3⟩ := h.dig q b' g' L' c
      refine ⟨a1, (hk g' (lt_of_block a2) (fun c2 => h.ndg e c c2.symm) (fun c2 => ?_)).trans a2, a3⟩
      subst c2
      exact hgd q b' L' e1 c
  · have f : ∀ q y, upd A p (b, some (g, L)) q = some y → ∃ y', A q = some y' ∧ y'.1 = y.1 := fun q y c => by
      by_cases e1 : q = p
      · subst e1
        rw [upd_at] at c
        obtain rfl := Option.some.inj c
        exact ⟨_, e, rfl⟩
      · rw [upd_ne e1] at c; exact ⟨y, c, rfl⟩
    obtain ⟨y', f1, f2⟩ := f q y c1
    obtain ⟨z', f3, f4⟩ := f r z c2
    exact h.inj q r y' z' f1 f3 (by rw [f2, f4, c3])
  · by_cases e1 : q = p
    · by_cases e2 : r = p
      · rw [e1, e2]
      · subst e1
        rw [upd_at] at c1
        rw [upd_ne e2] at c2
        injection c1 with c1
        injection c1 with _ c1
        injection c1 with c1
        injection c1 with c1 _
        subst c1
        exact absurd c2 (hgd r b2 L2 e2)
    · rw [upd_ne e1] at c1
      by_cases e2 : r = p
      · subst e2
        rw [upd_at] at c2
        injection c2 with c2
        injection c2 with _ c2
        injection c2 with c2
        injection c2 with c2 _
        subst c2
        exact absurd c1 (hgd q b1 L1 e1)
      · rw [upd_ne e2] at c2
        exact h.dinj q r b1 b2 g' L1 L2 c1 c2
end Hyp
end Go.Proofs.YtcdhaikmedicfaaGreatDoor
/- A letter's number; digits raised by others. -/
namespace Go.Proofs.YtcdhaikmedicfaaGreatDoor
namespace Hyp
open Go.RowKit
set_option linter.unusedVariables false
set_option linter.unusedSimpArgs false
def kd (c : Int) : Nat := if c = 46 then 0 else (c - 96).toNat
theorem kd_lt {c : Int} (h : ltr c) : kd c < 27 := by
  unfold ltr at h
  unfold kd
  split <;> omega
set_option maxRecDepth 100000 in
theorem kindH (c : Int) (h : ltr c) (w : World) : Calls Tryz.prog 54 #[.int .u8 c] w fun e w' => e = .returned (.int .i64 (kd c : Int)) ∧ w' = w := by
  have hdot : ∀ h, (((({ data := #[46] } : ByteArray)[0]'h).toNat : Nat) : Int) = 46 := fun _ => rfl
  have HE : Hid ((kd c : Int) = if c = 46 then 0 else c - 96) := hide (by
    unfold ltr at h
    unfold kd
    split <;> omega)
  by_cases e : c = 46
  · subst e
    go_enter Tryz.func54, Tryz.ntmps54
    go_wp2
    go_ret
    exact ⟨by rw [unhide HE]; rfl, rfl⟩
  · have t : (c == 46) = false := by simpa using e
    have hc : 97 ≤ c ∧ c ≤ 122 := by unfold ltr at h; omega
    obtain ⟨c1, c2⟩ := hc
    have hw8 : IntKind.u8.wrap (c - 97) = c - 97 := by simp [IntKind.wrap, IntKind.bits, IntKind.signed]; omega
    rw [if_neg e] at HE
    clear e h
    go_enter Tryz.func54, Tryz.ntmps54
    go_wp2
    go_ret
    refine ⟨?_, rfl⟩
    rw [unhide HE]
    show Ending.returned (.int .i64 (c - 97 + 1)) = _
    congr 2
    omega
/-- Digits raised, the first k of them. -/
def rsk (L : List Int) (off : Nat) (O : List Int) : Nat → List Int
  | 0 => L
  | k + 1 => (rsk L off O k).set (off + k) (max ((rsk L off O k).getD (off + k) 0) (O.getD k 0))
theorem rsk_len (L : List Int) (off : Nat) (O : List Int) (k : Nat) : (rsk L off O k).length = L.length := by
  induction k with
  | zero => rfl
  | succ k ih => rw [rsk, List.length_set, ih]
theorem u8s_set (L : List Int) (i : Nat) (x : Int) : (u8s L).toArray.setIfInBounds i (.int .u8 x) = (u8s (L.set i x)).toArray := by
  simp [u8s, List.map_set]
theorem row_cell {w : World} {g : Nat} {L : List Int} (h : w.heap[g]? = some (.cells (u8s L).toArray 5 (0, 0))) (i : Nat) (hi : i < L.length) : w.cell? ⟨g, i, none⟩ = some (.int .u8 (L.getD i 0)) := by
  simp [World.cell?, h, u8s, List.getD_eq_getElem?_getD, hi]
set_option maxRecDepth 100000 in
set_option maxHeartbeats 4000000 in
theorem raiseH (g off n cap h oo oc : Nat) (L O : List Int) (w : World) (hL : w.heap[g]? = some (.cells (u8s L).toArray 5 (0, 0))) (hO : ∀ i, i < O.length → w.cell? ⟨h, oo + i, none⟩ = some (.int .u8 (O.getD i 0))) (hgh : h ≠ g) (hh : h < w.heap.size)
    (hn : off + n ≤ L.length) (hm : O.length ≤ n) (hl : L.length ≤ 1048576) :
    Calls Tryz.prog 55 #[.slice (some ⟨g, off, none⟩) n cap, .slice (some ⟨h, oo, none⟩) O.length oc] w fun e w' => (∃ v, e = .returned v) ∧ w'.heap[g]? = some (.cells (u8s (rsk L off O O.length)).toArray 5 (0, 0)) ∧ w.grownBy w' (some g) := by
  have HO := hide hO
  clear hO
  go_enter Tryz.func55, Tryz.ntmps55
  go_wp2_with fail
  go_loopw [8] (fun v8 wr => ∃ k : Nat, k ≤ O.length ∧ v8 = .int .i64 (k : Int) ∧ Hid (wr.heap[g]? = some (.cells (u8s (rsk L off O k)).toArray 5 (0, 0))) ∧ Hid (w.grownBy wr (some g))) (fun x _ => O.length - (intOf x).toNat)
  case atStart => exact ⟨0, by omega, rfl, hide hL, hide ⟨rfl, rfl, rfl, Nat.le_refl _, fun _ _ _ => rfl⟩⟩
  case round =>
    obtain ⟨k, hk, rfl, HR, HG⟩ := hrel
    by_cases hlt : k < O.length
    · have hI : (k : Int) < (O.length : Int) := by omega
      have cO := (cell_same ((unhide HG).block h hh (fun e => hgh (by injection e))) (oo + k)).trans ((unhide HO) k hlt)
      have cL := row_cell (unhide HR) (off + k) (by rw [rsk_len]; omega)
      have fL : wr.frozen? ⟨g, off + k, none⟩ = false := by simp [World.frozen?, unhide HR]
      have R2 := hide (setG_heap (unhide HR) (off + k) (.int .u8 (max ((rsk L off O k).getD (off + k) 0) (O.getD k 0))))
      have G2 : Hid (w.grownBy (wr.setCell ⟨g, off + k, none⟩ (.int .u8 (max ((rsk L off O k).getD (off + k) 0) (O.getD k 0)))) (some g)) := hide (by
        have h0 := unhide HG
        exact ⟨h0.os, h0.tape, h0.output, by have := h0.size; simpa using this, fun j hj e => (Below.heap_setCell _ _ _ _ (fun c => e (by rw [c]))).trans (h0.block j hj e)⟩)
      rw [u8s_set] at R2
      have HX : Hid (rsk L off O (k + 1) = (rsk L off O k).set (off + k) (max ((rsk L off O k).getD (off + k) 0) (O.getD k 0))) := hide rfl
      rw [← unhide HX] at R2
      generalize (rsk L off O k).getD (off + k) 0 = a at *
      generalize O.getD k 0 = b at *
      clear HX HR HG
      go_wp2_with fail
      exact ⟨⟨k + 1, by omega, by go_num, R2, G2⟩, by simp [intOf]; omega⟩
    · obtain rfl : k = O.length := by omega
      go_wp2_with fail
      refine bodyPost_end (v := .tuple #[]) (by simp [results, Tryz.f55, go_sem]; try rfl) rfl ⟨⟨_, rfl⟩, unhide HR, unhide HG⟩
end Hyp
end Go.Proofs.YtcdhaikmedicfaaGreatDoor
/- A row of digits held against nil. -/
namespace Go.Proofs.YtcdhaikmedicfaaGreatDoor
namespace Hyp
open Go.RowKit
theorem nil_yes (W : World) : (binOp .eql 22 (.slice none 0 0) (.slice none 0 0)).run Tryz.prog W = .ok (.bool true) W := by
  simp [binOp, go_sem, run_equal_slice_nil (P := Tryz.prog) W 22 5 _ _ _ Tryz.underlying22]
theorem nil_no (a : Addr) (n c : Nat) (W : World) : (binOp .eql 22 (.slice (some a) n c) (.slice none 0 0)).run Tryz.prog W = .ok (.bool false) W := by
  simp [binOp, go_sem, run_equal_slice_nil (P := Tryz.prog) W 22 5 _ _ _ Tryz.underlying22]
end Hyp
end Go.Proofs.YtcdhaikmedicfaaGreatDoor
/- A pattern put into the tree. -/
namespace Go.Proofs.YtcdhaikmedicfaaGreatDoor
namespace Hyp
open Go.RowKit
set_option linter.unusedVariables false
set_option linter.unusedSimpArgs false
theorem mixedA : Tryz.prog.follows Departure.mixedOrders = true := by kernel_rfl
theorem bwA (w : World) (e : TypeId) (s : ByteArray) : Below w.heap.size w (Lib.bytesWorld w e s) := ⟨rfl, rfl, rfl, by rw [Lib.bytesWorld_size]; omega, fun k hk => Lib.bytesWorld_at_old w e s k hk⟩
theorem byte_at {Ls : List Int} (hl : ∀ x ∈ Ls, ltr x) (i : Nat) (h : i < Ls.length) : ((((strOfNums Ls).data.toList.getD i 0).toNat : Nat) : Int) = Ls.getD i 0 := by
  rw [strOfNums_data, List.getD_eq_getElem?_getD, List.getD_eq_getElem?_getD, List.getElem?_map, List.getElem?_eq_getElem h]
  have := hl _ (List.getElem_mem h)
  unfold ltr at this
  simp only [Option.map_some, Option.getD_some]
  rw [UInt8.toNat_ofNat_of_lt' (by show (Ls[i]).toNat < 256; omega)]
  omega
theorem own_full {w : World} {B g n : Nat} {xs : List Value} (h : w.ownsRow B 5 1 (.slice (some ⟨g, 0, none⟩) n n) n xs) : B ≤ g ∧ w.heap[g]? = some (.cells xs.toArray 5 (0, 0)) := by
  rcases h.2 with ⟨h', _⟩ | ⟨g', cap, cur, hv, hb, hh, hn, hm, hs, ht⟩
  · simp at h'
  · simp only [Value.slice.injEq, Option.some.injEq, Addr.mk.injEq, and_true, true_and] at hv
    obtain ⟨rfl, rfl⟩ := hv
    have e : cur.toList = xs := by
      rw [← ht, Nat.mul_one, List.take_of_length_le (by rw [Array.length_toList, hs]; omega)]
    refine ⟨hb, ?_⟩
    rw [hh, ← e]
/-- What the call leaves alone: blocks that were there and are not the tree's. -/
def Kp (A' A : Mp) (w w' : World) (Q : Nat → Prop) : Prop := ∀ x, Q x → w'.heap[x]? = w.heap[x]? ∧ Nb A' x
theorem Nb.upd {A : Mp} {x : Nat} (h : Nb A x) {p : List Nat} {y : Nd} (h1 : y.1 ≠ x) (h2 : ∀ g L, y.2 = some (g, L) → g ≠ x) : Nb (upd A p y) x := by
  intro q z c
  by_cases e : q = p
  · subst e
    rw [upd_at] at c
    obtain rfl := Option.some.inj c
    exact ⟨h1, h2⟩
  · rw [upd_ne e] at c
    exact h q z c
def zN : Array Value := #[.pointer none, .pointer none, .pointer none, .pointer none, .pointer none, .pointer none, .pointer none, .pointer none, .pointer none, .pointer none, .pointer none, .pointer none, .pointer none, .pointer none, .pointer none, .pointer none, .pointer none, .pointer none, .pointer none, .pointer none, .pointer none, .pointer none, .pointer none, .pointer none, .pointer none, .pointer none, .pointer none, .slice none 0 0]
theorem zN_new (w : World) : Nde (w.alloc (.cells zN 65)) w.heap.size (fun _ => .pointer none) (.slice none 0 0) := by
  refine ⟨zN, heap_alloc_new _ _, rfl, fun k hk => ?_, rfl⟩
  rcases (by omega : k = 0 ∨ k = 1 ∨ k = 2 ∨ k = 3 ∨ k = 4 ∨ k = 5 ∨ k = 6 ∨ k = 7 ∨ k = 8 ∨ k = 9 ∨ k = 10 ∨ k = 11 ∨ k = 12 ∨ k = 13 ∨ k = 14 ∨ k = 15 ∨ k = 16 ∨ k = 17 ∨ k = 18 ∨ k = 19 ∨ k = 20 ∨ k = 21 ∨ k = 22 ∨ k = 23 ∨ k = 24 ∨ k = 25 ∨ k = 26) with rfl | rfl | rfl | rfl | rfl | rfl | rfl | rfl | rfl | rfl | rfl | rfl | rfl | rfl | rfl | rfl | rfl | rfl | rfl | rfl | rfl | rfl | rfl | rfl | rfl | rfl | rfl <;> rfl
theorem made8 (m : Nat) : (madeCells #[Value.int .u8 0] m).toList = u8s (List.replicate m 0) := by
  unfold u8s
  rw [List.map_replicate]
  exact toList_madeCells_one _ _
theorem upd_root {A : Mp} {p : List Nat} {b b0 : Nat} {dg dg' d : Option (Nat × List Int)} (e : A p = some (b, dg)) (h : A [] = some (b0, d)) : ∃ d', upd A p (b, dg') [] = some (b0, d') := by
  by_cases c : ([] : List Nat) = p
  · subst c
    rw [e] at h
    injection h with h
    injection h with h1 h2
    exact ⟨dg', by rw [upd_at, h1]⟩
  · exact ⟨d, by rw [upd_ne c]; exact h⟩
/-- The digits that lie at a path. -/
def dgA (A : Mp) (p : List Nat) : Option (List Int) := (A p).bind fun x => x.2.map fun y => y.2
theorem dgA_some {A : Mp} {p : List Nat} {b g : Nat} {L : List Int} (h : A p = some (b, some (g, L))) : dgA A p = some L := by unfold dgA; rw [h]; rfl
theorem dgA_none {A : Mp} {p : List Nat} {b : Nat} (h : A p = some (b, none)) : dgA A p = none := by unfold dgA; rw [h]; rfl
theorem dgA_upd (A : Mp) (p : List Nat) (b g : Nat) (L : List Int) (q : List Nat) : dgA (upd A p (b, some (g, L))) q = if q = p then some L else dgA A q := by
  by_cases e : q = p
  · subst e
    rw [if_pos rfl, dgA_some (upd_at _ _ _)]
  · rw [if_neg e]
    unfold dgA
    rw [upd_ne e]
theorem dgA_new {A : Mp} {p : List Nat} {b : Nat} (h : A p = none) : dgA (upd A p (b, none)) = dgA A := by
  funext q
  by_cases e : q = p
  · subst e
    rw [dgA_none (upd_at _ _ _)]
    unfold dgA
    rw [h]
    rfl
  · unfold dgA
    rw [upd_ne e]
/-- Digits put at a path: the greater ones, where there are some. -/
def put (D : List Nat → Option (List Int)) (p : List Nat) (O : List Int) (q : List Nat) : Option (List Int) := if q = p then some (rsk ((D p).getD (List.replicate O.length 0)) 0 O O.length) else D q
/-- Behind raise: a tree still. -/
theorem tree_raised {B b0 y1 g : Nat} {w W5 : World} {A : Mp} {p : List Nat} {L O : List Int} (hB : B ≤ w.heap.size) (hT : Tr B W5 A) (hY : A p = some (y1, some (g, L))) (h0 : ∃ d, A [] = some (b0, d)) (hb : Below B w W5) (D : List Nat → Option (List Int)) (hD : ∀ q, D q = if q = p then some (rsk L 0 O O.length) else dgA A q) :
    ∀ W', W'.heap[g]? = some (.cells (u8s (rsk L 0 O O.length)).toArray 5 (0, 0)) → W5.grownBy W' (some g) → (∃ A' d', Tr B W' A' ∧ A' [] = some (b0, d') ∧ dgA A' = D) ∧ Below B w W' := by
  intro W' h1 h2
  have ndk := hT.node _ _ hY
  have hne : y1 ≠ g := hT.ndg hY hY
  obtain ⟨d, hd⟩ := h0
  obtain ⟨d', hd'⟩ := upd_root (dg' := some (g, rsk L 0 O O.length)) hY hd
  have hdg := hT.dig _ _ _ _ hY
  refine ⟨⟨_, d', hT.digits hY g (rsk L 0 O O.length) hdg.1 (fun q y e => hT.ndg e hY) (fun q b' L' e c => e (hT.dinj _ _ _ _ _ _ _ c hY)) (by rw [rsk_len]; exact hdg.2.2) ?_ h1 (fun k hk _ hk2 => h2.block k hk (fun c => hk2 (by injection c with c))), hd', funext fun q => by rw [dgA_upd, hD q]⟩, ?_⟩
  · have n2 := ndk.2.kept (h2.block _ ndk.2.lt (fun c => hne (by injection c)))
    have : dgV (some (g, rsk L 0 O O.length)) = dgV (some (g, L)) := by unfold dgV; simp only [rsk_len]
    rw [this]
    exact n2
  · exact hb.grown h2 (by have := hb.size; omega) (fun k e => by injection e with e; rw [← e]; exact hdg.1)
set_option maxRecDepth 100000 in
set_option maxHeartbeats 1500000 in
theorem addH (A : Mp) (B b0 : Nat) (d0 : Option (Nat × List Int)) (w : World) (hT : Tr B w A) (h0 : A [] = some (b0, d0)) (hB : B ≤ w.heap.size) (Ls Dg : List Int) (hl : ∀ x ∈ Ls, ltr x) (hd : Dg.length = Ls.length + 1) (hlen : Ls.length ≤ 20)
    (h oc : Nat) (hh : h < w.heap.size) (hc : ∀ i, i < Dg.length → w.cell? ⟨h, 0 + i, none⟩ = some (.int .u8 (Dg.getD i 0))) (hNb : Nb A h) (hBh : B ≤ h) :
    Calls Tryz.prog 36 #[.pointer (some ⟨b0, 0, none⟩), .agg #[.string (strOfNums Ls), .slice (some ⟨h, 0, none⟩) Dg.length oc]] w fun e w' => (∃ v, e = .returned v) ∧ (∃ A' d', Tr B w' A' ∧ A' [] = some (b0, d') ∧ dgA A' = put (dgA A) (Ls.map kd) Dg) ∧ Below B w w' := by
  obtain ⟨i0, hi, hz0, hz1, hz2⟩ := info_parts info5h
  have hmx := mixedA
  have hcv : ∀ W : World, (convert 9 22 (.string (strOfNums Ls))).run Tryz.prog W = .ok (.slice (some ⟨W.heap.size, 0, none⟩) (strOfNums Ls).size (grownCap W (strOfNums Ls).size 0 5)) (Lib.bytesWorld W 5 (strOfNums Ls)) := fun W => Lib.run_convert_string_bytes W 9 22 5 (strOfNums Ls) Tryz.underlying9 Tryz.underlying22 Tryz.underlying5
  have CK := hide (fun i (hi : i < Ls.length) W => kindH (Ls.getD i 0) (hl _ (by rw [List.getD_eq_getElem?_getD, List.getElem?_eq_getElem hi]; exact List.getElem_mem hi)) W)
  have HK := hide (fun i (hi : i < Ls.length) => kd_lt (hl (Ls.getD i 0) (by rw [List.getD_eq_getElem?_getD, List.getElem?_eq_getElem hi]; exact List.getElem_mem hi)))
  have hby := hide (fun i (h : i < Ls.length) => byte_at hl i h)
  have hsz : (strOfNums Ls).size = Ls.length := strOfNums_size Ls
  have HT := hide hT
  have HNB := hide hNb
  have HCD := hide hc
  obtain ⟨x, hx⟩ : ∃ x, strOfNums Ls = x := ⟨_, rfl⟩
  rw [hx] at hcv hby hsz ⊢
  obtain ⟨m, hm⟩ : ∃ m, Dg.length = m := ⟨_, rfl⟩
  have HM : Hid (m = Ls.length + 1) := hide (hm ▸ hd)
  have HMD := hide hm
  rw [hm] at HCD ⊢
  have hm21 : m ≤ 21 := by have := unhide HM; omega
  clear hT hNb hc hl hx hm hd
  go_enter Tryz.func36, Tryz.ntmps36
  go_wp2_with fail
  obtain ⟨w1, hw1⟩ : ∃ w1, w1 = w.alloc (.cells #[.string x, .slice (some ⟨h, 0, none⟩) m oc] 67) := ⟨_, rfl⟩
  rw [← hw1]
  obtain ⟨w2, hw2⟩ : ∃ w2, w2 = Lib.bytesWorld w1 5 x := ⟨_, rfl⟩
  rw [← hw2]
  have z1 : w1.heap.size = w.heap.size + 1 := by rw [hw1]; simp
  have z2 : w2.heap.size = w.heap.size + 2 := by rw [hw2, Lib.bytesWorld_size, z1]
  have b1 : Below w.heap.size w w1 := by rw [hw1]; exact (Below.refl _ _).alloc (Nat.le_refl _) _
  have b2 : Below w1.heap.size w1 w2 := by rw [hw2]; exact bwA _ _ _
  have b12 : Below w.heap.size w w2 := b1.trans (b2.mono (by omega))
  have p1 : w2.heap[w.heap.size]? = some (.cells #[.string x, .slice (some ⟨h, 0, none⟩) m oc] 67 (0, 0)) := (b2.block _ (by omega)).trans (by rw [hw1]; exact heap_alloc_new _ _)
  have HC : Hid (∀ i, i < Ls.length → w2.cell? ⟨w.heap.size + 1, i, none⟩ = some (.int .u8 (Ls.getD i 0))) := hide (fun i hi => by
    rw [hw2, ← z1, Lib.bytesWorld_cell w1 5 x i (by omega), (unhide hby) i hi])
  have T2 : Hid (Tr B w2 A) := hide ((unhide HT).below b12)
  have N0 : Hid (Nb A w.heap.size ∧ Nb A (w.heap.size + 1)) := hide (by
    have f : ∀ q, w.heap.size ≤ q → Nb A q := fun q hq p y e => by
      have hlt := ((unhide HT).node p y e).2.lt
      refine ⟨by omega, fun g L e2 => ?_⟩
      obtain ⟨yb, yd⟩ := y
      simp only at e2
      subst e2
      have := (unhide HT).dlt e
      omega
    exact ⟨f _ (Nat.le_refl _), f _ (by omega)⟩)
  have B12 := hide b12
  have P1 := hide p1
  have hcD : Hid (∀ i, i < m → w2.cell? ⟨h, 0 + i, none⟩ = some (.int .u8 (Dg.getD i 0))) := hide (fun i hi => (b12.cell (p := ⟨h, 0 + i, none⟩) hh).trans ((unhide HCD) i hi))
  generalize grownCap w1 Ls.length 0 5 = cp
  clear hw1 hw2 b1 b2 b12 p1 z1 hcv HT HCD hby
  go_loopw [0, 11] (fun v0 v11 wr => ∃ (i : Nat) (A' : Mp) (y : Nd), i ≤ Ls.length ∧ v11 = .int .i64 (i : Int) ∧ v0 = .pointer (some ⟨y.1, 0, none⟩) ∧ Hid (Tr B wr A') ∧ Hid (A' ((Ls.map kd).take i) = some y) ∧ Hid (∃ d, A' [] = some (b0, d)) ∧ Hid (∀ q, (q = w.heap.size ∨ q = w.heap.size + 1 ∨ q = h) → wr.heap[q]? = w2.heap[q]? ∧ Nb A' q) ∧ Hid (Below B w2 wr) ∧ Hid (dgA A' = dgA A)) (fun _ v _ => Ls.length - (intOf v).toNat)
  case atStart => exact ⟨0, A, (b0, d0), by omega, rfl, rfl, T2, hide (by simpa using h0), hide ⟨d0, h0⟩, hide (fun q hq => ⟨rfl, by rcases hq with rfl | rfl | rfl; exact (unhide N0).1; exact (unhide N0).2; exact unhide HNB⟩), hide (Below.refl _ _), hide rfl⟩
  case round =>
    obtain ⟨i, A', y, hi2, rfl, rfl, HT', HY, H0, HQ, HBw, HDG⟩ := hrel
    have ny := (unhide HT').node _ _ (unhide HY)
    by_cases hlt : i < Ls.length
    · have hI : (i : Int) < (Ls.length : Int) := by omega
      have cI := (cell_same ((unhide HQ) (w.heap.size + 1) (.inr (.inl rfl))).1 i).trans ((unhide HC) i hlt)
      have CKi := hide (fun W => (unhide CK) i hlt W)
      have hk27 := (unhide HK) i hlt
      have hk27I : ((kd (Ls.getD i 0) : Nat) : Int) < 27 := by omega
      have hk0I : (0 : Int) ≤ ((kd (Ls.getD i 0) : Nat) : Int) := by omega
      have cc := ny.2.cell.1 _ hk27
      have cf := ny.2.cell.2.2 (kd (Ls.getD i 0))
      have hpk : Hid ((Ls.map kd).take (i + 1) = (Ls.map kd).take i ++ [kd (Ls.getD i 0)]) := hide (by
        rw [List.take_add_one, List.getElem?_map, List.getElem?_eq_getElem hlt, List.getD_eq_getElem?_getD, List.getElem?_eq_getElem hlt]
        rfl)
      generalize hcc : Ls.getD i 0 = c at *
      generalize hkk : kd c = k at *
      clear hcc hkk
      cases hch : A' ((Ls.map kd).take i ++ [k]) with
      | some z =>
        have ce : chV A' ((Ls.map kd).take i) k = .pointer (some ⟨z.1, 0, none⟩) := by unfold chV; rw [hch]; rfl
        rw [ce] at cc
        clear ce
        have HZ := hide (show A' ((Ls.map kd).take (i + 1)) = some z by rw [unhide hpk]; exact hch)
        clear hch
        go_wp2_with (go_at_call 54; refine ((unhide CKi) _).mono ?_; rintro e w' ⟨rfl, hw⟩; obtain rfl := hw.symm; clear hw)
        go_roundw
        case rel => exact ⟨i + 1, A', z, by omega, by go_num, rfl, HT', HZ, H0, HQ, HBw, HDG⟩
        case measure => simp [intOf]; omega
      | none =>
        have ce : chV A' ((Ls.map kd).take i) k = .pointer none := by unfold chV; rw [hch]; rfl
        rw [ce] at cc
        clear ce
        have hb3 : Below wr.heap.size wr (wr.alloc (.cells zN 65)) := (Below.refl _ _).alloc (Nat.le_refl _) _
        have n3 := zN_new wr
        have cA : (wr.alloc (.cells zN 65)).cell? ⟨y.1, k, none⟩ = some (.pointer none) := (hb3.cell (p := ⟨y.1, k, none⟩) ny.2.lt).trans cc
        have cB : (wr.alloc (.cells zN 65)).frozen? ⟨y.1, k, none⟩ = false := (ny.2.kept (hb3.block _ ny.2.lt)).cell.2.2 k
        have hsB := (unhide HBw).size
        have HDG3 := hide ((dgA_new (b := wr.heap.size) hch).trans (unhide HDG))
        have T3 := hide ((unhide HT').child (unhide HY) hk27 hch (by omega) hb3 n3)
        have HY3 := hide (show upd A' ((Ls.map kd).take i ++ [k]) (wr.heap.size, none) ((Ls.map kd).take (i + 1)) = some (wr.heap.size, none) by rw [unhide hpk]; exact upd_at _ _ _)
        have H03 : Hid (∃ d, upd A' ((Ls.map kd).take i ++ [k]) (wr.heap.size, none) [] = some (b0, d)) := hide (by
          obtain ⟨d, hd⟩ := unhide H0
          exact ⟨d, by rw [upd_ne (fun c => by simp at c)]; exact hd⟩)
        have B3 : Hid (Below B w2 ((wr.alloc (.cells zN 65)).setCell ⟨y.1, k, none⟩ (.pointer (some ⟨wr.heap.size, 0, none⟩)))) := hide (((unhide HBw).trans (hb3.mono (by omega))).setCell (p := ⟨y.1, k, none⟩) ny.1 _)
        have Q3 : Hid (∀ q, (q = w.heap.size ∨ q = w.heap.size + 1 ∨ q = h) → ((wr.alloc (.cells zN 65)).setCell ⟨y.1, k, none⟩ (.pointer (some ⟨wr.heap.size, 0, none⟩))).heap[q]? = w2.heap[q]? ∧ Nb (upd A' ((Ls.map kd).take i ++ [k]) (wr.heap.size, none)) q) := hide (fun q hq => by
          obtain ⟨a1, a2⟩ := (unhide HQ) q hq
          have hql : q < wr.heap.size := by rcases hq with rfl | rfl | rfl <;> omega
          refine ⟨((Below.heap_setCell _ _ _ _ (fun c => (a2 _ _ (unhide HY)).1 c.symm)).trans (hb3.block q hql)).trans a1, a2.upd (by show wr.heap.size ≠ q; omega) (fun g L c => by cases c)⟩)
        unfold zN at cA cB T3 B3 Q3
        clear n3 hb3 hch
        go_wp2_with (go_at_call 54; refine ((unhide CKi) _).mono ?_; rintro e w' ⟨rfl, hw⟩; obtain rfl := hw.symm; clear hw)
        go_roundw
        case rel => exact ⟨i + 1, _, (wr.heap.size, none), by omega, by go_num, rfl, T3, HY3, H03, Q3, B3, HDG3⟩
        case measure => simp [intOf]; omega
    · obtain rfl : i = Ls.length := by omega
      have c27 := ny.2.cell.2.1
      have f27 := ny.2.cell.2.2 27
      have pb := ((unhide HQ) w.heap.size (.inl rfl)).1.trans (unhide P1)
      have pc : wr.cell? ⟨w.heap.size, 1, none⟩ = some (.slice (some ⟨h, 0, none⟩) m oc) := by simp [World.cell?, pb]
      have HKT : Hid ((Ls.map kd).take Ls.length = Ls.map kd) := hide (by rw [List.take_of_length_le (by simp)])
      rw [unhide HKT] at HY ny
      clear HKT pb
      obtain ⟨y1, y2⟩ := y
      have hgB := (unhide HBw).size
      have HDN : Hid (Dg.length = Ls.length + 1) := hide ((unhide HMD).trans (unhide HM))
      have bww : Below B w wr := ((unhide B12).mono hB).trans (unhide HBw)
      cases y2 with
      | some gl =>
        obtain ⟨g, L⟩ := gl
        have c27' : wr.cell? ⟨y1, 27, none⟩ = some (.slice (some ⟨g, 0, none⟩) L.length L.length) := c27
        have dg := hide ((unhide HT').dig _ _ _ _ (unhide HY))
        have HLN : Hid (L.length = Ls.length + 1) := hide (by have := (unhide dg).2.2; simpa using this)
        have hcDw : ∀ j, j < Dg.length → wr.cell? ⟨h, 0 + j, none⟩ = some (.int .u8 (Dg.getD j 0)) := fun j hj => (cell_same ((unhide HQ) h (.inr (.inr rfl))).1 _).trans ((unhide hcD) j (by have := unhide HMD; omega))
        have hgh : h ≠ g := fun c => by have := ((unhide HQ) h (.inr (.inr rfl))).2 _ _ (unhide HY); exact this.2 g L rfl c.symm
        have CR := hide (fun W (hW : Below wr.heap.size wr W) => raiseH g 0 L.length L.length h 0 oc L Dg W ((hW.block _ (lt_of_block (unhide dg).2.1)).trans (unhide dg).2.1) (fun j hj => (hW.cell (p := ⟨h, 0 + j, none⟩) (by show h < _; omega)).trans (hcDw j hj)) hgh (by have := hW.size; omega) (by omega) (by have := unhide HLN; have := unhide HDN; omega) (by have := unhide HLN; omega))
        have FIN := hide (tree_raised hB (unhide HT') (unhide HY) (unhide H0) bww (O := Dg) (put (dgA A) (Ls.map kd) Dg) (fun q => by unfold put; rw [← unhide HDG, dgA_some (unhide HY)]; rfl))
        rw [unhide HMD] at CR FIN
        clear hcDw c27
        generalize L.length = n at *
        have hq := nil_no ⟨g, 0, none⟩ n n
        go_wp2_with fail
        go_region_with (go_at_call 55; refine ((unhide CR) _ (bdrew (Below.refl _ _) 1)).mono ?_; rintro e w9 ⟨⟨v, rfl⟩, hr9, hg9⟩)
        all_goals
          refine bodyPost_end (v := .tuple #[]) (by simp [results, Tryz.f36, go_sem]; try rfl) rfl ⟨⟨_, rfl⟩, ?_⟩
          exact (unhide FIN) w9 hr9 ⟨hg9.os, hg9.tape, hg9.output, hg9.size, hg9.block⟩
      | none =>
        have c27' : wr.cell? ⟨y1, 27, none⟩ = some (.slice none 0 0) := c27
        clear c27
        have hq := nil_yes
        go_wp2_with (at_make; refine wpList_make_full _ rfl _ _ 22 rfl wr.heap.size 5 i0 (.int .u8 0) 1 Tryz.underlying22 hi hz0 hz1 .i64 .i64 _ _ m rfl rfl rfl rfl (by first | (rw [hz2]; omega) | (unfold maxLen; omega) | omega) (by first | (rw [hz2]; omega) | (unfold maxLen; omega) | omega) (by first | (rw [hz2]; omega) | (unfold maxLen; omega) | omega) ?_)
        intro w5 hown hgrow
        obtain ⟨g, hg⟩ : ∃ g, g = wr.heap.size := ⟨_, rfl⟩
        have hrow := (own_full hown).2
        rw [made8, ← hg] at hrow
        have hbm : Below wr.heap.size wr w5 := ⟨hgrow.os, hgrow.tape, hgrow.output, hgrow.size, fun k hk => hgrow.block k hk (fun c => by cases c)⟩
        have hgl : g < w5.heap.size := lt_of_block hrow
        have hy1 : y1 < wr.heap.size := ny.2.lt
        have n5 := ny.2.kept (hbm.block _ hy1)
        have k27 : w5.cell? ⟨y1, 27, none⟩ = some (.slice none 0 0) := n5.cell.2.1
        have kf27 : w5.frozen? ⟨y1, 27, none⟩ = false := n5.cell.2.2 27
        have hyg : y1 ≠ g := by omega
        obtain ⟨w6, hw6⟩ : ∃ w6, w6 = w5.setCell ⟨y1, 27, none⟩ (.slice (some ⟨g, 0, none⟩) m m) := ⟨_, rfl⟩
        have r6 : w6.heap[g]? = some (.cells (u8s (List.replicate m 0)).toArray 5 (0, 0)) := by rw [hw6]; exact (Below.heap_setCell _ _ _ _ (Ne.symm hyg)).trans hrow
        have o6 : ∀ k, k < wr.heap.size → k ≠ y1 → w6.heap[k]? = wr.heap[k]? := fun k hk h1 => by rw [hw6]; exact (Below.heap_setCell _ _ _ _ h1).trans (hbm.block k hk)
        have d6 : Nde w6 y1 (chV A' (Ls.map kd)) (dgV (some (g, List.replicate m 0))) := by
          rw [hw6]
          have : dgV (some (g, List.replicate m (0 : Int))) = .slice (some ⟨g, 0, none⟩) m m := by unfold dgV; simp only [List.length_replicate]
          rw [this]
          exact n5.setD _
        have hlt' : ∀ q z, A' q = some z → z.1 ≠ g := fun q z c => by have := ((unhide HT').node q z c).2.lt; omega
        have T6 := (unhide HT').digits (unhide HY) g (List.replicate m 0) (by omega) hlt' (fun q b' L' _ c => by have := (unhide HT').dlt c; omega) (by have := unhide HM; simp; exact this) d6 r6 (fun k hk h1 _ => o6 k hk h1)
        have Y6 : upd A' (Ls.map kd) (y1, some (g, List.replicate m 0)) (Ls.map kd) = some (y1, some (g, List.replicate m 0)) := upd_at _ _ _
        have b6 : Below B w w6 := by rw [hw6]; exact (bww.trans (hbm.mono (by omega))).setCell (p := ⟨y1, 27, none⟩) ny.1 _
        have H6 : ∃ d, upd A' (Ls.map kd) (y1, some (g, List.replicate m 0)) [] = some (b0, d) := by
          obtain ⟨d, hd⟩ := unhide H0
          exact upd_root (unhide HY) hd
        have hln6 : (List.replicate m (0 : Int)).length = m := List.length_replicate
        have FIN := hide (tree_raised hB T6 Y6 H6 b6 (O := Dg) (put (dgA A) (Ls.map kd) Dg) (fun q => by unfold put; rw [dgA_upd, ← unhide HDG, dgA_none (unhide HY), unhide HMD]; by_cases e : q = Ls.map kd <;> simp [e]))
        have hq := (unhide HQ) h (.inr (.inr rfl))
        have hh6 : h < wr.heap.size := by omega
        have hny1 : h ≠ y1 := fun c => (hq.2 _ _ (unhide HY)).1 c.symm
        have e6 : w6.heap[h]? = w2.heap[h]? := (o6 h hh6 hny1).trans hq.1
        have z6 : wr.heap.size ≤ w6.heap.size := by rw [hw6]; have := hbm.size; simpa using this
        have CR := hide (fun W (hW : Below w6.heap.size w6 W) => raiseH g 0 m m h 0 oc (List.replicate m 0) Dg W ((hW.block _ (lt_of_block r6)).trans r6) (fun j hj => (hW.cell (p := ⟨h, 0 + j, none⟩) (by show h < _; omega)).trans ((cell_same e6 _).trans ((unhide hcD) j (by have := unhide HMD; omega)))) (by omega) (by have := hW.size; omega) (by omega) (by have := unhide HMD; omega) (by omega))
        have x27 : w6.cell? ⟨y1, 27, none⟩ = some (.slice (some ⟨g, 0, none⟩) m m) := by
          have := d6.cell.2.1
          unfold dgV at this
          simp only [List.length_replicate] at this
          exact this
        have hnp : w.heap.size ≠ y1 := fun c => (((unhide HQ) w.heap.size (.inl rfl)).2 _ _ (unhide HY)).1 c.symm
        have x1 : w6.cell? ⟨w.heap.size, 1, none⟩ = some (.slice (some ⟨h, 0, none⟩) m oc) := (cell_same (o6 w.heap.size (by omega) hnp) 1).trans pc
        rw [unhide HMD] at CR FIN
        clear T6 Y6 b6 H6 d6 r6 o6 hlt' hown hgrow hrow hbm n5 hq e6
        go_upto_region 11 with fail
        rw [← hg, ← hw6]
        clear hw6 hg
        go_region_with (go_at_call 55; refine ((unhide CR) _ (bdrew (Below.refl _ _) 1)).mono ?_; rintro e w9 ⟨⟨v, rfl⟩, hr9, hg9⟩)
        all_goals
          refine bodyPost_end (v := .tuple #[]) (by simp [results, Tryz.f36, go_sem]; try rfl) rfl ⟨⟨_, rfl⟩, ?_⟩
          exact (unhide FIN) w9 hr9 ⟨hg9.os, hg9.tape, hg9.output, hg9.size, hg9.block⟩
end Hyp
end Go.Proofs.YtcdhaikmedicfaaGreatDoor
