/- The nodes of a tree, handed on one by one. -/
import Derived.Test.YtaipnmmlfbfcnaaDoorRopN
import Derived.Test.YtaipnmmlfbfcnaaDoorRngF
import Derived.RangeFuncKeeps
import Derived.RangeFuncBound
import Derived.RangeFuncLeaves
import Derived.Shelf.Abstract
import Derived.WalkKit
import Derived.OwnWalkIn
import Derived.TacticsInMore
namespace Go.Proofs.YtaipnmmlfbfcnaaDoor.Rop
open Go.RowKit Go.Shelf
set_option linter.unusedVariables false
set_option linter.unusedSimpArgs false
attribute [local go_sem] Oper.semAt_some
/-- The nodes of a tree, each ahead of what is below it. -/
def HT.pre : HT → List HT
  | .nil => []
  | .leaf b t => [.leaf b t]
  | .node b t l r => .node b t l r :: (l.pre ++ r.pre)
theorem pre_len : ∀ H : HT, H.pre.length = H.sh.count
  | .nil => rfl
  | .leaf _ _ => rfl
  | .node b t l r => by
    show (l.pre ++ r.pre).length + 1 = l.sh.count + r.sh.count + 1
    rw [List.length_append, pre_len l, pre_len r]
def lay : Int → List HT → List Nd
  | _, [] => []
  | a, S :: L => ndAt a S :: lay (a + 1) L
theorem lay_app : ∀ (a : Int) (L M : List HT), lay a (L ++ M) = lay a L ++ lay (a + L.length) M
  | a, [], M => by simp [lay]
  | a, S :: L, M => by
    show ndAt a S :: lay (a + 1) (L ++ M) = ndAt a S :: (lay (a + 1) L ++ lay (a + (L.length + 1 : Nat)) M)
    rw [lay_app (a + 1) L M, show a + 1 + (L.length : Int) = a + ((L.length + 1 : Nat) : Int) by omega]
theorem lay_len : ∀ (a : Int) (L : List HT), (lay a L).length = L.length
  | _, [] => rfl
  | a, S :: L => by show (lay (a + 1) L).length + 1 = L.length + 1; rw [lay_len]
theorem nds_lay : ∀ (H : HT) (a : Int), nds H.sh a = lay a H.pre
  | .nil, _ => rfl
  | .leaf _ _, _ => rfl
  | .node b t l r, a => by
    show _ :: (nds l.sh (a + 1) ++ nds r.sh (a + 1 + l.sh.count)) = _ :: lay (a + 1) (l.pre ++ r.pre)
    rw [nds_lay l, nds_lay r, lay_app, pre_len]
    rfl
theorem handL {x y : List HT} {H : HT} {Q : List HT} (h : x ++ (H :: y) <+: Q) : x ++ [H] <+: Q := by
  obtain ⟨r, hr⟩ := h
  exact ⟨y ++ r, by rw [← hr]; simp⟩
set_option maxRecDepth 100000 in
theorem hand0 (l n : Nat) (W : World) : CallsIn Fence.wide n Tryd.prog 66 #[.pointer none, .func (.yield l) #[] #[]] W fun e W' => e = .returned (.bool true) ∧ W' = W := by
  refine callsIn_of_wp Tryd.func66 rfl trivial ?_ rfl
  simp only [Tryd.ntmps66, List.size_toArray, List.length_cons, List.length_nil, Nat.reduceAdd, Nat.reduceSub, Array.replicate_succ, Array.replicate_zero, List.push_toArray, List.append_toArray, List.nil_append, List.cons_append]
  gi_wp2
  refine ⟨fun _ h => (by cases h), ?_⟩
  gi_wp2_with (refine ⟨trivial, ?_⟩)
  go_ret
  exact ⟨rfl, rfl⟩
set_option maxRecDepth 100000 in
set_option maxHeartbeats 2000000 in
theorem handI (l n₀ : Nat) (Q : List HT) (J Jx : List HT → World → Prop)
    (hY : ∀ m pre x W, J pre W → pre ++ [x] <+: Q → In n₀ W x → YieldAt Fence.wide m Tryd.prog l #[.pointer x.ptr] W fun e W' =>
      (e = .returned (.bool true) ∧ J (pre ++ [x]) W' ∧ Below n₀ W W') ∨ (e = .returned (.bool false) ∧ Jx (pre ++ [x]) W')) (H : HT) :
    ∀ (n : Nat) (pre : List HT) (W : World), In n₀ W H → J pre W → pre ++ H.pre <+: Q →
      CallsIn Fence.wide n Tryd.prog 66 #[.pointer H.ptr, .func (.yield l) #[] #[]] W fun e W' =>
        (e = .returned (.bool true) ∧ J (pre ++ H.pre) W' ∧ Below n₀ W W') ∨ (e = .returned (.bool false) ∧ ∃ q, q <+: H.pre ∧ Jx (pre ++ q) W') := by
  induction H with
  | nil =>
    intro n pre W hi hJ hp
    refine (hand0 l n W).mono ?_
    rintro e W' ⟨rfl, rfl⟩
    exact .inl ⟨rfl, by simpa [HT.pre] using hJ, Below.refl _ _⟩
  | leaf b t =>
    intro n pre W hi hJ hp
    obtain ⟨c0, c1, c2, c3, c4⟩ := brn_cells hi.2
    have hb := hi.1
    obtain ⟨fn, tmps, assign, body, hyy, hR'⟩ := hY (n - 1) pre (.leaf b t) W hJ hp hi
    have hR := RoundIn.mono hR' (R' := fun e W1 => (e = .returned (.bool true) ∧ J (pre ++ [.leaf b t]) W1 ∧ Hid (Below n₀ W W1) ∧ W1.cell? ⟨b, 3, none⟩ = some (.pointer none) ∧ W1.cell? ⟨b, 4, none⟩ = some (.pointer none)) ∨ (e = .returned (.bool false) ∧ Jx (pre ++ [.leaf b t]) W1))
      (fun e W1 h => h.elim (fun ⟨he, hj, hb1⟩ => .inl ⟨he, hj, hide hb1, (hb1.cell (p := ⟨b, 3, none⟩) hb).trans c3, (hb1.cell (p := ⟨b, 4, none⟩) hb).trans c4⟩) .inr)
    clear hR' c0 c1 c2 c3 c4 hY
    have e0 : (HT.leaf b t).ptr = some ⟨b, 0, none⟩ := rfl
    rw [e0] at hyy ⊢
    clear e0
    have TOK : True := trivial
    refine callsIn_of_wp Tryd.func66 rfl trivial ?_ rfl
    simp only [Tryd.ntmps66, List.size_toArray, List.length_cons, List.length_nil, Nat.reduceAdd, Nat.reduceSub, Array.replicate_succ, Array.replicate_zero, List.push_toArray, List.append_toArray, List.nil_append, List.cons_append]
    gi_wp2_with (first
      | ((try refine ⟨(fun h => (by cases h)), ?_⟩); refine hR.mono ?_; clear hR; rintro e W1 (⟨rfl, hJ1, hb1, c3', c4'⟩ | ⟨rfl, hx1⟩))
      | (refine ⟨trivial, (fun h => (by cases h)), ?_⟩; gi_at_call 66; refine (hand0 l _ _).mono ?_; rintro e W2 ⟨rfl, hw⟩; obtain rfl := hw.symm; clear hw))
    · go_ret
      exact .inl ⟨rfl, hJ1, unhide hb1⟩
    · have JX := hide hx1
      clear hx1
      refine ⟨trivial, ?_⟩
      gi_wp2_with (refine ⟨trivial, ?_⟩)
      go_ret
      exact .inr ⟨rfl, [.leaf b t], List.prefix_refl _, unhide JX⟩
  | node b t lh rh ihl ihr =>
    intro n pre W hi hJ hp
    obtain ⟨hb, hh, hil, hir⟩ := hi
    obtain ⟨c0, c1, c2, c3, c4⟩ := brn_cells hh
    have hp1 : pre ++ [.node b t lh rh] <+: Q := handL hp
    have hp2 : (pre ++ [.node b t lh rh]) ++ lh.pre <+: Q := by
      obtain ⟨r, hr⟩ := hp
      exact ⟨rh.pre ++ r, by rw [← hr]; simp [HT.pre]⟩
    have hp3 : ((pre ++ [.node b t lh rh]) ++ lh.pre) ++ rh.pre <+: Q := by
      obtain ⟨r, hr⟩ := hp
      exact ⟨r, by rw [← hr]; simp [HT.pre]⟩
    obtain ⟨fn, tmps, assign, body, hyy, hR'⟩ := hY (n - 1) pre (.node b t lh rh) W hJ hp1 ⟨hb, hh, hil, hir⟩
    have hR := RoundIn.mono hR' (R' := fun e W1 => (e = .returned (.bool true) ∧ Hid (J (pre ++ [.node b t lh rh]) W1) ∧ Hid (Below n₀ W W1) ∧ W1.cell? ⟨b, 3, none⟩ = some (.pointer lh.ptr)) ∨ (e = .returned (.bool false) ∧ Hid (Jx (pre ++ [.node b t lh rh]) W1)))
      (fun e W1 h => h.elim (fun ⟨he, hj, hb1⟩ => .inl ⟨he, hide hj, hide hb1, (hb1.cell (p := ⟨b, 3, none⟩) hb).trans c3⟩) (fun ⟨he, hx⟩ => .inr ⟨he, hide hx⟩))
    have IL := hide (fun W1 (hj : J (pre ++ [.node b t lh rh]) W1) (hb1 : Below n₀ W W1) => (ihl (n - 1) _ W1 (In.below hb1 hil) hj hp2).mono (R' := fun e W2 => (e = .returned (.bool true) ∧ Hid (J ((pre ++ [.node b t lh rh]) ++ lh.pre) W2) ∧ Hid (Below n₀ W W2) ∧ W2.cell? ⟨b, 4, none⟩ = some (.pointer rh.ptr)) ∨ (e = .returned (.bool false) ∧ ∃ q, Hid (q <+: lh.pre ∧ Jx ((pre ++ [.node b t lh rh]) ++ q) W2)))
      (fun e W2 h => h.elim (fun ⟨he, hj2, hb2⟩ => .inl ⟨he, hide hj2, hide (hb1.trans hb2), ((hb1.trans hb2).cell (p := ⟨b, 4, none⟩) hb).trans c4⟩) (fun ⟨he, q, hq⟩ => .inr ⟨he, q, hide hq⟩)))
    have IR := hide (fun W2 (hj : J ((pre ++ [.node b t lh rh]) ++ lh.pre) W2) (hb2 : Below n₀ W W2) => (ihr (n - 1) _ W2 (In.below hb2 hir) hj hp3).mono (R' := fun e W3 => (e = .returned (.bool true) ∧ Hid (J (((pre ++ [.node b t lh rh]) ++ lh.pre) ++ rh.pre) W3) ∧ Hid (Below n₀ W W3)) ∨ (e = .returned (.bool false) ∧ ∃ q, Hid (q <+: rh.pre ∧ Jx (((pre ++ [.node b t lh rh]) ++ lh.pre) ++ q) W3)))
      (fun e W3 h => h.elim (fun ⟨he, hj2, hb3⟩ => .inl ⟨he, hide hj2, hide (hb2.trans hb3)⟩) (fun ⟨he, q, hq⟩ => .inr ⟨he, q, hide hq⟩)))
    clear hR' c0 c1 c2 c3 c4 hY ihl ihr hh hil hir hp1 hp2 hp3 hp hJ
    have e0 : (HT.node b t lh rh).ptr = some ⟨b, 0, none⟩ := rfl
    rw [e0] at hyy ⊢
    clear e0
    have HE : Hid (pre ++ (HT.node b t lh rh).pre = ((pre ++ [.node b t lh rh]) ++ lh.pre) ++ rh.pre) := hide (by simp [HT.pre])
    have HP : Hid (∀ q, (q <+: lh.pre → .node b t lh rh :: q <+: (HT.node b t lh rh).pre) ∧ (q <+: rh.pre → .node b t lh rh :: (lh.pre ++ q) <+: (HT.node b t lh rh).pre)) := hide (fun q => ⟨fun ⟨r, hr⟩ => ⟨r ++ rh.pre, by simp [HT.pre, ← hr]⟩, fun ⟨r, hr⟩ => ⟨r, by simp [HT.pre, ← hr]⟩⟩)
    have HP0 : Hid ([.node b t lh rh] <+: (HT.node b t lh rh).pre) := hide ⟨lh.pre ++ rh.pre, rfl⟩
    generalize HT.node b t lh rh = X at *
    generalize lh.ptr = pl at *
    generalize rh.ptr = pr at *
    refine callsIn_of_wp Tryd.func66 rfl trivial ?_ rfl
    simp only [Tryd.ntmps66, List.size_toArray, List.length_cons, List.length_nil, Nat.reduceAdd, Nat.reduceSub, Array.replicate_succ, Array.replicate_zero, List.push_toArray, List.append_toArray, List.nil_append, List.cons_append]
    gi_wp2_with (first
      | ((try refine ⟨(fun h => (by cases h)), ?_⟩); refine hR.mono ?_; clear hR; rintro e W1 (⟨rfl, hJ1, hb1, c3'⟩ | ⟨rfl, hx1⟩))
      | (refine ⟨trivial, (fun h => (by cases h)), ?_⟩; gi_at_call 66; refine ((unhide IL) _ (unhide hJ1) (unhide hb1)).mono ?_; clear IL; rintro e W2 (⟨rfl, hJ2, hb2, c4'⟩ | ⟨rfl, q, hq⟩))
      | (refine ⟨trivial, (fun h => (by cases h)), ?_⟩; gi_at_call 66; refine ((unhide IR) _ (unhide hJ2) (unhide hb2)).mono ?_; clear IR; rintro e W3 (⟨rfl, hJ3, hb3⟩ | ⟨rfl, q, hq⟩)))
    · go_ret
      exact .inl ⟨rfl, by rw [unhide HE]; exact unhide hJ3, unhide hb3⟩
    · go_ret
      exact .inr ⟨rfl, X :: (lh.pre ++ q), ((unhide HP) q).2 (unhide hq).1, by have := (unhide hq).2; simpa using this⟩
    · refine ⟨trivial, ?_⟩
      gi_wp2
      go_ret
      exact .inr ⟨rfl, X :: q, ((unhide HP) q).1 (unhide hq).1, by have := (unhide hq).2; simpa using this⟩
    · refine ⟨trivial, ?_⟩
      gi_wp2_with (refine ⟨trivial, ?_⟩)
      go_ret
      exact .inr ⟨rfl, [X], unhide HP0, unhide hx1⟩
end Go.Proofs.YtaipnmmlfbfcnaaDoor.Rop
