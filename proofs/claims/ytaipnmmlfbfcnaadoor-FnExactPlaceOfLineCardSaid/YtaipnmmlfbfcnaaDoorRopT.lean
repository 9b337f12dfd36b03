/- The tree of a text, as the program lays it. -/
import Derived.Test.YtaipnmmlfbfcnaaDoorRopI
namespace Go.Proofs.YtaipnmmlfbfcnaaDoor.Rop
open Go.RowKit
set_option linter.unusedVariables false
/-- A tree as it lies in memory. -/
inductive HT where
  | nil
  | leaf (b : Nat) (t : ByteArray)
  | node (b : Nat) (t : ByteArray) (l r : HT)
def HT.ptr : HT → Option Addr
  | .nil => none
  | .leaf b _ => some ⟨b, 0, none⟩
  | .node b _ _ _ => some ⟨b, 0, none⟩
def HT.sh : HT → RT
  | .nil => .nil
  | .leaf _ t => .leaf t
  | .node _ t l r => .node t l.sh r.sh
def brn (t : ByteArray) (n : Nat) (p q : Option Addr) : Obj := .cells #[.string t, .int .i64 (ends t : Int), .int .i64 (n : Int), .pointer p, .pointer q] 85 (0, 0)
def In (n₀ : Nat) (W : World) : HT → Prop
  | .nil => True
  | .leaf b t => b < n₀ ∧ W.heap[b]? = some (brn t 1 none none)
  | .node b t l r => b < n₀ ∧ W.heap[b]? = some (brn t (l.sh.count + r.sh.count + 1) l.ptr r.ptr) ∧ In n₀ W l ∧ In n₀ W r
theorem In.below {n₀ : Nat} {W W' : World} (h : Below n₀ W W') : ∀ {H : HT}, In n₀ W H → In n₀ W' H
  | .nil, _ => trivial
  | .leaf b t, ⟨hb, hh⟩ => ⟨hb, (h.block b hb).trans hh⟩
  | .node b t l r, ⟨hb, hh, hl, hr⟩ => ⟨hb, (h.block b hb).trans hh, In.below h hl, In.below h hr⟩
theorem In.mono {n m : Nat} {W : World} (h : n ≤ m) : ∀ {H : HT}, In n W H → In m W H
  | .nil, _ => trivial
  | .leaf b t, ⟨hb, hh⟩ => ⟨by omega, hh⟩
  | .node b t l r, ⟨hb, hh, hl, hr⟩ => ⟨by omega, hh, In.mono h hl, In.mono h hr⟩
theorem brn_cells {W : World} {b n : Nat} {t : ByteArray} {p q : Option Addr} (h : W.heap[b]? = some (brn t n p q)) :
    W.cell? ⟨b, 0, none⟩ = some (.string t) ∧ W.cell? ⟨b, 1, none⟩ = some (.int .i64 (ends t : Int)) ∧ W.cell? ⟨b, 2, none⟩ = some (.int .i64 (n : Int)) ∧ W.cell? ⟨b, 3, none⟩ = some (.pointer p) ∧ W.cell? ⟨b, 4, none⟩ = some (.pointer q) := by
  unfold brn at h
  refine ⟨?_, ?_, ?_, ?_, ?_⟩ <;> simp [World.cell?, h]
/-- What a tree that is not empty has at its head. -/
theorem In.head {n₀ : Nat} {W : World} {H : HT} (h : In n₀ W H) (hn : H.sh ≠ .nil) : ∃ b p q, H.ptr = some ⟨b, 0, none⟩ ∧ b < n₀ ∧ W.heap[b]? = some (brn H.sh.text H.sh.count p q) := by
  cases H with
  | nil => exact absurd rfl hn
  | leaf b t => exact ⟨b, _, _, rfl, h.1, h.2⟩
  | node b t l r => exact ⟨b, _, _, rfl, h.1, h.2.1⟩
theorem tr_ne {t : ByteArray} {T : RT} (h : IsTr t T) (hs : 0 < t.size) : T ≠ .nil := by
  intro e
  subst e
  cases h with
  | nil h0 => omega
theorem ne_empty {t : ByteArray} (h : 0 < t.size) : t.toList.isEmpty = false := by
  rw [Lib.toList_data]
  cases hd : t.data.toList with
  | nil => exact absurd (show t.size = 0 by rw [Lib.size_eq, hd]; rfl) (by omega)
  | cons _ _ => rfl
theorem tree_close {w w3 : World} {t : ByteArray} {Hl Hr : HT} {l r : RT} {bl br : Nat} {o : Obj} (hb : Below w.heap.size w w3) (il : In w3.heap.size w3 Hl) (ir : In w3.heap.size w3 Hr) (sl : Hl.sh = l) (sr : Hr.sh = r) (el : Hl.ptr = some ⟨bl, 0, none⟩) (er : Hr.ptr = some ⟨br, 0, none⟩) {x : Value} (hx : x = .pointer (some ⟨w3.heap.size + 1, 0, none⟩)) :
    ∃ H : HT, (Ending.returned x : Ending) = .returned (.pointer H.ptr) ∧ H.sh = .node t l r ∧ In (((w3.alloc o).alloc (.cells #[.string t, .int .i64 (ends t : Int), .int .i64 ((l.count : Int) + (r.count : Int) + 1), .pointer (some ⟨bl, 0, none⟩), .pointer (some ⟨br, 0, none⟩)] 85)).drew).heap.size (((w3.alloc o).alloc (.cells #[.string t, .int .i64 (ends t : Int), .int .i64 ((l.count : Int) + (r.count : Int) + 1), .pointer (some ⟨bl, 0, none⟩), .pointer (some ⟨br, 0, none⟩)] 85)).drew) H ∧
      Below w.heap.size w (((w3.alloc o).alloc (.cells #[.string t, .int .i64 (ends t : Int), .int .i64 ((l.count : Int) + (r.count : Int) + 1), .pointer (some ⟨bl, 0, none⟩), .pointer (some ⟨br, 0, none⟩)] 85)).drew) := by
  subst hx
  obtain ⟨x, hx⟩ : ∃ x : Obj, x = .cells #[.string t, .int .i64 (ends t : Int), .int .i64 ((l.count : Int) + (r.count : Int) + 1), .pointer (some ⟨bl, 0, none⟩), .pointer (some ⟨br, 0, none⟩)] 85 := ⟨_, rfl⟩
  rw [← hx]
  have b3 : Below w3.heap.size w3 ((w3.alloc o).alloc x).drew := bdrew (((Below.refl _ _).alloc (Nat.le_refl _) o).alloc (by simp) x) 1
  have hz : ((w3.alloc o).alloc x).drew.heap.size = w3.heap.size + 2 := by show ((w3.alloc o).alloc x).heap.size = _; simp
  refine ⟨.node (w3.heap.size + 1) t Hl Hr, rfl, by rw [← sl, ← sr]; rfl, ⟨by omega, ?_, (In.below b3 il).mono (by omega), (In.below b3 ir).mono (by omega)⟩, hb.trans (b3.mono hb.size)⟩
  show ((w3.alloc o).alloc x).heap[w3.heap.size + 1]? = _
  have e : w3.heap.size + 1 = (w3.alloc o).heap.size := by simp
  rw [e, heap_alloc_new, hx, el, er, sl, sr]
  unfold brn
  simp
set_option maxRecDepth 100000 in
set_option maxHeartbeats 2000000 in
theorem treeI {t : ByteArray} {T : RT} (h : IsTr t T) : ∀ w, TabD w → t.size ≤ 65536 → Calls Tryd.prog 45 #[.string t] w fun e w' => ∃ H : HT, e = .returned (.pointer H.ptr) ∧ H.sh = T ∧ In w'.heap.size w' H ∧ Below w.heap.size w w' := by
  induction h with
  | nil h0 =>
    intro w hT hs
    obtain rfl := ByteArray.size_eq_zero_iff.1 h0
    go_enter Tryd.func45, Tryd.ntmps45
    go_wp2
    go_ret
    exact ⟨.nil, rfl, rfl, trivial, Below.refl _ _⟩
  | @leaf t h0 h1 =>
    intro w hT hs
    have he := ne_empty h0
    have C := hide (linesI t w)
    have hle : (t.size : Int) ≤ 64 := by omega
    go_enter Tryd.func45, Tryd.ntmps45
    go_wp2_with (go_at_call 35; refine (unhide C).mono ?_; rintro e w' ⟨rfl, hw⟩; obtain rfl := hw.symm; clear hw)
    go_ret
    refine ⟨.leaf w.heap.size t, rfl, rfl, ⟨by simp, ?_⟩, (Below.refl _ _).alloc (Nat.le_refl _) _⟩
    exact heap_alloc_new _ _
  | @node t l r h64 hl hr il ir =>
    intro w hT hs
    have hc := cut_bd h64
    have hz := size_cut h64
    have nl := tr_ne hl (by omega)
    have nr := tr_ne hr (by omega)
    have he := ne_empty (t := t) (by omega)
    have hle : ¬ (t.size : Int) ≤ 64 := by omega
    have CH := hide (halfI t w hT h64 hs)
    have CL := hide (fun W (hW : TabD W) => il W hW (by omega))
    have CR := hide (fun W (hW : TabD W) => ir W hW (by omega))
    have HT0 := hide hT
    have HE := hide (ends_cut h64)
    have HX := hide (And.intro hl.text hr.text)
    have hcnt : l.count ≤ 131072 ∧ r.count ≤ 131072 := by
      have a := hl.count.1
      have b := hr.count.1
      omega
    clear il ir hl hr hT
    generalize cut t = c at *
    go_enter Tryd.func45, Tryd.ntmps45
    go_wp2_with (go_at_call 61; refine (unhide CH).mono ?_; rintro e w1 ⟨rfl, hb1⟩; have B1 := hide hb1; clear hb1)
    have TOK : True := trivial
    go_region_with (first
      | (clear TOK; go_at_call 45; refine ((unhide CL) _ ((unhide HT0).below (bdrew (unhide B1) 1))).mono ?_; rintro e w2 ⟨Hl, rfl, sl, inl, hb2⟩; have B2 := hide hb2; have IL := hide inl; clear hb2 inl)
      | (go_at_call 45; refine ((unhide CR) _ ((unhide HT0).below ((bdrew (unhide B1) 1).trans ((unhide B2).mono (unhide B1).size)))).mono ?_; rintro e w3 ⟨Hr, rfl, sr, inr, hb3⟩; have B3 := hide hb3; have IR := hide inr; clear hb3 inr))
    all_goals
      have IL3 := hide (In.below (unhide B3) ((unhide IL)))
      have z3 := (unhide B3).size
      obtain ⟨bl, pl, ql, el, ltl, hhl⟩ := In.head (unhide IL3) (by rw [sl]; exact nl)
      obtain ⟨br, pr, qr, er, ltr, hhr⟩ := In.head (unhide IR) (by rw [sr]; exact nr)
      rw [sl, (unhide HX).1] at hhl
      rw [sr, (unhide HX).2] at hhr
      obtain ⟨l0, l1, l2, l3, l4⟩ := brn_cells hhl
      obtain ⟨r0, r1, r2, r3, r4⟩ := brn_cells hhr
      clear hhl hhr l0 l3 l4 r0 r3 r4
      rw [el, er]
      have hcl := hide sl
      have hcr := hide sr
      have hel := hide el
      have her := hide er
      clear sl sr el er nl nr
      have hsum : (ends (t.extract 0 c) : Int) + (ends (t.extract c t.size) : Int) = (ends t : Int) := by have := unhide HE; omega
      have he1 := ends_le t
      have ltl3 : bl < w3.heap.size := by omega
      simp only [List.getElem_toArray, List.getElem_cons_succ, List.getElem_cons_zero, Act.put, List.setIfInBounds_toArray, List.set_cons_succ, List.set_cons_zero]
      have la1 : ∀ o, (w3.alloc o).cell? ⟨bl, 1, none⟩ = some (.int .i64 (ends (t.extract 0 c) : Int)) := fun o => (((Below.refl w3.heap.size w3).alloc (Nat.le_refl _) o).cell (p := ⟨bl, 1, none⟩) ltl3).trans l1
      have la2 : ∀ o, (w3.alloc o).cell? ⟨bl, 2, none⟩ = some (.int .i64 (l.count : Int)) := fun o => (((Below.refl w3.heap.size w3).alloc (Nat.le_refl _) o).cell (p := ⟨bl, 2, none⟩) ltl3).trans l2
      have ra1 : ∀ o, (w3.alloc o).cell? ⟨br, 1, none⟩ = some (.int .i64 (ends (t.extract c t.size) : Int)) := fun o => (((Below.refl w3.heap.size w3).alloc (Nat.le_refl _) o).cell (p := ⟨br, 1, none⟩) ltr).trans r1
      have ra2 : ∀ o, (w3.alloc o).cell? ⟨br, 2, none⟩ = some (.int .i64 (r.count : Int)) := fun o => (((Below.refl w3.heap.size w3).alloc (Nat.le_refl _) o).cell (p := ⟨br, 2, none⟩) ltr).trans r2
      have hcb := hide hcnt
      obtain ⟨hcl1, hcr1⟩ := hcnt
      go_wp2_with fail
      go_region
      go_wp2
      go_ret
      exact tree_close ((unhide B1).trans (((bdrew (Below.refl _ _) 1).trans (unhide B2)).mono (unhide B1).size |>.trans ((unhide B3).mono (Nat.le_trans (unhide B1).size (unhide B2).size)))) ((unhide IL3).mono (by omega)) (unhide IR) (unhide hcl) (unhide hcr) (unhide hel) (unhide her) rfl
end Go.Proofs.YtaipnmmlfbfcnaaDoor.Rop
