/- Whether a point is safe, and the last one that is: the program's look, left at the first part. -/
import Derived.Test.YtlhoeoeapkjegaaDoorNmlL
namespace Go.Proofs.YtlhoeoeapkjegaaDoor
open Go.RowKit Go.Shelf
attribute [local go_sem] Oper.semAt_some
def fstB (x : Int) : Bool := decide (clsZ x = 0) && !isSec x
def safB (k : Bool) (p : Int) : Bool := fstB (nth (allF k 2 p) 0)
theorem pre_one {k : Bool} {p x : Int} (h : [x] <+: allF k 2 p) : safB k p = fstB x := by
  obtain ⟨r, e⟩ := h
  unfold safB
  rw [← e]
  rfl
/-- The answer's box, and that nothing below has changed. -/
structure SfI (w W : World) (b : Bool) : Prop where
  box : Boxed W w.heap.size 4 (.bool b)
  bel : Below w.heap.size w W
theorem SfI.grown {w W W' : World} {b : Bool} {row : Option Nat} {N : Nat} (h : SfI w W b) (hg : W.grownBy W' row) (hN : w.heap.size ≤ N) (hr : ∀ r, row = some r → N ≤ r ∧ ∃ o : Obj, W.heap[r]? = some o ∧ o.isCells = false) : SfI w W' b := by
  refine ⟨h.box.kept hg (fun e => ?_), h.bel.grown hg h.bel.size (fun k e => by have := (hr k e).1; omega)⟩
  obtain ⟨_, o, h1, h2⟩ := hr _ e.symm
  have h3 : W.heap[w.heap.size]? = _ := h.box
  rw [h3] at h1
  injection h1 with h1
  subst h1
  cases h2
theorem SfI.put {w W : World} {b c : Bool} (h : SfI w W b) : SfI w (W.setCell ⟨w.heap.size, 0, none⟩ (.bool c)) c :=
  ⟨h.box.set _, h.bel.setCell (p := ⟨w.heap.size, 0, none⟩) (Nat.le_refl _) _⟩
set_option maxHeartbeats 2000000 in
set_option maxRecDepth 100000 in
theorem safe_in (form p : Int) (k : Bool) (hk : k = true ↔ form = 3 ∨ form = 4) (w : World) :
    CallsIn Fence.wide 6 Tryd.prog 44 #[.int .i64 form, .int .i64 p] w fun e w' => e = .returned (.bool (safB k p)) ∧ Below w.heap.size w w' := by
  have hn1 : 1 ≤ 6 := by omega
  have LA := (callsIn_wide (n := 5)).2 (last_any form p (w.alloc (.cells #[.bool false] 4)))
  have sz : (w.alloc (.cells #[.bool false] 4)).heap.size = w.heap.size + 1 := by simp
  rw [sz] at LA
  obtain ⟨W0, hW0⟩ : ∃ W0, W0 = ((w.alloc (.cells #[.bool false] 4)).alloc (.cells #[.int .i64 form] 2)).alloc (.cells #[.int .i64 p] 2) := ⟨_, rfl⟩
  rw [← hW0] at LA
  have hsz : W0.heap.size = w.heap.size + 3 := by rw [hW0]; simp
  have HSt := last_stops 5 form p k hk (w.heap.size + 1) (w.heap.size + 1 + 1) W0 (by omega) (by omega) (by rw [hW0, ← sz]; exact ((Boxed.new _ 2 _).alloc _).cell) (by
    rw [hW0]
    have := (Boxed.new ((w.alloc (.cells #[.bool false] 4)).alloc (.cells #[.int .i64 form] 2)) 2 (.int .i64 p)).cell
    simpa using this)
  have S0 : SfI w W0 false := by
    rw [hW0]
    exact ⟨((Boxed.new w 4 _).alloc _).alloc _, (one_below w _).trans ((two_below _ _ _).mono (by simp))⟩
  have hlen := (allF_len k 2 p).1
  have HP : ∀ x, [x] <+: allF k 2 p → safB k p = fstB x := fun x h => pre_one h
  clear hk hW0
  generalize safB k p = R at *
  generalize allF k 2 p = xs at *
  refine callsIn_of_wp_marks Tryd.func44 rfl trivial ?_ rfl
  simp only [Tryd.ntmps44, List.size_toArray, List.length_cons, List.length_nil, Nat.reduceAdd, Nat.reduceSub, Array.replicate_succ, Array.replicate_zero, List.push_toArray, List.append_toArray, List.nil_append, List.cons_append]
  gi_wp2_with (refine ⟨trivial, ?_⟩; gi_at_call 39; refine LA.mono ?_; clear LA; rintro e W1 ⟨rfl, hW1⟩; replace hW1 := hW1.symm; subst hW1)
  refine wpIn_rangeFunc_ownG rfl hn1 (gf := 57) (lb := #[.pointer (some ⟨w.heap.size + 1, 0, none⟩), .pointer (some ⟨w.heap.size + 1 + 1, 0, none⟩)]) rfl trivial (enters_of Tryd.func57 (by kernel_rfl) rfl)
    HSt KeepP.trans keepP_b (Below.refl _ _) (fun _ => rfl)
    (fun (pre : List Int) W => pre = [] ∧ SfI w W false)
    (fun c (pre : List Int) W => c = .ret ∧ ∃ x, pre = [x] ∧ SfI w W (fstB x))
    (fun s W W' row hs hg hr => ⟨hs.1, hs.2.grown hg (by omega) hr⟩)
    (fun c s W W' row hs hg hr => by obtain ⟨h1, x, h2, h3⟩ := hs; exact ⟨h1, x, h2, h3.grown hg (by omega) hr⟩)
    ⟨rfl, S0⟩
    (fun x => { tmps := #[.int .i64 form, .int .i64 p, undef, undef, .pointer (some ⟨w.heap.size, 0, none⟩), .int .i64 x, .int .i64 form, .int .i64 p, .func (.func 57) #[] #[.pointer (some ⟨w.heap.size + 1, 0, none⟩), .pointer (some ⟨w.heap.size + 1 + 1, 0, none⟩)], .int .i64 x, undef, undef, undef, undef, undef, undef, undef, undef], defers := [] }) ?assign ?body ?done ?stop
  case assign =>
    intro l x W K hK
    gi_wp2
    exact hK
  case body =>
    rintro l pre x W ⟨rfl, hS⟩ _
    have hc := hS.box.cell
    have hf := hS.box.frozen
    have MK := (callsIn_wide (n := 3)).2 (markI x W)
    have SC := (callsIn_wide (n := 3)).2 (isSecI x W)
    have HF : Hid (fstB x = (decide (clsZ x = 0) && !isSec x)) := hide rfl
    have HPut := hide (fun c => hS.put (c := c))
    clear HP HSt S0
    generalize clsZ x = z at *
    by_cases h0 : z = 0
    · subst h0
      cases hs : isSec x with
      | false =>
        rw [hs] at SC
        have HE : Hid (fstB x = true) := hide (by rw [unhide HF, hs]; rfl)
        clear HF hs
        gi_wp2_with (first
          | (refine ⟨trivial, ?_⟩; gi_at_call 61; refine (CallsIn.inRound l MK).mono ?_; clear MK; rintro e W1 ⟨rfl, hW1⟩; replace hW1 := hW1.symm; subst hW1)
          | (refine ⟨trivial, ?_⟩; gi_at_call 65; refine (CallsIn.inRound l SC).mono ?_; clear SC; rintro e W1 ⟨rfl, hW1⟩; replace hW1 := hW1.symm; subst hW1))
        exact ⟨(KeepsOthers.setCell _ _ _).from _, rfl, x, rfl, by rw [unhide HE]; exact (unhide HPut) _⟩
      | true =>
        rw [hs] at SC
        have HE : Hid (fstB x = false) := hide (by rw [unhide HF, hs]; rfl)
        clear HF hs
        gi_wp2_with (first
          | (refine ⟨trivial, ?_⟩; gi_at_call 61; refine (CallsIn.inRound l MK).mono ?_; clear MK; rintro e W1 ⟨rfl, hW1⟩; replace hW1 := hW1.symm; subst hW1)
          | (refine ⟨trivial, ?_⟩; gi_at_call 65; refine (CallsIn.inRound l SC).mono ?_; clear SC; rintro e W1 ⟨rfl, hW1⟩; replace hW1 := hW1.symm; subst hW1))
        exact ⟨(KeepsOthers.setCell _ _ _).from _, rfl, x, rfl, by rw [unhide HE]; exact (unhide HPut) _⟩
    · have t1 : (z == 0) = false := by simpa using h0
      have HE : Hid (fstB x = false) := hide (by rw [unhide HF, decide_eq_false h0]; rfl)
      clear HF h0 SC
      gi_wp2_with (refine ⟨trivial, ?_⟩; gi_at_call 61; refine (CallsIn.inRound l MK).mono ?_; clear MK; rintro e W1 ⟨rfl, hW1⟩; replace hW1 := hW1.symm; subst hW1)
      refine ⟨trivial, ?_⟩
      gi_wp2
      exact ⟨(KeepsOthers.setCell _ _ _).from _, rfl, x, rfl, by rw [unhide HE]; exact (unhide HPut) _⟩
  case done =>
    rintro D ys W hD rfl ⟨h0, _⟩ _
    rw [h0] at hlen
    exact absurd hlen (by decide)
  case stop =>
    rintro D c pre W hD hp ⟨rfl, x, rfl, hS⟩ hK
    have hR := HP x hp
    gi_wp2
    refine ⟨by simp, .inl ⟨_, _, rfl, run_takeDeferred hK, ?_⟩⟩
    have hE := hS.grown (N := W0.heap.size) (grownBy_putObj' W D (.deferred none)) (by omega) (fun r e => by cases e; exact ⟨hD, _, hK, rfl⟩)
    have hc5 := hE.box.cell
    refine ⟨.bool (fstB x), ?_, by rw [hR], hE.bel⟩
    simp [results, Tryd.f44, go_sem, hc5]
theorem safeI (form p : Int) (k : Bool) (hk : k = true ↔ form = 3 ∨ form = 4) (w : World) :
    Calls Tryd.prog 44 #[.int .i64 form, .int .i64 p] w fun e w' => e = .returned (.bool (safB k p)) ∧ Below w.heap.size w w' := callsIn_wide.1 (safe_in form p k hk w)
/-- The last safe one of the first n. -/
def lastTo (k : Bool) (L : List Int) : Nat → Int
  | 0 => -1
  | n + 1 => if safB k (nth L n) = true then (n : Int) else lastTo k L n
theorem lastTo_bd (k : Bool) (L : List Int) : ∀ n, -1 ≤ lastTo k L n ∧ lastTo k L n < n
  | 0 => ⟨by simp [lastTo], by simp [lastTo]⟩
  | n + 1 => by
    have := lastTo_bd k L n
    unfold lastTo
    split <;> omega
set_option maxHeartbeats 1000000 in
set_option maxRecDepth 100000 in
theorem lastSafeI (form : Int) (k : Bool) (hk : k = true ↔ form = 3 ∨ form = 4) (B n : Nat) (v : Value) (L : List Int) (w : World) (ho : w.ownsRow B 2 1 v n (L.map (Value.int .i64))) (hn : n ≤ 1000000) :
    Calls Tryd.prog 29 #[.int .i64 form, v] w fun e w' => e = .returned (.int .i64 (lastTo k L n)) ∧ Below w.heap.size w w' := by
  obtain ⟨a, cap, rfl⟩ := form_ownI ho
  have CS := hide (fun x W => safeI form x k hk W)
  have HO := hide ho
  clear hk ho
  go_enter Tryd.func29, Tryd.ntmps29
  go_wp2
  go_loopw [5] (fun iv wr => ∃ j : Nat, j ≤ n ∧ iv = .int .i64 ((j : Int) - 1) ∧ Hid (lastTo k L n = lastTo k L j) ∧ Hid (Below w.heap.size w wr)) (fun iv _ => (intOf iv + 1).toNat)
  case atStart => exact ⟨n, Nat.le_refl _, rfl, hide rfl, hide (Below.refl _ _)⟩
  case round =>
    obtain ⟨j, hj, rfl, HL, HB⟩ := hrel
    match j, hj, HL with
    | 0, hj, HL =>
      go_wp2
      go_ret
      exact ⟨ret_int (unhide HL).symm, unhide HB⟩
    | j + 1, hj, HL =>
      have ej : ((j + 1 : Nat) : Int) - 1 = (j : Int) := by omega
      rw [ej]
      obtain ⟨g, c1, hv⟩ := own_pos (unhide HO) (by omega)
      injection hv with hv1 _ hv3
      subst hv1 hv3
      have hgl := ((unhide HO).lt g rfl).2
      have c0 := ((unhide HB).cell (p := ⟨g, j, none⟩) hgl).trans (cell_at (unhide HO) j (by omega))
      have CS1 := hide ((unhide CS) (nth L j))
      have HE : Hid (lastTo k L (j + 1) = if safB k (nth L j) = true then (j : Int) else lastTo k L j) := hide rfl
      generalize nth L j = x at *
      have hj0 : (0 : Int) ≤ (j : Int) := by omega
      cases hs : safB k x with
      | true =>
        rw [hs] at CS1
        have HR : Hid (lastTo k L n = (j : Int)) := hide (by rw [unhide HL, unhide HE, if_pos hs])
        clear HL HE hs CS
        go_wp2_with (go_at_call 44; refine ((unhide CS1) _).mono ?_; rintro e w2 ⟨rfl, hb2⟩)
        go_ret
        exact ⟨ret_int (unhide HR).symm, (unhide HB).trans (hb2.mono (unhide HB).size)⟩
      | false =>
        rw [hs] at CS1
        have HL2 : Hid (lastTo k L n = lastTo k L j) := hide (by rw [unhide HL, unhide HE, if_neg (by rw [hs]; simp)])
        clear HL HE hs CS
        go_wp2_with (go_at_call 44; refine ((unhide CS1) _).mono ?_; rintro e w2 ⟨rfl, hb2⟩; have B2 := hide ((unhide HB).trans (hb2.mono (unhide HB).size)); clear hb2)
        go_roundw
        case rel => exact ⟨j, by omega, by go_num, HL2, B2⟩
        case measure => simp [intOf]
end Go.Proofs.YtlhoeoeapkjegaaDoor
