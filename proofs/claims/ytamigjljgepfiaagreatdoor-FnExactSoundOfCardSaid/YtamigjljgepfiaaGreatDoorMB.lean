/- Several texts in one. -/
import Derived.WalkKit
import Derived.Test.YtamigjljgepfiaaGreatDoorMA
import Derived.Shelf.RegionOpenPlain
import Derived.Maps.AppendAt
import Derived.Laws.Rows
import Derived.BigQuiet
import Derived.Deep.QuietTactic
import Derived.Deep.Cut
/- Rows in order, and those that are alike as they stood: no Go in sight. -/
namespace Go.Proofs.YtamigjljgepfiaaGreatDoor
/-- 'Below' of a weak order. -/
structure Weak {α : Type} (lt : α → α → Bool) : Prop where
  irr : ∀ x, lt x x = false
  asym : ∀ x y, lt x y = true → lt y x = false
  tr : ∀ x y z, lt x y = true → lt y z = true → lt x z = true
  ntr : ∀ x y z, lt y x = false → lt z y = false → lt z x = false
theorem Weak.of_lt {α : Type} {lt : α → α → Bool} (h : Weak lt) {x y z : α} (h1 : lt x y = true) (h2 : lt z y = false) : lt x z = true := by
  cases e : lt x z with
  | true => rfl
  | false =>
    have := h.ntr z x y
    have h3 := h.ntr y z x h2 e
    rw [h1] at h3
    cases h3
theorem Weak.of_le {α : Type} {lt : α → α → Bool} (h : Weak lt) {x y z : α} (h1 : lt y x = false) (h2 : lt y z = true) : lt x z = true := by
  cases e : lt x z with
  | true => rfl
  | false =>
    have h3 := h.ntr z x y e h1
    rw [h2] at h3
    cases h3
section
variable {α : Type} {lt : α → α → Bool}
def alike (lt : α → α → Bool) (c x : α) : Bool := !lt x c && !lt c x
theorem alike_iff {c x : α} : alike lt c x = true ↔ lt x c = false ∧ lt c x = false := by simp [alike]
def Srt (lt : α → α → Bool) (l : List α) : Prop := l.Pairwise (fun x y => lt y x = false)
def StEq (lt : α → α → Bool) (l l' : List α) : Prop := ∀ c, l.filter (alike lt c) = l'.filter (alike lt c)
theorem StEq.refl (l : List α) : StEq lt l l := fun _ => rfl
theorem StEq.symm {l l' : List α} (h : StEq lt l l') : StEq lt l' l := fun c => (h c).symm
theorem StEq.trans {a b c : List α} (h : StEq lt a b) (g : StEq lt b c) : StEq lt a c := fun d => (h d).trans (g d)
theorem StEq.app {a a' b b' : List α} (h : StEq lt a a') (g : StEq lt b b') : StEq lt (a ++ b) (a' ++ b') := fun c => by rw [List.filter_append, List.filter_append, h c, g c]
theorem StEq.mem (hW : Weak lt) {l l' : List α} (h : StEq lt l l') {x : α} (hx : x ∈ l) : x ∈ l' := by
  have h1 : x ∈ l.filter (alike lt x) := List.mem_filter.2 ⟨hx, alike_iff.2 ⟨hW.irr x, hW.irr x⟩⟩
  rw [h x] at h1
  exact (List.mem_filter.1 h1).1
theorem StEq.swap (hW : Weak lt) {a b : List α} (h : ∀ x ∈ a, ∀ y ∈ b, lt y x = true) : StEq lt (a ++ b) (b ++ a) := fun c => by
  rw [List.filter_append, List.filter_append]
  by_cases e : a.filter (alike lt c) = []
  · rw [e]; simp
  · obtain ⟨x, hx⟩ := List.exists_mem_of_ne_nil _ e
    obtain ⟨hx, hc⟩ := List.mem_filter.1 hx
    have hb : b.filter (alike lt c) = [] := List.filter_eq_nil_iff.2 (fun y hy he => by
      have h1 := h x hx y hy
      have h2 := (alike_iff.1 hc).2
      have h3 := hW.of_lt h1 h2
      rw [(alike_iff.1 he).1] at h3
      cases h3)
    rw [hb]; simp
theorem StEq.length {l l' : List α} (hW : Weak lt) (h : StEq lt l l') : l.length = l'.length := by
  have key : ∀ n, ∀ (l l' : List α), l.length ≤ n → StEq lt l l' → l.length = l'.length := fun n => by
    induction n with
    | zero =>
      intro l l' hl h
      obtain rfl : l = [] := List.length_eq_zero_iff.1 (by omega)
      match l', h with
      | [], _ => rfl
      | y :: t, h =>
        have := StEq.mem hW h.symm (x := y) (by simp)
        simp at this
    | succ n ih =>
      intro l l' hl h
      match l, h with
      | [], h =>
        match l', h with
        | [], _ => rfl
        | y :: t, h =>
          have := StEq.mem hW h.symm (x := y) (by simp)
          simp at this
      | x :: t, h =>
        have hp : ∀ (m : List α), m.length = (m.filter (alike lt x)).length + (m.filter (fun y => !alike lt x y)).length := fun m => by
          induction m with
          | nil => rfl
          | cons y m ihm =>
            cases e : alike lt x y <;> simp [e] <;> omega
        have h1 := hp (x :: t)
        have h2 := hp l'
        have hx : alike lt x x = true := alike_iff.2 ⟨hW.irr x, hW.irr x⟩
        have h3 : StEq lt ((x :: t).filter (fun y => !alike lt x y)) (l'.filter (fun y => !alike lt x y)) := fun c => by
          rw [List.filter_filter, List.filter_filter]
          have e1 : ∀ (m : List α), m.filter (fun y => alike lt c y && !alike lt x y) = (m.filter (alike lt c)).filter (fun y => !alike lt x y) := fun m => by
            rw [List.filter_filter]
            congr 1
            funext y
            rw [Bool.and_comm]
          rw [e1, e1, h c]
        have hlen : ((x :: t).filter (fun y => !alike lt x y)).length ≤ n := by
          have h4 : 1 ≤ ((x :: t).filter (alike lt x)).length := by simp [hx]
          simp only [List.length_cons] at hl
          have h5 := hp (x :: t)
          simp only [List.length_cons] at h5
          omega
        have h6 := ih _ _ hlen h3
        rw [h1, h2, h x, h6]
  exact key _ _ _ (Nat.le_refl _) h
theorem srt_one (hW : Weak lt) : ∀ {l l' : List α}, Srt lt l → Srt lt l' → StEq lt l l' → l = l'
  | [], l', _, _, h => by
    match l', h with
    | [], _ => rfl
    | y :: t, h =>
      have := StEq.mem hW h.symm (x := y) (by simp)
      simp at this
  | x :: t, [], _, _, h => by
    have := StEq.mem hW h (x := x) (by simp)
    simp at this
  | x :: t, y :: t', h1, h2, h => by
    have a1 := List.pairwise_cons.1 h1
    have a2 := List.pairwise_cons.1 h2
    have n1 : lt y x = false := by
      rcases List.mem_cons.1 (StEq.mem hW h.symm (x := y) (by simp)) with e | e
      · rw [e]; exact hW.irr x
      · exact a1.1 y e
    have n2 : lt x y = false := by
      rcases List.mem_cons.1 (StEq.mem hW h (x := x) (by simp)) with e | e
      · rw [e]; exact hW.irr y
      · exact a2.1 x e
    have hx : alike lt x x = true := alike_iff.2 ⟨hW.irr x, hW.irr x⟩
    have hy : alike lt x y = true := alike_iff.2 ⟨n1, n2⟩
    have hh := h x
    rw [List.filter_cons_of_pos hx, List.filter_cons_of_pos hy] at hh
    injection hh with e1 e2
    subst e1
    have ht : StEq lt t t' := fun c => by
      have hc := h c
      cases e : alike lt c x with
      | true =>
        rw [List.filter_cons_of_pos e, List.filter_cons_of_pos e] at hc
        injection hc
      | false =>
        rw [List.filter_cons_of_neg (by simp [e]), List.filter_cons_of_neg (by simp [e])] at hc
        exact hc
    rw [srt_one hW a1.2 a2.2 ht]
theorem srt_app {a b : List α} (ha : Srt lt a) (hb : Srt lt b) (h : ∀ x ∈ a, ∀ y ∈ b, lt y x = false) : Srt lt (a ++ b) := List.pairwise_append.2 ⟨ha, hb, h⟩
theorem srt_parts {a b : List α} (h : Srt lt (a ++ b)) : Srt lt a ∧ Srt lt b ∧ ∀ x ∈ a, ∀ y ∈ b, lt y x = false := List.pairwise_append.1 h
/-- Merging by halves. -/
theorem merge_halves (hW : Weak lt) {X1 X2 Y1 Y2 Z1 Z2 : List α} (hX : Srt lt (X1 ++ X2)) (hY : Srt lt (Y1 ++ Y2)) (h1 : ∀ x ∈ X2, ∀ y ∈ Y1, lt y x = true) (h2 : ∀ x ∈ X1, ∀ y ∈ Y2, lt y x = false)
    (s1 : Srt lt Z1) (e1 : StEq lt Z1 (X1 ++ Y1)) (s2 : Srt lt Z2) (e2 : StEq lt Z2 (X2 ++ Y2)) : Srt lt (Z1 ++ Z2) ∧ StEq lt (Z1 ++ Z2) ((X1 ++ X2) ++ (Y1 ++ Y2)) := by
  obtain ⟨_, _, hx⟩ := srt_parts hX
  obtain ⟨_, _, hy⟩ := srt_parts hY
  constructor
  · refine srt_app s1 s2 (fun u hu v hv => ?_)
    rcases List.mem_append.1 (StEq.mem hW e1 hu) with hu | hu <;> rcases List.mem_append.1 (StEq.mem hW e2 hv) with hv | hv
    · exact hx u hu v hv
    · exact h2 u hu v hv
    · exact hW.asym _ _ (h1 v hv u hu)
    · exact hy u hu v hv
  · have e3 : StEq lt ((X1 ++ Y1) ++ (X2 ++ Y2)) ((X1 ++ X2) ++ (Y1 ++ Y2)) := by
      have : StEq lt (X1 ++ ((Y1 ++ X2) ++ Y2)) (X1 ++ ((X2 ++ Y1) ++ Y2)) := (StEq.refl X1).app ((StEq.swap hW h1).symm.app (StEq.refl Y2))
      simpa [List.append_assoc] using this
    exact (e1.app e2).trans e3
end
end Go.Proofs.YtamigjljgepfiaaGreatDoor
/- A row of numbers in the midst of a block; its numbers exchanged. -/
namespace Go.Proofs.YtamigjljgepfiaaGreatDoor
open Go.RowKit
theorem mixedO : Tryz.prog.follows Departure.mixedOrders = true := by kernel_rfl
/-- Two numbers exchanged. -/
def swapL (X : List Int) (i j : Nat) : List Int := (X.set i (nth X j)).set j (nth X i)
theorem swapL_len (X : List Int) (i j : Nat) : (swapL X i j).length = X.length := by simp [swapL]
theorem nth_app (P Q : List Int) (x : Int) : nth (P ++ x :: Q) P.length = x := by simp [nth, List.getD]
theorem nth_at (P Q : List Int) (x : Int) (i : Nat) (h : i = P.length) : nth (P ++ x :: Q) i = x := by subst h; exact nth_app P Q x
theorem swap_app (P M Q : List Int) (x y : Int) (i j : Nat) (hi : i = P.length) (hj : j = P.length + 1 + M.length) : swapL (P ++ x :: (M ++ y :: Q)) i j = P ++ y :: (M ++ x :: Q) := by
  subst hi
  have e1 : nth (P ++ x :: (M ++ y :: Q)) P.length = x := nth_app _ _ _
  have e2 : P ++ x :: (M ++ y :: Q) = (P ++ x :: M) ++ y :: Q := by simp
  have e3 : nth (P ++ x :: (M ++ y :: Q)) j = y := by
    rw [e2]
    exact nth_at _ _ _ _ (by rw [hj]; simp; omega)
  unfold swapL
  rw [e1, e3]
  have e4 : (P ++ x :: (M ++ y :: Q)).set P.length y = (P ++ y :: M) ++ y :: Q := by
    rw [List.set_append_right _ _ (Nat.le_refl _)]
    simp
  rw [e4]
  have e5 : j = (P ++ y :: M).length := by rw [hj]; simp; omega
  rw [e5, List.set_append_right _ _ (Nat.le_refl _)]
  simp
theorem swapL_comm (X : List Int) (i j : Nat) (h : i ≠ j) : swapL X i j = swapL X j i := by
  unfold swapL
  rw [List.set_comm _ _ h]
/-- Block g holds just these values; all else is as it was. -/
structure Seg (w0 w : World) (g : Nat) (A : List Value) (X : List Int) (B : List Value) : Prop where
  fu : w.heap[g]? = some (.cells (A ++ X.map (Value.int .i64) ++ B).toArray 2 (0, 0))
  gr : w0.grownBy w (some g)
theorem Seg.lt {w0 w : World} {g : Nat} {A B : List Value} {X : List Int} (h : Seg w0 w g A X B) : g < w.heap.size := (Array.getElem?_eq_some_iff.1 h.fu).1
theorem Seg.cell {w0 w : World} {g : Nat} {A B : List Value} {X : List Int} (h : Seg w0 w g A X B) (i : Nat) (hi : i < X.length) : w.cell? ⟨g, A.length + i, none⟩ = some (.int .i64 (nth X i)) := by
  simp [World.cell?, h.fu]
  rw [List.getElem?_append_right (by omega)]
  simp [List.getElem?_append_left, hi, nth, List.getD]
theorem Seg.frozen {w0 w : World} {g : Nat} {A B : List Value} {X : List Int} (h : Seg w0 w g A X B) (i : Nat) : w.frozen? ⟨g, A.length + i, none⟩ = false := by
  simp [World.frozen?, h.fu]
theorem Seg.drew {w0 w : World} {g : Nat} {A B : List Value} {X : List Int} (h : Seg w0 w g A X B) : Seg w0 w.drew g A X B := ⟨h.fu, h.gr.trans ⟨rfl, rfl, rfl, Nat.le_refl _, fun _ _ _ => rfl⟩⟩
theorem Seg.drewN {w0 w : World} {g : Nat} {A B : List Value} {X : List Int} (h : Seg w0 w g A X B) (n : Nat) : Seg w0 (w.drewN n) g A X B := ⟨h.fu, h.gr.trans ⟨rfl, rfl, rfl, Nat.le_refl _, fun _ _ _ => rfl⟩⟩
theorem Seg.set {w0 w : World} {g : Nat} {A B : List Value} {X : List Int} (h : Seg w0 w g A X B) (i : Nat) (hi : i < X.length) (x : Int) : Seg w0 (w.setCell ⟨g, A.length + i, none⟩ (.int .i64 x)) g A (X.set i x) B := by
  refine ⟨?_, grown_set h.gr⟩
  rw [heap_setCell_same _ _ _ _ _ _ h.fu]
  congr 2
  rw [List.setIfInBounds_toArray]
  congr 1
  rw [List.set_append_left _ _ (by simp; omega), List.set_append_right _ _ (by omega)]
  congr 2
  rw [Nat.add_sub_cancel_left, List.map_set]
/-- Two numbers exchanged, in memory. -/
theorem Seg.swap {w0 w : World} {g : Nat} {A B : List Value} {X : List Int} (h : Seg w0 w g A X B) (i j : Nat) (hi : i < X.length) (hj : j < X.length) :
    Seg w0 ((w.setCell ⟨g, A.length + i, none⟩ (.int .i64 (nth X j))).setCell ⟨g, A.length + j, none⟩ (.int .i64 (nth X i))).drew g A (swapL X i j) B :=
  (((h.set i hi (nth X j)).set j (by simpa using hj) (nth X i))).drew
theorem Seg.second {w0 w : World} {g : Nat} {A B : List Value} {X : List Int} (h : Seg w0 w g A X B) (i j : Nat) (hi : i < X.length) (hj : j < X.length) (x : Int) : ∃ u, (w.setCell ⟨g, A.length + i, none⟩ (.int .i64 x)).cell? ⟨g, A.length + j, none⟩ = some u :=
  ⟨_, (h.set i hi x).cell j (by simpa using hj)⟩
/-- All that a walk over an exchange asks. -/
theorem Seg.swp {w0 w : World} {g : Nat} {A B : List Value} {X X' : List Int} {p q : Nat} {x y : Int} (S : Seg w0 w g A X B) (hp : p < X.length) (hq : q < X.length) (hx : nth X p = x) (hy : nth X q = y) (hX : swapL X p q = X') :
    w.cell? ⟨g, A.length + p, none⟩ = some (.int .i64 x) ∧ w.cell? ⟨g, A.length + q, none⟩ = some (.int .i64 y) ∧ w.frozen? ⟨g, A.length + p, none⟩ = false ∧ w.frozen? ⟨g, A.length + q, none⟩ = false ∧
    (∃ u, (w.setCell ⟨g, A.length + p, none⟩ (.int .i64 y)).cell? ⟨g, A.length + q, none⟩ = some u) ∧ Seg w0 ((w.setCell ⟨g, A.length + p, none⟩ (.int .i64 y)).setCell ⟨g, A.length + q, none⟩ (.int .i64 x)).drew g A X' B := by
  subst hx hy hX
  exact ⟨S.cell p hp, S.cell q hq, S.frozen p, S.frozen q, S.second p q hp hq _, S.swap p q hp hq⟩
theorem Seg.start {w : World} {g : Nat} {A B : List Value} {X : List Int} (h : w.heap[g]? = some (.cells (A ++ X.map (Value.int .i64) ++ B).toArray 2 (0, 0))) : Seg w w g A X B := ⟨h, grown_refl _ _⟩
theorem Seg.trans {w0 w w' : World} {g : Nat} {A B : List Value} {X Y : List Int} (h : Seg w0 w g A X B) (k : Seg w w' g A Y B) : Seg w0 w' g A Y B := ⟨k.fu, h.gr.trans k.gr⟩
theorem Seg.self {w0 w : World} {g : Nat} {A B : List Value} {X : List Int} (h : Seg w0 w g A X B) : Seg w w g A X B := ⟨h.fu, grown_refl _ _⟩
end Go.Proofs.YtamigjljgepfiaaGreatDoor
/- Classes of marks; points held against each other by class. -/
namespace Go.Proofs.YtamigjljgepfiaaGreatDoor
open Go.RowKit
/-- The class of a point. -/
def clsZ (p : Int) : Int := if p = 1584 then 9 else if p = 1585 then 7 else if p < 4096 then 0 else if p < 4112 then 230 else if p < 4128 then 220 else if p < 4136 then 202 else if p < 4144 then 1 else if p < 4152 then 232 else 0
def clsLt (x y : Int) : Bool := decide (clsZ x < clsZ y)
theorem cls_weak : Weak clsLt := by
  refine ⟨fun x => ?_, fun x y h => ?_, fun x y z h g => ?_, fun x y z h g => ?_⟩
  · exact decide_eq_false (by omega)
  · have := of_decide_eq_true h
    exact decide_eq_false (by omega)
  · have := of_decide_eq_true h
    have := of_decide_eq_true g
    exact decide_eq_true (by omega)
  · have := of_decide_eq_false h
    have := of_decide_eq_false g
    exact decide_eq_false (by omega)
set_option maxHeartbeats 1000000 in
theorem markI (p : Int) (w : World) : Calls Tryz.prog 55 #[.int .i64 p] w fun e w' => e = .returned (.int .i64 (clsZ p)) ∧ w' = w := by
  by_cases h1 : p = 1584
  · subst h1
    go_enter Tryz.func55, Tryz.ntmps55
    go_wp2
    go_ret
    exact ⟨rfl, rfl⟩
  by_cases h2 : p = 1585
  · subst h2
    go_enter Tryz.func55, Tryz.ntmps55
    go_wp2
    go_ret
    exact ⟨rfl, rfl⟩
  have t1 : (p == 1584) = false := by simpa using h1
  have t2 : (p == 1585) = false := by simpa using h2
  obtain ⟨z, hz⟩ : ∃ z, clsZ p = z := ⟨_, rfl⟩
  have hz' := hz
  unfold clsZ at hz'
  rw [if_neg h1, if_neg h2] at hz'
  rw [hz]
  clear hz
  by_cases h3 : p < 4096
  · rw [if_pos h3] at hz'
    have HE := hide hz'
    clear hz'
    go_enter Tryz.func55, Tryz.ntmps55
    go_wp2
    go_ret
    exact ⟨ret_int (unhide HE), rfl⟩
  rw [if_neg h3] at hz'
  by_cases h4 : p < 4112
  · rw [if_pos h4] at hz'
    have HE := hide hz'
    clear hz'
    go_enter Tryz.func55, Tryz.ntmps55
    go_wp2
    go_ret
    exact ⟨ret_int (unhide HE), rfl⟩
  rw [if_neg h4] at hz'
  by_cases h5 : p < 4128
  · rw [if_pos h5] at hz'
    have HE := hide hz'
    clear hz'
    go_enter Tryz.func55, Tryz.ntmps55
    go_wp2
    go_ret
    exact ⟨ret_int (unhide HE), rfl⟩
  rw [if_neg h5] at hz'
  by_cases h6 : p < 4136
  · rw [if_pos h6] at hz'
    have HE := hide hz'
    clear hz'
    go_enter Tryz.func55, Tryz.ntmps55
    go_wp2
    go_ret
    exact ⟨ret_int (unhide HE), rfl⟩
  rw [if_neg h6] at hz'
  by_cases h7 : p < 4144
  · rw [if_pos h7] at hz'
    have HE := hide hz'
    clear hz'
    go_enter Tryz.func55, Tryz.ntmps55
    go_wp2
    go_ret
    exact ⟨ret_int (unhide HE), rfl⟩
  rw [if_neg h7] at hz'
  by_cases h8 : p < 4152
  · rw [if_pos h8] at hz'
    have HE := hide hz'
    clear hz'
    go_enter Tryz.func55, Tryz.ntmps55
    go_wp2
    go_ret
    exact ⟨ret_int (unhide HE), rfl⟩
  rw [if_neg h8] at hz'
  have HE := hide hz'
  clear hz'
  go_enter Tryz.func55, Tryz.ntmps55
  go_wp2
  go_ret
  exact ⟨ret_int (unhide HE), rfl⟩
theorem nanI (x : Int) (w : World) : Calls Tryz.prog 80 #[.int .i64 x] w fun e w' => e = .returned (.bool false) ∧ w' = w := by
  have h : (x != x) = false := by simp
  go_enter Tryz.func80, Tryz.ntmps80
  go_wp2
  go_ret
  exact ⟨rfl, rfl⟩
def cmpZ (x y : Int) : Int := if x < y then -1 else if y < x then 1 else 0
theorem compareI (x y : Int) (w : World) : Calls Tryz.prog 54 #[.int .i64 x, .int .i64 y] w fun e w' => e = .returned (.int .i64 (cmpZ x y)) ∧ w' = w := by
  by_cases h1 : x < y
  · have HE : Hid (cmpZ x y = -1) := hide (if_pos h1)
    go_enter Tryz.func54, Tryz.ntmps54
    go_wp2_with (go_at_call 80; refine (nanI _ _).mono ?_; rintro e w' ⟨rfl, rfl⟩)
    go_ret
    exact ⟨ret_int (unhide HE).symm, rfl⟩
  by_cases h2 : y < x
  · have HE : Hid (cmpZ x y = 1) := hide (by unfold cmpZ; rw [if_neg h1, if_pos h2])
    go_enter Tryz.func54, Tryz.ntmps54
    go_wp2_with (go_at_call 80; refine (nanI _ _).mono ?_; rintro e w' ⟨rfl, rfl⟩)
    go_ret
    exact ⟨ret_int (unhide HE).symm, rfl⟩
  have HE : Hid (cmpZ x y = 0) := hide (by unfold cmpZ; rw [if_neg h1, if_neg h2])
  go_enter Tryz.func54, Tryz.ntmps54
  go_wp2_with (go_at_call 80; refine (nanI _ _).mono ?_; rintro e w' ⟨rfl, rfl⟩)
  go_ret
  exact ⟨ret_int (unhide HE).symm, rfl⟩
/-- The points held against each other. -/
theorem byClassI (x y : Int) (w : World) : Calls Tryz.prog 53 #[.int .i64 x, .int .i64 y] w fun e w' => e = .returned (.int .i64 (cmpZ (clsZ x) (clsZ y))) ∧ w' = w := by
  go_enter Tryz.func53, Tryz.ntmps53
  go_wp2_with fail
  refine (markI x _).mono ?_
  rintro e w' ⟨rfl, rfl⟩
  go_wp2_with fail
  refine (markI y _).mono ?_
  rintro e w' ⟨rfl, rfl⟩
  go_wp2_with fail
  refine (compareI _ _ _).mono ?_
  rintro e w' ⟨rfl, rfl⟩
  go_wp2
  go_ret
  exact ⟨rfl, rfl⟩
theorem cmpZ_lt (x y : Int) : decide (cmpZ (clsZ x) (clsZ y) < 0) = clsLt x y := by
  unfold cmpZ clsLt
  by_cases h1 : clsZ x < clsZ y
  · rw [if_pos h1, decide_eq_true h1]; rfl
  · rw [if_neg h1, decide_eq_false h1]
    split <;> rfl
end Go.Proofs.YtamigjljgepfiaaGreatDoor
/- Two stretches of a row exchanged; a row rotated. -/
namespace Go.Proofs.YtamigjljgepfiaaGreatDoor
open Go.RowKit
theorem take_snoc (l : List Int) (i : Nat) (h : i < l.length) : l.take (i + 1) = l.take i ++ [nth l i] := by
  have e : nth l i = l[i] := by simp [nth, List.getD, h]
  rw [e, List.take_succ_eq_append_getElem h]
theorem drop_at (l : List Int) (i : Nat) (h : i < l.length) : l.drop i = nth l i :: l.drop (i + 1) := by
  have e : nth l i = l[i] := by simp [nth, List.getD, h]
  rw [e, List.drop_eq_getElem_cons h]
/-- Two stretches, the first i of each exchanged. -/
def swR (P U M V Q : List Int) (i : Nat) : List Int := P ++ V.take i ++ U.drop i ++ M ++ U.take i ++ V.drop i ++ Q
theorem swR_step (P U M V Q : List Int) (i : Nat) (hUV : V.length = U.length) (hi : i < U.length) :
    swapL (swR P U M V Q i) (P.length + i) (P.length + U.length + M.length + i) = swR P U M V Q (i + 1) ∧ nth (swR P U M V Q i) (P.length + i) = nth U i ∧ nth (swR P U M V Q i) (P.length + U.length + M.length + i) = nth V i := by
  have e0 : swR P U M V Q i = (P ++ V.take i) ++ nth U i :: ((U.drop (i + 1) ++ M ++ U.take i) ++ nth V i :: (V.drop (i + 1) ++ Q)) := by
    unfold swR
    rw [drop_at U i hi, drop_at V i (by omega)]
    simp [List.append_assoc]
  have l1 : P.length + i = (P ++ V.take i).length := by simp; omega
  have l2 : P.length + U.length + M.length + i = (P ++ V.take i).length + 1 + (U.drop (i + 1) ++ M ++ U.take i).length := by simp; omega
  refine ⟨?_, ?_, ?_⟩
  · rw [e0, swap_app _ _ _ _ _ _ _ l1 l2]
    unfold swR
    rw [take_snoc U i hi, take_snoc V i (by omega)]
    simp [List.append_assoc]
  · rw [e0]
    exact nth_at _ _ _ _ l1
  · have e1 : swR P U M V Q i = ((P ++ V.take i) ++ nth U i :: (U.drop (i + 1) ++ M ++ U.take i)) ++ nth V i :: (V.drop (i + 1) ++ Q) := by rw [e0]; simp [List.append_assoc]
    rw [e1]
    exact nth_at _ _ _ _ (by rw [l2]; simp; omega)
theorem swR_len (P U M V Q : List Int) (i : Nat) (hUV : V.length = U.length) : (swR P U M V Q i).length = P.length + U.length + M.length + U.length + Q.length := by
  unfold swR
  simp
  omega
set_option maxHeartbeats 2000000 in
set_option maxRecDepth 100000 in
theorem swapRange_any (w0 w : World) (g cap a b n N : Nat) (A B : List Value) (P U M V Q : List Int) (f : Value) (hUV : V.length = U.length) (ha : a = P.length) (hb : b = P.length + U.length + M.length) (hn : n = U.length) (hN : N = P.length + U.length + M.length + U.length + Q.length) (hbd : N ≤ 1000000000)
    (S : Seg w0 w g A (P ++ U ++ M ++ V ++ Q) B) :
    Calls Tryz.prog 122 #[.slice (some ⟨g, A.length, none⟩) N cap, .int .i64 a, .int .i64 b, .int .i64 n, f] w fun e w' => e = .returned (.tuple #[]) ∧ Seg w0 w' g A (P ++ V ++ M ++ U ++ Q) B := by
  have S0 : Hid (Seg w0 w g A (swR P U M V Q 0) B) := hide (by
    have e : swR P U M V Q 0 = P ++ U ++ M ++ V ++ Q := by unfold swR; simp
    rw [e]
    exact S)
  have HL := hide (fun i => swR_len P U M V Q i hUV)
  have HS : Hid (∀ i, i < n → swapL (swR P U M V Q i) (a + i) (b + i) = swR P U M V Q (i + 1) ∧ nth (swR P U M V Q i) (a + i) = nth U i ∧ nth (swR P U M V Q i) (b + i) = nth V i) := hide (fun i hi => by
    rw [ha, hb]
    exact swR_step P U M V Q i hUV (by omega))
  have HE : Hid (swR P U M V Q n = P ++ V ++ M ++ U ++ Q) := hide (by
    unfold swR
    have e1 : V.take n = V := List.take_of_length_le (by omega)
    have e2 : U.take n = U := List.take_of_length_le (by omega)
    have e3 : V.drop n = [] := List.drop_eq_nil_iff.2 (by omega)
    have e4 : U.drop n = [] := List.drop_eq_nil_iff.2 (by omega)
    rw [e1, e2, e3, e4]
    simp)
  have h1 : a + n ≤ b := by omega
  have h2 : b + n ≤ N := by omega
  have HN : Hid (P.length + U.length + M.length + U.length + Q.length = N) := hide hN.symm
  clear S ha hb hn hN hUV
  go_enter Tryz.func122, Tryz.ntmps122
  go_wp2
  go_loopw [10] (fun iv wr => ∃ i : Nat, i ≤ n ∧ iv = .int .i64 i ∧ Hid (Seg w0 wr g A (swR P U M V Q i) B)) (fun iv _ => n - (intOf iv).toNat)
  case atStart => exact ⟨0, Nat.zero_le _, rfl, S0⟩
  case round =>
    obtain ⟨i, hi, rfl, SI⟩ := hrel
    clear S0
    by_cases hlt : i < n
    · have hlt' : (i : Int) < (n : Int) := by omega
      obtain ⟨hs, hx, hy⟩ := unhide HS i hlt
      have hlen := (unhide HL i).trans (unhide HN)
      obtain ⟨p, hp⟩ : ∃ p : Nat, p = a + i := ⟨_, rfl⟩
      obtain ⟨q, hq⟩ : ∃ q : Nat, q = b + i := ⟨_, rfl⟩
      have hs' : swapL (swR P U M V Q i) p q = swR P U M V Q (i + 1) := by rw [hp, hq]; exact hs
      have hx' : nth (swR P U M V Q i) p = nth U i := by rw [hp]; exact hx
      have hy' : nth (swR P U M V Q i) q = nth V i := by rw [hq]; exact hy
      obtain ⟨ca, cb, fa, fb, ⟨u, cc⟩, s2⟩ := (unhide SI).swp (p := p) (q := q) (by omega) (by omega) hx' hy' hs'
      have S2 := hide s2
      clear hs hlen SI hx hy hs' hx' hy' s2
      generalize nth U i = x at *
      generalize nth V i = y at *
      have ea : ((a : Int) + (i : Int)).toNat = p := by omega
      have pa : (0 : Int) ≤ (a : Int) + (i : Int) := by omega
      have ba : (a : Int) + (i : Int) < (N : Int) := by omega
      have ra : IntKind.i64.wrap ((a : Int) + (i : Int)) = (a : Int) + (i : Int) := wrap_in _ (by omega) (by omega)
      have eb : ((b : Int) + (i : Int)).toNat = q := by omega
      have pb : (0 : Int) ≤ (b : Int) + (i : Int) := by omega
      have bb : (b : Int) + (i : Int) < (N : Int) := by omega
      have rb : IntKind.i64.wrap ((b : Int) + (i : Int)) = (b : Int) + (i : Int) := wrap_in _ (by omega) (by omega)
      clear hp hq
      have mixed := mixedO
      go_wp2_with fail
      go_big_region_o
      clear mixed
      clear ca cb cc fa fb
      generalize ((wr.setCell ⟨g, A.length + p, none⟩ (.int .i64 y)).setCell ⟨g, A.length + q, none⟩ (.int .i64 x)).drew = w3 at *
      clear ea eb
      go_wp2
      go_roundw
      case rel => exact ⟨i + 1, by omega, by go_num, S2⟩
      case measure => simp [intOf]; omega
    · obtain rfl : i = n := by omega
      go_wp2
      go_end0
      rw [unhide HE] at SI
      exact ⟨rfl, unhide SI⟩
end Go.Proofs.YtamigjljgepfiaaGreatDoor
/- A row rotated. -/
namespace Go.Proofs.YtamigjljgepfiaaGreatDoor
open Go.RowKit
set_option maxHeartbeats 2000000 in
set_option maxRecDepth 100000 in
theorem rotate_any (w0 w : World) (g cap a m b N : Nat) (A B : List Value) (P U V Q : List Int) (f : Value) (hU : 0 < U.length) (hV : 0 < V.length) (ha : a = P.length) (hm : m = P.length + U.length) (hb : b = P.length + U.length + V.length) (hN : N = P.length + U.length + V.length + Q.length) (hbd : N ≤ 1000000000)
    (S : Seg w0 w g A (P ++ U ++ V ++ Q) B) :
    Calls Tryz.prog 118 #[.slice (some ⟨g, A.length, none⟩) N cap, .int .i64 a, .int .i64 m, .int .i64 b, f] w fun e w' => e = .returned (.tuple #[]) ∧ Seg w0 w' g A (P ++ V ++ U ++ Q) B := by
  obtain ⟨T, hT⟩ : ∃ T, P ++ V ++ U ++ Q = T := ⟨_, rfl⟩
  rw [hT]
  have I0 : Hid (∃ P' U' V' Q' : List Int, U'.length = U.length ∧ V'.length = V.length ∧ m = P'.length + U'.length ∧ N = P'.length + U'.length + V'.length + Q'.length ∧ P' ++ V' ++ U' ++ Q' = T ∧ Seg w0 w g A (P' ++ U' ++ V' ++ Q') B) := hide ⟨P, U, V, Q, rfl, rfl, hm, hN, hT, S⟩
  have zi : (m : Int) - (a : Int) = (U.length : Int) := by omega
  have zj : (b : Int) - (m : Int) = (V.length : Int) := by omega
  have hbn : b ≤ N := by omega
  have hmb : m ≤ b := by omega
  have ham : a ≤ m := by omega
  clear S hT hm hN hb ha
  generalize U.length = i0 at *
  generalize V.length = j0 at *
  go_enter Tryz.func118, Tryz.ntmps118
  go_wp2
  go_loopw [10, 11] (fun iv jv wr => ∃ i j : Nat, 0 < i ∧ 0 < j ∧ iv = .int .i64 i ∧ jv = .int .i64 j ∧ Hid (∃ P' U' V' Q' : List Int, U'.length = i ∧ V'.length = j ∧ m = P'.length + U'.length ∧ N = P'.length + U'.length + V'.length + Q'.length ∧ P' ++ V' ++ U' ++ Q' = T ∧ Seg w0 wr g A (P' ++ U' ++ V' ++ Q') B)) (fun iv jv _ => (intOf iv).toNat + (intOf jv).toNat)
  case atStart => exact ⟨i0, j0, hU, hV, by first | rfl | (congr 1), by first | rfl | (congr 1), I0⟩
  case round =>
    obtain ⟨i, j, hi, hj, rfl, rfl, HI⟩ := hrel
    clear I0 zi zj
    obtain ⟨P', U', V', Q', eU, eV, em, eN, eT, s1⟩ := unhide HI
    have S1 := hide s1
    clear HI s1
    by_cases hne : i = j
    · subst hne
      have t0 : ((i : Int) != (i : Int)) = false := by simp
      have e0 : (m : Int) - (i : Int) = ((P'.length : Nat) : Int) := by omega
      have SR := hide (swapRange_any w0 wr g cap P'.length m i N A B P' U' [] V' Q' f (by omega) rfl (by simp; omega) (by omega) (by simp; omega) hbd (by simpa using unhide S1))
      have ET := hide eT
      clear S1 eU eV em eN eT
      generalize P'.length = pl at *
      go_wp2_with fail
      try rw [e0]
      refine (unhide SR).mono ?_
      rintro e w2 ⟨rfl, s2⟩
      have S2 := hide s2
      clear s2
      go_wp2
      go_end0
      have s3 := unhide S2
      rw [← unhide ET]
      exact ⟨rfl, by simpa using s3⟩
    · have t0 : ((i : Int) != (j : Int)) = true := by simp; omega
      by_cases hgt : j < i
      · have hgt' : (j : Int) < (i : Int) := by omega
        have e0 : (m : Int) - (i : Int) = ((P'.length : Nat) : Int) := by omega
        have hU1 : (U'.take j).length = j := by rw [List.length_take]; omega
        have hU2 : (U'.drop j).length = i - j := by rw [List.length_drop]; omega
        have eU' : U'.take j ++ U'.drop j = U' := List.take_append_drop j U'
        have SR := hide (swapRange_any w0 wr g cap P'.length m j N A B P' (U'.take j) (U'.drop j) V' Q' f (by omega) rfl (by omega) (by omega) (by omega) hbd (by
          have e : P' ++ U'.take j ++ U'.drop j ++ V' ++ Q' = P' ++ U' ++ V' ++ Q' := by rw [List.append_assoc P', eU']
          rw [e]
          exact unhide S1))
        have I2 : Hid (∀ W, Seg w0 W g A (P' ++ V' ++ U'.drop j ++ U'.take j ++ Q') B → ∃ P' U' V' Q' : List Int, U'.length = i - j ∧ V'.length = j ∧ m = P'.length + U'.length ∧ N = P'.length + U'.length + V'.length + Q'.length ∧ P' ++ V' ++ U' ++ Q' = T ∧ Seg w0 W g A (P' ++ U' ++ V' ++ Q') B) := hide (fun W h => ⟨P' ++ V', U'.drop j, U'.take j, Q', hU2, hU1, by rw [List.length_append]; omega, by rw [List.length_append]; omega, by rw [← eT, List.append_assoc (P' ++ V') (U'.take j), eU'], h⟩)
        clear S1 eT hU1 hU2 eU' eN em eU eV
        have hij : ((i - j : Nat) : Int) = (i : Int) - (j : Int) := by omega
        generalize P'.length = pl at *
        go_wp2_with fail
        try rw [e0]
        refine (unhide SR).mono ?_
        rintro e w2 ⟨rfl, s2⟩
        have S2 := hide (unhide I2 _ s2)
        clear s2 I2 SR
        go_wp2
        go_roundw
        case rel => exact ⟨i - j, j, by omega, hj, by rw [hij], rfl, S2⟩
        case measure => simp [intOf]; omega
      · have hgt' : ¬ (j : Int) < (i : Int) := by omega
        have e0 : (m : Int) - (i : Int) = ((P'.length : Nat) : Int) := by omega
        obtain ⟨q, hq⟩ : ∃ q : Nat, q = m + (j - i) := ⟨_, rfl⟩
        have e1 : (m : Int) + (j : Int) - (i : Int) = (q : Int) := by omega
        have mb : m + j ≤ 1000000000 := by omega
        have hV1 : (V'.take (j - i)).length = j - i := by rw [List.length_take]; omega
        have hV2 : (V'.drop (j - i)).length = i := by rw [List.length_drop]; omega
        have eV' : V'.take (j - i) ++ V'.drop (j - i) = V' := List.take_append_drop _ V'
        have SR := hide (swapRange_any w0 wr g cap P'.length q i N A B P' U' (V'.take (j - i)) (V'.drop (j - i)) Q' f (by omega) rfl (by omega) (by omega) (by omega) hbd (by
          have e : P' ++ U' ++ V'.take (j - i) ++ V'.drop (j - i) ++ Q' = P' ++ U' ++ V' ++ Q' := by rw [List.append_assoc (P' ++ U'), eV']
          rw [e]
          exact unhide S1))
        have I2 : Hid (∀ W, Seg w0 W g A (P' ++ V'.drop (j - i) ++ V'.take (j - i) ++ U' ++ Q') B → ∃ P' U' V' Q' : List Int, U'.length = i ∧ V'.length = j - i ∧ m = P'.length + U'.length ∧ N = P'.length + U'.length + V'.length + Q'.length ∧ P' ++ V' ++ U' ++ Q' = T ∧ Seg w0 W g A (P' ++ U' ++ V' ++ Q') B) := hide (fun W h => ⟨P', V'.drop (j - i), V'.take (j - i), U' ++ Q', hV2, hV1, by omega, by rw [List.length_append]; omega, by rw [← eT, List.append_assoc P' (V'.take (j - i)), eV']; simp [List.append_assoc], by simpa [List.append_assoc] using h⟩)
        clear S1 eT hV1 hV2 eV' eN em eU eV
        have hij : ((j - i : Nat) : Int) = (j : Int) - (i : Int) := by omega
        generalize P'.length = pl at *
        clear hq
        go_wp2_with fail
        try rw [e0]
        try rw [e1]
        refine (unhide SR).mono ?_
        rintro e w2 ⟨rfl, s2⟩
        have S2 := hide (unhide I2 _ s2)
        clear s2 I2 SR
        go_wp2
        go_roundw
        case rel => exact ⟨i, j - i, hi, by omega, rfl, by rw [hij], S2⟩
        case measure => simp [intOf]; omega
end Go.Proofs.YtamigjljgepfiaaGreatDoor
/- A stretch of a row put in order by insertion. -/
namespace Go.Proofs.YtamigjljgepfiaaGreatDoor
open Go.RowKit
/-- One more put in order. -/
theorem ins_done {Z1 Z2 : List Int} {x : Int} (hZ : Srt clsLt (Z1 ++ Z2)) (h2 : ∀ z ∈ Z2, clsLt x z = true) (h1 : ∀ z ∈ Z1, clsLt x z = false) : Srt clsLt (Z1 ++ x :: Z2) ∧ StEq clsLt (Z1 ++ x :: Z2) (Z1 ++ Z2 ++ [x]) := by
  obtain ⟨s1, s2, s3⟩ := srt_parts hZ
  constructor
  · refine srt_app s1 (List.pairwise_cons.2 ⟨fun z hz => cls_weak.asym _ _ (h2 z hz), s2⟩) (fun u hu v hv => ?_)
    rcases List.mem_cons.1 hv with rfl | hv
    · exact h1 u hu
    · exact s3 u hu v hv
  · have e : StEq clsLt (Z1 ++ ([x] ++ Z2)) (Z1 ++ (Z2 ++ [x])) := (StEq.refl Z1).app (StEq.swap cls_weak (a := Z2) (b := [x]) (fun z hz y hy => by
      rw [List.mem_singleton] at hy
      subst hy
      exact h2 z hz)).symm
    simpa using e
set_option maxHeartbeats 4000000 in
set_option maxRecDepth 100000 in
theorem insSort_any (w0 w : World) (g cap a b N : Nat) (A B : List Value) (P Y Q : List Int) (ha : a = P.length) (hb : b = P.length + Y.length) (hN : N = P.length + Y.length + Q.length) (hbd : N ≤ 1000000000)
    (S : Seg w0 w g A (P ++ Y ++ Q) B) :
    Calls Tryz.prog 105 #[.slice (some ⟨g, A.length, none⟩) N cap, .int .i64 a, .int .i64 b, .func (.func 53) #[] #[]] w fun e w' => e = .returned (.tuple #[]) ∧ ∃ Z, Srt clsLt Z ∧ StEq clsLt Z Y ∧ Seg w0 w' g A (P ++ Z ++ Q) B := by
  have mixed := mixedO
  by_cases hY : Y.length = 0
  · obtain rfl : Y = [] := List.length_eq_zero_iff.1 hY
    have hab : ¬ (a : Int) + 1 < (b : Int) := by simp at hb; omega
    have S0 := hide S
    have han : a ≤ 1000000000 := by omega
    clear S ha hb hN hY
    go_enter Tryz.func105, Tryz.ntmps105
    go_wp2
    go_loopw [8] (fun iv wr => iv = .int .i64 ((a : Int) + 1) ∧ wr = w) (fun _ _ => 0)
    case atStart => exact ⟨rfl, rfl⟩
    case round =>
      obtain ⟨rfl, rfl⟩ := hrel
      go_wp2
      go_end0
      exact ⟨rfl, [], List.Pairwise.nil, StEq.refl _, unhide S0⟩
  · obtain ⟨y0, Y', rfl⟩ : ∃ y0 Y', Y = y0 :: Y' := by
      match Y, hY with
      | y0 :: Y', _ => exact ⟨y0, Y', rfl⟩
    have I0 : Hid (∃ Z Y1 R : List Int, Y1.length = 1 ∧ y0 :: Y' = Y1 ++ R ∧ Srt clsLt Z ∧ StEq clsLt Z Y1 ∧ Seg w0 w g A (P ++ Z ++ R ++ Q) B) := hide ⟨[y0], [y0], Y', rfl, rfl, List.pairwise_singleton _ _, StEq.refl _, by simpa using S⟩
    obtain ⟨m, hm⟩ : ∃ m, m = (y0 :: Y').length := ⟨_, rfl⟩
    have hm1 : 1 ≤ m := by rw [hm]; simp
    have hbm : b = a + m := by omega
    have hNm : N = a + m + Q.length := by omega
    have HP : Hid (a = P.length) := hide ha
    have HM : Hid (m = (y0 :: Y').length) := hide hm
    clear S ha hb hN hY hm
    generalize y0 :: Y' = Y at *
    have hbn : b ≤ 1000000000 := by omega
    have HB : Hid (b = a + m) := hide hbm
    have hbN : b ≤ N := by omega
    have han : a < 1000000000 := by omega
    have HN : Hid (N = a + m + Q.length) := hide hNm
    clear hbm hNm
    go_enter Tryz.func105, Tryz.ntmps105
    go_wp2
    go_loopw [8] (fun iv wr => ∃ k i : Nat, 1 ≤ k ∧ k ≤ m ∧ Hid (i = a + k) ∧ iv = .int .i64 i ∧ Hid (∃ Z Y1 R : List Int, Y1.length = k ∧ Y = Y1 ++ R ∧ Srt clsLt Z ∧ StEq clsLt Z Y1 ∧ Seg w0 wr g A (P ++ Z ++ R ++ Q) B)) (fun iv _ => b - (intOf iv).toNat)
    case atStart => exact ⟨1, a + 1, Nat.le_refl _, hm1, hide rfl, by go_num, I0⟩
    case round =>
      obtain ⟨k, i, hk1, hkm, Hi, rfl, HI⟩ := hrel
      clear I0
      have hib : i ≤ b := by have := unhide Hi; have := unhide HB; omega
      by_cases hlt : k < m
      · have hlt' : (i : Int) < (b : Int) := by have := unhide Hi; have := unhide HB; omega
        have hlt2 : i < b := by omega
        obtain ⟨Z, Y1, R, eY1, eY, sZ, eZ, s1⟩ := unhide HI
        obtain ⟨x, R', rfl⟩ : ∃ x R', R = x :: R' := by
          match R, eY with
          | [], eY => have := unhide HM; rw [eY] at this; simp at this; omega
          | x :: R', _ => exact ⟨x, R', rfl⟩
        have hZl : Z.length = k := (StEq.length cls_weak eZ).trans eY1
        have J0 : Hid (∃ Z1 Z2 : List Int, Z1.length = k ∧ Z1 ++ Z2 = Z ∧ (∀ z ∈ Z2, clsLt x z = true) ∧ Seg w0 wr g A (P ++ Z1 ++ x :: (Z2 ++ (R' ++ Q))) B) := hide ⟨Z, [], hZl, by simp, by simp, by simpa [List.append_assoc] using s1⟩
        have HF : Hid (∀ W (Z1 Z2 : List Int), Z1 ++ Z2 = Z → (∀ z ∈ Z2, clsLt x z = true) → (∀ z ∈ Z1, clsLt x z = false) → Seg w0 W g A (P ++ Z1 ++ x :: (Z2 ++ (R' ++ Q))) B → ∃ Z Y1 R : List Int, Y1.length = k + 1 ∧ Y = Y1 ++ R ∧ Srt clsLt Z ∧ StEq clsLt Z Y1 ∧ Seg w0 W g A (P ++ Z ++ R ++ Q) B) := hide (fun W Z1 Z2 e h2 h1 s => by
          rw [← e] at sZ eZ
          obtain ⟨t1, t2⟩ := ins_done sZ h2 h1
          refine ⟨Z1 ++ x :: Z2, Y1 ++ [x], R', by rw [List.length_append, eY1]; rfl, by rw [eY]; simp, t1, t2.trans (eZ.app (StEq.refl [x])), ?_⟩
          simpa [List.append_assoc] using s)
        have HLen : Hid (∀ Z1 Z2 : List Int, Z1 ++ Z2 = Z → (P ++ Z1 ++ x :: (Z2 ++ (R' ++ Q))).length = N) := hide (fun Z1 Z2 e => by
          have e1 := congrArg List.length e
          have e2 := unhide HM
          rw [eY] at e2
          simp only [List.length_append, List.length_cons] at e1 e2 ⊢
          have := unhide HP
          have := unhide HN
          omega)
        have HS : Hid (Srt clsLt Z) := hide sZ
        clear HI s1 eZ eY eY1 sZ hZl
        go_wp2
        go_loopw [9] (fun jv wr2 => ∃ q j : Nat, q ≤ k ∧ Hid (j = a + q) ∧ jv = .int .i64 j ∧ Hid (∃ Z1 Z2 : List Int, Z1.length = q ∧ Z1 ++ Z2 = Z ∧ (∀ z ∈ Z2, clsLt x z = true) ∧ Seg w0 wr2 g A (P ++ Z1 ++ x :: (Z2 ++ (R' ++ Q))) B)) (fun jv _ => (intOf jv).toNat)
        case atStart => exact ⟨k, i, Nat.le_refl _, Hi, rfl, J0⟩
        case round =>
          obtain ⟨q, j, hq, Hj, rfl, HJ⟩ := hrel
          clear J0
          obtain ⟨Z1, Z2, l1, e1, h2, s1⟩ := unhide HJ
          have hjb : j < b := by have := unhide Hi; have := unhide HB; have := unhide Hj; omega
          by_cases hq0 : q = 0
          · have z0 : Z1 = [] := List.length_eq_zero_iff.1 (by omega)
            have G2 := hide ((unhide HF) wr.drew Z1 Z2 e1 h2 (by rw [z0]; simp) s1.drew)
            obtain rfl : j = a := by have := unhide Hj; omega
            clear HJ s1 h2 e1 l1 HF HLen HS HM HP
            go_wp2_with fail
            go_big_region_o
            generalize wr.drew = w2 at *
            go_wp2
            go_roundw
            case rel => exact ⟨k + 1, i + 1, by omega, by omega, hide (by have := unhide Hi; omega), by go_num, G2⟩
            case measure => simp [intOf]; omega
          · obtain ⟨Z1', z, rfl⟩ : ∃ Z1' z, Z1 = Z1' ++ [z] := ⟨Z1.dropLast, Z1.getLast (fun h => hq0 (by rw [← l1, h]; rfl)), (List.dropLast_concat_getLast _).symm⟩
            obtain ⟨r, rfl⟩ : ∃ r : Nat, j = r + 1 := ⟨j - 1, by have := unhide Hj; omega⟩
            have hja : a < r + 1 := by have := unhide Hj; omega
            have hjaz : (a : Int) < (r : Int) + 1 := by omega
            have hjd : decide ((r : Int) + 1 > (a : Int)) = true := decide_eq_true (by omega)
            have hlen := (unhide HLen) _ _ e1
            have l1' : Z1'.length + 1 = q := by simpa using l1
            obtain ⟨j, hj⟩ : ∃ j : Nat, j = r + 1 := ⟨_, rfl⟩
            have ej : j = (P ++ (Z1' ++ [z])).length := by have := unhide Hj; have := unhide HP; simp; omega
            have er : r = (P ++ Z1').length := by have := unhide Hj; have := unhide HP; simp; omega
            have e2 : P ++ (Z1' ++ [z]) ++ x :: (Z2 ++ (R' ++ Q)) = (P ++ Z1') ++ z :: ([] ++ x :: (Z2 ++ (R' ++ Q))) := by simp [List.append_assoc]
            have nx : nth (P ++ (Z1' ++ [z]) ++ x :: (Z2 ++ (R' ++ Q))) j = x := nth_at _ _ _ _ ej
            have nz : nth (P ++ (Z1' ++ [z]) ++ x :: (Z2 ++ (R' ++ Q))) r = z := by rw [e2]; exact nth_at _ _ _ _ er
            have ea : ((r : Int) + 1).toNat = j := by omega
            have pa : (0 : Int) ≤ (r : Int) + 1 := by omega
            have ba : (r : Int) + 1 < (N : Int) := by omega
            have ra : IntKind.i64.wrap ((r : Int) + 1) = (r : Int) + 1 := wrap_in _ (by omega) (by omega)
            have bb : (r : Int) < (N : Int) := by omega
            have rb : IntKind.i64.wrap (r : Int) = (r : Int) := wrap_in _ (by omega) (by omega)
            have HC : Hid (∀ W, Calls Tryz.prog 53 #[.int .i64 x, .int .i64 z] W fun e w' => e = .returned (.int .i64 (cmpZ (clsZ x) (clsZ z))) ∧ w' = W) := hide (fun W => byClassI x z W)
            have hcz := cmpZ_lt x z
            have cj := s1.cell j (by omega)
            have cr := s1.cell r (by omega)
            rw [nx] at cj
            rw [nz] at cr
            cases hlt3 : clsLt x z with
            | false =>
              rw [hlt3] at hcz
              have hcz' := of_decide_eq_false hcz
              have h1 : ∀ u ∈ Z1' ++ [z], clsLt x u = false := fun u hu => by
                rcases List.mem_append.1 hu with hu | hu
                · have hsz := srt_parts (srt_parts (by rw [e1]; exact unhide HS : Srt clsLt ((Z1' ++ [z]) ++ Z2))).1
                  exact cls_weak.ntr _ _ _ (hsz.2.2 u hu z (by simp)) hlt3
                · rw [List.mem_singleton] at hu
                  rw [hu]
                  exact hlt3
              have G2 := hide (fun n => (unhide HF) (wr.drewN n) _ Z2 e1 h2 h1 (s1.drewN n))
              clear HJ s1 h2 e1 l1 HF HLen HS HM HP nx nz ej er e2 hlen h1 l1' hlt3 hj
              generalize cmpZ (clsZ x) (clsZ z) = cz at *
              go_wp2_with fail
              go_quiet (first | (go_at_call 53; refine Calls.quiet_of_same ((unhide HC) _)))
              have G3 := hide ((unhide G2) nq)
              clear G2 cj cr
              generalize wr.drewN nq = w2 at *
              go_wp2
              go_roundw
              case rel => exact ⟨k + 1, i + 1, by omega, by omega, hide (by have := unhide Hi; omega), by go_num, G3⟩
              case measure => simp [intOf]; omega
            | true =>
              rw [hlt3] at hcz
              have hcz' := of_decide_eq_true hcz
              have h2' : ∀ u ∈ z :: Z2, clsLt x u = true := fun u hu => by
                rcases List.mem_cons.1 hu with rfl | hu
                · exact hlt3
                · exact h2 u hu
              have hsw : swapL (P ++ (Z1' ++ [z]) ++ x :: (Z2 ++ (R' ++ Q))) j r = (P ++ Z1') ++ x :: ((z :: Z2) ++ (R' ++ Q)) := by
                rw [swapL_comm _ _ _ (by omega), e2, swap_app _ _ _ _ _ _ _ er (by rw [ej]; simp; omega)]
                simp
              have G2 := hide (fun n => (s1.drewN n).swp (p := j) (q := r) (by omega) (by omega) nx nz hsw)
              have GJ : Hid (∀ W, Seg w0 W g A ((P ++ Z1') ++ x :: ((z :: Z2) ++ (R' ++ Q))) B → ∃ Z1 Z2 : List Int, Z1.length = q - 1 ∧ Z1 ++ Z2 = Z ∧ (∀ z ∈ Z2, clsLt x z = true) ∧ Seg w0 W g A (P ++ Z1 ++ x :: (Z2 ++ (R' ++ Q))) B) := hide (fun W s => ⟨Z1', z :: Z2, by omega, by rw [← e1]; simp, h2', s⟩)
              clear HJ s1 h2 e1 l1 nx nz ej er e2 hlen l1' hlt3 h2' hsw hj
              generalize cmpZ (clsZ x) (clsZ z) = cz at *
              go_wp2_with fail
              go_quiet (first | (go_at_call 53; refine Calls.quiet_of_same ((unhide HC) _)))
              obtain ⟨ca, cb, fa, fb, ⟨u, cc⟩, s2⟩ := (unhide G2) nq
              have S2 := hide ((unhide GJ) _ s2)
              clear G2 cj cr s2 GJ
              generalize wr.drewN nq = w2 at *
              go_wp2_with fail
              go_big_region_o
              clear ca cb cc fa fb
              generalize ((w2.setCell ⟨g, A.length + j, none⟩ (.int .i64 z)).setCell ⟨g, A.length + r, none⟩ (.int .i64 x)).drew = w3 at *
              clear ea
              go_wp2
              go_roundw
              case rel => exact ⟨q - 1, r, by omega, hide (by have := unhide Hj; omega), by go_num, S2⟩
              case measure => simp [intOf]
      · obtain rfl : k = m := by omega
        have hlt' : ¬ (i : Int) < (b : Int) := by have := unhide Hi; have := unhide HB; omega
        go_wp2
        go_end0
        obtain ⟨Z, Y1, R, eY1, eY, sZ, eZ, s1⟩ := unhide HI
        have hR : R = [] := by
          have := unhide HM
          rw [eY, List.length_append] at this
          exact List.length_eq_zero_iff.1 (by omega)
        subst hR
        refine ⟨rfl, Z, sZ, ?_, by simpa using s1⟩
        rw [eY]
        simpa using eZ
end Go.Proofs.YtamigjljgepfiaaGreatDoor
/- Marks put in order between the points that are none: no Go in sight. -/
namespace Go.Proofs.YtamigjljgepfiaaGreatDoor
open Go.RowKit
/-- A point put behind points in order. -/
def insO (Z : List Int) (x : Int) : List Int := if clsZ x = 0 then Z ++ [x] else (Z.reverse.dropWhile (clsLt x)).reverse ++ x :: (Z.reverse.takeWhile (clsLt x)).reverse
def ordL (L : List Int) : List Int := L.foldl insO []
/-- Nothing passes what stands here. -/
def Stops (Z : List Int) : Prop := Z = [] ∨ ∃ Z' z, Z = Z' ++ [z] ∧ clsZ z = 0
theorem cls_nonneg (p : Int) : 0 ≤ clsZ p := by
  unfold clsZ
  split <;> (try split) <;> (try split) <;> (try split) <;> (try split) <;> (try split) <;> (try split) <;> (try split) <;> omega
theorem not_below_zero {x z : Int} (h : clsZ z = 0) : clsLt x z = false := decide_eq_false (by have := cls_nonneg x; omega)
theorem insO_zero (Z : List Int) {x : Int} (h : clsZ x = 0) : insO Z x = Z ++ [x] := by rw [insO, if_pos h]
theorem insO_at {Z1 Z2 : List Int} {x : Int} (hx : clsZ x ≠ 0) (h2 : ∀ z ∈ Z2, clsLt x z = true) (h1 : Z1 = [] ∨ ∃ Z z, Z1 = Z ++ [z] ∧ clsLt x z = false) : insO (Z1 ++ Z2) x = Z1 ++ x :: Z2 := by
  have h2' : ∀ z ∈ Z2.reverse, clsLt x z = true := fun z hz => h2 z (List.mem_reverse.1 hz)
  have e1 : Z1.reverse.takeWhile (clsLt x) = [] ∧ Z1.reverse.dropWhile (clsLt x) = Z1.reverse := by
    rcases h1 with rfl | ⟨Z, z, rfl, hz⟩
    · simp
    · simp [hz]
  rw [insO, if_neg hx, List.reverse_append, List.takeWhile_append_of_pos h2', List.dropWhile_append_of_pos h2', e1.1, e1.2]
  simp
theorem insO_len (Z : List Int) (x : Int) : (insO Z x).length = Z.length + 1 := by
  unfold insO
  split
  · simp
  · have h := congrArg List.length (List.takeWhile_append_dropWhile (p := clsLt x) (l := Z.reverse))
    simp only [List.length_append, List.length_reverse] at h
    simp only [List.length_append, List.length_reverse, List.length_cons]
    omega
theorem fold_len (L : List Int) : ∀ Z, (L.foldl insO Z).length = Z.length + L.length := by
  induction L with
  | nil => intro Z; simp
  | cons x L ih => intro Z; rw [List.foldl_cons, ih, insO_len]; simp; omega
theorem ordL_len (L : List Int) : (ordL L).length = L.length := by rw [ordL, fold_len]; simp
theorem ordL_snoc (L : List Int) (x : Int) : ordL (L ++ [x]) = insO (ordL L) x := by rw [ordL, List.foldl_append]; rfl
theorem ord_zero (L : List Int) {x : Int} (h : clsZ x = 0) : ordL (L ++ [x]) = ordL L ++ [x] := by rw [ordL_snoc, insO_zero _ h]
theorem snoc_cases (Z : List Int) : Z = [] ∨ ∃ Z' z, Z = Z' ++ [z] := by
  by_cases h : Z = []
  · exact .inl h
  · exact .inr ⟨Z.dropLast, Z.getLast h, (List.dropLast_concat_getLast h).symm⟩
theorem split_last (x : Int) : ∀ (n : Nat) (Z : List Int), Z.length = n → ∃ Z1 Z2, Z = Z1 ++ Z2 ∧ (∀ z ∈ Z2, clsLt x z = true) ∧ (Z1 = [] ∨ ∃ Z z, Z1 = Z ++ [z] ∧ clsLt x z = false)
  | 0, Z, h => by
    obtain rfl := List.length_eq_zero_iff.1 h
    exact ⟨[], [], rfl, by simp, .inl rfl⟩
  | n + 1, Z, h => by
    rcases snoc_cases Z with rfl | ⟨Z', z, rfl⟩
    · simp at h
    · cases hz : clsLt x z with
      | false => exact ⟨Z' ++ [z], [], by simp, by simp, .inr ⟨Z', z, rfl, hz⟩⟩
      | true =>
        obtain ⟨Z1, Z2, e, h2, h1⟩ := split_last x n Z' (by simpa using h)
        refine ⟨Z1, Z2 ++ [z], by rw [e]; simp, fun u hu => ?_, h1⟩
        rcases List.mem_append.1 hu with hu | hu
        · exact h2 u hu
        · rw [List.mem_singleton] at hu
          rw [hu]
          exact hz
theorem srt_last {Z : List Int} {x z : Int} (hs : Srt clsLt (Z ++ [z])) (h : clsLt x z = false) : ∀ u ∈ Z ++ [z], clsLt x u = false := fun u hu => by
  rcases List.mem_append.1 hu with hu | hu
  · exact cls_weak.ntr _ _ _ ((srt_parts hs).2.2 u hu z (by simp)) h
  · rw [List.mem_singleton] at hu
    rw [hu]
    exact h
theorem fold_marks {Zd : List Int} (hd : Stops Zd) : ∀ (n : Nat) (Y : List Int), Y.length = n → (∀ y ∈ Y, clsZ y ≠ 0) → ∃ Z, Y.foldl insO Zd = Zd ++ Z ∧ Srt clsLt Z ∧ StEq clsLt Z Y
  | 0, Y, h, _ => by
    obtain rfl := List.length_eq_zero_iff.1 h
    exact ⟨[], by simp, List.Pairwise.nil, StEq.refl _⟩
  | n + 1, Y, h, hY => by
    rcases snoc_cases Y with rfl | ⟨Y', x, rfl⟩
    · simp at h
    · obtain ⟨Z, e, s1, s2⟩ := fold_marks hd n Y' (by simpa using h) (fun y hy => hY y (by simp [hy]))
      have hx : clsZ x ≠ 0 := hY x (by simp)
      obtain ⟨Z1, Z2, rfl, h2, h1⟩ := split_last x _ Z rfl
      have h1' : ∀ z ∈ Z1, clsLt x z = false := by
        rcases h1 with rfl | ⟨Z', z, rfl, hz⟩
        · simp
        · exact srt_last (srt_parts s1).1 hz
      obtain ⟨t1, t2⟩ := ins_done s1 h2 h1'
      refine ⟨Z1 ++ x :: Z2, ?_, t1, t2.trans (s2.app (StEq.refl [x]))⟩
      rw [List.foldl_append, e, List.foldl_cons, List.foldl_nil, ← List.append_assoc, insO_at hx h2 ?_, List.append_assoc]
      rcases h1 with rfl | ⟨Z', z, rfl, hz⟩
      · rcases hd with rfl | ⟨Z', z, rfl, hz⟩
        · exact .inl rfl
        · exact .inr ⟨Z', z, by simp, not_below_zero hz⟩
      · exact .inr ⟨Zd ++ Z', z, by simp, hz⟩
theorem ord_done {D Y Z : List Int} (hd : Stops (ordL D)) (hY : ∀ y ∈ Y, clsZ y ≠ 0) (hs : Srt clsLt Z) (he : StEq clsLt Z Y) : ordL (D ++ Y) = ordL D ++ Z := by
  obtain ⟨Z', e, s1, s2⟩ := fold_marks hd _ Y rfl hY
  rw [srt_one cls_weak hs s1 (he.trans s2.symm), ← e, ordL, List.foldl_append]
  rfl
/-- The first f points are done, marks up to i. -/
def OSt (w0 w : World) (g : Nat) (A B : List Value) (L : List Int) (f i : Nat) : Prop := ∃ D Y R, L = D ++ Y ++ R ∧ D.length = f ∧ (D ++ Y).length = i ∧ Stops (ordL D) ∧ (∀ y ∈ Y, clsZ y ≠ 0) ∧ Seg w0 w g A (ordL D ++ Y ++ R) B
theorem OSt.start {w0 w : World} {g : Nat} {A B : List Value} {L : List Int} (S : Seg w0 w g A L B) : OSt w0 w g A B L 0 0 := ⟨[], [], L, rfl, rfl, rfl, .inl rfl, by simp, S⟩
theorem OSt.cell {w0 w : World} {g : Nat} {A B : List Value} {L : List Int} {f i : Nat} (h : OSt w0 w g A B L f i) (hi : i < L.length) : w.cell? ⟨g, A.length + i, none⟩ = some (.int .i64 (nth L i)) := by
  obtain ⟨D, Y, R, e, l1, l2, _, _, s⟩ := h
  match R, e, s with
  | [], e, _ => rw [e, List.append_nil, l2] at hi; omega
  | x :: R, e, s =>
    have hl := ordL_len D
    rw [List.length_append] at l2
    have c := s.cell i (by simp; omega)
    rw [nth_at _ _ _ _ (by rw [List.length_append]; omega)] at c
    rw [e, nth_at _ _ _ _ (by rw [List.length_append]; omega)]
    exact c
theorem OSt.mark {w0 w : World} {g : Nat} {A B : List Value} {L : List Int} {f i : Nat} (h : OSt w0 w g A B L f i) (hi : i < L.length) (hz : clsZ (nth L i) ≠ 0) : OSt w0 w g A B L f (i + 1) := by
  obtain ⟨D, Y, R, e, l1, l2, hs, hY, s⟩ := h
  match R, e, s with
  | [], e, _ => rw [e, List.append_nil, l2] at hi; omega
  | x :: R, e, s =>
    rw [e, nth_at _ _ _ _ l2.symm] at hz
    refine ⟨D, Y ++ [x], R, by rw [e]; simp, l1, by rw [← List.append_assoc, List.length_append, l2]; rfl, hs, fun y hy => ?_, by simpa [List.append_assoc] using s⟩
    rcases List.mem_append.1 hy with hy | hy
    · exact hY y hy
    · rw [List.mem_singleton] at hy
      rw [hy]
      exact hz
theorem Seg.within {w0 w : World} {g : Nat} {A B : List Value} {P X Q : List Int} (h : Seg w0 w g A (P ++ X ++ Q) B) : Seg w0 w g (A ++ P.map (Value.int .i64)) X (Q.map (Value.int .i64) ++ B) := ⟨by rw [h.fu]; simp [List.append_assoc], h.gr⟩
theorem Seg.whole {w0 w : World} {g : Nat} {A B : List Value} {P X Q : List Int} (h : Seg w0 w g (A ++ P.map (Value.int .i64)) X (Q.map (Value.int .i64) ++ B)) : Seg w0 w g A (P ++ X ++ Q) B := ⟨by rw [h.fu]; simp [List.append_assoc], h.gr⟩
theorem OSt.fin {w0 w : World} {g : Nat} {A B : List Value} {L : List Int} {f i : Nat} (h : OSt w0 w g A B L f i) (hi : i = L.length) (hf : f = i) : Seg w0 w g A (ordL L) B := by
  obtain ⟨D, Y, R, e, l1, l2, hs, hY, s⟩ := h
  rw [List.length_append] at l2
  rw [e] at hi
  simp only [List.length_append] at hi
  obtain rfl : Y = [] := List.length_eq_zero_iff.1 (by omega)
  obtain rfl : R = [] := List.length_eq_zero_iff.1 (by omega)
  rw [e]
  simpa using s
end Go.Proofs.YtamigjljgepfiaaGreatDoor
/- Two stretches in order merged in place: where one of them is a single number. -/
namespace Go.Proofs.YtamigjljgepfiaaGreatDoor
open Go.RowKit
theorem srt_nth {l : List Int} (h : Srt clsLt l) {i j : Nat} (hij : i ≤ j) (hj : j < l.length) : clsLt (nth l j) (nth l i) = false := by
  by_cases e : i = j
  · rw [e]; exact cls_weak.irr _
  · have := List.pairwise_iff_getElem.1 h i j (by omega) hj (by omega)
    have e1 : nth l i = l[i] := by simp [nth, List.getD, show i < l.length by omega]
    have e2 : nth l j = l[j] := by simp [nth, List.getD, hj]
    rw [e1, e2]
    exact this
/-- How far a search has come: below p it holds, from q on it does not. -/
structure Sought (f : Nat → Bool) (n p q : Nat) : Prop where
  pq : p ≤ q
  qn : q ≤ n
  lo : ∀ c, c < p → f c = true
  hi : ∀ c, q ≤ c → c < n → f c = false
theorem Sought.up {f : Nat → Bool} {n p q c : Nat} (h : Sought f n p q) (h2 : c < q) (hm : ∀ d, d ≤ c → f c = true → f d = true) (hc : f c = true) : Sought f n (c + 1) q :=
  ⟨by omega, h.qn, fun d hd => hm d (by omega) hc, h.hi⟩
theorem Sought.down {f : Nat → Bool} {n p q c : Nat} (h : Sought f n p q) (h1 : p ≤ c) (h2 : c < q) (hm : ∀ d, c ≤ d → d < n → f c = false → f d = false) (hc : f c = false) : Sought f n p c :=
  ⟨h1, by have := h.qn; omega, h.lo, fun d hd hn => hm d hd hn hc⟩
theorem mem_take_nth {l : List Int} {p : Nat} {y : Int} (h : y ∈ l.take p) : ∃ c, c < p ∧ c < l.length ∧ nth l c = y := by
  obtain ⟨c, hc, e⟩ := List.getElem_of_mem h
  rw [List.length_take] at hc
  refine ⟨c, by omega, by omega, ?_⟩
  rw [← e, List.getElem_take]
  simp [nth, List.getD, show c < l.length by omega]
theorem mem_drop_nth {l : List Int} {p : Nat} {y : Int} (h : y ∈ l.drop p) : ∃ c, p ≤ c ∧ c < l.length ∧ nth l c = y := by
  obtain ⟨c, hc, e⟩ := List.getElem_of_mem h
  rw [List.length_drop] at hc
  refine ⟨p + c, by omega, by omega, ?_⟩
  rw [← e, List.getElem_drop]
  simp [nth, List.getD, show p + c < l.length by omega]
theorem one_left {Y : List Int} {x : Int} {p : Nat} (hY : Srt clsLt Y) (h : Sought (fun c => clsLt (nth Y c) x) Y.length p p) : Srt clsLt (Y.take p ++ x :: Y.drop p) ∧ StEq clsLt (Y.take p ++ x :: Y.drop p) ([x] ++ Y) := by
  have hs : Srt clsLt (Y.take p ++ Y.drop p) := by rw [List.take_append_drop]; exact hY
  have h1 : ∀ u ∈ [x], ∀ y ∈ Y.take p, clsLt y u = true := fun u hu y hy => by
    rw [List.mem_singleton] at hu
    subst hu
    obtain ⟨c, hc, _, e⟩ := mem_take_nth hy
    rw [← e]
    exact h.lo c hc
  have h2 : ∀ y ∈ Y.drop p, clsLt y x = false := fun y hy => by
    obtain ⟨c, hc, hl, e⟩ := mem_drop_nth hy
    rw [← e]
    exact h.hi c hc hl
  have := merge_halves cls_weak (X1 := []) (X2 := [x]) (Y1 := Y.take p) (Y2 := Y.drop p) (Z1 := Y.take p) (Z2 := x :: Y.drop p) (List.pairwise_singleton _ _) hs h1 (by simp) (srt_parts hs).1 (by simpa using StEq.refl _) (List.pairwise_cons.2 ⟨h2, (srt_parts hs).2.1⟩) (by simpa using StEq.refl _)
  rw [List.take_append_drop] at this
  simpa using this
theorem half_bd (i j : Nat) (h : i < j) : i ≤ (i + j) / 2 ∧ (i + j) / 2 < j := by omega
set_option maxHeartbeats 4000000 in
set_option maxRecDepth 100000 in
theorem symOne (w0 w : World) (g cap a m b N : Nat) (A B : List Value) (P Y Q : List Int) (x : Int) (hY : Srt clsLt Y) (ha : a = P.length) (hm : m = a + 1) (hb : b = a + 1 + Y.length) (hN : N = a + 1 + Y.length + Q.length) (hbd : N ≤ 1000000000)
    (S : Seg w0 w g A (P ++ x :: Y ++ Q) B) :
    Calls Tryz.prog 106 #[.slice (some ⟨g, A.length, none⟩) N cap, .int .i64 a, .int .i64 m, .int .i64 b, .func (.func 53) #[] #[]] w fun e w' => e = .returned (.tuple #[]) ∧ ∃ Z, Srt clsLt Z ∧ StEq clsLt Z ([x] ++ Y) ∧ Seg w0 w' g A (P ++ Z ++ Q) B := by
  have mixed := mixedO
  have hm1 : (m : Int) - (a : Int) = 1 := by omega
  have hmb : m ≤ b := by omega
  have hbN : b ≤ N := by omega
  have S0 : Hid (Seg w0 w g A (P ++ x :: Y ++ Q) B) := hide S
  have I0 : Hid (Sought (fun c => clsLt (nth Y c) x) Y.length 0 Y.length) := hide ⟨Nat.zero_le _, Nat.le_refl _, fun c hc => by omega, fun c h1 h2 => by omega⟩
  have HX : Hid (nth (P ++ x :: Y ++ Q) a = x ∧ (∀ c, c < Y.length → nth (P ++ x :: Y ++ Q) (m + c) = nth Y c) ∧ (P ++ x :: Y ++ Q).length = N) := hide (by
    refine ⟨?_, fun c hc => ?_, by simp; omega⟩
    · rw [List.append_assoc]
      exact nth_at _ _ _ _ ha
    · unfold nth List.getD
      have e : P ++ x :: Y ++ Q = (P ++ [x]) ++ (Y ++ Q) := by simp
      rw [e, List.getElem?_append_right (by simp; omega), List.getElem?_append_left (by simp; omega)]
      congr 2
      simp
      omega)
  have HM : Hid (∀ c, c < Y.length → m + c < b) := hide (fun c hc => by omega)
  have HB : Hid (b = m + Y.length) := hide (by omega)
  have HP := hide ha
  have HNN : Hid (N = a + 1 + Y.length + Q.length) := hide hN
  clear S ha hb hN
  have HM1 := hide hm
  clear hm
  go_enter Tryz.func106, Tryz.ntmps106
  go_wp2
  go_loopw [10, 11] (fun iv jv wr => ∃ p q i j : Nat, Hid (i = m + p ∧ j = m + q) ∧ iv = .int .i64 i ∧ jv = .int .i64 j ∧ Hid (Sought (fun c => clsLt (nth Y c) x) Y.length p q) ∧ Hid (Seg w0 wr g A (P ++ x :: Y ++ Q) B)) (fun iv jv _ => (intOf jv).toNat - (intOf iv).toNat)
  case atStart => exact ⟨0, Y.length, m, b, hide ⟨rfl, unhide HB⟩, rfl, rfl, I0, S0⟩
  case round =>
    obtain ⟨p, q, i, j, HE, rfl, rfl, HS, SI⟩ := hrel
    clear S0 I0
    have hS := unhide HS
    have hij : i ≤ j ∧ j ≤ b ∧ m ≤ i := by have := hS.pq; have := hS.qn; have := unhide HE; have := unhide HB; omega
    obtain ⟨hij1, hij2, hij3⟩ := hij
    by_cases hlt : i < j
    · have hlt' : (i : Int) < (j : Int) := by omega
      have hh := half_bd i j hlt
      obtain ⟨h, eh⟩ : ∃ h, (i + j) / 2 = h := ⟨_, rfl⟩
      rw [eh] at hh
      have eh' : ((i : Int) + (j : Int)) / 2 = (h : Int) := by omega
      obtain ⟨hx1, hx2, hx3⟩ := unhide HX
      obtain ⟨c, hc⟩ : ∃ c, h = m + c := ⟨h - m, by omega⟩
      have hcq : p ≤ c ∧ c < q := by have := unhide HE; omega
      have hcY : c < Y.length := by have := hS.qn; omega
      have n1 := hx2 c hcY
      rw [← hc] at n1
      have hhN : h < N := by omega
      have haN : a < N := by have := unhide HM1; omega
      have ca := (unhide SI).cell a (by omega)
      have ch := (unhide SI).cell h (by omega)
      rw [hx1] at ca
      rw [n1] at ch
      have ba : (a : Int) < (N : Int) := by omega
      have bh : (h : Int) < (N : Int) := by omega
      have HC : Hid (∀ W, Calls Tryz.prog 53 #[.int .i64 (nth Y c), .int .i64 x] W fun e w' => e = .returned (.int .i64 (cmpZ (clsZ (nth Y c)) (clsZ x))) ∧ w' = W) := hide (fun W => byClassI _ _ W)
      have hcz := cmpZ_lt (nth Y c) x
      have S2 := hide (fun n => (unhide SI).drewN n)
      cases hb : clsLt (nth Y c) x with
      | true =>
        rw [hb] at hcz
        have hcz' := of_decide_eq_true hcz
        have T2 := hide (hS.up (c := c) hcq.2 (fun d hd hf => by
          have := srt_nth hY hd hcY
          exact cls_weak.of_le this hf) hb)
        have HE2 : Hid (h + 1 = m + (c + 1) ∧ j = m + q) := hide ⟨by omega, (unhide HE).2⟩
        clear hS HS SI hx1 hx2 hx3 n1 hb hcz hc hcq hcY HE eh
        generalize cmpZ (clsZ (nth Y c)) (clsZ x) = cz at *
        generalize nth Y c = y at *
        go_upto_region 5 with fail
        go_quiet (first | (go_at_call 53; refine Calls.quiet_of_same ((unhide HC) _)))
        have S3 := hide ((unhide S2) nq)
        clear S2 ca ch HC
        generalize wr.drewN nq = w2 at *
        go_wp2
        go_roundw
        case rel => exact ⟨c + 1, q, h + 1, j, HE2, by go_num, rfl, T2, S3⟩
        case measure => simp [intOf]; omega
      | false =>
        rw [hb] at hcz
        have hcz' := of_decide_eq_false hcz
        have T2 := hide (hS.down (c := c) hcq.1 hcq.2 (fun d hd hn hf => by
          have := srt_nth hY hd hn
          exact cls_weak.ntr _ _ _ hf this) hb)
        have HE2 : Hid (i = m + p ∧ h = m + c) := hide ⟨(unhide HE).1, hc⟩
        clear hS HS SI hx1 hx2 hx3 n1 hb hcz hc hcq hcY HE eh
        generalize cmpZ (clsZ (nth Y c)) (clsZ x) = cz at *
        generalize nth Y c = y at *
        go_upto_region 5 with fail
        go_quiet (first | (go_at_call 53; refine Calls.quiet_of_same ((unhide HC) _)))
        have S3 := hide ((unhide S2) nq)
        clear S2 ca ch HC
        generalize wr.drewN nq = w2 at *
        go_wp2
        go_roundw
        case rel => exact ⟨p, c, i, h, HE2, rfl, rfl, T2, S3⟩
        case measure => simp [intOf]; omega
    · have hnl : ¬ (i : Int) < (j : Int) := by omega
      have hpq : p = q := by have := hS.pq; have := unhide HE; omega
      subst hpq
      obtain ⟨t, ht⟩ : ∃ t, t = a + p := ⟨_, rfl⟩
      have zi : (i : Int) - 1 = (t : Int) := by have := unhide HE; have := unhide HM1; omega
      have hpY : p ≤ Y.length := hS.qn
      have R1 := hide (one_left hY hS)
      have K0 : Hid (Seg w0 wr g A (P ++ Y.take 0 ++ x :: (Y.drop 0 ++ Q)) B) := hide (by simpa using unhide SI)
      have HSt : Hid (∀ d, d < p → swapL (P ++ Y.take d ++ x :: (Y.drop d ++ Q)) (a + d) (a + d + 1) = P ++ Y.take (d + 1) ++ x :: (Y.drop (d + 1) ++ Q) ∧ nth (P ++ Y.take d ++ x :: (Y.drop d ++ Q)) (a + d) = x ∧ nth (P ++ Y.take d ++ x :: (Y.drop d ++ Q)) (a + d + 1) = nth Y d ∧ (P ++ Y.take d ++ x :: (Y.drop d ++ Q)).length = N) := hide (fun d hd => by
        have hp := unhide HP
        have hnn := unhide HNN
        have e0 : P ++ Y.take d ++ x :: (Y.drop d ++ Q) = (P ++ Y.take d) ++ x :: ([] ++ nth Y d :: (Y.drop (d + 1) ++ Q)) := by
          rw [drop_at Y d (by omega)]
          simp
        have e1 : P ++ Y.take d ++ x :: (Y.drop d ++ Q) = (P ++ Y.take d ++ [x]) ++ nth Y d :: (Y.drop (d + 1) ++ Q) := by rw [e0]; simp
        refine ⟨?_, ?_, ?_, ?_⟩
        · rw [e0, swap_app _ _ _ _ _ _ _ (by simp; omega) (by simp; omega), take_snoc Y d (by omega)]
          simp
        · exact nth_at _ _ _ _ (by simp; omega)
        · rw [e1]
          exact nth_at _ _ _ _ (by simp; omega)
        · simp
          omega)
      have htN : t < N := by have := unhide HNN; omega
      clear SI HS hS HE HX HM hlt
      go_wp2
      go_loopw [13] (fun kv wr => ∃ d k : Nat, d ≤ p ∧ Hid (k = a + d) ∧ kv = .int .i64 k ∧ Hid (Seg w0 wr g A (P ++ Y.take d ++ x :: (Y.drop d ++ Q)) B)) (fun kv _ => t - (intOf kv).toNat)
      case atStart => exact ⟨0, a, Nat.zero_le _, hide rfl, rfl, K0⟩
      case round =>
        obtain ⟨d, k, hd, Hk, rfl, SK⟩ := hrel
        clear K0
        have hkt : k ≤ t := by have := unhide Hk; omega
        by_cases hlt : k < t
        · have hlt' : (k : Int) < (t : Int) := by omega
          obtain ⟨q1, q2, q3, q4⟩ := unhide HSt d (by have := unhide Hk; omega)
          obtain ⟨r, hr⟩ : ∃ r : Nat, r = k + 1 := ⟨_, rfl⟩
          have hk' := unhide Hk
          have q1' : swapL (P ++ Y.take d ++ x :: (Y.drop d ++ Q)) k r = P ++ Y.take (d + 1) ++ x :: (Y.drop (d + 1) ++ Q) := by rw [hr, hk']; exact q1
          have q2' : nth (P ++ Y.take d ++ x :: (Y.drop d ++ Q)) k = x := by rw [hk']; exact q2
          have q3' : nth (P ++ Y.take d ++ x :: (Y.drop d ++ Q)) r = nth Y d := by rw [hr, hk']; exact q3
          obtain ⟨ca, cb, fa, fb, ⟨u, cc⟩, s2⟩ := (unhide SK).swp (p := k) (q := r) (by omega) (by omega) q2' q3' q1'
          have S2 := hide s2
          clear SK q1 q2 q3 q4 q1' q2' q3' s2 hk'
          generalize nth Y d = y at *
          have ea : ((k : Int) + 1).toNat = r := by omega
          have pa : (0 : Int) ≤ (k : Int) + 1 := by omega
          have ba : (k : Int) + 1 < (N : Int) := by omega
          have ra : IntKind.i64.wrap ((k : Int) + 1) = (k : Int) + 1 := wrap_in _ (by omega) (by omega)
          have bk : (k : Int) < (N : Int) := by omega
          clear hr
          go_wp2_with fail
          go_big_region_o
          clear ca cb cc fa fb
          generalize ((wr.setCell ⟨g, A.length + k, none⟩ (.int .i64 y)).setCell ⟨g, A.length + r, none⟩ (.int .i64 x)).drew = w3 at *
          clear ea
          go_wp2
          go_roundw
          case rel => exact ⟨d + 1, k + 1, by have := unhide Hk; omega, hide (by have := unhide Hk; omega), by go_num, S2⟩
          case measure => simp [intOf]; omega
        · have hnl2 : ¬ (k : Int) < (t : Int) := by omega
          obtain rfl : d = p := by have := unhide Hk; omega
          go_wp2
          refine bodyPost_ret (results_none rfl _ _ _) rfl ?_
          refine ⟨rfl, _, (unhide R1).1, (unhide R1).2, ?_⟩
          simpa using unhide SK
end Go.Proofs.YtamigjljgepfiaaGreatDoor
/- Two stretches in order merged in place: where the second one is a single number. -/
namespace Go.Proofs.YtamigjljgepfiaaGreatDoor
open Go.RowKit
theorem one_right {X : List Int} {y : Int} {p : Nat} (hX : Srt clsLt X) (h : Sought (fun c => !clsLt y (nth X c)) X.length p p) : Srt clsLt (X.take p ++ y :: X.drop p) ∧ StEq clsLt (X.take p ++ y :: X.drop p) (X ++ [y]) := by
  have hs : Srt clsLt (X.take p ++ X.drop p) := by rw [List.take_append_drop]; exact hX
  have h2 : ∀ z ∈ X.drop p, clsLt y z = true := fun z hz => by
    obtain ⟨c, hc, hl, e⟩ := mem_drop_nth hz
    rw [← e]
    simpa using h.hi c hc hl
  have h1 : ∀ z ∈ X.take p, clsLt y z = false := fun z hz => by
    obtain ⟨c, hc, _, e⟩ := mem_take_nth hz
    rw [← e]
    simpa using h.lo c hc
  have := ins_done hs h2 h1
  rw [List.take_append_drop] at this
  exact this
set_option maxHeartbeats 4000000 in
set_option maxRecDepth 100000 in
theorem symLast (w0 w : World) (g cap a m b N : Nat) (A B : List Value) (P X Q : List Int) (y : Int) (hX : Srt clsLt X) (hX2 : 2 ≤ X.length) (ha : a = P.length) (hm : m = a + X.length) (hb : b = m + 1) (hN : N = a + X.length + 1 + Q.length) (hbd : N ≤ 1000000000)
    (S : Seg w0 w g A (P ++ X ++ y :: Q) B) :
    Calls Tryz.prog 106 #[.slice (some ⟨g, A.length, none⟩) N cap, .int .i64 a, .int .i64 m, .int .i64 b, .func (.func 53) #[] #[]] w fun e w' => e = .returned (.tuple #[]) ∧ ∃ Z, Srt clsLt Z ∧ StEq clsLt Z (X ++ [y]) ∧ Seg w0 w' g A (P ++ Z ++ Q) B := by
  have mixed := mixedO
  have hm1 : (m : Int) - (a : Int) = ((X.length : Nat) : Int) := by omega
  have tm1 : (((X.length : Nat) : Int) == 1) = false := by rw [beq_eq_false_iff_ne]; omega
  have hb1 : (b : Int) - (m : Int) = 1 := by omega
  have hmb : m ≤ b := by omega
  have hbN : b ≤ N := by omega
  have ham : a ≤ m := by omega
  have S0 : Hid (Seg w0 w g A (P ++ X ++ y :: Q) B) := hide S
  have I0 : Hid (Sought (fun c => !clsLt y (nth X c)) X.length 0 X.length) := hide ⟨Nat.zero_le _, Nat.le_refl _, fun c hc => by omega, fun c h1 h2 => by omega⟩
  have HX : Hid (nth (P ++ X ++ y :: Q) m = y ∧ (∀ c, c < X.length → nth (P ++ X ++ y :: Q) (a + c) = nth X c) ∧ (P ++ X ++ y :: Q).length = N) := hide (by
    refine ⟨?_, fun c hc => ?_, by simp; omega⟩
    · exact nth_at _ _ _ _ (by simp; omega)
    · unfold nth List.getD
      rw [List.append_assoc, List.getElem?_append_right (by omega), List.getElem?_append_left (by omega)]
      congr 2
      omega)
  have HB : Hid (m = a + X.length) := hide hm
  have HP := hide ha
  have HNN : Hid (N = a + X.length + 1 + Q.length) := hide hN
  have HB2 : Hid (b = m + 1) := hide hb
  clear S ha hb hN hm
  obtain ⟨xl, hxl⟩ : ∃ xl, X.length = xl := ⟨_, rfl⟩
  rw [hxl] at hm1 tm1 hX2 I0
  have HXL := hide hxl
  clear hxl
  go_enter Tryz.func106, Tryz.ntmps106
  go_wp2
  go_loopw [14, 15] (fun iv jv wr => ∃ p q i j : Nat, Hid (i = a + p ∧ j = a + q) ∧ iv = .int .i64 i ∧ jv = .int .i64 j ∧ Hid (Sought (fun c => !clsLt y (nth X c)) xl p q) ∧ Hid (Seg w0 wr g A (P ++ X ++ y :: Q) B)) (fun iv jv _ => (intOf jv).toNat - (intOf iv).toNat)
  case atStart => exact ⟨0, xl, a, m, hide ⟨rfl, by have := unhide HB; have := unhide HXL; omega⟩, rfl, rfl, I0, S0⟩
  case round =>
    obtain ⟨p, q, i, j, HE, rfl, rfl, HS, SI⟩ := hrel
    clear S0 I0
    have hS := unhide HS
    have hij : i ≤ j ∧ j ≤ m ∧ a ≤ i := by have := hS.pq; have := hS.qn; have := unhide HE; have := unhide HB; have := unhide HXL; omega
    obtain ⟨hij1, hij2, hij3⟩ := hij
    by_cases hlt : i < j
    · have hlt' : (i : Int) < (j : Int) := by omega
      have hh := half_bd i j hlt
      obtain ⟨h, eh⟩ : ∃ h, (i + j) / 2 = h := ⟨_, rfl⟩
      rw [eh] at hh
      have eh' : ((i : Int) + (j : Int)) / 2 = (h : Int) := by omega
      obtain ⟨hx1, hx2, hx3⟩ := unhide HX
      obtain ⟨c, hc⟩ : ∃ c, h = a + c := ⟨h - a, by omega⟩
      have hcq : p ≤ c ∧ c < q := by have := unhide HE; omega
      have hcY : c < X.length := by have := hS.qn; have := unhide HXL; omega
      have n1 := hx2 c hcY
      rw [← hc] at n1
      have hhN : h < N := by omega
      have hmN : m < N := by have := unhide HB2; omega
      have ca := (unhide SI).cell m (by omega)
      have ch := (unhide SI).cell h (by omega)
      rw [hx1] at ca
      rw [n1] at ch
      have ba : (m : Int) < (N : Int) := by omega
      have bh : (h : Int) < (N : Int) := by omega
      have HC : Hid (∀ W, Calls Tryz.prog 53 #[.int .i64 y, .int .i64 (nth X c)] W fun e w' => e = .returned (.int .i64 (cmpZ (clsZ y) (clsZ (nth X c)))) ∧ w' = W) := hide (fun W => byClassI _ _ W)
      have hcz := cmpZ_lt y (nth X c)
      have S2 := hide (fun n => (unhide SI).drewN n)
      have hXl := unhide HXL
      cases hb : clsLt y (nth X c) with
      | false =>
        rw [hb] at hcz
        have hcz' := of_decide_eq_false hcz
        have T2 := hide (hS.up (c := c) hcq.2 (fun d hd hf => by
          have := srt_nth hX hd hcY
          simp at hf ⊢
          exact cls_weak.ntr _ _ _ this hf) (by simpa using hb))
        have HE2 : Hid (h + 1 = a + (c + 1) ∧ j = a + q) := hide ⟨by omega, (unhide HE).2⟩
        clear hS HS SI hx1 hx2 hx3 n1 hb hcz hc hcq hcY HE eh hXl
        generalize cmpZ (clsZ y) (clsZ (nth X c)) = cz at *
        generalize nth X c = x at *
        go_upto_region 17 with fail
        go_quiet (first | (go_at_call 53; refine Calls.quiet_of_same ((unhide HC) _)))
        have S3 := hide ((unhide S2) nq)
        clear S2 ca ch HC
        generalize wr.drewN nq = w2 at *
        go_wp2
        go_roundw
        case rel => exact ⟨c + 1, q, h + 1, j, HE2, by go_num, rfl, T2, S3⟩
        case measure => simp [intOf]; omega
      | true =>
        rw [hb] at hcz
        have hcz' := of_decide_eq_true hcz
        have T2 := hide (hS.down (c := c) hcq.1 hcq.2 (fun d hd hn hf => by
          have := srt_nth hX hd (by omega)
          simp at hf ⊢
          exact cls_weak.of_lt hf this) (by simpa using hb))
        have HE2 : Hid (i = a + p ∧ h = a + c) := hide ⟨(unhide HE).1, hc⟩
        clear hS HS SI hx1 hx2 hx3 n1 hb hcz hc hcq hcY HE eh hXl
        generalize cmpZ (clsZ y) (clsZ (nth X c)) = cz at *
        generalize nth X c = x at *
        go_upto_region 17 with fail
        go_quiet (first | (go_at_call 53; refine Calls.quiet_of_same ((unhide HC) _)))
        have S3 := hide ((unhide S2) nq)
        clear S2 ca ch HC
        generalize wr.drewN nq = w2 at *
        go_wp2
        go_roundw
        case rel => exact ⟨p, c, i, h, HE2, rfl, rfl, T2, S3⟩
        case measure => simp [intOf]; omega
    · have hnl : ¬ (i : Int) < (j : Int) := by omega
      have hpq : p = q := by have := hS.pq; have := unhide HE; omega
      subst hpq
      have hXl := unhide HXL
      have hpX : p ≤ X.length := by have := hS.qn; omega
      have R1 := hide (one_right hX (by rw [hXl]; exact hS))
      have K0 : Hid (Seg w0 wr g A (P ++ X.take xl ++ y :: (X.drop xl ++ Q)) B) := hide (by
        have e1 : X.take xl = X := List.take_of_length_le (by omega)
        have e2 : X.drop xl = [] := List.drop_eq_nil_iff.2 (by omega)
        rw [e1, e2]
        simpa using unhide SI)
      have HSt : Hid (∀ d, d < xl → swapL (P ++ X.take (d + 1) ++ y :: (X.drop (d + 1) ++ Q)) (a + d + 1) (a + d) = P ++ X.take d ++ y :: (X.drop d ++ Q) ∧ nth (P ++ X.take (d + 1) ++ y :: (X.drop (d + 1) ++ Q)) (a + d + 1) = y ∧ nth (P ++ X.take (d + 1) ++ y :: (X.drop (d + 1) ++ Q)) (a + d) = nth X d ∧ (P ++ X.take (d + 1) ++ y :: (X.drop (d + 1) ++ Q)).length = N) := hide (fun d hd => by
        have hp := unhide HP
        have hnn := unhide HNN
        have e0 : P ++ X.take (d + 1) ++ y :: (X.drop (d + 1) ++ Q) = (P ++ X.take d) ++ nth X d :: ([] ++ y :: (X.drop (d + 1) ++ Q)) := by
          rw [take_snoc X d (by omega)]
          simp
        refine ⟨?_, ?_, ?_, ?_⟩
        · rw [swapL_comm _ _ _ (by omega), e0, swap_app _ _ _ _ _ _ _ (by simp; omega) (by simp; omega), drop_at X d (by omega)]
          simp
        · exact nth_at _ _ _ _ (by simp; omega)
        · rw [e0]
          exact nth_at _ _ _ _ (by simp; omega)
        · simp
          omega)
      have hmN : m < N := by have := unhide HB2; omega
      have Hi : Hid (i = a + p) := hide (unhide HE).1
      have hpx : p ≤ xl := by omega
      clear SI HS hS HE HX hlt hXl
      go_wp2
      go_loopw [17] (fun kv wr => ∃ d k : Nat, p ≤ d ∧ d ≤ xl ∧ Hid (k = a + d) ∧ kv = .int .i64 k ∧ Hid (Seg w0 wr g A (P ++ X.take d ++ y :: (X.drop d ++ Q)) B)) (fun kv _ => (intOf kv).toNat)
      case atStart => exact ⟨xl, m, hpx, Nat.le_refl _, hide (by have := unhide HB; have := unhide HXL; omega), rfl, K0⟩
      case round =>
        obtain ⟨d, k, hd, hdx, Hk, rfl, SK⟩ := hrel
        clear K0
        have hki : i ≤ k := by have := unhide Hk; have := unhide Hi; omega
        have hkm : k ≤ m := by have := unhide Hk; have := unhide HB; have := unhide HXL; omega
        by_cases hlt : i < k
        · obtain ⟨r, rfl⟩ : ∃ r : Nat, k = r + 1 := ⟨k - 1, by omega⟩
          have hlt' : (i : Int) < (r : Int) + 1 := by omega
          obtain ⟨e, rfl⟩ : ∃ e : Nat, d = e + 1 := ⟨d - 1, by have := unhide Hk; have := unhide Hi; omega⟩
          obtain ⟨q1, q2, q3, q4⟩ := unhide HSt e (by omega)
          obtain ⟨k, hk⟩ : ∃ k : Nat, k = r + 1 := ⟨_, rfl⟩
          have hr' : r = a + e := by have := unhide Hk; omega
          have q1' : swapL (P ++ X.take (e + 1) ++ y :: (X.drop (e + 1) ++ Q)) k r = P ++ X.take e ++ y :: (X.drop e ++ Q) := by rw [hk, hr']; exact q1
          have q2' : nth (P ++ X.take (e + 1) ++ y :: (X.drop (e + 1) ++ Q)) k = y := by rw [hk, hr']; exact q2
          have q3' : nth (P ++ X.take (e + 1) ++ y :: (X.drop (e + 1) ++ Q)) r = nth X e := by rw [hr']; exact q3
          obtain ⟨ca, cb, fa, fb, ⟨u, cc⟩, s2⟩ := (unhide SK).swp (p := k) (q := r) (by omega) (by omega) q2' q3' q1'
          have S2 := hide s2
          have Hr : Hid (r = a + e) := hide hr'
          clear SK q1 q2 q3 q4 q1' q2' q3' s2 hr'
          generalize nth X e = x at *
          have ea : ((r : Int) + 1).toNat = k := by omega
          have pa : (0 : Int) ≤ (r : Int) + 1 := by omega
          have ba : (r : Int) + 1 < (N : Int) := by omega
          have ra : IntKind.i64.wrap ((r : Int) + 1) = (r : Int) + 1 := wrap_in _ (by omega) (by omega)
          have bk : (r : Int) < (N : Int) := by omega
          have rk : IntKind.i64.wrap (r : Int) = (r : Int) := wrap_in _ (by omega) (by omega)
          clear hk
          go_wp2_with fail
          go_big_region_o
          clear ca cb cc fa fb
          generalize ((wr.setCell ⟨g, A.length + k, none⟩ (.int .i64 x)).setCell ⟨g, A.length + r, none⟩ (.int .i64 y)).drew = w3 at *
          clear ea
          go_wp2
          go_roundw
          case rel => exact ⟨e, r, by have := unhide Hr; have := unhide Hi; omega, by omega, Hr, by go_num, S2⟩
          case measure => simp [intOf]
        · have hnl2 : ¬ (i : Int) < (k : Int) := by omega
          obtain rfl : d = p := by have := unhide Hk; have := unhide Hi; omega
          go_wp2
          refine bodyPost_ret (results_none rfl _ _ _) rfl ?_
          refine ⟨rfl, _, (unhide R1).1, (unhide R1).2, ?_⟩
          simpa using unhide SK
end Go.Proofs.YtamigjljgepfiaaGreatDoor
/- Where two stretches in order are parted, so that halves of them can be merged: no Go in sight. -/
namespace Go.Proofs.YtamigjljgepfiaaGreatDoor
/-- The test of the search: X and Y in order, M the half of both together, l where the search begins. -/
def symF (X Y : List Int) (M l t : Nat) : Bool := !clsLt (nth Y (M - 1 - l - t)) (nth X (l + t))
theorem symF_up {X Y : List Int} (hX : Srt clsLt X) (hY : Srt clsLt Y) {M l c d : Nat} (hd : d ≤ c) (h1 : l + c < X.length) (h2 : l + c < M) (h3 : M - 1 - l < Y.length) (hf : symF X Y M l c = true) : symF X Y M l d = true := by
  unfold symF at hf ⊢
  simp at hf ⊢
  have a1 := srt_nth hX (i := l + d) (j := l + c) (by omega) h1
  have a2 := srt_nth hY (i := M - 1 - l - c) (j := M - 1 - l - d) (by omega) (by omega)
  exact cls_weak.ntr _ _ _ a1 (cls_weak.ntr _ _ _ hf a2)
theorem symF_down {X Y : List Int} (hX : Srt clsLt X) (hY : Srt clsLt Y) {M l c d : Nat} (hd : c ≤ d) (h1 : l + d < X.length) (h2 : l + d < M) (h3 : M - 1 - l < Y.length) (hf : symF X Y M l c = false) : symF X Y M l d = false := by
  unfold symF at hf ⊢
  simp at hf ⊢
  have a1 := srt_nth hX (i := l + c) (j := l + d) (by omega) h1
  have a2 := srt_nth hY (i := M - 1 - l - d) (j := M - 1 - l - c) (by omega) (by omega)
  exact cls_weak.of_lt (cls_weak.of_le a2 hf) a1
/-- How the halves stand to each other. -/
theorem sym_split {X Y : List Int} (hX : Srt clsLt X) (hY : Srt clsLt Y) {M l L u s e : Nat} (hc : (X.length ≤ M ∧ l = 0 ∧ L = X.length ∧ M ≤ Y.length) ∨ (M < X.length ∧ l + Y.length = M ∧ L = Y.length)) (hs : s = l + u) (he : e + s = M) (h : Sought (symF X Y M l) L u u) :
    (∀ x ∈ X.drop s, ∀ y ∈ Y.take e, clsLt y x = true) ∧ (∀ x ∈ X.take s, ∀ y ∈ Y.drop e, clsLt y x = false) := by
  have hu := h.qn
  constructor
  · intro x hx y hy
    obtain ⟨j, hj1, hj2, ex⟩ := mem_drop_nth hx
    obtain ⟨k, hk1, hk2, ey⟩ := mem_take_nth hy
    have hul : u < L := by omega
    have hF := h.hi u (Nat.le_refl _) hul
    unfold symF at hF
    simp at hF
    have e1 : M - 1 - l - u = e - 1 := by omega
    rw [e1, ← hs] at hF
    have a1 := srt_nth hX (i := s) (j := j) hj1 hj2
    have a2 := srt_nth hY (i := k) (j := e - 1) (by omega) (by omega)
    rw [← ex, ← ey]
    exact cls_weak.of_lt (cls_weak.of_le a2 hF) a1
  · intro x hx y hy
    obtain ⟨j, hj1, hj2, ex⟩ := mem_take_nth hx
    obtain ⟨k, hk1, hk2, ey⟩ := mem_drop_nth hy
    have hu0 : 0 < u := by omega
    have hF := h.lo (u - 1) (by omega)
    unfold symF at hF
    simp at hF
    have e1 : M - 1 - l - (u - 1) = e := by omega
    have e2 : l + (u - 1) = s - 1 := by omega
    rw [e1, e2] at hF
    have a1 := srt_nth hX (i := j) (j := s - 1) (by omega) (by omega)
    have a2 := srt_nth hY (i := e) (j := k) hk1 hk2
    rw [← ex, ← ey]
    exact cls_weak.ntr _ _ _ a1 (cls_weak.ntr _ _ _ hF a2)
theorem nth_left (P X Z : List Int) (c : Nat) (h : c < X.length) : nth (P ++ X ++ Z) (P.length + c) = nth X c := by
  unfold nth List.getD
  rw [List.append_assoc, List.getElem?_append_right (by omega), List.getElem?_append_left (by omega)]
  congr 2
  omega
theorem nth_right (P X Y Q : List Int) (c : Nat) (h : c < Y.length) : nth (P ++ X ++ Y ++ Q) (P.length + X.length + c) = nth Y c := by
  have := nth_left (P ++ X) Y Q c h
  rw [List.length_append] at this
  exact this
end Go.Proofs.YtamigjljgepfiaaGreatDoor
/- Two stretches in order merged in place. -/
namespace Go.Proofs.YtamigjljgepfiaaGreatDoor
open Go.RowKit
/-- What merging promises of stretches of at most n numbers together. -/
def Merges (n : Nat) : Prop := ∀ (w0 w : World) (g cap a m b N : Nat) (A B : List Value) (P X Y Q : List Int), X.length + Y.length ≤ n → 0 < X.length → 0 < Y.length → Srt clsLt X → Srt clsLt Y → a = P.length → m = a + X.length → b = m + Y.length → N = b + Q.length → N ≤ 1000000000 → Seg w0 w g A (P ++ X ++ Y ++ Q) B →
  Calls Tryz.prog 106 #[.slice (some ⟨g, A.length, none⟩) N cap, .int .i64 a, .int .i64 m, .int .i64 b, .func (.func 53) #[] #[]] w fun e w' => e = .returned (.tuple #[]) ∧ ∃ Z, Srt clsLt Z ∧ StEq clsLt Z (X ++ Y) ∧ Seg w0 w' g A (P ++ Z ++ Q) B
set_option maxHeartbeats 8000000 in
set_option maxRecDepth 100000 in
theorem sym_step (n : Nat) (ih : Merges n) (w0 w : World) (g cap a m b N : Nat) (A B : List Value) (P X Y Q : List Int) (hn : X.length + Y.length ≤ n + 1) (hX2 : 2 ≤ X.length) (hY2 : 2 ≤ Y.length) (hX : Srt clsLt X) (hY : Srt clsLt Y) (ha : a = P.length) (hm : m = a + X.length) (hb : b = m + Y.length) (hN : N = b + Q.length) (hbd : N ≤ 1000000000)
    (S : Seg w0 w g A (P ++ X ++ Y ++ Q) B) :
    Calls Tryz.prog 106 #[.slice (some ⟨g, A.length, none⟩) N cap, .int .i64 a, .int .i64 m, .int .i64 b, .func (.func 53) #[] #[]] w fun e w' => e = .returned (.tuple #[]) ∧ ∃ Z, Srt clsLt Z ∧ StEq clsLt Z (X ++ Y) ∧ Seg w0 w' g A (P ++ Z ++ Q) B := by
  have mixed := mixedO
  have zx : (m : Int) - (a : Int) = ((X.length : Nat) : Int) := by omega
  have zy : (b : Int) - (m : Int) = ((Y.length : Nat) : Int) := by omega
  have tx : (((X.length : Nat) : Int) == 1) = false := by rw [beq_eq_false_iff_ne]; omega
  have ty : (((Y.length : Nat) : Int) == 1) = false := by rw [beq_eq_false_iff_ne]; omega
  obtain ⟨mid, hmid⟩ : ∃ mid, mid = (a + b) / 2 := ⟨_, rfl⟩
  obtain ⟨M, hM⟩ : ∃ M, M = mid - a := ⟨_, rfl⟩
  have hMM : mid = a + M ∧ M = (X.length + Y.length) / 2 := by omega
  have zm : ((a : Int) + (b : Int)) / 2 = (mid : Int) := by omega
  obtain ⟨nn, hnn⟩ : ∃ nn, nn = mid + m := ⟨_, rfl⟩
  have zn : (mid : Int) + (m : Int) = (nn : Int) := by omega
  obtain ⟨pp, hpp⟩ : ∃ pp, pp + 1 = nn := ⟨nn - 1, by omega⟩
  have zp : (nn : Int) - 1 = (pp : Int) := by omega
  -- where the search begins, and how far it goes
  obtain ⟨l, L, hcase⟩ : ∃ l L, (X.length ≤ M ∧ l = 0 ∧ L = X.length ∧ M ≤ Y.length) ∨ (M < X.length ∧ l + Y.length = M ∧ L = Y.length) := by
    by_cases h : X.length ≤ M
    · exact ⟨0, X.length, .inl ⟨h, rfl, rfl, by omega⟩⟩
    · exact ⟨M - Y.length, Y.length, .inr ⟨by omega, by omega, rfl⟩⟩
  obtain ⟨lo, hlo⟩ : ∃ lo, lo = a + l := ⟨_, rfl⟩
  obtain ⟨hi, hhi⟩ : ∃ hi, hi = lo + L := ⟨_, rfl⟩
  have S0 : Hid (Seg w0 w g A (P ++ X ++ Y ++ Q) B) := hide S
  have I0 : Hid (Sought (symF X Y M l) L 0 L) := hide ⟨Nat.zero_le _, Nat.le_refl _, fun c hc => by omega, fun c h1 h2 => by omega⟩
  have HF : Hid (∀ t, t < L → nth (P ++ X ++ Y ++ Q) (lo + t) = nth X (l + t) ∧ nth (P ++ X ++ Y ++ Q) (pp - (lo + t)) = nth Y (M - 1 - l - t) ∧ lo + t < m ∧ m ≤ pp - (lo + t) ∧ pp - (lo + t) < b ∧ lo + t ≤ pp ∧ l + t < X.length ∧ l + t < M ∧ M - 1 - l < Y.length) := hide (fun t ht => by
    have e1 : lo + t = P.length + (l + t) := by omega
    have e2 : pp - (lo + t) = P.length + X.length + (M - 1 - l - t) := by omega
    refine ⟨?_, ?_, by omega, by omega, by omega, by omega, by omega, by omega, by omega⟩
    · rw [e1, List.append_assoc (P ++ X)]
      exact nth_left P X (Y ++ Q) (l + t) (by omega)
    · rw [e2]
      exact nth_right P X Y Q _ (by omega))
  have HL : Hid ((P ++ X ++ Y ++ Q).length = N) := hide (by simp; omega)
  have HSp : Hid (∀ u, Sought (symF X Y M l) L u u → ∃ s e : Nat, s = l + u ∧ e + s = M ∧ s ≤ X.length ∧ e ≤ Y.length ∧ (∀ x ∈ X.drop s, ∀ y ∈ Y.take e, clsLt y x = true) ∧ (∀ x ∈ X.take s, ∀ y ∈ Y.drop e, clsLt y x = false)) := hide (fun u h => by
    have hu := h.qn
    have := sym_split hX hY hcase (s := l + u) (e := M - (l + u)) rfl (by omega) h
    exact ⟨l + u, M - (l + u), rfl, by omega, by omega, by omega, this⟩)
  have HG : Hid (a = P.length ∧ m = a + X.length ∧ b = m + Y.length ∧ N = b + Q.length ∧ mid = a + M ∧ nn = mid + m ∧ lo = a + l ∧ X.length + Y.length ≤ n + 1 ∧ M = (X.length + Y.length) / 2) := hide ⟨ha, hm, hb, hN, hMM.1, hnn, hlo, hn, hMM.2⟩
  have hge : 4 ≤ b ∧ mid ≤ b ∧ b ≤ N ∧ nn ≤ 2000000000 ∧ a ≤ N ∧ m ≤ N ∧ pp ≤ 2000000000 ∧ hi ≤ N := by omega
  obtain ⟨_, hge1, hge2, hge3, hge4, hge5, hge6, hge7⟩ := hge
  have hst : (m ≤ mid ∧ lo = a ∧ hi = m) ∨ (mid < m ∧ (nn : Int) - (b : Int) = (lo : Int) ∧ hi = mid) := by omega
  have hloE : Hid (hi = lo + L) := hide hhi
  clear S hm hb hN hmid hM hMM hnn hpp hlo hhi ha hn hcase
  obtain ⟨xl, hxl⟩ : ∃ xl, X.length = xl := ⟨_, rfl⟩
  obtain ⟨yl, hyl⟩ : ∃ yl, Y.length = yl := ⟨_, rfl⟩
  rw [hxl] at zx tx hX2
  rw [hyl] at zy ty hY2
  clear hxl hyl
  have hstart : ∀ (K : Prop), (m ≤ mid → lo = a → hi = m → K) → (mid < m → (nn : Int) - (b : Int) = (lo : Int) → hi = mid → K) → K := fun K f1 f2 => hst.elim (fun h => f1 h.1 h.2.1 h.2.2) (fun h => f2 h.1 h.2.1 h.2.2)
  clear hst
  go_enter Tryz.func106, Tryz.ntmps106
  go_upto_if 140 with fail
  go_cut [20, 21] from 138 (fun sv rv wx => sv = .int .i64 lo ∧ rv = .int .i64 hi ∧ wx = w)
  case first =>
    refine hstart _ (fun h1 h2 h3 => ?_) (fun h1 h2 h3 => ?_)
    · have h1' : ¬ (mid : Int) < (m : Int) := by omega
      subst h2 h3
      go_wp2
      go_meet
      exact ⟨rfl, rfl, rfl⟩
    · have h1' : (mid : Int) < (m : Int) := by omega
      subst h3
      go_wp2
      go_meet
      exact ⟨rfl, rfl, rfl⟩
  case rest =>
    obtain ⟨rfl, rfl, rfl⟩ := hcut
    clear hstart
    go_wp2
    go_loopw [20, 21] (fun iv jv wr => ∃ u v i j : Nat, Hid (i = lo + u ∧ j = lo + v) ∧ iv = .int .i64 i ∧ jv = .int .i64 j ∧ Hid (Sought (symF X Y M l) L u v) ∧ Hid (Seg w0 wr g A (P ++ X ++ Y ++ Q) B)) (fun iv jv _ => (intOf jv).toNat - (intOf iv).toNat)
    case atStart => exact ⟨0, L, lo, hi, hide ⟨rfl, unhide hloE⟩, rfl, rfl, I0, S0⟩
    case round =>
      obtain ⟨u, v, i, j, HE, rfl, rfl, HS, SI⟩ := hrel
      clear S0 I0
      have hS := unhide HS
      have hij : i ≤ j ∧ j ≤ hi ∧ lo ≤ i := by have := hS.pq; have := hS.qn; have := unhide HE; have := unhide hloE; omega
      obtain ⟨hij1, hij2, hij3⟩ := hij
      by_cases hlt : i < j
      · have hlt' : (i : Int) < (j : Int) := by omega
        have hh := half_bd i j hlt
        obtain ⟨h, eh⟩ : ∃ h, (i + j) / 2 = h := ⟨_, rfl⟩
        rw [eh] at hh
        have eh' : ((i : Int) + (j : Int)) / 2 = (h : Int) := by omega
        obtain ⟨c, hc⟩ : ∃ c, h = lo + c := ⟨h - lo, by omega⟩
        have hcq : u ≤ c ∧ c < v := by have := unhide HE; omega
        have hcL : c < L := by have := hS.qn; omega
        obtain ⟨n1, n2, b1, b2, b3, b4, b5, b6, b7⟩ := unhide HF c hcL
        rw [← hc] at n1 n2 b1 b2 b3 b4
        obtain ⟨k, hk⟩ : ∃ k, pp - h = k := ⟨_, rfl⟩
        rw [hk] at n2 b2 b3
        have zk : (pp : Int) - (h : Int) = (k : Int) := by omega
        have hl := unhide HL
        have hhN : h < N := by omega
        have hkN : k < N := by omega
        have ca := (unhide SI).cell k (by omega)
        have ch := (unhide SI).cell h (by omega)
        rw [n2] at ca
        rw [n1] at ch
        have ba : (k : Int) < (N : Int) := by omega
        have bh : (h : Int) < (N : Int) := by omega
        have HC : Hid (∀ W, Calls Tryz.prog 53 #[.int .i64 (nth Y (M - 1 - l - c)), .int .i64 (nth X (l + c))] W fun e w' => e = .returned (.int .i64 (cmpZ (clsZ (nth Y (M - 1 - l - c))) (clsZ (nth X (l + c))))) ∧ w' = W) := hide (fun W => byClassI _ _ W)
        have hcz := cmpZ_lt (nth Y (M - 1 - l - c)) (nth X (l + c))
        have S2 := hide (fun n => (unhide SI).drewN n)
        have HQ := hide (fun d => unhide HF d)
        cases hb : clsLt (nth Y (M - 1 - l - c)) (nth X (l + c)) with
        | false =>
          rw [hb] at hcz
          have hcz' := of_decide_eq_false hcz
          have T2 := hide (hS.up (c := c) hcq.2 (fun d hd hf => symF_up hX hY hd b5 b6 b7 hf) (by unfold symF; rw [hb]; rfl))
          have HE2 : Hid (h + 1 = lo + (c + 1) ∧ j = lo + v) := hide ⟨by omega, (unhide HE).2⟩
          clear hS HS SI n1 n2 b1 b2 b3 b4 b5 b6 b7 hb hcz hc hcq hcL HE eh hk hl HQ
          generalize cmpZ (clsZ (nth Y (M - 1 - l - c))) (clsZ (nth X (l + c))) = cz at *
          generalize nth Y (M - 1 - l - c) = y at *
          generalize nth X (l + c) = x at *
          go_upto_region 35 with fail
          go_quiet (first | (go_at_call 53; refine Calls.quiet_of_same ((unhide HC) _)))
          have S3 := hide ((unhide S2) nq)
          clear S2 ca ch HC
          generalize wr.drewN nq = w2 at *
          go_wp2
          go_roundw
          case rel => exact ⟨c + 1, v, h + 1, j, HE2, by go_num, rfl, T2, S3⟩
          case measure => simp [intOf]; omega
        | true =>
          rw [hb] at hcz
          have hcz' := of_decide_eq_true hcz
          have T2 := hide (hS.down (c := c) hcq.1 hcq.2 (fun d hd hn hf => by
            obtain ⟨_, _, _, _, _, _, p5, p6, p7⟩ := unhide HQ d hn
            exact symF_down hX hY hd p5 p6 p7 hf) (by unfold symF; rw [hb]; rfl))
          have HE2 : Hid (i = lo + u ∧ h = lo + c) := hide ⟨(unhide HE).1, hc⟩
          clear hS HS SI n1 n2 b1 b2 b3 b4 b5 b6 b7 hb hcz hc hcq hcL HE eh hk hl HQ
          generalize cmpZ (clsZ (nth Y (M - 1 - l - c))) (clsZ (nth X (l + c))) = cz at *
          generalize nth Y (M - 1 - l - c) = y at *
          generalize nth X (l + c) = x at *
          go_upto_region 35 with fail
          go_quiet (first | (go_at_call 53; refine Calls.quiet_of_same ((unhide HC) _)))
          have S3 := hide ((unhide S2) nq)
          clear S2 ca ch HC
          generalize wr.drewN nq = w2 at *
          go_wp2
          go_roundw
          case rel => exact ⟨u, c, i, h, HE2, rfl, rfl, T2, S3⟩
          case measure => simp [intOf]; omega
      · have hnl : ¬ (i : Int) < (j : Int) := by omega
        have huv : u = v := by have := hS.pq; have := unhide HE; omega
        subst huv
        obtain ⟨s, e, es, ee, hsX, heY, h1, h2⟩ := unhide HSp u hS
        obtain ⟨g1, g2, g3, g4, g5, g6, g7, g8, g9⟩ := unhide HG
        have hi0 := (unhide HE).1
        obtain ⟨en, hen⟩ : ∃ en, en = m + e := ⟨_, rfl⟩
        have ze : (nn : Int) - (i : Int) = (en : Int) := by omega
        have lX1 : (X.take s).length = s := by rw [List.length_take]; omega
        have lX2 : (X.drop s).length = X.length - s := List.length_drop
        have lY1 : (Y.take e).length = e := by rw [List.length_take]; omega
        have lY2 : (Y.drop e).length = Y.length - e := List.length_drop
        have eX : X.take s ++ X.drop s = X := List.take_append_drop s X
        have eY : Y.take e ++ Y.drop e = Y := List.take_append_drop e Y
        have sX : Srt clsLt (X.take s ++ X.drop s) := by rw [eX]; exact hX
        have sY : Srt clsLt (Y.take e ++ Y.drop e) := by rw [eY]; exact hY
        -- the three steps, told ahead
        have RO : Hid (∀ W, Seg w0 W g A (P ++ X ++ Y ++ Q) B → i < m → m < en → Calls Tryz.prog 118 #[.slice (some ⟨g, A.length, none⟩) N cap, .int .i64 i, .int .i64 m, .int .i64 en, .func (.func 53) #[] #[]] W fun e' w' => e' = .returned (.tuple #[]) ∧ Seg w0 w' g A (P ++ X.take s ++ Y.take e ++ (X.drop s ++ (Y.drop e ++ Q))) B) := hide (fun W sW hA hB => by
          refine (rotate_any w0 W g cap i m en N A B (P ++ X.take s) (X.drop s) (Y.take e) (Y.drop e ++ Q) _ (by omega) (by omega) (by rw [List.length_append]; omega) (by rw [List.length_append]; omega) (by rw [List.length_append]; omega) (by rw [List.length_append, List.length_append]; omega) hbd (by
            have e1 : P ++ X.take s ++ X.drop s ++ Y.take e ++ (Y.drop e ++ Q) = P ++ X ++ Y ++ Q := by
              rw [List.append_assoc P, eX, List.append_assoc (P ++ X), ← List.append_assoc (Y.take e), eY, List.append_assoc (P ++ X)]
            rw [e1]
            exact sW)).mono ?_
          rintro e' w' ⟨he, hs⟩
          exact ⟨he, by simpa [List.append_assoc] using hs⟩)
        have RN : Hid (∀ W, Seg w0 W g A (P ++ X ++ Y ++ Q) B → ¬ (i < m ∧ m < en) → Seg w0 W g A (P ++ X.take s ++ Y.take e ++ (X.drop s ++ (Y.drop e ++ Q))) B) := hide (fun W sW hAB => by
          have e1 : P ++ X.take s ++ Y.take e ++ (X.drop s ++ (Y.drop e ++ Q)) = P ++ X ++ Y ++ Q := by
            by_cases hz : e = 0
            · have y1 : Y.take e = [] := by rw [hz]; rfl
              have y2 : Y.drop e = Y := by rw [hz]; rfl
              rw [y1, y2, List.append_nil, List.append_assoc P, ← List.append_assoc (X.take s), eX]
              simp [List.append_assoc]
            · have hz2 : s = X.length := by omega
              have x1 : X.take s = X := List.take_of_length_le (by omega)
              have x2 : X.drop s = [] := List.drop_eq_nil_iff.2 (by omega)
              rw [x1, x2, List.nil_append, List.append_assoc (P ++ X), ← List.append_assoc (Y.take e), eY]
              simp [List.append_assoc]
          rw [e1]
          exact sW)
        have R1 : Hid (∀ W, Seg w0 W g A (P ++ X.take s ++ Y.take e ++ (X.drop s ++ (Y.drop e ++ Q))) B → a < i → i < mid → Calls Tryz.prog 106 #[.slice (some ⟨g, A.length, none⟩) N cap, .int .i64 a, .int .i64 i, .int .i64 mid, .func (.func 53) #[] #[]] W fun e' w' => e' = .returned (.tuple #[]) ∧ ∃ Z, Srt clsLt Z ∧ StEq clsLt Z (X.take s ++ Y.take e) ∧ Seg w0 w' g A (P ++ Z ++ (X.drop s ++ (Y.drop e ++ Q))) B) := hide (fun W sW hA hB =>
          ih w0 W g cap a i mid N A B P (X.take s) (Y.take e) (X.drop s ++ (Y.drop e ++ Q)) (by omega) (by omega) (by omega) (srt_parts sX).1 (srt_parts sY).1 g1 (by omega) (by omega) (by rw [List.length_append, List.length_append]; omega) hbd sW)
        have R1N : Hid (¬ (a < i ∧ i < mid) → Srt clsLt (X.take s ++ Y.take e)) := hide (fun hAB => by
          by_cases hz : e = 0
          · have y1 : Y.take e = [] := by rw [hz]; rfl
            rw [y1, List.append_nil]
            exact (srt_parts sX).1
          · have hz2 : s = 0 := by omega
            have x1 : X.take s = [] := by rw [hz2]; rfl
            rw [x1, List.nil_append]
            exact (srt_parts sY).1)
        have R2 : Hid (∀ W Z, StEq clsLt Z (X.take s ++ Y.take e) → Seg w0 W g A (P ++ Z ++ (X.drop s ++ (Y.drop e ++ Q))) B → mid < en → en < b → Calls Tryz.prog 106 #[.slice (some ⟨g, A.length, none⟩) N cap, .int .i64 mid, .int .i64 en, .int .i64 b, .func (.func 53) #[] #[]] W fun e' w' => e' = .returned (.tuple #[]) ∧ ∃ Z2, Srt clsLt Z2 ∧ StEq clsLt Z2 (X.drop s ++ Y.drop e) ∧ Seg w0 w' g A (P ++ Z ++ Z2 ++ Q) B) := hide (fun W Z hZ sW hA hB => by
          have lZ := StEq.length cls_weak hZ
          rw [List.length_append] at lZ
          refine (ih w0 W g cap mid en b N A B (P ++ Z) (X.drop s) (Y.drop e) Q (by omega) (by omega) (by omega) (srt_parts sX).2.1 (srt_parts sY).2.1 (by rw [List.length_append]; omega) (by omega) (by omega) (by omega) hbd (by simpa [List.append_assoc] using sW)).mono ?_
          rintro e' w' ⟨he, Z2, t1, t2, t3⟩
          exact ⟨he, Z2, t1, t2, t3⟩)
        have R2N : Hid (¬ (mid < en ∧ en < b) → Srt clsLt (X.drop s ++ Y.drop e)) := hide (fun hAB => by
          by_cases hz : s = X.length
          · have x1 : X.drop s = [] := List.drop_eq_nil_iff.2 (by omega)
            rw [x1, List.nil_append]
            exact (srt_parts sY).2.1
          · have y1 : Y.drop e = [] := List.drop_eq_nil_iff.2 (by omega)
            rw [y1, List.append_nil]
            exact (srt_parts sX).2.1)
        have RE : Hid (∀ Z1 Z2, Srt clsLt Z1 → StEq clsLt Z1 (X.take s ++ Y.take e) → Srt clsLt Z2 → StEq clsLt Z2 (X.drop s ++ Y.drop e) → Srt clsLt (Z1 ++ Z2) ∧ StEq clsLt (Z1 ++ Z2) (X ++ Y)) := hide (fun Z1 Z2 s1 e1 s2 e2 => by
          have := merge_halves cls_weak sX sY h1 h2 s1 e1 s2 e2
          rw [eX, eY] at this
          exact this)
        have bn : en ≤ N ∧ i ≤ N ∧ mid ≤ N := by omega
        obtain ⟨bn1, bn2, bn3⟩ := bn
        clear hS HS HE HF HSp HG HL hloE h1 h2 g1 g2 g3 g4 g5 g6 g7 g8 g9 hi0 hen lX1 lX2 lY1 lY2 eX eY sX sY es ee hsX heY ih hX hY
        generalize X.take s = X1 at *
        generalize X.drop s = X2 at *
        generalize Y.take e = Y1 at *
        generalize Y.drop e = Y2 at *
        go_upto_region 39 with fail
        go_cut [185] from 178 (fun v wx => v = .bool (decide (i < m ∧ m < en)) ∧ wx = wr)
        case first =>
          by_cases hA : i < m
          · have hA' : (i : Int) < (m : Int) := by omega
            by_cases hB : m < en
            · have hB' : (m : Int) < (en : Int) := by omega
              go_wp2
              go_meet
              exact ⟨by rw [decide_eq_true ⟨hA, hB⟩], rfl⟩
            · have hB' : ¬ (m : Int) < (en : Int) := by omega
              go_wp2
              go_meet
              exact ⟨by rw [decide_eq_false (fun h => hB h.2)], rfl⟩
          · have hA' : ¬ (i : Int) < (m : Int) := by omega
            go_wp2
            go_meet
            exact ⟨by rw [decide_eq_false (fun h => hA h.1)], rfl⟩
        case rest =>
          obtain ⟨rfl, hwc⟩ := hcut
          subst hwc
          go_upto_if 185 with fail
          go_cut [] from 178 (fun wx => Hid (Seg w0 wx g A (P ++ X1 ++ Y1 ++ (X2 ++ (Y2 ++ Q))) B))
          case first =>
            by_cases hAB : i < m ∧ m < en
            · rw [decide_eq_true hAB]
              go_wp2_with fail
              refine ((unhide RO) _ (unhide SI) hAB.1 hAB.2).mono ?_
              rintro e' w2 ⟨rfl, s2⟩
              have S2 := hide s2
              clear s2
              go_wp2
              go_meet
              exact S2
            · rw [decide_eq_false hAB]
              have S2 := hide ((unhide RN) _ (unhide SI) hAB)
              go_wp2
              go_meet
              exact S2
          case rest =>
            have S4 := hcut
            clear hcut SI RO RN
            go_upto_region 41 with fail
            go_cut [199] from 192 (fun v wx => v = .bool (decide (a < i ∧ i < mid)) ∧ wx = wc)
            case first =>
              by_cases hA : a < i
              · have hA' : (a : Int) < (i : Int) := by omega
                by_cases hB : i < mid
                · have hB' : (i : Int) < (mid : Int) := by omega
                  go_wp2
                  go_meet
                  exact ⟨by rw [decide_eq_true ⟨hA, hB⟩], rfl⟩
                · have hB' : ¬ (i : Int) < (mid : Int) := by omega
                  go_wp2
                  go_meet
                  exact ⟨by rw [decide_eq_false (fun h => hB h.2)], rfl⟩
              · have hA' : ¬ (a : Int) < (i : Int) := by omega
                go_wp2
                go_meet
                exact ⟨by rw [decide_eq_false (fun h => hA h.1)], rfl⟩
            case rest =>
              obtain ⟨rfl, hwc⟩ := hcut
              subst hwc
              go_upto_if 199 with fail
              go_cut [] from 192 (fun wx => Hid (∃ Z, Srt clsLt Z ∧ StEq clsLt Z (X1 ++ Y1) ∧ Seg w0 wx g A (P ++ Z ++ (X2 ++ (Y2 ++ Q))) B))
              case first =>
                by_cases hAB : a < i ∧ i < mid
                · rw [decide_eq_true hAB]
                  go_wp2_with fail
                  refine ((unhide R1) _ (unhide S4) hAB.1 hAB.2).mono ?_
                  rintro e' w2 ⟨rfl, s2⟩
                  have S2 := hide s2
                  clear s2
                  go_wp2
                  go_meet
                  exact S2
                · rw [decide_eq_false hAB]
                  have S2 : Hid (∃ Z, Srt clsLt Z ∧ StEq clsLt Z (X1 ++ Y1) ∧ Seg w0 _ g A (P ++ Z ++ (X2 ++ (Y2 ++ Q))) B) := hide ⟨X1 ++ Y1, (unhide R1N) hAB, StEq.refl _, by rw [← List.append_assoc P]; exact unhide S4⟩
                  go_wp2
                  go_meet
                  exact S2
              case rest =>
                have S5 := hcut
                clear hcut S4 R1 R1N
                go_upto_region 43 with fail
                go_cut [213] from 206 (fun v wx => v = .bool (decide (mid < en ∧ en < b)) ∧ wx = wc)
                case first =>
                  by_cases hA : mid < en
                  · have hA' : (mid : Int) < (en : Int) := by omega
                    by_cases hB : en < b
                    · have hB' : (en : Int) < (b : Int) := by omega
                      go_wp2
                      go_meet
                      exact ⟨by rw [decide_eq_true ⟨hA, hB⟩], rfl⟩
                    · have hB' : ¬ (en : Int) < (b : Int) := by omega
                      go_wp2
                      go_meet
                      exact ⟨by rw [decide_eq_false (fun h => hB h.2)], rfl⟩
                  · have hA' : ¬ (mid : Int) < (en : Int) := by omega
                    go_wp2
                    go_meet
                    exact ⟨by rw [decide_eq_false (fun h => hA h.1)], rfl⟩
                case rest =>
                  obtain ⟨rfl, hwc⟩ := hcut
                  subst hwc
                  obtain ⟨Z, z1, z2, z3⟩ := unhide S5
                  clear S5
                  by_cases hAB : mid < en ∧ en < b
                  · rw [decide_eq_true hAB]
                    have CA := hide ((unhide R2) _ Z z2 z3 hAB.1 hAB.2)
                    have CE := hide (fun Z2 => (unhide RE) Z Z2 z1 z2)
                    clear z1 z2 z3 R2 R2N RE
                    go_wp2_with fail
                    refine (unhide CA).mono ?_
                    rintro e' w2 ⟨rfl, Z2, t1, t2, t3⟩
                    have R3 := hide ((unhide CE) Z2 t1 t2)
                    have S3 : Hid (Seg w0 w2 g A (P ++ (Z ++ Z2) ++ Q) B) := hide (by rw [← List.append_assoc P]; exact t3)
                    clear t1 t2 t3 CA CE
                    go_wp2
                    go_end0
                    exact ⟨rfl, _, (unhide R3).1, (unhide R3).2, unhide S3⟩
                  · rw [decide_eq_false hAB]
                    have R3 := hide ((unhide RE) Z _ z1 z2 ((unhide R2N) hAB) (StEq.refl _))
                    have S3 := hide z3
                    clear z1 z2 z3 R2 R2N RE
                    go_wp2
                    go_end0
                    refine ⟨rfl, _, (unhide R3).1, (unhide R3).2, ?_⟩
                    simpa [List.append_assoc] using unhide S3
end Go.Proofs.YtamigjljgepfiaaGreatDoor
/- Rows whose chunks are in order; stretches in order merged, of any length. -/
namespace Go.Proofs.YtamigjljgepfiaaGreatDoor
open Go.RowKit
theorem merges_all : ∀ n, Merges n
  | 0 => fun _ _ _ _ _ _ _ _ _ _ _ X Y _ h1 h2 _ _ _ _ _ _ _ _ _ => by omega
  | n + 1 => fun w0 w g cap a m b N A B P X Y Q hn hX0 hY0 hX hY ha hm hb hN hbd S => by
    by_cases h1 : X.length = 1
    · obtain ⟨x, rfl⟩ : ∃ x, X = [x] := List.length_eq_one_iff.1 h1
      refine symOne w0 w g cap a m b N A B P Y Q x hY ha (by simpa using hm) (by simp at hm; omega) (by simp at hm; omega) hbd ?_
      simpa using S
    · by_cases h2 : Y.length = 1
      · obtain ⟨y, rfl⟩ : ∃ y, Y = [y] := List.length_eq_one_iff.1 h2
        refine symLast w0 w g cap a m b N A B P X Q y hX (by omega) ha hm (by simpa using hb) (by simp at hb; omega) hbd ?_
        simpa using S
      · exact sym_step n (merges_all n) w0 w g cap a m b N A B P X Y Q hn (by omega) (by omega) hX hY ha hm hb hN hbd S
/-- Each chunk of k is in order. -/
def Ch (k : Nat) (L : List Int) : Prop := ∀ i, Srt clsLt ((L.drop (i * k)).take k)
theorem ch_nil (k : Nat) : Ch k [] := fun i => by simp [Srt]
theorem ch_one {k : Nat} {Z : List Int} (h : Srt clsLt Z) (hl : Z.length ≤ k) : Ch k Z := fun i => by
  by_cases hi : i = 0
  · subst hi
    rw [Nat.zero_mul, List.drop_zero, List.take_of_length_le hl]
    exact h
  · have : 1 * k ≤ i * k := Nat.mul_le_mul_right k (by omega)
    rw [List.drop_eq_nil_iff.2 (by omega)]
    simp [Srt]
theorem ch_app {k q : Nat} {A B : List Int} (hA : Ch k A) (hB : Ch k B) (hl : A.length = q * k) : Ch k (A ++ B) := fun i => by
  by_cases hi : i < q
  · have : (i + 1) * k ≤ q * k := Nat.mul_le_mul_right k (by omega)
    rw [Nat.add_mul, Nat.one_mul] at this
    rw [List.drop_append_of_le_length (by omega), List.take_append_of_le_length (by rw [List.length_drop]; omega)]
    exact hA i
  · obtain ⟨j, rfl⟩ : ∃ j, i = q + j := ⟨i - q, by omega⟩
    have e : (A ++ B).drop ((q + j) * k) = B.drop (j * k) := by
      rw [Nat.add_mul, ← hl, List.drop_append]
      simp
    rw [e]
    exact hB j
theorem ch_drop {k : Nat} {L : List Int} (h : Ch k L) (j : Nat) : Ch k (L.drop (j * k)) := fun i => by
  rw [List.drop_drop, ← Nat.add_mul]
  exact h (j + i)
theorem ch_take {k : Nat} {L : List Int} (h : Ch k L) : Srt clsLt (L.take k) := by
  have := h 0
  rwa [Nat.zero_mul, List.drop_zero] at this
theorem ch_all {k : Nat} {L : List Int} (h : Ch k L) (hl : L.length ≤ k) : Srt clsLt L := by
  have := ch_take h
  rwa [List.take_of_length_le hl] at this
/-- Some chunks of twice the length done, those behind still of the single one. -/
structure Half (k a : Nat) (X Pd R : List Int) : Prop where
  dn : Ch (2 * k) Pd
  td : Ch k R
  le : Pd.length = a
  mu : ∃ q, a = q * (2 * k)
  st : StEq clsLt (Pd ++ R) X
theorem Half.start {k : Nat} {X L : List Int} (h : Ch k L) (hs : StEq clsLt L X) : Half k 0 X [] L := ⟨ch_nil _, h, rfl, ⟨0, by simp⟩, by simpa using hs⟩
theorem Half.two {k a : Nat} {X Pd R : List Int} (h : Half k a X Pd R) (hl : 2 * k ≤ R.length) : R = R.take k ++ (R.drop k).take k ++ R.drop (2 * k) ∧ (R.take k).length = k ∧ ((R.drop k).take k).length = k ∧ Srt clsLt (R.take k) ∧ Srt clsLt ((R.drop k).take k) := by
  have e1 : (R.drop k).drop k = R.drop (2 * k) := by rw [List.drop_drop]; congr 1; omega
  refine ⟨?_, by rw [List.length_take]; omega, by rw [List.length_take, List.length_drop]; omega, ch_take h.td, ?_⟩
  · rw [List.append_assoc, ← e1, List.take_append_drop, List.take_append_drop]
  · have := h.td 1
    rwa [Nat.one_mul] at this
theorem Half.next {k a : Nat} {X Pd R Z : List Int} (h : Half k a X Pd R) (hl : 2 * k ≤ R.length) (hs : Srt clsLt Z) (he : StEq clsLt Z (R.take k ++ (R.drop k).take k)) : Half k (a + 2 * k) X (Pd ++ Z) (R.drop (2 * k)) := by
  obtain ⟨e1, l1, l2, _, _⟩ := h.two hl
  have lZ := StEq.length cls_weak he
  rw [List.length_append, l1, l2] at lZ
  obtain ⟨q, hq⟩ := h.mu
  refine ⟨ch_app h.dn (ch_one hs (by omega)) (by rw [h.le]; exact hq), ch_drop h.td 2, by rw [List.length_append, h.le]; omega, ⟨q + 1, by rw [Nat.add_mul, ← hq]; omega⟩, ?_⟩
  refine StEq.trans ?_ h.st
  have : StEq clsLt (Pd ++ (Z ++ R.drop (2 * k))) (Pd ++ ((R.take k ++ (R.drop k).take k) ++ R.drop (2 * k))) := (StEq.refl Pd).app (he.app (StEq.refl _))
  rw [← e1, ← List.append_assoc] at this
  exact this
theorem Half.last {k a : Nat} {X Pd R Z : List Int} (h : Half k a X Pd R) (hl : R.length < 2 * k) (hs : Srt clsLt Z) (he : StEq clsLt Z R) : Ch (2 * k) (Pd ++ Z) ∧ StEq clsLt (Pd ++ Z) X := by
  have lZ := StEq.length cls_weak he
  obtain ⟨q, hq⟩ := h.mu
  exact ⟨ch_app h.dn (ch_one hs (by omega)) (by rw [h.le]; exact hq), ((StEq.refl Pd).app he).trans h.st⟩
end Go.Proofs.YtamigjljgepfiaaGreatDoor
/- A row put in order, those that are alike as they stood. -/
namespace Go.Proofs.YtamigjljgepfiaaGreatDoor
open Go.RowKit
/-- Chunks of k in order up to a; the rest as it was. -/
def Fst (w0 w : World) (g : Nat) (A B : List Value) (X : List Int) (k a : Nat) : Prop := ∃ Pd R, Pd.length = a ∧ (∃ q, a = q * k) ∧ Ch k Pd ∧ StEq clsLt (Pd ++ R) X ∧ Seg w0 w g A (Pd ++ R) B
def Snd (w0 w : World) (g : Nat) (A B : List Value) (X : List Int) (k a : Nat) : Prop := ∃ Pd R, Half k a X Pd R ∧ Seg w0 w g A (Pd ++ R) B
def Thd (w0 w : World) (g : Nat) (A B : List Value) (X : List Int) (k : Nat) : Prop := ∃ L, Ch k L ∧ StEq clsLt L X ∧ Seg w0 w g A L B
theorem Thd.snd {w0 w : World} {g : Nat} {A B : List Value} {X : List Int} {k : Nat} : Thd w0 w g A B X k → Snd w0 w g A B X k 0 := fun ⟨L, h1, h2, h3⟩ => ⟨[], L, Half.start h1 h2, by simpa using h3⟩
theorem Thd.last {w0 w : World} {g : Nat} {A B : List Value} {X : List Int} {k : Nat} (h : Thd w0 w g A B X k) (hk : X.length ≤ k) : ∃ Z, Srt clsLt Z ∧ StEq clsLt Z X ∧ Seg w0 w g A Z B := by
  obtain ⟨L, h1, h2, h3⟩ := h
  exact ⟨L, ch_all h1 (by rw [StEq.length cls_weak h2]; exact hk), h2, h3⟩
theorem Fst.step {w0 w : World} {g : Nat} {A B : List Value} {X : List Int} {k a cap N : Nat} (h : Fst w0 w g A B X k a) (b : Nat) (hb : b = a + k) (hle : b ≤ N) (hN : N = X.length) (hbd : N ≤ 1000000000) :
    Calls Tryz.prog 105 #[.slice (some ⟨g, A.length, none⟩) N cap, .int .i64 a, .int .i64 b, .func (.func 53) #[] #[]] w fun e w' => e = .returned (.tuple #[]) ∧ Fst w0 w' g A B X k b := by
  obtain ⟨Pd, R, l1, ⟨q, hq⟩, c1, s1, g1⟩ := h
  have lX := StEq.length cls_weak s1
  rw [List.length_append] at lX
  have lt : (R.take k).length = k := by rw [List.length_take]; omega
  have ld : (R.drop k).length = R.length - k := List.length_drop
  refine (insSort_any w0 w g cap a b N A B Pd (R.take k) (R.drop k) l1.symm (by omega) (by omega) hbd (by rw [List.append_assoc, List.take_append_drop]; exact g1)).mono ?_
  rintro e w' ⟨rfl, Z, z1, z2, z3⟩
  have lZ := StEq.length cls_weak z2
  refine ⟨rfl, Pd ++ Z, R.drop k, by rw [List.length_append]; omega, ⟨q + 1, by rw [Nat.add_mul, ← hq]; omega⟩, ch_app c1 (ch_one z1 (by omega)) (by rw [l1]; exact hq), ?_, z3⟩
  refine StEq.trans ?_ s1
  have : StEq clsLt (Pd ++ (Z ++ R.drop k)) (Pd ++ (R.take k ++ R.drop k)) := (StEq.refl Pd).app (z2.app (StEq.refl _))
  rw [List.take_append_drop, ← List.append_assoc] at this
  exact this
theorem Fst.fin {w0 w : World} {g : Nat} {A B : List Value} {X : List Int} {k a cap N : Nat} (h : Fst w0 w g A B X k a) (hlt : N < a + k) (hN : N = X.length) (hbd : N ≤ 1000000000) :
    Calls Tryz.prog 105 #[.slice (some ⟨g, A.length, none⟩) N cap, .int .i64 a, .int .i64 N, .func (.func 53) #[] #[]] w fun e w' => e = .returned (.tuple #[]) ∧ Thd w0 w' g A B X k := by
  obtain ⟨Pd, R, l1, ⟨q, hq⟩, c1, s1, g1⟩ := h
  have lX := StEq.length cls_weak s1
  rw [List.length_append] at lX
  refine (insSort_any w0 w g cap a N N A B Pd R [] l1.symm (by omega) (by simp; omega) hbd (by rw [List.append_nil]; exact g1)).mono ?_
  rintro e w' ⟨rfl, Z, z1, z2, z3⟩
  have lZ := StEq.length cls_weak z2
  rw [List.append_nil] at z3
  exact ⟨rfl, Pd ++ Z, ch_app c1 (ch_one z1 (by omega)) (by rw [l1]; exact hq), ((StEq.refl Pd).app z2).trans s1, z3⟩
theorem Snd.step {w0 w : World} {g : Nat} {A B : List Value} {X : List Int} {k a cap N : Nat} (h : Snd w0 w g A B X k a) (m b : Nat) (hm : m = a + k) (hb : b = a + 2 * k) (hk : 0 < k) (hle : b ≤ N) (hN : N = X.length) (hbd : N ≤ 1000000000) :
    Calls Tryz.prog 106 #[.slice (some ⟨g, A.length, none⟩) N cap, .int .i64 a, .int .i64 m, .int .i64 b, .func (.func 53) #[] #[]] w fun e w' => e = .returned (.tuple #[]) ∧ Snd w0 w' g A B X k b := by
  obtain ⟨Pd, R, h1, g1⟩ := h
  have lX := StEq.length cls_weak h1.st
  rw [List.length_append, h1.le] at lX
  have l0 : 2 * k ≤ R.length := by omega
  obtain ⟨e1, l1, l2, t1, t2⟩ := h1.two l0
  have ld : (R.drop (2 * k)).length = R.length - 2 * k := List.length_drop
  refine (merges_all _ w0 w g cap a m b N A B Pd (R.take k) ((R.drop k).take k) (R.drop (2 * k)) (Nat.le_refl _) (by omega) (by omega) t1 t2 h1.le.symm (by omega) (by omega) (by omega) hbd ?_).mono ?_
  · rw [List.append_assoc Pd, List.append_assoc Pd, ← e1]
    exact g1
  · rintro e w' ⟨rfl, Z, z1, z2, z3⟩
    subst hb
    exact ⟨rfl, Pd ++ Z, R.drop (2 * k), h1.next l0 z1 z2, z3⟩
theorem Snd.fin {w0 w : World} {g : Nat} {A B : List Value} {X : List Int} {k a cap N : Nat} (h : Snd w0 w g A B X k a) (m : Nat) (hm : m = a + k) (hk : 0 < k) (hlt : N < a + 2 * k) (hmN : m < N) (hN : N = X.length) (hbd : N ≤ 1000000000) :
    Calls Tryz.prog 106 #[.slice (some ⟨g, A.length, none⟩) N cap, .int .i64 a, .int .i64 m, .int .i64 N, .func (.func 53) #[] #[]] w fun e w' => e = .returned (.tuple #[]) ∧ Thd w0 w' g A B X (2 * k) := by
  obtain ⟨Pd, R, h1, g1⟩ := h
  have lX := StEq.length cls_weak h1.st
  rw [List.length_append, h1.le] at lX
  have lt : (R.take k).length = k := by rw [List.length_take]; omega
  have ld : (R.drop k).length = R.length - k := List.length_drop
  have t2 : Srt clsLt (R.drop k) := by
    have := h1.td 1
    rwa [Nat.one_mul, List.take_of_length_le (by omega)] at this
  refine (merges_all _ w0 w g cap a m N N A B Pd (R.take k) (R.drop k) [] (Nat.le_refl _) (by omega) (by omega) (ch_take h1.td) t2 h1.le.symm (by omega) (by omega) (by simp) hbd ?_).mono ?_
  · rw [List.append_nil, List.append_assoc, List.take_append_drop]
    exact g1
  · rintro e w' ⟨rfl, Z, z1, z2, z3⟩
    rw [List.take_append_drop] at z2
    rw [List.append_nil] at z3
    obtain ⟨u1, u2⟩ := h1.last (by omega) z1 z2
    exact ⟨rfl, Pd ++ Z, u1, u2, z3⟩
theorem Snd.done {w0 w : World} {g : Nat} {A B : List Value} {X : List Int} {k a N : Nat} (h : Snd w0 w g A B X k a) (hmN : N ≤ a + k) (hN : N = X.length) : Thd w0 w g A B X (2 * k) := by
  obtain ⟨Pd, R, h1, g1⟩ := h
  have lX := StEq.length cls_weak h1.st
  rw [List.length_append, h1.le] at lX
  have t1 : Srt clsLt R := ch_all h1.td (by omega)
  by_cases hk : R.length < 2 * k
  · obtain ⟨u1, u2⟩ := h1.last hk t1 (StEq.refl _)
    exact ⟨Pd ++ R, u1, u2, g1⟩
  · have hR : R = [] := List.length_eq_zero_iff.1 (by omega)
    subst hR
    exact ⟨Pd ++ [], by rw [List.append_nil]; exact h1.dn, h1.st, g1⟩
set_option maxHeartbeats 4000000 in
set_option maxRecDepth 100000 in
theorem stable_any (w0 w : World) (g cap N : Nat) (A B : List Value) (X : List Int) (hN : N = X.length) (hbd : N ≤ 1000000000) (S : Seg w0 w g A X B) :
    Calls Tryz.prog 81 #[.slice (some ⟨g, A.length, none⟩) N cap, .int .i64 N, .func (.func 53) #[] #[]] w fun e w' => e = .returned (.tuple #[]) ∧ ∃ Z, Srt clsLt Z ∧ StEq clsLt Z X ∧ Seg w0 w' g A Z B := by
  have mixed := mixedO
  have F0 : Hid (Fst w0 w g A B X 20 0) := hide ⟨[], X, rfl, ⟨0, by simp⟩, ch_nil _, by simpa using StEq.refl X, by simpa using S⟩
  have HN := hide hN
  clear S hN
  go_enter Tryz.func81, Tryz.ntmps81
  go_wp2
  go_loopw [7, 8] (fun av bv wr => ∃ a b : Nat, a ≤ N ∧ Hid (b = a + 20) ∧ av = .int .i64 a ∧ bv = .int .i64 b ∧ Hid (Fst w0 wr g A B X 20 a)) (fun av _ _ => N - (intOf av).toNat)
  case atStart => exact ⟨0, 20, Nat.zero_le _, hide rfl, rfl, rfl, F0⟩
  case round =>
    obtain ⟨a, b, haN, Hb, rfl, rfl, F1⟩ := hrel
    clear F0
    have hb2 : b ≤ 1000000020 := by have := unhide Hb; omega
    by_cases hle : b ≤ N
    · have hle' : (b : Int) ≤ (N : Int) := by omega
      have C := hide ((unhide F1).step (cap := cap) b (unhide Hb) hle (unhide HN) hbd)
      clear F1
      go_wp2_with fail
      refine (unhide C).mono ?_
      rintro e' w2 ⟨rfl, f2⟩
      have F2 := hide f2
      clear f2 C
      go_wp2
      go_roundw
      case rel => exact ⟨b, b + 20, hle, hide rfl, rfl, by go_num, F2⟩
      case measure =>
        have := unhide Hb
        simp [intOf]; omega
    · have hle' : ¬ (b : Int) ≤ (N : Int) := by omega
      have C := hide ((unhide F1).fin (cap := cap) (by have := unhide Hb; omega) (unhide HN) hbd)
      clear F1
      go_wp2_with fail
      refine (unhide C).mono ?_
      rintro e' w2 ⟨rfl, f2⟩
      have F2 := hide f2
      clear f2 C hle hle' hb2 Hb haN
      go_wp2
      go_loopw [6] (fun kv wr => ∃ k : Nat, 20 ≤ k ∧ k ≤ 2000000000 ∧ kv = .int .i64 k ∧ Hid (Thd w0 wr g A B X k)) (fun kv _ => 2000000000 - (intOf kv).toNat)
      case atStart => exact ⟨20, Nat.le_refl _, by omega, rfl, F2⟩
      case round =>
        obtain ⟨k, hk1, hk2, rfl, F3⟩ := hrel
        clear F2
        by_cases hlt : k < N
        · have hlt' : (k : Int) < (N : Int) := by omega
          obtain ⟨k2, hk3⟩ : ∃ k2, k2 = 2 * k := ⟨_, rfl⟩
          have z2 : (2 : Int) * (k : Int) = (k2 : Int) := by omega
          have z3 : (k : Int) * 2 = (k2 : Int) := by omega
          have hk4 : k2 ≤ 2000000000 := by omega
          have hk5 : k < k2 := by omega
          have HK := hide hk3
          have F4 := hide (unhide F3).snd
          clear F3 hk3
          go_wp2
          go_loopw [7, 8] (fun av bv wr2 => ∃ a b : Nat, a ≤ N ∧ Hid (b = a + k2) ∧ av = .int .i64 a ∧ bv = .int .i64 b ∧ Hid (Snd w0 wr2 g A B X k a)) (fun av _ _ => N - (intOf av).toNat)
          case atStart => exact ⟨0, k2, Nat.zero_le _, hide (by omega), rfl, rfl, F4⟩
          case round =>
            obtain ⟨a, b, haN, Hb, rfl, rfl, F5⟩ := hrel
            clear F4
            obtain ⟨m, hm⟩ : ∃ m, m = a + k := ⟨_, rfl⟩
            have zm : (a : Int) + (k : Int) = (m : Int) := by omega
            have hb2 : b ≤ 3000000000 := by have := unhide Hb; omega
            have hm2 : m ≤ 3000000000 := by omega
            have Hm := hide hm
            clear hm
            by_cases hle : b ≤ N
            · have hle' : (b : Int) ≤ (N : Int) := by omega
              have C := hide ((unhide F5).step (cap := cap) m b (unhide Hm) (by have := unhide Hb; have := unhide HK; omega) (by omega) hle (unhide HN) hbd)
              clear F5
              go_wp2_with fail
              refine (unhide C).mono ?_
              rintro e' w2 ⟨rfl, f2⟩
              have F6 := hide f2
              clear f2 C
              go_wp2
              go_roundw
              case rel => exact ⟨b, b + k2, hle, hide rfl, rfl, by go_num, F6⟩
              case measure =>
                have := unhide Hb
                simp [intOf]; omega
            · have hle' : ¬ (b : Int) ≤ (N : Int) := by omega
              by_cases hmN : m < N
              · have hmN' : (m : Int) < (N : Int) := by omega
                have C := hide ((unhide F5).fin (cap := cap) m (unhide Hm) (by omega) (by have := unhide Hb; have := unhide HK; omega) hmN (unhide HN) hbd)
                clear F5
                go_wp2_with fail
                refine (unhide C).mono ?_
                rintro e' w2 ⟨rfl, f2⟩
                have F6 : Hid (Thd w0 w2 g A B X k2) := hide (by rw [unhide HK]; exact f2)
                clear f2 C
                go_wp2
                go_roundw
                case rel => exact ⟨k2, by omega, hk4, rfl, F6⟩
                case measure => simp [intOf]; omega
              · have hmN' : ¬ (m : Int) < (N : Int) := by omega
                have F6 : Hid (Thd w0 wr g A B X k2) := hide (by rw [unhide HK]; exact (unhide F5).done (by have := unhide Hm; omega) (unhide HN))
                clear F5
                go_wp2
                go_roundw
                case rel => exact ⟨k2, by omega, hk4, rfl, F6⟩
                case measure => simp [intOf]; omega
        · have hlt' : ¬ (k : Int) < (N : Int) := by omega
          go_wp2
          go_end0
          exact ⟨rfl, (unhide F3).last (by have := unhide HN; omega)⟩
set_option maxRecDepth 100000 in
/-- slices.SortStableFunc by the class of marks. -/
theorem sortStable_any (w0 w : World) (g cap N : Nat) (A B : List Value) (X : List Int) (hN : N = X.length) (hbd : N ≤ 1000000000) (S : Seg w0 w g A X B) :
    Calls Tryz.prog 56 #[.slice (some ⟨g, A.length, none⟩) N cap, .func (.func 53) #[] #[]] w fun e w' => e = .returned (.tuple #[]) ∧ ∃ Z, Srt clsLt Z ∧ StEq clsLt Z X ∧ Seg w0 w' g A Z B := by
  have mixed := mixedO
  have C := hide (stable_any w0 w g cap N A B X hN hbd S)
  clear S hN
  go_enter Tryz.func56, Tryz.ntmps56
  go_wp2_with fail
  refine (unhide C).mono ?_
  rintro e' w2 ⟨rfl, f2⟩
  have F2 := hide f2
  clear f2 C
  go_wp2
  go_end0
  exact ⟨rfl, unhide F2⟩
end Go.Proofs.YtamigjljgepfiaaGreatDoor
/- orderMarks. -/
namespace Go.Proofs.YtamigjljgepfiaaGreatDoor
open Go.RowKit
theorem OSt.sort {w0 w : World} {g : Nat} {A B : List Value} {L : List Int} {f i : Nat} (h : OSt w0 w g A B L f i) (n cap o : Nat) (hn : n = i - f) (ho : o = A.length + f) (hbd : n ≤ 1000000000) (hi : i < L.length) (hz : clsZ (nth L i) = 0) :
    Calls Tryz.prog 56 #[.slice (some ⟨g, o, none⟩) n cap, .func (.func 53) #[] #[]] w fun e w' => e = .returned (.tuple #[]) ∧ OSt w0 w' g A B L (i + 1) (i + 1) := by
  obtain ⟨D, Y, R, e, l1, l2, hs, hY, s⟩ := h
  rw [List.length_append] at l2
  match R, e, s with
  | [], e, _ => rw [e, List.append_nil, List.length_append] at hi; omega
  | x :: R, e, s =>
    rw [e, nth_at _ _ _ _ (by rw [List.length_append]; omega)] at hz
    have ea : o = (A ++ (ordL D).map (Value.int .i64)).length := by rw [List.length_append, List.length_map, ordL_len]; omega
    rw [ea]
    refine (sortStable_any w0 w g cap n _ _ Y (by omega) hbd s.within).mono ?_
    rintro e' w' ⟨rfl, Z, z1, z2, z3⟩
    have hd := ord_done hs hY z1 z2
    have hx := ord_zero (D ++ Y) hz
    rw [hd] at hx
    refine ⟨rfl, D ++ Y ++ [x], [], R, by rw [e]; simp, ?_, ?_, .inr ⟨ordL D ++ Z, x, hx, hz⟩, by simp, ?_⟩
    · simp; omega
    · simp; omega
    · have := z3.whole
      rw [hx]
      simpa [List.append_assoc] using this
theorem OSt.last {w0 w : World} {g : Nat} {A B : List Value} {L : List Int} {f i : Nat} (h : OSt w0 w g A B L f i) (n cap o : Nat) (hn : n = i - f) (ho : o = A.length + f) (hbd : n ≤ 1000000000) (hi : i = L.length) :
    Calls Tryz.prog 56 #[.slice (some ⟨g, o, none⟩) n cap, .func (.func 53) #[] #[]] w fun e w' => e = .returned (.tuple #[]) ∧ Seg w0 w' g A (ordL L) B := by
  obtain ⟨D, Y, R, e, l1, l2, hs, hY, s⟩ := h
  rw [List.length_append] at l2
  rw [e] at hi
  simp only [List.length_append] at hi
  obtain rfl : R = [] := List.length_eq_zero_iff.1 (by omega)
  have ea : o = (A ++ (ordL D).map (Value.int .i64)).length := by rw [List.length_append, List.length_map, ordL_len]; omega
  rw [ea]
  refine (sortStable_any w0 w g cap n _ _ Y (by omega) hbd s.within).mono ?_
  rintro e' w' ⟨rfl, Z, z1, z2, z3⟩
  have hd := ord_done hs hY z1 z2
  refine ⟨rfl, ?_⟩
  rw [e, List.append_nil, hd]
  simpa using z3.whole
theorem insNone (b : Option Addr) (cap : Nat) (w : World) : Calls Tryz.prog 105 #[.slice b 0 cap, .int .i64 0, .int .i64 0, .func (.func 53) #[] #[]] w fun e w' => e = .returned (.tuple #[]) ∧ w' = w := by
  go_enter Tryz.func105, Tryz.ntmps105
  go_wp2
  go_loopw [8] (fun iv wr => iv = .int .i64 1 ∧ wr = w) (fun _ _ => 0)
  case atStart => exact ⟨rfl, rfl⟩
  case round =>
    obtain ⟨rfl, rfl⟩ := hrel
    go_wp2
    go_end0
    exact ⟨rfl, rfl⟩
theorem stableNone (b : Option Addr) (cap : Nat) (w : World) : Calls Tryz.prog 81 #[.slice b 0 cap, .int .i64 0, .func (.func 53) #[] #[]] w fun e w' => e = .returned (.tuple #[]) ∧ w' = w := by
  have C := hide (insNone b cap w)
  go_enter Tryz.func81, Tryz.ntmps81
  go_wp2
  go_loopw [7, 8] (fun av bv wr => av = .int .i64 0 ∧ bv = .int .i64 20 ∧ wr = w) (fun _ _ _ => 0)
  case atStart => exact ⟨rfl, rfl, rfl⟩
  case round =>
    obtain ⟨rfl, rfl, rfl⟩ := hrel
    go_wp2_with fail
    refine (unhide C).mono ?_
    rintro e' w2 ⟨rfl, rfl⟩
    clear C
    go_wp2
    go_loopw [6] (fun kv wr2 => kv = .int .i64 20 ∧ wr2 = w2) (fun _ _ => 0)
    case atStart => exact ⟨rfl, rfl⟩
    case round =>
      obtain ⟨rfl, rfl⟩ := hrel
      go_wp2
      go_end0
      exact ⟨rfl, rfl⟩
theorem sortNone (b : Option Addr) (cap : Nat) (w : World) : Calls Tryz.prog 56 #[.slice b 0 cap, .func (.func 53) #[] #[]] w fun e w' => e = .returned (.tuple #[]) ∧ w' = w := by
  have C := hide (stableNone b cap w)
  go_enter Tryz.func56, Tryz.ntmps56
  go_wp2_with fail
  refine (unhide C).mono ?_
  rintro e' w2 ⟨rfl, rfl⟩
  clear C
  go_wp2
  go_end0
  exact ⟨rfl, rfl⟩
set_option maxHeartbeats 4000000 in
set_option maxRecDepth 100000 in
theorem orderMarks_any (w0 w : World) (g cap N : Nat) (A B : List Value) (L : List Int) (hN : N = L.length) (hbd : N ≤ 1000000000) (hcap : N ≤ cap) (hcb : cap ≤ 9223372036854775807) (S : Seg w0 w g A L B) :
    Calls Tryz.prog 29 #[.slice (some ⟨g, A.length, none⟩) N cap] w fun e w' => e = .returned (.tuple #[]) ∧ Seg w0 w' g A (ordL L) B := by
  have mixed := mixedO
  have I0 := hide (OSt.start S)
  have HN := hide hN
  clear S hN
  go_enter Tryz.func29, Tryz.ntmps29
  go_wp2
  go_loopw [3, 8] (fun fv iv wr => ∃ f i : Nat, f ≤ i ∧ i ≤ N ∧ fv = .int .i64 f ∧ iv = .int .i64 i ∧ Hid (OSt w0 wr g A B L f i)) (fun _ iv _ => N - (intOf iv).toNat)
  case atStart => exact ⟨0, 0, Nat.le_refl _, Nat.zero_le _, rfl, rfl, I0⟩
  case round =>
    obtain ⟨f, i, hfi, hiN, rfl, rfl, I1⟩ := hrel
    clear I0
    by_cases hlt : i < N
    · have hlt' : (i : Int) < (N : Int) := by omega
      have hiL : i < L.length := by have := unhide HN; omega
      have c := (unhide I1).cell hiL
      have CM := hide (fun W => markI (nth L i) W)
      by_cases hz : clsZ (nth L i) = 0
      · rw [hz] at CM
        have C := hide ((unhide I1).sort (i - f) (cap - f) (A.length + f) rfl rfl (by omega) hiL hz)
        clear I1 hz hiL
        generalize nth L i = x at *
        go_wp2_with fail
        refine ((unhide CM) _).mono ?_
        rintro e' w2 ⟨rfl, rfl⟩
        clear CM
        go_wp2_with fail
        refine (unhide C).mono ?_
        rintro e' w3 ⟨rfl, f2⟩
        have F2 := hide f2
        clear f2 C c
        go_wp2
        go_roundw
        case rel => exact ⟨i + 1, i + 1, Nat.le_refl _, hlt, by go_num, by go_num, F2⟩
        case measure => simp [intOf]; omega
      · have F2 := hide ((unhide I1).mark hiL hz)
        have hz' : (clsZ (nth L i) == 0) = false := by rw [beq_eq_false_iff_ne]; exact hz
        clear I1 hz hiL
        generalize clsZ (nth L i) = z at *
        generalize nth L i = x at *
        go_wp2_with fail
        refine ((unhide CM) _).mono ?_
        rintro e' w2 ⟨rfl, rfl⟩
        clear CM c
        go_wp2
        go_roundw
        case rel => exact ⟨f, i + 1, by omega, hlt, rfl, by go_num, F2⟩
        case measure => simp [intOf]; omega
    · have hlt' : ¬ (i : Int) < (N : Int) := by omega
      obtain rfl : i = N := by omega
      by_cases hf : f = i
      · have F2 := hide ((unhide I1).fin (unhide HN) hf)
        have C := hide (fun b cap => sortNone b cap wr)
        subst hf
        clear I1
        by_cases hc : cap = f
        · subst hc
          go_wp2_with fail
          refine ((unhide C) _ _).mono ?_
          rintro e' w3 ⟨rfl, rfl⟩
          go_wp2
          go_end0
          exact ⟨rfl, unhide F2⟩
        · go_wp2_with fail
          refine ((unhide C) _ _).mono ?_
          rintro e' w3 ⟨rfl, rfl⟩
          go_wp2
          go_end0
          exact ⟨rfl, unhide F2⟩
      · have hc : ¬ cap = f := by omega
        have C := hide ((unhide I1).last (i - f) (cap - f) (A.length + f) rfl rfl (by omega) (unhide HN))
        clear I1
        go_wp2_with fail
        refine (unhide C).mono ?_
        rintro e' w3 ⟨rfl, f2⟩
        have F2 := hide f2
        clear f2 C
        go_wp2
        go_end0
        exact ⟨rfl, unhide F2⟩
set_option maxRecDepth 100000 in
theorem orderNone (b : Option Addr) (cap : Nat) (w : World) : Calls Tryz.prog 29 #[.slice b 0 cap] w fun e w' => e = .returned (.tuple #[]) ∧ w' = w := by
  have C := hide (fun b cap => sortNone b cap w)
  go_enter Tryz.func29, Tryz.ntmps29
  go_wp2
  go_loopw [3, 8] (fun fv iv wr => fv = .int .i64 0 ∧ iv = .int .i64 0 ∧ wr = w) (fun _ _ _ => 0)
  case atStart => exact ⟨rfl, rfl, rfl⟩
  case round =>
    obtain ⟨rfl, rfl, rfl⟩ := hrel
    by_cases hc : cap = 0
    · subst hc
      go_wp2_with fail
      refine ((unhide C) _ _).mono ?_
      rintro e' w3 ⟨rfl, rfl⟩
      go_wp2
      go_end0
      exact ⟨rfl, rfl⟩
    · go_wp2_with fail
      refine ((unhide C) _ _).mono ?_
      rintro e' w3 ⟨rfl, rfl⟩
      go_wp2
      go_end0
      exact ⟨rfl, rfl⟩
end Go.Proofs.YtamigjljgepfiaaGreatDoor
