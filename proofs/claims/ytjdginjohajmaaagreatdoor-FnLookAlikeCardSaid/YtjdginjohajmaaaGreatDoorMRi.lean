/- Several texts in one. -/
import Derived.Test.YtjdginjohajmaaaGreatDoorScrK
import Derived.Test.YtjdginjohajmaaaGreatDoorMA
import Derived.WalkKit
import Derived.BigQuiet
import Derived.Deep.QuietTactic
import Derived.Shelf.RegionOpenPlain
import Derived.Lib.SliceRun
import Derived.Test.YtjdginjohajmaaaGreatDoorNPointsI
import Derived.Test.YtjdginjohajmaaaGreatDoorAppG
import Derived.Test.YtjdginjohajmaaaGreatDoorShelfS
import Derived.Lib.SlKeysI
import Derived.Shelf.SortM.SortNone
import Derived.Test.YtjdginjohajmaaaGreatDoorNPts
import Derived.Test.YtjdginjohajmaaaGreatDoorMarksA
/- Numbers in rising order, each once: put one by one into their places, or sorted and each kept once. Pure. -/
namespace Go.Proofs.YtjdginjohajmaaaGreatDoor.Ris
open Go.RowKit
set_option linter.unusedVariables false
def cpt (a : Int) : List Int → List Int
  | [] => []
  | x :: l => if x = a then cpt a l else x :: cpt x l
def cmp (L : List Int) : List Int := match L with | [] => [] | x :: l => x :: cpt x l
theorem cpt_ok (l : List Int) : ∀ a : Int, (a :: l).Pairwise (· ≤ ·) → (a :: cpt a l).Pairwise (· < ·) ∧ ∀ y, y ∈ a :: cpt a l ↔ y ∈ a :: l := by
  induction l with
  | nil => intro a _; exact ⟨by simp [cpt], fun y => by simp [cpt]⟩
  | cons x l ih =>
    intro a h
    rw [List.pairwise_cons] at h
    unfold cpt
    by_cases e : x = a
    · rw [if_pos e]
      obtain ⟨h1, h2⟩ := ih a (by rw [← e]; exact h.2)
      refine ⟨h1, fun y => ?_⟩
      rw [h2]
      simp [e]
    · rw [if_neg e]
      obtain ⟨h1, h2⟩ := ih x h.2
      refine ⟨?_, fun y => ?_⟩
      · rw [List.pairwise_cons]
        refine ⟨fun b hb => ?_, h1⟩
        have hxa := h.1 x (by simp)
        rcases List.mem_cons.1 hb with rfl | hb'
        · omega
        · have := (List.pairwise_cons.1 h1).1 b hb'
          omega
      · rw [List.mem_cons, h2, List.mem_cons (a := y) (b := a)]
theorem cmp_ok (L : List Int) (h : L.Pairwise (· ≤ ·)) : (cmp L).Pairwise (· < ·) ∧ ∀ y, y ∈ cmp L ↔ y ∈ L := by
  cases L with
  | nil => exact ⟨List.Pairwise.nil, fun y => Iff.rfl⟩
  | cons x l => exact cpt_ok l x h
theorem rise_one : ∀ {a b : List Int}, a.Pairwise (· < ·) → b.Pairwise (· < ·) → (∀ y, y ∈ a ↔ y ∈ b) → a = b
  | [], [], _, _, _ => rfl
  | [], y :: b, _, _, h => by have := (h y).2 (by simp); simp at this
  | x :: a, [], _, _, h => by have := (h x).1 (by simp); simp at this
  | x :: a, y :: b, ha, hb, h => by
    rw [List.pairwise_cons] at ha hb
    have e : x = y := by
      have h1 := (h x).1 (by simp)
      have h2 := (h y).2 (by simp)
      rcases List.mem_cons.1 h1 with h1 | h1
      · exact h1
      · rcases List.mem_cons.1 h2 with h2 | h2
        · exact h2.symm
        · have := ha.1 y h2
          have := hb.1 x h1
          omega
    subst e
    rw [rise_one ha.2 hb.2 (fun z => ?_)]
    constructor
    · intro hz
      have := (h z).1 (by simp [hz])
      rcases List.mem_cons.1 this with rfl | h'
      · have := ha.1 z hz
        omega
      · exact h'
    · intro hz
      have := (h z).2 (by simp [hz])
      rcases List.mem_cons.1 this with rfl | h'
      · have := hb.1 z hz
        omega
      · exact h'

/-- A number put into a rising list. -/
def put : List Int → Int → List Int
  | [], n => [n]
  | a :: l, n => if a < n then a :: put l n else if a = n then a :: l else n :: a :: l
theorem put_mem (n y : Int) : ∀ l : List Int, y ∈ put l n ↔ y = n ∨ y ∈ l
  | [] => by simp [put]
  | a :: l => by
    have ih := put_mem n y l
    unfold put
    split
    · simp only [List.mem_cons, ih]
      constructor
      · rintro (h | h | h)
        · exact .inr (.inl h)
        · exact .inl h
        · exact .inr (.inr h)
      · rintro (h | h | h)
        · exact .inr (.inl h)
        · exact .inl h
        · exact .inr (.inr h)
    · split
      · rename_i h1 h2
        subst h2
        simp only [List.mem_cons]
        constructor
        · exact fun h => .inr h
        · rintro (h | h)
          · exact .inl h
          · exact h
      · simp only [List.mem_cons]
theorem put_rise (n : Int) : ∀ l : List Int, l.Pairwise (· < ·) → (put l n).Pairwise (· < ·)
  | [], _ => by simp [put]
  | a :: l, h => by
    rw [List.pairwise_cons] at h
    unfold put
    split
    · rename_i c
      rw [List.pairwise_cons]
      refine ⟨fun y hy => ?_, put_rise n l h.2⟩
      rcases (put_mem n y l).1 hy with rfl | hy
      · exact c
      · exact h.1 y hy
    · split
      · exact List.pairwise_cons.2 h
      · rename_i c d
        rw [List.pairwise_cons]
        refine ⟨fun y hy => ?_, List.pairwise_cons.2 h⟩
        rcases List.mem_cons.1 hy with rfl | hy
        · omega
        · have := h.1 y hy
          omega
/-- All numbers of a row, put one by one. -/
def all (T : List Int) : List Int := T.foldl put []
theorem foldl_ok (T : List Int) : ∀ acc : List Int, acc.Pairwise (· < ·) → (T.foldl put acc).Pairwise (· < ·) ∧ ∀ y, y ∈ T.foldl put acc ↔ y ∈ acc ∨ y ∈ T := by
  induction T with
  | nil => intro acc h; exact ⟨h, fun y => by simp⟩
  | cons a T ih =>
    intro acc h
    obtain ⟨h1, h2⟩ := ih (put acc a) (put_rise a acc h)
    refine ⟨h1, fun y => ?_⟩
    show y ∈ T.foldl put (put acc a) ↔ _
    rw [h2 y, put_mem, List.mem_cons]
    constructor
    · rintro ((h | h) | h)
      · exact .inr (.inl h)
      · exact .inl h
      · exact .inr (.inr h)
    · rintro (h | h | h)
      · exact .inl (.inr h)
      · exact .inl (.inl h)
      · exact .inr h
theorem all_ok (T : List Int) : (all T).Pairwise (· < ·) ∧ ∀ y, y ∈ all T ↔ y ∈ T := by
  obtain ⟨h1, h2⟩ := foldl_ok T [] List.Pairwise.nil
  exact ⟨h1, fun y => by rw [show all T = T.foldl put [] from rfl, h2 y]; simp⟩
def srt (T : List Int) : List Int := T.mergeSort fun x y => decide (x ≤ y)
theorem srt_ok (T : List Int) : (srt T).Pairwise (· ≤ ·) ∧ (srt T).length = T.length ∧ ∀ y, y ∈ srt T ↔ y ∈ T := by
  refine ⟨?_, List.length_mergeSort _, fun y => List.mem_mergeSort⟩
  have := List.pairwise_mergeSort (le := fun x y : Int => decide (x ≤ y)) (fun a b c h1 h2 => by simp at *; omega) (fun a b => by simp; omega) T
  exact this.imp (fun h => by simpa using h)
/-- Sorted and each kept once: the same. -/
theorem all_eq (T : List Int) : cmp (srt T) = all T := by
  obtain ⟨h1, h2, h3⟩ := srt_ok T
  obtain ⟨h4, h5⟩ := cmp_ok _ h1
  obtain ⟨h6, h7⟩ := all_ok T
  exact rise_one h4 h6 (fun y => by rw [h5 y, h3 y, h7 y])
theorem all_snoc (T : List Int) (x : Int) : all (T ++ [x]) = put (all T) x := by
  unfold all
  rw [List.foldl_append]
  rfl
/-- The place of a number: how many are below. -/
theorem put_at (n : Int) (l : List Int) (k : Nat) (hk : k ≤ l.length) (h1 : ∀ i, i < k → nth l i < n) (h2 : k = l.length ∨ n ≤ nth l k) :
    put l n = if k < l.length ∧ nth l k = n then l else l.take k ++ n :: l.drop k := by
  induction l generalizing k with
  | nil =>
    have : k = 0 := by simpa using hk
    subst this
    rw [if_neg (by simp)]
    rfl
  | cons a l ih =>
    match k with
    | 0 =>
      have e : nth (a :: l) 0 = a := rfl
      rw [e] at h2 ⊢
      have h3 : n ≤ a := by
        rcases h2 with h2 | h2
        · simp at h2
        · exact h2
      unfold put
      rw [if_neg (by omega)]
      by_cases c : a = n
      · rw [if_pos c, if_pos ⟨by simp, c⟩]
      · rw [if_neg c, if_neg (fun g => c g.2)]
        rfl
    | k + 1 =>
      have e : ∀ j, nth (a :: l) (j + 1) = nth l j := fun j => rfl
      have h0 := h1 0 (by omega)
      have e0 : nth (a :: l) 0 = a := rfl
      rw [e0] at h0
      have := ih k (by simpa using hk) (fun i hi => by have := h1 (i + 1) (by omega); rwa [e] at this) (by rw [e] at h2; simpa using h2)
      unfold put
      rw [if_pos h0, this, e]
      by_cases c : k < l.length ∧ nth l k = n
      · rw [if_pos c, if_pos ⟨by simpa using c.1, c.2⟩]
      · rw [if_neg c, if_neg (fun g => c ⟨by simpa using g.1, g.2⟩)]
        rfl
theorem all_len (T : List Int) : (all T).length ≤ T.length := by
  have h : ∀ (T acc : List Int), (T.foldl put acc).length ≤ acc.length + T.length := by
    intro T
    induction T with
    | nil => intro acc; simp
    | cons a T ih =>
      intro acc
      have h1 := ih (put acc a)
      have h2 : (put acc a).length ≤ acc.length + 1 := by
        have g : ∀ l : List Int, (put l a).length ≤ l.length + 1 := by
          intro l
          induction l with
          | nil => simp [put]
          | cons b l ih2 =>
            unfold put
            split
            · simp; exact ih2
            · split <;> simp
        exact g acc
      simp only [List.foldl_cons, List.length_cons]
      omega
  have := h T []
  unfold all
  simpa using this
/-- A letter. -/
def let1 (p : Int) : Bool := (catI p == 4 || catI p == 5 || catI p == 6) || catI p == 7
def dgt1 (p : Int) : Bool := catI p == 8
theorem cat_eq (p : Int) : (known p).1 = catI p := (fine p).1.symm
def sysI (p : Int) : Int := if 0 < scr p then scr p - 1 else if p < 10016 then 0 else 6
def sysS (p : Int) : Int := if p < 512 then 0 else if p < 1792 then p / 256 - 1 else 6
theorem rows_let : (spc.all fun r => !(decide (4 ≤ r.2.2.1 ∧ r.2.2.1 ≤ 7)) || decide (0 < r.2.2.2)) = true := by decide +kernel
theorem rows_dig : (spc.all fun r => !(decide (r.2.2.1 = 8)) || (decide (0 < r.2.2.2 ∧ 512 ≤ r.1 ∧ r.2.1 < 1792 ∧ r.1 / 256 = r.2.2.2 ∧ r.2.1 / 256 = r.2.2.2) || (decide (r.2.2.2 = 7 ∧ 1792 ≤ r.1) || (decide (r.2.2.2 = 0 ∧ r.2.1 < 512) || decide (r.2.2.2 = 0 ∧ 10016 ≤ r.1))))) = true := by decide +kernel
/-- No letter has script 0. -/
theorem let_scr (p : Int) (h : let1 p = true) : 0 < scr p := by
  have hc : 4 ≤ (known p).1 ∧ (known p).1 ≤ 7 := by
    rw [cat_eq]
    unfold let1 at h
    simp at h
    omega
  unfold scr
  unfold known at hc ⊢
  split
  · rename_i g
    rw [if_pos g] at hc
    split
    · rename_i g2
      rw [if_pos g2] at hc
      simp at hc
    · show 0 < p / 256
      omega
  · rename_i g
    rw [if_neg g] at hc
    split
    · rename_i g2
      rw [if_pos g2] at hc
      split
      · rename_i g3
        rw [if_pos g3] at hc
        simp at hc
      · split <;> decide
    · rename_i g2
      rw [if_neg g2] at hc
      rcases find_row spc p with e | ⟨r, hr, _, _, e⟩
      · rw [e] at hc
        exact absurd hc (by decide)
      · rw [e] at hc ⊢
        have := List.all_eq_true.1 rows_let r hr
        simp at this
        have h1 : 4 ≤ r.2.2.1 := hc.1
        have h2 : r.2.2.1 ≤ 7 := hc.2
        show 0 < r.2.2.2
        omega
/-- The systems of digits are one. -/
theorem sys_eq (p : Int) (h : dgt1 p = true) : sysI p = sysS p := by
  have hc : (known p).1 = 8 := by
    rw [cat_eq]
    unfold dgt1 at h
    simpa using h
  unfold sysI sysS scr
  unfold known at hc ⊢
  by_cases g : 512 ≤ p ∧ p < 1280
  · rw [if_pos g] at hc ⊢
    split
    · rename_i g2
      rw [if_pos g2] at hc
      simp at hc
    · show (if 0 < p / 256 then p / 256 - 1 else _) = _
      rw [if_pos (by omega), if_neg (by omega), if_pos (by omega)]
  · rw [if_neg g] at hc ⊢
    by_cases g2 : 8192 ≤ p ∧ p < 9728
    · rw [if_pos g2] at hc
      split at hc
      · simp at hc
      · split at hc <;> simp at hc
    · rw [if_neg g2] at hc ⊢
      rcases find_row spc p with e | ⟨r, hr, h1, h2, e⟩
      · rw [e] at hc
        exact absurd hc (by decide)
      · rw [e] at hc ⊢
        have := List.all_eq_true.1 rows_dig r hr
        simp at this
        show (if 0 < r.2.2.2 then r.2.2.2 - 1 else _) = _
        have hc' : r.2.2.1 = 8 := hc
        rcases (by rcases this with g | g; exact absurd hc' g; exact g : _ ∨ _ ∨ _ ∨ _) with ⟨a1, a2, a3, a4, a5⟩ | ⟨a1, a2⟩ | ⟨a1, a2⟩ | ⟨a1, a2⟩
        · rw [if_pos a1, if_neg (by omega), if_pos (by omega)]
          omega
        · rw [if_pos (by omega), if_neg (by omega), if_neg (by omega)]
          omega
        · rw [if_neg (by omega), if_pos (by omega), if_pos (by omega)]
        · rw [if_neg (by omega), if_neg (by omega), if_neg (by omega), if_neg (by omega)]
/-- What is told of the first k points. -/
def tld (ask : Int → Bool) (tel : Int → Int) (L : List Int) (k : Nat) : List Int := ((L.take k).filter ask).map tel
theorem tk (L : List Int) (k : Nat) (h : k < L.length) : L.take (k + 1) = L.take k ++ [nth L k] := by
  rw [List.take_succ_eq_append_getElem h]
  unfold nth
  rw [List.getD_eq_getElem?_getD, List.getElem?_eq_getElem h]
  rfl
theorem tld_yes {ask : Int → Bool} {tel : Int → Int} {L : List Int} {k : Nat} (h : k < L.length) (ha : ask (nth L k) = true) : tld ask tel L (k + 1) = tld ask tel L k ++ [tel (nth L k)] := by
  unfold tld
  rw [tk L k h, List.filter_append, List.map_append]
  simp [ha]
theorem tld_no {ask : Int → Bool} {tel : Int → Int} {L : List Int} {k : Nat} (h : k < L.length) (ha : ask (nth L k) = false) : tld ask tel L (k + 1) = tld ask tel L k := by
  unfold tld
  rw [tk L k h, List.filter_append, List.map_append]
  simp [ha]
theorem tld_len (ask : Int → Bool) (tel : Int → Int) (L : List Int) (k : Nat) : (tld ask tel L k).length ≤ L.length := by
  unfold tld
  rw [List.length_map]
  exact Nat.le_trans (List.length_filter_le _ _) (by rw [List.length_take]; omega)
theorem tld_sys (L : List Int) (k : Nat) : tld dgt1 sysI L k = tld dgt1 sysS L k := by
  unfold tld
  apply List.map_congr_left
  intro x hx
  exact sys_eq x (List.mem_filter.1 hx).2
end Go.Proofs.YtjdginjohajmaaaGreatDoor.Ris
/- slices.Compact of a row of the call's own, of any number of items. -/
namespace Go.Proofs.YtjdginjohajmaaaGreatDoor.Ris
open Go.RowKit
set_option linter.unusedVariables false
abbrev nthC (l : List Int) (i : Nat) : Int := l.getD i 0
theorem ownsRow_atC {w w' : World} {B : Nat} {e : TypeId} {s : Nat} {v : Value} {n : Nat} {xs : List Value} (h : w.ownsRow B e s v n xs) (hs : ∀ k, v.ownBlock = some k → w'.heap[k]? = w.heap[k]?) : w'.ownsRow B e s v n xs := by
  refine ⟨h.1, ?_⟩
  rcases h.2 with h' | ⟨g, cap, cur, rfl, r1, r2, r3⟩
  · exact .inl h'
  · exact .inr ⟨g, cap, cur, rfl, r1, (hs g rfl).trans r2, r3⟩
theorem grown_reflC (w : World) (r : Option Nat) : w.grownBy w r := ⟨rfl, rfl, rfl, Nat.le_refl _, fun _ _ _ => rfl⟩
theorem grown_setC {w w' : World} {g j : Nat} {u : Value} (h : w.grownBy w' (some g)) : w.grownBy (w'.setCell ⟨g, j, none⟩ u) (some g) :=
  ⟨h.os, h.tape, h.output, by simp; exact h.size, fun k hk hne => (heap_setCell_other w' ⟨g, j, none⟩ k u (fun e => hne (by rw [e]))).trans (h.block k hk hne)⟩
/-- A row of numbers of the call's own at the block g; nothing else has changed. -/
structure Rw (w0 w : World) (B g n cap : Nat) (O : List Int) : Prop where
  ow : w.ownsRow B 2 1 (.slice (some ⟨g, 0, none⟩) n cap) n (O.map (Value.int .i64))
  gr : w0.grownBy w (some g)
theorem Rw.len {w0 w : World} {B g n cap : Nat} {O : List Int} (h : Rw w0 w B g n cap O) : O.length = n := by have := h.ow.1; simpa using this
theorem Rw.cell {w0 w : World} {B g n cap : Nat} {O : List Int} (h : Rw w0 w B g n cap O) (i : Nat) (hi : i < n) : w.cell? ⟨g, i, none⟩ = some (.int .i64 (nthC O i)) := by
  have c := h.ow.cellAt i (by omega)
  have e := h.len
  rw [c, List.getElem?_map]
  simp [nthC, List.getD, e, hi]
theorem Rw.frozen {w0 w : World} {B g n cap : Nat} {O : List Int} (h : Rw w0 w B g n cap O) (i : Nat) : w.frozen? ⟨g, i, none⟩ = false := h.ow.frozenAt i
theorem Rw.set {w0 w : World} {B g n cap : Nat} {O : List Int} (h : Rw w0 w B g n cap O) (i : Nat) (x : Int) : Rw w0 (w.setCell ⟨g, i, none⟩ (.int .i64 x)) B g n cap (O.set i x) := by
  refine ⟨?_, grown_setC h.gr⟩
  rw [List.map_set]
  exact (h.ow.stored i (.int .i64 x)).1
theorem Rw.drewN {w0 w : World} {B g n cap : Nat} {O : List Int} (h : Rw w0 w B g n cap O) (m : Nat) : Rw w0 (w.drewN m) B g n cap O :=
  ⟨ownsRow_atC h.ow (fun _ _ => rfl), h.gr.trans ⟨rfl, rfl, rfl, Nat.le_refl _, fun _ _ _ => rfl⟩⟩
theorem Rw.drew {w0 w : World} {B g n cap : Nat} {O : List Int} (h : Rw w0 w B g n cap O) : Rw w0 w.drew B g n cap O :=
  ⟨ownsRow_atC h.ow (fun _ _ => rfl), h.gr.trans ⟨rfl, rfl, rfl, Nat.le_refl _, fun _ _ _ => rfl⟩⟩
theorem nthC_app (P Q : List Int) (x : Int) (i : Nat) (h : i = P.length) : nthC (P ++ x :: Q) i = x := by
  subst h
  simp [nthC, List.getD]
theorem wrapC (x : Int) (h0 : -9223372036854775808 ≤ x) (h1 : x ≤ 9223372036854775807) : IntKind.i64.wrap x = x := by
  simp [IntKind.wrap, IntKind.signed, IntKind.bits]; omega
theorem mixedC : Tryz.prog.follows Departure.mixedOrders = true := by kernel_rfl
/-- The first k of a row without what comes twice side by side. -/
def cmk (L : List Int) : Nat → List Int
  | 0 => []
  | k + 1 => if 0 < k ∧ L.getD k 0 = L.getD (k - 1) 0 then cmk L k else cmk L k ++ [L.getD k 0]
theorem cmk_dup {L : List Int} {k : Nat} (h0 : 0 < k) (h : L.getD k 0 = L.getD (k - 1) 0) : cmk L (k + 1) = cmk L k := if_pos ⟨h0, h⟩
theorem cmk_new {L : List Int} {k : Nat} (h : L.getD k 0 ≠ L.getD (k - 1) 0) : cmk L (k + 1) = cmk L k ++ [L.getD k 0] := if_neg (fun e => h e.2)
theorem cmk_one (L : List Int) : cmk L 1 = [L.getD 0 0] := by simp [cmk]
theorem cmk_le (L : List Int) : ∀ k, (cmk L k).length ≤ k
  | 0 => Nat.le_refl _
  | k + 1 => by
    have ih := cmk_le L k
    unfold cmk
    split
    · omega
    · simp; omega
theorem take_snoc (L : List Int) (k : Nat) (h : k < L.length) : L.take (k + 1) = L.take k ++ [L.getD k 0] := by
  rw [List.take_add_one]
  simp [List.getD, h]
theorem cmk_ok {L : List Int} (hs : L.Pairwise (· ≤ ·)) : ∀ k, k ≤ L.length → (cmk L k).Pairwise (· < ·) ∧ ∀ y, y ∈ cmk L k ↔ y ∈ L.take k
  | 0, _ => ⟨List.Pairwise.nil, fun y => by simp [cmk]⟩
  | k + 1, hk => by
    obtain ⟨h1, h2⟩ := cmk_ok hs k (by omega)
    have hup : ∀ y ∈ L.take k, y ≤ L.getD k 0 ∧ (0 < k → y ≤ L.getD (k - 1) 0) := fun y hy => by
      obtain ⟨i, hi, rfl⟩ := List.mem_iff_getElem.1 hy
      simp only [List.length_take] at hi
      rw [List.getElem_take]
      refine ⟨?_, fun hk0 => ?_⟩
      · have := List.pairwise_iff_getElem.1 hs i k (by omega) (by omega) (by omega)
        simpa [List.getD, show k < L.length by omega] using this
      · by_cases e : i = k - 1
        · subst e
          simp [List.getD, show k - 1 < L.length by omega]
        · have := List.pairwise_iff_getElem.1 hs i (k - 1) (by omega) (by omega) (by omega)
          simpa [List.getD, show k - 1 < L.length by omega] using this
    rw [take_snoc L k (by omega)]
    by_cases h : 0 < k ∧ L.getD k 0 = L.getD (k - 1) 0
    · rw [cmk_dup h.1 h.2]
      refine ⟨h1, fun y => ?_⟩
      rw [h2, List.mem_append, List.mem_singleton]
      constructor
      · exact fun h => .inl h
      · rintro (h' | rfl)
        · exact h'
        · rw [h.2]
          have e : L.take k = L.take (k - 1) ++ [L.getD (k - 1) 0] := by
            have := take_snoc L (k - 1) (by omega)
            rwa [show k - 1 + 1 = k by omega] at this
          rw [e]
          simp
    · have e : cmk L (k + 1) = cmk L k ++ [L.getD k 0] := if_neg h
      rw [e]
      refine ⟨?_, fun y => ?_⟩
      · rw [List.pairwise_append]
        refine ⟨h1, by simp, fun a ha b hb => ?_⟩
        rw [List.mem_singleton] at hb
        subst hb
        have ha' := (h2 a).1 ha
        obtain ⟨u1, u2⟩ := hup a ha'
        have hk0 : 0 < k := by
          cases k with
          | zero => simp at ha'
          | succ k => omega
        have u3 := u2 hk0
        have hne : L.getD k 0 ≠ L.getD (k - 1) 0 := fun e => h ⟨hk0, e⟩
        have u4 : L.getD (k - 1) 0 ≤ L.getD k 0 := (hup (L.getD (k - 1) 0) (by
          have e : L.take k = L.take (k - 1) ++ [L.getD (k - 1) 0] := by
            have := take_snoc L (k - 1) (by omega)
            rwa [show k - 1 + 1 = k by omega] at this
          rw [e]; simp)).1
        omega
      · rw [List.mem_append, List.mem_append, h2]
theorem cmk_cmp {L : List Int} (hs : L.Pairwise (· ≤ ·)) : cmk L L.length = cmp L := by
  obtain ⟨h1, h2⟩ := cmk_ok hs L.length (Nat.le_refl _)
  obtain ⟨c1, c2⟩ := cmp_ok L hs
  refine rise_one h1 c1 fun y => ?_
  rw [h2, c2, List.take_length]
theorem Rw.capLe {w0 w : World} {B g n cap : Nat} {O : List Int} (h : Rw w0 w B g n cap O) : n ≤ cap ∧ cap ≤ maxLen := by
  rcases h.ow.2 with ⟨h', _⟩ | ⟨g', cap', cur, e, _, _, h1, h2, _⟩
  · cases h'
  · cases e
    exact ⟨h1, h2⟩
theorem Rw.pre {w0 w : World} {B g n cap m : Nat} {O : List Int} (h : Rw w0 w B g n cap O) (hm : m ≤ n) : Rw w0 w B g m cap (O.take m) := by
  have hl := h.len
  refine ⟨⟨by simp; omega, ?_⟩, h.gr⟩
  rcases h.ow.2 with ⟨h', _⟩ | ⟨g', cap', cur, e, h0, hh, h1, h2, h3, h4⟩
  · cases h'
  · cases e
    refine .inr ⟨g, cap, cur, rfl, h0, hh, by omega, h2, h3, ?_⟩
    rw [List.map_take, ← h4, List.take_take]
    congr 1
    omega
theorem Rw.clr {w0 : World} {B g n cap m : Nat} : ∀ (r : Nat) (w : World) (O : List Int) (k : Nat), m ≤ k → Rw w0 w B g n cap O → ∃ O', O'.take m = O.take m ∧ Rw w0 (w.setCells g k (List.replicate r (.int .i64 0))) B g n cap O'
  | 0, w, O, k, _, h => ⟨O, rfl, h⟩
  | r + 1, w, O, k, hk, h => by
    obtain ⟨O', e, h'⟩ := Rw.clr (m := m) r _ (O.set k 0) (k + 1) (by omega) (h.set k 0)
    refine ⟨O', ?_, h'⟩
    rw [e, List.take_set_of_le hk]
theorem nthC_set_ne (O : List Int) (i j : Nat) (x : Int) (h : i ≠ j) : nthC (O.set i x) j = nthC O j := by
  simp [nthC, List.getD, List.getElem?_set_ne h]
set_option maxRecDepth 100000 in
set_option maxHeartbeats 8000000 in
theorem compactC (w0 w : World) (B g n cap : Nat) (L : List Int) (hn : 2 ≤ n) (hn2 : n ≤ 1048576) (h : Rw w0 w B g n cap L) :
    Calls Tryz.prog 44 #[.slice (some ⟨g, 0, none⟩) n cap] w fun e w' => e = .returned (.slice (some ⟨g, 0, none⟩) (cmk L n).length cap) ∧ Rw w0 w' B g (cmk L n).length cap (cmk L n) := by
  have hL := h.len
  obtain ⟨hc1, hc2⟩ := h.capLe
  have hn' : ¬ (n : Int) < 2 := by omega
  have H0 := hide h
  have HL := hide hL
  have E0 : Hid (cmk L 1 = L.take 1) := hide (by
    rw [cmk_one]
    match L, hL with
    | x :: l, _ => simp
    | [], hL => simp at hL; omega)
  clear h hL
  go_enter Tryz.func44, Tryz.ntmps44
  go_wp2
  go_loopw [3] (fun kv wr => ∃ k : Nat, 1 ≤ k ∧ k ≤ n ∧ kv = .int .i64 k ∧ Hid (cmk L k = L.take k) ∧ Hid (Rw w0 wr B g n cap L)) (fun kv _ => n - (intOf kv).toNat)
  case atStart => exact ⟨1, Nat.le_refl _, by omega, rfl, E0, H0⟩
  case round =>
    obtain ⟨k, hk1, hkn, rfl, HE, HR⟩ := hrel
    clear H0 E0
    by_cases hlt : k < n
    · have hlt' : (k : Int) < (n : Int) := by omega
      obtain ⟨r, rfl⟩ : ∃ r : Nat, k = r + 1 := ⟨k - 1, by omega⟩
      have hcast : ((r + 1 : Nat) : Int) = (r : Int) + 1 := by omega
      rw [hcast] at hlt' ⊢
      have c1 := (unhide HR).cell (r + 1) (by omega)
      have c0 := (unhide HR).cell r (by omega)
      have pa : (0 : Int) ≤ (r : Int) + 1 := by omega
      have bb : (r : Int) < (n : Int) := by omega
      have ea : ((r : Int) + 1).toNat = r + 1 := by omega
      have ra : IntKind.i64.wrap ((r : Int) + 1) = (r : Int) + 1 := wrapC _ (by omega) (by omega)
      have rb : IntKind.i64.wrap (r : Int) = (r : Int) := wrapC _ (by omega) (by omega)
      have G2 := hide (fun m => (unhide HR).drewN m)
      by_cases hd : nthC L (r + 1) = nthC L r
      · have hd' : (nthC L (r + 1) == nthC L r) = true := by simpa using hd
        have HE2 : Hid (cmk L (r + 1 + 1) = L.take (r + 1)) := hide (by rw [cmk_dup (by omega) (by simpa using hd), unhide HE])
        have hll := unhide HL
        obtain ⟨q, rfl⟩ : ∃ q, n = r + 1 + q := ⟨n - (r + 1), by omega⟩
        have J0 : Hid (∀ m, ∃ M : List Int, M.take (r + 1) = cmk L (r + 1 + 1) ∧ (cmk L (r + 1 + 1)).length = r + 1 ∧ (∀ i, r + 1 ≤ i → nthC M i = nthC L i) ∧ Rw w0 (wr.drewN m) B g (r + 1 + q) cap M) := hide (fun m => ⟨L, (unhide HE2).symm, by rw [unhide HE2]; simp; omega, fun _ _ => rfl, (unhide HR).drewN m⟩)
        clear HE hd hcast HR HE2 G2 HL hll
        generalize nthC L (r + 1) = x at c1 hd'
        generalize nthC L r = y at c0 hd'
        go_wp2_with fail
        go_quiet (fail)
        have J1 := hide ((unhide J0) nq)
        clear J0 c0 c1 hd'
        generalize wr.drewN nq = w2 at *
        go_wp2
        go_loopw [3, 5] (fun kv jv wr => ∃ m j : Nat, 1 ≤ j ∧ j ≤ q ∧ m ≤ r + j ∧ kv = .int .i64 m ∧ jv = .int .i64 j ∧ Hid (∃ M : List Int, M.take m = cmk L (r + 1 + j) ∧ (cmk L (r + 1 + j)).length = m ∧ (∀ i, r + j ≤ i → nthC M i = nthC L i) ∧ Rw w0 wr B g (r + 1 + q) cap M)) (fun _ jv _ => q - (intOf jv).toNat)
        case atStart => exact ⟨r + 1, 1, Nat.le_refl _, by omega, by omega, by go_num, rfl, J1⟩
        case round =>
          obtain ⟨m, j, hj1, hjq, hmj, rfl, rfl, HM⟩ := hrel
          clear J1
          by_cases hjl : j < q
          · have hjl' : (j : Int) < (q : Int) := by omega
            obtain ⟨M, e1, e2, e3, s1⟩ := unhide HM
            obtain ⟨t, rfl⟩ : ∃ t : Nat, j = t + 1 := ⟨j - 1, by omega⟩
            have hcast : ((t + 1 : Nat) : Int) = (t : Int) + 1 := by omega
            rw [hcast] at hjl' ⊢
            have c1 := s1.cell (r + 1 + (t + 1)) (by omega)
            have c0 := s1.cell (r + 1 + t) (by omega)
            have hlM := s1.len
            rw [e3 _ (by omega)] at c1 c0
            have pa : (0 : Int) ≤ (t : Int) + 1 := by omega
            have bb : (t : Int) < (q : Int) := by omega
            have ea : ((t : Int) + 1).toNat = t + 1 := by omega
            have ra : IntKind.i64.wrap ((t : Int) + 1) = (t : Int) + 1 := wrapC _ (by omega) (by omega)
            have rb : IntKind.i64.wrap (t : Int) = (t : Int) := wrapC _ (by omega) (by omega)
            by_cases hd : nthC L (r + 1 + (t + 1)) = nthC L (r + 1 + t)
            · have hd' : (nthC L (r + 1 + (t + 1)) != nthC L (r + 1 + t)) = false := by simpa using hd
              have J2 : Hid (∀ n, ∃ M : List Int, M.take m = cmk L (r + 1 + (t + 1 + 1)) ∧ (cmk L (r + 1 + (t + 1 + 1))).length = m ∧ (∀ i, r + (t + 1 + 1) ≤ i → nthC M i = nthC L i) ∧ Rw w0 (wr.drewN n) B g (r + 1 + q) cap M) := hide (fun n => by
                have e : cmk L (r + 1 + (t + 1 + 1)) = cmk L (r + 1 + (t + 1)) := cmk_dup (k := r + 1 + (t + 1)) (by omega) (by simpa using hd)
                exact ⟨M, by rw [e, e1], by rw [e, e2], fun i hi => e3 i (by omega), s1.drewN n⟩)
              clear HM e1 e2 e3 s1 hd hcast hlM
              generalize nthC L (r + 1 + (t + 1)) = x at c1 hd'
              generalize nthC L (r + 1 + t) = y at c0 hd'
              go_wp2_with fail
              go_quiet (fail)
              have J3 := hide ((unhide J2) nq)
              clear J2 c0 c1 hd'
              generalize wr.drewN nq = w3 at *
              go_wp2
              go_roundw
              case rel => exact ⟨m, t + 1 + 1, by omega, by omega, by omega, rfl, by go_num, J3⟩
              case measure => simp [intOf]; omega
            · have hd' : (nthC L (r + 1 + (t + 1)) != nthC L (r + 1 + t)) = true := by simpa using hd
              have J2 : Hid (∀ n, (wr.drewN n).cell? ⟨g, r + 1 + (t + 1), none⟩ = some (.int .i64 (nthC L (r + 1 + (t + 1)))) ∧ (∃ u, (wr.drewN n).cell? ⟨g, m, none⟩ = some u) ∧ (wr.drewN n).frozen? ⟨g, m, none⟩ = false ∧ ∃ M : List Int, M.take (m + 1) = cmk L (r + 1 + (t + 1 + 1)) ∧ (cmk L (r + 1 + (t + 1 + 1))).length = m + 1 ∧ (∀ i, r + (t + 1 + 1) ≤ i → nthC M i = nthC L i) ∧ Rw w0 ((wr.drewN n).setCell ⟨g, m, none⟩ (.int .i64 (nthC L (r + 1 + (t + 1))))) B g (r + 1 + q) cap M) := hide (fun n => by
                have e : cmk L (r + 1 + (t + 1 + 1)) = cmk L (r + 1 + (t + 1)) ++ [nthC L (r + 1 + (t + 1))] := cmk_new (k := r + 1 + (t + 1)) (by simpa using hd)
                have s2 := s1.drewN n
                refine ⟨c1, ⟨_, s2.cell m (by omega)⟩, s2.frozen m, M.set m (nthC L (r + 1 + (t + 1))), ?_, by rw [e]; simp [e2], fun i hi => ?_, s2.set m _⟩
                · rw [take_snoc _ m (by simp; omega), List.take_set_of_le (Nat.le_refl _), e1, e]
                  simp [List.getD, show m < M.length by omega]
                · rw [nthC_set_ne _ _ _ _ (by omega)]
                  exact e3 i (by omega))
              clear HM e1 e2 e3 s1 hd hcast hlM
              generalize nthC L (r + 1 + (t + 1)) = x at *
              generalize nthC L (r + 1 + t) = y at c0 hd'
              go_wp2_with fail
              go_quiet (fail)
              obtain ⟨d1, ⟨u, d2⟩, d3, j3⟩ := (unhide J2) nq
              have J3 := hide j3
              clear J2 c0 c1 hd' j3
              generalize wr.drewN nq = w3 at *
              go_wp2
              generalize w3.setCell ⟨g, m, none⟩ (.int .i64 x) = w4 at *
              go_roundw
              case rel => exact ⟨m + 1, t + 1 + 1, by omega, by omega, by omega, by go_num, by go_num, J3⟩
              case measure => simp [intOf]; omega
          · obtain rfl : j = q := by omega
            have hjl' : ¬ (j : Int) < (j : Int) := by omega
            obtain ⟨M, e1, e2, e3, s1⟩ := unhide HM
            have hcl : ∀ ty, (Builtin.clear_ #[28] ty #[.slice (some ⟨g, m, none⟩) (r + 1 + j - m) (cap - m)]).run Tryz.prog wr = .ok (.tuple #[]) (wr.setCells g m (List.replicate (r + 1 + j - m) (.int .i64 0))) :=
              fun ty => Lib.run_clear_slice wr _ 2 ty (.int .i64 0) Tryz.underlying28 (fun _ => by kernel_rfl) rfl rfl g m _ _ (by omega) (fun i hi => by rw [s1.cell (m + i) (by omega)]; rfl) (fun i hi => s1.frozen (m + i))
            obtain ⟨M', f1, s2⟩ := Rw.clr (m := m) (r + 1 + j - m) wr M m (Nat.le_refl _) s1
            have R := hide (show Rw w0 (wr.setCells g m (List.replicate (r + 1 + j - m) (.int .i64 0))) B g (cmk L (r + 1 + j)).length cap (cmk L (r + 1 + j)) by
              have s3 := s2.pre (m := m) (by omega)
              rw [f1, e1] at s3
              rw [e2]
              exact s3)
            have EL := hide e2
            clear HM e1 e2 e3 s1 s2 f1
            go_wp2
            go_ret
            exact ⟨by rw [unhide EL]; rfl, unhide R⟩
      · have hd' : (nthC L (r + 1) == nthC L r) = false := by simpa using hd
        have HE2 : Hid (cmk L (r + 1 + 1) = L.take (r + 1 + 1)) := hide (by
          rw [cmk_new (by simpa using hd), unhide HE, take_snoc L (r + 1) (by rw [unhide HL]; omega)])
        clear HE hd hcast HR
        generalize nthC L (r + 1) = x at *
        generalize nthC L r = y at *
        go_wp2_with fail
        go_quiet (fail)
        have R3 := hide ((unhide G2) nq)
        clear G2 c0 c1
        generalize wr.drewN nq = w2 at *
        go_wp2
        go_roundw
        case rel => exact ⟨r + 1 + 1, by omega, by omega, by go_num, HE2, R3⟩
        case measure => simp [intOf]; omega
    · obtain rfl : k = n := by omega
      have hlt' : ¬ (k : Int) < (k : Int) := by omega
      have e : cmk L k = L := by rw [unhide HE]; exact List.take_of_length_le (by rw [unhide HL]; exact Nat.le_refl _)
      have el : (cmk L k).length = k := by rw [e, unhide HL]
      have R := hide (show Rw w0 wr B g (cmk L k).length cap (cmk L k) by rw [el, e]; exact unhide HR)
      have EL := hide el
      clear e el
      go_wp2
      go_ret
      exact ⟨by rw [unhide EL]; rfl, unhide R⟩
end Go.Proofs.YtjdginjohajmaaaGreatDoor.Ris
/- Numbers told of points, in rising order, each once: as the program tells them. -/
namespace Go.Proofs.YtjdginjohajmaaaGreatDoor.Ris
open Go.RowKit Go.Shelf
set_option linter.unusedVariables false
theorem j2 {w w1 w2 : World} (h : Below w.heap.size w w1) (k : Below w1.heap.size w1 w2) : Below w.heap.size w w2 := h.trans (k.mono h.size)
theorem bf {a b : Int} (h : ¬ a = b) : (a == b) = false := by rw [beq_eq_false_iff_ne]; exact h
theorem bt' {a b : Int} (h : a = b) : (a == b) = true := by rw [beq_iff_eq]; exact h
theorem rd_at {w : World} {v : Value} {L : List Int} (h : IntsAt w v L) (hl : 0 < L.length) : ∃ b off cap, v = .slice (some ⟨b, off, none⟩) L.length cap ∧ b < w.heap.size ∧ ∀ i, i < L.length → w.cell? ⟨b, off + i, none⟩ = some (.int .i64 (nth L i)) := by
  obtain ⟨a, cap, rfl, h⟩ := h
  rcases h with h | ⟨b, off, rfl, hbs, hc⟩
  · rw [h] at hl; simp at hl
  · exact ⟨b, off, cap, rfl, hbs, hc⟩
theorem caseI (p : Int) (w : World) (ht : TabAt w) : Calls Tryz.prog 45 #[.int .i64 p] w fun e w' => e = .returned (.bool (catI p == 4 || catI p == 5 || catI p == 6)) ∧ Below w.heap.size w w' := by
  have C := hide (implCat p w ht)
  clear ht
  generalize catI p = c at *
  by_cases h4 : c = 4
  · subst h4
    go_enter Tryz.func45, Tryz.ntmps45
    go_wp2_with (go_at_call 46; refine (unhide C).mono ?_; rintro e w1 ⟨rfl, hb1⟩)
    go_ret
    exact ⟨rfl, hb1⟩
  · have n4 := bf h4
    by_cases h5 : c = 5
    · subst h5
      go_enter Tryz.func45, Tryz.ntmps45
      go_wp2_with (go_at_call 46; refine (unhide C).mono ?_; rintro e w1 ⟨rfl, hb1⟩)
      go_ret
      exact ⟨rfl, hb1⟩
    · have n5 := bf h5
      by_cases h6 : c = 6
      · subst h6
        go_enter Tryz.func45, Tryz.ntmps45
        go_wp2_with (go_at_call 46; refine (unhide C).mono ?_; rintro e w1 ⟨rfl, hb1⟩)
        go_ret
        exact ⟨rfl, hb1⟩
      · have n6 := bf h6
        rw [n4, n5, n6]
        go_enter Tryz.func45, Tryz.ntmps45
        go_wp2_with (go_at_call 46; refine (unhide C).mono ?_; rintro e w1 ⟨rfl, hb1⟩)
        go_ret
        exact ⟨rfl, hb1⟩
theorem letrI (p : Int) (w : World) (ht : TabAt w) : Calls Tryz.prog 27 #[.int .i64 p] w fun e w' => e = .returned (.bool (let1 p)) ∧ Below w.heap.size w w' := by
  have hU : undef = Value.tuple #[] := rfl
  have C := hide (caseI p w ht)
  have C2 := hide (fun W (h : Below w.heap.size w W) => implCat p W (ht.below h))
  clear ht
  have HL : Hid (let1 p = ((catI p == 4 || catI p == 5 || catI p == 6) || catI p == 7)) := hide rfl
  generalize (catI p == 4 || catI p == 5 || catI p == 6) = a at *
  generalize let1 p = l at *
  generalize catI p = c at *
  cases a with
  | true =>
    go_enter Tryz.func27, Tryz.ntmps27
    go_wp2_with (go_at_call 45; refine (unhide C).mono ?_; rintro e w1 ⟨rfl, hb1⟩; have B1 := hide hb1; clear hb1)
    go_ret
    exact ⟨by rw [unhide HL]; rfl, unhide B1⟩
  | false =>
    rw [Bool.false_or] at HL
    go_enter Tryz.func27, Tryz.ntmps27
    go_wp2_with (first
      | (go_at_call 45; refine (unhide C).mono ?_; rintro e w1 ⟨rfl, hb1⟩; have B1 := hide hb1; clear hb1)
      | (go_at_call 46; refine ((unhide C2) _ (unhide B1)).mono ?_; rintro e w2 ⟨rfl, hb2⟩; have B2 := hide (j2 (unhide B1) hb2); clear hb2))
    go_ret
    exact ⟨by rw [unhide HL]; rfl, unhide B2⟩
theorem digB (p : Int) (w : World) (ht : TabAt w) : Calls Tryz.prog 31 #[.int .i64 p] w fun e w' => e = .returned (.bool (dgt1 p)) ∧ Below w.heap.size w w' := by
  have C := hide (implCat p w ht)
  unfold dgt1
  clear ht
  generalize catI p = c at *
  go_enter Tryz.func31, Tryz.ntmps31
  go_wp2_with (go_at_call 46; refine (unhide C).mono ?_; rintro e w1 ⟨rfl, hb1⟩)
  go_ret
  exact ⟨rfl, hb1⟩
theorem scr_bd (p : Int) : -512 ≤ scr p ∧ scr p ≤ 1114111 := by
  rw [← scr_i]
  unfold scrI
  have hbd := row_bd (twin p)
  have ht := twin_bd p
  split <;> omega
set_option maxRecDepth 100000 in
theorem sysB (p : Int) (w : World) (ht : TabAt w) : Calls Tryz.prog 32 #[.int .i64 p] w fun e w' => e = .returned (.int .i64 (sysI p)) ∧ Below w.heap.size w w' := by
  have C := hide (scrI_any p w ht)
  clear ht
  have hb := scr_bd p
  have HE : Hid (sysI p = if 0 < scr p then scr p - 1 else if p < 10016 then 0 else 6) := hide rfl
  generalize sysI p = z at *
  generalize scr p = c at *
  obtain ⟨c0, c1⟩ := hb
  by_cases h1 : 0 < c
  · rw [if_pos h1] at HE
    go_enter Tryz.func32, Tryz.ntmps32
    go_wp2_with (go_at_call 28; refine (unhide C).mono ?_; rintro e w1 ⟨rfl, hb1⟩; have B1 := hide hb1; clear hb1)
    go_ret
    exact ⟨by rw [unhide HE]; rfl, unhide B1⟩
  · rw [if_neg h1] at HE
    by_cases h2 : p < 10016
    · rw [if_pos h2] at HE
      go_enter Tryz.func32, Tryz.ntmps32
      go_wp2_with (go_at_call 28; refine (unhide C).mono ?_; rintro e w1 ⟨rfl, hb1⟩; have B1 := hide hb1; clear hb1)
      go_ret
      exact ⟨by rw [unhide HE]; rfl, unhide B1⟩
    · rw [if_neg h2] at HE
      go_enter Tryz.func32, Tryz.ntmps32
      go_wp2_with (go_at_call 28; refine (unhide C).mono ?_; rintro e w1 ⟨rfl, hb1⟩; have B1 := hide hb1; clear hb1)
      go_ret
      exact ⟨by rw [unhide HE]; rfl, unhide B1⟩
/-- slices.Sort of a row of the call's own. -/
theorem sortR (w0 w : World) (B g n cap : Nat) (O : List Int) (hn : n ≤ 1048576) (h : Rw w0 w B g n cap O) : Calls Tryz.prog 43 #[.slice (some ⟨g, 0, none⟩) n cap] w fun e w' => e = .returned (.tuple #[]) ∧ Rw w0 w' B g n cap (srt O) := by
  have hl := h.len
  subst hl
  obtain ⟨h1, h2⟩ | ⟨g', cap', cur, hv, hB, hh, hc1, hc2, hc3, hc4⟩ := h.ow.2
  · cases h1
  cases hv
  have hH := holds_of_block_i hh (by simpa using hc4)
  have C := AnyM.slices_Sort_int Tryz.laysSort g 0 cap O w hH (Array.getElem?_eq_some_iff.1 hh).1 (by omega)
  refine Calls.mono C ?_
  rintro e w' ⟨rfl, m, os, rfl⟩
  refine ⟨rfl, ?_, ?_⟩
  · have := ownsRow_sorted_i (n := m) (os := os) (ss := O) (ts := srt O) (base := B) (cap := cap) (List.length_mergeSort _) hB hh hc1 hc2 (by simpa using hc3)
    exact this
  · exact h.gr.trans (grownBy_sorted_i _)
end Go.Proofs.YtjdginjohajmaaaGreatDoor.Ris
/- Scripts and systems of digits, as the program tells them; ScriptsOf and IsMixed of the program. -/
namespace Go.Proofs.YtjdginjohajmaaaGreatDoor.Ris
open Go.RowKit Go.Shelf
set_option linter.unusedVariables false
theorem cmp_small : ∀ L : List Int, L.length < 2 → cmp L = L
  | [], _ => rfl
  | [x], _ => rfl
  | x :: y :: l, h => by simp only [List.length_cons] at h; omega
theorem row_many {w wr w1 w2 : World} {base n m : Nat} {v v' : Value} {R S : List Int} {o : Obj} {xs : List Value} (hb : Below base w wr) (hb1 : Below base wr w1) (hB : base ≤ w1.heap.size)
    (ho : w1.ownsRow base 2 1 v n xs) (ho2 : w2.ownsRow base 2 1 v' m (R.map (Value.int .i64) ++ S.map (Value.int .i64))) (hm : m = (R ++ S).length) (hg : (w1.alloc o).grownBy w2 v.ownBlock) :
    w2.ownsRow base 2 1 v' (R ++ S).length ((R ++ S).map (Value.int .i64)) ∧ Below base w w2 := by
  refine ⟨?_, ((hb.trans hb1).alloc hB o).grown hg (by simp; omega) (fun j hj => (ho.lt j hj).1)⟩
  rw [← hm, List.map_append]
  exact ho2
theorem one_newR (w : World) (x : Value) (t : TypeId) : ∀ j u, [x][j]? = some u → (w.alloc (.cells #[x] t)).cell? ((⟨w.heap.size, 0, none⟩ : Addr).add j) = some u := by
  intro j u hj
  match j, hj with
  | 0, hj => simp at hj; subst hj; simp [Addr.add]
  | (j + 1), hj => simp at hj
/-- Sorted, whatever the row is. -/
theorem sort_any (w : World) (B : Nat) (v : Value) (T : List Int) (hB : B ≤ w.heap.size) (hn : T.length ≤ 1048576) (ho : w.ownsRow B 2 1 v T.length (T.map (Value.int .i64))) :
    Calls Tryz.prog 43 #[v] w fun e w' => e = .returned (.tuple #[]) ∧ w'.ownsRow B 2 1 v T.length ((srt T).map (Value.int .i64)) ∧ Below B w w' := by
  rcases ho.2 with ⟨rfl, h0⟩ | ⟨g, cap, cur, rfl, hg, hh, r⟩
  · have hT : T = [] := List.length_eq_zero_iff.1 h0
    subst hT
    refine Calls.mono (AnyM.slices_Sort_int_none Tryz.laysSort none 0 w) ?_
    rintro e w' ⟨rfl, rfl⟩
    exact ⟨rfl, by rw [show srt [] = [] by simp [srt]]; exact World.ownsRow_nil _ _ _ _, Below.refl _ _⟩
  · have h : Rw w w B g T.length cap T := ⟨ho, grown_reflC _ _⟩
    refine (sortR w w B g T.length cap T hn h).mono ?_
    rintro e w' ⟨rfl, hr⟩
    exact ⟨rfl, hr.ow, (Below.refl B w).grown hr.gr hB (fun k e => by cases e; exact hg)⟩
theorem compact_any (w : World) (B : Nat) (v : Value) (T : List Int) (hB : B ≤ w.heap.size) (hn : T.length ≤ 1048576) (hs : T.Pairwise (· ≤ ·)) (ho : w.ownsRow B 2 1 v T.length (T.map (Value.int .i64))) :
    Calls Tryz.prog 44 #[v] w fun e w' => ∃ v', e = .returned v' ∧ w'.ownsRow B 2 1 v' (cmp T).length ((cmp T).map (Value.int .i64)) ∧ Below B w w' := by
  by_cases h2 : T.length < 2
  · rw [cmp_small T h2]
    have h2' : (T.length : Int) < 2 := by omega
    obtain ⟨a, cap, rfl, _⟩ := IntsAt.owned ho
    have HO := hide ho
    clear ho
    go_enter Tryz.func44, Tryz.ntmps44
    go_wp2
    go_ret
    exact ⟨_, rfl, unhide HO, Below.refl _ _⟩
  · rcases ho.2 with ⟨rfl, h0⟩ | ⟨g, cap, cur, rfl, hg, hh, r⟩
    · omega
    · have h : Rw w w B g T.length cap T := ⟨ho, grown_reflC _ _⟩
      refine (compactC w w B g T.length cap T (by omega) hn h).mono ?_
      rintro e w' ⟨rfl, hr⟩
      rw [cmk_cmp hs] at hr ⊢
      exact ⟨_, rfl, hr.ow, (Below.refl B w).grown hr.gr hB (fun k e => by cases e; exact hg)⟩
theorem own_monoR {w : World} {B B2 n : Nat} {v : Value} {xs : List Value} (h : w.ownsRow B2 2 1 v n xs) (hb : B ≤ B2) : w.ownsRow B 2 1 v n xs := by
  refine ⟨h.1, ?_⟩
  rcases h.2 with h' | ⟨g, cap, cur, hv, hg, r⟩
  · exact .inl h'
  · exact .inr ⟨g, cap, cur, hv, by omega, r⟩
set_option maxRecDepth 100000 in
set_option maxHeartbeats 2000000 in
theorem ris_a (v : Value) (L : List Int) (w : World) (ht : TabAt w) (hv : IntsAt w v L) (hL : L.length ≤ 131072) :
    Calls Tryz.prog 25 #[v, .func (.func 27) #[] #[], .func (.func 28) #[] #[]] w fun e w' => ∃ v', e = .returned v' ∧ w'.ownsRow w.heap.size 2 1 v' (all (tld let1 scr L L.length)).length ((all (tld let1 scr L L.length)).map (Value.int .i64)) ∧ Below w.heap.size w w' := by
  obtain ⟨i0, hi, hz0, hz1, hz2⟩ := info_parts info2
  have HV := hide hv
  have HT := hide ht
  clear ht
  obtain ⟨va, cap, rfl, _⟩ := hv
  go_enter Tryz.func25, Tryz.ntmps25
  go_wp2
  go_loopw [7, 12] (fun lv iv wr => ∃ k : Nat, k ≤ L.length ∧ iv = .int .i64 k ∧ Hid (wr.ownsRow w.heap.size 2 1 lv (tld let1 scr L k).length ((tld let1 scr L k).map (Value.int .i64))) ∧ Hid (Below w.heap.size w wr)) (fun _ iv _ => L.length - (intOf iv).toNat)
  case atStart => exact ⟨0, Nat.zero_le _, rfl, hide (World.ownsRow_nil w _ _ _), hide (Below.refl _ _)⟩
  case round =>
    obtain ⟨k, hk, rfl, HO, HB⟩ := hrel
    have hBs := (unhide HB).size
    have hkl := tld_len let1 scr L k
    by_cases hlt : k < L.length
    · obtain ⟨b, off, cp, he, hbw, hc⟩ := rd_at (unhide HV) (by omega)
      cases he
      have kc := ((unhide HB).cell (p := ⟨b, off + k, none⟩) hbw).trans (hc k hlt)
      have hbr : b < wr.heap.size := by omega
      have CA := hide (fun W h => letrI (nth L k) W h)
      have CT := hide (fun W h => scrI_any (nth L k) W h)
      have HY := hide (fun h => tld_yes (ask := let1) (tel := scr) hlt h)
      have HN := hide (fun h => tld_no (ask := let1) (tel := scr) hlt h)
      clear hc
      generalize hT : tld let1 scr L k = T at *
      clear hT
      generalize nth L k = p at *
      cases ha : let1 p with
      | true =>
        rw [ha] at CA
        have HS := hide ((unhide HY) ha)
        clear ha HY HN
        generalize scr p = z at *
        go_wp2_with (first
          | (go_at_call 27; refine ((unhide CA) _ ((unhide HT).below (unhide HB))).mono ?_; rintro e w1 ⟨rfl, hb1⟩; have O1 := hide (ownsRow_below (unhide HO) hb1); have B1 := hide (j2 (unhide HB) hb1); clear hb1)
          | (go_at_call 28; refine ((unhide CT) _ ((unhide HT).below (unhide B1))).mono ?_; rintro e w3 ⟨rfl, hb3⟩; have O3 := hide (ownsRow_below (unhide O1) hb3); have B3 := hide (j2 (unhide B1) hb3); have h3s := (unhide B3).size; clear hb3)
          | (at_builtin; refine wpList_appG _ rfl _ _ 28 rfl w.heap.size 2 i0 (.int .i64 0) 1 8 Tryz.underlying28 hi hz0 hz1 hz2 rfl (by decide) _ _ _ rfl ((unhide O3).alloc _) ⟨w3.heap.size, 0, none⟩ 1 1 [.int .i64 z] rfl rfl (one_newR _ _ _) ?c2 ?c3 ?c4 ?c5 ?_))
        case c2 => intro u hu; simp at hu; subst hu; rfl
        case c3 => unfold maxLen; omega
        case c4 => omega
        case c5 => simp; omega
        intro v' w4 hown' hgrow _
        have RR := hide (row_many (R := T) (S := [z]) (unhide B3) (Below.refl _ _) (by omega) (unhide O3) hown' (by simp) hgrow)
        clear hown' hgrow
        go_wp2
        go_roundw
        case rel => exact ⟨k + 1, by omega, by go_num, hide (by rw [unhide HS]; exact (unhide RR).1), hide (unhide RR).2⟩
        case measure => simp [intOf]; omega
      | false =>
        rw [ha] at CA
        have HS := hide ((unhide HN) ha)
        clear ha HY HN
        go_wp2_with (go_at_call 27; refine ((unhide CA) _ ((unhide HT).below (unhide HB))).mono ?_; rintro e w1 ⟨rfl, hb1⟩; have O1 := hide (ownsRow_below (unhide HO) hb1); have B1 := hide (j2 (unhide HB) hb1); clear hb1)
        go_roundw
        case rel => exact ⟨k + 1, by omega, by go_num, hide (by rw [unhide HS]; exact unhide O1), B1⟩
        case measure => simp [intOf]; omega
    · obtain rfl : k = L.length := by omega
      have HA := hide (all_eq (tld let1 scr L L.length))
      have HSL := hide (srt_ok (tld let1 scr L L.length))
      obtain ⟨T, hTe⟩ : ∃ T, tld let1 scr L L.length = T := ⟨_, rfl⟩
      have HTe := hide hTe
      rw [hTe] at HA HSL HO hkl
      clear hTe
      go_wp2_with (first
        | (go_at_call 43; refine (sort_any _ w.heap.size _ T hBs (by omega) (unhide HO)).mono ?_; rintro e w5 ⟨rfl, ho5, hb5⟩; have O5 := hide ho5; have B5 := hide ((unhide HB).trans hb5); have h5s := (unhide B5).size; clear ho5 hb5)
        | (go_at_call 44; refine (compact_any _ w.heap.size _ (srt T) h5s (by rw [(unhide HSL).2.1]; omega) (unhide HSL).1 (by rw [(unhide HSL).2.1]; exact unhide O5)).mono ?_; rintro e w6 ⟨v6, rfl, ho6, hb6⟩; have O6 := hide ho6; have B6 := hide ((unhide B5).trans hb6); clear ho6 hb6))
      go_ret
      exact ⟨_, rfl, by rw [unhide HTe, ← unhide HA]; exact unhide O6, unhide B6⟩
set_option maxRecDepth 100000 in
set_option maxHeartbeats 2000000 in
theorem ris_b (v : Value) (L : List Int) (w : World) (ht : TabAt w) (hv : IntsAt w v L) (hL : L.length ≤ 131072) :
    Calls Tryz.prog 25 #[v, .func (.func 31) #[] #[], .func (.func 32) #[] #[]] w fun e w' => ∃ v', e = .returned v' ∧ w'.ownsRow w.heap.size 2 1 v' (all (tld dgt1 sysI L L.length)).length ((all (tld dgt1 sysI L L.length)).map (Value.int .i64)) ∧ Below w.heap.size w w' := by
  obtain ⟨i0, hi, hz0, hz1, hz2⟩ := info_parts info2
  have HV := hide hv
  have HT := hide ht
  clear ht
  obtain ⟨va, cap, rfl, _⟩ := hv
  go_enter Tryz.func25, Tryz.ntmps25
  go_wp2
  go_loopw [7, 12] (fun lv iv wr => ∃ k : Nat, k ≤ L.length ∧ iv = .int .i64 k ∧ Hid (wr.ownsRow w.heap.size 2 1 lv (tld dgt1 sysI L k).length ((tld dgt1 sysI L k).map (Value.int .i64))) ∧ Hid (Below w.heap.size w wr)) (fun _ iv _ => L.length - (intOf iv).toNat)
  case atStart => exact ⟨0, Nat.zero_le _, rfl, hide (World.ownsRow_nil w _ _ _), hide (Below.refl _ _)⟩
  case round =>
    obtain ⟨k, hk, rfl, HO, HB⟩ := hrel
    have hBs := (unhide HB).size
    have hkl := tld_len dgt1 sysI L k
    by_cases hlt : k < L.length
    · obtain ⟨b, off, cp, he, hbw, hc⟩ := rd_at (unhide HV) (by omega)
      cases he
      have kc := ((unhide HB).cell (p := ⟨b, off + k, none⟩) hbw).trans (hc k hlt)
      have hbr : b < wr.heap.size := by omega
      have CA := hide (fun W h => digB (nth L k) W h)
      have CT := hide (fun W h => sysB (nth L k) W h)
      have HY := hide (fun h => tld_yes (ask := dgt1) (tel := sysI) hlt h)
      have HN := hide (fun h => tld_no (ask := dgt1) (tel := sysI) hlt h)
      clear hc
      generalize hT : tld dgt1 sysI L k = T at *
      clear hT
      generalize nth L k = p at *
      cases ha : dgt1 p with
      | true =>
        rw [ha] at CA
        have HS := hide ((unhide HY) ha)
        clear ha HY HN
        generalize sysI p = z at *
        go_wp2_with (first
          | (go_at_call 31; refine ((unhide CA) _ ((unhide HT).below (unhide HB))).mono ?_; rintro e w1 ⟨rfl, hb1⟩; have O1 := hide (ownsRow_below (unhide HO) hb1); have B1 := hide (j2 (unhide HB) hb1); clear hb1)
          | (go_at_call 32; refine ((unhide CT) _ ((unhide HT).below (unhide B1))).mono ?_; rintro e w3 ⟨rfl, hb3⟩; have O3 := hide (ownsRow_below (unhide O1) hb3); have B3 := hide (j2 (unhide B1) hb3); have h3s := (unhide B3).size; clear hb3)
          | (at_builtin; refine wpList_appG _ rfl _ _ 28 rfl w.heap.size 2 i0 (.int .i64 0) 1 8 Tryz.underlying28 hi hz0 hz1 hz2 rfl (by decide) _ _ _ rfl ((unhide O3).alloc _) ⟨w3.heap.size, 0, none⟩ 1 1 [.int .i64 z] rfl rfl (one_newR _ _ _) ?c2 ?c3 ?c4 ?c5 ?_))
        case c2 => intro u hu; simp at hu; subst hu; rfl
        case c3 => unfold maxLen; omega
        case c4 => omega
        case c5 => simp; omega
        intro v' w4 hown' hgrow _
        have RR := hide (row_many (R := T) (S := [z]) (unhide B3) (Below.refl _ _) (by omega) (unhide O3) hown' (by simp) hgrow)
        clear hown' hgrow
        go_wp2
        go_roundw
        case rel => exact ⟨k + 1, by omega, by go_num, hide (by rw [unhide HS]; exact (unhide RR).1), hide (unhide RR).2⟩
        case measure => simp [intOf]; omega
      | false =>
        rw [ha] at CA
        have HS := hide ((unhide HN) ha)
        clear ha HY HN
        go_wp2_with (go_at_call 31; refine ((unhide CA) _ ((unhide HT).below (unhide HB))).mono ?_; rintro e w1 ⟨rfl, hb1⟩; have O1 := hide (ownsRow_below (unhide HO) hb1); have B1 := hide (j2 (unhide HB) hb1); clear hb1)
        go_roundw
        case rel => exact ⟨k + 1, by omega, by go_num, hide (by rw [unhide HS]; exact unhide O1), B1⟩
        case measure => simp [intOf]; omega
    · obtain rfl : k = L.length := by omega
      have HA := hide (all_eq (tld dgt1 sysI L L.length))
      have HSL := hide (srt_ok (tld dgt1 sysI L L.length))
      obtain ⟨T, hTe⟩ : ∃ T, tld dgt1 sysI L L.length = T := ⟨_, rfl⟩
      have HTe := hide hTe
      rw [hTe] at HA HSL HO hkl
      clear hTe
      go_wp2_with (first
        | (go_at_call 43; refine (sort_any _ w.heap.size _ T hBs (by omega) (unhide HO)).mono ?_; rintro e w5 ⟨rfl, ho5, hb5⟩; have O5 := hide ho5; have B5 := hide ((unhide HB).trans hb5); have h5s := (unhide B5).size; clear ho5 hb5)
        | (go_at_call 44; refine (compact_any _ w.heap.size _ (srt T) h5s (by rw [(unhide HSL).2.1]; omega) (unhide HSL).1 (by rw [(unhide HSL).2.1]; exact unhide O5)).mono ?_; rintro e w6 ⟨v6, rfl, ho6, hb6⟩; have O6 := hide ho6; have B6 := hide ((unhide B5).trans hb6); clear ho6 hb6))
      go_ret
      exact ⟨_, rfl, by rw [unhide HTe, ← unhide HA]; exact unhide O6, unhide B6⟩
def scs (s : ByteArray) : List Int := all (tld let1 scr (ptsOut s) (ptsOut s).length)
def sys (s : ByteArray) : List Int := all (tld dgt1 sysI (ptsOut s) (ptsOut s).length)
theorem out_len (s : ByteArray) (hs : s.size ≤ 1048576) : (ptsOut s).length ≤ 65536 := by
  unfold ptsOut
  split
  · simp
  · have := pts_le s
    omega
set_option maxRecDepth 100000 in
theorem implScs (s : ByteArray) (w : World) (ht : TabAt w) (hs : s.size ≤ 1048576) : Calls Tryz.prog 9 #[.string s] w fun e w' => ∃ v, e = .returned v ∧ w'.ownsRow w.heap.size 2 1 v (scs s).length ((scs s).map (Value.int .i64)) ∧ Below w.heap.size w w' := by
  have HT := hide ht
  clear ht
  have CP := hide (implPointsOf s w hs)
  have hl := out_len s hs
  have CR := hide (fun v W h hv => ris_a v (ptsOut s) W h hv (by omega))
  have HE : Hid (scs s = all (tld let1 scr (ptsOut s) (ptsOut s).length)) := hide rfl
  generalize scs s = Z at *
  generalize all (tld let1 scr (ptsOut s) (ptsOut s).length) = U at *
  generalize ptsOut s = L at *
  go_enter Tryz.func9, Tryz.ntmps9
  go_wp2_with (first
    | (go_at_call 26; refine (unhide CP).mono ?_; rintro e w1 ⟨v1, rfl, ho1, hb1⟩; have I1 := hide (IntsAt.owned ho1); have S1 := hide hb1.size; have B1 := hide hb1; clear ho1 hb1)
    | (go_at_call 25; refine ((unhide CR) _ _ ((unhide HT).below (unhide B1)) (unhide I1)).mono ?_; rintro e w2 ⟨v2, rfl, ho2, hb2⟩; have O2 := hide ho2; have B2 := hide (j2 (unhide B1) hb2); clear ho2 hb2))
  go_ret
  exact ⟨_, rfl, by rw [unhide HE]; exact own_monoR (unhide O2) (unhide S1), unhide B2⟩
def mix (s : ByteArray) : Bool := decide (1 < (scs s).length) || decide (1 < (sys s).length)
set_option maxRecDepth 100000 in
set_option maxHeartbeats 1000000 in
theorem implMix (s : ByteArray) (w : World) (ht : TabAt w) (hs : s.size ≤ 1048576) : Calls Tryz.prog 11 #[.string s] w fun e w' => e = .returned (.bool (mix s)) ∧ Below w.heap.size w w' := by
  have hU : undef = Value.tuple #[] := rfl
  have HT := hide ht
  have CS := hide (implScs s w ht hs)
  clear ht
  have CP := hide (fun W => implPointsOf s W hs)
  have hl := out_len s hs
  have CR := hide (fun v W h hv => ris_b v (ptsOut s) W h hv (by omega))
  have HE : Hid (mix s = (decide (1 < (scs s).length) || decide (1 < (sys s).length))) := hide rfl
  have HY : Hid (sys s = all (tld dgt1 sysI (ptsOut s) (ptsOut s).length)) := hide rfl
  rw [← unhide HY] at CR
  clear HY
  generalize mix s = z at *
  generalize scs s = X at *
  generalize sys s = Y at *
  generalize ptsOut s = L at *
  by_cases h1 : 1 < X.length
  · have h1' : (1 : Int) < (X.length : Int) := by omega
    rw [decide_eq_true h1, Bool.true_or] at HE
    go_enter Tryz.func11, Tryz.ntmps11
    go_wp2_with (go_at_call 9; refine (unhide CS).mono ?_; rintro e w1 ⟨v1, rfl, ho1, hb1⟩; obtain ⟨a1, c1, rfl, _⟩ := IntsAt.owned ho1; have B1 := hide hb1; clear ho1 hb1)
    go_ret
    exact ⟨by rw [unhide HE]; rfl, unhide B1⟩
  · have h1' : ¬ (1 : Int) < (X.length : Int) := by omega
    rw [decide_eq_false h1, Bool.false_or] at HE
    go_enter Tryz.func11, Tryz.ntmps11
    go_wp2_with (first
      | (go_at_call 9; refine (unhide CS).mono ?_; rintro e w1 ⟨v1, rfl, ho1, hb1⟩; obtain ⟨a1, c1, rfl, _⟩ := IntsAt.owned ho1; have B1 := hide hb1; clear ho1 hb1)
      | (go_at_call 26; refine ((unhide CP) _).mono ?_; rintro e w2 ⟨v2, rfl, ho2, hb2⟩; have I2 := hide (IntsAt.owned ho2); have B2 := hide (j2 (unhide B1) hb2); clear ho2 hb2)
      | (go_at_call 25; refine ((unhide CR) _ _ ((unhide HT).below (unhide B2)) (unhide I2)).mono ?_; rintro e w3 ⟨v3, rfl, ho3, hb3⟩; obtain ⟨a3, c3, rfl, _⟩ := IntsAt.owned ho3; have B3 := hide (j2 (unhide B2) hb3); clear ho3 hb3))
    go_ret
    exact ⟨by rw [unhide HE]; show Ending.returned (.bool (decide ((1 : Int) < (X.length : Int)) || decide ((1 : Int) < (Y.length : Int)))) = .returned (.bool (decide (1 < Y.length))); rw [decide_eq_false (show ¬ (1 : Int) < (X.length : Int) by omega), Bool.false_or, show decide ((1 : Int) < (Y.length : Int)) = decide (1 < Y.length) by rw [decide_eq_decide]; omega], unhide B3⟩
end Go.Proofs.YtjdginjohajmaaaGreatDoor.Ris
/- Scripts and systems of digits, as the specification tells them. -/
namespace Go.Proofs.YtjdginjohajmaaaGreatDoor.Ris
open Go.RowKit
set_option linter.unusedVariables false
set_option maxRecDepth 100000 in
theorem letS (p : Int) (w : World) : Calls Tryz.prog 49 #[.int .i64 p] w fun e w' => e = .returned (.bool (let1 p)) ∧ Below w.heap.size w w' := by
  have hU : undef = Value.tuple #[] := rfl
  have C := hide (specCat p w)
  rw [cat_eq] at C
  have HL : Hid (let1 p = ((catI p == 4 || catI p == 5 || catI p == 6) || catI p == 7)) := hide rfl
  generalize let1 p = l at *
  generalize catI p = c at *
  by_cases h4 : c = 4
  · subst h4
    go_enter Tryz.func49, Tryz.ntmps49
    go_wp2_with (go_at_call 53; refine (unhide C).mono ?_; rintro e w1 ⟨rfl, hb1⟩)
    go_ret
    exact ⟨by rw [unhide HL]; rfl, hb1⟩
  · have n4 := bf h4
    by_cases h5 : c = 5
    · subst h5
      go_enter Tryz.func49, Tryz.ntmps49
      go_wp2_with (go_at_call 53; refine (unhide C).mono ?_; rintro e w1 ⟨rfl, hb1⟩)
      go_ret
      exact ⟨by rw [unhide HL]; rfl, hb1⟩
    · have n5 := bf h5
      by_cases h6 : c = 6
      · subst h6
        go_enter Tryz.func49, Tryz.ntmps49
        go_wp2_with (go_at_call 53; refine (unhide C).mono ?_; rintro e w1 ⟨rfl, hb1⟩)
        go_ret
        exact ⟨by rw [unhide HL]; rfl, hb1⟩
      · have n6 := bf h6
        rw [n4, n5, n6] at HL
        go_enter Tryz.func49, Tryz.ntmps49
        go_wp2_with (go_at_call 53; refine (unhide C).mono ?_; rintro e w1 ⟨rfl, hb1⟩)
        go_ret
        exact ⟨by rw [unhide HL]; rfl, hb1⟩
theorem al1 (w : World) (a : Obj) : Below w.heap.size w (w.alloc a) := (Below.refl _ _).alloc (Nat.le_refl _) _
theorem ones (M : List Int) : ∀ u ∈ M.map (Value.int .i64), u.oneCell' = true := by
  intro u hu
  obtain ⟨x, _, rfl⟩ := List.mem_map.1 hu
  rfl
/-- A row of the call's own that has its block. -/
def Ob (B : Nat) (w : World) (v : Value) (l : List Int) : Prop := w.ownsRow B 2 1 v l.length (l.map (Value.int .i64)) ∧ ∃ g c, v = .slice (some ⟨g, 0, none⟩) l.length c ∧ l.length ≤ c ∧ c ≤ maxLen ∧ g < w.heap.size
theorem Ob.below {B : Nat} {w w' : World} {v : Value} {l : List Int} (h : Ob B w v l) (hb : Below w.heap.size w w') : Ob B w' v l := by
  obtain ⟨h1, g, c, e, h2, h3, h4⟩ := h
  exact ⟨ownsRow_below h1 hb, g, c, e, h2, h3, Nat.lt_of_lt_of_le h4 hb.size⟩
theorem Ob.of {B : Nat} {w : World} {v : Value} {l : List Int} (h : w.ownsRow B 2 1 v l.length (l.map (Value.int .i64))) (hn : l ≠ []) : Ob B w v l := by
  refine ⟨h, ?_⟩
  rcases h.2 with ⟨_, hn'⟩ | ⟨g, cap, cur, hv, hg, hh, h1, h2, r⟩
  · exact absurd (List.length_eq_zero_iff.1 hn') hn
  · exact ⟨g, cap, hv, h1, h2, (Array.getElem?_eq_some_iff.1 hh).1⟩
theorem ob_lit (w : World) : Ob w.heap.size (w.alloc (.cells #[] 2)) (.slice (some ⟨w.heap.size, 0, none⟩) 0 0) [] :=
  ⟨World.ownsRow_lit w #[] 0 (Nat.le_refl _) (by unfold maxLen; omega) rfl, _, _, rfl, by simp, by omega, by simp⟩
theorem put_ne (l : List Int) (n : Int) : put l n ≠ [] := by
  cases l with
  | nil => simp [put]
  | cons a l =>
    unfold put
    split
    · simp
    · split <;> simp
theorem cell_of {B : Nat} {w : World} {g c : Nat} {l : List Int} (h : w.ownsRow B 2 1 (.slice (some ⟨g, 0, none⟩) l.length c) l.length (l.map (Value.int .i64))) (i : Nat) (hi : i < l.length) : w.cell? ⟨g, i, none⟩ = some (.int .i64 (nth l i)) := by
  have hc := h.cellAt i (by omega)
  rw [hc, List.getElem?_map]
  simp [nth, List.getD, hi]
theorem row_app {w wr w1 w2 : World} {base n m : Nat} {v v' : Value} {R S : List Int} {xs : List Value} (hb : Below base w wr) (hb1 : Below base wr w1) (hB : base ≤ w1.heap.size)
    (ho : w1.ownsRow base 2 1 v n xs) (ho2 : w2.ownsRow base 2 1 v' m (R.map (Value.int .i64) ++ S.map (Value.int .i64))) (hm : m = (R ++ S).length) (hg : w1.grownBy w2 v.ownBlock) :
    w2.ownsRow base 2 1 v' (R ++ S).length ((R ++ S).map (Value.int .i64)) ∧ Below base w w2 := by
  refine ⟨?_, (hb.trans hb1).grown hg hB (fun j hj => (ho.lt j hj).1)⟩
  rw [← hm, List.map_append]
  exact ho2
theorem cells_take {w : World} {g k : Nat} {l : List Int} (hk : k ≤ l.length) (hc : ∀ i, i < l.length → w.cell? ⟨g, i, none⟩ = some (.int .i64 (nth l i))) : ∀ (j : Nat) (u : Value), ((l.take k).map (Value.int .i64))[j]? = some u → w.cell? ((⟨g, 0, none⟩ : Addr).add j) = some u := by
  intro j u hj
  have e : (⟨g, 0, none⟩ : Addr).add j = ⟨g, j, none⟩ := by unfold Addr.add; split <;> simp_all
  rw [List.getElem?_map, List.getElem?_take] at hj
  split at hj
  · rename_i hjk
    rw [e, hc j (by omega)]
    rw [List.getElem?_eq_getElem (by omega : j < l.length)] at hj
    simp at hj
    rw [← hj]
    congr 2
    unfold nth
    rw [List.getD_eq_getElem?_getD, List.getElem?_eq_getElem (by omega : j < l.length)]
    rfl
  · simp at hj
theorem cells_drop {w : World} {g k : Nat} {l : List Int} (hc : ∀ i, i < l.length → w.cell? ⟨g, i, none⟩ = some (.int .i64 (nth l i))) : ∀ (j : Nat) (u : Value), ((l.drop k).map (Value.int .i64))[j]? = some u → w.cell? ((⟨g, k, none⟩ : Addr).add j) = some u := by
  intro j u hj
  have e : (⟨g, k, none⟩ : Addr).add j = ⟨g, k + j, none⟩ := by unfold Addr.add; split <;> simp_all
  rw [List.getElem?_map, List.getElem?_drop] at hj
  by_cases hl : k + j < l.length
  · rw [e, hc _ hl]
    rw [List.getElem?_eq_getElem hl] at hj
    simp at hj
    rw [← hj]
    congr 2
    unfold nth
    rw [List.getD_eq_getElem?_getD, List.getElem?_eq_getElem hl]
    rfl
  · rw [List.getElem?_eq_none (by omega)] at hj
    simp at hj
set_option maxRecDepth 100000 in
set_option maxHeartbeats 4000000 in
theorem putS (B : Nat) (v : Value) (l : List Int) (n : Int) (w : World) (hB : B ≤ w.heap.size) (hl : l.length ≤ 1000000) (h : Ob B w v l) :
    Calls Tryz.prog 51 #[v, .int .i64 n] w fun e w' => ∃ v', e = .returned v' ∧ Ob B w' v' (put l n) ∧ Below w.heap.size w w' := by
  obtain ⟨i0, hi, hz0, hz1, hz2⟩ := info_parts info2
  have HO := hide h
  obtain ⟨ho, g, c, rfl, hc1, hc2, hg⟩ := h
  have HC := hide (fun i hi => cell_of ho i hi)
  clear ho
  unfold maxLen at hc2
  go_enter Tryz.func51, Tryz.ntmps51
  go_wp2
  go_loopw [5] (fun iv wr => ∃ k : Nat, k ≤ l.length ∧ iv = .int .i64 k ∧ Hid (∀ i, i < k → nth l i < n) ∧ wr = w) (fun iv _ => l.length - (intOf iv).toNat)
  case atStart => exact ⟨0, Nat.zero_le _, rfl, hide (fun i hi => by omega), rfl⟩
  case round =>
    obtain ⟨k, hk, rfl, HL, rfl⟩ := hrel
    by_cases hlt : k < l.length
    · have kc := (unhide HC) k hlt
      have hlt' : (k : Int) < (l.length : Int) := by omega
      obtain ⟨x, hx⟩ : ∃ x, nth l k = x := ⟨_, rfl⟩
      have HX := hide hx
      rw [hx] at kc
      clear hx
      by_cases c1 : x < n
      · go_wp2
        go_roundw
        case rel => exact ⟨k + 1, by omega, by go_num, hide (fun i hi => by by_cases e : i = k; (rw [e, unhide HX]; exact c1); exact (unhide HL) i (by omega)), trivial⟩
        case measure => simp [intOf]; omega
      · have HP := hide (put_at n l k hk (unhide HL) (.inr (by rw [unhide HX]; omega)))
        by_cases c2 : x = n
        · have c2' : (x == n) = true := by rw [beq_iff_eq]; exact c2
          have HQ : Hid (put l n = l) := hide (by rw [unhide HP, if_pos ⟨hlt, by rw [unhide HX]; exact c2⟩])
          clear HP
          go_wp2
          go_ret
          exact ⟨_, rfl, by rw [unhide HQ]; exact unhide HO, Below.refl _ _⟩
        · have c2' : (x == n) = false := by rw [beq_eq_false_iff_ne]; exact c2
          have HQ : Hid (put l n = (l.take k ++ [n]) ++ l.drop k) := hide (by rw [unhide HP, if_neg (fun g => c2 (by rw [← unhide HX]; exact g.2))]; simp)
          clear HP
          have HL0 : Hid ((wr.alloc (.cells #[] 2)).ownsRow wr.heap.size 2 1 (.slice (some ⟨wr.heap.size, 0, none⟩) 0 0) 0 []) := hide (World.ownsRow_lit wr #[] 0 (Nat.le_refl _) (by unfold maxLen; omega) rfl)
          have HB1 : Hid (Below wr.heap.size wr (wr.alloc (.cells #[] 2))) := hide (al1 _ _)
          obtain ⟨P, hP⟩ : ∃ P, l.take k = P := ⟨_, rfl⟩
          obtain ⟨Q, hQ⟩ : ∃ Q, l.drop k = Q := ⟨_, rfl⟩
          have hPl : P.length = k := by rw [← hP, List.length_take]; omega
          have hQl : Q.length = l.length - k := by rw [← hQ, List.length_drop]
          have HCT : Hid (∀ W, Below wr.heap.size wr W → ∀ (j : Nat) (u : Value), (P.map (Value.int .i64))[j]? = some u → W.cell? ((⟨g, 0, none⟩ : Addr).add j) = some u) := hide (fun W hW => by rw [← hP]; exact cells_take (by omega) (fun i hi => (hW.cell (p := ⟨g, i, none⟩) hg).trans ((unhide HC) i hi)))
          have HCD : Hid (∀ W, Below wr.heap.size wr W → ∀ (j : Nat) (u : Value), (Q.map (Value.int .i64))[j]? = some u → W.cell? ((⟨g, k, none⟩ : Addr).add j) = some u) := hide (fun W hW => by rw [← hQ]; exact cells_drop (fun i hi => (hW.cell (p := ⟨g, i, none⟩) hg).trans ((unhide HC) i hi)))
          have HQ2 : Hid (put l n = (P ++ [n]) ++ Q) := hide (by rw [unhide HQ, hP, hQ])
          clear hP hQ HQ
          go_wp2_with (at_builtin; go_loud (refine wpList_appG _ rfl _ _ 28 rfl wr.heap.size 2 i0 (.int .i64 0) 1 8 Tryz.underlying28 hi hz0 hz1 hz2 rfl (by decide) _ _ _ rfl (unhide HL0) ⟨g, 0, none⟩ k _ (P.map (Value.int .i64)) rfl (by rw [List.length_map]; omega) ((unhide HCT) _ (unhide HB1)) (ones _) ?c3 ?c4 ?c5 ?_))
          case c3 => unfold maxLen; omega
          case c4 => omega
          intro v2 w2 ho2 hg2 _
          have B2 := hide ((unhide HB1).trans ((Below.refl wr.heap.size _).grown hg2 (by simp) (fun j hj => ((unhide HL0).lt j hj).1)))
          have hs2 := (unhide B2).size
          have O2 : Hid (w2.ownsRow wr.heap.size 2 1 v2 P.length (P.map (Value.int .i64))) := hide (by rw [hPl]; exact ho2)
          clear ho2 hg2 HL0
          go_wp2_with (at_builtin; refine wpList_appG _ rfl _ _ 28 rfl wr.heap.size 2 i0 (.int .i64 0) 1 8 Tryz.underlying28 hi hz0 hz1 hz2 rfl (by decide) _ _ _ rfl ((unhide O2).alloc _) ⟨w2.heap.size, 0, none⟩ 1 1 [.int .i64 n] rfl rfl (one_newR _ _ _) ?d2 ?d3 ?d4 ?d5 ?_)
          case d2 => intro u hu; simp at hu; subst hu; rfl
          case d3 => unfold maxLen; omega
          case d4 => omega
          case d5 => simp; omega
          intro v3 w3 ho3 hg3 _
          have R3 := hide (row_many (R := P) (S := [n]) (unhide B2) (Below.refl _ _) hs2 (unhide O2) ho3 (by simp; omega) hg3)
          have hs3 := (unhide R3).2.size
          have hRl : (P ++ [n]).length = P.length + 1 := by simp
          have O3 := hide (unhide R3).1
          have B3 := hide (unhide R3).2
          clear ho3 hg3 R3
          generalize P ++ [n] = R at *
          go_wp2_with (at_builtin; go_loud (refine wpList_appG _ rfl _ _ 28 rfl wr.heap.size 2 i0 (.int .i64 0) 1 8 Tryz.underlying28 hi hz0 hz1 hz2 rfl (by decide) _ _ _ rfl (unhide O3) ⟨g, k, none⟩ _ _ (Q.map (Value.int .i64)) rfl (by rw [List.length_map]; omega) ((unhide HCD) _ (unhide B3)) (ones _) ?e3 ?e4 ?e5 ?_))
          case e3 => unfold maxLen; omega
          case e4 => omega
          case e5 => exact hs3
          intro v4 w4 ho4 hg4 _
          have R4 := hide (row_app (R := R) (S := Q) (unhide B3) (Below.refl _ _) hs3 (unhide O3) ho4 (by rw [List.length_append]; omega) hg4)
          clear ho4 hg4
          go_wp2
          go_ret
          exact ⟨_, rfl, by rw [unhide HQ2]; exact Ob.of (own_monoR (unhide R4).1 hB) (by intro e; have h9 := congrArg List.length e; rw [List.length_append, List.length_nil] at h9; omega), (unhide R4).2⟩
    · obtain rfl : k = l.length := by omega
      have HP := hide (put_at n l l.length (Nat.le_refl _) (unhide HL) (.inl rfl))
      have HQ : Hid (put l n = (l.take l.length ++ [n]) ++ l.drop l.length) := hide (by rw [unhide HP, if_neg (fun g => by omega)]; simp)
      clear HP
      by_cases hcc : c = l.length
      · subst hcc
        have HL0 : Hid ((wr.alloc (.cells #[] 2)).ownsRow wr.heap.size 2 1 (.slice (some ⟨wr.heap.size, 0, none⟩) 0 0) 0 []) := hide (World.ownsRow_lit wr #[] 0 (Nat.le_refl _) (by unfold maxLen; omega) rfl)
        have HB1 : Hid (Below wr.heap.size wr (wr.alloc (.cells #[] 2))) := hide (al1 _ _)
        obtain ⟨P, hP⟩ : ∃ P, l.take l.length = P := ⟨_, rfl⟩
        obtain ⟨Q, hQ⟩ : ∃ Q, l.drop l.length = Q := ⟨_, rfl⟩
        have hPl : P.length = l.length := by rw [← hP, List.length_take]; omega
        have hQl : Q.length = l.length - l.length := by rw [← hQ, List.length_drop]
        have HCT : Hid (∀ W, Below wr.heap.size wr W → ∀ (j : Nat) (u : Value), (P.map (Value.int .i64))[j]? = some u → W.cell? ((⟨g, 0, none⟩ : Addr).add j) = some u) := hide (fun W hW => by rw [← hP]; exact cells_take (by omega) (fun i hi => (hW.cell (p := ⟨g, i, none⟩) hg).trans ((unhide HC) i hi)))
        have HCD : Hid (∀ W, Below wr.heap.size wr W → ∀ (j : Nat) (u : Value), (Q.map (Value.int .i64))[j]? = some u → W.cell? ((⟨g, l.length, none⟩ : Addr).add j) = some u) := hide (fun W hW => by rw [← hQ]; exact cells_drop (fun i hi => (hW.cell (p := ⟨g, i, none⟩) hg).trans ((unhide HC) i hi)))
        have HQ2 : Hid (put l n = (P ++ [n]) ++ Q) := hide (by rw [unhide HQ, hP, hQ])
        clear hP hQ HQ
        go_wp2_with (at_builtin; go_loud (refine wpList_appG _ rfl _ _ 28 rfl wr.heap.size 2 i0 (.int .i64 0) 1 8 Tryz.underlying28 hi hz0 hz1 hz2 rfl (by decide) _ _ _ rfl (unhide HL0) ⟨g, 0, none⟩ l.length _ (P.map (Value.int .i64)) rfl (by rw [List.length_map]; omega) ((unhide HCT) _ (unhide HB1)) (ones _) ?c3 ?c4 ?c5 ?_))
        case c3 => unfold maxLen; omega
        case c4 => omega
        intro v2 w2 ho2 hg2 _
        have B2 := hide ((unhide HB1).trans ((Below.refl wr.heap.size _).grown hg2 (by simp) (fun j hj => ((unhide HL0).lt j hj).1)))
        have hs2 := (unhide B2).size
        have O2 : Hid (w2.ownsRow wr.heap.size 2 1 v2 P.length (P.map (Value.int .i64))) := hide (by rw [hPl]; exact ho2)
        clear ho2 hg2 HL0
        go_wp2_with (at_builtin; refine wpList_appG _ rfl _ _ 28 rfl wr.heap.size 2 i0 (.int .i64 0) 1 8 Tryz.underlying28 hi hz0 hz1 hz2 rfl (by decide) _ _ _ rfl ((unhide O2).alloc _) ⟨w2.heap.size, 0, none⟩ 1 1 [.int .i64 n] rfl rfl (one_newR _ _ _) ?d2 ?d3 ?d4 ?d5 ?_)
        case d2 => intro u hu; simp at hu; subst hu; rfl
        case d3 => unfold maxLen; omega
        case d4 => omega
        case d5 => simp; omega
        intro v3 w3 ho3 hg3 _
        have R3 := hide (row_many (R := P) (S := [n]) (unhide B2) (Below.refl _ _) hs2 (unhide O2) ho3 (by simp; omega) hg3)
        have hs3 := (unhide R3).2.size
        have hRl : (P ++ [n]).length = P.length + 1 := by simp
        have O3 := hide (unhide R3).1
        have B3 := hide (unhide R3).2
        clear ho3 hg3 R3
        generalize P ++ [n] = R at *
        go_wp2_with (at_builtin; go_loud (refine wpList_appG _ rfl _ _ 28 rfl wr.heap.size 2 i0 (.int .i64 0) 1 8 Tryz.underlying28 hi hz0 hz1 hz2 rfl (by decide) _ _ _ rfl (unhide O3) _ _ _ (Q.map (Value.int .i64)) rfl (by rw [List.length_map]; omega) (fun j u hj => by have e : Q = [] := List.length_eq_zero_iff.1 (by omega); subst e; simp at hj) (ones _) ?e3 ?e4 ?e5 ?_))
        case e3 => unfold maxLen; omega
        case e4 => omega
        case e5 => exact hs3
        intro v4 w4 ho4 hg4 _
        have R4 := hide (row_app (R := R) (S := Q) (unhide B3) (Below.refl _ _) hs3 (unhide O3) ho4 (by rw [List.length_append]; omega) hg4)
        clear ho4 hg4
        go_wp2
        go_ret
        exact ⟨_, rfl, by rw [unhide HQ2]; exact Ob.of (own_monoR (unhide R4).1 hB) (by intro e; have h9 := congrArg List.length e; rw [List.length_append, List.length_nil] at h9; omega), (unhide R4).2⟩
      · have hcc' : l.length < c := by omega
        have HL0 : Hid ((wr.alloc (.cells #[] 2)).ownsRow wr.heap.size 2 1 (.slice (some ⟨wr.heap.size, 0, none⟩) 0 0) 0 []) := hide (World.ownsRow_lit wr #[] 0 (Nat.le_refl _) (by unfold maxLen; omega) rfl)
        have HB1 : Hid (Below wr.heap.size wr (wr.alloc (.cells #[] 2))) := hide (al1 _ _)
        obtain ⟨P, hP⟩ : ∃ P, l.take l.length = P := ⟨_, rfl⟩
        obtain ⟨Q, hQ⟩ : ∃ Q, l.drop l.length = Q := ⟨_, rfl⟩
        have hPl : P.length = l.length := by rw [← hP, List.length_take]; omega
        have hQl : Q.length = l.length - l.length := by rw [← hQ, List.length_drop]
        have HCT : Hid (∀ W, Below wr.heap.size wr W → ∀ (j : Nat) (u : Value), (P.map (Value.int .i64))[j]? = some u → W.cell? ((⟨g, 0, none⟩ : Addr).add j) = some u) := hide (fun W hW => by rw [← hP]; exact cells_take (by omega) (fun i hi => (hW.cell (p := ⟨g, i, none⟩) hg).trans ((unhide HC) i hi)))
        have HCD : Hid (∀ W, Below wr.heap.size wr W → ∀ (j : Nat) (u : Value), (Q.map (Value.int .i64))[j]? = some u → W.cell? ((⟨g, l.length, none⟩ : Addr).add j) = some u) := hide (fun W hW => by rw [← hQ]; exact cells_drop (fun i hi => (hW.cell (p := ⟨g, i, none⟩) hg).trans ((unhide HC) i hi)))
        have HQ2 : Hid (put l n = (P ++ [n]) ++ Q) := hide (by rw [unhide HQ, hP, hQ])
        clear hP hQ HQ
        go_wp2_with (at_builtin; go_loud (refine wpList_appG _ rfl _ _ 28 rfl wr.heap.size 2 i0 (.int .i64 0) 1 8 Tryz.underlying28 hi hz0 hz1 hz2 rfl (by decide) _ _ _ rfl (unhide HL0) ⟨g, 0, none⟩ l.length _ (P.map (Value.int .i64)) rfl (by rw [List.length_map]; omega) ((unhide HCT) _ (unhide HB1)) (ones _) ?c3 ?c4 ?c5 ?_))
        case c3 => unfold maxLen; omega
        case c4 => omega
        intro v2 w2 ho2 hg2 _
        have B2 := hide ((unhide HB1).trans ((Below.refl wr.heap.size _).grown hg2 (by simp) (fun j hj => ((unhide HL0).lt j hj).1)))
        have hs2 := (unhide B2).size
        have O2 : Hid (w2.ownsRow wr.heap.size 2 1 v2 P.length (P.map (Value.int .i64))) := hide (by rw [hPl]; exact ho2)
        clear ho2 hg2 HL0
        go_wp2_with (at_builtin; refine wpList_appG _ rfl _ _ 28 rfl wr.heap.size 2 i0 (.int .i64 0) 1 8 Tryz.underlying28 hi hz0 hz1 hz2 rfl (by decide) _ _ _ rfl ((unhide O2).alloc _) ⟨w2.heap.size, 0, none⟩ 1 1 [.int .i64 n] rfl rfl (one_newR _ _ _) ?d2 ?d3 ?d4 ?d5 ?_)
        case d2 => intro u hu; simp at hu; subst hu; rfl
        case d3 => unfold maxLen; omega
        case d4 => omega
        case d5 => simp; omega
        intro v3 w3 ho3 hg3 _
        have R3 := hide (row_many (R := P) (S := [n]) (unhide B2) (Below.refl _ _) hs2 (unhide O2) ho3 (by simp; omega) hg3)
        have hs3 := (unhide R3).2.size
        have hRl : (P ++ [n]).length = P.length + 1 := by simp
        have O3 := hide (unhide R3).1
        have B3 := hide (unhide R3).2
        clear ho3 hg3 R3
        generalize P ++ [n] = R at *
        go_wp2_with (at_builtin; go_loud (refine wpList_appG _ rfl _ _ 28 rfl wr.heap.size 2 i0 (.int .i64 0) 1 8 Tryz.underlying28 hi hz0 hz1 hz2 rfl (by decide) _ _ _ rfl (unhide O3) _ _ _ (Q.map (Value.int .i64)) rfl (by rw [List.length_map]; omega) (fun j u hj => by have e : Q = [] := List.length_eq_zero_iff.1 (by omega); subst e; simp at hj) (ones _) ?e3 ?e4 ?e5 ?_))
        case e3 => unfold maxLen; omega
        case e4 => omega
        case e5 => exact hs3
        intro v4 w4 ho4 hg4 _
        have R4 := hide (row_app (R := R) (S := Q) (unhide B3) (Below.refl _ _) hs3 (unhide O3) ho4 (by rw [List.length_append]; omega) hg4)
        clear ho4 hg4
        go_wp2
        go_ret
        exact ⟨_, rfl, by rw [unhide HQ2]; exact Ob.of (own_monoR (unhide R4).1 hB) (by intro e; have h9 := congrArg List.length e; rw [List.length_append, List.length_nil] at h9; omega), (unhide R4).2⟩
set_option maxRecDepth 100000 in
theorem sysS_any (p : Int) (w : World) (h0 : 0 ≤ p) (h1 : p ≤ 1114111) : Calls Tryz.prog 54 #[.int .i64 p] w fun e w' => e = .returned (.int .i64 (sysS p)) ∧ w' = w := by
  have eq : p.tdiv 256 = p / 256 := Int.tdiv_eq_ediv_of_nonneg h0
  by_cases c1 : p < 512
  · rw [show sysS p = 0 by unfold sysS; rw [if_pos c1]]
    go_enter Tryz.func54, Tryz.ntmps54
    go_wp2
    go_ret
    exact ⟨rfl, rfl⟩
  · by_cases c2 : p < 1792
    · rw [show sysS p = p / 256 - 1 by unfold sysS; rw [if_neg c1, if_pos c2]]
      have q0 : 0 ≤ p / 256 := by omega
      have q1 : p / 256 ≤ 10 := by omega
      generalize p / 256 = q at *
      go_enter Tryz.func54, Tryz.ntmps54
      go_wp2
      go_ret
      exact ⟨rfl, rfl⟩
    · rw [show sysS p = 6 by unfold sysS; rw [if_neg c1, if_neg c2]]
      go_enter Tryz.func54, Tryz.ntmps54
      go_wp2
      go_ret
      exact ⟨rfl, rfl⟩
theorem nth_in {L : List Int} {j : Nat} (h : j < L.length) : nth L j ∈ L := by
  unfold nth
  rw [List.getD_eq_getElem?_getD, List.getElem?_eq_getElem h]
  exact List.getElem_mem h
theorem allT_len (ask : Int → Bool) (tel : Int → Int) (L : List Int) (k : Nat) : (all (tld ask tel L k)).length ≤ L.length := Nat.le_trans (all_len _) (tld_len ask tel L k)
set_option maxRecDepth 100000 in
set_option maxHeartbeats 2000000 in
theorem scriptsS (v : Value) (L : List Int) (w : World) (hv : IntsAt w v L) (hL : L.length ≤ 131072) :
    Calls Tryz.prog 29 #[v] w fun e w' => ∃ v', e = .returned v' ∧ Ob w.heap.size w' v' (all (tld let1 scr L L.length)) ∧ Below w.heap.size w w' := by
  have HV := hide hv
  obtain ⟨va, cap, rfl, _⟩ := hv
  have HO0 := hide (ob_lit w)
  have HB0 : Hid (Below w.heap.size w (w.alloc (.cells #[] 2))) := hide (al1 _ _)
  go_enter Tryz.func29, Tryz.ntmps29
  go_wp2
  go_loopw [3, 4] (fun lv iv wr => ∃ k : Nat, k ≤ L.length ∧ iv = .int .i64 k ∧ Hid (Ob w.heap.size wr lv (all (tld let1 scr L k))) ∧ Hid (Below w.heap.size w wr)) (fun _ iv _ => L.length - (intOf iv).toNat)
  case atStart => exact ⟨0, Nat.zero_le _, rfl, HO0, HB0⟩
  case round =>
    obtain ⟨k, hk, rfl, HO, HB⟩ := hrel
    clear HO0 HB0
    have hBs := (unhide HB).size
    have hal := allT_len let1 scr L k
    by_cases hlt : k < L.length
    · obtain ⟨b, off, cp, he, hbw, hc⟩ := rd_at (unhide HV) (by omega)
      cases he
      have kc := ((unhide HB).cell (p := ⟨b, off + k, none⟩) hbw).trans (hc k hlt)
      have hbr : b < wr.heap.size := by omega
      have CA := hide (fun W => letS (nth L k) W)
      have CT := hide (fun W => scrS_any (nth L k) W)
      have HY := hide (fun h => tld_yes (ask := let1) (tel := scr) hlt h)
      have HN := hide (fun h => tld_no (ask := let1) (tel := scr) hlt h)
      have HSC := hide (fun h => let_scr (nth L k) h)
      clear hc
      cases ha : let1 (nth L k) with
      | true =>
        rw [ha] at CA
        have hsc := (unhide HSC) ha
        have HS : Hid (all (tld let1 scr L (k + 1)) = put (all (tld let1 scr L k)) (scr (nth L k))) := hide (by rw [(unhide HY) ha, all_snoc])
        clear ha HY HN HSC
        generalize nth L k = p at *
        generalize scr p = z at *
        generalize hA : all (tld let1 scr L k) = Rr at *
        clear hA
        have CPt := hide (fun V W h o => putS w.heap.size V Rr z W h (by omega) o)
        have TOK : True := trivial
        go_wp2_with (first
          | (go_at_call 49; refine ((unhide CA) _).mono ?_; rintro e w1 ⟨rfl, hb1⟩; have kc1 := (hb1.cell (p := ⟨b, off + k, none⟩) hbr).trans kc; have hbr1 : b < w1.heap.size := Nat.lt_of_lt_of_le hbr hb1.size; have O1 := hide ((unhide HO).below hb1); have B1 := hide (j2 (unhide HB) hb1); clear hb1)
          | (clear TOK; go_at_call 50; refine ((unhide CT) _).mono ?_; rintro e w2 ⟨rfl, hb2⟩; have kc2 := (hb2.cell (p := ⟨b, off + k, none⟩) hbr1).trans kc1; have hbr2 : b < w2.heap.size := Nat.lt_of_lt_of_le hbr1 hb2.size; have O2 := hide ((unhide O1).below hb2); have B2 := hide (j2 (unhide B1) hb2); clear hb2)
          | (go_at_call 50; refine ((unhide CT) _).mono ?_; rintro e w3 ⟨rfl, hb3⟩; have O3 := hide ((unhide O2).below hb3); have B3 := hide (j2 (unhide B2) hb3); have h3s := (unhide B3).size; clear hb3)
          | (go_at_call 51; refine ((unhide CPt) _ _ h3s (unhide O3)).mono ?_; rintro e w4 ⟨v4, rfl, ho4, hb4⟩; have O4 := hide ho4; have B4 := hide (j2 (unhide B3) hb4); clear ho4 hb4))
        go_roundw
        case rel => exact ⟨k + 1, by omega, by go_num, hide (by rw [unhide HS]; exact unhide O4), B4⟩
        case measure => simp [intOf]; omega
      | false =>
        rw [ha] at CA
        have HS := hide ((unhide HN) ha)
        clear ha HY HN HSC
        generalize nth L k = p at *
        go_wp2_with (go_at_call 49; refine ((unhide CA) _).mono ?_; rintro e w1 ⟨rfl, hb1⟩; have O1 := hide ((unhide HO).below hb1); have B1 := hide (j2 (unhide HB) hb1); clear hb1)
        go_roundw
        case rel => exact ⟨k + 1, by omega, by go_num, hide (by rw [unhide HS]; exact unhide O1), B1⟩
        case measure => simp [intOf]; omega
    · obtain rfl : k = L.length := by omega
      go_wp2
      go_ret
      exact ⟨_, rfl, unhide HO, unhide HB⟩
end Go.Proofs.YtjdginjohajmaaaGreatDoor.Ris
/- ScriptsOf and IsMixed of the specification; the laws. -/
namespace Go.Proofs.YtjdginjohajmaaaGreatDoor.Ris
open Go.RowKit
set_option linter.unusedVariables false
set_option maxRecDepth 100000 in
set_option maxHeartbeats 2000000 in
theorem mixedS (v : Value) (L : List Int) (w : World) (hv : IntsAt w v L) (hL : L.length ≤ 131072) (hP : ∀ x ∈ L, 0 ≤ x ∧ x ≤ 1114111) :
    Calls Tryz.prog 33 #[v] w fun e w' => e = .returned (.bool (decide (1 < (all (tld let1 scr L L.length)).length) || decide (1 < (all (tld dgt1 sysS L L.length)).length))) ∧ Below w.heap.size w w' := by
  have HV := hide hv
  have HP := hide hP
  clear hP
  obtain ⟨va, cap, rfl, _⟩ := hv
  have HO0 := hide (ob_lit w)
  have HB0 : Hid (Below w.heap.size w (w.alloc (.cells #[] 2))) := hide (al1 _ _)
  go_enter Tryz.func33, Tryz.ntmps33
  go_wp2
  go_loopw [3, 4] (fun lv iv wr => ∃ k : Nat, k ≤ L.length ∧ iv = .int .i64 k ∧ Hid (Ob w.heap.size wr lv (all (tld dgt1 sysS L k))) ∧ Hid (Below w.heap.size w wr)) (fun _ iv _ => L.length - (intOf iv).toNat)
  case atStart => exact ⟨0, Nat.zero_le _, rfl, HO0, HB0⟩
  case round =>
    obtain ⟨k, hk, rfl, HO, HB⟩ := hrel
    clear HO0 HB0
    have hBs := (unhide HB).size
    have hal := allT_len dgt1 sysS L k
    by_cases hlt : k < L.length
    · obtain ⟨b, off, cp, he, hbw, hc⟩ := rd_at (unhide HV) (by omega)
      cases he
      have kc := ((unhide HB).cell (p := ⟨b, off + k, none⟩) hbw).trans (hc k hlt)
      have hbr : b < wr.heap.size := by omega
      have hpp := (unhide HP) _ (nth_in hlt)
      have CA := hide (fun W => specCat (nth L k) W)
      rw [cat_eq] at CA
      have CT := hide (fun W => sysS_any (nth L k) W hpp.1 hpp.2)
      have HY := hide (fun h => tld_yes (ask := dgt1) (tel := sysS) hlt h)
      have HN := hide (fun h => tld_no (ask := dgt1) (tel := sysS) hlt h)
      clear hc hpp
      cases ha : dgt1 (nth L k) with
      | true =>
        have hc8 : (catI (nth L k) == 8) = true := ha
        have HS : Hid (all (tld dgt1 sysS L (k + 1)) = put (all (tld dgt1 sysS L k)) (sysS (nth L k))) := hide (by rw [(unhide HY) ha, all_snoc])
        clear ha HY HN
        generalize catI (nth L k) = c at *
        generalize hZ : sysS (nth L k) = z at *
        clear hZ
        generalize nth L k = p at *
        generalize hA : all (tld dgt1 sysS L k) = Rr at *
        clear hA
        have CPt := hide (fun V W h o => putS w.heap.size V Rr z W h (by omega) o)
        go_wp2_with (first
          | (go_at_call 53; refine ((unhide CA) _).mono ?_; rintro e w1 ⟨rfl, hb1⟩; have kc1 := (hb1.cell (p := ⟨b, off + k, none⟩) hbr).trans kc; have O1 := hide ((unhide HO).below hb1); have B1 := hide (j2 (unhide HB) hb1); have h1s := (unhide B1).size; clear hb1)
          | (go_at_call 54; refine ((unhide CT) _).mono ?_; rintro e w' ⟨rfl, hw⟩; obtain rfl := hw.symm; clear hw)
          | (go_at_call 51; refine ((unhide CPt) _ _ h1s (unhide O1)).mono ?_; rintro e w4 ⟨v4, rfl, ho4, hb4⟩; have O4 := hide ho4; have B4 := hide (j2 (unhide B1) hb4); clear ho4 hb4))
        go_roundw
        case rel => exact ⟨k + 1, by omega, by go_num, hide (by rw [unhide HS]; exact unhide O4), B4⟩
        case measure => simp [intOf]; omega
      | false =>
        have hc8 : (catI (nth L k) == 8) = false := ha
        have HS := hide ((unhide HN) ha)
        clear ha HY HN
        generalize catI (nth L k) = c at *
        generalize nth L k = p at *
        go_wp2_with (go_at_call 53; refine ((unhide CA) _).mono ?_; rintro e w1 ⟨rfl, hb1⟩; have O1 := hide ((unhide HO).below hb1); have B1 := hide (j2 (unhide HB) hb1); clear hb1)
        go_roundw
        case rel => exact ⟨k + 1, by omega, by go_num, hide (by rw [unhide HS]; exact unhide O1), B1⟩
        case measure => simp [intOf]; omega
    · obtain rfl : k = L.length := by omega
      have CS := hide (fun V W h => scriptsS V L W h hL)
      obtain ⟨X, hX⟩ : ∃ X, all (tld let1 scr L L.length) = X := ⟨_, rfl⟩
      obtain ⟨Y, hY⟩ : ∃ Y, all (tld dgt1 sysS L L.length) = Y := ⟨_, rfl⟩
      have HX := hide hX
      have HY := hide hY
      rw [hX] at CS
      rw [hY] at HO
      have hU : undef = Value.tuple #[] := rfl
      clear hX hY
      obtain ⟨_, go', co', rfl, _, _, _⟩ := unhide HO
      by_cases h1 : 1 < X.length
      · have h1' : (1 : Int) < (X.length : Int) := by omega
        go_wp2_with (go_at_call 29; refine ((unhide CS) _ _ ((unhide HV).below (unhide HB))).mono ?_; rintro e w5 ⟨v5, rfl, ho5, hb5⟩; obtain ⟨_, g5, c5, rfl, _, _, _⟩ := ho5; have B5 := hide (j2 (unhide HB) hb5); clear hb5)
        go_ret
        exact ⟨by rw [unhide HX, decide_eq_true h1, Bool.true_or]; rfl, unhide B5⟩
      · have h1' : ¬ (1 : Int) < (X.length : Int) := by omega
        go_wp2_with (go_at_call 29; refine ((unhide CS) _ _ ((unhide HV).below (unhide HB))).mono ?_; rintro e w5 ⟨v5, rfl, ho5, hb5⟩; obtain ⟨_, g5, c5, rfl, _, _, _⟩ := ho5; have B5 := hide (j2 (unhide HB) hb5); clear hb5)
        go_ret
        exact ⟨by rw [unhide HX, unhide HY, decide_eq_false h1, Bool.false_or]; show Ending.returned (.bool (decide ((1 : Int) < (X.length : Int)) || decide ((1 : Int) < (Y.length : Int)))) = _; rw [decide_eq_false (show ¬ (1 : Int) < (X.length : Int) by omega), Bool.false_or, show decide ((1 : Int) < (Y.length : Int)) = decide (1 < Y.length) by rw [decide_eq_decide]; omega], unhide B5⟩
theorem steps_bd2 (s : ByteArray) : ∀ n, ∀ p ∈ (steps s n).1, 0 ≤ p ∧ p ≤ 1114111
  | 0 => by simp [steps]
  | n + 1 => by
    unfold steps
    split
    · rename_i h
      intro p hp
      rcases List.mem_append.1 hp with hp | hp
      · exact steps_bd2 s n p hp
      · rw [List.mem_singleton] at hp
        have := (dN_bd s _ h).2.2
        omega
    · exact steps_bd2 s n
theorem pts_bd2 (s : ByteArray) : ∀ x ∈ pts s, 0 ≤ x ∧ x ≤ 1114111 := steps_bd2 s _
set_option maxRecDepth 100000 in
theorem specScs (s : ByteArray) (w : World) : Calls Tryz.prog 10 #[.string s] w fun e w' => ∃ v, e = .returned v ∧ IntsAt w' v (scs s) ∧ Below w.heap.size w w' := by
  by_cases hs : 65536 < s.size
  · have hs' : (65536 : Int) < (s.size : Int) := by omega
    have HE : Hid (scs s = []) := hide (by unfold scs ptsOut; rw [if_pos hs]; rfl)
    go_enter Tryz.func10, Tryz.ntmps10
    go_wp2
    go_ret
    exact ⟨_, rfl, by rw [unhide HE]; exact ⟨_, _, rfl, .inl rfl⟩, al1 _ _⟩
  · have hs' : ¬ (65536 : Int) < (s.size : Int) := by omega
    have hpo : ptsOut s = pts s := by unfold ptsOut; rw [if_neg (by omega)]
    have CP := hide (l01Points s w (by omega))
    have hle := pts_le s
    have CS := hide (fun v W h => scriptsS v (pts s) W h (by omega))
    have HE : Hid (scs s = all (tld let1 scr (pts s) (pts s).length)) := hide (by unfold scs; rw [hpo])
    clear hpo hle
    generalize scs s = Z at *
    generalize all (tld let1 scr (pts s) (pts s).length) = U at *
    generalize pts s = L at *
    go_enter Tryz.func10, Tryz.ntmps10
    go_wp2_with (first
      | (go_at_call 30; refine (unhide CP).mono ?_; rintro e w1 ⟨v1, rfl, ho1, hb1⟩; have I1 := hide (IntsAt.owned ho1); have B1 := hide hb1; clear ho1 hb1)
      | (go_at_call 29; refine ((unhide CS) _ _ (unhide I1)).mono ?_; rintro e w2 ⟨v2, rfl, ho2, hb2⟩; have O2 := hide (IntsAt.owned ho2.1); have B2 := hide (j2 (unhide B1) hb2); clear ho2 hb2))
    go_ret
    exact ⟨_, rfl, by rw [unhide HE]; exact unhide O2, unhide B2⟩
set_option maxRecDepth 100000 in
theorem specMix (s : ByteArray) (w : World) : Calls Tryz.prog 12 #[.string s] w fun e w' => e = .returned (.bool (mix s)) ∧ Below w.heap.size w w' := by
  have hU : undef = Value.tuple #[] := rfl
  by_cases hs : s.size ≤ 65536
  · have hs' : (s.size : Int) ≤ 65536 := by omega
    have hpo : ptsOut s = pts s := by unfold ptsOut; rw [if_neg (by omega)]
    have CP := hide (fun W => l01Points s W (by omega))
    have hle := pts_le s
    have CS := hide (fun v W h => mixedS v (pts s) W h (by omega) (pts_bd2 s))
    have HE : Hid (mix s = (decide (1 < (all (tld let1 scr (pts s) (pts s).length)).length) || decide (1 < (all (tld dgt1 sysS (pts s) (pts s).length)).length))) := hide (by unfold mix scs sys; rw [hpo, tld_sys])
    clear hpo hle
    rw [← unhide HE] at CS
    clear HE
    generalize mix s = z at *
    generalize pts s = L at *
    go_enter Tryz.func12, Tryz.ntmps12
    go_wp2_with (first
      | (go_at_call 30; refine ((unhide CP) _).mono ?_; rintro e w1 ⟨v1, rfl, ho1, hb1⟩; have I1 := hide (IntsAt.owned ho1); have B1 := hide hb1; clear ho1 hb1)
      | (go_at_call 33; refine ((unhide CS) _ _ (unhide I1)).mono ?_; rintro e w2 ⟨rfl, hb2⟩; have B2 := hide (j2 (unhide B1) hb2); clear hb2))
    go_ret
    exact ⟨rfl, unhide B2⟩
  · have hs' : ¬ (s.size : Int) ≤ 65536 := by omega
    have HE : Hid (mix s = false) := hide (by unfold mix scs sys ptsOut; rw [if_pos (by omega)]; rfl)
    go_enter Tryz.func12, Tryz.ntmps12
    go_wp2
    go_ret
    exact ⟨by rw [unhide HE]; rfl, Below.refl _ _⟩
end Go.Proofs.YtjdginjohajmaaaGreatDoor.Ris
