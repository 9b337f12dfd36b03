/- Numbers in rising order, each once: put one by one into their places, or sorted and each kept once. Pure. -/
import Derived.Test.YtomgficdlfadaaaDoorScrK
import Derived.Test.YtomgficdlfadaaaDoorIntA
namespace Go.Proofs.YtomgficdlfadaaaDoor.Ris
open Go.RowKit
set_option linter.unusedVariables false
def cpt (a : Int) : List Int → List Int
  | [] => []
  | x :: l => if x = a then cpt a l else x :: cpt x l
def cmp (L : List Int) : List Int := match L with | [] => [] | x :: l => x :: cpt x l
theorem cpt_ok (l : List Int) : ∀ a : Int, (a :: l).Pairwise (· ≤ ·) → (a :: cpt a l).Pairwise (· < ·) ∧ ∀ y, y ∈ a :: cpt a l ↔ y ∈ a :: l := by
  induction l with
  | nil => intro a _; exact ⟨by simp [cpt], fun y => by simp [cpt]⟩
  | cons x l ih =>
    intro a h
    rw [List.pairwise_cons] at h
    unfold cpt
    by_cases e : x = a
    · rw [if_pos e]
      obtain ⟨h1, h2⟩ := ih a (by rw [← e]; exact h.2)
      refine ⟨h1, fun y => ?_⟩
      rw [h2]
      simp [e]
    · rw [if_neg e]
      obtain ⟨h1, h2⟩ := ih x h.2
      refine ⟨?_, fun y => ?_⟩
      · rw [List.pairwise_cons]
        refine ⟨fun b hb => ?_, h1⟩
        have hxa := h.1 x (by simp)
        rcases List.mem_cons.1 hb with rfl | hb'
        · omega
        · have := (List.pairwise_cons.1 h1).1 b hb'
          omega
      · rw [List.mem_cons, h2, List.mem_cons (a := y) (b := a)]
theorem cmp_ok (L : List Int) (h : L.Pairwise (· ≤ ·)) : (cmp L).Pairwise (· < ·) ∧ ∀ y, y ∈ cmp L ↔ y ∈ L := by
  cases L with
  | nil => exact ⟨List.Pairwise.nil, fun y => Iff.rfl⟩
  | cons x l => exact cpt_ok l x h
theorem rise_one : ∀ {a b : List Int}, a.Pairwise (· < ·) → b.Pairwise (· < ·) → (∀ y, y ∈ a ↔ y ∈ b) → a = b
  | [], [], _, _, _ => rfl
  | [], y :: b, _, _, h => by have := (h y).2 (by simp); simp at this
  | x :: a, [], _, _, h => by have := (h x).1 (by simp); simp at this
  | x :: a, y :: b, ha, hb, h => by
    rw [List.pairwise_cons] at ha hb
    have e : x = y := by
      have h1 := (h x).1 (by simp)
      have h2 := (h y).2 (by simp)
      rcases List.mem_cons.1 h1 with h1 | h1
      · exact h1
      · rcases List.mem_cons.1 h2 with h2 | h2
        · exact h2.symm
        · have := ha.1 y h2
          have := hb.1 x h1
          omega
    subst e
    rw [rise_one ha.2 hb.2 (fun z => ?_)]
    constructor
    · intro hz
      have := (h z).1 (by simp [hz])
      rcases List.mem_cons.1 this with rfl | h'
      · have := ha.1 z hz
        omega
      · exact h'
    · intro hz
      have := (h z).2 (by simp [hz])
      rcases List.mem_cons.1 this with rfl | h'
      · have := hb.1 z hz
        omega
      · exact h'

/-- A number put into a rising list. -/
def put : List Int → Int → List Int
  | [], n => [n]
  | a :: l, n => if a < n then a :: put l n else if a = n then a :: l else n :: a :: l
theorem put_mem (n y : Int) : ∀ l : List Int, y ∈ put l n ↔ y = n ∨ y ∈ l
  | [] => by simp [put]
  | a :: l => by
    have ih := put_mem n y l
    unfold put
    split
    · simp only [List.mem_cons, ih]
      constructor
      · rintro (h | h | h)
        · exact .inr (.inl h)
        · exact .inl h
        · exact .inr (.inr h)
      · rintro (h | h | h)
        · exact .inr (.inl h)
        · exact .inl h
        · exact .inr (.inr h)
    · split
      · rename_i h1 h2
        subst h2
        simp only [List.mem_cons]
        constructor
        · exact fun h => .inr h
        · rintro (h | h)
          · exact .inl h
          · exact h
      · simp only [List.mem_cons]
theorem put_rise (n : Int) : ∀ l : List Int, l.Pairwise (· < ·) → (put l n).Pairwise (· < ·)
  | [], _ => by simp [put]
  | a :: l, h => by
    rw [List.pairwise_cons] at h
    unfold put
    split
    · rename_i c
      rw [List.pairwise_cons]
      refine ⟨fun y hy => ?_, put_rise n l h.2⟩
      rcases (put_mem n y l).1 hy with rfl | hy
      · exact c
      · exact h.1 y hy
    · split
      · exact List.pairwise_cons.2 h
      · rename_i c d
        rw [List.pairwise_cons]
        refine ⟨fun y hy => ?_, List.pairwise_cons.2 h⟩
        rcases List.mem_cons.1 hy with rfl | hy
        · omega
        · have := h.1 y hy
          omega
/-- All numbers of a row, put one by one. -/
def all (T : List Int) : List Int := T.foldl put []
theorem foldl_ok (T : List Int) : ∀ acc : List Int, acc.Pairwise (· < ·) → (T.foldl put acc).Pairwise (· < ·) ∧ ∀ y, y ∈ T.foldl put acc ↔ y ∈ acc ∨ y ∈ T := by
  induction T with
  | nil => intro acc h; exact ⟨h, fun y => by simp⟩
  | cons a T ih =>
    intro acc h
    obtain ⟨h1, h2⟩ := ih (put acc a) (put_rise a acc h)
    refine ⟨h1, fun y => ?_⟩
    show y ∈ T.foldl put (put acc a) ↔ _
    rw [h2 y, put_mem, List.mem_cons]
    constructor
    · rintro ((h | h) | h)
      · exact .inr (.inl h)
      · exact .inl h
      · exact .inr (.inr h)
    · rintro (h | h | h)
      · exact .inl (.inr h)
      · exact .inl (.inl h)
      · exact .inr h
theorem all_ok (T : List Int) : (all T).Pairwise (· < ·) ∧ ∀ y, y ∈ all T ↔ y ∈ T := by
  obtain ⟨h1, h2⟩ := foldl_ok T [] List.Pairwise.nil
  exact ⟨h1, fun y => by rw [show all T = T.foldl put [] from rfl, h2 y]; simp⟩
def srt (T : List Int) : List Int := T.mergeSort fun x y => decide (x ≤ y)
theorem srt_ok (T : List Int) : (srt T).Pairwise (· ≤ ·) ∧ (srt T).length = T.length ∧ ∀ y, y ∈ srt T ↔ y ∈ T := by
  refine ⟨?_, List.length_mergeSort _, fun y => List.mem_mergeSort⟩
  have := List.pairwise_mergeSort (le := fun x y : Int => decide (x ≤ y)) (fun a b c h1 h2 => by simp at *; omega) (fun a b => by simp; omega) T
  exact this.imp (fun h => by simpa using h)
/-- Sorted and each kept once: the same. -/
theorem all_eq (T : List Int) : cmp (srt T) = all T := by
  obtain ⟨h1, h2, h3⟩ := srt_ok T
  obtain ⟨h4, h5⟩ := cmp_ok _ h1
  obtain ⟨h6, h7⟩ := all_ok T
  exact rise_one h4 h6 (fun y => by rw [h5 y, h3 y, h7 y])
theorem all_snoc (T : List Int) (x : Int) : all (T ++ [x]) = put (all T) x := by
  unfold all
  rw [List.foldl_append]
  rfl
/-- The place of a number: how many are below. -/
theorem put_at (n : Int) (l : List Int) (k : Nat) (hk : k ≤ l.length) (h1 : ∀ i, i < k → nth l i < n) (h2 : k = l.length ∨ n ≤ nth l k) :
    put l n = if k < l.length ∧ nth l k = n then l else l.take k ++ n :: l.drop k := by
  induction l generalizing k with
  | nil =>
    have : k = 0 := by simpa using hk
    subst this
    rw [if_neg (by simp)]
    rfl
  | cons a l ih =>
    match k with
    | 0 =>
      have e : nth (a :: l) 0 = a := rfl
      rw [e] at h2 ⊢
      have h3 : n ≤ a := by
        rcases h2 with h2 | h2
        · simp at h2
        · exact h2
      unfold put
      rw [if_neg (by omega)]
      by_cases c : a = n
      · rw [if_pos c, if_pos ⟨by simp, c⟩]
      · rw [if_neg c, if_neg (fun g => c g.2)]
        rfl
    | k + 1 =>
      have e : ∀ j, nth (a :: l) (j + 1) = nth l j := fun j => rfl
      have h0 := h1 0 (by omega)
      have e0 : nth (a :: l) 0 = a := rfl
      rw [e0] at h0
      have := ih k (by simpa using hk) (fun i hi => by have := h1 (i + 1) (by omega); rwa [e] at this) (by rw [e] at h2; simpa using h2)
      unfold put
      rw [if_pos h0, this, e]
      by_cases c : k < l.length ∧ nth l k = n
      · rw [if_pos c, if_pos ⟨by simpa using c.1, c.2⟩]
      · rw [if_neg c, if_neg (fun g => c ⟨by simpa using g.1, g.2⟩)]
        rfl
theorem all_len (T : List Int) : (all T).length ≤ T.length := by
  have h : ∀ (T acc : List Int), (T.foldl put acc).length ≤ acc.length + T.length := by
    intro T
    induction T with
    | nil => intro acc; simp
    | cons a T ih =>
      intro acc
      have h1 := ih (put acc a)
      have h2 : (put acc a).length ≤ acc.length + 1 := by
        have g : ∀ l : List Int, (put l a).length ≤ l.length + 1 := by
          intro l
          induction l with
          | nil => simp [put]
          | cons b l ih2 =>
            unfold put
            split
            · simp; exact ih2
            · split <;> simp
        exact g acc
      simp only [List.foldl_cons, List.length_cons]
      omega
  have := h T []
  unfold all
  simpa using this
/-- A letter. -/
def let1 (p : Int) : Bool := (catI p == 4 || catI p == 5 || catI p == 6) || catI p == 7
def dgt1 (p : Int) : Bool := catI p == 8
theorem cat_eq (p : Int) : (known p).1 = catI p := (fine p).1.symm
def sysI (p : Int) : Int := if 0 < scr p then scr p - 1 else if p < 10016 then 0 else 6
def sysS (p : Int) : Int := if p < 512 then 0 else if p < 1792 then p / 256 - 1 else 6
theorem rows_let : (spc.all fun r => !(decide (4 ≤ r.2.2.1 ∧ r.2.2.1 ≤ 7)) || decide (0 < r.2.2.2)) = true := by decide +kernel
theorem rows_dig : (spc.all fun r => !(decide (r.2.2.1 = 8)) || (decide (0 < r.2.2.2 ∧ 512 ≤ r.1 ∧ r.2.1 < 1792 ∧ r.1 / 256 = r.2.2.2 ∧ r.2.1 / 256 = r.2.2.2) || (decide (r.2.2.2 = 7 ∧ 1792 ≤ r.1) || (decide (r.2.2.2 = 0 ∧ r.2.1 < 512) || decide (r.2.2.2 = 0 ∧ 10016 ≤ r.1))))) = true := by decide +kernel
/-- No letter has script 0. -/
theorem let_scr (p : Int) (h : let1 p = true) : 0 < scr p := by
  have hc : 4 ≤ (known p).1 ∧ (known p).1 ≤ 7 := by
    rw [cat_eq]
    unfold let1 at h
    simp at h
    omega
  unfold scr
  unfold known at hc ⊢
  split
  · rename_i g
    rw [if_pos g] at hc
    split
    · rename_i g2
      rw [if_pos g2] at hc
      simp at hc
    · show 0 < p / 256
      omega
  · rename_i g
    rw [if_neg g] at hc
    split
    · rename_i g2
      rw [if_pos g2] at hc
      split
      · rename_i g3
        rw [if_pos g3] at hc
        simp at hc
      · split <;> decide
    · rename_i g2
      rw [if_neg g2] at hc
      rcases find_row spc p with e | ⟨r, hr, _, _, e⟩
      · rw [e] at hc
        exact absurd hc (by decide)
      · rw [e] at hc ⊢
        have := List.all_eq_true.1 rows_let r hr
        simp at this
        have h1 : 4 ≤ r.2.2.1 := hc.1
        have h2 : r.2.2.1 ≤ 7 := hc.2
        show 0 < r.2.2.2
        omega
/-- The systems of digits are one. -/
theorem sys_eq (p : Int) (h : dgt1 p = true) : sysI p = sysS p := by
  have hc : (known p).1 = 8 := by
    rw [cat_eq]
    unfold dgt1 at h
    simpa using h
  unfold sysI sysS scr
  unfold known at hc ⊢
  by_cases g : 512 ≤ p ∧ p < 1280
  · rw [if_pos g] at hc ⊢
    split
    · rename_i g2
      rw [if_pos g2] at hc
      simp at hc
    · show (if 0 < p / 256 then p / 256 - 1 else _) = _
      rw [if_pos (by omega), if_neg (by omega), if_pos (by omega)]
  · rw [if_neg g] at hc ⊢
    by_cases g2 : 8192 ≤ p ∧ p < 9728
    · rw [if_pos g2] at hc
      split at hc
      · simp at hc
      · split at hc <;> simp at hc
    · rw [if_neg g2] at hc ⊢
      rcases find_row spc p with e | ⟨r, hr, h1, h2, e⟩
      · rw [e] at hc
        exact absurd hc (by decide)
      · rw [e] at hc ⊢
        have := List.all_eq_true.1 rows_dig r hr
        simp at this
        show (if 0 < r.2.2.2 then r.2.2.2 - 1 else _) = _
        have hc' : r.2.2.1 = 8 := hc
        rcases (by rcases this with g | g; exact absurd hc' g; exact g : _ ∨ _ ∨ _ ∨ _) with ⟨a1, a2, a3, a4, a5⟩ | ⟨a1, a2⟩ | ⟨a1, a2⟩ | ⟨a1, a2⟩
        · rw [if_pos a1, if_neg (by omega), if_pos (by omega)]
          omega
        · rw [if_pos (by omega), if_neg (by omega), if_neg (by omega)]
          omega
        · rw [if_neg (by omega), if_pos (by omega), if_pos (by omega)]
        · rw [if_neg (by omega), if_neg (by omega), if_neg (by omega), if_neg (by omega)]
/-- What is told of the first k points. -/
def tld (ask : Int → Bool) (tel : Int → Int) (L : List Int) (k : Nat) : List Int := ((L.take k).filter ask).map tel
theorem tk (L : List Int) (k : Nat) (h : k < L.length) : L.take (k + 1) = L.take k ++ [nth L k] := by
  rw [List.take_succ_eq_append_getElem h]
  unfold nth
  rw [List.getD_eq_getElem?_getD, List.getElem?_eq_getElem h]
  rfl
theorem tld_yes {ask : Int → Bool} {tel : Int → Int} {L : List Int} {k : Nat} (h : k < L.length) (ha : ask (nth L k) = true) : tld ask tel L (k + 1) = tld ask tel L k ++ [tel (nth L k)] := by
  unfold tld
  rw [tk L k h, List.filter_append, List.map_append]
  simp [ha]
theorem tld_no {ask : Int → Bool} {tel : Int → Int} {L : List Int} {k : Nat} (h : k < L.length) (ha : ask (nth L k) = false) : tld ask tel L (k + 1) = tld ask tel L k := by
  unfold tld
  rw [tk L k h, List.filter_append, List.map_append]
  simp [ha]
theorem tld_len (ask : Int → Bool) (tel : Int → Int) (L : List Int) (k : Nat) : (tld ask tel L k).length ≤ L.length := by
  unfold tld
  rw [List.length_map]
  exact Nat.le_trans (List.length_filter_le _ _) (by rw [List.length_take]; omega)
theorem tld_sys (L : List Int) (k : Nat) : tld dgt1 sysI L k = tld dgt1 sysS L k := by
  unfold tld
  apply List.map_congr_left
  intro x hx
  exact sys_eq x (List.mem_filter.1 hx).2
end Go.Proofs.YtomgficdlfadaaaDoor.Ris
