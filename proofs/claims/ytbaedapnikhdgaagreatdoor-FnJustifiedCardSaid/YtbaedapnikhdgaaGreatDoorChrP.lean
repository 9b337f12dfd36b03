/- Cuts of characters in plain numbers: what the program keeps while it goes through a text, and what the specification looks back for, decide alike at every place. No Go in sight. -/
import Derived.Test.YtbaedapnikhdgaaGreatDoorPlain
namespace Go.Proofs.YtbaedapnikhdgaaGreatDoor
namespace Chr
def cat (p : Int) : Int := (known p).1
theorem cat_i (p : Int) : catI p = cat p := (fine p).1
def ctl (p : Int) : Bool := cat p == 1 || p == 7954
def mrk (p : Int) : Bool := cat p == 3 || p == 7936 || (decide (7744 ≤ p) && decide (p ≤ 7748))
def pic (p : Int) : Bool := decide (7680 ≤ p) && decide (p ≤ 7743)
def flg (p : Int) : Bool := decide (7760 ≤ p) && decide (p ≤ 7785)
def led (p : Int) : Bool := decide (1792 ≤ p) && decide (p ≤ 1810)
def vow (p : Int) : Bool := decide (1824 ≤ p) && decide (p ≤ 1844)
def tai (p : Int) : Bool := decide (1857 ≤ p) && decide (p ≤ 1883)
def sil (p : Int) : Bool := decide (12288 ≤ p) && decide (p ≤ 23459)
def hta (p : Int) : Bool := !((p - 12288) % 28 == 0)
def prt (p : Int) : Int :=
  if led p then 1 else if vow p then 2 else if tai p then 3 else if sil p && (p - 12288) % 28 == 0 then 4 else if sil p then 5 else 0
def sylP (x y : Int) : Bool :=
  if x = 1 then y == 1 || y == 2 || y == 4 || y == 5 else if x = 2 ∨ x = 4 then y == 2 || y == 3 else if x = 3 ∨ x = 5 then y == 3 else false
def sylS (a b : Int) : Bool := sylP (prt a) (prt b)
def sylI (a b : Int) : Bool :=
  if led a then led b || vow b || sil b else if vow a || (sil a && !hta a) then vow b || tai b else if tai a || sil a then tai b else false
/-- The kinds are apart. -/
theorem apart (p : Int) : (led p = true → vow p = false ∧ tai p = false ∧ sil p = false) ∧ (vow p = true → led p = false ∧ tai p = false ∧ sil p = false) ∧ (tai p = true → led p = false ∧ vow p = false ∧ sil p = false) ∧ (sil p = true → led p = false ∧ vow p = false ∧ tai p = false) := by
  simp only [led, vow, tai, sil, Bool.and_eq_true, decide_eq_true_eq, Bool.and_eq_false_iff, decide_eq_false_iff_not]
  omega
theorem prt_kinds (p : Int) : (led p = true ∧ prt p = 1) ∨ (led p = false ∧ vow p = true ∧ tai p = false ∧ sil p = false ∧ prt p = 2) ∨ (led p = false ∧ vow p = false ∧ tai p = true ∧ sil p = false ∧ prt p = 3) ∨
    (led p = false ∧ vow p = false ∧ tai p = false ∧ sil p = true ∧ hta p = false ∧ prt p = 4) ∨ (led p = false ∧ vow p = false ∧ tai p = false ∧ sil p = true ∧ hta p = true ∧ prt p = 5) ∨ (led p = false ∧ vow p = false ∧ tai p = false ∧ sil p = false ∧ prt p = 0) := by
  have ha := apart p
  unfold prt
  cases h1 : led p <;> cases h2 : vow p <;> cases h3 : tai p <;> cases h4 : sil p <;> cases h5 : ((p - 12288) % 28 == 0) <;> simp_all [hta]
theorem syl_eq (a b : Int) : sylI a b = sylS a b := by
  have ha := apart a
  have hb := apart b
  unfold sylI sylS
  rcases prt_kinds a with ⟨a1, e⟩ | ⟨a1, a2, a3, a4, e⟩ | ⟨a1, a2, a3, a4, e⟩ | ⟨a1, a2, a3, a4, a5, e⟩ | ⟨a1, a2, a3, a4, a5, e⟩ | ⟨a1, a2, a3, a4, e⟩ <;>
  rcases prt_kinds b with ⟨b1, f⟩ | ⟨b1, b2, b3, b4, f⟩ | ⟨b1, b2, b3, b4, f⟩ | ⟨b1, b2, b3, b4, b5, f⟩ | ⟨b1, b2, b3, b4, b5, f⟩ | ⟨b1, b2, b3, b4, f⟩ <;>
  simp_all [sylP]
/-- The stroke that binds stands at place k, or ahead of dots there. -/
def bnd (L : List Int) : Nat → Bool
  | 0 => L.getD 0 0 == 1584
  | k + 1 => if L.getD (k + 1) 0 == 1585 then bnd L k else L.getD (k + 1) 0 == 1584
/-- How many flags stand side by side up to place k. -/
def fls (L : List Int) : Nat → Nat
  | 0 => if flg (L.getD 0 0) then 1 else 0
  | k + 1 => if flg (L.getD (k + 1) 0) then fls L k + 1 else 0
/-- Of the first k points that are no marks the last one is a picture. -/
def pik (L : List Int) : Nat → Bool
  | 0 => false
  | k + 1 => if mrk (L.getD k 0) then pik L k else pic (L.getD k 0)
/-- The specification's word on the place ahead of point i. -/
def charS (L : List Int) (i : Nat) : Bool :=
  if L.getD (i - 1) 0 == 13 && L.getD i 0 == 10 then false
  else if ctl (L.getD (i - 1) 0) || ctl (L.getD i 0) then true
  else if sylS (L.getD (i - 1) 0) (L.getD i 0) || mrk (L.getD i 0) then false
  else if (decide (1536 ≤ L.getD i 0) && decide (L.getD i 0 ≤ 1567)) && bnd L (i - 1) then false
  else if L.getD (i - 1) 0 == 7936 && pic (L.getD i 0) then !pik L (i - 1)
  else if flg (L.getD (i - 1) 0) && flg (L.getD i 0) then fls L (i - 1) % 2 == 0
  else true
/-- What the program has of a place. -/
structure Pl where
  l : Int
  r : Int
  b : Int
  f : Nat
  d : Bool
def mov (x : Pl) (n : Int) : Pl :=
  ⟨x.r, n, if mrk x.l then x.b else x.l, if flg x.r then x.f + 1 else 0, x.r == 1584 || x.r == 1585 && x.d⟩
def pl0 : Pl := ⟨-1, -1, -1, 0, false⟩
/-- The place ahead of point i. -/
def plc (L : List Int) : Nat → Pl
  | 0 => mov pl0 (L.getD 0 0)
  | i + 1 => mov (plc L i) (L.getD (i + 1) 0)
/-- The program's rules, in their order. -/
def decI (x : Pl) : Bool :=
  if x.l == 13 && x.r == 10 then false
  else if ctl x.l || ctl x.r then true
  else if sylI x.l x.r then false
  else if mrk x.r then false
  else if x.d && (decide (1536 ≤ x.r) && decide (x.r ≤ 1567)) then false
  else if pic x.b && x.l == 7936 && pic x.r then false
  else if x.f % 2 == 1 && flg x.r then false
  else true
theorem m1 : mrk (-1) = false := by decide +kernel
theorem plc_is (L : List Int) (i : Nat) : (plc L i).l = (if i = 0 then -1 else L.getD (i - 1) 0) ∧ (plc L i).r = L.getD i 0 := by
  cases i with
  | zero => exact ⟨rfl, rfl⟩
  | succ n =>
    have : (plc L n).r = L.getD n 0 := by cases n <;> rfl
    simp only [plc, mov, this]
    simp
theorem plc_st (L : List Int) (i : Nat) : pic (plc L (i + 1)).b = pik L i ∧ (plc L (i + 1)).f = fls L i ∧ (plc L (i + 1)).d = bnd L i := by
  induction i with
  | zero =>
    refine ⟨?_, ?_, ?_⟩
    · simp only [plc, mov, pl0, m1, pik]; decide
    · simp only [plc, mov, pl0, fls]
      have : flg (-1) = false := by decide
      simp [this]
    · simp only [plc, mov, pl0, bnd]
      simp
  | succ n ih =>
    obtain ⟨h1, h2, h3⟩ := ih
    have e := plc_is L (n + 1)
    simp only [Nat.succ_ne_zero, if_false, Nat.add_sub_cancel] at e
    refine ⟨?_, ?_, ?_⟩
    · show pic (mov (plc L (n + 1)) _).b = _
      simp only [mov, e.1, pik]
      split
      · exact h1
      · rfl
    · show (mov (plc L (n + 1)) _).f = _
      simp only [mov, e.2, fls, h2]
    · show (mov (plc L (n + 1)) _).d = _
      simp only [mov, e.2, bnd, h3]
      cases h : (L.getD (n + 1) 0 == 1585)
      · simp
      · have : L.getD (n + 1) 0 = 1585 := eq_of_beq h
        rw [this]; simp
theorem fls_flg (L : List Int) (k : Nat) (h : flg (L.getD k 0) = false) : fls L k = 0 := by
  cases k <;> (unfold fls; rw [h]; rfl)
theorem last_two (pk l7 pr fl fr : Bool) (n : Nat) (h1 : fl = false → n = 0) (h2 : pr = true → fr = false) :
    (if pk && l7 && pr then false else if n % 2 == 1 && fr then false else true) = (if l7 && pr then !pk else if fl && fr then n % 2 == 0 else true) := by
  rcases Nat.mod_two_eq_zero_or_one n with h | h <;> cases pk <;> cases l7 <;> cases pr <;> cases fl <;> cases fr <;> simp_all
theorem pic_not (p : Int) (h : pic p = true) : flg p = false := by
  simp only [pic, flg, Bool.and_eq_true, decide_eq_true_eq, Bool.and_eq_false_iff, decide_eq_false_iff_not] at h ⊢
  omega
theorem dec_eq (L : List Int) (i : Nat) : decI (plc L (i + 1)) = charS L (i + 1) := by
  obtain ⟨h1, h2, h3⟩ := plc_st L i
  obtain ⟨e1, e2⟩ := plc_is L (i + 1)
  simp only [Nat.succ_ne_zero, if_false, Nat.add_sub_cancel] at e1
  unfold decI charS
  rw [h1, h2, h3, e1, e2]
  simp only [Nat.add_sub_cancel]
  rw [syl_eq]
  rw [last_two _ _ _ (flg (L.getD i 0)) _ _ (fls_flg L i) (pic_not (L.getD (i + 1) 0))]
  cases (L.getD i 0 == 13 && L.getD (i + 1) 0 == 10) <;> cases (ctl (L.getD i 0) || ctl (L.getD (i + 1) 0)) <;> cases sylS (L.getD i 0) (L.getD (i + 1) 0) <;> cases mrk (L.getD (i + 1) 0) <;>
    cases (decide (1536 ≤ L.getD (i + 1) 0) && decide (L.getD (i + 1) 0 ≤ 1567)) <;> cases bnd L i <;> rfl
end Chr
end Go.Proofs.YtbaedapnikhdgaaGreatDoor
