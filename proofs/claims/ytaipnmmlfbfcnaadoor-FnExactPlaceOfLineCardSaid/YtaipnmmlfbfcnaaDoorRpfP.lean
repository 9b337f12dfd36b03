/- When a rope is right: pure. -/
import Derived.Test.YtaipnmmlfbfcnaaDoorRopP
import Derived.Test.YtaipnmmlfbfcnaaDoorNodR
import Derived.Test.YtaipnmmlfbfcnaaDoorMrkR
namespace Go.Proofs.YtaipnmmlfbfcnaaDoor.Rop
open Go.RowKit Rwc
set_option linter.unusedVariables false
/-- The first k texts of nodes, joined. -/
def catK (L : List Nd) : Nat → ByteArray
  | 0 => ⟨#[]⟩
  | k + 1 => catK L k ++ (nd_g L k).text
def cat (L : List Nd) : ByteArray := catK L L.length
theorem catK_size (L : List Nd) (k : Nat) : (catK L (k + 1)).size = (catK L k).size + (nd_g L k).text.size := by
  show (catK L k ++ (nd_g L k).text).size = _
  rw [ByteArray.size_append]
theorem catK_mono (L : List Nd) (i k : Nat) (h : i ≤ k) : (catK L i).size ≤ (catK L k).size := by
  induction k with
  | zero => obtain rfl : i = 0 := by omega
            exact Nat.le_refl _
  | succ k ih =>
    by_cases e : i = k + 1
    · subst e; exact Nat.le_refl _
    · have := ih (by omega)
      have := catK_size L k
      omega
theorem catK_sk (L : List Nd) (k : Nat) : (catK L k).size = nd_sk L k := by
  induction k with
  | zero => rfl
  | succ k ih =>
    rw [catK_size, ih]
    rfl
theorem cat_le (L : List Nd) (m : Nat) (h : nd_sR L ≤ m) : (cat L).size ≤ m := by
  have : nd_sR L = L.length + nd_sk L L.length := rfl
  unfold cat
  rw [catK_sk]
  omega
/-- A byte of a name. -/
def isA (n : Nat) : Bool := decide (97 ≤ n) && decide (n ≤ 122)
def isB (n : Nat) : Bool := isA n || (decide (48 ≤ n) && decide (n ≤ 57)) || n == 45
/-- From i on all are bytes of a name. -/
def nmR (s : ByteArray) (i : Nat) : Bool := decide (∀ j, j < s.size → i ≤ j → isB (bt s j) = true)
def nmB (s : ByteArray) : Bool := decide (1 ≤ s.size) && decide (s.size ≤ 20) && isA (bt s 0) && nmR s 1
theorem nmR_yes (s : ByteArray) (i : Nat) (h : i < s.size) (hb : isB (bt s i) = true) : nmR s i = nmR s (i + 1) := by
  unfold nmR
  rw [decide_eq_decide]
  constructor
  · intro H j h1 h2
    exact H j h1 (by omega)
  · intro H j h1 h2
    by_cases e : j = i
    · subst e; exact hb
    · exact H j h1 (by omega)
theorem nmR_no (s : ByteArray) (i : Nat) (h : i < s.size) (hb : isB (bt s i) = false) : nmR s i = false := by
  unfold nmR
  rw [decide_eq_false_iff_not]
  intro H
  rw [H i h (Nat.le_refl _)] at hb
  cases hb
theorem nmR_end (s : ByteArray) (i : Nat) (h : ¬ i < s.size) : nmR s i = true := by
  unfold nmR
  rw [decide_eq_true_iff]
  intro j h1 h2
  omega
theorem nmR_zero (s : ByteArray) (h : 0 < s.size) (hb : isA (bt s 0) = true) : nmR s 0 = nmR s 1 := nmR_yes s 0 h (by unfold isB; rw [hb]; rfl)
/-- A mark that is right in a text of so many bytes. -/
def mkB (m : Mk) (n : Nat) : Bool := nmB m.name && (decide (0 ≤ m.pl) && decide (m.pl ≤ (n : Int)))
def geB (a b : ByteArray) : Bool := !(Op.bytesLess a.toList b.toList)
/-- The mark at k is right and behind the one ahead of it. -/
def mk1 (M : List Mk) (n k : Nat) : Bool := mkB (mk_g M k) n && !(decide (0 < k) && geB (mk_g M (k - 1)).name (mk_g M k).name)
def mksR (M : List Mk) (n i : Nat) : Bool := decide (∀ j, j < M.length → i ≤ j → mk1 M n j = true)
theorem mksR_yes (M : List Mk) (n i : Nat) (h : i < M.length) (hb : mk1 M n i = true) : mksR M n i = mksR M n (i + 1) := by
  unfold mksR
  rw [decide_eq_decide]
  constructor
  · intro H j h1 h2
    exact H j h1 (by omega)
  · intro H j h1 h2
    by_cases e : j = i
    · subst e; exact hb
    · exact H j h1 (by omega)
theorem mksR_no (M : List Mk) (n i : Nat) (h : i < M.length) (hb : mk1 M n i = false) : mksR M n i = false := by
  unfold mksR
  rw [decide_eq_false_iff_not]
  intro H
  rw [H i h (Nat.le_refl _)] at hb
  cases hb
theorem mksR_end (M : List Mk) (n i : Nat) (h : ¬ i < M.length) : mksR M n i = true := by
  unfold mksR
  rw [decide_eq_true_iff]
  intro j h1 h2
  omega
/-- Whether two nodes are not one. -/
def neB (x y : Nd) : Bool := !(x.text.toList == y.text.toList && (x.left == y.left && (x.right == y.right && (x.size == y.size && x.lines == y.lines))))
theorem neB_iff (x y : Nd) : neB x y = false ↔ x = y := by
  obtain ⟨a, b, c, d, e⟩ := x
  obtain ⟨a', b', c', d', e'⟩ := y
  unfold neB
  simp only [Bool.not_eq_false', Bool.and_eq_true, beq_iff_eq, Nd.mk.injEq, ByteArray.toList_eq]
  constructor
  · rintro ⟨h1, h2, h3, h4, h5⟩
    exact ⟨ByteArray.ext (Array.ext' h1), h2, h3, h4, h5⟩
  · rintro ⟨rfl, rfl, rfl, rfl, rfl⟩
    exact ⟨rfl, rfl, rfl, rfl, rfl⟩
/-- From i on two rows are alike. -/
def sameR (L N : List Nd) (i : Nat) : Bool := decide (∀ j, j < L.length → i ≤ j → neB (nd_g N j) (nd_g L j) = false)
theorem sameR_yes (L N : List Nd) (i : Nat) (h : i < L.length) (hb : neB (nd_g N i) (nd_g L i) = false) : sameR L N i = sameR L N (i + 1) := by
  unfold sameR
  rw [decide_eq_decide]
  constructor
  · intro H j h1 h2
    exact H j h1 (by omega)
  · intro H j h1 h2
    by_cases e : j = i
    · subst e; exact hb
    · exact H j h1 (by omega)
theorem sameR_no (L N : List Nd) (i : Nat) (h : i < L.length) (hb : neB (nd_g N i) (nd_g L i) = true) : sameR L N i = false := by
  unfold sameR
  rw [decide_eq_false_iff_not]
  intro H
  rw [H i h (Nat.le_refl _)] at hb
  cases hb
theorem sameR_end (L N : List Nd) (i : Nat) (h : ¬ i < L.length) : sameR L N i = true := by
  unfold sameR
  rw [decide_eq_true_iff]
  intro j h1 h2
  omega
/-- Whether a rope of these nodes and marks is right, N being the nodes of its text's tree. -/
def rgt (L N : List Nd) (M : List Mk) : Bool :=
  decide ((cat L).size ≤ 65536) && (decide (M.length ≤ 100) && (N.length == L.length && (sameR L N 0 && mksR M (cat L).size 0)))
theorem rgt_long {L N : List Nd} {M : List Mk} (h : ¬ (cat L).size ≤ 65536) : rgt L N M = false := by unfold rgt; rw [decide_eq_false h]; rfl
theorem rgt_many {L N : List Nd} {M : List Mk} (h : ¬ M.length ≤ 100) : rgt L N M = false := by unfold rgt; rw [decide_eq_false h]; simp
theorem rgt_len {L N : List Nd} {M : List Mk} (h : N.length ≠ L.length) : rgt L N M = false := by
  unfold rgt
  have : (N.length == L.length) = false := by simpa using h
  rw [this]; simp
theorem rgt_same {L N : List Nd} {M : List Mk} (h : sameR L N 0 = false) : rgt L N M = false := by unfold rgt; rw [h]; simp
theorem rgt_mks {L N : List Nd} {M : List Mk} (h : mksR M (cat L).size 0 = false) : rgt L N M = false := by unfold rgt; rw [h]; simp
theorem rgt_all {L N : List Nd} {M : List Mk} (h1 : (cat L).size ≤ 65536) (h2 : M.length ≤ 100) (h3 : N.length = L.length) (h4 : sameR L N 0 = true) (h5 : mksR M (cat L).size 0 = true) : rgt L N M = true := by
  unfold rgt
  rw [decide_eq_true h1, decide_eq_true h2, h4, h5]
  simp [h3]
end Go.Proofs.YtaipnmmlfbfcnaaDoor.Rop
