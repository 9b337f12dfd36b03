/- Rows of rules of writing over, and of passes: how they lie in memory, and how large they are. -/
import Derived.Test.YtklakcnapdhcnaaDoorSpnB
namespace Go.Proofs.YtklakcnapdhcnaaDoor.Pas
open Go.RowKit
set_option linter.unusedVariables false
/-- A rule: Ahead, Input, Behind, Output, Again. -/
abbrev Ru := ByteArray × ByteArray × ByteArray × ByteArray × Int
/-- A pass: its rules, Norm. -/
abbrev Pa := List Ru × Int
def zr : Ru := (⟨#[]⟩, ⟨#[]⟩, ⟨#[]⟩, ⟨#[]⟩, 0)
def gr (L : List Ru) (i : Nat) : Ru := L.getD i zr
def gp (P : List Pa) (i : Nat) : Pa := P.getD i ([], 0)
/-- The value of a rule. -/
def rv (r : Ru) : Value := .agg #[.string r.1, .string r.2.1, .string r.2.2.1, .string r.2.2.2.1, .int .i64 r.2.2.2.2]
/-- Five cells that hold a rule. -/
def Five (w : World) (b o : Nat) (r : Ru) : Prop :=
  w.cell? ⟨b, o, none⟩ = some (.string r.1) ∧ w.cell? ⟨b, o + 1, none⟩ = some (.string r.2.1) ∧ w.cell? ⟨b, o + 2, none⟩ = some (.string r.2.2.1) ∧ w.cell? ⟨b, o + 3, none⟩ = some (.string r.2.2.2.1) ∧ w.cell? ⟨b, o + 4, none⟩ = some (.int .i64 r.2.2.2.2)
theorem Five.block {w w' : World} {b o : Nat} {r : Ru} (h : Five w b o r) (hb : w'.heap[b]? = w.heap[b]?) : Five w' b o r :=
  ⟨(World.cell?_of_block (a := ⟨b, o, none⟩) hb).trans h.1, (World.cell?_of_block (a := ⟨b, o + 1, none⟩) hb).trans h.2.1, (World.cell?_of_block (a := ⟨b, o + 2, none⟩) hb).trans h.2.2.1, (World.cell?_of_block (a := ⟨b, o + 3, none⟩) hb).trans h.2.2.2.1, (World.cell?_of_block (a := ⟨b, o + 4, none⟩) hb).trans h.2.2.2.2⟩
/-- A slice value that holds just the rules L, in a block from B on. -/
def RuAt (B : Nat) (w : World) (v : Value) (L : List Ru) : Prop :=
  ∃ a cap, v = .slice a L.length cap ∧ (L = [] ∨ ∃ b off, a = some ⟨b, off, none⟩ ∧ B ≤ b ∧ b < w.heap.size ∧ ∀ i, i < L.length → Five w b (off + i * 5) (gr L i))
theorem RuAt.at {B : Nat} {w w' : World} {v : Value} {L : List Ru} (h : RuAt B w v L) (hs : w.heap.size ≤ w'.heap.size) (hb : ∀ b, B ≤ b → b < w.heap.size → w'.heap[b]? = w.heap[b]?) : RuAt B w' v L := by
  obtain ⟨a, cap, rfl, h⟩ := h
  refine ⟨a, cap, rfl, ?_⟩
  rcases h with h | ⟨b, off, rfl, hB, hbs, hc⟩
  · exact .inl h
  · exact .inr ⟨b, off, rfl, hB, by omega, fun i hi => (hc i hi).block (hb b hB hbs)⟩
theorem RuAt.below {B : Nat} {w w' : World} {v : Value} {L : List Ru} (h : RuAt B w v L) (hb : Below w.heap.size w w') : RuAt B w' v L :=
  h.at hb.size fun b _ hlt => hb.block b hlt
theorem RuAt.down {B B' : Nat} {w : World} {v : Value} {L : List Ru} (h : RuAt B w v L) (hB : B' ≤ B) : RuAt B' w v L := by
  obtain ⟨a, cap, rfl, h⟩ := h
  refine ⟨a, cap, rfl, ?_⟩
  rcases h with h | ⟨b, off, rfl, hB2, hbs, hc⟩
  · exact .inl h
  · exact .inr ⟨b, off, rfl, by omega, hbs, hc⟩
theorem RuAt.form {B : Nat} {w : World} {v : Value} {L : List Ru} (h : RuAt B w v L) : ∃ a cap, v = .slice a L.length cap := by
  obtain ⟨a, cap, e, _⟩ := h
  exact ⟨a, cap, e⟩
/-- A slice value that holds just the passes P, all of it from B on. -/
def PaAt (B : Nat) (w : World) (v : Value) (P : List Pa) : Prop :=
  ∃ a cap, v = .slice a P.length cap ∧ (P = [] ∨ ∃ b off, a = some ⟨b, off, none⟩ ∧ B ≤ b ∧ b < w.heap.size ∧ ∀ i, i < P.length → ∃ u, w.cell? ⟨b, off + i * 2, none⟩ = some u ∧ RuAt B w u (gp P i).1 ∧ w.cell? ⟨b, off + i * 2 + 1, none⟩ = some (.int .i64 (gp P i).2))
theorem PaAt.at {B : Nat} {w w' : World} {v : Value} {P : List Pa} (h : PaAt B w v P) (hs : w.heap.size ≤ w'.heap.size) (hb : ∀ b, B ≤ b → b < w.heap.size → w'.heap[b]? = w.heap[b]?) : PaAt B w' v P := by
  obtain ⟨a, cap, rfl, h⟩ := h
  refine ⟨a, cap, rfl, ?_⟩
  rcases h with h | ⟨b, off, rfl, hB, hbs, hc⟩
  · exact .inl h
  · refine .inr ⟨b, off, rfl, hB, by omega, fun i hi => ?_⟩
    obtain ⟨u, c1, hu, c2⟩ := hc i hi
    exact ⟨u, (World.cell?_of_block (a := ⟨b, off + i * 2, none⟩) (hb b hB hbs)).trans c1, hu.at hs hb, (World.cell?_of_block (a := ⟨b, off + i * 2 + 1, none⟩) (hb b hB hbs)).trans c2⟩
theorem PaAt.below {B : Nat} {w w' : World} {v : Value} {P : List Pa} (h : PaAt B w v P) (hb : Below w.heap.size w w') : PaAt B w' v P :=
  h.at hb.size fun b _ hlt => hb.block b hlt
theorem PaAt.down {B B' : Nat} {w : World} {v : Value} {P : List Pa} (h : PaAt B w v P) (hB : B' ≤ B) : PaAt B' w v P := by
  obtain ⟨a, cap, rfl, h⟩ := h
  refine ⟨a, cap, rfl, ?_⟩
  rcases h with h | ⟨b, off, rfl, hB2, hbs, hc⟩
  · exact .inl h
  · refine .inr ⟨b, off, rfl, by omega, hbs, fun i hi => ?_⟩
    obtain ⟨u, c1, hu, c2⟩ := hc i hi
    exact ⟨u, c1, hu.down hB, c2⟩
theorem PaAt.form {B : Nat} {w : World} {v : Value} {P : List Pa} (h : PaAt B w v P) : ∃ a cap, v = .slice a P.length cap := by
  obtain ⟨a, cap, e, _⟩ := h
  exact ⟨a, cap, e⟩
theorem heap_new (w : World) (o : Obj) : (w.alloc o).heap[w.heap.size]? = some o := by unfold World.alloc; exact Array.getElem?_push_size
theorem two_cells {w : World} {g : Nat} {a b : Value} {T : TypeId} (h : w.heap[g]? = some (.cells #[a, b] T (0, 0))) : w.cell? ⟨g, 0, none⟩ = some a ∧ w.cell? ⟨g, 1, none⟩ = some b ∧ w.frozen? ⟨g, 0, none⟩ = false ∧ w.frozen? ⟨g, 1, none⟩ = false := by
  simp [World.cell?, World.frozen?, h]
theorem five_cells {w : World} {g : Nat} {a b c d e : Value} {T : TypeId} (h : w.heap[g]? = some (.cells #[a, b, c, d, e] T (0, 0))) : w.cell? ⟨g, 0, none⟩ = some a ∧ w.cell? ⟨g, 1, none⟩ = some b ∧ w.cell? ⟨g, 2, none⟩ = some c ∧ w.cell? ⟨g, 3, none⟩ = some d ∧ w.cell? ⟨g, 4, none⟩ = some e := by
  simp [World.cell?, h]
/-- How large rules are. -/
def sz1 (r : Ru) : Nat := r.1.size + r.2.1.size + r.2.2.1.size + r.2.2.2.1.size
def szk (L : List Ru) : Nat → Nat
  | 0 => 0
  | k + 1 => szk L k + sz1 (gr L k)
def szR (L : List Ru) : Nat := L.length + szk L L.length
def szq (P : List Pa) : Nat → Nat
  | 0 => 0
  | k + 1 => szq P k + szR (gp P k).1
def szP (P : List Pa) : Nat := P.length + szq P P.length
theorem szk_mono (L : List Ru) (i k : Nat) (h : i ≤ k) : szk L i ≤ szk L k := by
  induction k with
  | zero => obtain rfl : i = 0 := by omega
            exact Nat.le_refl _
  | succ k ih =>
    by_cases e : i = k + 1
    · subst e; exact Nat.le_refl _
    · have := ih (by omega)
      have e2 : szk L (k + 1) = szk L k + sz1 (gr L k) := rfl
      omega
theorem szq_mono (P : List Pa) (i k : Nat) (h : i ≤ k) : szq P i ≤ szq P k := by
  induction k with
  | zero => obtain rfl : i = 0 := by omega
            exact Nat.le_refl _
  | succ k ih =>
    by_cases e : i = k + 1
    · subst e; exact Nat.le_refl _
    · have := ih (by omega)
      have e2 : szq P (k + 1) = szq P k + szR (gp P k).1 := rfl
      omega
theorem szk_up (L : List Ru) (i k : Nat) (h : i < k) : sz1 (gr L i) ≤ szk L k := by
  have e2 : szk L (i + 1) = szk L i + sz1 (gr L i) := rfl
  have := szk_mono L (i + 1) k h
  omega
theorem szq_up (P : List Pa) (i k : Nat) (h : i < k) : szR (gp P i).1 ≤ szq P k := by
  have e2 : szq P (i + 1) = szq P i + szR (gp P i).1 := rfl
  have := szq_mono P (i + 1) k h
  omega
/-- Texts that can be in memory. -/
def Fit1 (r : Ru) : Prop := r.1.size ≤ 9223372036854775807 ∧ r.2.1.size ≤ 9223372036854775807 ∧ r.2.2.1.size ≤ 9223372036854775807 ∧ r.2.2.2.1.size ≤ 9223372036854775807
def FitR (L : List Ru) : Prop := L.length ≤ 9223372036854775807 ∧ ∀ i, i < L.length → Fit1 (gr L i)
def FitP (P : List Pa) : Prop := P.length ≤ 9223372036854775807 ∧ ∀ i, i < P.length → FitR (gp P i).1
/-- What is left of m, or -1. -/
def lf (m : Int) (n : Nat) : Int := if m - (n : Int) < 0 then -1 else m - (n : Int)
theorem lf_no {m : Int} {n : Nat} (h : m - (n : Int) < 0) : lf m n = -1 := if_pos h
theorem lf_ok {m : Int} {n : Nat} (h : ¬ m - (n : Int) < 0) : lf m n = m - (n : Int) := if_neg h
/-- What fits in all. -/
theorem fits {P : List Pa} (h : ¬ lf 1048576 (szP P) < 0) : P.length ≤ 1048576 ∧ ∀ i, i < P.length → (gp P i).1.length ≤ 1048576 ∧ ∀ j, j < (gp P i).1.length → sz1 (gr (gp P i).1 j) ≤ 1048576 := by
  by_cases c : (1048576 : Int) - (szP P : Int) < 0
  · rw [lf_no c] at h; omega
  · have e : szP P = P.length + szq P P.length := rfl
    refine ⟨by omega, fun i hi => ?_⟩
    have h1 := szq_up P i P.length hi
    have e1 : szR (gp P i).1 = (gp P i).1.length + szk (gp P i).1 (gp P i).1.length := rfl
    refine ⟨by omega, fun j hj => ?_⟩
    have h2 := szk_up (gp P i).1 j (gp P i).1.length hj
    omega
end Go.Proofs.YtklakcnapdhcnaaDoor.Pas
