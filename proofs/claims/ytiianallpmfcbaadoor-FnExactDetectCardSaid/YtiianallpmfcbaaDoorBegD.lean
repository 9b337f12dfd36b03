/- Whether bytes begin a point's writing: the words for it. -/
import Derived.Test.YtiianallpmfcbaaDoorEncS
namespace Go.Proofs.YtiianallpmfcbaaDoor
open Go.RowKit
/-- What a first byte asks of the second one, and how many may come. -/
structure Lead (b lo hi most : Nat) : Prop where
  l1 : b = 224 → lo = 160
  l2 : b = 240 → lo = 144
  l3 : b ≠ 224 → b ≠ 240 → lo = 128
  h1 : b = 237 → hi = 159
  h2 : b = 244 → hi = 143
  h3 : b ≠ 237 → b ≠ 244 → hi = 191
  m1 : 194 ≤ b → b ≤ 223 → most = 1
  m2 : 224 ≤ b → b ≤ 239 → most = 2
  m3 : 240 ≤ b → b ≤ 244 → most = 3
  m4 : b < 194 ∨ 244 < b → most = 0
/-- The bytes begin a point's writing. -/
def Beg (s : ByteArray) : Prop := ∃ lo hi most, Lead (bt s 0) lo hi most ∧ s.size ≤ most ∧ ∀ j, 1 ≤ j → j < s.size → (j = 1 → lo ≤ bt s j ∧ bt s j ≤ hi) ∧ 128 ≤ bt s j ∧ bt s j ≤ 191
theorem lead_any (b : Nat) : ∃ lo hi most, Lead b lo hi most :=
  ⟨if b = 224 then 160 else if b = 240 then 144 else 128, if b = 237 then 159 else if b = 244 then 143 else 191, if 194 ≤ b ∧ b ≤ 223 then 1 else if 224 ≤ b ∧ b ≤ 239 then 2 else if 240 ≤ b ∧ b ≤ 244 then 3 else 0,
    by constructor <;> intros <;> (repeat' split) <;> omega⟩
theorem lead_one {b lo hi most lo' hi' most' : Nat} (h : Lead b lo hi most) (h' : Lead b lo' hi' most') : lo = lo' ∧ hi = hi' ∧ most = most' := by
  have a1 := h.l1; have a2 := h.l2; have a3 := h.l3; have a4 := h.h1; have a5 := h.h2; have a6 := h.h3; have a7 := h.m1; have a8 := h.m2; have a9 := h.m3; have a0 := h.m4
  have b1 := h'.l1; have b2 := h'.l2; have b3 := h'.l3; have b4 := h'.h1; have b5 := h'.h2; have b6 := h'.h3; have b7 := h'.m1; have b8 := h'.m2; have b9 := h'.m3; have b0 := h'.m4
  refine ⟨?_, ?_, ?_⟩
  · clear a4 a5 a6 a7 a8 a9 a0 b4 b5 b6 b7 b8 b9 b0; omega
  · clear a1 a2 a3 a7 a8 a9 a0 b1 b2 b3 b7 b8 b9 b0; omega
  · clear a1 a2 a3 a4 a5 a6 b1 b2 b3 b4 b5 b6; omega
theorem not_beg {s : ByteArray} {lo hi most : Nat} (h : Lead (bt s 0) lo hi most) (hn : ¬ s.size ≤ most ∨ ∃ j, 1 ≤ j ∧ j < s.size ∧ ¬ ((j = 1 → lo ≤ bt s j ∧ bt s j ≤ hi) ∧ 128 ≤ bt s j ∧ bt s j ≤ 191)) : ¬ Beg s := by
  rintro ⟨lo', hi', most', h', hs, ha⟩
  obtain ⟨rfl, rfl, rfl⟩ := lead_one h h'
  rcases hn with hn | ⟨j, h1, h2, h3⟩
  · exact hn hs
  · exact h3 (ha j h1 h2)
end Go.Proofs.YtiianallpmfcbaaDoor
