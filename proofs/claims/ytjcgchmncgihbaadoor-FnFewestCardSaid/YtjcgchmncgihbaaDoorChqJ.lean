/- The pieces of a text between its cuts, one behind the other, are the text. No walk. -/
import Derived.Test.YtjcgchmncgihbaaDoorChsI
namespace Go.Proofs.YtjcgchmncgihbaaDoor
namespace Chr
open Go.RowKit
/-- The first k texts of a row, one behind the other. -/
def jnk (l : List ByteArray) : Nat → ByteArray
  | 0 => ByteArray.empty
  | k + 1 => jnk l k ++ nthS l k
theorem nthS_pieces (s : ByteArray) (C : List Int) (k : Nat) (h : k + 1 < C.length) : nthS (pieces s C) k = s.extract (nth C k).toNat (nth C (k + 1)).toNat := by
  simp [nthS, pieces, pcs, List.getD_eq_getElem?_getD, show k < C.length - 1 by omega]
theorem jnk_pieces {s : ByteArray} {C : List Int} (hC : Cuts s C) (h0 : nth C 0 = 0) : ∀ k, k < C.length → jnk (pieces s C) k = s.extract 0 (nth C k).toNat
  | 0, _ => by rw [h0]; show ByteArray.empty = s.extract 0 0; simp
  | k + 1, h => by
    show jnk (pieces s C) k ++ nthS (pieces s C) k = _
    obtain ⟨a, b, ha, hb, hab, _⟩ := hC k h
    rw [jnk_pieces hC h0 k (by omega), nthS_pieces s C k h, ha, hb, ByteArray.extract_append_extract]
    congr 1 <;> simp [hab]
theorem jnk_size {s : ByteArray} {C : List Int} (hC : Cuts s C) (h0 : nth C 0 = 0) (k : Nat) (h : k < C.length) : (jnk (pieces s C) k).size ≤ s.size := by
  rw [jnk_pieces hC h0 k h]
  simp
  omega
/-- All of them are the text, where the cuts begin at its beginning and end at its end. -/
theorem jnk_all {s : ByteArray} {C : List Int} (hC : Cuts s C) (h0 : nth C 0 = 0) (hl : 0 < C.length) (he : nth C (C.length - 1) = (s.size : Int)) : jnk (pieces s C) (pieces s C).length = s := by
  rw [pieces_len, jnk_pieces hC h0 _ (by omega), he]
  simp
end Chr
end Go.Proofs.YtjcgchmncgihbaaDoor
