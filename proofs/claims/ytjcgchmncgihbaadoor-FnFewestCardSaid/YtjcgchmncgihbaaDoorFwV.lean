/- What FnFewest asks of the pieces: pure. -/
import Derived.Test.YtjcgchmncgihbaaDoorMFP
import Derived.Test.YtjcgchmncgihbaaDoorChqJ
import Derived.Test.YtjcgchmncgihbaaDoorStrC
namespace Go.Proofs.YtjcgchmncgihbaaDoor
namespace Fw
open Go.RowKit
set_option linter.unusedVariables false
def hwk (W : List ByteArray) (x : ByteArray) (j : Nat) : Bool := (W.take j).any fun y => decide (y = x)
theorem hwk_zero (W : List ByteArray) (x : ByteArray) : hwk W x 0 = false := by simp [hwk]
theorem hwk_next (W : List ByteArray) (x : ByteArray) (j : Nat) (h : j < W.length) : hwk W x (j + 1) = (hwk W x j || decide (nthS W j = x)) := by
  have e : nthS W j = W[j] := by unfold nthS; rw [List.getD_eq_getElem?_getD, List.getElem?_eq_getElem h]; rfl
  unfold hwk
  rw [List.take_succ_eq_append_getElem h, List.any_append, e]
  simp
theorem hwk_all (W : List ByteArray) (x : ByteArray) : hwk W x W.length = hw W x := by simp [hwk, hw]
structure Fc (W : List ByteArray) (s : ByteArray) (S : List ByteArray) : Prop where
  jn : Chr.jnk S S.length = s
  js : ∀ k, k ≤ S.length → (Chr.jnk S k).size ≤ 1048576
  ok : ∀ k, k < S.length → (hw W (nthS S k) = true ∨ (pts (nthS S k)).length = 1) ∧ (nthS S k).size ≤ s.size
  le : S.length ≤ (pts s).length
  z : S.length = 0 → s = ⟨#[]⟩
  r : ∀ x r, S = x :: r → fwO W (s.extract x.size s.size) = r ∧ x.size ≤ s.size
theorem few_facts {W : List ByteArray} {s : ByteArray} (hw : Wd.wfc W = 0) (hs : s.size ≤ 500) : Fc W s (fwO W s) := by
  have e : fwO W s = pcI s 0 (fsL W s) := by unfold fwO; rw [if_neg (by omega)]
  obtain ⟨h1, h2⟩ := fsL_ok W s
  have hC := cu_cuts s (fsL W s)
  have hl := cu_len s (fsL W s)
  have h0 : nth (cu s (fsL W s)) 0 = 0 := by
    rw [cu_nth s _ 0 (Nat.zero_le _)]
    simp [pl, steps]
  have he : nth (cu s (fsL W s)) ((cu s (fsL W s)).length - 1) = (s.size : Int) := by
    rw [hl, Nat.add_sub_cancel, cu_nth s _ _ (Nat.le_refl _), List.take_length, h1, pl_end]
  have hp := pieces_cu s (fsL W s)
  have hpl : (pcI s 0 (fsL W s)).length = (fsL W s).length := pcI_len s _ 0
  refine ⟨?_, fun k hk => ?_, fun k hk => ?_, ?_, fun h => ?_, fun x r h => ?_⟩
  · rw [e, ← hp]
    exact Chr.jnk_all hC h0 (by omega) he
  · rw [e] at hk ⊢
    rw [← hp]
    have := Chr.jnk_size hC h0 k (by omega)
    omega
  · rw [e] at hk ⊢
    have hm : nthS (pcI s 0 (fsL W s)) k ∈ pcI s 0 (fsL W s) := by
      have : nthS (pcI s 0 (fsL W s)) k = (pcI s 0 (fsL W s))[k] := by unfold nthS; rw [List.getD_eq_getElem?_getD, List.getElem?_eq_getElem hk]; rfl
      rw [this]
      exact List.getElem_mem hk
    have := piece_ok hm
    exact ⟨this.1, this.2.2⟩
  · rw [e]
    omega
  · rw [e] at h
    have hz : fsL W s = [] := List.length_eq_zero_iff.1 (by omega)
    have : (pts s).length = 0 := by rw [← h1, hz]; rfl
    have hq := pl_end s
    rw [this] at hq
    have hq2 : pl s 0 = 0 := by simp [pl, steps]
    have hsz : s.size = 0 := by omega
    apply ByteArray.ext
    exact Array.eq_empty_of_size_eq_zero hsz
  · rw [e] at h
    have hx : x ∈ pcI s 0 (fsL W s) := by rw [h]; exact List.mem_cons_self
    have hxs := (piece_ok hx).2.2
    refine ⟨?_, hxs⟩
    have hes : (s.extract x.size s.size).size ≤ 500 := by simp [ByteArray.size_extract]; omega
    have e2 : fwO W (s.extract x.size s.size) = pcI (s.extract x.size s.size) 0 (fsL W (s.extract x.size s.size)) := by
      unfold fwO
      rw [if_neg (by omega)]
    rw [e2]
    exact rest_cut h
theorem strs_tail {w : World} {b o cap c2 : Nat} {x : ByteArray} {r : List ByteArray} (h : StrsAt w (.slice (some ⟨b, o, none⟩) (r.length + 1) cap) (x :: r)) : StrsAt w (.slice (some ⟨b, o + 1, none⟩) r.length c2) r := by
  obtain ⟨a, c, he, h⟩ := h
  rcases h with h | ⟨b2, o2, ha, hb, hc⟩
  · cases h
  · subst ha
    cases he
    refine ⟨_, _, rfl, .inr ⟨b, o + 1, rfl, hb, fun i hi => ?_⟩⟩
    have := hc (i + 1) (by simp; omega)
    rw [show o + 1 + i = o + (i + 1) by omega, this]
    rfl
end Fw
end Go.Proofs.YtjcgchmncgihbaaDoor
