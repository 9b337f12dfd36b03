/- The classes of points and parts of syllables, as the specification tells them. -/
import Derived.Test.YtgnbfeejoconfaaDoorChrB
namespace Go.Proofs.YtgnbfeejoconfaaDoor
namespace Chr
open Go.RowKit
theorem sCat (p : Int) (w : World) : Calls Tryd.prog 34 #[.int .i64 p] w fun e w' => e = .returned (.int .i64 (cat p)) ∧ Below w.heap.size w w' := specCat p w
/-- The stretches in which the part of a point is one. -/
theorem prt_at (p : Int) : (p < 1792 ∧ prt p = 0) ∨ (1792 ≤ p ∧ p ≤ 1810 ∧ prt p = 1) ∨ (1810 < p ∧ p < 1824 ∧ prt p = 0) ∨ (1824 ≤ p ∧ p ≤ 1844 ∧ prt p = 2) ∨ (1844 < p ∧ p < 1857 ∧ prt p = 0) ∨ (1857 ≤ p ∧ p ≤ 1883 ∧ prt p = 3) ∨ (1883 < p ∧ p < 12288 ∧ prt p = 0) ∨ (12288 ≤ p ∧ p ≤ 23459 ∧ (p - 12288) % 28 = 0 ∧ prt p = 4) ∨ (12288 ≤ p ∧ p ≤ 23459 ∧ ¬ (p - 12288) % 28 = 0 ∧ prt p = 5) ∨ (23459 < p ∧ prt p = 0) := by
  have h : p < 1792 ∨ (1792 ≤ p ∧ p ≤ 1810) ∨ (1810 < p ∧ p < 1824) ∨ (1824 ≤ p ∧ p ≤ 1844) ∨ (1844 < p ∧ p < 1857) ∨ (1857 ≤ p ∧ p ≤ 1883) ∨ (1883 < p ∧ p < 12288) ∨ (12288 ≤ p ∧ p ≤ 23459 ∧ (p - 12288) % 28 = 0) ∨ (12288 ≤ p ∧ p ≤ 23459 ∧ ¬ (p - 12288) % 28 = 0) ∨ 23459 < p := by omega
  have hd : ∀ q : Prop, [Decidable q] → (q → decide q = true) ∧ (¬ q → decide q = false) := fun q _ => ⟨fun h => by simp [h], fun h => by simp [h]⟩
  rcases h with h | ⟨h, k⟩ | ⟨h, k⟩ | ⟨h, k⟩ | ⟨h, k⟩ | ⟨h, k⟩ | ⟨h, k⟩ | ⟨h, k, m⟩ | ⟨h, k, m⟩ | h
  · refine .inl ⟨h, ?_⟩
    unfold prt led vow tai sil
    rw [(hd (1792 ≤ p)).2 (by omega), (hd (1824 ≤ p)).2 (by omega), (hd (1857 ≤ p)).2 (by omega), (hd (12288 ≤ p)).2 (by omega)]; rfl
  · refine .inr (.inl ⟨h, k, ?_⟩)
    unfold prt led
    rw [(hd (1792 ≤ p)).1 (by omega), (hd (p ≤ 1810)).1 (by omega)]; rfl
  · refine .inr (.inr (.inl ⟨h, k, ?_⟩))
    unfold prt led vow tai sil
    rw [(hd (p ≤ 1810)).2 (by omega), (hd (1824 ≤ p)).2 (by omega), (hd (1857 ≤ p)).2 (by omega), (hd (12288 ≤ p)).2 (by omega)]; simp
  · refine .inr (.inr (.inr (.inl ⟨h, k, ?_⟩)))
    unfold prt led vow
    rw [(hd (p ≤ 1810)).2 (by omega), (hd (1824 ≤ p)).1 (by omega), (hd (p ≤ 1844)).1 (by omega)]; simp
  · refine .inr (.inr (.inr (.inr (.inl ⟨h, k, ?_⟩))))
    unfold prt led vow tai sil
    rw [(hd (p ≤ 1810)).2 (by omega), (hd (p ≤ 1844)).2 (by omega), (hd (1857 ≤ p)).2 (by omega), (hd (12288 ≤ p)).2 (by omega)]; simp
  · refine .inr (.inr (.inr (.inr (.inr (.inl ⟨h, k, ?_⟩)))))
    unfold prt led vow tai
    rw [(hd (p ≤ 1810)).2 (by omega), (hd (p ≤ 1844)).2 (by omega), (hd (1857 ≤ p)).1 (by omega), (hd (p ≤ 1883)).1 (by omega)]; simp
  · refine .inr (.inr (.inr (.inr (.inr (.inr (.inl ⟨h, k, ?_⟩))))))
    unfold prt led vow tai sil
    rw [(hd (p ≤ 1810)).2 (by omega), (hd (p ≤ 1844)).2 (by omega), (hd (p ≤ 1883)).2 (by omega), (hd (12288 ≤ p)).2 (by omega)]; simp
  · refine .inr (.inr (.inr (.inr (.inr (.inr (.inr (.inl ⟨h, k, m, ?_⟩)))))))
    unfold prt led vow tai sil
    rw [(hd (p ≤ 1810)).2 (by omega), (hd (p ≤ 1844)).2 (by omega), (hd (p ≤ 1883)).2 (by omega), (hd (12288 ≤ p)).1 (by omega), (hd (p ≤ 23459)).1 (by omega)]; simp [m]
  · refine .inr (.inr (.inr (.inr (.inr (.inr (.inr (.inr (.inl ⟨h, k, m, ?_⟩))))))))
    unfold prt led vow tai sil
    rw [(hd (p ≤ 1810)).2 (by omega), (hd (p ≤ 1844)).2 (by omega), (hd (p ≤ 1883)).2 (by omega), (hd (12288 ≤ p)).1 (by omega), (hd (p ≤ 23459)).1 (by omega)]; simp [m]
  · refine .inr (.inr (.inr (.inr (.inr (.inr (.inr (.inr (.inr ⟨h, ?_⟩))))))))
    unfold prt led vow tai sil
    rw [(hd (p ≤ 1810)).2 (by omega), (hd (p ≤ 1844)).2 (by omega), (hd (p ≤ 1883)).2 (by omega), (hd (p ≤ 23459)).2 (by omega)]; simp
theorem prt_in (p : Int) : prt p = 0 ∨ prt p = 1 ∨ prt p = 2 ∨ prt p = 3 ∨ prt p = 4 ∨ prt p = 5 := by
  rcases prt_at p with ⟨_, e⟩ | ⟨_, _, e⟩ | ⟨_, _, e⟩ | ⟨_, _, e⟩ | ⟨_, _, e⟩ | ⟨_, _, e⟩ | ⟨_, _, e⟩ | ⟨_, _, _, e⟩ | ⟨_, _, _, e⟩ | ⟨_, e⟩ <;> simp [e]
end Chr
end Go.Proofs.YtgnbfeejoconfaaDoor
