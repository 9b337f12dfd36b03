/- Texts of rules, as the program reads them: a hidden sign, a text, a sign. -/
import Derived.Test.YtklakcnapdhcnaaDoorRdpP
import Derived.Test.YtklakcnapdhcnaaDoorShwJ
namespace Go.Proofs.YtklakcnapdhcnaaDoor.Pas
open Go.RowKit
set_option linter.unusedVariables false
theorem two_cellsR {w : World} {g : Nat} {a b : Value} {T : TypeId} (h : w.heap[g]? = some (.cells #[a, b] T (0, 0))) : w.cell? ⟨g, 0, none⟩ = some a ∧ w.cell? ⟨g, 1, none⟩ = some b ∧ w.frozen? ⟨g, 0, none⟩ = false ∧ w.frozen? ⟨g, 1, none⟩ = false := by
  simp [World.cell?, World.frozen?, h]
/-- The reader in its box: what is left of the line, whether something is wrong. -/
def Bx (w : World) (A : Nat) (s : ByteArray) (q : Bool) : Prop := w.heap[A]? = some (.cells #[.string s, .bool q] 110 (0, 0))
theorem Bx.put0 {w : World} {A : Nat} {s : ByteArray} {q : Bool} (h : Bx w A s q) (s' : ByteArray) : Bx (w.setCell ⟨A, 0, none⟩ (.string s')) A s' q := by
  have := heap_setCell_same w A 0 _ 110 (.string s') h
  unfold Bx
  simpa using this
theorem Bx.put1 {w : World} {A : Nat} {s : ByteArray} {q : Bool} (h : Bx w A s q) (q' : Bool) : Bx (w.setCell ⟨A, 1, none⟩ (.bool q')) A s q' := by
  have := heap_setCell_same w A 1 _ 110 (.bool q') h
  unfold Bx
  simpa using this
theorem Bx.lt {w : World} {A : Nat} {s : ByteArray} {q : Bool} (h : Bx w A s q) : A < w.heap.size := (Array.getElem?_eq_some_iff.1 h).1
/-- What is below lo stays, and all blocks there were but A. -/
structure Kx (A : Nat) (w w' : World) : Prop where
  bel : Below A w w'
  oth : ∀ k, k ≠ A → k < w.heap.size → w'.heap[k]? = w.heap[k]?
theorem Kx.refl (A : Nat) (w : World) : Kx A w w := ⟨Below.refl _ _, fun _ _ _ => rfl⟩
theorem Kx.trans {A : Nat} {w w1 w2 : World} (h : Kx A w w1) (k : Kx A w1 w2) : Kx A w w2 := ⟨h.bel.trans k.bel, fun i n l => (k.oth i n (Nat.lt_of_lt_of_le l h.bel.size)).trans (h.oth i n l)⟩
theorem Kx.put {A : Nat} {w w1 : World} (h : Kx A w w1) (j : Nat) (u : Value) : Kx A w (w1.setCell ⟨A, j, none⟩ u) :=
  ⟨h.bel.setCell (p := ⟨A, j, none⟩) (Nat.le_refl _) u, fun k n l => (heap_setCell_other w1 ⟨A, j, none⟩ k u n).trans (h.oth k n l)⟩
theorem Kx.of {A : Nat} {w w1 w2 : World} (h : Kx A w w1) (hb : Below w1.heap.size w1 w2) (hA : A ≤ w.heap.size) : Kx A w w2 :=
  ⟨h.bel.trans (hb.mono (Nat.le_trans hA h.bel.size)), fun k n l => (hb.block k (Nat.lt_of_lt_of_le l h.bel.size)).trans (h.oth k n l)⟩
theorem hid_n {b : Nat} (h : b = 110) : hid b = 10 := if_pos h
theorem hid_o {b : Nat} (h : ¬ b = 110) : hid b = b := if_neg h
theorem bad_n {b : Nat} (h : b = 110) : badB b = false := by subst h; rfl
theorem bad_o {b : Nat} (h : ¬ b = 110) : badB b = !sgnB b := by unfold badB; have : (b == 110) = false := by simpa using h
                                                                 rw [this, Bool.false_or]
set_option maxRecDepth 100000 in
set_option maxHeartbeats 4000000 in
/-- takeHidden. -/
theorem hidden_any (A : Nat) (s : ByteArray) (q : Bool) (w : World) (hs : s.size ≤ 1048576) (hB : Bx w A s q) :
    Calls Tryd.prog 78 #[.pointer (some ⟨A, 0, none⟩)] w fun e w' => e = .returned (.int .u8 (if s.size < 2 then 0 else hid (bt s 1) : Nat)) ∧ Bx w' A (if s.size < 2 then ⟨#[]⟩ else s.extract 2 s.size) (q || (decide (s.size < 2) || badB (bt s 1))) ∧ Kx A w w' := by
  have HB := hide hB
  obtain ⟨c0, c1, f0, f1⟩ := two_cellsR hB
  clear hB
  by_cases h2 : s.size < 2
  · have h2' : (s.size : Int) < 2 := by omega
    have B1 := hide (((unhide HB).put0 ⟨#[]⟩).put1 true)
    have K1 := hide (((Kx.refl A w).put 0 (.string ⟨#[]⟩)).put 1 (.bool true))
    obtain ⟨d0, d1, g0, g1⟩ := two_cellsR ((unhide HB).put0 ⟨#[]⟩)
    simp only [if_pos h2, decide_eq_true h2, Bool.true_or, Bool.or_true]
    go_enter Tryd.func78, Tryd.ntmps78
    go_wp2
    go_ret
    exact ⟨rfl, unhide B1, unhide K1⟩
  · have h2' : ¬ (s.size : Int) < 2 := by omega
    have h1 : (1 : Int) < (s.size : Int) := by omega
    have h3 : (2 : Int) ≤ (s.size : Int) := by omega
    have f1 : ∀ h, (s[1]'h).toNat = bt s 1 := fun h => bt_get s 1 h
    have hbb := bt_lt s 1
    have CS := hide (fun W => sign_any (bt s 1) hbb W)
    have HN := hide (fun h => hid_n (b := bt s 1) h)
    have HO := hide (fun h => hid_o (b := bt s 1) h)
    have DN := hide (fun h => bad_n (b := bt s 1) h)
    have DO := hide (fun h => bad_o (b := bt s 1) h)
    obtain ⟨d0, d1, g0, g1⟩ := two_cellsR ((unhide HB).put0 (s.extract 2 s.size))
    simp only [if_neg h2, decide_eq_false h2, Bool.false_or]
    generalize bt s 1 = b at *
    by_cases h110 : b = 110
    · have h110' : ((b : Int) == 110) = true := by rw [h110]; rfl
      have B1 := hide ((unhide HB).put0 (s.extract 2 s.size))
      have K1 := hide ((Kx.refl A w).put 0 (.string (s.extract 2 s.size)))
      go_enter Tryd.func78, Tryd.ntmps78
      go_wp2
      go_ret
      exact ⟨rfl, by rw [show badB 110 = false from rfl, Bool.or_false]; exact unhide B1, unhide K1⟩
    · have h110' : ((b : Int) == 110) = false := by rw [beq_eq_false_iff_ne]; omega
      have B1 := hide (((unhide HB).put0 (s.extract 2 s.size)).put1 (q || !sgnB b))
      have K1 := hide (((Kx.refl A w).put 0 (.string (s.extract 2 s.size))).put 1 (.bool (q || !sgnB b)))
      cases q
      · go_enter Tryd.func78, Tryd.ntmps78
        go_wp2_with (go_at_call 45; refine ((unhide CS) _).mono ?_; rintro e w' ⟨rfl, hw⟩; obtain rfl := hw.symm; clear hw)
        go_ret
        rw [(unhide HO) h110, (unhide DO) h110]
        exact ⟨rfl, unhide B1, unhide K1⟩
      · go_enter Tryd.func78, Tryd.ntmps78
        go_wp2_with (go_at_call 45; refine ((unhide CS) _).mono ?_; rintro e w' ⟨rfl, hw⟩; obtain rfl := hw.symm; clear hw)
        go_ret
        rw [(unhide HO) h110]
        exact ⟨rfl, unhide B1, unhide K1⟩
/-- What is left behind a place. -/
theorem ext_ext (t : ByteArray) (i k : Nat) (h : i + k ≤ t.size) : (t.extract i t.size).extract k (t.extract i t.size).size = t.extract (i + k) t.size := by
  rw [ByteArray.size_extract, ByteArray.extract_extract]
  congr 1 <;> omega
theorem ext_size (t : ByteArray) (i : Nat) : (t.extract i t.size).size = t.size - i := by rw [ByteArray.size_extract]; omega
theorem bt_ext (s : ByteArray) (a j : Nat) (h : a + j < s.size) : bt (s.extract a s.size) j = bt s (a + j) := by
  have hs : (s.extract a s.size).size = s.size - a := by rw [ByteArray.size_extract]; omega
  rw [← bt_get _ j (by omega), ← bt_get s (a + j) h]
  congr 1
  exact ByteArray.getElem_extract _
theorem ext_all (t : ByteArray) : t.extract t.size t.size = ⟨#[]⟩ := by
  apply ByteArray.ext
  simp
end Go.Proofs.YtklakcnapdhcnaaDoor.Pas
