/- A rule, as the program reads it. -/
import Derived.Test.YtklakcnapdhcnaaDoorRdpR
namespace Go.Proofs.YtklakcnapdhcnaaDoor.Pas
open Go.RowKit
set_option linter.unusedVariables false
/-- The rule's box and the reader's, in new blocks. -/
structure St (t : ByteArray) (w x : World) (v0 v1 v2 v3 v4 : Value) (X : Nat × Bool) : Prop where
  bel : Below w.heap.size w x
  rb : x.heap[w.heap.size]? = some (.cells #[v0, v1, v2, v3, v4] 40 (0, 0))
  bx : Bx x (w.heap.size + 1) (t.extract X.1 t.size) X.2
theorem St.call {t : ByteArray} {w x x' : World} {v0 v1 v2 v3 v4 : Value} {X Y : Nat × Bool} (h : St t w x v0 v1 v2 v3 v4 X) (hk : Kx (w.heap.size + 1) x x') (hb : Bx x' (w.heap.size + 1) (t.extract Y.1 t.size) Y.2) : St t w x' v0 v1 v2 v3 v4 Y :=
  ⟨h.bel.trans (hk.bel.mono (Nat.le_succ _)), (hk.oth _ (by omega) (Array.getElem?_eq_some_iff.1 h.rb).1).trans h.rb, hb⟩
theorem St.drew {t : ByteArray} {w x : World} {v0 v1 v2 v3 v4 : Value} {X : Nat × Bool} (h : St t w x v0 v1 v2 v3 v4 X) : St t w x.drew v0 v1 v2 v3 v4 X := ⟨h.bel.trans ⟨rfl, rfl, rfl, Nat.le_refl _, fun _ _ => rfl⟩, h.rb, h.bx⟩
theorem St.put0 {t : ByteArray} {w x : World} {v0 v1 v2 v3 v4 : Value} {X : Nat × Bool} (h : St t w x v0 v1 v2 v3 v4 X) (u : Value) : St t w (x.setCell ⟨w.heap.size, 0, none⟩ u) u v1 v2 v3 v4 X := by
  refine ⟨h.bel.setCell (p := ⟨w.heap.size, 0, none⟩) (Nat.le_refl _) u, ?_, ?_⟩
  · have := heap_setCell_same x w.heap.size 0 _ 40 u h.rb
    simpa using this
  · exact (heap_setCell_other x ⟨w.heap.size, 0, none⟩ (w.heap.size + 1) u (by show w.heap.size + 1 ≠ w.heap.size; omega)).trans h.bx
theorem St.put1 {t : ByteArray} {w x : World} {v0 v1 v2 v3 v4 : Value} {X : Nat × Bool} (h : St t w x v0 v1 v2 v3 v4 X) (u : Value) : St t w (x.setCell ⟨w.heap.size, 1, none⟩ u) v0 u v2 v3 v4 X := by
  refine ⟨h.bel.setCell (p := ⟨w.heap.size, 1, none⟩) (Nat.le_refl _) u, ?_, ?_⟩
  · have := heap_setCell_same x w.heap.size 1 _ 40 u h.rb
    simpa using this
  · exact (heap_setCell_other x ⟨w.heap.size, 1, none⟩ (w.heap.size + 1) u (by show w.heap.size + 1 ≠ w.heap.size; omega)).trans h.bx
theorem St.put2 {t : ByteArray} {w x : World} {v0 v1 v2 v3 v4 : Value} {X : Nat × Bool} (h : St t w x v0 v1 v2 v3 v4 X) (u : Value) : St t w (x.setCell ⟨w.heap.size, 2, none⟩ u) v0 v1 u v3 v4 X := by
  refine ⟨h.bel.setCell (p := ⟨w.heap.size, 2, none⟩) (Nat.le_refl _) u, ?_, ?_⟩
  · have := heap_setCell_same x w.heap.size 2 _ 40 u h.rb
    simpa using this
  · exact (heap_setCell_other x ⟨w.heap.size, 2, none⟩ (w.heap.size + 1) u (by show w.heap.size + 1 ≠ w.heap.size; omega)).trans h.bx
theorem St.put3 {t : ByteArray} {w x : World} {v0 v1 v2 v3 v4 : Value} {X : Nat × Bool} (h : St t w x v0 v1 v2 v3 v4 X) (u : Value) : St t w (x.setCell ⟨w.heap.size, 3, none⟩ u) v0 v1 v2 u v4 X := by
  refine ⟨h.bel.setCell (p := ⟨w.heap.size, 3, none⟩) (Nat.le_refl _) u, ?_, ?_⟩
  · have := heap_setCell_same x w.heap.size 3 _ 40 u h.rb
    simpa using this
  · exact (heap_setCell_other x ⟨w.heap.size, 3, none⟩ (w.heap.size + 1) u (by show w.heap.size + 1 ≠ w.heap.size; omega)).trans h.bx
theorem St.put4 {t : ByteArray} {w x : World} {v0 v1 v2 v3 v4 : Value} {X : Nat × Bool} (h : St t w x v0 v1 v2 v3 v4 X) (u : Value) : St t w (x.setCell ⟨w.heap.size, 4, none⟩ u) v0 v1 v2 v3 u X := by
  refine ⟨h.bel.setCell (p := ⟨w.heap.size, 4, none⟩) (Nat.le_refl _) u, ?_, ?_⟩
  · have := heap_setCell_same x w.heap.size 4 _ 40 u h.rb
    simpa using this
  · exact (heap_setCell_other x ⟨w.heap.size, 4, none⟩ (w.heap.size + 1) u (by show w.heap.size + 1 ≠ w.heap.size; omega)).trans h.bx
theorem five_cellsU {w : World} {g : Nat} {v0 v1 v2 v3 v4 : Value} {T : TypeId} (h : w.heap[g]? = some (.cells #[v0, v1, v2, v3, v4] T (0, 0))) : (w.cell? ⟨g, 0, none⟩ = some v0 ∧ w.cell? ⟨g, 1, none⟩ = some v1 ∧ w.cell? ⟨g, 2, none⟩ = some v2 ∧ w.cell? ⟨g, 3, none⟩ = some v3 ∧ w.cell? ⟨g, 4, none⟩ = some v4) ∧ (w.frozen? ⟨g, 0, none⟩ = false ∧ w.frozen? ⟨g, 1, none⟩ = false ∧ w.frozen? ⟨g, 2, none⟩ = false ∧ w.frozen? ⟨g, 3, none⟩ = false ∧ w.frozen? ⟨g, 4, none⟩ = false) := by
  simp [World.cell?, World.frozen?, h]
set_option maxRecDepth 100000 in
set_option maxHeartbeats 8000000 in
theorem rule_any (t : ByteArray) (w : World) (ht : t.size ≤ 1048576) :
    Calls Tryd.prog 55 #[.string t] w fun e w' => e = .returned (.tuple #[rv (ruI t).1, .bool (ruI t).2]) ∧ Below w.heap.size w w' := by
  have CT := fun (X : Nat × Bool) (h : X.1 ≤ t.size) W (hb : Bx W (w.heap.size + 1) (t.extract X.1 t.size) X.2) => text_any (w.heap.size + 1) X.1 t X.2 W ht h hb
  have CS := fun (X : Nat × Bool) (h : X.1 ≤ t.size) W p L hp hL (hb : Bx W (w.heap.size + 1) (t.extract X.1 t.size) X.2) => sgt_any (w.heap.size + 1) X.1 t p L X.2 W h hp hL hb
  have CA := fun (X : Nat × Bool) (h : X.1 ≤ t.size) W (hb : Bx W (w.heap.size + 1) (t.extract X.1 t.size) X.2) => again_any (w.heap.size + 1) X.1 t X.2 W ht h hb
  obtain ⟨a, ea⟩ : ∃ y, y = tI t ((0, false) : Nat × Bool) := ⟨_, rfl⟩
  have la : a.2.1 ≤ t.size := by rw [ea]; exact tI_le (Nat.zero_le _)
  have Ca : Hid (∀ W, Bx W (w.heap.size + 1) (t.extract ((0, false) : Nat × Bool).1 t.size) ((0, false) : Nat × Bool).2 → Calls Tryd.prog 68 #[.pointer (some ⟨w.heap.size + 1, 0, none⟩)] W fun e w' => e = .returned (.string (strOfNums a.1)) ∧ Bx w' (w.heap.size + 1) (t.extract a.2.1 t.size) a.2.2 ∧ Kx (w.heap.size + 1) W w') := hide (fun W hb => by rw [ea]; exact CT ((0, false) : Nat × Bool) (Nat.zero_le _) W hb)
  obtain ⟨sa, esa⟩ : ∃ y, y = sgI t [91] a.2 := ⟨_, rfl⟩
  have lsa : sa.1 ≤ t.size := by rw [esa]; exact sgI_le la
  have Csa : Hid (∀ W, Bx W (w.heap.size + 1) (t.extract a.2.1 t.size) a.2.2 → Calls Tryd.prog 69 #[.pointer (some ⟨w.heap.size + 1, 0, none⟩), .string ⟨#[91]⟩] W fun e w' => e = .returned (.tuple #[]) ∧ Bx w' (w.heap.size + 1) (t.extract sa.1 t.size) sa.2 ∧ Kx (w.heap.size + 1) W w') := hide (fun W hb => by rw [esa]; exact CS a.2 la W ⟨#[91]⟩ [91] rfl (by decide) hb)
  obtain ⟨b, eb⟩ : ∃ y, y = tI t sa := ⟨_, rfl⟩
  have lb : b.2.1 ≤ t.size := by rw [eb]; exact tI_le lsa
  have Cb : Hid (∀ W, Bx W (w.heap.size + 1) (t.extract sa.1 t.size) sa.2 → Calls Tryd.prog 68 #[.pointer (some ⟨w.heap.size + 1, 0, none⟩)] W fun e w' => e = .returned (.string (strOfNums b.1)) ∧ Bx w' (w.heap.size + 1) (t.extract b.2.1 t.size) b.2.2 ∧ Kx (w.heap.size + 1) W w') := hide (fun W hb => by rw [eb]; exact CT sa lsa W hb)
  obtain ⟨sb, esb⟩ : ∃ y, y = sgI t [93] b.2 := ⟨_, rfl⟩
  have lsb : sb.1 ≤ t.size := by rw [esb]; exact sgI_le lb
  have Csb : Hid (∀ W, Bx W (w.heap.size + 1) (t.extract b.2.1 t.size) b.2.2 → Calls Tryd.prog 69 #[.pointer (some ⟨w.heap.size + 1, 0, none⟩), .string ⟨#[93]⟩] W fun e w' => e = .returned (.tuple #[]) ∧ Bx w' (w.heap.size + 1) (t.extract sb.1 t.size) sb.2 ∧ Kx (w.heap.size + 1) W w') := hide (fun W hb => by rw [esb]; exact CS b.2 lb W ⟨#[93]⟩ [93] rfl (by decide) hb)
  obtain ⟨c, ec⟩ : ∃ y, y = tI t sb := ⟨_, rfl⟩
  have lc : c.2.1 ≤ t.size := by rw [ec]; exact tI_le lsb
  have Cc : Hid (∀ W, Bx W (w.heap.size + 1) (t.extract sb.1 t.size) sb.2 → Calls Tryd.prog 68 #[.pointer (some ⟨w.heap.size + 1, 0, none⟩)] W fun e w' => e = .returned (.string (strOfNums c.1)) ∧ Bx w' (w.heap.size + 1) (t.extract c.2.1 t.size) c.2.2 ∧ Kx (w.heap.size + 1) W w') := hide (fun W hb => by rw [ec]; exact CT sb lsb W hb)
  obtain ⟨sc, esc⟩ : ∃ y, y = sgI t [32, 62, 32] c.2 := ⟨_, rfl⟩
  have lsc : sc.1 ≤ t.size := by rw [esc]; exact sgI_le lc
  have Csc : Hid (∀ W, Bx W (w.heap.size + 1) (t.extract c.2.1 t.size) c.2.2 → Calls Tryd.prog 69 #[.pointer (some ⟨w.heap.size + 1, 0, none⟩), .string ⟨#[32, 62, 32]⟩] W fun e w' => e = .returned (.tuple #[]) ∧ Bx w' (w.heap.size + 1) (t.extract sc.1 t.size) sc.2 ∧ Kx (w.heap.size + 1) W w') := hide (fun W hb => by rw [esc]; exact CS c.2 lc W ⟨#[32, 62, 32]⟩ [32, 62, 32] rfl (by decide) hb)
  obtain ⟨d, ed⟩ : ∃ y, y = tI t sc := ⟨_, rfl⟩
  have ld : d.2.1 ≤ t.size := by rw [ed]; exact tI_le lsc
  have Cd : Hid (∀ W, Bx W (w.heap.size + 1) (t.extract sc.1 t.size) sc.2 → Calls Tryd.prog 68 #[.pointer (some ⟨w.heap.size + 1, 0, none⟩)] W fun e w' => e = .returned (.string (strOfNums d.1)) ∧ Bx w' (w.heap.size + 1) (t.extract d.2.1 t.size) d.2.2 ∧ Kx (w.heap.size + 1) W w') := hide (fun W hb => by rw [ed]; exact CT sc lsc W hb)
  obtain ⟨g, eg⟩ : ∃ y : Int, y = if d.2.1 = t.size then 0 else ((t.size - d.2.1 - 1 : Nat) : Int) := ⟨_, rfl⟩
  obtain ⟨z, ez⟩ : ∃ y : Nat × Bool, y = (d.2.1, d.2.2 || !endB t d.2.1) := ⟨_, rfl⟩
  have Cg : Hid (∀ W, Bx W (w.heap.size + 1) (t.extract d.2.1 t.size) d.2.2 → Calls Tryd.prog 70 #[.pointer (some ⟨w.heap.size + 1, 0, none⟩)] W fun e w' => e = .returned (.int .i64 g) ∧ Bx w' (w.heap.size + 1) (t.extract z.1 t.size) z.2 ∧ Kx (w.heap.size + 1) W w') := hide (fun W hb => by rw [eg, ez]; exact CA d.2 ld W hb)
  have HR : Hid (ruI t = ((strOfNums a.1, strOfNums b.1, strOfNums c.1, strOfNums d.1, g), !z.2)) := hide (by rw [eg, ez, ed, esc, ec, esb, eb, esa, ea]; rfl)
  clear CT CS CA ea eb ec ed esa esb esc eg ez la lb lc ld lsa lsb lsc
  have S0 : Hid (St t w ((w.alloc (.cells #[.string ⟨#[]⟩, .string ⟨#[]⟩, .string ⟨#[]⟩, .string ⟨#[]⟩, .int .i64 0] 40)).alloc (.cells #[.string t, .bool false] 110)) (.string ⟨#[]⟩) (.string ⟨#[]⟩) (.string ⟨#[]⟩) (.string ⟨#[]⟩) (.int .i64 0) (0, false)) := hide (by
    refine ⟨(al1 w _).trans ((al1 _ _).mono (by simp)), ?_, ?_⟩
    · rw [Below.heap_alloc _ _ _ (by simp)]
      exact heap_new w _
    · have := heap_new (w.alloc (.cells #[.string ⟨#[]⟩, .string ⟨#[]⟩, .string ⟨#[]⟩, .string ⟨#[]⟩, .int .i64 0] 40)) (.cells #[.string t, .bool false] 110)
      have e : t.extract 0 t.size = t := by apply ByteArray.ext; simp
      show _ = some (Obj.cells #[.string (t.extract 0 t.size), .bool false] 110 (0, 0))
      rw [e, ← this]
      simp)
  go_enter Tryd.func55, Tryd.ntmps55
  go_wp2_with fail
  refine ((unhide Ca) _ (unhide S0).bx).mono ?_
  rintro e x1 ⟨rfl, hb, hk⟩
  have S1 := hide ((unhide S0).call hk hb)
  obtain ⟨⟨b0, b1, b2, b3, b4⟩, ⟨f0, f1, f2, f3, f4⟩⟩ := five_cellsU (unhide S1).rb
  have S2 := hide ((unhide S1).put0 (.string (strOfNums a.1)))
  clear hb hk
  go_wp2_with fail
  clear b0 b1 b2 b3 b4 f0 f1 f2 f3 f4
  refine ((unhide Csa) _ (unhide S2).bx).mono ?_
  rintro e x3 ⟨rfl, hb, hk⟩
  have S3 := hide ((unhide S2).call hk hb)
  clear hb hk
  go_wp2_with fail
  refine ((unhide Cb) _ (unhide S3).bx).mono ?_
  rintro e x4 ⟨rfl, hb, hk⟩
  have S4 := hide ((unhide S3).call hk hb)
  obtain ⟨⟨b0, b1, b2, b3, b4⟩, ⟨f0, f1, f2, f3, f4⟩⟩ := five_cellsU (unhide S4).rb
  have S5 := hide ((unhide S4).put1 (.string (strOfNums b.1)))
  clear hb hk
  go_wp2_with fail
  clear b0 b1 b2 b3 b4 f0 f1 f2 f3 f4
  refine ((unhide Csb) _ (unhide S5).bx).mono ?_
  rintro e x6 ⟨rfl, hb, hk⟩
  have S6 := hide ((unhide S5).call hk hb)
  clear hb hk
  go_wp2_with fail
  refine ((unhide Cc) _ (unhide S6).bx).mono ?_
  rintro e x7 ⟨rfl, hb, hk⟩
  have S7 := hide ((unhide S6).call hk hb)
  obtain ⟨⟨b0, b1, b2, b3, b4⟩, ⟨f0, f1, f2, f3, f4⟩⟩ := five_cellsU (unhide S7).rb
  have S8 := hide ((unhide S7).put2 (.string (strOfNums c.1)))
  clear hb hk
  go_wp2_with fail
  clear b0 b1 b2 b3 b4 f0 f1 f2 f3 f4
  refine ((unhide Csc) _ (unhide S8).bx).mono ?_
  rintro e x9 ⟨rfl, hb, hk⟩
  have S9 := hide ((unhide S8).call hk hb)
  clear hb hk
  go_wp2_with fail
  refine ((unhide Cd) _ (unhide S9).bx).mono ?_
  rintro e x10 ⟨rfl, hb, hk⟩
  have S10 := hide ((unhide S9).call hk hb)
  obtain ⟨⟨b0, b1, b2, b3, b4⟩, ⟨f0, f1, f2, f3, f4⟩⟩ := five_cellsU (unhide S10).rb
  have S11 := hide ((unhide S10).put3 (.string (strOfNums d.1)))
  clear hb hk
  go_wp2_with fail
  clear b0 b1 b2 b3 b4 f0 f1 f2 f3 f4
  refine ((unhide Cg) _ (unhide S11).bx).mono ?_
  rintro e x12 ⟨rfl, hb, hk⟩
  have S12 := hide ((unhide S11).call hk hb)
  obtain ⟨⟨b0, b1, b2, b3, b4⟩, ⟨f0, f1, f2, f3, f4⟩⟩ := five_cellsU (unhide S12).rb
  have S13 := hide ((unhide S12).put4 (.int .i64 g))
  clear hb hk
  go_wp2_with fail
  clear b0 b1 b2 b3 b4 f0 f1 f2 f3 f4
  obtain ⟨⟨b0, b1, b2, b3, b4⟩, ⟨f0, f1, f2, f3, f4⟩⟩ := five_cellsU (unhide S13).rb
  obtain ⟨c0, c1, k0, k1⟩ := two_cellsR (unhide S13).bx
  have KS : (fun w' => w'.cell? ⟨w.heap.size, 0, none⟩ = some (.string (strOfNums a.1)) ∧ w'.cell? ⟨w.heap.size, 1, none⟩ = some (.string (strOfNums b.1)) ∧ w'.cell? ⟨w.heap.size, 2, none⟩ = some (.string (strOfNums c.1)) ∧ w'.cell? ⟨w.heap.size, 3, none⟩ = some (.string (strOfNums d.1)) ∧ w'.cell? ⟨w.heap.size, 4, none⟩ = some (.int .i64 g) ∧ w'.cell? ⟨w.heap.size + 1, 1, none⟩ = some (.bool z.2)) (x12.setCell ⟨w.heap.size, 4, none⟩ (.int .i64 g)) := ⟨b0, b1, b2, b3, b4, c1⟩
  refine wp_region_held_drew (S := fun w' => w'.cell? ⟨w.heap.size, 0, none⟩ = some (.string (strOfNums a.1)) ∧ w'.cell? ⟨w.heap.size, 1, none⟩ = some (.string (strOfNums b.1)) ∧ w'.cell? ⟨w.heap.size, 2, none⟩ = some (.string (strOfNums c.1)) ∧ w'.cell? ⟨w.heap.size, 3, none⟩ = some (.string (strOfNums d.1)) ∧ w'.cell? ⟨w.heap.size, 4, none⟩ = some (.int .i64 g) ∧ w'.cell? ⟨w.heap.size + 1, 1, none⟩ = some (.bool z.2)) (by kernel_rfl) (by exact KS) (fun hHeld => ?_)
  refine tkP (i := 0) (d := some 20) (v := ?_) rfl rfl (by kernel_rfl) (by kernel_rfl) (by kernel_rfl) (fun _ _ _ h => h) (Or.inl ⟨by rfl, ?_⟩) (by assumption) ?_
  rotate_left
  · intro w hSw; (try dsimp only at hSw); go_simp; try with_reducible rfl
  try simp only [Act.put, List.setIfInBounds_toArray, List.set_cons_zero, List.set_cons_succ]
  refine tkP (i := 1) (d := some 21) (v := ?_) rfl rfl (by kernel_rfl) (by kernel_rfl) (by kernel_rfl) (fun _ _ _ h => h) (Or.inl ⟨by rfl, ?_⟩) (by assumption) ?_
  rotate_left
  · intro w hSw; (try dsimp only at hSw); go_simp; try with_reducible rfl
  try simp only [Act.put, List.setIfInBounds_toArray, List.set_cons_zero, List.set_cons_succ]
  refine tkP (i := 2) (d := some 22) (v := ?_) rfl rfl (by kernel_rfl) (by kernel_rfl) (by kernel_rfl) (fun _ _ _ h => h) (Or.inl ⟨by rfl, ?_⟩) (by assumption) ?_
  rotate_left
  · intro w hSw; (try dsimp only at hSw); go_simp; try with_reducible rfl
  try simp only [Act.put, List.setIfInBounds_toArray, List.set_cons_zero, List.set_cons_succ]
  refine tkP (i := 3) (d := some 23) (v := ?_) rfl rfl (by kernel_rfl) (by kernel_rfl) (by kernel_rfl) (fun _ _ _ h => h) (Or.inl ⟨by rfl, ?_⟩) (by assumption) ?_
  rotate_left
  · intro w hSw; (try dsimp only at hSw); go_simp; try with_reducible rfl
  try simp only [Act.put, List.setIfInBounds_toArray, List.set_cons_zero, List.set_cons_succ]
  have T0 := hide (unhide S13).drew
  clear b0 b1 b2 b3 b4 f0 f1 f2 f3 f4 c0 c1 k0 k1 KS
  generalize (x12.setCell ⟨w.heap.size, 4, none⟩ (.int .i64 g)).drew = yd at *
  have T1 := hide ((unhide T0).put0 (.string (strOfNums a.1)))
  have T2 := hide ((unhide T1).put1 (.string (strOfNums b.1)))
  have T3 := hide ((unhide T2).put2 (.string (strOfNums c.1)))
  have T4 := hide ((unhide T3).put3 (.string (strOfNums d.1)))
  have T5 := hide ((unhide T4).put4 (.int .i64 g))
  obtain ⟨⟨n00, n01, n02, n03, n04⟩, ⟨q00, q01, q02, q03, q04⟩⟩ := five_cellsU (unhide T0).rb
  obtain ⟨⟨n10, n11, n12, n13, n14⟩, ⟨q10, q11, q12, q13, q14⟩⟩ := five_cellsU (unhide T1).rb
  clear n10 n12 n13 n14 q10 q12 q13 q14
  obtain ⟨⟨n20, n21, n22, n23, n24⟩, ⟨q20, q21, q22, q23, q24⟩⟩ := five_cellsU (unhide T2).rb
  clear n20 n21 n23 n24 q20 q21 q23 q24
  obtain ⟨⟨n30, n31, n32, n33, n34⟩, ⟨q30, q31, q32, q33, q34⟩⟩ := five_cellsU (unhide T3).rb
  clear n30 n31 n32 n34 q30 q31 q32 q34
  obtain ⟨⟨n40, n41, n42, n43, n44⟩, ⟨q40, q41, q42, q43, q44⟩⟩ := five_cellsU (unhide T4).rb
  clear n40 n41 n42 n43 q40 q41 q42 q43
  refine wpAnyH_ready (rs := [4]) (by kernel_rfl) (by simp) (AllReadyH.cons rfl (fun K hK => ?_) AllReadyH.nil)
  go_simp
  obtain ⟨⟨m0, m1, m2, m3, m4⟩, _⟩ := five_cellsU (unhide T5).rb
  obtain ⟨j0, j1, _, _⟩ := two_cellsR (unhide T5).bx
  refine hK.out _ _ ⟨m0, m1, m2, m3, m4, j1⟩ (fun hHeld9 => ?_)
  clear hK K
  try simp only [Act.put, List.setIfInBounds_toArray, List.set_cons_zero, List.set_cons_succ]
  refine tkP (i := 5) (d := some 3) (v := ?_) rfl rfl (by kernel_rfl) (by kernel_rfl) (by kernel_rfl) (fun _ _ _ h => h) (Or.inl ⟨by rfl, ?_⟩) (by assumption) ?_
  rotate_left
  · intro w hSw; (try dsimp only at hSw); go_simp; try with_reducible rfl
  try simp only [Act.put, List.setIfInBounds_toArray, List.set_cons_zero, List.set_cons_succ]
  refine wpAnyH_done (by kernel_rfl) ?_ _
  clear n00 n01 n02 n03 n04 q00 q01 q02 q03 q04 n11 q11 n22 q22 n33 q33 n44 q44 j0 j1 T0 T1 T2 T3 T4
  generalize (((((yd.setCell ⟨w.heap.size, 0, none⟩ (.string (strOfNums a.1))).setCell ⟨w.heap.size, 1, none⟩ (.string (strOfNums b.1))).setCell ⟨w.heap.size, 2, none⟩ (.string (strOfNums c.1))).setCell ⟨w.heap.size, 3, none⟩ (.string (strOfNums d.1))).setCell ⟨w.heap.size, 4, none⟩ (.int .i64 g)) = w5 at *
  go_wp2
  refine bodyPost_ret (v := .tuple #[.agg #[(.string (strOfNums a.1)), (.string (strOfNums b.1)), (.string (strOfNums c.1)), (.string (strOfNums d.1)), (.int .i64 g)], .bool (!z.2)]) (by simp [results, Tryd.results55, go_sem, m0, m1, m2, m3, m4]; try rfl) rfl ?_
  rw [unhide HR]
  exact ⟨rfl, (unhide T5).bel⟩
end Go.Proofs.YtklakcnapdhcnaaDoor.Pas
