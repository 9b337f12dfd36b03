/- A node of a rope's list, as the program tells it of a tree's node. -/
import Derived.Test.YtaipnmmlfbfcnaaDoorRopT
namespace Go.Proofs.YtaipnmmlfbfcnaaDoor.Rop
open Go.RowKit
set_option linter.unusedVariables false
def encN (x : Nd) : Value := .agg #[.string x.text, .int .i64 x.left, .int .i64 x.right, .int .i64 x.size, .int .i64 x.lines]
def HT.isLeaf : HT → Bool
  | .nil => false
  | .leaf _ _ => true
  | .node _ _ _ _ => false
def ndAt (a : Int) : HT → Nd
  | .nil => ⟨⟨#[]⟩, 0, 0, 0, 0⟩
  | .leaf _ t => ⟨t, -1, -1, t.size, ends t⟩
  | .node _ t l _ => ⟨⟨#[]⟩, a + 1, a + 1 + l.sh.count, t.size, ends t⟩
theorem cells5 {w : World} {g : Nat} {a b c d e : Value} {T : TypeId} (h : w.heap[g]? = some (.cells #[a, b, c, d, e] T (0, 0))) :
    w.cell? ⟨g, 0, none⟩ = some a ∧ w.cell? ⟨g, 1, none⟩ = some b ∧ w.cell? ⟨g, 2, none⟩ = some c ∧ w.cell? ⟨g, 3, none⟩ = some d ∧ w.cell? ⟨g, 4, none⟩ = some e ∧
    w.frozen? ⟨g, 0, none⟩ = false ∧ w.frozen? ⟨g, 1, none⟩ = false ∧ w.frozen? ⟨g, 2, none⟩ = false ∧ w.frozen? ⟨g, 3, none⟩ = false ∧ w.frozen? ⟨g, 4, none⟩ = false := by
  refine ⟨?_, ?_, ?_, ?_, ?_, ?_, ?_, ?_, ?_, ?_⟩ <;> simp [World.cell?, World.frozen?, h]
set_option maxRecDepth 100000 in
theorem leafI (b n : Nat) (t : ByteArray) (p q : Option Addr) (w : World) (h : w.heap[b]? = some (brn t n p q)) :
    Calls Tryd.prog 53 #[.pointer (some ⟨b, 0, none⟩)] w fun e w' => e = .returned (.bool (p == none)) ∧ w' = w := by
  obtain ⟨c0, c1, c2, c3, c4⟩ := brn_cells h
  clear h
  cases p with
  | none =>
    go_enter Tryd.func53, Tryd.ntmps53
    go_wp2
    go_ret
    exact ⟨rfl, rfl⟩
  | some a =>
    go_enter Tryd.func53, Tryd.ntmps53
    go_wp2
    go_ret
    exact ⟨rfl, rfl⟩
theorem al_cell {w : World} {b k : Nat} {v : Value} (h : w.cell? ⟨b, k, none⟩ = some v) (hb : b < w.heap.size) (o : Obj) : (w.alloc o).cell? ⟨b, k, none⟩ = some v := (((Below.refl w.heap.size w).alloc (Nat.le_refl _) o).cell (p := ⟨b, k, none⟩) hb).trans h
def zN : Obj := .cells #[.string ⟨#[]⟩, .int .i64 0, .int .i64 0, .int .i64 0, .int .i64 0] 45 (0, 0)
theorem set6 {w W : World} (h : Below w.heap.size w W) (a b c d e f : Value) : Below w.heap.size w ((((((W.setCell ⟨w.heap.size + 1, 0, none⟩ a).setCell ⟨w.heap.size, 0, none⟩ b).setCell ⟨w.heap.size, 1, none⟩ c).setCell ⟨w.heap.size, 2, none⟩ d).setCell ⟨w.heap.size, 3, none⟩ e).setCell ⟨w.heap.size, 4, none⟩ f) :=
  (((((h.setCell (p := ⟨w.heap.size + 1, 0, none⟩) (by show _ ≤ w.heap.size + 1; omega) a).setCell (p := ⟨w.heap.size, 0, none⟩) (Nat.le_refl _) b).setCell (p := ⟨w.heap.size, 1, none⟩) (Nat.le_refl _) c).setCell (p := ⟨w.heap.size, 2, none⟩) (Nat.le_refl _) d).setCell (p := ⟨w.heap.size, 3, none⟩) (Nat.le_refl _) e).setCell (p := ⟨w.heap.size, 4, none⟩) (Nat.le_refl _) f
theorem set6' {w W : World} (h : Below w.heap.size w W) (a b c d e f : Value) : Below w.heap.size w ((((((W.setCell ⟨w.heap.size + 1, 2, none⟩ a).setCell ⟨w.heap.size, 0, none⟩ b).setCell ⟨w.heap.size, 1, none⟩ c).setCell ⟨w.heap.size, 2, none⟩ d).setCell ⟨w.heap.size, 3, none⟩ e).setCell ⟨w.heap.size, 4, none⟩ f) :=
  (((((h.setCell (p := ⟨w.heap.size + 1, 2, none⟩) (by show _ ≤ w.heap.size + 1; omega) a).setCell (p := ⟨w.heap.size, 0, none⟩) (Nat.le_refl _) b).setCell (p := ⟨w.heap.size, 1, none⟩) (Nat.le_refl _) c).setCell (p := ⟨w.heap.size, 2, none⟩) (Nat.le_refl _) d).setCell (p := ⟨w.heap.size, 3, none⟩) (Nat.le_refl _) e).setCell (p := ⟨w.heap.size, 4, none⟩) (Nat.le_refl _) f
theorem set7 {w W : World} (h : Below w.heap.size w W) (a a' b c d e f : Value) : Below w.heap.size w (((((((W.setCell ⟨w.heap.size + 1, 1, none⟩ a).setCell ⟨w.heap.size + 1, 2, none⟩ a').setCell ⟨w.heap.size, 0, none⟩ b).setCell ⟨w.heap.size, 1, none⟩ c).setCell ⟨w.heap.size, 2, none⟩ d).setCell ⟨w.heap.size, 3, none⟩ e).setCell ⟨w.heap.size, 4, none⟩ f) :=
  ((((((h.setCell (p := ⟨w.heap.size + 1, 1, none⟩) (by show _ ≤ w.heap.size + 1; omega) a).setCell (p := ⟨w.heap.size + 1, 2, none⟩) (by show _ ≤ w.heap.size + 1; omega) a').setCell (p := ⟨w.heap.size, 0, none⟩) (Nat.le_refl _) b).setCell (p := ⟨w.heap.size, 1, none⟩) (Nat.le_refl _) c).setCell (p := ⟨w.heap.size, 2, none⟩) (Nat.le_refl _) d).setCell (p := ⟨w.heap.size, 3, none⟩) (Nat.le_refl _) e).setCell (p := ⟨w.heap.size, 4, none⟩) (Nat.le_refl _) f
set_option maxRecDepth 100000 in
set_option maxHeartbeats 2000000 in
theorem nodeL (a : Int) (b : Nat) (t : ByteArray) (w : World) (h : w.heap[b]? = some (brn t 1 none none)) (ht : t.size ≤ 65536) :
    Calls Tryd.prog 64 #[.int .i64 a, .pointer (some ⟨b, 0, none⟩)] w fun e w' => e = .returned (encN (ndAt a (.leaf b t))) ∧ Below w.heap.size w w' := by
  have hb : b < w.heap.size := (Array.getElem?_eq_some_iff.1 h).1
  obtain ⟨x, hx⟩ : ∃ x : Obj, x = .cells #[.string ⟨#[]⟩, .int .i64 0, .int .i64 0, .int .i64 0, .int .i64 0] 45 (0, 0) := ⟨_, rfl⟩
  obtain ⟨w0, hw0⟩ : ∃ w0, w0 = w.alloc x := ⟨_, rfl⟩
  have B0 : Hid (Below w.heap.size w w0) := hide (by rw [hw0]; exact (Below.refl _ _).alloc (Nat.le_refl _) x)
  have z0 : w0.heap.size = w.heap.size + 1 := by rw [hw0]; simp
  have h0 : w0.heap[b]? = some (brn t 1 none none) := ((unhide B0).block b hb).trans h
  have n0 : w0.heap[w.heap.size]? = some x := by rw [hw0]; exact heap_alloc_new _ _
  have hb0 : b < w0.heap.size := by omega
  have CL := hide (fun W (hW : Below w0.heap.size w0 W) => leafI b 1 t none none W ((hW.block b hb0).trans h0))
  obtain ⟨c0, c1, c2, c3, c4⟩ := brn_cells h0
  have a0 := al_cell c0 hb0
  have a1 := al_cell c1 hb0
  have H0 := hide h0
  have N0 := hide n0
  have Z0 := hide z0
  clear h n0 h0 c2 c3 c4
  go_enter Tryd.func64, Tryd.ntmps64
  go_wp2_with fail
  subst hx
  rw [← hw0]
  clear hw0
  go_region
  obtain ⟨w1, hw1⟩ : ∃ w1, w1 = (w0.alloc (.cells #[.string ⟨#[]⟩, .int .i64 (-1), .int .i64 (-1), .int .i64 (t.size : Int), .int .i64 (ends t : Int)] 45)).drew := ⟨_, rfl⟩
  have B1 : Hid (Below w0.heap.size w0 w1) := hide (by rw [hw1]; exact bdrew ((Below.refl _ _).alloc (Nat.le_refl _) _) 1)
  have n1 : w1.heap[w.heap.size + 1]? = some (.cells #[.string ⟨#[]⟩, .int .i64 (-1), .int .i64 (-1), .int .i64 (t.size : Int), .int .i64 (ends t : Int)] 45 (0, 0)) := by rw [hw1, ← unhide Z0]; exact heap_alloc_new _ _
  have n2 : w1.heap[w.heap.size]? = some zN := ((unhide B1).block _ (by omega)).trans (unhide N0)
  rw [← hw1]
  clear hw1 a0 a1 c0 c1
  obtain ⟨c0, c1, c2, c3, c4⟩ := brn_cells (((unhide B1).block b hb0).trans (unhide H0))
  have CL1 := hide ((unhide CL) w1 (unhide B1))
  obtain ⟨e0, e1, e2, e3, e4, f0, f1, f2, f3, f4⟩ := cells5 n1
  obtain ⟨g0, g1, g2, g3, g4, k0, k1, k2, k3, k4⟩ := cells5 n2
  have N1 := hide n1
  have N2 := hide n2
  clear n1 n2 CL z0 c2 c3 c4
  go_wp2_with (go_at_call 53; refine (unhide CL1).mono ?_; rintro e w' ⟨rfl, hw⟩; obtain rfl := hw.symm; clear hw)
  refine bodyPost_ret (by simp [results, Tryd.results64, go_sem, g0, g1, g2, g3, g4]; try rfl) rfl ⟨rfl, ?_⟩
  exact set6 ((unhide B0).trans ((unhide B1).mono (by rw [unhide Z0]; omega))) _ _ _ _ _ _
set_option maxRecDepth 100000 in
set_option maxHeartbeats 2000000 in
theorem nodeB (a : Int) (b bl m k : Nat) (t s : ByteArray) (q p1 q1 : Option Addr) (w : World) (h : w.heap[b]? = some (brn t m (some ⟨bl, 0, none⟩) q)) (hl : w.heap[bl]? = some (brn s k p1 q1)) (ht : t.size ≤ 65536) (ha0 : 0 ≤ a) (ha : a ≤ 1000000) (hk : k ≤ 1000000) :
    Calls Tryd.prog 64 #[.int .i64 a, .pointer (some ⟨b, 0, none⟩)] w fun e w' => e = .returned (encN ⟨⟨#[]⟩, a + 1, a + 1 + k, t.size, ends t⟩) ∧ Below w.heap.size w w' := by
  have hb : b < w.heap.size := (Array.getElem?_eq_some_iff.1 h).1
  have hbl : bl < w.heap.size := (Array.getElem?_eq_some_iff.1 hl).1
  obtain ⟨x, hx⟩ : ∃ x : Obj, x = .cells #[.string ⟨#[]⟩, .int .i64 0, .int .i64 0, .int .i64 0, .int .i64 0] 45 (0, 0) := ⟨_, rfl⟩
  obtain ⟨w0, hw0⟩ : ∃ w0, w0 = w.alloc x := ⟨_, rfl⟩
  have B0 : Hid (Below w.heap.size w w0) := hide (by rw [hw0]; exact (Below.refl _ _).alloc (Nat.le_refl _) x)
  have z0 : w0.heap.size = w.heap.size + 1 := by rw [hw0]; simp
  have h0 : w0.heap[b]? = some (brn t m (some ⟨bl, 0, none⟩) q) := ((unhide B0).block b hb).trans h
  have hl0 : w0.heap[bl]? = some (brn s k p1 q1) := ((unhide B0).block bl hbl).trans hl
  have HL0 := hide hl0
  clear hl hl0
  have n0 : w0.heap[w.heap.size]? = some x := by rw [hw0]; exact heap_alloc_new _ _
  have hb0 : b < w0.heap.size := by omega
  have CL := hide (fun W (hW : Below w0.heap.size w0 W) => leafI b m t (some ⟨bl, 0, none⟩) q W ((hW.block b hb0).trans h0))
  obtain ⟨c0, c1, c2, c3, c4⟩ := brn_cells h0
  have a0 := al_cell c0 hb0
  have a1 := al_cell c1 hb0
  have H0 := hide h0
  have N0 := hide n0
  have Z0 := hide z0
  clear h n0 h0 c2 c3 c4
  go_enter Tryd.func64, Tryd.ntmps64
  go_wp2_with fail
  subst hx
  rw [← hw0]
  clear hw0
  go_region
  obtain ⟨w1, hw1⟩ : ∃ w1, w1 = (w0.alloc (.cells #[.string ⟨#[]⟩, .int .i64 (-1), .int .i64 (-1), .int .i64 (t.size : Int), .int .i64 (ends t : Int)] 45)).drew := ⟨_, rfl⟩
  have B1 : Hid (Below w0.heap.size w0 w1) := hide (by rw [hw1]; exact bdrew ((Below.refl _ _).alloc (Nat.le_refl _) _) 1)
  have n1 : w1.heap[w.heap.size + 1]? = some (.cells #[.string ⟨#[]⟩, .int .i64 (-1), .int .i64 (-1), .int .i64 (t.size : Int), .int .i64 (ends t : Int)] 45 (0, 0)) := by rw [hw1, ← unhide Z0]; exact heap_alloc_new _ _
  have n2 : w1.heap[w.heap.size]? = some zN := ((unhide B1).block _ (by omega)).trans (unhide N0)
  rw [← hw1]
  clear hw1 a0 a1 c0 c1
  obtain ⟨c0, c1, c2, c3, c4⟩ := brn_cells (((unhide B1).block b hb0).trans (unhide H0))
  obtain ⟨d0, d1, d2, d3, d4⟩ := brn_cells (((unhide B1).block bl (by omega)).trans (unhide HL0))
  clear d0 d1 d3 d4
  have CL1 := hide ((unhide CL) w1 (unhide B1))
  obtain ⟨e0, e1, e2, e3, e4, f0, f1, f2, f3, f4⟩ := cells5 n1
  obtain ⟨g0, g1, g2, g3, g4, k0, k1, k2, k3, k4⟩ := cells5 n2
  have N1 := hide n1
  have N2 := hide n2
  clear n1 n2 CL z0 c2 c4
  go_wp2_with (go_at_call 53; refine (unhide CL1).mono ?_; rintro e w' ⟨rfl, hw⟩; obtain rfl := hw.symm; clear hw)
  have hne1 : b ≠ w.heap.size + 1 := by omega
  have hne2 : bl ≠ w.heap.size + 1 := by omega
  have hne3 : w.heap.size ≠ w.heap.size + 1 := by omega
  obtain ⟨w2, hw2⟩ : ∃ w2, w2 = w1.setCell ⟨w.heap.size + 1, 1, none⟩ (.int .i64 (a + 1)) := ⟨_, rfl⟩
  have B2 : Hid (Below w.heap.size w w2) := hide (by rw [hw2]; exact ((unhide B0).trans ((unhide B1).mono (by rw [unhide Z0]; omega))).setCell (p := ⟨w.heap.size + 1, 1, none⟩) (by show _ ≤ w.heap.size + 1; omega) _)
  have o2 : ∀ j, j ≠ w.heap.size + 1 → w2.heap[j]? = w1.heap[j]? := fun j hj => by rw [hw2]; exact heap_setCell_other _ ⟨w.heap.size + 1, 1, none⟩ j _ hj
  have m1 : w2.heap[w.heap.size + 1]? = some (.cells #[.string ⟨#[]⟩, .int .i64 (a + 1), .int .i64 (-1), .int .i64 (t.size : Int), .int .i64 (ends t : Int)] 45 (0, 0)) := by
    rw [hw2]
    have := heap_setCell_same w1 (w.heap.size + 1) 1 _ 45 (.int .i64 (a + 1)) (unhide N1)
    simpa using this
  have m2 : w2.heap[w.heap.size]? = some zN := (o2 _ hne3).trans (unhide N2)
  rw [← hw2]
  clear hw2
  have c3' : w2.cell? ⟨b, 3, none⟩ = some (.pointer (some ⟨bl, 0, none⟩)) := (World.cell?_of_block (o2 b hne1)).trans c3
  have d2' : w2.cell? ⟨bl, 2, none⟩ = some (.int .i64 (k : Int)) := (World.cell?_of_block (o2 bl hne2)).trans d2
  clear e0 e1 e2 e3 e4 f0 f1 f2 f3 f4 g0 g1 g2 g3 g4 k0 k1 k2 k3 k4 c0 c1 c3 d2 o2 hne1 hne2 hne3
  obtain ⟨e0, e1, e2, e3, e4, f0, f1, f2, f3, f4⟩ := cells5 m1
  obtain ⟨g0, g1, g2, g3, g4, k0, k1, k2, k3, k4⟩ := cells5 m2
  clear m1 m2
  clear hb hbl hb0
  go_region
  go_wp2
  have hB := bdrew (set6' (unhide B2) (.int .i64 (a + 1 + (k : Int))) (.string ⟨#[]⟩) (.int .i64 (a + 1)) (.int .i64 (a + 1 + (k : Int))) (.int .i64 (t.size : Int)) (.int .i64 (ends t : Int))) 1
  refine bodyPost_ret (v := encN ⟨⟨#[]⟩, a + 1, a + 1 + (k : Int), (t.size : Int), (ends t : Int)⟩) (by simp [results, Tryd.results64, go_sem, g0, g1, g2, g3, g4, encN]) rfl ⟨rfl, hB⟩
/-- A tree's node told as a rope's. -/
theorem nodeI (a : Int) (H : HT) (n₀ : Nat) (w : World) (t : ByteArray) (h : In n₀ w H) (ht : IsTr t H.sh) (hs : t.size ≤ 65536) (hne : H ≠ .nil) (ha0 : 0 ≤ a) (ha : a ≤ 1000000) :
    Calls Tryd.prog 64 #[.int .i64 a, .pointer H.ptr] w fun e w' => e = .returned (encN (ndAt a H)) ∧ Below w.heap.size w w' := by
  cases H with
  | nil => exact absurd rfl hne
  | leaf b s =>
    have e : s = t := ht.text
    subst e
    exact nodeL a b s w h.2 hs
  | node b s l r =>
    have e : s = t := ht.text
    subst e
    obtain ⟨hb, hh, hl, hr⟩ := h
    cases ht with
    | node h64 tl tr =>
      have hc := cut_bd h64
      have hz := size_cut h64
      have c := tl.count.1
      obtain ⟨bl, p, q, el, _, hbl⟩ := hl.head (tr_ne tl (by omega))
      rw [el] at hh
      exact nodeB a b bl _ _ s _ _ p q w hh hbl hs ha0 ha (by omega)
end Go.Proofs.YtaipnmmlfbfcnaaDoor.Rop
