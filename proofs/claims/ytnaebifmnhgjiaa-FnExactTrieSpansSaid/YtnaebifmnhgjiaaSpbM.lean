/- Marks written into tries; the law of TrieSpans. -/
import Derived.Test.YtnaebifmnhgjiaaSpbT
import Derived.Test.YtnaebifmnhgjiaaSetG
namespace Go.Proofs.Ytnaebifmnhgjiaa
open Go.ChangeShapes Go.WideShapes Go.ChangeAt Go.RowKit Go.Deep
/-- Numbers in a row of its own at block g. -/
def OwnI (w : World) (g : Nat) (l : List Int) : Prop := w.ownsRow g 2 1 (.slice (some ⟨g, 0, none⟩) l.length l.length) l.length (l.map (Value.int .i64))
theorem OwnI.set {w : World} {g R j : Nat} {u : Value} {l : List Int} (h : OwnI w g l) (hne : g ≠ R) : OwnI (w.setCell ⟨R, j, none⟩ u) g l :=
  ownsRow_at h (fun k hk => heap_setCell_other w ⟨R, j, none⟩ k u (by simp [Value.ownBlock] at hk; show k ≠ R; omega))
theorem OwnI.below {w w' : World} {g : Nat} {l : List Int} (h : OwnI w g l) (hb : Below w.heap.size w w') : OwnI w' g l := ownsRow_below h hb
theorem OwnI.dat {w : World} {g : Nat} {l : List Int} (h : OwnI w g l) : DatAt w w.heap.size (.slice (some ⟨g, 0, none⟩) l.length l.length) l := DatAt.owned h
theorem OwnI.lt {w : World} {g : Nat} {l : List Int} (h : OwnI w g l) : g < w.heap.size := (World.ownsRow.lt h g rfl).2
theorem OwnI.alloc {w : World} {g : Nat} {l : List Int} (h : OwnI w g l) (o : Obj) : OwnI (w.alloc o) g l := World.ownsRow.alloc h o
theorem OwnI.grown {w w' : World} {g R : Nat} {l : List Int} (h : OwnI w g l) (hg : w.grownBy w' (some R)) (hne : g ≠ R) : OwnI w' g l :=
  World.ownsRow.kept h hg (.inr (fun e => by simp [Value.ownBlock] at e; exact hne e))
set_option maxHeartbeats 4000000 in
theorem markIF (g : Nat) (l : List Int) (m0 : Int) (w : World) (hm : 0 ≤ m0 ∧ m0 ≤ 100000000) (hn : l.length ≤ 1048576) (h : OwnI w g l) :
    Calls Try.prog 52 #[.slice (some ⟨g, 0, none⟩) l.length l.length, .int .i64 m0] w fun e w' => e = .returned (.int .i64 (m0 + (l.length : Int))) ∧ w.grownBy w' (some g) := by
  have H : Hid (w.ownsRow g 2 1 (.slice (some ⟨g, 0, none⟩) l.length l.length) l.length (l.map (Value.int .i64))) := hide h
  clear h
  go_enter Try.func52, Try.ntmps52
  go_wp2
  go_loopw [1, 5] (fun m i wr => ∃ (k : Nat) (xs : List Value), k ≤ l.length ∧ i = .int .i64 k ∧ m = .int .i64 (m0 + (k : Int)) ∧ Hid (wr.ownsRow g 2 1 (.slice (some ⟨g, 0, none⟩) l.length l.length) l.length xs) ∧ Hid (w.grownBy wr (some g))) (fun _ i _ => l.length - (intOf i).toNat)
  case atStart => exact ⟨0, _, Nat.zero_le _, rfl, by simp, H, hide (grown_refl _ _)⟩
  case round =>
    obtain ⟨k, xs, hk, rfl, rfl, HO, HB⟩ := hrel
    clear H
    by_cases hlt : k < l.length
    · have hlt' : (k : Int) < (l.length : Int) := by omega
      have hxl : xs.length = l.length := by have := (unhide HO).1; omega
      have c0 := (unhide HO).cellAt k (by omega)
      rw [List.getElem?_eq_getElem (by omega)] at c0
      have c1 := (unhide HO).frozenAt k
      have HO' := hide ((unhide HO).stored k (.int .i64 (m0 + (k : Int)))).1
      have HB' := hide (grown_set (j := k) (u := .int .i64 (m0 + (k : Int))) (unhide HB))
      generalize xs[k] = xk at *
      clear HO HB hxl
      go_wp2
      go_roundw
      case rel => exact ⟨k + 1, _, by omega, by go_num, by go_num, HO', HB'⟩
      case measure => simp [intOf]; omega
    · obtain rfl : k = l.length := by omega
      go_wp2
      go_ret
      exact ⟨rfl, unhide HB⟩
/-- Only the two rows change. -/
def Two (w w' : World) (g1 g2 : Nat) : Prop := w.heap.size ≤ w'.heap.size ∧ (w'.os = w.os ∧ w'.tape = w.tape ∧ w'.output = w.output) ∧ ∀ k, k < w.heap.size → k ≠ g1 → k ≠ g2 → w'.heap[k]? = w.heap[k]?
theorem Two.row {w w' : World} {g1 g2 B : Nat} {v : Value} {L : List Sp} (h : Two w w' g1 g2) (hr : SpRow w B v L) (hne : ∀ k, v.ownBlock = some k → k ≠ g1 ∧ k ≠ g2) : SpRow w' B v L :=
  ownsRow_at hr (fun k hk => h.2.2 k (World.ownsRow.lt hr k hk).2 (hne k hk).1 (hne k hk).2)
theorem Two.below {w w' : World} {g1 g2 B : Nat} (h : Two w w' g1 g2) (h1 : B ≤ g1) (h2 : B ≤ g2) (hs : B ≤ w.heap.size) : Below B w w' :=
  ⟨h.2.1.1, h.2.1.2.1, h.2.1.2.2, h.1, fun k hk => h.2.2 k (by omega) (by omega) (by omega)⟩
theorem Two.box {w w' : World} {g1 g2 g : Nat} {x y : Value} (h : Two w w' g1 g2) (hb : Box w g x y) (n1 : g ≠ g1) (n2 : g ≠ g2) : Box w' g x y := by
  have e := h.2.2 g hb.lt n1 n2
  exact ⟨⟨(World.cell?_of_block (a := ⟨g, 0, none⟩) e).trans hb.1.1, (World.cell?_of_block (a := ⟨g, 1, none⟩) e).trans hb.1.2⟩, (World.frozen?_of_block (a := ⟨g, 0, none⟩) e).trans hb.2.1, (World.frozen?_of_block (a := ⟨g, 1, none⟩) e).trans hb.2.2⟩
set_option maxHeartbeats 2000000 in
theorem markTrie_any (g1 g2 : Nat) (ix dt : List Int) (w : World) (hne : g1 < g2) (l1 : ix.length ≤ 1048576) (l2 : dt.length ≤ 1048576) (h1 : OwnI w g1 ix) (h2 : OwnI w g2 dt) :
    Calls Try.prog 21 #[.agg #[.slice (some ⟨g1, 0, none⟩) ix.length ix.length, .slice (some ⟨g2, 0, none⟩) dt.length dt.length], .int .i64 1] w fun e w' => e = .returned (.int .i64 (1 + (ix.length : Int) + (dt.length : Int))) ∧ Two w w' g1 g2 := by
  have H1 := hide (h1.alloc (.cells #[.slice (some ⟨g1, 0, none⟩) ix.length ix.length, .slice (some ⟨g2, 0, none⟩) dt.length dt.length] 31))
  have H2 := hide (h2.alloc (.cells #[.slice (some ⟨g1, 0, none⟩) ix.length ix.length, .slice (some ⟨g2, 0, none⟩) dt.length dt.length] 31))
  have hg1 := h1.lt
  have hg2 := h2.lt
  clear h1 h2
  go_enter Try.func21, Try.ntmps21
  go_upto_region 1 with fail
  have X := hide (Box.new w (.slice (some ⟨g1, 0, none⟩) ix.length ix.length) (.slice (some ⟨g2, 0, none⟩) dt.length dt.length) 31)
  have A0 : Hid (∀ k, k < w.heap.size → (w.alloc (.cells #[.slice (some ⟨g1, 0, none⟩) ix.length ix.length, .slice (some ⟨g2, 0, none⟩) dt.length dt.length] 31)).heap[k]? = w.heap[k]?) := hide (fun k hk => alloc_block w _ hk)
  have S0 : Hid ((w.alloc (.cells #[.slice (some ⟨g1, 0, none⟩) ix.length ix.length, .slice (some ⟨g2, 0, none⟩) dt.length dt.length] 31)).heap.size = w.heap.size + 1) := hide (by simp)
  have T0 : Hid ((w.alloc (.cells #[.slice (some ⟨g1, 0, none⟩) ix.length ix.length, .slice (some ⟨g2, 0, none⟩) dt.length dt.length] 31)).os = w.os ∧ (w.alloc (.cells #[.slice (some ⟨g1, 0, none⟩) ix.length ix.length, .slice (some ⟨g2, 0, none⟩) dt.length dt.length] 31)).tape = w.tape ∧ (w.alloc (.cells #[.slice (some ⟨g1, 0, none⟩) ix.length ix.length, .slice (some ⟨g2, 0, none⟩) dt.length dt.length] 31)).output = w.output) := hide ⟨rfl, rfl, rfl⟩
  generalize w.alloc (.cells #[.slice (some ⟨g1, 0, none⟩) ix.length ix.length, .slice (some ⟨g2, 0, none⟩) dt.length dt.length] 31) = w1 at *
  obtain ⟨⟨x0, x1⟩, _, _⟩ := unhide X
  go_wp2_with fail
  refine (markIF g1 ix 1 _ (by omega) l1 (unhide H1)).mono ?_
  rintro e w2 ⟨rfl, hg⟩
  have H2' := hide ((unhide H2).grown hg (by omega))
  have hX2 : w2.heap[w.heap.size]? = w1.heap[w.heap.size]? := hg.block _ (unhide X).lt (by simp; omega)
  have y1 := (World.cell?_of_block (a := ⟨w.heap.size, 1, none⟩) hX2).trans x1
  have G1 := hide hg
  clear hg x0 x1 hX2 H1 H2
  go_wp2_with fail
  refine (markIF g2 dt _ _ (by omega) l2 (unhide H2')).mono ?_
  rintro e w3 ⟨rfl, hg⟩
  have G2 := hide hg
  clear hg
  go_wp2
  go_ret
  refine ⟨rfl, ?_, ⟨?_, ?_, ?_⟩, fun k hk n1 n2 => ?_⟩
  · have := (unhide G1).size; have := (unhide G2).size; have := unhide S0; omega
  · rw [(unhide G2).os, (unhide G1).os]; exact (unhide T0).1
  · rw [(unhide G2).tape, (unhide G1).tape]; exact (unhide T0).2.1
  · rw [(unhide G2).output, (unhide G1).output]; exact (unhide T0).2.2
  · have s1 := (unhide G1).size
    have s0 := unhide S0
    rw [(unhide G2).block k (by omega) (by simp; omega), (unhide G1).block k (by omega) (by simp; omega), unhide A0 k hk]
set_option maxHeartbeats 2000000 in
theorem toTrie_own (a1 a2 : Option Addr) (c1 c2 : Nat) (ix dt : List Int) (w : World) (h1 : IntsAt w (.slice a1 ix.length c1) ix) (h2 : IntsAt w (.slice a2 dt.length c2) dt) (l1 : ix.length ≤ 1048576) (l2 : dt.length ≤ 1048576) :
    Calls Try.prog 25 #[.agg #[.slice a1 ix.length c1, .slice a2 dt.length c2]] w fun e w' => ∃ g1 g2, e = .returned (.agg #[.slice (some ⟨g1, 0, none⟩) ix.length ix.length, .slice (some ⟨g2, 0, none⟩) dt.length dt.length]) ∧ (w.heap.size ≤ g1 ∧ g1 < g2) ∧ OwnI w' g1 ix ∧ OwnI w' g2 dt ∧ Below w.heap.size w w' := by
  have H1 := hide h1
  have H2 := hide h2
  clear h1 h2
  go_enter Try.func25, Try.ntmps25
  go_upto_region 2 with fail
  have bA := Box.new w (.slice a1 ix.length c1) (.slice a2 dt.length c2) 37
  have bR := Box.new (w.alloc (.cells #[.slice a1 ix.length c1, .slice a2 dt.length c2] 37)) (.slice none 0 0) (.slice none 0 0) 31
  have bO := Box.new ((w.alloc (.cells #[.slice a1 ix.length c1, .slice a2 dt.length c2] 37)).alloc (.cells #[.slice none 0 0, .slice none 0 0] 31)) (.slice none 0 0) (.slice none 0 0) 31
  have BA := hide ((bA.alloc (.cells #[.slice none 0 0, .slice none 0 0] 31)).alloc (.cells #[.slice none 0 0, .slice none 0 0] 31))
  have BR := hide (bR.alloc (.cells #[.slice none 0 0, .slice none 0 0] 31))
  have BO := hide bO
  have BW : Hid (Below w.heap.size w (((w.alloc (.cells #[.slice a1 ix.length c1, .slice a2 dt.length c2] 37)).alloc (.cells #[.slice none 0 0, .slice none 0 0] 31)).alloc (.cells #[.slice none 0 0, .slice none 0 0] 31))) := hide ((((Below.refl _ _).alloc (Nat.le_refl _) _).alloc (by simp) _).alloc (by simp; omega) _)
  clear bA bR bO
  simp only [World.size_alloc] at BA BR BO
  have hO : w.heap.size + 1 + 1 ≠ w.heap.size := by omega
  generalize ((w.alloc (.cells #[.slice a1 ix.length c1, .slice a2 dt.length c2] 37)).alloc (.cells #[.slice none 0 0, .slice none 0 0] 31)).alloc (.cells #[.slice none 0 0, .slice none 0 0] 31) = w1 at *
  obtain ⟨⟨x0, x1⟩, y0, y1⟩ := unhide BA
  have hs1 := (unhide BO).lt
  go_wp2_with fail
  refine (toInts _ ix _ ((unhide H1).below (unhide BW)) l1).mono ?_
  rintro e w2 ⟨rfl, ho, hb, hlt⟩
  have R1 : Hid (OwnI w2 w1.heap.size ix) := hide ho
  have BA2 := hide ((unhide BA).below hb)
  have BR2 := hide ((unhide BR).below hb)
  have BO2 := hide ((unhide BO).below hb)
  have BW2 := hide ((unhide BW).trans (hb.mono (unhide BW).size))
  clear ho hb x0 x1 y0 y1 BA BR BO BW
  obtain ⟨⟨x0, x1⟩, y0, y1⟩ := unhide BO2
  go_upto_region 3 with fail
  have R1' := hide ((unhide R1).set (R := w.heap.size + 1 + 1) (j := 0) (u := .slice (some ⟨w1.heap.size, 0, none⟩) ix.length ix.length) (by omega))
  have BA3 := hide ((unhide BA2).other (g' := w.heap.size + 1 + 1) (j := 0) (u := .slice (some ⟨w1.heap.size, 0, none⟩) ix.length ix.length) (by omega))
  have BR3 := hide ((unhide BR2).other (g' := w.heap.size + 1 + 1) (j := 0) (u := .slice (some ⟨w1.heap.size, 0, none⟩) ix.length ix.length) (by omega))
  have BO3 := hide ((unhide BO2).set0 (u := .slice (some ⟨w1.heap.size, 0, none⟩) ix.length ix.length))
  have BW3 := hide ((unhide BW2).setCell (p := ⟨w.heap.size + 1 + 1, 0, none⟩) (by show w.heap.size ≤ w.heap.size + 1 + 1; omega) (.slice (some ⟨w1.heap.size, 0, none⟩) ix.length ix.length))
  have hs3 : w2.heap.size ≤ (w2.setCell ⟨w.heap.size + 1 + 1, 0, none⟩ (.slice (some ⟨w1.heap.size, 0, none⟩) ix.length ix.length)).heap.size := by simp
  clear R1 BA2 BR2 BO2 BW2 x0 x1 y0 y1
  generalize w2.setCell ⟨w.heap.size + 1 + 1, 0, none⟩ (.slice (some ⟨w1.heap.size, 0, none⟩) ix.length ix.length) = w3 at *
  obtain ⟨⟨x0, x1⟩, y0, y1⟩ := unhide BA3
  go_wp2_with fail
  refine (toInts _ dt _ ((unhide H2).below (unhide BW3)) l2).mono ?_
  rintro e w4 ⟨rfl, ho, hb, hlt4⟩
  have R4 := hide ((unhide R1').below hb)
  have S4 : Hid (OwnI w4 w3.heap.size dt) := hide ho
  have BR4 := hide ((unhide BR3).below hb)
  have BO4 := hide ((unhide BO3).below hb)
  have BW4 := hide ((unhide BW3).trans (hb.mono (unhide BW3).size))
  clear ho hb x0 x1 y0 y1 R1' BA3 BR3 BO3 BW3
  obtain ⟨⟨x0, x1⟩, y0, y1⟩ := unhide BO4
  go_upto_region 4 with fail
  have R5 := hide ((unhide R4).set (R := w.heap.size + 1 + 1) (j := 1) (u := .slice (some ⟨w3.heap.size, 0, none⟩) dt.length dt.length) (by omega))
  have S5 := hide ((unhide S4).set (R := w.heap.size + 1 + 1) (j := 1) (u := .slice (some ⟨w3.heap.size, 0, none⟩) dt.length dt.length) (by omega))
  have BR5 := hide ((unhide BR4).other (g' := w.heap.size + 1 + 1) (j := 1) (u := .slice (some ⟨w3.heap.size, 0, none⟩) dt.length dt.length) (by omega))
  have BO5 := hide ((unhide BO4).set1 (u := .slice (some ⟨w3.heap.size, 0, none⟩) dt.length dt.length))
  have BW5 := hide ((unhide BW4).setCell (p := ⟨w.heap.size + 1 + 1, 1, none⟩) (by show w.heap.size ≤ w.heap.size + 1 + 1; omega) (.slice (some ⟨w3.heap.size, 0, none⟩) dt.length dt.length))
  clear R4 S4 BR4 BO4 BW4 x0 x1 y0 y1
  generalize w4.setCell ⟨w.heap.size + 1 + 1, 1, none⟩ (.slice (some ⟨w3.heap.size, 0, none⟩) dt.length dt.length) = w5 at *
  obtain ⟨⟨x0, x1⟩, y0, y1⟩ := unhide BO5
  obtain ⟨⟨z0, z1⟩, t0, t1⟩ := unhide BR5
  have HF := hide (fun (u1 u2 : Value) => (⟨((unhide R5).set (R := w.heap.size + 1) (j := 0) (u := u1) (by omega)).set (R := w.heap.size + 1) (j := 1) (u := u2) (by omega), ((unhide S5).set (R := w.heap.size + 1) (j := 0) (u := u1) (by omega)).set (R := w.heap.size + 1) (j := 1) (u := u2) (by omega), ((unhide BW5).setCell (p := ⟨w.heap.size + 1, 0, none⟩) (by show w.heap.size ≤ w.heap.size + 1; omega) u1).setCell (p := ⟨w.heap.size + 1, 1, none⟩) (by show w.heap.size ≤ w.heap.size + 1; omega) u2⟩ : _ ∧ _ ∧ _))
  have HX := hide (fun (u1 u2 : Value) => ((unhide BR5).set0 (u := u1)).set1 (u := u2))
  clear R5 S5 BR5 BO5 BW5
  go_wp2
  obtain ⟨⟨p0, p1⟩, _, _⟩ := unhide HX (.slice (some ⟨w1.heap.size, 0, none⟩) ix.length ix.length) (.slice (some ⟨w3.heap.size, 0, none⟩) dt.length dt.length)
  obtain ⟨f1, f2, f3⟩ := unhide HF (.slice (some ⟨w1.heap.size, 0, none⟩) ix.length ix.length) (.slice (some ⟨w3.heap.size, 0, none⟩) dt.length dt.length)
  clear HX HF
  generalize (w5.setCell ⟨w.heap.size + 1, 0, none⟩ (.slice (some ⟨w1.heap.size, 0, none⟩) ix.length ix.length)).setCell ⟨w.heap.size + 1, 1, none⟩ (.slice (some ⟨w3.heap.size, 0, none⟩) dt.length dt.length) = w6 at *
  refine bodyPost_ret (v := .agg #[.slice (some ⟨w1.heap.size, 0, none⟩) ix.length ix.length, .slice (some ⟨w3.heap.size, 0, none⟩) dt.length dt.length]) (by simp [results, Try.results25, go_sem, p0, p1]; try rfl) rfl ?_
  exact ⟨_, _, rfl, ⟨by omega, by omega⟩, f1, f2, f3⟩
end Go.Proofs.Ytnaebifmnhgjiaa
