/- Several texts in one. -/
import Derived.Test.YtfldomifooihlaaGreatDoorShaT
import Derived.Test.YtfldomifooihlaaGreatDoorHS2
import Derived.Test.YtfldomifooihlaaGreatDoorHF3
import Derived.Test.YtfldomifooihlaaGreatDoorGlyL
/- A text in a font, as the program shapes it. -/
namespace Go.Proofs.YtfldomifooihlaaGreatDoor
namespace Sha
open Go.RowKit Fnt Rul
set_option linter.unusedVariables false
set_option linter.unusedSimpArgs false
theorem rui_of {w : World} {v : Value} {n : Nat} {Q : List (List Int)} (h : Frl.RuI w v n Q) : Rul.RuI w v n Q := h
theorem okk_eq (Q : List (List Int)) (n : Nat) : Rul.okk Q n = Frl.okk Q n := by
  induction n with
  | zero => rfl
  | succ n ih =>
    show (Rul.okk Q n && Rul.okq Q n) = (Frl.okk Q n && Frl.okq Q n)
    rw [ih]
    rfl
theorem okR_eq (n : Nat) (Q : List (List Int)) : Rul.okR n Q = Frl.okR n Q := by
  unfold Rul.okR Frl.okR
  rw [okk_eq]
def gl5 (t : Int × Int × Int) : Gl := (t.1, t.2.1, t.2.2, 0, 0)
theorem flt5 (G : List (Int × Int × Int)) : Rul.flt (G.map gl5) = Gly.flt G := by
  unfold Rul.flt Gly.flt
  rw [List.flatMap_map]
  rfl
/-- What is left of a text's glyphs behind the rules. -/
def shR (s : ByteArray) (n : Nat) (Q : List (List Int)) : List Gl := alq Q ((Gly.glyS s).map gl5) n
/-- What Shape answers: its code, the glyphs, the width. -/
def shp (wd : Int) (LW : List Sp) (n : Nat) (Q : List (List Int)) (LK LA : List Sp) (s : ByteArray) : Int × List Gl × Int :=
  if 65536 < s.size then (2, [], 0) else if ffb wd LW n Q LK LA = true then
    (if 1000 < (shR s n Q).length then (8, [], 0) else (0, (run ⟨wd, LW, LK, LA⟩ (shR s n Q) (shR s n Q).length).1, (run ⟨wd, LW, LK, LA⟩ (shR s n Q) (shR s n Q).length).2.1)) else (1, [], 0)
theorem ffb_is {wd : Int} {LW : List Sp} {n : Nat} {Q : List (List Int)} {LK LA : List Sp} (h : ffb wd LW n Q LK LA = true) : okAt LW 0 = true ∧ okAt LA 0 = true ∧ Rul.okR n Q = true ∧ Kup LK := by
  unfold ffb at h
  simp only [Bool.and_eq_true] at h
  obtain ⟨_, h1, h2, h3, h4⟩ := h
  have hm : ∀ lo L, msr lo L = true → okAt L 0 = true := by
    intro lo L h
    unfold msr at h
    simp only [Bool.and_eq_true, beq_iff_eq] at h
    have := h.1
    unfold faultOf at this
    split at this
    · rename_i h5
      unfold right at h5
      simp only [Bool.and_eq_true] at h5
      rw [okAt_zero]
      exact h5.2
    · cases this
  refine ⟨hm _ _ h1, hm _ _ h2, by rw [okR_eq]; exact h3, ?_⟩
  unfold krn at h4
  simp only [Bool.and_eq_true] at h4
  exact krk_kup h4.2
theorem gn_of {w w' : World} {v : Value} {G : List (Int × Int × Int)} (h : Gly.GR w' w.heap.size v G) (hb : Below w.heap.size w w') (hG : 0 < G.length) : GN w w' v (G.map gl5) := by
  rcases h.2 with ⟨_, h0⟩ | ⟨g, cap, cur, rfl, r⟩
  · omega
  · refine ⟨_, _, _, rfl, by simp, ⟨g, rfl⟩, ?_, hb⟩
    rw [flt5]
    exact h
theorem g0_of {w w' : World} {v : Value} (h : Gly.GR w' w.heap.size v []) (hb : Below w.heap.size w w') : G0 w w' v := by
  rcases h.2 with ⟨rfl, _⟩ | ⟨g, cap, cur, rfl, r⟩
  · exact .inl rfl
  · refine .inr ⟨_, _, _, rfl, rfl, ⟨g, rfl⟩, ?_, hb⟩
    exact h
theorem gn_fr {w w' : World} {v : Value} {G : List Gl} (h : GN w w' v G) : ∃ g c, v = .slice (some ⟨g, 0, none⟩) G.length c ∧ FR w' w.heap.size v G.length (flt G) ∧ w.heap.size ≤ g ∧ g < w'.heap.size := by
  obtain ⟨va, m, vc, rfl, h⟩ := h
  obtain ⟨g, rfl⟩ := h.som
  have hr := h.row
  have hl := World.ownsRow.lt hr g rfl
  rw [h.len] at hr ⊢
  exact ⟨g, vc, rfl, hr, hl.1, hl.2⟩
set_option maxRecDepth 100000 in
set_option maxHeartbeats 4000000 in
theorem place_none (wd : Int) (a1 a2 a3 a4 : Option Addr) (n1 n2 n3 n4 c1 c2 c3 c4 : Nat) (a : Option Addr) (c : Nat) (w : World) :
    Calls Tryz.prog 28 #[.agg #[.int .i64 wd, .slice a1 n1 c1, .slice a2 n2 c2, .slice a3 n3 c3, .slice a4 n4 c4], .slice a 0 c] w fun e w' => e = .returned (.int .i64 0) ∧ Below w.heap.size w w' := by
  go_enter Tryz.func28, Tryz.ntmps28
  go_wp2
  go_loopw [5, 11] (fun x i wr => x = .int .i64 0 ∧ i = .int .i64 0 ∧ wr = w.alloc (.cells #[.int .i64 wd, .slice a1 n1 c1, .slice a2 n2 c2, .slice a3 n3 c3, .slice a4 n4 c4] 36)) (fun _ _ _ => 0)
  case atStart => exact ⟨rfl, rfl, rfl⟩
  case round =>
    obtain ⟨rfl, rfl, rfl⟩ := hrel
    go_wp2
    go_ret
    exact ⟨rfl, (Below.refl _ _).alloc (Nat.le_refl _) _⟩
end Sha
end Go.Proofs.YtfldomifooihlaaGreatDoor
/- A text in a font, as the program shapes it: all its ways. -/
namespace Go.Proofs.YtfldomifooihlaaGreatDoor
namespace Sha
open Go.RowKit Fnt Rul
set_option linter.unusedVariables false
set_option linter.unusedSimpArgs false
/-- What the call keeps: the font's box and the answer's. -/
structure Sw (w wr : World) (fc : Array Value) : Prop where
  bel : Below w.heap.size w wr
  box : wr.heap[w.heap.size]? = some (.cells fc 36 (0, 0))
  ans : wr.heap[w.heap.size + 1]? = some (.cells #[.int .i64 0, .slice none 0 0, .int .i64 0] 30 (0, 0))
theorem Sw.below {w wr w2 : World} {fc : Array Value} (h : Sw w wr fc) (hb : Below wr.heap.size wr w2) : Sw w w2 fc :=
  ⟨h.bel.trans (hb.mono h.bel.size), (hb.block _ (Array.getElem?_eq_some_iff.1 h.box).1).trans h.box, (hb.block _ (Array.getElem?_eq_some_iff.1 h.ans).1).trans h.ans⟩
theorem Sw.new (w : World) (fc : Array Value) : Sw w ((w.alloc (.cells fc 36)).alloc (.cells #[.int .i64 0, .slice none 0 0, .int .i64 0] 30)) fc := by
  have e : (w.alloc (.cells fc 36)).heap.size = w.heap.size + 1 := by simp
  refine ⟨((Below.refl _ _).alloc (Nat.le_refl _) _).alloc (by simp) _, ?_, ?_⟩
  · rw [Below.heap_alloc _ _ _ (by simp)]; exact Frl.heap_new w _
  · rw [← e]; exact Frl.heap_new _ _
theorem three_a {w : World} {b : Nat} {v0 v1 v2 : Value} (h : w.heap[b]? = some (.cells #[v0, v1, v2] 30 (0, 0))) : (w.cell? ⟨b, 0, none⟩ = some v0 ∧ w.cell? ⟨b, 1, none⟩ = some v1 ∧ w.cell? ⟨b, 2, none⟩ = some v2) ∧ (w.frozen? ⟨b, 0, none⟩ = false ∧ w.frozen? ⟨b, 1, none⟩ = false ∧ w.frozen? ⟨b, 2, none⟩ = false) := by
  simp [World.cell?, World.frozen?, h]
/-- The answer stored. -/
theorem Sw.put {w wr : World} {fc : Array Value} (h : Sw w wr fc) (x y : Int) (v : Value) :
    Below w.heap.size w (((wr.setCell ⟨w.heap.size + 1, 0, none⟩ (.int .i64 x)).setCell ⟨w.heap.size + 1, 1, none⟩ v).setCell ⟨w.heap.size + 1, 2, none⟩ (.int .i64 y)) ∧
    (((wr.setCell ⟨w.heap.size + 1, 0, none⟩ (.int .i64 x)).setCell ⟨w.heap.size + 1, 1, none⟩ v).setCell ⟨w.heap.size + 1, 2, none⟩ (.int .i64 y)).heap[w.heap.size + 1]? = some (.cells #[.int .i64 x, v, .int .i64 y] 30 (0, 0)) ∧
    ∀ k, k ≠ w.heap.size + 1 → (((wr.setCell ⟨w.heap.size + 1, 0, none⟩ (.int .i64 x)).setCell ⟨w.heap.size + 1, 1, none⟩ v).setCell ⟨w.heap.size + 1, 2, none⟩ (.int .i64 y)).heap[k]? = wr.heap[k]? := by
  refine ⟨((h.bel.setCell (p := ⟨w.heap.size + 1, 0, none⟩) (by show w.heap.size ≤ w.heap.size + 1; omega) _).setCell (p := ⟨w.heap.size + 1, 1, none⟩) (by show w.heap.size ≤ w.heap.size + 1; omega) _).setCell (p := ⟨w.heap.size + 1, 2, none⟩) (by show w.heap.size ≤ w.heap.size + 1; omega) _, ?_, fun k hk => ?_⟩
  · have h1 := heap_setCell_same wr (w.heap.size + 1) 0 _ 30 (.int .i64 x) h.ans
    have h2 := heap_setCell_same _ (w.heap.size + 1) 1 _ 30 v h1
    have h3 := heap_setCell_same _ (w.heap.size + 1) 2 _ 30 (.int .i64 y) h2
    simpa using h3
  · rw [Below.heap_setCell _ _ _ k (fun e => hk e), Below.heap_setCell _ _ _ k (fun e => hk e), Below.heap_setCell _ _ _ k (fun e => hk e)]
/-- The answer given back. -/
theorem ans_ret {w wr : World} {fc : Array Value} (h : Sw w wr fc) (x y : Int) (v : Value) (R : Ending → World → Prop) (a : Act) (ha : (a.tmps[4]?).getD undef = .pointer (some ⟨w.heap.size + 1, 0, none⟩)) (hd : a.defers = [])
    (hR : ∀ w', Below w.heap.size w w' → (∀ k, k ≠ w.heap.size + 1 → w'.heap[k]? = wr.heap[k]?) → R (.returned (.agg #[.int .i64 x, v, .int .i64 y])) w') (hv : v.oneCell' = true) :
    bodyPost Tryz.prog Tryz.f7 R .ret a (((wr.setCell ⟨w.heap.size + 1, 0, none⟩ (.int .i64 x)).setCell ⟨w.heap.size + 1, 1, none⟩ v).setCell ⟨w.heap.size + 1, 2, none⟩ (.int .i64 y)) := by
  obtain ⟨p1, p2, p3⟩ := h.put x y v
  obtain ⟨⟨z0, z1, z2⟩, _⟩ := three_a p2
  refine bodyPost_ret (v := .agg #[.int .i64 x, v, .int .i64 y]) ?_ hd (hR _ p1 p3)
  simp [results, Tryz.f7, go_sem, ha, z0, z1, z2]
theorem fr_same {w w' : World} {B B' g m c : Nat} {F : List Int} (h : FR w B (.slice (some ⟨g, 0, none⟩) m c) m F) (hb : B' ≤ B) (he : w'.heap[g]? = w.heap[g]?) : FR w' B' (.slice (some ⟨g, 0, none⟩) m c) m F := by
  rcases h with ⟨h1, ⟨e, _⟩ | ⟨g', cap, cur, e, k1, k2, k3⟩⟩
  · cases e
  · cases e
    exact ⟨h1, .inr ⟨_, _, cur, rfl, by omega, he.trans k2, k3⟩⟩
theorem fr_none {w w' : World} {B B' : Nat} {v : Value} {m : Nat} {F : List Int} (h : FR w B v m F) (hb : B' ≤ B) (he : ∀ g, B ≤ g → w'.heap[g]? = w.heap[g]?) : FR w' B' v m F := by
  rcases h with ⟨h1, ⟨e, e2⟩ | ⟨g, cap, cur, rfl, k1, k2, k3⟩⟩
  · exact ⟨h1, .inl ⟨e, e2⟩⟩
  · exact ⟨h1, .inr ⟨_, _, cur, rfl, by omega, (he g k1).trans k2, k3⟩⟩
set_option maxRecDepth 100000 in
set_option maxHeartbeats 4000000 in
theorem shape_long (wd : Int) (a1 a2 a3 a4 : Option Addr) (n1 n2 n3 n4 c1 c2 c3 c4 : Nat) (s : ByteArray) (w : World) (hs : 65536 < s.size) (hs2 : s.size ≤ 1048576) :
    Calls Tryz.prog 7 #[.agg #[.int .i64 wd, .slice a1 n1 c1, .slice a2 n2 c2, .slice a3 n3 c3, .slice a4 n4 c4], .string s] w fun e w' => e = .returned (.agg #[.int .i64 2, .slice none 0 0, .int .i64 0]) ∧ Below w.heap.size w w' := by
  have hgt : (65536 : Int) < (s.size : Int) := by omega
  obtain ⟨W0, hW0⟩ : ∃ W0, W0 = (w.alloc (.cells #[.int .i64 wd, .slice a1 n1 c1, .slice a2 n2 c2, .slice a3 n3 c3, .slice a4 n4 c4] 36)).alloc (.cells #[.int .i64 0, .slice none 0 0, .int .i64 0] 30) := ⟨_, rfl⟩
  have hS : Sw w W0 #[.int .i64 wd, .slice a1 n1 c1, .slice a2 n2 c2, .slice a3 n3 c3, .slice a4 n4 c4] := by rw [hW0]; exact Sw.new w _
  obtain ⟨⟨q0, q1, q2⟩, f0, f1, f2⟩ := three_a hS.ans
  have HS := hide hS
  clear hS
  go_enter Tryz.func7, Tryz.ntmps7
  go_upto_region 1 with fail
  rw [← hW0]
  clear hW0
  go_wp2
  exact ans_ret (unhide HS) 2 0 (.slice none 0 0) _ _ rfl rfl (fun w' h1 _ => ⟨rfl, h1⟩) rfl
set_option maxRecDepth 100000 in
set_option maxHeartbeats 4000000 in
theorem shape_bad (v : Value) (wd : Int) (LW : List Sp) (n : Nat) (Q : List (List Int)) (LK LA : List Sp) (s : ByteArray) (w : World) (h : FA w v wd LW n Q LK LA) (hf : Fit LW n Q LK LA) (hs : s.size ≤ 65536) (hb : ¬ ffb wd LW n Q LK LA = true) :
    Calls Tryz.prog 7 #[v, .string s] w fun e w' => e = .returned (.agg #[.int .i64 1, .slice none 0 0, .int .i64 0]) ∧ Below w.heap.size w w' := by
  have hgt : ¬ (65536 : Int) < (s.size : Int) := by omega
  have CF := hide (fun W (h : FA W v wd LW n Q LK LA) => implFF v wd LW n Q LK LA W h hf)
  have hff : ff wd LW n Q LK LA = 1 := if_neg hb
  rw [hff] at CF
  clear hff hb
  have HF := hide h
  obtain ⟨a1, a2, a3, a4, c1, c2, c3, c4, rfl, _⟩ := h.form
  obtain ⟨W0, hW0⟩ : ∃ W0, W0 = (w.alloc (.cells #[.int .i64 wd, .slice a1 LW.length c1, .slice a2 n c2, .slice a3 LK.length c3, .slice a4 LA.length c4] 36)).alloc (.cells #[.int .i64 0, .slice none 0 0, .int .i64 0] 30) := ⟨_, rfl⟩
  have hS : Sw w W0 #[.int .i64 wd, .slice a1 LW.length c1, .slice a2 n c2, .slice a3 LK.length c3, .slice a4 LA.length c4] := by rw [hW0]; exact Sw.new w _
  obtain ⟨b0, b1, b2, b3, b4⟩ := five_f hS.box
  have HF0 := hide ((unhide HF).below hS.bel)
  clear h
  go_enter Tryz.func7, Tryz.ntmps7
  go_upto_region 1 with fail
  rw [← hW0]
  clear hW0
  go_wp2_with (go_at_call 25; refine ((unhide CF) _ (unhide HF0)).mono ?_; rintro e w1 ⟨rfl, hb1⟩; have hS1 := hS.below hb1; obtain ⟨⟨q0, q1, q2⟩, f0, f1, f2⟩ := three_a hS1.ans; have HS1 := hide hS1; clear hb1 hS1)
  exact ans_ret (unhide HS1) 1 0 (.slice none 0 0) _ _ rfl rfl (fun w' h1 _ => ⟨rfl, h1⟩) rfl
set_option maxRecDepth 100000 in
set_option maxHeartbeats 8000000 in
theorem shape_ok (v : Value) (wd : Int) (LW : List Sp) (n : Nat) (Q : List (List Int)) (LK LA : List Sp) (s : ByteArray) (w : World) (h : FA w v wd LW n Q LK LA) (hf : Fit LW n Q LK LA) (hs : s.size ≤ 65536) (hb : ffb wd LW n Q LK LA = true) (ht : TabAt w) (hg : 0 < (Gly.glyS s).length) :
    Calls Tryz.prog 7 #[v, .string s] w fun e w' => ∃ gv, e = .returned (.agg #[.int .i64 (shp wd LW n Q LK LA s).1, gv, .int .i64 (shp wd LW n Q LK LA s).2.2]) ∧ FR w' w.heap.size gv (shp wd LW n Q LK LA s).2.1.length (flt (shp wd LW n Q LK LA s).2.1) ∧ Below w.heap.size w w' := by
  have hgt : ¬ (65536 : Int) < (s.size : Int) := by omega
  have CF := hide (fun W (h : FA W v wd LW n Q LK LA) => implFF v wd LW n Q LK LA W h hf)
  have hff : ff wd LW n Q LK LA = 0 := if_pos hb
  rw [hff] at CF
  obtain ⟨o1, o4, o2, o3⟩ := ffb_is hb
  have HSH : Hid (shp wd LW n Q LK LA s = if 1000 < (shR s n Q).length then (8, [], 0) else (0, (run ⟨wd, LW, LK, LA⟩ (shR s n Q) (shR s n Q).length).1, (run ⟨wd, LW, LK, LA⟩ (shR s n Q) (shR s n Q).length).2.1)) := hide (by unfold shp; rw [if_neg (by omega), if_pos hb])
  clear hff hb
  have HF := hide h
  obtain ⟨a1, a2, a3, a4, c1, c2, c3, c4, rfl, ⟨B1, s1⟩, s2, ⟨B3, s3⟩, B4, s4⟩ := h.form
  obtain ⟨W0, hW0⟩ : ∃ W0, W0 = (w.alloc (.cells #[.int .i64 wd, .slice a1 LW.length c1, .slice a2 n c2, .slice a3 LK.length c3, .slice a4 LA.length c4] 36)).alloc (.cells #[.int .i64 0, .slice none 0 0, .int .i64 0] 30) := ⟨_, rfl⟩
  have hS : Sw w W0 #[.int .i64 wd, .slice a1 LW.length c1, .slice a2 n c2, .slice a3 LK.length c3, .slice a4 LA.length c4] := by rw [hW0]; exact Sw.new w _
  obtain ⟨b0, b1, b2, b3, b4⟩ := five_f hS.box
  have HF0 := hide ((unhide HF).below hS.bel)
  have CG := hide (fun W (h : TabAt W) => Gly.implG s W h (by omega))
  have CU := hide (fun gv W0 W (hv : Rul.RuI W (.slice a2 n c2) n Q) (hG : GN W0 W gv ((Gly.glyS s).map gl5)) => ruled_long (.slice a2 n c2) gv n Q ((Gly.glyS s).map gl5) W0 W hv o2 hG (by rw [List.length_map]; exact Gly.glyS_len s))
  have HT := hide ht
  have HR := hide (rui_of s2)
  have HG0 := hide hg
  clear h s2 ht hg
  go_enter Tryz.func7, Tryz.ntmps7
  go_upto_region 1 with fail
  rw [← hW0]
  clear hW0
  go_upto_region 5 with (go_at_call 25; refine ((unhide CF) _ (unhide HF0)).mono ?_; rintro e w1 ⟨rfl, hb1⟩; have hS1 := hS.below hb1; clear hb1)
  have KS : (fun w' => w'.cell? ⟨w.heap.size, 0, none⟩ = some (.int .i64 wd) ∧ w'.cell? ⟨w.heap.size, 1, none⟩ = some (.slice a1 LW.length c1) ∧ w'.cell? ⟨w.heap.size, 2, none⟩ = some (.slice a2 n c2) ∧ w'.cell? ⟨w.heap.size, 3, none⟩ = some (.slice a3 LK.length c3) ∧ w'.cell? ⟨w.heap.size, 4, none⟩ = some (.slice a4 LA.length c4)) w1 := ⟨(five_f hS1.box).1, (five_f hS1.box).2.1, (five_f hS1.box).2.2.1, (five_f hS1.box).2.2.2.1, (five_f hS1.box).2.2.2.2⟩
  refine wp_region_held_drew (S := fun w' => w'.cell? ⟨w.heap.size, 0, none⟩ = some (.int .i64 wd) ∧ w'.cell? ⟨w.heap.size, 1, none⟩ = some (.slice a1 LW.length c1) ∧ w'.cell? ⟨w.heap.size, 2, none⟩ = some (.slice a2 n c2) ∧ w'.cell? ⟨w.heap.size, 3, none⟩ = some (.slice a3 LK.length c3) ∧ w'.cell? ⟨w.heap.size, 4, none⟩ = some (.slice a4 LA.length c4)) (by kernel_rfl) (by first | exact KS | go_keep) (fun hHeld => ?_)
  refine tkF (i := 0) (d := some 17) (v := ?_) rfl rfl (by kernel_rfl) (by kernel_rfl) (by kernel_rfl) (fun _ _ _ h => h) (Or.inl ⟨by rfl, ?_⟩) (by assumption) ?_
  rotate_left
  · intro w hSw; (try dsimp only at hSw); go_simp; try with_reducible rfl
  try simp only [Act.put, List.setIfInBounds_toArray, List.set_cons_zero, List.set_cons_succ]
  refine tkF (i := 1) (d := some 18) (v := ?_) rfl rfl (by kernel_rfl) (by kernel_rfl) (by kernel_rfl) (fun _ _ _ h => h) (Or.inl ⟨by rfl, ?_⟩) (by assumption) ?_
  rotate_left
  · intro w hSw; (try dsimp only at hSw); go_simp; try with_reducible rfl
  try simp only [Act.put, List.setIfInBounds_toArray, List.set_cons_zero, List.set_cons_succ]
  refine tkF (i := 2) (d := some 19) (v := ?_) rfl rfl (by kernel_rfl) (by kernel_rfl) (by kernel_rfl) (fun _ _ _ h => h) (Or.inl ⟨by rfl, ?_⟩) (by assumption) ?_
  rotate_left
  · intro w hSw; (try dsimp only at hSw); go_simp; try with_reducible rfl
  try simp only [Act.put, List.setIfInBounds_toArray, List.set_cons_zero, List.set_cons_succ]
  refine wpAnyH_ready (rs := [3]) (by kernel_rfl) (by simp) (AllReadyH.cons rfl (fun K hK => ?_) AllReadyH.nil)
  go_simp
  go_at_call 27
  refine ((unhide CG) _ ((unhide HT).below (hS1.bel.trans ((drew_below w1).mono hS1.bel.size)))).mono ?_
  rintro e w2 ⟨g2, rfl, hG2, hb2⟩
  have hb2' := (drew_below w1).trans hb2
  have hS2 := hS1.below hb2'
  have hN2 : GN w1.drew w2 g2 ((Gly.glyS s).map gl5) := gn_of hG2 hb2 (unhide HG0)
  have KS2 : (fun w' => w'.cell? ⟨w.heap.size, 0, none⟩ = some (.int .i64 wd) ∧ w'.cell? ⟨w.heap.size, 1, none⟩ = some (.slice a1 LW.length c1) ∧ w'.cell? ⟨w.heap.size, 2, none⟩ = some (.slice a2 n c2) ∧ w'.cell? ⟨w.heap.size, 3, none⟩ = some (.slice a3 LK.length c3) ∧ w'.cell? ⟨w.heap.size, 4, none⟩ = some (.slice a4 LA.length c4)) w2 := ⟨(five_f hS2.box).1, (five_f hS2.box).2.1, (five_f hS2.box).2.2.1, (five_f hS2.box).2.2.2.1, (five_f hS2.box).2.2.2.2⟩
  try go_wp2_with fail
  refine hK.out _ _ KS2 (fun hHeld1 => ?_)
  clear hK K
  try simp only [Act.put, List.setIfInBounds_toArray, List.set_cons_zero, List.set_cons_succ]
  refine wpAnyH_ready (rs := [4]) (by kernel_rfl) (by simp) (AllReadyH.cons rfl (fun K hK => ?_) AllReadyH.nil)
  go_simp
  go_at_call 26
  refine ((unhide CU) _ w1.drew _ ((unhide HR).below hS2.bel) hN2).mono ?_
  rintro e w3 ⟨g3, rfl, hN3⟩
  have hb3 := hN3.bel
  have hS3 := hS1.below ((drew_below w1).trans hb3)
  have KS3 : (fun w' => w'.cell? ⟨w.heap.size, 0, none⟩ = some (.int .i64 wd) ∧ w'.cell? ⟨w.heap.size, 1, none⟩ = some (.slice a1 LW.length c1) ∧ w'.cell? ⟨w.heap.size, 2, none⟩ = some (.slice a2 n c2) ∧ w'.cell? ⟨w.heap.size, 3, none⟩ = some (.slice a3 LK.length c3) ∧ w'.cell? ⟨w.heap.size, 4, none⟩ = some (.slice a4 LA.length c4)) w3 := ⟨(five_f hS3.box).1, (five_f hS3.box).2.1, (five_f hS3.box).2.2.1, (five_f hS3.box).2.2.2.1, (five_f hS3.box).2.2.2.2⟩
  try go_wp2_with fail
  refine hK.out _ _ KS3 (fun hHeld2 => ?_)
  clear hK K
  try simp only [Act.put, List.setIfInBounds_toArray, List.set_cons_zero, List.set_cons_succ]
  refine tkF (i := 5) (d := some 5) (v := ?_) rfl rfl (by kernel_rfl) (by kernel_rfl) (by kernel_rfl) (fun _ _ _ h => h) (Or.inl ⟨by rfl, ?_⟩) (by assumption) ?_
  rotate_left
  · intro w hSw; (try dsimp only at hSw); go_simp; try with_reducible rfl
  try simp only [Act.put, List.setIfInBounds_toArray, List.set_cons_zero, List.set_cons_succ]
  refine wpAnyH_done (by kernel_rfl) ?_ _
  clear KS KS2 KS3 hHeld hHeld1 hHeld2
  obtain ⟨g, c, rfl, hR3, hg3, hg3'⟩ := gn_fr (G := shR s n Q) hN3
  have hSh := unhide HSH
  have hb13 : Below w.heap.size w w1.drew := hS1.bel.trans ((drew_below w1).mono hS1.bel.size)
  by_cases hl : 1000 < (shR s n Q).length
  · have hl' : (1000 : Int) < ((shR s n Q).length : Int) := by omega
    rw [if_pos hl] at hSh
    have HS8 := hide hSh
    obtain ⟨⟨q0, q1, q2⟩, f0, f1, f2⟩ := three_a hS3.ans
    have HS3 := hide hS3
    clear hS hS1 hS2 hS3 hN2 hN3 hR3 hG2 hb2 hb2' hb3 hSh HSH s1 s3 s4 CG CU CF HT HR HF HF0 hl b0 b1 b2 b3 b4 hb13 hg3 hg3'
    go_wp2
    refine ans_ret (unhide HS3) 8 0 (.slice none 0 0) _ _ rfl rfl (fun w' h1 _ => ?_) rfl
    rw [unhide HS8]
    exact ⟨_, rfl, World.ownsRow_nil _ _ _ _, h1⟩
  · have hl' : ¬ (1000 : Int) < ((shR s n Q).length : Int) := by omega
    rw [if_neg hl] at hSh
    have HS8 := hide hSh
    have CP := hide (place_any ⟨wd, LW, LK, LA⟩ a1 a2 a3 a4 n c1 c2 c3 c4 B1 B3 B4 g c (shR s n Q) w1.drew w3 (s1.below hb13) (s3.below hb13) (s4.below hb13) hf.1 hf.2.2.2.1 hf.2.2.2.2 o1 o3 o4 ((unhide HT).below hb13) hb3 hR3 hg3 hg3' (by omega))
    obtain ⟨d0, d1, d2, d3, d4⟩ := five_f hS3.box
    have HS1 := hide hS1
    have HRL := hide (run_len ⟨wd, LW, LK, LA⟩ (shR s n Q) (shR s n Q).length)
    have HZ := hide (⟨hS1.bel.size, (Array.getElem?_eq_some_iff.1 hS1.ans).1, hg3⟩ : w.heap.size ≤ w1.heap.size ∧ w.heap.size + 1 < w1.heap.size ∧ w1.heap.size ≤ g)
    clear hS hS1 hS2 hS3 hN2 hN3 hR3 hG2 hb2 hb2' hb3 hSh HSH s1 s3 s4 CG CU CF HT HR HF HF0 hl b0 b1 b2 b3 b4 hb13 hg3 hg3'
    go_wp2_with (go_at_call 28; refine (unhide CP).mono ?_; rintro e w4 ⟨rfl, hb4, hR4, hG4⟩; have hS4 := (unhide HS1).below ((drew_below w1).trans hb4); obtain ⟨⟨q0, q1, q2⟩, f0, f1, f2⟩ := three_a hS4.ans; have HS4 := hide hS4; have HR4 := hide hR4; clear hb4 hR4 hG4 hS4)
    refine ans_ret (unhide HS4) 0 _ _ _ _ rfl rfl (fun w' h1 h2 => ?_) rfl
    rw [unhide HS8]
    refine ⟨_, rfl, ?_, h1⟩
    show FR w' w.heap.size _ (run ⟨wd, LW, LK, LA⟩ (shR s n Q) (shR s n Q).length).1.length (flt (run ⟨wd, LW, LK, LA⟩ (shR s n Q) (shR s n Q).length).1)
    have hz := unhide HZ
    rw [unhide HRL]
    exact fr_same (unhide HR4) hz.1 (h2 g (by omega))
set_option maxRecDepth 100000 in
set_option maxHeartbeats 8000000 in
theorem shape_none (v : Value) (wd : Int) (LW : List Sp) (n : Nat) (Q : List (List Int)) (LK LA : List Sp) (s : ByteArray) (w : World) (h : FA w v wd LW n Q LK LA) (hf : Fit LW n Q LK LA) (hs : s.size ≤ 65536) (hb : ffb wd LW n Q LK LA = true) (ht : TabAt w) (hg : Gly.glyS s = []) :
    Calls Tryz.prog 7 #[v, .string s] w fun e w' => ∃ gv, e = .returned (.agg #[.int .i64 0, gv, .int .i64 0]) ∧ FR w' w.heap.size gv 0 [] ∧ Below w.heap.size w w' := by
  have hgt : ¬ (65536 : Int) < (s.size : Int) := by omega
  have CF := hide (fun W (h : FA W v wd LW n Q LK LA) => implFF v wd LW n Q LK LA W h hf)
  have hff : ff wd LW n Q LK LA = 0 := if_pos hb
  rw [hff] at CF
  obtain ⟨o1, o4, o2, o3⟩ := ffb_is hb
  clear hff hb
  have HF := hide h
  obtain ⟨a1, a2, a3, a4, c1, c2, c3, c4, rfl, ⟨B1, s1⟩, s2, ⟨B3, s3⟩, B4, s4⟩ := h.form
  obtain ⟨W0, hW0⟩ : ∃ W0, W0 = (w.alloc (.cells #[.int .i64 wd, .slice a1 LW.length c1, .slice a2 n c2, .slice a3 LK.length c3, .slice a4 LA.length c4] 36)).alloc (.cells #[.int .i64 0, .slice none 0 0, .int .i64 0] 30) := ⟨_, rfl⟩
  have hS : Sw w W0 #[.int .i64 wd, .slice a1 LW.length c1, .slice a2 n c2, .slice a3 LK.length c3, .slice a4 LA.length c4] := by rw [hW0]; exact Sw.new w _
  obtain ⟨b0, b1, b2, b3, b4⟩ := five_f hS.box
  have HF0 := hide ((unhide HF).below hS.bel)
  have CG := hide (fun W (h : TabAt W) => Gly.implG s W h (by omega))
  have CU := hide (fun gv W0 W (hv : Rul.RuI W (.slice a2 n c2) n Q) (hG : G0 W0 W gv) hb0 => ruled_none (.slice a2 n c2) gv n Q W0 W hv o2 hG hb0)
  rw [hg] at CG
  have HT := hide ht
  have HR := hide (rui_of s2)
  clear h s2 ht hg s1 s3 s4
  go_enter Tryz.func7, Tryz.ntmps7
  go_upto_region 1 with fail
  rw [← hW0]
  clear hW0
  go_upto_region 5 with (go_at_call 25; refine ((unhide CF) _ (unhide HF0)).mono ?_; rintro e w1 ⟨rfl, hb1⟩; have hS1 := hS.below hb1; clear hb1)
  have KS : (fun w' => w'.cell? ⟨w.heap.size, 0, none⟩ = some (.int .i64 wd) ∧ w'.cell? ⟨w.heap.size, 1, none⟩ = some (.slice a1 LW.length c1) ∧ w'.cell? ⟨w.heap.size, 2, none⟩ = some (.slice a2 n c2) ∧ w'.cell? ⟨w.heap.size, 3, none⟩ = some (.slice a3 LK.length c3) ∧ w'.cell? ⟨w.heap.size, 4, none⟩ = some (.slice a4 LA.length c4)) w1 := ⟨(five_f hS1.box).1, (five_f hS1.box).2.1, (five_f hS1.box).2.2.1, (five_f hS1.box).2.2.2.1, (five_f hS1.box).2.2.2.2⟩
  refine wp_region_held_drew (S := fun w' => w'.cell? ⟨w.heap.size, 0, none⟩ = some (.int .i64 wd) ∧ w'.cell? ⟨w.heap.size, 1, none⟩ = some (.slice a1 LW.length c1) ∧ w'.cell? ⟨w.heap.size, 2, none⟩ = some (.slice a2 n c2) ∧ w'.cell? ⟨w.heap.size, 3, none⟩ = some (.slice a3 LK.length c3) ∧ w'.cell? ⟨w.heap.size, 4, none⟩ = some (.slice a4 LA.length c4)) (by kernel_rfl) (by first | exact KS | go_keep) (fun hHeld => ?_)
  refine tkF (i := 0) (d := some 17) (v := ?_) rfl rfl (by kernel_rfl) (by kernel_rfl) (by kernel_rfl) (fun _ _ _ h => h) (Or.inl ⟨by rfl, ?_⟩) (by assumption) ?_
  rotate_left
  · intro w hSw; (try dsimp only at hSw); go_simp; try with_reducible rfl
  try simp only [Act.put, List.setIfInBounds_toArray, List.set_cons_zero, List.set_cons_succ]
  refine tkF (i := 1) (d := some 18) (v := ?_) rfl rfl (by kernel_rfl) (by kernel_rfl) (by kernel_rfl) (fun _ _ _ h => h) (Or.inl ⟨by rfl, ?_⟩) (by assumption) ?_
  rotate_left
  · intro w hSw; (try dsimp only at hSw); go_simp; try with_reducible rfl
  try simp only [Act.put, List.setIfInBounds_toArray, List.set_cons_zero, List.set_cons_succ]
  refine tkF (i := 2) (d := some 19) (v := ?_) rfl rfl (by kernel_rfl) (by kernel_rfl) (by kernel_rfl) (fun _ _ _ h => h) (Or.inl ⟨by rfl, ?_⟩) (by assumption) ?_
  rotate_left
  · intro w hSw; (try dsimp only at hSw); go_simp; try with_reducible rfl
  try simp only [Act.put, List.setIfInBounds_toArray, List.set_cons_zero, List.set_cons_succ]
  refine wpAnyH_ready (rs := [3]) (by kernel_rfl) (by simp) (AllReadyH.cons rfl (fun K hK => ?_) AllReadyH.nil)
  go_simp
  go_at_call 27
  refine ((unhide CG) _ ((unhide HT).below (hS1.bel.trans ((drew_below w1).mono hS1.bel.size)))).mono ?_
  rintro e w2 ⟨g2, rfl, hG2, hb2⟩
  have hb2' := (drew_below w1).trans hb2
  have hS2 := hS1.below hb2'
  have hN2 : G0 w1.drew w2 g2 := g0_of hG2 hb2
  obtain ⟨ga, gc, rfl⟩ := hN2.form
  have KS2 : (fun w' => w'.cell? ⟨w.heap.size, 0, none⟩ = some (.int .i64 wd) ∧ w'.cell? ⟨w.heap.size, 1, none⟩ = some (.slice a1 LW.length c1) ∧ w'.cell? ⟨w.heap.size, 2, none⟩ = some (.slice a2 n c2) ∧ w'.cell? ⟨w.heap.size, 3, none⟩ = some (.slice a3 LK.length c3) ∧ w'.cell? ⟨w.heap.size, 4, none⟩ = some (.slice a4 LA.length c4)) w2 := ⟨(five_f hS2.box).1, (five_f hS2.box).2.1, (five_f hS2.box).2.2.1, (five_f hS2.box).2.2.2.1, (five_f hS2.box).2.2.2.2⟩
  try go_wp2_with fail
  refine hK.out _ _ KS2 (fun hHeld1 => ?_)
  clear hK K
  try simp only [Act.put, List.setIfInBounds_toArray, List.set_cons_zero, List.set_cons_succ]
  refine wpAnyH_ready (rs := [4]) (by kernel_rfl) (by simp) (AllReadyH.cons rfl (fun K hK => ?_) AllReadyH.nil)
  go_simp
  go_at_call 26
  refine ((unhide CU) _ w1.drew _ ((unhide HR).below hS2.bel) hN2 hb2).mono ?_
  rintro e w3 ⟨g3, rfl, hN3, hb3⟩
  have hS3 := hS1.below ((drew_below w1).trans hb3)
  have KS3 : (fun w' => w'.cell? ⟨w.heap.size, 0, none⟩ = some (.int .i64 wd) ∧ w'.cell? ⟨w.heap.size, 1, none⟩ = some (.slice a1 LW.length c1) ∧ w'.cell? ⟨w.heap.size, 2, none⟩ = some (.slice a2 n c2) ∧ w'.cell? ⟨w.heap.size, 3, none⟩ = some (.slice a3 LK.length c3) ∧ w'.cell? ⟨w.heap.size, 4, none⟩ = some (.slice a4 LA.length c4)) w3 := ⟨(five_f hS3.box).1, (five_f hS3.box).2.1, (five_f hS3.box).2.2.1, (five_f hS3.box).2.2.2.1, (five_f hS3.box).2.2.2.2⟩
  try go_wp2_with fail
  refine hK.out _ _ KS3 (fun hHeld2 => ?_)
  clear hK K
  try simp only [Act.put, List.setIfInBounds_toArray, List.set_cons_zero, List.set_cons_succ]
  refine tkF (i := 5) (d := some 5) (v := ?_) rfl rfl (by kernel_rfl) (by kernel_rfl) (by kernel_rfl) (fun _ _ _ h => h) (Or.inl ⟨by rfl, ?_⟩) (by assumption) ?_
  rotate_left
  · intro w hSw; (try dsimp only at hSw); go_simp; try with_reducible rfl
  try simp only [Act.put, List.setIfInBounds_toArray, List.set_cons_zero, List.set_cons_succ]
  refine wpAnyH_done (by kernel_rfl) ?_ _
  clear KS KS2 KS3 hHeld hHeld1 hHeld2
  obtain ⟨va, vc, rfl⟩ := hN3.form
  have hFR : FR w3 w1.heap.size (.slice va 0 vc) 0 [] := by
    rcases hN3 with e | h
    · cases e; exact World.ownsRow_nil _ _ _ _
    · obtain ⟨g, c, e, h1, _, _⟩ := gn_fr h
      exact h1
  obtain ⟨d0, d1, d2, d3, d4⟩ := five_f hS3.box
  have HS3 := hide hS3
  have HR3 := hide hFR
  have HZ := hide (⟨hS1.bel.size, (Array.getElem?_eq_some_iff.1 hS1.ans).1⟩ : w.heap.size ≤ w1.heap.size ∧ w.heap.size + 1 < w1.heap.size)
  have CP := hide (place_none wd a1 a2 a3 a4 LW.length n LK.length LA.length c1 c2 c3 c4 va vc w3)
  clear hS hS1 hS2 hS3 hN2 hN3 hG2 hb2 hb2' hb3 CG CU CF HT HR HF HF0 b0 b1 b2 b3 b4 hFR
  go_wp2_with (go_at_call 28; refine (unhide CP).mono ?_; rintro e w4 ⟨rfl, hb4⟩; have hS4 := (unhide HS3).below hb4; have HR4 := hide ((unhide HR3).below hb4); obtain ⟨⟨q0, q1, q2⟩, f0, f1, f2⟩ := three_a hS4.ans; have HS4 := hide hS4; clear hb4 hS4)
  refine ans_ret (unhide HS4) 0 _ _ _ _ rfl rfl (fun w' h1 h2 => ⟨_, rfl, ?_, h1⟩) rfl
  have hz := unhide HZ
  exact fr_none (unhide HR4) hz.1 (fun g hg => h2 g (by omega))
theorem alq_nil (Q : List (List Int)) (n : Nat) : alq Q [] n = [] := by
  induction n with
  | zero => rfl
  | succ n ih =>
    show (if (alq Q [] n).length ≤ 1000 ∨ n = 0 then rulq Q n (alq Q [] n) else alq Q [] n) = []
    rw [ih]
    split
    · rfl
    · rfl
/-- The program's Shape, at every text. -/
theorem implShape (v : Value) (wd : Int) (LW : List Sp) (n : Nat) (Q : List (List Int)) (LK LA : List Sp) (s : ByteArray) (w : World) (h : FA w v wd LW n Q LK LA) (hf : Fit LW n Q LK LA) (hs : s.size ≤ 1048576) (ht : TabAt w) :
    Calls Tryz.prog 7 #[v, .string s] w fun e w' => ∃ gv, e = .returned (.agg #[.int .i64 (shp wd LW n Q LK LA s).1, gv, .int .i64 (shp wd LW n Q LK LA s).2.2]) ∧ FR w' w.heap.size gv (shp wd LW n Q LK LA s).2.1.length (flt (shp wd LW n Q LK LA s).2.1) ∧ Below w.heap.size w w' := by
  by_cases h1 : 65536 < s.size
  · obtain ⟨a1, a2, a3, a4, c1, c2, c3, c4, rfl, _⟩ := h.form
    have e : shp wd LW n Q LK LA s = (2, [], 0) := if_pos h1
    rw [e]
    refine (shape_long wd a1 a2 a3 a4 LW.length n LK.length LA.length c1 c2 c3 c4 s w h1 hs).mono ?_
    rintro e w' ⟨rfl, hb⟩
    exact ⟨_, rfl, World.ownsRow_nil _ _ _ _, hb⟩
  · by_cases h2 : ffb wd LW n Q LK LA = true
    · by_cases h3 : 0 < (Gly.glyS s).length
      · exact shape_ok v wd LW n Q LK LA s w h hf (by omega) h2 ht h3
      · have h4 : Gly.glyS s = [] := List.length_eq_zero_iff.1 (by omega)
        have h5 : shR s n Q = [] := by unfold shR; rw [h4]; exact alq_nil Q n
        have e : shp wd LW n Q LK LA s = (0, [], 0) := by
          unfold shp
          rw [if_neg h1, if_pos h2, h5]
          rfl
        rw [e]
        exact shape_none v wd LW n Q LK LA s w h hf (by omega) h2 ht h4
    · have e : shp wd LW n Q LK LA s = (1, [], 0) := by unfold shp; rw [if_neg h1, if_neg h2]
      rw [e]
      refine (shape_bad v wd LW n Q LK LA s w h hf (by omega) h2).mono ?_
      rintro e w' ⟨rfl, hb⟩
      exact ⟨_, rfl, World.ownsRow_nil _ _ _ _, hb⟩
end Sha
end Go.Proofs.YtfldomifooihlaaGreatDoor
/- A text in a font, as the specification shapes it: what it keeps, its short ways, its glyphs. -/
namespace Go.Proofs.YtfldomifooihlaaGreatDoor
namespace Sha
open Go.RowKit Fnt Rul
set_option linter.unusedVariables false
set_option linter.unusedSimpArgs false
/-- The answer given back. -/
theorem ans_retS {w wr : World} {fc : Array Value} (h : Sw w wr fc) (x y : Int) (v : Value) (R : Ending → World → Prop) (a : Act) (ha : (a.tmps[4]?).getD undef = .pointer (some ⟨w.heap.size + 1, 0, none⟩)) (hd : a.defers = [])
    (hR : ∀ w', Below w.heap.size w w' → (∀ k, k ≠ w.heap.size + 1 → w'.heap[k]? = wr.heap[k]?) → R (.returned (.agg #[.int .i64 x, v, .int .i64 y])) w') (hv : v.oneCell' = true) :
    bodyPost Tryz.prog Tryz.f5 R .ret a (((wr.setCell ⟨w.heap.size + 1, 0, none⟩ (.int .i64 x)).setCell ⟨w.heap.size + 1, 1, none⟩ v).setCell ⟨w.heap.size + 1, 2, none⟩ (.int .i64 y)) := by
  obtain ⟨p1, p2, p3⟩ := h.put x y v
  obtain ⟨⟨z0, z1, z2⟩, _⟩ := three_a p2
  refine bodyPost_ret (v := .agg #[.int .i64 x, v, .int .i64 y]) ?_ hd (hR _ p1 p3)
  simp [results, Tryz.f5, go_sem, ha, z0, z1, z2]
set_option maxRecDepth 100000 in
set_option maxHeartbeats 4000000 in
theorem spec_long (wd : Int) (a1 a2 a3 a4 : Option Addr) (n1 n2 n3 n4 c1 c2 c3 c4 : Nat) (s : ByteArray) (w : World) (hs : 65536 < s.size) (hs2 : s.size ≤ 1048576) :
    Calls Tryz.prog 5 #[.agg #[.int .i64 wd, .slice a1 n1 c1, .slice a2 n2 c2, .slice a3 n3 c3, .slice a4 n4 c4], .string s] w fun e w' => e = .returned (.agg #[.int .i64 2, .slice none 0 0, .int .i64 0]) ∧ Below w.heap.size w w' := by
  have hgt : (65536 : Int) < (s.size : Int) := by omega
  obtain ⟨W0, hW0⟩ : ∃ W0, W0 = (w.alloc (.cells #[.int .i64 wd, .slice a1 n1 c1, .slice a2 n2 c2, .slice a3 n3 c3, .slice a4 n4 c4] 36)).alloc (.cells #[.int .i64 0, .slice none 0 0, .int .i64 0] 30) := ⟨_, rfl⟩
  have hS : Sw w W0 #[.int .i64 wd, .slice a1 n1 c1, .slice a2 n2 c2, .slice a3 n3 c3, .slice a4 n4 c4] := by rw [hW0]; exact Sw.new w _
  obtain ⟨⟨q0, q1, q2⟩, f0, f1, f2⟩ := three_a hS.ans
  have HS := hide hS
  clear hS
  go_enter Tryz.func5, Tryz.ntmps5
  go_upto_region 1 with fail
  rw [← hW0]
  clear hW0
  go_wp2
  exact ans_retS (unhide HS) 2 0 (.slice none 0 0) _ _ rfl rfl (fun w' h1 _ => ⟨rfl, h1⟩) rfl
set_option maxRecDepth 100000 in
set_option maxHeartbeats 4000000 in
theorem spec_bad (v : Value) (wd : Int) (LW : List Sp) (n : Nat) (Q : List (List Int)) (LK LA : List Sp) (s : ByteArray) (w : World) (h : FA w v wd LW n Q LK LA) (hf : Fit LW n Q LK LA) (hs : s.size ≤ 65536) (hb : ¬ ffb wd LW n Q LK LA = true) :
    Calls Tryz.prog 5 #[v, .string s] w fun e w' => e = .returned (.agg #[.int .i64 1, .slice none 0 0, .int .i64 0]) ∧ Below w.heap.size w w' := by
  have hgt : ¬ (65536 : Int) < (s.size : Int) := by omega
  have CF := hide (fun W (h : FA W v wd LW n Q LK LA) => specFF v wd LW n Q LK LA W h hf)
  have hff : ff wd LW n Q LK LA = 1 := if_neg hb
  rw [hff] at CF
  clear hff hb
  have HF := hide h
  obtain ⟨a1, a2, a3, a4, c1, c2, c3, c4, rfl, _⟩ := h.form
  obtain ⟨W0, hW0⟩ : ∃ W0, W0 = (w.alloc (.cells #[.int .i64 wd, .slice a1 LW.length c1, .slice a2 n c2, .slice a3 LK.length c3, .slice a4 LA.length c4] 36)).alloc (.cells #[.int .i64 0, .slice none 0 0, .int .i64 0] 30) := ⟨_, rfl⟩
  have hS : Sw w W0 #[.int .i64 wd, .slice a1 LW.length c1, .slice a2 n c2, .slice a3 LK.length c3, .slice a4 LA.length c4] := by rw [hW0]; exact Sw.new w _
  obtain ⟨b0, b1, b2, b3, b4⟩ := five_f hS.box
  have HF0 := hide ((unhide HF).below hS.bel)
  clear h
  go_enter Tryz.func5, Tryz.ntmps5
  go_upto_region 1 with fail
  rw [← hW0]
  clear hW0
  go_wp2_with (go_at_call 16; refine ((unhide CF) _ (unhide HF0)).mono ?_; rintro e w1 ⟨rfl, hb1⟩; have hS1 := hS.below hb1; obtain ⟨⟨q0, q1, q2⟩, f0, f1, f2⟩ := three_a hS1.ans; have HS1 := hide hS1; clear hb1 hS1)
  exact ans_retS (unhide HS1) 1 0 (.slice none 0 0) _ _ rfl rfl (fun w' h1 _ => ⟨rfl, h1⟩) rfl
theorem own_mono {w : World} {base base' : Nat} {e : TypeId} {size : Nat} {v : Value} {n : Nat} {xs : List Value} (h : w.ownsRow base e size v n xs) (hb : base' ≤ base) : w.ownsRow base' e size v n xs :=
  ⟨h.1, h.2.imp id (fun ⟨g, c, cur, e, hg, r⟩ => ⟨g, c, cur, e, Nat.le_trans hb hg, r⟩)⟩
theorem i64w (n : Int) : IntKind.i64.wrap n = wrap64 n := by rw [IntKind.wrap_i64]; unfold wrap64; omega
theorem mk_all {lo : Int} {L : List Sp} {n : Nat} (h : mk lo L n = true) : ∀ k, k < n → lo ≤ (gx L k).2.2 ∧ (gx L k).2.2 ≤ 1000 := by
  induction n with
  | zero => intro k hk; omega
  | succ n ih =>
    unfold mk at h
    simp only [Bool.and_eq_true, decide_eq_true_eq] at h
    intro k hk
    by_cases e : k = n
    · subst e; exact h.2
    · exact ih h.1 k (by omega)
theorem valS_in {lo : Int} {L : List Sp} (n : Int) (h0 : lo ≤ 0) (h : ∀ k, k < L.length → lo ≤ (gx L k).2.2 ∧ (gx L k).2.2 ≤ 1000) : lo ≤ valS L n 0 ∧ valS L n 0 ≤ 1000 := by
  have key : ∀ d k, k + d = L.length → lo ≤ valS (L.drop k) n 0 ∧ valS (L.drop k) n 0 ≤ 1000 := by
    intro d
    induction d with
    | zero => intro k hk; rw [valS_end L n 0 k (by omega)]; omega
    | succ d ih =>
      intro k hk
      rw [valS_drop L n 0 k (by omega)]
      split
      · exact h k (by omega)
      · exact ih (k + 1) (by omega)
  have := key L.length 0 (by omega)
  simpa using this
theorem ffb_la {wd : Int} {LW : List Sp} {n : Nat} {Q : List (List Int)} {LK LA : List Sp} (h : ffb wd LW n Q LK LA = true) (id : Int) : wrap64 (0 + valS LA id 0) = valS LA id 0 := by
  unfold ffb at h
  simp only [Bool.and_eq_true] at h
  have h2 := h.2.2.1
  unfold msr at h2
  simp only [Bool.and_eq_true] at h2
  have := valS_in id (by omega) (mk_all h2.2)
  unfold wrap64
  omega
theorem itr_x0 {A I B P : List Int} {G : List Gl} (hG : ∀ g ∈ G, g.2.2.2.1 = 0) (k : Nat) : ∀ g ∈ (itr A I B P G k).2, g.2.2.2.1 = 0 := by
  induction k with
  | zero => intro g hg; simp [itr] at hg
  | succ k ih =>
    show ∀ g ∈ (stp A I B P G (itr A I B P G k)).2, g.2.2.2.1 = 0
    unfold stp
    by_cases h1 : (itr A I B P G k).1 < G.length
    · rw [if_pos h1]
      by_cases h2 : fit A I B G (itr A I B P G k).1 (itr A I B P G k).2 = true
      · rw [if_pos h2]
        intro g hg
        rcases List.mem_append.1 hg with h | h
        · exact ih g h
        · obtain ⟨x, _, rfl⟩ := List.mem_map.1 h
          rfl
      · rw [if_neg h2]
        intro g hg
        rcases List.mem_append.1 hg with h | h
        · exact ih g h
        · rw [List.mem_singleton.1 h]
          refine hG _ ?_
          have : gat G (itr A I B P G k).1 = G[(itr A I B P G k).1] := by simp [gat, List.getD_eq_getElem?_getD, h1]
          rw [this]
          exact List.getElem_mem h1
    · rw [if_neg h1]
      exact ih
theorem alq_x0 {Q : List (List Int)} {G : List Gl} (hG : ∀ g ∈ G, g.2.2.2.1 = 0) (n : Nat) : ∀ g ∈ alq Q G n, g.2.2.2.1 = 0 := by
  induction n with
  | zero => exact hG
  | succ n ih =>
    show ∀ g ∈ (if (alq Q G n).length ≤ 1000 ∨ n = 0 then rulq Q n (alq Q G n) else alq Q G n), g.2.2.2.1 = 0
    split
    · exact itr_x0 ih _
    · exact ih
theorem shR_x0 (s : ByteArray) (n : Nat) (Q : List (List Int)) (k : Nat) : (gat (shR s n Q) k).2.2.2.1 = 0 := by
  have h : ∀ g ∈ shR s n Q, g.2.2.2.1 = 0 := alq_x0 (fun g hg => by obtain ⟨x, _, rfl⟩ := List.mem_map.1 hg; rfl) n
  by_cases hk : k < (shR s n Q).length
  · have : gat (shR s n Q) k = (shR s n Q)[k] := by simp [gat, List.getD_eq_getElem?_getD, hk]
    rw [this]
    exact h _ (List.getElem_mem hk)
  · have : gat (shR s n Q) k = gl0 := by simp [gat, List.getD_eq_getElem?_getD, Nat.not_lt.1 hk]
    rw [this]
    rfl
/-- The glyphs of a text, as the specification tells them: a row of the call's own. -/
theorem sgly (s : ByteArray) (w : World) (hs : s.size ≤ 65536) : Calls Tryz.prog 18 #[.string s] w fun e w' => ∃ v, e = .returned v ∧ GN w w' v ((Gly.glyS s).map gl5) := by
  have e : Gly.glyS s = Gly.ord (Gly.gin s (pts s) (Shp.frs (pts s)) (Chr.bsS (pts s)) (pts s).length) := by
    have ep : ptsOut s = pts s := by unfold ptsOut; rw [if_neg (by omega)]
    unfold Gly.glyS Gly.ginS
    rw [ep, Chr.sts_eq]
  rw [e]
  refine (Gly.sGlyphs s w hs).mono ?_
  rintro e w' ⟨v, rfl, ⟨B, hB, h⟩, hm, hb⟩
  refine ⟨v, rfl, ?_⟩
  rcases h.2 with ⟨rfl, _⟩ | ⟨g, cap, cur, rfl, r⟩
  · cases hm
  · refine ⟨_, _, _, rfl, by simp, ⟨g, rfl⟩, ?_, hb⟩
    rw [flt5]
    exact own_mono h hB
/-- While the specification places glyphs: the font's box and the answer's, the row of glyphs. -/
structure Ps (w wr : World) (g m c : Nat) (fc : Array Value) (F : List Int) : Prop where
  sw : Sw w wr fc
  row : FR wr (w.heap.size + 2) (.slice (some ⟨g, 0, none⟩) m c) m F
theorem Ps.lo {w wr : World} {g m c : Nat} {fc : Array Value} {F : List Int} (h : Ps w wr g m c fc F) : w.heap.size + 2 ≤ g ∧ g < wr.heap.size := World.ownsRow.lt h.row g rfl
theorem Ps.below {w wr w2 : World} {g m c : Nat} {fc : Array Value} {F : List Int} (h : Ps w wr g m c fc F) (hb : Below wr.heap.size wr w2) : Ps w w2 g m c fc F := ⟨h.sw.below hb, h.row.below hb⟩
theorem Ps.set {w wr : World} {g m c : Nat} {fc : Array Value} {F : List Int} (h : Ps w wr g m c fc F) (i : Nat) (x : Int) : Ps w (wr.setCell ⟨g, i, none⟩ (.int .i64 x)) g m c fc (F.set i x) := by
  have hl := h.lo.1
  exact ⟨⟨h.sw.bel.setCell (p := ⟨g, i, none⟩) (by show w.heap.size ≤ g; omega) _, (Below.heap_setCell _ _ _ _ (fun e => by have e : w.heap.size = g := e; omega)).trans h.sw.box, (Below.heap_setCell _ _ _ _ (fun e => by have e : w.heap.size + 1 = g := e; omega)).trans h.sw.ans⟩, h.row.set i x⟩
/-- Where a base stands, or that there is none. -/
def BiV (f : Ft) (G : List Gl) (k : Nat) (v : Value) : Prop := (v = .int .i64 (-1) ∧ (run f G k).2.2 = none) ∨ ∃ bi : Nat, v = .int .i64 (bi : Int) ∧ Bs f G k bi
end Sha
end Go.Proofs.YtfldomifooihlaaGreatDoor
