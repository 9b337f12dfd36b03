/- Several texts in one. -/
import Derived.Test.YtdgafmhjbgddkaaDoorMP
import Derived.Deep.RegionHeld3
import Derived.Deep.Cut
import Derived.Deep.CutRange
import Derived.Deep.CutBlock
import Derived.Test.YtdgafmhjbgddkaaDoorChrL
/- The cuts of words, by the specification. -/
namespace Go.Proofs.YtdgafmhjbgddkaaDoor
namespace Wrd
open Go.RowKit
open Chr (cat ctl mrk stb sts charS bsS sRowOf sChar atsL nth_ats atl atl_len)
set_option linter.unusedVariables false
theorem wrapW (x : Int) (h0 : -9223372036854775808 ≤ x) (h1 : x ≤ 9223372036854775807) : IntKind.i64.wrap x = x := by
  simp [IntKind.wrap, IntKind.signed, IntKind.bits]; omega
theorem drewW (w : World) : Below w.heap.size w w.drew := ⟨rfl, rfl, rfl, Nat.le_refl _, fun _ _ => rfl⟩
theorem tkW {P : Program} {ops : Array Oper} {Q : Exit → Act → World → Prop} {md : Region.Mode} {S : World → Prop} {i : Nat} {oi : Oper} {d : Option Tmp} {v : Value} {fuel : Nat} {listed : Array Bool} {a : Act} {w : World} (hi : ops[i]? = some oi) (hd : oi.dst = d)
    (hs : Region.noSelect ops = true) (hf : Region.free md ops listed i = true) (hr : (Region.ready md ops listed).contains i = true)
    (hQ : ∀ c a w, Q (.panic c) (a.put d v) w → Q (.panic c) a w) (hy : YieldsIf P ops S oi v a) (hS : S w)
    (h : wpAnyH P md ops Q S fuel (listed.setIfInBounds i true) (a.put d v) w) : wpAnyH P md ops Q S (fuel + 1) listed a w := by
  subst hd
  exact wpAnyH_take hi hs hf hr hQ hy hS h
theorem own_atS {w w' : World} {B : Nat} {e : TypeId} {s : Nat} {v : Value} {n : Nat} {xs : List Value} (h : w.ownsRow B e s v n xs) (hs : ∀ k, v.ownBlock = some k → w'.heap[k]? = w.heap[k]?) : w'.ownsRow B e s v n xs := by
  refine ⟨h.1, ?_⟩
  rcases h.2 with h' | ⟨g, cap, cur, hv, hg, hh, r⟩
  · exact .inl h'
  · exact .inr ⟨g, cap, cur, hv, hg, (hs g (by rw [hv]; rfl)).trans hh, r⟩
/-- Three rows of the call's own, in blocks apart. -/
structure Tw (B : Nat) (w : World) (v1 v2 v3 : Value) (X1 X2 : List Int) (X3 : List Bool) : Prop where
  o1 : w.ownsRow B 2 1 v1 X1.length (X1.map (Value.int .i64))
  o2 : w.ownsRow B 2 1 v2 X2.length (X2.map (Value.int .i64))
  o3 : w.ownsRow B 4 1 v3 X3.length (X3.map Value.bool)
  d12 : ∀ k, v1.ownBlock = some k → v2.ownBlock ≠ some k
  d13 : ∀ k, v1.ownBlock = some k → v3.ownBlock ≠ some k
  d23 : ∀ k, v2.ownBlock = some k → v3.ownBlock ≠ some k
section T
variable {B : Nat} {w w1 w2 : World} {v1 v2 v3 v' : Value} {X1 X2 : List Int} {X3 : List Bool}
theorem Tw.below (h : Tw B w v1 v2 v3 X1 X2 X3) (hb : Below w.heap.size w w1) : Tw B w1 v1 v2 v3 X1 X2 X3 :=
  ⟨own_atS h.o1 (fun k e => hb.block k (h.o1.lt k e).2), own_atS h.o2 (fun k e => hb.block k (h.o2.lt k e).2), own_atS h.o3 (fun k e => hb.block k (h.o3.lt k e).2), h.d12, h.d13, h.d23⟩
theorem Tw.app1 (h : Tw B w v1 v2 v3 X1 X2 X3) (o : Obj) (x : Int) (ho : w2.ownsRow B 2 1 v' (X1.length + 1) (X1.map (Value.int .i64) ++ [.int .i64 x])) (hg : (w.alloc o).grownBy w2 v1.ownBlock) (hk : ∀ k, v'.ownBlock = some k → v1.ownBlock = some k ∨ (w.alloc o).heap.size ≤ k) : Tw B w2 v' v2 v3 (X1 ++ [x]) X2 X3 := by
  have hz : (w.alloc o).heap.size = w.heap.size + 1 := by simp
  refine ⟨by simpa using ho, own_atS h.o2 (fun k e => ?_), own_atS h.o3 (fun k e => ?_), fun k e e2 => ?_, fun k e e2 => ?_, h.d23⟩
  · have hl := (h.o2.lt k e).2
    rw [hg.block k (by omega) (fun e3 => h.d12 k e3.symm e), Below.heap_alloc _ _ _ hl]
  · have hl := (h.o3.lt k e).2
    rw [hg.block k (by omega) (fun e3 => h.d13 k e3.symm e), Below.heap_alloc _ _ _ hl]
  · rcases hk k e with e3 | e3
    · exact h.d12 k e3 e2
    · have := (h.o2.lt k e2).2; omega
  · rcases hk k e with e3 | e3
    · exact h.d13 k e3 e2
    · have := (h.o3.lt k e2).2; omega
theorem Tw.app2 (h : Tw B w v1 v2 v3 X1 X2 X3) (o : Obj) (x : Int) (ho : w2.ownsRow B 2 1 v' (X2.length + 1) (X2.map (Value.int .i64) ++ [.int .i64 x])) (hg : (w.alloc o).grownBy w2 v2.ownBlock) (hk : ∀ k, v'.ownBlock = some k → v2.ownBlock = some k ∨ (w.alloc o).heap.size ≤ k) : Tw B w2 v1 v' v3 X1 (X2 ++ [x]) X3 := by
  have hz : (w.alloc o).heap.size = w.heap.size + 1 := by simp
  refine ⟨own_atS h.o1 (fun k e => ?_), by simpa using ho, own_atS h.o3 (fun k e => ?_), fun k e e2 => ?_, h.d13, fun k e e2 => ?_⟩
  · have hl := (h.o1.lt k e).2
    rw [hg.block k (by omega) (fun e3 => h.d12 k e e3.symm), Below.heap_alloc _ _ _ hl]
  · have hl := (h.o3.lt k e).2
    rw [hg.block k (by omega) (fun e3 => h.d23 k e3.symm e), Below.heap_alloc _ _ _ hl]
  · rcases hk k e2 with e3 | e3
    · exact h.d12 k e e3
    · have := (h.o1.lt k e).2; omega
  · rcases hk k e with e3 | e3
    · exact h.d23 k e3 e2
    · have := (h.o3.lt k e2).2; omega
theorem Tw.app3 (h : Tw B w v1 v2 v3 X1 X2 X3) (o : Obj) (x : Bool) (ho : w2.ownsRow B 4 1 v' (X3.length + 1) (X3.map Value.bool ++ [.bool x])) (hg : (w.alloc o).grownBy w2 v3.ownBlock) (hk : ∀ k, v'.ownBlock = some k → v3.ownBlock = some k ∨ (w.alloc o).heap.size ≤ k) : Tw B w2 v1 v2 v' X1 X2 (X3 ++ [x]) := by
  have hz : (w.alloc o).heap.size = w.heap.size + 1 := by simp
  refine ⟨own_atS h.o1 (fun k e => ?_), own_atS h.o2 (fun k e => ?_), by simpa using ho, h.d12, fun k e e2 => ?_, fun k e e2 => ?_⟩
  · have hl := (h.o1.lt k e).2
    rw [hg.block k (by omega) (fun e3 => h.d13 k e e3.symm), Below.heap_alloc _ _ _ hl]
  · have hl := (h.o2.lt k e).2
    rw [hg.block k (by omega) (fun e3 => h.d23 k e e3.symm), Below.heap_alloc _ _ _ hl]
  · rcases hk k e2 with e3 | e3
    · exact h.d13 k e e3
    · have := (h.o1.lt k e).2; omega
  · rcases hk k e2 with e3 | e3
    · exact h.d23 k e e3
    · have := (h.o2.lt k e).2; omega
theorem growB {b : Nat} {v : Value} {e : TypeId} {n : Nat} {xs : List Value} {o : Obj} (h : w.ownsRow b e 1 v n xs) (hb : b ≤ w.heap.size) (hg : (w.alloc o).grownBy w2 v.ownBlock) : Below b w w2 :=
  ((Below.refl b w).alloc hb o).grown hg (by simp; omega) (fun k e => (h.lt k e).1)
end T
/-- The three rows behind the first k points: the points that stand alone, their places, whether a character starts there. -/
def ow3 (L : List Int) (k : Nat) : List Int := (alk L k).map fun a => nth L a.toNat
def at3 (s : ByteArray) (L : List Int) (k : Nat) : List Int := (alk L k).map fun a => ((steps s a.toNat).2 : Int)
def ch3 (L : List Int) (k : Nat) : List Bool := (alk L k).map fun a => stb L a.toNat
theorem ow3_yes {L : List Int} {k : Nat} (h : aln L k = true) : ow3 L (k + 1) = ow3 L k ++ [nth L k] := by unfold ow3; rw [alk_yes h]; simp
theorem at3_yes {s : ByteArray} {L : List Int} {k : Nat} (h : aln L k = true) : at3 s L (k + 1) = at3 s L k ++ [((steps s k).2 : Int)] := by unfold at3; rw [alk_yes h]; simp
theorem ch3_yes {L : List Int} {k : Nat} (h : aln L k = true) : ch3 L (k + 1) = ch3 L k ++ [stb L k] := by unfold ch3; rw [alk_yes h]; simp
theorem all3_no {s : ByteArray} {L : List Int} {k : Nat} (h : aln L k = false) : ow3 L (k + 1) = ow3 L k ∧ at3 s L (k + 1) = at3 s L k ∧ ch3 L (k + 1) = ch3 L k := by unfold ow3 at3 ch3; rw [alk_no h]; exact ⟨rfl, rfl, rfl⟩
theorem len3 (s : ByteArray) (L : List Int) (k : Nat) : (ow3 L k).length = (alk L k).length ∧ (at3 s L k).length = (alk L k).length ∧ (ch3 L k).length = (alk L k).length := by simp [ow3, at3, ch3]
theorem at3_nth (s : ByteArray) (i : Nat) (h : i < (alA (pts s)).length) : nth (at3 s (pts s) (pts s).length) i = ((steps s (nth (alA (pts s)) i).toNat).2 : Int) := by
  unfold at3 nth
  have h' : i < (alk (pts s) (pts s).length).length := h
  unfold alA
  simp [List.getD, h']
theorem ch3_nth {L : List Int} (i : Nat) (h : i < (alA L).length) : ((ch3 L L.length).map Value.bool)[i]? = some (.bool (chA L i)) := by
  unfold ch3 chA nth
  have h' : i < (alk L L.length).length := h
  unfold alA
  simp [List.getD, h']
theorem stb_char {L : List Int} {k : Nat} (h : k < L.length) (h0 : 0 < k) : stb L k = charS L k := by
  have e := congrArg (fun l => l.getD k false) (Chr.sts_eq L)
  rw [Chr.bsS_at L k h] at e
  have e2 : (sts L).getD k false = stb L k := by simp [Chr.sts, List.getD_eq_getElem?_getD, h]
  rw [e2] at e
  rw [e, show (k == 0) = false by rw [beq_eq_false_iff_ne]; omega, Bool.false_or]
theorem aln_blg {L : List Int} {k : Nat} (h0 : 0 < k) : aln L k = !blg (nth L k) (nth L (k - 1)) := by
  unfold aln
  rw [show (k == 0) = false by rw [beq_eq_false_iff_ne]; omega, Bool.false_or]
theorem tw_start (w : World) : Tw w.heap.size (((w.alloc (.cells #[] 2)).alloc (.cells #[] 2)).alloc (.cells #[] 4)) (.slice (some ⟨w.heap.size, 0, none⟩) 0 0) (.slice (some ⟨w.heap.size + 1, 0, none⟩) 0 0) (.slice (some ⟨w.heap.size + 1 + 1, 0, none⟩) 0 0) [] [] [] := by
  have h1 := World.ownsRow_lit w #[] 0 (base := w.heap.size) (e := 2) (size := 1) (Nat.le_refl _) (by unfold maxLen; omega) rfl
  have h2 := World.ownsRow_lit (w.alloc (.cells #[] 2)) #[] 0 (base := w.heap.size) (e := 2) (size := 1) (by simp) (by unfold maxLen; omega) rfl
  have h3 := World.ownsRow_lit ((w.alloc (.cells #[] 2)).alloc (.cells #[] 2)) #[] 0 (base := w.heap.size) (e := 4) (size := 1) (by simp; omega) (by unfold maxLen; omega) rfl
  have z1 : (w.alloc (.cells #[] 2)).heap.size = w.heap.size + 1 := by simp
  have z2 : ((w.alloc (.cells #[] 2)).alloc (.cells #[] 2)).heap.size = w.heap.size + 1 + 1 := by simp
  rw [z1] at h2
  rw [z2] at h3
  refine ⟨own_atS h1 (fun k e => ?_), own_atS h2 (fun k e => ?_), h3, fun k e e2 => ?_, fun k e e2 => ?_, fun k e e2 => ?_⟩
  · cases e
    rw [Below.heap_alloc _ _ _ (by show w.heap.size < _; rw [z2]; omega), Below.heap_alloc _ _ _ (by show w.heap.size < _; rw [z1]; omega)]
  · cases e
    rw [Below.heap_alloc _ _ _ (by show w.heap.size + 1 < _; rw [z2]; omega)]
  · simp only [Value.ownBlock, Option.some.injEq] at e e2; omega
  · simp only [Value.ownBlock, Option.some.injEq] at e e2; omega
  · simp only [Value.ownBlock, Option.some.injEq] at e e2; omega
theorem info4W : (Tryd.prog.info? 4).map (fun i => (i.zero, i.size, i.bytes)) = some (some (.bool false), 1, 1) := by kernel_rfl
theorem info2W : (Tryd.prog.info? 2).map (fun i => (i.zero, i.size, i.bytes)) = some (some (.int .i64 0), 1, 8) := by kernel_rfl
theorem oneV (w : World) (x : Value) (T : TypeId) : ∀ (j : Nat) (u : Value), [x][j]? = some u → (w.alloc (.cells #[x] T)).cell? ((⟨w.heap.size, 0, none⟩ : Addr).add j) = some u := by
  intro j u h
  have e : (⟨w.heap.size, 0, none⟩ : Addr).add j = ⟨w.heap.size, j, none⟩ := by unfold Addr.add; split <;> simp_all
  rw [e]
  have hn := heap_alloc_last w (.cells #[x] T)
  simp only [World.cell?, hn]
  match j, h with
  | 0, h => simpa using h
set_option maxRecDepth 100000 in
set_option maxHeartbeats 16000000 in
theorem wordsS (s : ByteArray) (vt : Value) (T : List Tl) (w : World) (hs : s.size ≤ 65536) (htl : TlAt w vt T) (hT : T.length ≤ 1048576) :
    Calls Tryd.prog 19 #[.string s, vt] w fun e w' => ∃ v, e = .returned v ∧ IntsAt w' v (wcA s T) ∧ Below w.heap.size w w' := by
  obtain ⟨i0, hi, hz0, hz1, hz2⟩ := info_parts info2W
  obtain ⟨j0, hj, hy0, hy1, hy2⟩ := info_parts info4W
  have hpl := pts_le s
  have CR := hide (fun W => sRowOf s W hs)
  have HTL := hide htl
  have hal : (atsL s).length = (pts s).length + 1 := by unfold Chr.atsL; simp [Chr.atl_len]
  have HAL := hide hal
  have HAT := hide (nth_ats s)
  clear htl hal
  go_enter Tryd.func19, Tryd.ntmps19
  go_wp2_with (go_at_call 32; refine ((unhide CR) _).mono ?_; rintro e w1 ⟨v1, v2, rfl, hv1, hv2, hb1⟩; have B1 := hide hb1; have I1 := hide hv1; have I2 := hide hv2; clear hb1; obtain ⟨a1, c1, rfl, _⟩ := hv1; obtain ⟨a2, c2, rfl, _⟩ := hv2)
  have X1 := (Below.refl w1.heap.size w1).alloc (Nat.le_refl _) (.cells #[.slice a1 (pts s).length c1, .slice a2 (atsL s).length c2] 51)
  have N1 := heap_alloc_last w1 (.cells #[.slice a1 (pts s).length c1, .slice a2 (atsL s).length c2] 51)
  have zb : (w1.alloc (.cells #[.slice a1 (pts s).length c1, .slice a2 (atsL s).length c2] 51)).heap.size = w1.heap.size + 1 := by simp
  have TW := tw_start (w1.alloc (.cells #[.slice a1 (pts s).length c1, .slice a2 (atsL s).length c2] 51))
  have Y1 := (((Below.refl (w1.alloc (.cells #[.slice a1 (pts s).length c1, .slice a2 (atsL s).length c2] 51)).heap.size (w1.alloc (.cells #[.slice a1 (pts s).length c1, .slice a2 (atsL s).length c2] 51))).alloc (Nat.le_refl _) (.cells #[] 2)).alloc (by simp) (.cells #[] 2)).alloc (by simp) (.cells #[] 4)
  rw [zb] at TW Y1
  have J1 := hide ((unhide I1).below X1)
  have J2 := hide ((unhide I2).below X1)
  have BB := hide ((unhide B1).trans (X1.mono (unhide B1).size))
  have hsb : w.heap.size ≤ w1.heap.size := (unhide B1).size
  have T0 : Hid (Tw (w1.heap.size + 1) _ _ _ _ (ow3 (pts s) 0) (at3 s (pts s) 0) (ch3 (pts s) 0)) := hide TW
  have Z0 := hide Y1
  clear I1 I2 B1 CR X1 TW Y1
  generalize (w1.alloc (.cells #[.slice a1 (pts s).length c1, .slice a2 (atsL s).length c2] 51)) = wb at *
  go_loopw [6, 7, 8, 9] (fun x1 x2 x3 iv wr => ∃ k : Nat, k ≤ (pts s).length ∧ iv = .int .i64 (k : Int) ∧ Hid (Tw (w1.heap.size + 1) wr x1 x2 x3 (ow3 (pts s) k) (at3 s (pts s) k) (ch3 (pts s) k)) ∧ Hid (Below (w1.heap.size + 1) wb wr)) (fun _ _ _ iv _ => (pts s).length - (intOf iv).toNat)
  case atStart => exact ⟨0, Nat.zero_le _, rfl, T0, Z0⟩
  case round =>
    obtain ⟨k, hk, rfl, HT3, HB⟩ := hrel
    clear T0 Z0
    have hbs : w1.heap.size + 1 ≤ wr.heap.size := by have := (unhide HB).size; omega
    by_cases hlt : k < (pts s).length
    · have hlt' : (k : Int) < ((pts s).length : Int) := by omega
      have h0k : (0 : Int) ≤ (k : Int) := by omega
      have hal := unhide HAL
      obtain ⟨b1, o1, c1', hv1, hb1s, hc1⟩ := ints_at (unhide J1) (by omega)
      injection hv1 with e1 _ e2
      subst e1 e2
      obtain ⟨b2, o2, c2', hv2, hb2s, hc2⟩ := ints_at (unhide J2) (by omega)
      injection hv2 with e3 _ e4
      subst e3 e4
      obtain ⟨x0, x1, _, _⟩ := Chr.two_cells N1
      have q2 := hc2 k (by omega)
      rw [(unhide HAT) k hlt] at q2
      have FX := hide (fun W (h : Below (w1.heap.size + 1) wb W) => (show W.cell? ⟨w1.heap.size, 0, none⟩ = _ ∧ W.cell? ⟨w1.heap.size, 1, none⟩ = _ ∧ W.cell? ⟨b1, o1 + k, none⟩ = _ ∧ W.cell? ⟨b2, o2 + k, none⟩ = _ from ⟨(h.cell (p := ⟨w1.heap.size, 0, none⟩) (by show w1.heap.size < _; omega)).trans x0, (h.cell (p := ⟨w1.heap.size, 1, none⟩) (by show w1.heap.size < _; omega)).trans x1, (h.cell (p := ⟨b1, o1 + k, none⟩) (by show b1 < _; omega)).trans (hc1 k hlt), (h.cell (p := ⟨b2, o2 + k, none⟩) (by show b2 < _; omega)).trans q2⟩))
      obtain ⟨hm1, hm2, hm3⟩ := len3 s (pts s) k
      have hlk := alk_len (pts s) k
      have hl1 : (ow3 (pts s) k).length ≤ 65536 := by omega
      have hl2 : (at3 s (pts s) k).length ≤ 65536 := by omega
      have hl3 : (ch3 (pts s) k).length ≤ 65536 := by omega
      clear hm1 hm2 hm3
      have hka : (k : Int) < ((atsL s).length : Int) := by omega
      have HC1 := hide hc1
      have HW1 := hide (fun h => ow3_yes (L := pts s) (k := k) h)
      have HW2 := hide (fun h => at3_yes (s := s) (L := pts s) (k := k) h)
      have HW3 := hide (fun h => ch3_yes (L := pts s) (k := k) h)
      have HW4 := hide (fun h => all3_no (s := s) (L := pts s) (k := k) h)
      obtain ⟨f0, f1, f2, f3⟩ := (unhide FX) wr (unhide HB)
      clear hal hc1 hc2 q2 x0 x1
      have HZB := hide zb
      have hb1b : b1 < w1.heap.size + 1 := by omega
      clear zb
      by_cases hk0 : k = 0
      · subst hk0
        simp only [Nat.add_zero] at FX f0 f1 f2 f3
        have ha : aln (pts s) 0 = true := rfl
        have hst : stb (pts s) 0 = true := rfl
        go_wp2_with fail
        refine wp_region_held_drew (S := fun _ => True) (by kernel_rfl) (by exact trivial) (fun hHeld => ?_)
        refine tkW (i := 0) (d := some 24) (v := ?_) rfl rfl (by kernel_rfl) (by kernel_rfl) (by kernel_rfl) (fun _ _ _ h => h) (Or.inl ⟨by rfl, ?_⟩) (by assumption) ?_
        rotate_left
        · intro w hSw; (try dsimp only at hSw); go_simp; try with_reducible rfl
        try simp only [Act.put, List.setIfInBounds_toArray, List.set_cons_zero, List.set_cons_succ]
        refine tkW (i := 1) (d := some 25) (v := ?_) rfl rfl (by kernel_rfl) (by kernel_rfl) (by kernel_rfl) (fun _ _ _ h => h) (Or.inl ⟨by rfl, ?_⟩) (by assumption) ?_
        rotate_left
        · intro w hSw; (try dsimp only at hSw); go_simp; try with_reducible rfl
        try simp only [Act.put, List.setIfInBounds_toArray, List.set_cons_zero, List.set_cons_succ]
        refine tkW (i := 2) (d := some 26) (v := ?_) rfl rfl (by kernel_rfl) (by kernel_rfl) (by kernel_rfl) (fun _ _ _ h => h) (Or.inl ⟨by rfl, ?_⟩) (by assumption) ?_
        rotate_left
        · intro w hSw; (try dsimp only at hSw); go_simp; try with_reducible rfl
        try simp only [Act.put, List.setIfInBounds_toArray, List.set_cons_zero, List.set_cons_succ]
        refine tkW (i := 3) (d := some 27) (v := undef) rfl rfl (by kernel_rfl) (by kernel_rfl) (by kernel_rfl) (fun _ _ _ h => h) (Or.inr ⟨by rfl, rfl⟩) (by assumption) ?_
        try simp only [Act.put, List.setIfInBounds_toArray, List.set_cons_zero, List.set_cons_succ]
        refine tkW (i := 4) (d := some 28) (v := undef) rfl rfl (by kernel_rfl) (by kernel_rfl) (by kernel_rfl) (fun _ _ _ h => h) (Or.inr ⟨by rfl, rfl⟩) (by assumption) ?_
        try simp only [Act.put, List.setIfInBounds_toArray, List.set_cons_zero, List.set_cons_succ]
        refine tkW (i := 5) (d := some 29) (v := undef) rfl rfl (by kernel_rfl) (by kernel_rfl) (by kernel_rfl) (fun _ _ _ h => h) (Or.inr ⟨by rfl, rfl⟩) (by assumption) ?_
        try simp only [Act.put, List.setIfInBounds_toArray, List.set_cons_zero, List.set_cons_succ]
        refine tkW (i := 6) (d := some 30) (v := undef) rfl rfl (by kernel_rfl) (by kernel_rfl) (by kernel_rfl) (fun _ _ _ h => h) (Or.inr ⟨by rfl, rfl⟩) (by assumption) ?_
        try simp only [Act.put, List.setIfInBounds_toArray, List.set_cons_zero, List.set_cons_succ]
        refine tkW (i := 7) (d := some 31) (v := undef) rfl rfl (by kernel_rfl) (by kernel_rfl) (by kernel_rfl) (fun _ _ _ h => h) (Or.inr ⟨by rfl, rfl⟩) (by assumption) ?_
        try simp only [Act.put, List.setIfInBounds_toArray, List.set_cons_zero, List.set_cons_succ]
        refine tkW (i := 8) (d := some 32) (v := undef) rfl rfl (by kernel_rfl) (by kernel_rfl) (by kernel_rfl) (fun _ _ _ h => h) (Or.inr ⟨by rfl, rfl⟩) (by assumption) ?_
        try simp only [Act.put, List.setIfInBounds_toArray, List.set_cons_zero, List.set_cons_succ]
        refine tkW (i := 9) (d := some 33) (v := undef) rfl rfl (by kernel_rfl) (by kernel_rfl) (by kernel_rfl) (fun _ _ _ h => h) (Or.inr ⟨by rfl, rfl⟩) (by assumption) ?_
        try simp only [Act.put, List.setIfInBounds_toArray, List.set_cons_zero, List.set_cons_succ]
        refine tkW (i := 10) (d := some 34) (v := undef) rfl rfl (by kernel_rfl) (by kernel_rfl) (by kernel_rfl) (fun _ _ _ h => h) (Or.inr ⟨by rfl, rfl⟩) (by assumption) ?_
        try simp only [Act.put, List.setIfInBounds_toArray, List.set_cons_zero, List.set_cons_succ]
        refine tkW (i := 11) (d := some 35) (v := undef) rfl rfl (by kernel_rfl) (by kernel_rfl) (by kernel_rfl) (fun _ _ _ h => h) (Or.inr ⟨by rfl, rfl⟩) (by assumption) ?_
        try simp only [Act.put, List.setIfInBounds_toArray, List.set_cons_zero, List.set_cons_succ]
        refine tkW (i := 12) (d := some 36) (v := undef) rfl rfl (by kernel_rfl) (by kernel_rfl) (by kernel_rfl) (fun _ _ _ h => h) (Or.inr ⟨by rfl, rfl⟩) (by assumption) ?_
        try simp only [Act.put, List.setIfInBounds_toArray, List.set_cons_zero, List.set_cons_succ]
        refine tkW (i := 13) (d := some 37) (v := undef) rfl rfl (by kernel_rfl) (by kernel_rfl) (by kernel_rfl) (fun _ _ _ h => h) (Or.inr ⟨by rfl, rfl⟩) (by assumption) ?_
        try simp only [Act.put, List.setIfInBounds_toArray, List.set_cons_zero, List.set_cons_succ]
        refine tkW (i := 14) (d := some 38) (v := undef) rfl rfl (by kernel_rfl) (by kernel_rfl) (by kernel_rfl) (fun _ _ _ h => h) (Or.inr ⟨by rfl, rfl⟩) (by assumption) ?_
        try simp only [Act.put, List.setIfInBounds_toArray, List.set_cons_zero, List.set_cons_succ]
        refine tkW (i := 15) (d := some 39) (v := ?_) rfl rfl (by kernel_rfl) (by kernel_rfl) (by kernel_rfl) (fun _ _ _ h => h) (Or.inl ⟨by rfl, ?_⟩) (by assumption) ?_
        rotate_left
        · intro w hSw; (try dsimp only at hSw); go_simp; try with_reducible rfl
        try simp only [Act.put, List.setIfInBounds_toArray, List.set_cons_zero, List.set_cons_succ]
        refine wpAnyH_done (by kernel_rfl) ?_ _
        have B1 := hide ((unhide HB).trans ((drewW wr).mono hbs))
        have T1 := hide ((unhide HT3).below (drewW wr))
        clear f0 f1 f2 f3 HB HT3
        generalize wr.drew = y1 at *
        obtain ⟨g0, g1, g2, g3⟩ := (unhide FX) y1 (unhide B1)
        have hsz1 : w1.heap.size + 1 ≤ y1.heap.size := (by have h1 := (unhide B1).size; have h2 := unhide HZB; omega)
        go_wp2_with (at_builtin; refine wpList_appG _ rfl _ _ 24 rfl (w1.heap.size + 1) 2 i0 (.int .i64 0) 1 8 Tryd.underlying24 hi hz0 hz1 hz2 rfl (by decide) _ _ _ rfl (own_atS (unhide T1).o1 (fun q e => Below.heap_alloc _ _ _ ((unhide T1).o1.lt q e).2)) ⟨y1.heap.size, 0, none⟩ 1 1 [.int .i64 (nth (pts s) 0)] rfl rfl (oneV y1 _ 2) (by intro u hu; simp at hu; subst hu; rfl) ?c3 ?c4 ?c5 ?_)
        case c3 => unfold maxLen; omega
        case c4 => omega
        case c5 => simp; omega
        intro v1 y2 hown hgrow hnew
        have T2 := hide ((unhide T1).app1 _ (nth (pts s) 0) hown hgrow (by intro q e; have := hnew q e; simpa using this))
        have B2 := hide ((unhide B1).trans (growB (unhide T1).o1 (by omega) hgrow))
        have hsz2 : w1.heap.size + 1 ≤ y2.heap.size := (by have h1 := (unhide B2).size; have h2 := unhide HZB; omega)
        clear g0 g1 g2 g3 hown hgrow hnew T1 B1
        obtain ⟨g0, g1, g2, g3⟩ := (unhide FX) y2 (unhide B2)
        go_wp2_with (at_builtin; refine wpList_appG _ rfl _ _ 24 rfl (w1.heap.size + 1) 2 i0 (.int .i64 0) 1 8 Tryd.underlying24 hi hz0 hz1 hz2 rfl (by decide) _ _ _ rfl (own_atS (unhide T2).o2 (fun q e => Below.heap_alloc _ _ _ ((unhide T2).o2.lt q e).2)) ⟨y2.heap.size, 0, none⟩ 1 1 [.int .i64 (((steps s 0).2 : Nat) : Int)] rfl rfl (oneV y2 _ 2) (by intro u hu; simp at hu; subst hu; rfl) ?c3 ?c4 ?c5 ?_)
        case c3 => unfold maxLen; omega
        case c4 => omega
        case c5 => simp; omega
        intro v2 y3 hown hgrow hnew
        have T3 := hide ((unhide T2).app2 _ (((steps s 0).2 : Nat) : Int) hown hgrow (by intro q e; have := hnew q e; simpa using this))
        have B3 := hide ((unhide B2).trans (growB (unhide T2).o2 (by omega) hgrow))
        have hsz3 : w1.heap.size + 1 ≤ y3.heap.size := (by have h1 := (unhide B3).size; have h2 := unhide HZB; omega)
        clear g0 g1 g2 g3 hown hgrow hnew T2 B2
        obtain ⟨g0, g1, g2, g3⟩ := (unhide FX) y3 (unhide B3)
        go_wp2_with (at_builtin; refine wpList_appG _ rfl _ _ 42 rfl (w1.heap.size + 1) 4 j0 (.bool false) 1 1 Tryd.underlying42 hj hy0 hy1 hy2 rfl (by decide) _ _ _ rfl (own_atS (unhide T3).o3 (fun q e => Below.heap_alloc _ _ _ ((unhide T3).o3.lt q e).2)) ⟨y3.heap.size, 0, none⟩ 1 1 [.bool true] rfl rfl (oneV y3 _ 4) (by intro u hu; simp at hu; subst hu; rfl) ?c3 ?c4 ?c5 ?_)
        case c3 => unfold maxLen; omega
        case c4 => omega
        case c5 => simp; omega
        intro v3 y5 hown hgrow hnew
        have T5 := hide ((unhide T3).app3 _ true hown hgrow (by intro q e; have := hnew q e; simpa using this))
        have B5 := hide ((unhide B3).trans (growB (unhide T3).o3 (by omega) hgrow))
        clear g0 g1 g2 g3 hown hgrow hnew T3 B3
        have H1 := (unhide HW1) ha
        have H2 := (unhide HW2) ha
        have H3 := (unhide HW3) ha
        rw [hst] at H3
        rw [← H1, ← H2, ← H3] at T5
        clear H1 H2 H3
        go_wp2
        go_roundw
        case rel => exact ⟨1, by omega, rfl, T5, B5⟩
        case measure => simp [intOf]; omega
      · obtain ⟨m, hkm⟩ : ∃ m, k = m + 1 := ⟨k - 1, by omega⟩
        have fm := ((unhide HB).cell (p := ⟨b1, o1 + m, none⟩) hb1b).trans ((unhide HC1) m (by omega))
        have CB := hide (fun W => sBelongs (nth (pts s) k) (nth (pts s) m) W)
        have HBL : Hid (aln (pts s) k = !blg (nth (pts s) k) (nth (pts s) m)) := hide (by have := aln_blg (L := pts s) (k := k) (by omega); rw [show k - 1 = m by omega] at this; exact this)
        have HSC : Hid (stb (pts s) k = charS (pts s) k) := hide (stb_char hlt (by omega))
        have CC := hide (fun W (h : Below (w1.heap.size + 1) wb W) => sChar b1 o1 c1 m (pts s) W ⟨Nat.lt_of_lt_of_le hb1s h.size, fun q hq => (h.cell (p := ⟨b1, o1 + q, none⟩) hb1b).trans ((unhide HC1) q hq)⟩ (by omega) (by omega))
        rw [← hkm, ← unhide HSC] at CC
        have hk1 : (k : Int) - 1 = (m : Int) := by omega
        have h0m : (0 : Int) ≤ (m : Int) := by omega
        have hml : (m : Int) < ((pts s).length : Int) := by omega
        have hkp : (0 : Int) < (k : Int) := by omega
        have hkn : 0 < k := by omega
        have hmn : m < (pts s).length := by omega
        have hk0' : ((k : Int) == 0) = false := by rw [beq_eq_false_iff_ne]; omega
        have hwr : IntKind.i64.wrap (m : Int) = (m : Int) := wrapW _ (by omega) (by omega)
        have HKM := hide hkm
        clear hkm HSC
        go_wp2_with fail
        have KS : (fun w' => w'.cell? ⟨w1.heap.size, 0, none⟩ = some (.slice (some ⟨b1, o1, none⟩) (pts s).length c1) ∧ w'.cell? ⟨b1, o1 + k, none⟩ = some (.int .i64 (nth (pts s) k)) ∧ w'.cell? ⟨b1, o1 + m, none⟩ = some (.int .i64 (nth (pts s) m))) wr := ⟨f0, f2, fm⟩
        refine wp_region_held_drew (S := fun w' => w'.cell? ⟨w1.heap.size, 0, none⟩ = some (.slice (some ⟨b1, o1, none⟩) (pts s).length c1) ∧ w'.cell? ⟨b1, o1 + k, none⟩ = some (.int .i64 (nth (pts s) k)) ∧ w'.cell? ⟨b1, o1 + m, none⟩ = some (.int .i64 (nth (pts s) m))) (by kernel_rfl) (by exact KS) (fun hHeld => ?_)
        refine tkW (i := 0) (d := some 24) (v := ?_) rfl rfl (by kernel_rfl) (by kernel_rfl) (by kernel_rfl) (fun _ _ _ h => h) (Or.inl ⟨by rfl, ?_⟩) (by assumption) ?_
        rotate_left
        · intro w hSw; (try dsimp only at hSw); go_simp; try with_reducible rfl
        try simp only [Act.put, List.setIfInBounds_toArray, List.set_cons_zero, List.set_cons_succ]
        refine tkW (i := 1) (d := some 25) (v := ?_) rfl rfl (by kernel_rfl) (by kernel_rfl) (by kernel_rfl) (fun _ _ _ h => h) (Or.inl ⟨by rfl, ?_⟩) (by assumption) ?_
        rotate_left
        · intro w hSw; (try dsimp only at hSw); go_simp; try with_reducible rfl
        try simp only [Act.put, List.setIfInBounds_toArray, List.set_cons_zero, List.set_cons_succ]
        refine tkW (i := 2) (d := some 26) (v := ?_) rfl rfl (by kernel_rfl) (by kernel_rfl) (by kernel_rfl) (fun _ _ _ h => h) (Or.inl ⟨by rfl, ?_⟩) (by assumption) ?_
        rotate_left
        · intro w hSw; (try dsimp only at hSw); go_simp; try with_reducible rfl
        try simp only [Act.put, List.setIfInBounds_toArray, List.set_cons_zero, List.set_cons_succ]
        refine tkW (i := 3) (d := some 27) (v := ?_) rfl rfl (by kernel_rfl) (by kernel_rfl) (by kernel_rfl) (fun _ _ _ h => h) (Or.inl ⟨by rfl, ?_⟩) (by assumption) ?_
        rotate_left
        · intro w hSw; (try dsimp only at hSw); go_simp; try with_reducible rfl
        try simp only [Act.put, List.setIfInBounds_toArray, List.set_cons_zero, List.set_cons_succ]
        refine tkW (i := 4) (d := some 28) (v := ?_) rfl rfl (by kernel_rfl) (by kernel_rfl) (by kernel_rfl) (fun _ _ _ h => h) (Or.inl ⟨by rfl, ?_⟩) (by assumption) ?_
        rotate_left
        · intro w hSw; (try dsimp only at hSw); go_simp; try with_reducible rfl
        try simp only [Act.put, List.setIfInBounds_toArray, List.set_cons_zero, List.set_cons_succ]
        refine tkW (i := 5) (d := some 29) (v := ?_) rfl rfl (by kernel_rfl) (by kernel_rfl) (by kernel_rfl) (fun _ _ _ h => h) (Or.inl ⟨by rfl, ?_⟩) (by assumption) ?_
        rotate_left
        · intro w hSw; (try dsimp only at hSw); go_simp; try with_reducible rfl
        try simp only [Act.put, List.setIfInBounds_toArray, List.set_cons_zero, List.set_cons_succ]
        refine tkW (i := 6) (d := some 30) (v := ?_) rfl rfl (by kernel_rfl) (by kernel_rfl) (by kernel_rfl) (fun _ _ _ h => h) (Or.inl ⟨by rfl, ?_⟩) (by assumption) ?_
        rotate_left
        · intro w hSw; (try dsimp only at hSw); go_simp; try with_reducible rfl
        try simp only [Act.put, List.setIfInBounds_toArray, List.set_cons_zero, List.set_cons_succ]
        refine tkW (i := 7) (d := some 31) (v := ?_) rfl rfl (by kernel_rfl) (by kernel_rfl) (by kernel_rfl) (fun _ _ _ h => h) (Or.inl ⟨by rfl, ?_⟩) (by assumption) ?_
        rotate_left
        · intro w hSw; (try dsimp only at hSw); go_simp; try with_reducible rfl
        try simp only [Act.put, List.setIfInBounds_toArray, List.set_cons_zero, List.set_cons_succ]
        refine tkW (i := 8) (d := some 32) (v := ?_) rfl rfl (by kernel_rfl) (by kernel_rfl) (by kernel_rfl) (fun _ _ _ h => h) (Or.inl ⟨by rfl, ?_⟩) (by assumption) ?_
        rotate_left
        · intro w hSw; (try dsimp only at hSw); go_simp; try with_reducible rfl
        try simp only [Act.put, List.setIfInBounds_toArray, List.set_cons_zero, List.set_cons_succ]
        refine tkW (i := 9) (d := some 33) (v := ?_) rfl rfl (by kernel_rfl) (by kernel_rfl) (by kernel_rfl) (fun _ _ _ h => h) (Or.inl ⟨by rfl, ?_⟩) (by assumption) ?_
        rotate_left
        · intro w hSw; (try dsimp only at hSw); go_simp; try with_reducible rfl
        try simp only [Act.put, List.setIfInBounds_toArray, List.set_cons_zero, List.set_cons_succ]
        refine tkW (i := 10) (d := some 34) (v := ?_) rfl rfl (by kernel_rfl) (by kernel_rfl) (by kernel_rfl) (fun _ _ _ h => h) (Or.inl ⟨by rfl, ?_⟩) (by assumption) ?_
        rotate_left
        · intro w hSw; (try dsimp only at hSw); go_simp; try with_reducible rfl
        try simp only [Act.put, List.setIfInBounds_toArray, List.set_cons_zero, List.set_cons_succ]
        refine tkW (i := 11) (d := some 35) (v := ?_) rfl rfl (by kernel_rfl) (by kernel_rfl) (by kernel_rfl) (fun _ _ _ h => h) (Or.inl ⟨by rfl, ?_⟩) (by assumption) ?_
        rotate_left
        · intro w hSw; (try dsimp only at hSw); go_simp; try with_reducible rfl
        try simp only [Act.put, List.setIfInBounds_toArray, List.set_cons_zero, List.set_cons_succ]
        refine tkW (i := 12) (d := some 36) (v := ?_) rfl rfl (by kernel_rfl) (by kernel_rfl) (by kernel_rfl) (fun _ _ _ h => h) (Or.inl ⟨by rfl, ?_⟩) (by assumption) ?_
        rotate_left
        · intro w hSw; (try dsimp only at hSw); go_simp; try with_reducible rfl
        try simp only [Act.put, List.setIfInBounds_toArray, List.set_cons_zero, List.set_cons_succ]
        refine tkW (i := 13) (d := some 37) (v := ?_) rfl rfl (by kernel_rfl) (by kernel_rfl) (by kernel_rfl) (fun _ _ _ h => h) (Or.inl ⟨by rfl, ?_⟩) (by assumption) ?_
        rotate_left
        · intro w hSw; (try dsimp only at hSw); go_simp; try with_reducible rfl
        try simp only [Act.put, List.setIfInBounds_toArray, List.set_cons_zero, List.set_cons_succ]
        refine wpAnyH_ready (rs := [14]) (by kernel_rfl) (by simp) (AllReadyH.cons rfl (fun K hK => ?_) AllReadyH.nil)
        go_simp
        go_at_call 33
        refine ((unhide CB) _).mono ?_
        rintro e y1 ⟨rfl, hb1⟩
        have B1 := hide ((unhide HB).trans (((drewW wr).trans (hb1.mono (Nat.le_refl _))).mono hbs))
        have T1 := hide ((unhide HT3).below ((drewW wr).trans (hb1.mono (Nat.le_refl _))))
        obtain ⟨g0, g1, g2, g3⟩ := (unhide FX) y1 (unhide B1)
        have gm := ((unhide B1).cell (p := ⟨b1, o1 + m, none⟩) hb1b).trans ((unhide HC1) m hmn)
        clear hb1
        try go_wp2_with fail
        refine hK.out _ _ ⟨g0, g2, gm⟩ (fun hHeld8 => ?_)
        clear hK K
        try simp only [Act.put, List.setIfInBounds_toArray, List.set_cons_zero, List.set_cons_succ]
        refine tkW (i := 15) (d := some 39) (v := ?_) rfl rfl (by kernel_rfl) (by kernel_rfl) (by kernel_rfl) (fun _ _ _ h => h) (Or.inl ⟨by rfl, ?_⟩) (by assumption) ?_
        rotate_left
        · intro w hSw; (try dsimp only at hSw); go_simp; try with_reducible rfl
        try simp only [Act.put, List.setIfInBounds_toArray, List.set_cons_zero, List.set_cons_succ]
        refine wpAnyH_done (by kernel_rfl) ?_ _
        clear hwr hk1 fm f0 f1 f2 f3
        cases hbl : blg (nth (pts s) k) (nth (pts s) m) with
        | true =>
          have ha : aln (pts s) k = false := by rw [unhide HBL, hbl]; rfl
          obtain ⟨r1, r2, r3⟩ := (unhide HW4) ha
          rw [← r1, ← r2, ← r3] at T1
          clear r1 r2 r3 hbl
          go_wp2
          go_roundw
          case rel => exact ⟨k + 1, by omega, by go_num, T1, B1⟩
          case measure => simp [intOf]; omega
        | false =>
          have ha : aln (pts s) k = true := by rw [unhide HBL, hbl]; rfl
          clear hbl
          have hsz1 : w1.heap.size + 1 ≤ y1.heap.size := (by have h1 := (unhide B1).size; have h2 := unhide HZB; omega)
          go_wp2_with (at_builtin; refine wpList_appG _ rfl _ _ 24 rfl (w1.heap.size + 1) 2 i0 (.int .i64 0) 1 8 Tryd.underlying24 hi hz0 hz1 hz2 rfl (by decide) _ _ _ rfl (own_atS (unhide T1).o1 (fun q e => Below.heap_alloc _ _ _ ((unhide T1).o1.lt q e).2)) ⟨y1.heap.size, 0, none⟩ 1 1 [.int .i64 (nth (pts s) k)] rfl rfl (oneV y1 _ 2) (by intro u hu; simp at hu; subst hu; rfl) ?c3 ?c4 ?c5 ?_)
          case c3 => unfold maxLen; omega
          case c4 => omega
          case c5 => simp; omega
          intro v1 y2 hown hgrow hnew
          have T2 := hide ((unhide T1).app1 _ (nth (pts s) k) hown hgrow (by intro q e; have := hnew q e; simpa using this))
          have B2 := hide ((unhide B1).trans (growB (unhide T1).o1 (by omega) hgrow))
          have hsz2 : w1.heap.size + 1 ≤ y2.heap.size := (by have h1 := (unhide B2).size; have h2 := unhide HZB; omega)
          clear g0 g1 g2 g3 hown hgrow hnew T1 B1
          obtain ⟨g0, g1, g2, g3⟩ := (unhide FX) y2 (unhide B2)
          go_wp2_with (at_builtin; refine wpList_appG _ rfl _ _ 24 rfl (w1.heap.size + 1) 2 i0 (.int .i64 0) 1 8 Tryd.underlying24 hi hz0 hz1 hz2 rfl (by decide) _ _ _ rfl (own_atS (unhide T2).o2 (fun q e => Below.heap_alloc _ _ _ ((unhide T2).o2.lt q e).2)) ⟨y2.heap.size, 0, none⟩ 1 1 [.int .i64 (((steps s k).2 : Nat) : Int)] rfl rfl (oneV y2 _ 2) (by intro u hu; simp at hu; subst hu; rfl) ?c3 ?c4 ?c5 ?_)
          case c3 => unfold maxLen; omega
          case c4 => omega
          case c5 => simp; omega
          intro v2 y3 hown hgrow hnew
          have T3 := hide ((unhide T2).app2 _ (((steps s k).2 : Nat) : Int) hown hgrow (by intro q e; have := hnew q e; simpa using this))
          have B3 := hide ((unhide B2).trans (growB (unhide T2).o2 (by omega) hgrow))
          have hsz3 : w1.heap.size + 1 ≤ y3.heap.size := (by have h1 := (unhide B3).size; have h2 := unhide HZB; omega)
          clear g0 g1 g2 g3 hown hgrow hnew T2 B2
          obtain ⟨g0, g1, g2, g3⟩ := (unhide FX) y3 (unhide B3)
          go_wp2_with (first
            | (go_at_call 34; refine ((unhide CC) _ (unhide B3)).mono ?_; rintro e y4 ⟨rfl, hb4⟩; have T4 := hide ((unhide T3).below hb4); have B4 := hide ((unhide B3).trans (hb4.mono hsz3)); have hsz4 : w1.heap.size + 1 ≤ y4.heap.size := (by have h1 := (unhide B4).size; have h2 := unhide HZB; omega); clear hb4)
            | (at_builtin; refine wpList_appG _ rfl _ _ 42 rfl (w1.heap.size + 1) 4 j0 (.bool false) 1 1 Tryd.underlying42 hj hy0 hy1 hy2 rfl (by decide) _ _ _ rfl (own_atS (unhide T4).o3 (fun q e => Below.heap_alloc _ _ _ ((unhide T4).o3.lt q e).2)) ⟨y4.heap.size, 0, none⟩ 1 1 [.bool (stb (pts s) k)] rfl rfl (oneV y4 _ 4) (by intro u hu; simp at hu; subst hu; rfl) ?c3 ?c4 ?c5 ?_))
          case c3 => unfold maxLen; omega
          case c4 => omega
          case c5 => simp; omega
          intro v3 y5 hown hgrow hnew
          have T5 := hide ((unhide T4).app3 _ (stb (pts s) k) hown hgrow (by intro q e; have := hnew q e; simpa using this))
          have B5 := hide ((unhide B4).trans (growB (unhide T4).o3 (by omega) hgrow))
          clear g0 g1 g2 g3 hown hgrow hnew T4 B4
          have H1 := (unhide HW1) ha
          have H2 := (unhide HW2) ha
          have H3 := (unhide HW3) ha
          rw [← H1, ← H2, ← H3] at T5
          clear H1 H2 H3
          go_wp2
          go_roundw
          case rel => exact ⟨k + 1, by omega, by go_num, T5, B5⟩
          case measure => simp [intOf]; omega
    · have hkn : k = (pts s).length := by omega
      subst hkn
      have hlt' : ¬ ((pts s).length : Int) < ((pts s).length : Int) := by omega
      obtain ⟨x0, x1, _, _⟩ := Chr.two_cells N1
      have f0 := ((unhide HB).cell (p := ⟨w1.heap.size, 0, none⟩) (by show w1.heap.size < _; omega)).trans x0
      obtain ⟨wo, rfl⟩ : ∃ wo : World, wo = wr := ⟨wr, rfl⟩
      obtain ⟨hm1, hm2, hm3⟩ := len3 s (pts s) (pts s).length
      have hA6 := alA_len (pts s)
      have hAz : (alk (pts s) (pts s).length).length = (alA (pts s)).length := rfl
      obtain ⟨ra, rc, h6, _⟩ := owned_atW (unhide HT3).o1
      obtain ⟨rb, rd, h7, _⟩ := owned_atW (unhide HT3).o2
      obtain ⟨re, rf, h8⟩ : ∃ a c, u8 = .slice a (ch3 (pts s) (pts s).length).length c := by
        rcases (unhide HT3).o3.2 with ⟨e, hz⟩ | ⟨g, c, _, e, _⟩
        · exact ⟨_, _, by rw [e, hz]⟩
        · exact ⟨_, _, e⟩
      rw [hm1, hAz] at h6
      rw [hm2, hAz] at h7
      rw [hm3, hAz] at h8
      subst h6 h7 h8
      have O0 : Hid ((wo.alloc (.cells #[] 2)).ownsRow wo.heap.size 2 1 (.slice (some ⟨wo.heap.size, 0, none⟩) 0 0) (outk s T 0).length ((outk s T 0).map (Value.int .i64))) := hide (World.ownsRow_lit wo #[] 0 (Nat.le_refl _) (by unfold maxLen; omega) rfl)
      have Z0 := hide ((Below.refl wo.heap.size wo).alloc (Nat.le_refl _) (.cells #[] 2))
      have BW := hide ((unhide BB).trans ((unhide HB).mono (by omega)))
      have hwo := (unhide BW).size
      have HOL : Hid (ow3 (pts s) (pts s).length = ownL (pts s)) := hide rfl
      clear x0 x1 hm1 hm2 hm3 hAz
      go_wp2
      go_loopw [10, 11] (fun ov iv wx => ∃ i : Nat, i ≤ (alA (pts s)).length ∧ iv = .int .i64 (i : Int) ∧ Hid (wx.ownsRow wo.heap.size 2 1 ov (outk s T i).length ((outk s T i).map (Value.int .i64))) ∧ Hid (Below wo.heap.size wo wx)) (fun _ iv _ => (alA (pts s)).length - (intOf iv).toNat)
      case atStart => exact ⟨0, Nat.zero_le _, rfl, O0, Z0⟩
      case round =>
        obtain ⟨i, hil, rfl, HO, HX⟩ := hrel
        clear O0 Z0 f0
        have hol := outk_len s T i
        have T1 := (unhide HT3).below (unhide HX)
        by_cases hlt2 : i < (alA (pts s)).length
        · have hlt2' : (i : Int) < ((alA (pts s)).length : Int) := by omega
          have h0i : (0 : Int) ≤ (i : Int) := by omega
          obtain ⟨b7, o7, c7, h7, hb7s, hc7⟩ := ints_at (owned_atW T1.o2) (by rw [(len3 s (pts s) (pts s).length).2.1]; exact Nat.lt_of_le_of_lt (Nat.zero_le _) hlt2)
          injection h7 with e1 e0 e2
          subst e1 e2
          clear e0
          have p7 := hc7 i (by rw [(len3 s (pts s) (pts s).length).2.1]; exact hlt2)
          rw [at3_nth s i hlt2] at p7
          have HOK : Hid (outk s T (i + 1) = outk s T i ++ (if cst (pts s) T i = true then [((steps s (nth (alA (pts s)) i).toNat).2 : Int)] else [])) := hide rfl
          obtain ⟨y, hy⟩ : ∃ y, y = (steps s (nth (alA (pts s)) i).toNat).2 := ⟨_, rfl⟩
          rw [← hy] at p7 HOK
          clear hc7 hy
          by_cases hi0 : i = 0
          · subst hi0
            have p7' := p7
            rw [Nat.add_zero] at p7'
            rw [show cst (pts s) T 0 = true from rfl, if_pos rfl] at HOK
            clear p7
            go_wp2_with (at_builtin; refine wpList_append_own _ rfl _ _ 24 rfl wo.heap.size 2 i0 (.int .i64 0) 1 8 Tryd.underlying24 hi hz0 hz1 hz2 rfl (by decide) _ _ _ rfl (own_atS (unhide HO) (fun q e => Below.heap_alloc _ _ _ ((unhide HO).lt q e).2)) ⟨wr.heap.size, 0, none⟩ 1 1 [.int .i64 (y : Int)] rfl rfl (oneV wr _ 2) (by intro u hu; simp at hu; subst hu; rfl) (by unfold maxLen; omega) (by omega) (by have := (unhide HX).size; simp; omega) ?_)
            intro v' y5 hown hgrow _
            have O5 : Hid (y5.ownsRow wo.heap.size 2 1 v' (outk s T (0 + 1)).length ((outk s T (0 + 1)).map (Value.int .i64))) := hide (by rw [unhide HOK, List.length_append, List.map_append]; exact hown)
            have B5 := hide ((unhide HX).trans (growB (unhide HO) (unhide HX).size hgrow))
            clear hown hgrow
            go_wp2
            go_roundw
            case rel => exact ⟨1, by omega, rfl, O5, B5⟩
            case measure => simp [intOf]; omega
          · obtain ⟨m, hm⟩ : ∃ m, i = m + 1 := ⟨i - 1, by omega⟩
            have hi0' : ((i : Int) == 0) = false := by rw [beq_eq_false_iff_ne]; omega
            have h8 := T1.o3
            rw [(len3 s (pts s) (pts s).length).2.2] at h8
            obtain ⟨g8, c8, hv8⟩ : ∃ g c, Value.slice re (alA (pts s)).length rf = .slice (some ⟨g, 0, none⟩) (alA (pts s)).length c := by
              rcases h8.2 with ⟨e, hz⟩ | ⟨g, c, _, e, _⟩
              · have : (alk (pts s) (pts s).length).length = (alA (pts s)).length := rfl
                omega
              · exact ⟨g, c, e⟩
            injection hv8 with e3 e5 e4
            subst e3 e4
            clear e5
            have p8 : wr.cell? ⟨g8, i, none⟩ = some (.bool (chA (pts s) i)) := (h8.cellAt i (by omega)).trans (ch3_nth i hlt2)
            have C8 := hide (wcutS _ (ownL (pts s)) m (chA (pts s) i) vt T wr (owned_atW (l := ownL (pts s)) T1.o1) (by rw [ownL_len]; omega) (by rw [ownL_len]; omega) ((unhide HTL).below ((unhide BW).trans ((unhide HX).mono hwo))) hT)
            rw [← hm] at C8
            have HCI : Hid (cutW T (plc (ownL (pts s)) i (chA (pts s) i)) = cst (pts s) T i) := hide (by unfold cst; rw [show (i == 0) = false by rw [beq_eq_false_iff_ne]; omega, Bool.false_or])
            rw [unhide HCI] at C8
            have HMI := hide hm
            clear HCI h8 hm
            cases hct : cst (pts s) T i with
            | true =>
              rw [hct] at C8 HOK
              rw [if_pos rfl] at HOK
              clear hct
              go_wp2_with (first
                | (go_at_call 35; refine (unhide C8).mono ?_; rintro e y4 ⟨rfl, hb4⟩; have O4 := hide (own_atS (unhide HO) (fun q e => hb4.block q ((unhide HO).lt q e).2)); have X4 := hide ((unhide HX).trans (hb4.mono (unhide HX).size)); have q7 := (hb4.cell (p := ⟨b7, o7 + i, none⟩) hb7s).trans p7; clear hb4)
                | (at_builtin; refine wpList_append_own _ rfl _ _ 24 rfl wo.heap.size 2 i0 (.int .i64 0) 1 8 Tryd.underlying24 hi hz0 hz1 hz2 rfl (by decide) _ _ _ rfl (own_atS (unhide O4) (fun q e => Below.heap_alloc _ _ _ ((unhide O4).lt q e).2)) ⟨y4.heap.size, 0, none⟩ 1 1 [.int .i64 (y : Int)] rfl rfl (oneV y4 _ 2) (by intro u hu; simp at hu; subst hu; rfl) (by unfold maxLen; omega) (by omega) (by have := (unhide X4).size; simp; omega) ?_))
              intro v' y5 hown hgrow _
              have O5 : Hid (y5.ownsRow wo.heap.size 2 1 v' (outk s T (i + 1)).length ((outk s T (i + 1)).map (Value.int .i64))) := hide (by rw [unhide HOK, List.length_append, List.map_append]; exact hown)
              have B5 := hide ((unhide X4).trans (growB (unhide O4) (unhide X4).size hgrow))
              clear hown hgrow
              go_wp2
              go_roundw
              case rel => exact ⟨i + 1, by omega, by go_num, O5, B5⟩
              case measure => simp [intOf]; omega
            | false =>
              rw [hct] at C8 HOK
              rw [if_neg Bool.false_ne_true, List.append_nil] at HOK
              rw [← unhide HOK] at HO
              clear hct
              go_wp2_with (first
                | (go_at_call 35; refine (unhide C8).mono ?_; rintro e y4 ⟨rfl, hb4⟩; have O4 := hide (own_atS (unhide HO) (fun q e => hb4.block q ((unhide HO).lt q e).2)); have X4 := hide ((unhide HX).trans (hb4.mono (unhide HX).size)); have q7 := (hb4.cell (p := ⟨b7, o7 + i, none⟩) hb7s).trans p7; clear hb4))
              go_roundw
              case rel => exact ⟨i + 1, by omega, by go_num, O4, X4⟩
              case measure => simp [intOf]; omega
        · have hin : i = (alA (pts s)).length := by omega
          subst hin
          have hlt2' : ¬ ((alA (pts s)).length : Int) < ((alA (pts s)).length : Int) := by omega
          have BZ := hide ((unhide BW).trans ((unhide HX).mono hwo))
          have HWC : Hid (wcA s T = outk s T (alA (pts s)).length ++ (if 0 < s.size then [(s.size : Int)] else [])) := hide rfl
          by_cases hs0 : 0 < s.size
          · have hs0' : (0 : Int) < (s.size : Int) := by omega
            rw [if_pos hs0] at HWC
            go_wp2_with (at_builtin; refine wpList_append_own _ rfl _ _ 24 rfl wo.heap.size 2 i0 (.int .i64 0) 1 8 Tryd.underlying24 hi hz0 hz1 hz2 rfl (by decide) _ _ _ rfl (own_atS (unhide HO) (fun q e => Below.heap_alloc _ _ _ ((unhide HO).lt q e).2)) ⟨wr.heap.size, 0, none⟩ 1 1 [.int .i64 (s.size : Int)] rfl rfl (oneV wr _ 2) (by intro u hu; simp at hu; subst hu; rfl) (by unfold maxLen; omega) (by omega) (by have := (unhide HX).size; simp; omega) ?_)
            intro v' y5 hown hgrow _
            have I5 : Hid (IntsAt y5 v' (wcA s T)) := hide (owned_atW (by rw [unhide HWC, List.map_append]; exact hown))
            have B5 := hide ((unhide BW).trans (((unhide HX).trans (growB (unhide HO) (unhide HX).size hgrow)).mono hwo))
            clear hown hgrow
            go_wp2
            go_ret
            exact ⟨_, rfl, unhide I5, unhide B5⟩
          · have hs0' : ¬ (0 : Int) < (s.size : Int) := by omega
            rw [if_neg hs0, List.append_nil] at HWC
            have I5 : Hid (IntsAt wr _ (wcA s T)) := hide (by rw [unhide HWC]; exact owned_atW (unhide HO))
            go_wp2
            go_ret
            exact ⟨_, rfl, unhide I5, unhide BZ⟩
end Wrd
end Go.Proofs.YtdgafmhjbgddkaaDoor
/- WordCuts of the program and of the specification. -/
namespace Go.Proofs.YtdgafmhjbgddkaaDoor
namespace Wrd
open Go.RowKit
open Chr (cutsL BoolsAt cutsAhead_any cutsNil own_mono)
set_option linter.unusedVariables false
/-- What WordCuts answers. -/
def wcO (s : ByteArray) (T : List Tl) : List Int := if 65536 < s.size ∨ 1000 < T.length then [] else wcA s T
theorem wcO_le (s : ByteArray) (T : List Tl) : (wcO s T).length ≤ 65537 := by
  unfold wcO
  split
  · simp
  · rename_i h
    unfold wcA
    have h1 := outk_len s T (alA (pts s)).length
    have h2 := alA_len (pts s)
    have h3 := pts_le s
    rw [List.length_append]
    split <;> simp <;> omega
set_option maxRecDepth 100000 in
set_option maxHeartbeats 4000000 in
theorem implWC (s : ByteArray) (vt : Value) (T : List Tl) (w : World) (ht : TabAt w) (hs : s.size ≤ 1048576) (htl : TlAt w vt T) (hT : T.length ≤ 1048576) :
    Calls Tryd.prog 8 #[.string s, vt] w fun e w' => ∃ v, e = .returned v ∧ w'.ownsRow w.heap.size 2 1 v (wcO s T).length ((wcO s T).map (Value.int .i64)) ∧ Below w.heap.size w w' := by
  have HT := hide ht
  have HTL := hide htl
  obtain ⟨ta, tc, rfl, _⟩ := htl
  clear ht
  by_cases h1000 : 1000 < T.length
  · have h' : (1000 : Int) < (T.length : Int) := by omega
    have e : wcO s T = [] := if_pos (.inr h1000)
    rw [e]
    clear e
    go_enter Tryd.func8, Tryd.ntmps8
    go_wp2
    go_ret
    exact ⟨_, rfl, World.ownsRow_nil _ _ _ _, Below.refl _ _⟩
  · have h' : ¬ (1000 : Int) < (T.length : Int) := by omega
    have CP := hide (fun W => implPointsOf s W hs)
    have CS := hide (fun v W h1 h2 h3 => startsW v (ptsOut s) (.slice ta T.length tc) T W h1 (ptsOut_le s) h2 h3 hT)
    by_cases hb : 65536 < s.size
    · have e : ptsOut s = [] := by unfold ptsOut; rw [if_pos hb]
      have e2 : wcO s T = [] := if_pos (.inl hb)
      rw [e] at CP CS
      rw [e2]
      clear e e2
      go_enter Tryd.func8, Tryd.ntmps8
      go_wp2_with (first
        | (go_at_call 23; refine ((unhide CP) _).mono ?_; rintro e w1 ⟨v1, rfl, ho1, hb1⟩; have B1 := hide hb1; have O1 := hide ho1; clear ho1 hb1)
        | (go_at_call 22; refine ((unhide CS) _ _ (IntsAt.owned (unhide O1)) ((unhide HT).below (unhide B1)) ((unhide HTL).below (unhide B1))).mono ?_; rintro e w2 ⟨g, rfl, hh2, hb2⟩; have B2 := hide ((unhide B1).trans (hb2.mono (unhide B1).size)); clear hb2 hh2)
        | (go_at_call 21; refine (cutsNil s _ _ _).mono ?_; rintro e w3 ⟨v3, rfl, ho3, hb3⟩; have O3 := hide (own_mono ho3 (unhide B2).size); have B3 := hide ((unhide B2).trans (hb3.mono (unhide B2).size)); clear ho3 hb3))
      go_ret
      exact ⟨_, rfl, unhide O3, unhide B3⟩
    · have e : ptsOut s = pts s := by unfold ptsOut; rw [if_neg hb]
      have e2 : wcO s T = cutsL s (wB (pts s) T (alA (pts s)).length) := by rw [cuts_wcA]; exact if_neg (fun h => h.elim hb h1000)
      rw [e] at CP CS
      rw [e2]
      have CC := hide (fun g c W h => cutsAhead_any s g c (wB (pts s) T (alA (pts s)).length) W (by omega) (wB_len _ _ _) h)
      rw [wB_len] at CC
      clear e e2
      go_enter Tryd.func8, Tryd.ntmps8
      go_wp2_with (first
        | (go_at_call 23; refine ((unhide CP) _).mono ?_; rintro e w1 ⟨v1, rfl, ho1, hb1⟩; have B1 := hide hb1; have O1 := hide ho1; clear ho1 hb1)
        | (go_at_call 22; refine ((unhide CS) _ _ (IntsAt.owned (unhide O1)) ((unhide HT).below (unhide B1)) ((unhide HTL).below (unhide B1))).mono ?_; rintro e w2 ⟨g, rfl, hh2, hb2⟩; have B2 := hide ((unhide B1).trans (hb2.mono (unhide B1).size)); have H2 := hide hh2; clear hb2 hh2)
        | (go_at_call 21; refine ((unhide CC) _ _ _ (unhide H2)).mono ?_; rintro e w3 ⟨v3, rfl, ho3, hb3⟩; have O3 := hide (own_mono ho3 (unhide B2).size); have B3 := hide ((unhide B2).trans (hb3.mono (unhide B2).size)); clear ho3 hb3))
      go_ret
      exact ⟨_, rfl, unhide O3, unhide B3⟩
set_option maxRecDepth 100000 in
theorem specWC (s : ByteArray) (vt : Value) (T : List Tl) (w : World) (hs : s.size ≤ 1048576) (htl : TlAt w vt T) (hT : T.length ≤ 1048576) :
    Calls Tryd.prog 6 #[.string s, vt] w fun e w' => ∃ v, e = .returned v ∧ IntsAt w' v (wcO s T) ∧ Below w.heap.size w w' := by
  have CS := hide (fun h => wordsS s vt T w h htl hT)
  obtain ⟨ta, tc, rfl, _⟩ := htl
  by_cases hb : 65536 < s.size
  · have hb' : (65536 : Int) < (s.size : Int) := by omega
    have HE := hide (show wcO s T = [] from if_pos (.inl hb))
    clear CS
    go_enter Tryd.func6, Tryd.ntmps6
    go_wp2
    go_ret
    refine ⟨_, rfl, ?_, (Below.refl _ _).alloc (Nat.le_refl _) _⟩
    rw [unhide HE]
    exact ⟨_, _, rfl, .inl rfl⟩
  · have hb' : ¬ (65536 : Int) < (s.size : Int) := by omega
    by_cases h1000 : 1000 < T.length
    · have h' : (1000 : Int) < (T.length : Int) := by omega
      have HE := hide (show wcO s T = [] from if_pos (.inr h1000))
      clear CS
      go_enter Tryd.func6, Tryd.ntmps6
      go_wp2
      go_ret
      refine ⟨_, rfl, ?_, (Below.refl _ _).alloc (Nat.le_refl _) _⟩
      rw [unhide HE]
      exact ⟨_, _, rfl, .inl rfl⟩
    · have h' : ¬ (1000 : Int) < (T.length : Int) := by omega
      have HE := hide (show wcO s T = wcA s T from if_neg (fun h => h.elim hb h1000))
      have C2 := hide ((unhide CS) (by omega))
      clear CS
      go_enter Tryd.func6, Tryd.ntmps6
      go_wp2_with (go_at_call 19; refine (unhide C2).mono ?_; rintro e w1 ⟨v1, rfl, hv1, hb1⟩; have B1 := hide hb1; have I1 := hide hv1; clear hv1 hb1)
      go_ret
      exact ⟨_, rfl, by rw [unhide HE]; exact unhide I1, unhide B1⟩
end Wrd
end Go.Proofs.YtdgafmhjbgddkaaDoor
