/- The specification's table of what is best from each place on, and the cut that it makes. -/
import Derived.Test.YtjcgchmncgihbaaDoorMFP
import Derived.Test.YtjcgchmncgihbaaDoorChrW
import Derived.Deep.Cut
import Derived.Deep.CutRange
import Derived.Deep.RegionHeld3
namespace Go.Proofs.YtjcgchmncgihbaaDoor
namespace Fw
open Go.RowKit
set_option linter.unusedVariables false
theorem makeF (n : Nat) (hn : n ≤ 65537) (W : World) : (Instr.makeSlice 50 (.int .i64 (n : Int)) (.int .i64 (n : Int))).run Tryd.prog W = .ok (.slice (some ⟨W.heap.size, 0, none⟩) n n) (W.alloc (.cells (Array.replicate n (Value.int .i64 0)) 3)) := by
  obtain ⟨i0, hi, hz0, hz1, hz2⟩ := info_parts info3
  have := run_makeSlice (P := Tryd.prog) W 50 3 i0 (.int .i64 0) Tryd.underlying50 hi hz0 .i64 .i64 (n : Int) (n : Int) (by omega) (Int.le_refl _) (by rw [hz1]; omega) (by rw [hz2]; omega) (by omega)
  have e : madeCells #[Value.int .i64 0] n = Array.replicate n (Value.int .i64 0) := by
    apply Array.toList_inj.1
    rw [toList_madeCells_one]
    simp
  rw [hz1] at this
  simp only [Int.toNat_natCast, Nat.mul_one] at this
  rw [← e]
  exact this
theorem nth_set (L : List Int) (i : Nat) (x : Int) (j : Nat) : nth (L.set i x) j = if j = i ∧ i < L.length then x else nth L j := by
  unfold nth
  rw [List.getD_eq_getElem?_getD, List.getD_eq_getElem?_getD, List.getElem?_set]
  by_cases h : i = j
  · subst h
    by_cases h2 : i < L.length
    · simp [h2]
    · simp [h2]
  · rw [if_neg h, if_neg (fun e => h e.1.symm)]
/-- The box of the row, and the two tables behind it. -/
structure Sf (w wr : World) (v1 v2 : Value) (C F : List Int) : Prop where
  box : wr.heap[w.heap.size]? = some (.cells #[v1, v2] 53 (0, 0))
  co : wr.heap[w.heap.size + 1]? = some (.cells (C.map (Value.int .i64)).toArray 3 (0, 0))
  fi : wr.heap[w.heap.size + 2]? = some (.cells (F.map (Value.int .i64)).toArray 3 (0, 0))
  bel : Below w.heap.size w wr
theorem cell_of {W : World} {g : Nat} {C : List Int} {t : TypeId} (h : W.heap[g]? = some (.cells (C.map (Value.int .i64)).toArray t (0, 0))) {j : Nat} (hj : j < C.length) : W.cell? ⟨g, j, none⟩ = some (.int .i64 (nth C j)) ∧ W.frozen? ⟨g, j, none⟩ = false := by
  refine ⟨?_, by simp [World.frozen?, h]⟩
  have e : nth C j = C[j] := by unfold nth; rw [List.getD_eq_getElem?_getD, List.getElem?_eq_getElem hj]; rfl
  rw [e]
  simp [World.cell?, h, hj]
theorem Sf.boxes {w wr : World} {v1 v2 : Value} {C F : List Int} (h : Sf w wr v1 v2 C F) : wr.cell? ⟨w.heap.size, 0, none⟩ = some v1 ∧ wr.cell? ⟨w.heap.size, 1, none⟩ = some v2 := ⟨(Chr.two_cells h.box).1, (Chr.two_cells h.box).2.1⟩
theorem Sf.putC {w wr : World} {v1 v2 : Value} {C F : List Int} (h : Sf w wr v1 v2 C F) (k : Nat) (x : Int) : Sf w (wr.setCell ⟨w.heap.size + 1, k, none⟩ (.int .i64 x)) v1 v2 (C.set k x) F := by
  refine ⟨(heap_setCell_other wr ⟨w.heap.size + 1, k, none⟩ _ _ (by show w.heap.size ≠ w.heap.size + 1; omega)).trans h.box, ?_, (heap_setCell_other wr ⟨w.heap.size + 1, k, none⟩ _ _ (by show w.heap.size + 2 ≠ w.heap.size + 1; omega)).trans h.fi, h.bel.setCell (p := ⟨w.heap.size + 1, k, none⟩) (by show w.heap.size ≤ w.heap.size + 1; omega) _⟩
  have := heap_setCell_same wr (w.heap.size + 1) k _ 3 (.int .i64 x) h.co
  rw [List.map_set]
  simpa using this
theorem Sf.putF {w wr : World} {v1 v2 : Value} {C F : List Int} (h : Sf w wr v1 v2 C F) (k : Nat) (x : Int) : Sf w (wr.setCell ⟨w.heap.size + 2, k, none⟩ (.int .i64 x)) v1 v2 C (F.set k x) := by
  refine ⟨(heap_setCell_other wr ⟨w.heap.size + 2, k, none⟩ _ _ (by show w.heap.size ≠ w.heap.size + 2; omega)).trans h.box, (heap_setCell_other wr ⟨w.heap.size + 2, k, none⟩ _ _ (by show w.heap.size + 1 ≠ w.heap.size + 2; omega)).trans h.co, ?_, h.bel.setCell (p := ⟨w.heap.size + 2, k, none⟩) (by show w.heap.size ≤ w.heap.size + 2; omega) _⟩
  have := heap_setCell_same wr (w.heap.size + 2) k _ 3 (.int .i64 x) h.fi
  rw [List.map_set]
  simpa using this
theorem Sf.first (w : World) (v1 v2 : Value) (n : Nat) : Sf w (((w.alloc (.cells #[v1, v2] 53)).alloc (.cells (Array.replicate n (Value.int .i64 0)) 3)).alloc (.cells (Array.replicate n (Value.int .i64 0)) 3)) v1 v2 (List.replicate n 0) (List.replicate n 0) := by
  have e1 : (w.alloc (.cells #[v1, v2] 53)).heap.size = w.heap.size + 1 := by simp
  have e2 : ((w.alloc (.cells #[v1, v2] 53)).alloc (.cells (Array.replicate n (Value.int .i64 0)) 3)).heap.size = w.heap.size + 2 := by simp
  have hb := ((((Below.refl w.heap.size w).alloc (Nat.le_refl _) (.cells #[v1, v2] 53)).alloc (by omega) (.cells (Array.replicate n (Value.int .i64 0)) 3)).alloc (by omega) (.cells (Array.replicate n (Value.int .i64 0)) 3))
  refine ⟨?_, ?_, ?_, hb⟩
  · rw [heap_alloc_old _ _ (by omega), heap_alloc_old _ _ (by omega)]
    exact heap_alloc_last w _
  · rw [heap_alloc_old _ _ (by omega)]
    have := heap_alloc_last (w.alloc (.cells #[v1, v2] 53)) (.cells (Array.replicate n (Value.int .i64 0)) 3)
    rw [e1] at this
    rw [this]
    simp
  · have := heap_alloc_last ((w.alloc (.cells #[v1, v2] 53)).alloc (.cells (Array.replicate n (Value.int .i64 0)) 3)) (.cells (Array.replicate n (Value.int .i64 0)) 3)
    rw [e2] at this
    rw [this]
    simp
/-- Tables that are right from place i on. -/
structure Gd (q : Nat → Nat → Bool) (n i : Nat) (C F : List Int) : Prop where
  lc : C.length = n + 1
  lf : F.length = n + 1
  cs : ∀ j, i ≤ j → j ≤ n → nth C j = ((be q n j).1 : Int)
  fs : ∀ j, i ≤ j → j < n → nth F j = ((be q n j).2 : Int)
  zr : ∀ j, j < i → nth F j = 0
/-- The same, place i being under way: k lengths are tried. -/
structure Gk (q : Nat → Nat → Bool) (n i k : Nat) (C F : List Int) : Prop where
  lc : C.length = n + 1
  lf : F.length = n + 1
  cs : ∀ j, i < j → j ≤ n → nth C j = ((be q n j).1 : Int)
  fs : ∀ j, i < j → j < n → nth F j = ((be q n j).2 : Int)
  zr : ∀ j, j < i → nth F j = 0
  z0 : k = 0 → nth F i = 0
  ck : 1 ≤ k → nth C i = ((bk (fun t => (be q n (i + t)).1) (q i) k).1 : Int) ∧ nth F i = ((bk (fun t => (be q n (i + t)).1) (q i) k).2 : Int)
theorem Gd.first (q : Nat → Nat → Bool) (n : Nat) : Gd q n n (List.replicate (n + 1) 0) (List.replicate (n + 1) 0) := by
  have hz : ∀ j, nth (List.replicate (n + 1) (0 : Int)) j = 0 := fun j => by
    unfold nth
    rw [List.getD_eq_getElem?_getD, List.getElem?_replicate]
    split <;> rfl
  refine ⟨by simp, by simp, fun j h1 h2 => ?_, fun j h1 h2 => absurd h2 (by omega), fun j _ => hz j⟩
  obtain rfl : j = n := by omega
  rw [hz, be_end]
  rfl
theorem Gd.start {q : Nat → Nat → Bool} {n i : Nat} {C F : List Int} (h : Gd q n (i + 1) C F) : Gk q n i 0 C F :=
  ⟨h.lc, h.lf, fun j h1 h2 => h.cs j h1 h2, fun j h1 h2 => h.fs j h1 h2, fun j hj => h.zr j (by omega), fun _ => h.zr i (by omega), fun h0 => absurd h0 (by omega)⟩
theorem Gk.stop {q : Nat → Nat → Bool} {n i : Nat} {C F : List Int} (hi : i < n) (h : Gk q n i (min 60 (n - i)) C F) : Gd q n i C F := by
  have hk := h.ck (by omega)
  rw [← be_at q hi] at hk
  refine ⟨h.lc, h.lf, fun j h1 h2 => ?_, fun j h1 h2 => ?_, h.zr⟩
  · by_cases e : j = i
    · rw [e]; exact hk.1
    · exact h.cs j (by omega) h2
  · by_cases e : j = i
    · rw [e]; exact hk.2
    · exact h.fs j (by omega) h2
theorem Gk.put {q : Nat → Nat → Bool} {n i k : Nat} {C F : List Int} (hi : i < n) (h : Gk q n i k C F) {c f : Nat} (e : bk (fun t => (be q n (i + t)).1) (q i) (k + 1) = (c, f)) : Gk q n i (k + 1) (C.set i c) (F.set i f) := by
  have hc : ∀ j, j ≠ i → nth (C.set i (c : Int)) j = nth C j := fun j hj => by rw [nth_set, if_neg (fun x => hj x.1)]
  have hf : ∀ j, j ≠ i → nth (F.set i (f : Int)) j = nth F j := fun j hj => by rw [nth_set, if_neg (fun x => hj x.1)]
  refine ⟨by rw [List.length_set]; exact h.lc, by rw [List.length_set]; exact h.lf, fun j h1 h2 => by rw [hc j (by omega)]; exact h.cs j h1 h2, fun j h1 h2 => by rw [hf j (by omega)]; exact h.fs j h1 h2, fun j h1 => by rw [hf j (by omega)]; exact h.zr j h1, fun h0 => absurd h0 (by omega), fun _ => ?_⟩
  rw [e, nth_set, nth_set, if_pos ⟨rfl, by rw [h.lc]; omega⟩, if_pos ⟨rfl, by rw [h.lf]; omega⟩]
  exact ⟨rfl, rfl⟩
theorem Gk.pass {q : Nat → Nat → Bool} {n i k : Nat} {C F : List Int} (hk : 1 ≤ k) (h : Gk q n i k C F) (e : bk (fun t => (be q n (i + t)).1) (q i) (k + 1) = bk (fun t => (be q n (i + t)).1) (q i) k) : Gk q n i (k + 1) C F :=
  ⟨h.lc, h.lf, h.cs, h.fs, h.zr, fun h0 => absurd h0 (by omega), fun _ => by rw [e]; exact h.ck hk⟩
theorem bkz (c : Nat → Nat) (q : Nat → Bool) : bk c q 1 = if q 1 = true then (c 1 + 2, 1) else (c 1 + 3, 1) := by
  show (if q 1 = true ∧ c 1 + 2 ≤ c 1 + 3 then _ else _) = _
  by_cases h : q 1 = true
  · rw [if_pos ⟨h, by omega⟩, if_pos h]
  · rw [if_neg (fun e => h e.1), if_neg h]
    rfl
theorem ats_nth (s : ByteArray) {j : Nat} (hj : j ≤ (pts s).length) : j < (Chr.atsL s).length ∧ nth (Chr.atsL s) j = (pl s j : Int) := by
  have hl : (Chr.atsL s).length = (pts s).length + 1 := by unfold Chr.atsL; rw [List.length_append, Chr.atl_len]; rfl
  refine ⟨by omega, ?_⟩
  unfold Chr.atsL nth
  rw [List.getD_eq_getElem?_getD]
  by_cases h : j < (pts s).length
  · rw [List.getElem?_append_left (by rw [Chr.atl_len]; exact h)]
    simp [Chr.atl, h]
    rfl
  · obtain rfl : j = (pts s).length := by omega
    rw [List.getElem?_append_right (by rw [Chr.atl_len]; exact Nat.le_refl _), Chr.atl_len]
    simp [pl_end]
theorem owned3 {w : World} {base : Nat} {v : Value} {l : List Int} {n : Nat} (h : w.ownsRow base 3 1 v n (l.map (Value.int .i64))) : IntsAt w v l := by
  have hl : l.length = n := by simpa using h.1
  rcases h.2 with ⟨hv, hn⟩ | ⟨g, cap, cur, hv, hg, hh, hn, hm, hs, ht⟩
  · exact ⟨none, 0, by rw [hv, hl, hn], .inl (List.length_eq_zero_iff.1 (by omega))⟩
  · subst hv
    refine ⟨some ⟨g, 0, none⟩, cap, by rw [hl], .inr ⟨g, 0, rfl, (Array.getElem?_eq_some_iff.1 hh).1, fun i hi => ?_⟩⟩
    have hc := h.cellAt i (by omega)
    rw [Nat.zero_add, hc, List.getElem?_map]
    simp [nth, List.getD, hi]
set_option maxRecDepth 100000 in
set_option maxHeartbeats 16000000 in
theorem fewS (v v1 v2 : Value) (W : List ByteArray) (s : ByteArray) (w : World) (hv : StrsAt w v W) (hW : Wr W) (hs : s.size ≤ 65536) (h1 : IntsAt w v1 (pts s)) (h2 : IntsAt w v2 (Chr.atsL s)) :
    Calls Tryd.prog 30 #[v, .agg #[v1, v2], .string s] w fun e w' => ∃ v', e = .returned v' ∧ IntsAt w' v' ((fsL W s).map fun (k : Nat) => (k : Int)) ∧ Below w.heap.size w w' := by
  have HV := hide hv
  have HW := hide hW
  have HI1 := hide h1
  have HI2 := hide h2
  have hn := Nat.le_trans (pts_le s) hs
  have CL := hide (fun x V h => lwS v W x V h hW)
  obtain ⟨av, cap, rfl, _⟩ := hv
  obtain ⟨a1, c1, rfl, _⟩ := h1
  obtain ⟨a2, c2, rfl, _⟩ := h2
  have HAT := hide (fun j hj => @ats_nth s j hj)
  have HLT := hide (fun a b h1 h2 => @pl_lt s a b h1 h2)
  have HLE := hide (pl_le s)
  have HQ : Hid (∀ i k, iw s W i k = hw W (s.extract (pl s i) (pl s (i + k)))) := hide (fun _ _ => rfl)
  have HFS : Hid (fsL W s = wk (fun i => (be (iw s W) (pts s).length i).2) (pts s).length (pts s).length 0) := hide rfl
  have G0 : Hid (Gd (iw s W) (pts s).length (pts s).length (List.replicate ((pts s).length + 1) 0) (List.replicate ((pts s).length + 1) 0)) := hide (Gd.first _ _)
  generalize fsL W s = FS at *
  generalize iw s W = q at *
  obtain ⟨n, hnn⟩ : ∃ n, (pts s).length = n := ⟨_, rfl⟩
  rw [hnn] at HAT HLT HFS G0 hn
  rw [hnn]
  have S0 := hide (Sf.first w (.slice a1 n c1) (.slice a2 (Chr.atsL s).length c2) (n + 1))
  have hmk := fun V => makeF (n + 1) (by omega) V
  have hn1 : (n : Int) + 1 = ((n + 1 : Nat) : Int) := by omega
  rw [← hn1] at hmk
  clear hW hn1
  go_enter Tryd.func30, Tryd.ntmps30
  go_upto_region 4 with fail
  clear hmk hnn
  generalize (((w.alloc (.cells #[.slice a1 n c1, .slice a2 (Chr.atsL s).length c2] 53)).alloc (.cells (Array.replicate (n + 1) (Value.int .i64 0)) 3)).alloc (.cells (Array.replicate (n + 1) (Value.int .i64 0)) 3)) = w0 at *
  generalize List.replicate (n + 1) (0 : Int) = Z0 at *
  go_wp2
  go_loopw [10] (fun x wr => ∃ (m : Nat) (C F : List Int), m ≤ n ∧ x = .int .i64 ((n : Int) - 1 - (m : Int)) ∧ Hid (Sf w wr (.slice a1 n c1) (.slice a2 (Chr.atsL s).length c2) C F) ∧ Hid (Gd q n (n - m) C F)) (fun x _ => (intOf x + 1).toNat)
  case atStart => exact ⟨0, Z0, Z0, by omega, by go_num, S0, G0⟩
  case round =>
    obtain ⟨m, C, F, hm, rfl, HS, HG⟩ := hrel
    clear S0 G0
    by_cases hlt : m < n
    · obtain ⟨i, hi⟩ : ∃ i, n - 1 - m = i := ⟨_, rfl⟩
      have hx : (n : Int) - 1 - (m : Int) = (i : Int) := by omega
      rw [hx]
      have hin : i < n := by omega
      have HIM : Hid (i + m + 1 = n) := hide (by omega)
      have GK : Hid (Gk q n i 0 C F) := hide (Gd.start (by rw [show i + 1 = n - m by omega]; exact unhide HG))
      have hge : (0 : Int) ≤ (i : Int) := by omega
      clear hx hi HG
      go_upto_region 7 with fail
      go_wp2_with fail
      go_loopw [11] (fun x wr => ∃ (k : Nat) (C F : List Int), x = .int .i64 ((k + 1 : Nat) : Int) ∧ k ≤ min 60 (n - i) ∧ Hid (Sf w wr (.slice a1 n c1) (.slice a2 (Chr.atsL s).length c2) C F) ∧ Hid (Gk q n i k C F)) (fun x _ => 62 - (intOf x).toNat)
      case atStart => exact ⟨0, C, F, by go_num, by omega, HS, GK⟩
      case round =>
        obtain ⟨k, C, F, rfl, hk, HS, HG⟩ := hrel
        clear GK
        obtain ⟨k1, hk1⟩ : ∃ k1, k + 1 = k1 := ⟨_, rfl⟩
        rw [hk1]
        by_cases hgo : k1 ≤ 60 ∧ i + k1 ≤ n
        · obtain ⟨hg1, hg2⟩ := hgo
          have hg1' : (k1 : Int) ≤ 60 := by omega
          have hg1d : decide ((k1 : Int) ≤ 60) = true := by simpa using hg1'
          obtain ⟨j, hj⟩ : ∃ j, i + k1 = j := ⟨_, rfl⟩
          have hjj : (i : Int) + (k1 : Int) = (j : Int) := by omega
          have hjn : (j : Int) ≤ (n : Int) := by omega
          have hij : i < j := by omega
          have hlc := (unhide HG).lc
          have hlf := (unhide HG).lf
          have cj := (cell_of (unhide HS).co (show j < C.length by omega)).1
          rw [(unhide HG).cs j (by omega) (by omega)] at cj
          have ci := cell_of (unhide HS).co (show i < C.length by omega)
          have fi := cell_of (unhide HS).fi (show i < F.length by omega)
          obtain ⟨bx0, bx1⟩ := (unhide HS).boxes
          have hj1 := (unhide HAT) i (by omega)
          have hj2 := (unhide HAT) j (by omega)
          obtain ⟨b2, o2, q2, he2, hb2, hc2⟩ := ints_at (unhide HI2) (by omega)
          cases he2
          have e1 := ((unhide HS).bel.cell (p := ⟨b2, o2 + i, none⟩) hb2).trans (hc2 i hj1.1)
          have e2 := ((unhide HS).bel.cell (p := ⟨b2, o2 + j, none⟩) hb2).trans (hc2 j hj2.1)
          rw [hj1.2] at e1
          rw [hj2.2] at e2
          have hx1 := hj1.1
          have hx2 := hj2.1
          have hp1 := (unhide HLT) i j (by omega) (by omega)
          have hp2 := (unhide HLE) j
          have hQ : q i k1 = hw W (s.extract (pl s i) (pl s j)) := by rw [unhide HQ, hj]
          have HST := hide ((unhide HV).below (unhide HS).bel)
          have hbc := be_cost q n (n - j) j rfl (by omega)
          have HBK : Hid (be q n j = be q n (i + k1)) := hide (by rw [hj])
          clear hj1 hj2 hc2 hjj
          generalize (Chr.atsL s).length = N2 at *
          have CL1 := hide (fun V h => (unhide CL) (s.extract (pl s i) (pl s j)) V h)
          generalize hD : hw W (s.extract (pl s i) (pl s j)) = D at *
          generalize pl s i = pi at *
          generalize pl s j = pj at *
          obtain ⟨cc, hcc⟩ : ∃ cc, (be q n j).1 = cc := ⟨_, rfl⟩
          rw [hcc] at cj hbc
          have HCC := hide hcc
          have HQ1 := hide hQ
          have HJ := hide hj
          have HK1 := hide hk1
          have hp0 : (0 : Int) ≤ (pi : Int) := by omega
          have hp00 : (0 : Int) ≤ (pj : Int) := by omega
          have ht1 : ((pi : Int)).toNat = pi := Int.toNat_natCast _
          have ht2 : ((pj : Int)).toNat = pj := Int.toNat_natCast _
          have hp1' : (pi : Int) ≤ (pj : Int) := by omega
          have hp2' : (pj : Int) ≤ (s.size : Int) := by omega
          have hi2 : (i : Int) < (N2 : Int) := by omega
          have hj2 : (j : Int) < (N2 : Int) := by omega
          have hic : (i : Int) < ((n + 1 : Nat) : Int) := by omega
          have hjc : (j : Int) < ((n + 1 : Nat) : Int) := by omega
          have hjs : (i : Int) + (k1 : Int) = (j : Int) := by omega
          have hwj : IntKind.i64.wrap (j : Int) = (j : Int) := wrapN j (by omega)
          clear hcc hQ hj hk1 hD
          go_upto_region 11 with fail
          go_quiet (first | (go_at_call 38; refine Calls.quiet_of_same ((unhide CL1) _ (unhide HST))))
          have HSq : Hid (Sf w (wr.drewN nq) (.slice a1 n c1) (.slice (some ⟨b2, o2, none⟩) N2 c2) C F) := hide ⟨(unhide HS).box, (unhide HS).co, (unhide HS).fi, bdrew (unhide HS).bel _⟩
          clear cj ci fi bx0 bx1 e1 e2 HST CL1
          generalize wr.drewN nq = wq at *
          have cj := (cell_of (unhide HSq).co (show j < C.length by omega)).1
          rw [(unhide HG).cs j hij (by omega), unhide HCC] at cj
          obtain ⟨ci, cif⟩ := cell_of (unhide HSq).co (show i < C.length by omega)
          obtain ⟨fi, fif⟩ := cell_of (unhide HSq).fi (show i < F.length by omega)
          have HBK2 : Hid ((fun t => (be q n (i + t)).1) k1 = cc) := hide (by rw [← unhide HCC, unhide HBK])
          have hw2 : IntKind.i64.wrap ((cc : Int) + 2) = (cc : Int) + 2 := by rw [show (cc : Int) + 2 = ((cc + 2 : Nat) : Int) by omega]; exact wrapN _ (by omega)
          cases k with
          | zero =>
            have hk1n : ¬ (1 : Int) < (k1 : Int) := by have := unhide HK1; omega
            have HBK1 : Hid ((fun t => (be q n (i + t)).1) 1 = cc) := hide (by have := unhide HBK2; rwa [← unhide HK1] at this)
            have HQ0 : Hid (q i 1 = D) := hide (by have := unhide HQ1; rwa [← unhide HK1] at this)
            have hfz := (unhide HG).z0 rfl
            rw [hfz] at fi
            cases D
            · have G2 : Hid (Gk q n i 1 (C.set i ((cc + 3 : Nat) : Int)) (F.set i ((k1 : Nat) : Int))) := hide (Gk.put hin (unhide HG) (by rw [bkz, if_neg (by rw [unhide HQ0]; simp), ← unhide HK1]; exact congrArg (fun z => (z + 3, 1)) (unhide HBK1)))
              have S2 := hide ((unhide HSq).putC i ((cc + 3 : Nat) : Int))
              obtain ⟨f2, f2f⟩ := cell_of (unhide S2).fi (show i < F.length by omega)
              have S3 := hide ((unhide S2).putF i ((k1 : Nat) : Int))
              have h3 : ((cc + 3 : Nat) : Int) = (cc : Int) + 3 := by omega
              rw [h3] at S2 f2 f2f S3 G2
              go_wp2
              go_roundw
              case rel => exact ⟨1, _, _, by rw [← unhide HK1]; go_num, by omega, S3, G2⟩
              case measure => have := unhide HK1; simp [intOf]; omega
            · have G2 : Hid (Gk q n i 1 (C.set i ((cc + 2 : Nat) : Int)) (F.set i ((k1 : Nat) : Int))) := hide (Gk.put hin (unhide HG) (by rw [bkz, if_pos (unhide HQ0), ← unhide HK1]; exact congrArg (fun z => (z + 2, 1)) (unhide HBK1)))
              have S2 := hide ((unhide HSq).putC i ((cc + 2 : Nat) : Int))
              obtain ⟨f2, f2f⟩ := cell_of (unhide S2).fi (show i < F.length by omega)
              have S3 := hide ((unhide S2).putF i ((k1 : Nat) : Int))
              have h3 : ((cc + 2 : Nat) : Int) = (cc : Int) + 2 := by omega
              rw [h3] at S2 f2 f2f S3 G2
              go_wp2
              go_roundw
              case rel => exact ⟨1, _, _, by rw [← unhide HK1]; go_num, by omega, S3, G2⟩
              case measure => have := unhide HK1; simp [intOf]; omega
          | succ k =>
            have hk2 : (1 : Int) < (k1 : Int) := by have := unhide HK1; omega
            obtain ⟨hck, hfk⟩ := (unhide HG).ck (by omega)
            have hbd := bk_bd (fun t => (be q n (i + t)).1) (q i) (k + 1)
            have HST2 : Hid (bk (fun t => (be q n (i + t)).1) (q i) (k + 1 + 1) = if q i k1 = true ∧ cc + 2 ≤ (bk (fun t => (be q n (i + t)).1) (q i) (k + 1)).1 then (cc + 2, k1) else bk (fun t => (be q n (i + t)).1) (q i) (k + 1)) := hide (by
              rw [← unhide HBK2, ← unhide HK1]
              rfl)
            cases D
            · have G2 : Hid (Gk q n i (k + 1 + 1) C F) := hide (Gk.pass (by omega) (unhide HG) (by rw [unhide HST2, if_neg (fun e => by rw [unhide HQ1] at e; cases e.1)]))
              go_wp2
              go_roundw
              case rel => exact ⟨k + 1 + 1, C, F, by rw [unhide HK1]; go_num, by have := unhide HK1; omega, HSq, G2⟩
              case measure => simp [intOf]; omega
            · have HG2 : Hid (cc + 2 ≤ (bk (fun t => (be q n (i + t)).1) (q i) (k + 1)).1 → Gk q n i (k + 1 + 1) (C.set i ((cc + 2 : Nat) : Int)) (F.set i ((k1 : Nat) : Int))) := hide (fun hle => Gk.put hin (unhide HG) (by rw [unhide HST2, if_pos ⟨unhide HQ1, hle⟩]))
              have HG3 : Hid (¬ cc + 2 ≤ (bk (fun t => (be q n (i + t)).1) (q i) (k + 1)).1 → Gk q n i (k + 1 + 1) C F) := hide (fun hle => Gk.pass (by omega) (unhide HG) (by rw [unhide HST2, if_neg (fun e => hle e.2)]))
              rw [hck] at ci
              rw [hfk] at fi
              generalize bk (fun t => (be q n (i + t)).1) (q i) (k + 1) = bb at *
              obtain ⟨c0, f0⟩ := bb
              have hf0 : ((f0 : Int) == 0) = false := by have := hbd.2.1; simp at this ⊢; omega
              simp only at ci fi HG2 HG3
              clear hck hfk hbd HST2
              by_cases hle : cc + 2 ≤ c0
              · have hle' : (cc : Int) + 2 ≤ (c0 : Int) := by omega
                have G2 := hide ((unhide HG2) hle)
                have S2 := hide ((unhide HSq).putC i ((cc + 2 : Nat) : Int))
                obtain ⟨f2, f2f⟩ := cell_of (unhide S2).fi (show i < F.length by omega)
                have S3 := hide ((unhide S2).putF i (k1 : Int))
                have h3 : ((cc + 2 : Nat) : Int) = (cc : Int) + 2 := by omega
                rw [h3] at S2 f2 f2f S3 G2
                clear hle HG2 HG3
                go_wp2
                go_roundw
                case rel => exact ⟨k + 1 + 1, _, _, by rw [unhide HK1]; go_num, by have := unhide HK1; omega, S3, G2⟩
                case measure => simp [intOf]; omega
              · have hle' : ¬ (cc : Int) + 2 ≤ (c0 : Int) := by omega
                have G2 := hide ((unhide HG3) hle)
                clear hle HG2 HG3
                go_wp2
                go_roundw
                case rel => exact ⟨k + 1 + 1, C, F, by rw [unhide HK1]; go_num, by have := unhide HK1; omega, HSq, G2⟩
                case measure => simp [intOf]; omega
        · have HKE : Hid (k = min 60 (n - i)) := hide (by omega)
          have G2 : Hid (Gd q n i C F) := hide (Gk.stop hin (by rw [← unhide HKE]; exact unhide HG))
          have HMM : Hid (n - (m + 1) = i) := hide (by have := unhide HIM; omega)
          have hmi : (i : Int) - 1 = (n : Int) - 1 - ((m + 1 : Nat) : Int) := by have := unhide HIM; omega
          have hw5 : IntKind.i64.wrap ((i : Int) - 1) = (i : Int) - 1 := by
            simp [IntKind.wrap, IntKind.bits, IntKind.signed]
            omega
          by_cases hg1 : k1 ≤ 60
          · have hg1' : (k1 : Int) ≤ 60 := by omega
            have hg1d : decide ((k1 : Int) ≤ 60) = true := by simpa using hg1'
            have hg2 : ¬ (i : Int) + (k1 : Int) ≤ (n : Int) := by omega
            have hw6 : IntKind.i64.wrap ((i : Int) + (k1 : Int)) = (i : Int) + (k1 : Int) := by rw [show (i : Int) + (k1 : Int) = ((i + k1 : Nat) : Int) by omega]; exact wrapN _ (by omega)
            go_wp2
            go_roundw
            case rel => exact ⟨m + 1, C, F, by have := unhide HIM; omega, by have := unhide HIM; congr 1; try omega, HS, hide (by rw [unhide HMM]; exact unhide G2)⟩
            case measure => simp [intOf]; omega
          · have hg1' : ¬ (k1 : Int) ≤ 60 := by omega
            have hg1d : decide ((k1 : Int) ≤ 60) = false := by simpa using hg1'
            go_wp2
            go_roundw
            case rel => exact ⟨m + 1, C, F, by have := unhide HIM; omega, by have := unhide HIM; congr 1; try omega, HS, hide (by rw [unhide HMM]; exact unhide G2)⟩
            case measure => simp [intOf]; omega
    · obtain rfl : m = n := by omega
      have hx : (m : Int) - 1 - (m : Int) = -1 := by omega
      rw [hx]
      obtain ⟨i0, hi, hz0, hz1, hz2⟩ := info_parts info3
      obtain ⟨wz, rfl⟩ : ∃ wz, wz = wr := ⟨_, rfl⟩
      have G : Hid (Gd q m 0 C F) := hide (by have := unhide HG; rwa [Nat.sub_self] at this)
      have hlf := (unhide G).lf
      have hB2 : w.heap.size + 2 < wz.heap.size := (Array.getElem?_eq_some_iff.1 (unhide HS).fi).1
      have hBs := (unhide HS).bel.size
      have HFI := hide (unhide HS).fi
      have HBW := hide (unhide HS).bel
      have O0 : Hid ((wz.alloc (.cells #[] 3)).ownsRow wz.heap.size 3 1 (.slice (some ⟨wz.heap.size, 0, none⟩) 0 0) ([] : List Int).length (([] : List Int).map (Value.int .i64))) := hide (World.ownsRow_lit wz #[] 0 (Nat.le_refl _) (by unfold maxLen; omega) rfl)
      have hge : ¬ (0 : Int) ≤ -1 := by omega
      clear hx HG HS
      go_wp2
      go_loopw [13, 14] (fun v' x wx => ∃ (D : List Nat) (i k : Nat), x = .int .i64 (i : Int) ∧ i ≤ m ∧ m - i ≤ k ∧ D.length ≤ i ∧ Hid (D ++ wk (fun i => (be q m i).2) m k i = FS) ∧ Hid (World.ownsRow wx wz.heap.size 3 1 v' (D.map fun (k : Nat) => (k : Int)).length ((D.map fun (k : Nat) => (k : Int)).map (Value.int .i64))) ∧ Hid (Below wz.heap.size wz wx)) (fun _ x _ => m - (intOf x).toNat)
      case atStart => exact ⟨[], 0, m, rfl, by omega, by omega, by simp, hide (unhide HFS).symm, O0, hide (al1 _ _)⟩
      case round =>
        obtain ⟨D, i, k, rfl, hi1, hi2, hDl, HD, HO, HB⟩ := hrel
        clear O0
        by_cases hin : i < m
        · have hin' : (i : Int) < (m : Int) := by omega
          obtain ⟨k', hkk, hwk⟩ := wk_at (f := fun i => (be q m i).2) hin hi2
          have hff := be_first q hin
          have hfs := (unhide G).fs i (by omega) hin
          have c0 := (cell_of (unhide HFI) (show i < F.length by omega)).1
          rw [hfs] at c0
          have HD2 : Hid ((D ++ [(be q m i).2]) ++ wk (fun i => (be q m i).2) m k' (i + (be q m i).2) = FS) := hide (by rw [← unhide HD, hwk, List.append_assoc]; rfl)
          obtain ⟨f, hf⟩ : ∃ f, (be q m i).2 = f := ⟨_, rfl⟩
          rw [hf] at hff c0 HD2
          have c1 := ((unhide HB).cell (p := ⟨w.heap.size + 2, i, none⟩) hB2).trans c0
          have hBz := (unhide HB).size
          have hif : (i : Int) + (f : Int) = ((i + f : Nat) : Int) := by omega
          have hwf : IntKind.i64.wrap ((i : Int) + (f : Int)) = (i : Int) + (f : Int) := by rw [hif]; exact wrapN _ (by omega)
          obtain ⟨d, hd⟩ : ∃ d, (D.map fun (k : Nat) => (k : Int)).length = d := ⟨_, rfl⟩
          have hdl : d ≤ i := by rw [← hd, List.length_map]; exact hDl
          have HDD := hide hd
          rw [hd] at HO
          clear hf hfs hwk hd hif
          go_wp2_with (at_builtin; refine wpList_append_own _ rfl _ _ 50 rfl wz.heap.size 3 i0 (.int .i64 0) 1 8 Tryd.underlying50 hi hz0 hz1 hz2 rfl (by decide) _ _ _ rfl (ownG_alloc (unhide HO) _) ⟨wr.heap.size, 0, none⟩ 1 1 [.int .i64 (f : Int)] rfl rfl ?c1 ?c2 ?c3 ?c4 ?c5 ?_; rotate_left 5; intro v' w4 hown' hgrow hne; have B4 : Hid (Below wz.heap.size wz w4) := hide (((unhide HB).alloc (by omega) _).grown hgrow (by simp; omega) (fun m hm => ((unhide HO).lt m hm).1)); have c4 := ((unhide B4).cell (p := ⟨w.heap.size + 2, i, none⟩) hB2).trans c0; have O4 := hide hown'; clear hown' hgrow hne)
          case c1 => exact cell_one_new _ _ _
          case c2 => first | rfl | (intro u hu; simp at hu; subst hu; rfl)
          case c3 => first | omega | (unfold maxLen; omega)
          case c4 => omega
          case c5 => first | omega | (simp; omega)
          go_roundw
          case rel => exact ⟨D ++ [f], i + f, k', by go_num, by omega, by omega, by simp; omega, HD2, hide (by rw [List.map_append, List.map_append, List.length_append, unhide HDD]; exact unhide O4), B4⟩
          case measure => simp [intOf]; omega
        · obtain rfl : i = m := by omega
          have hge2 : ¬ (i : Int) < (i : Int) := by omega
          have HE : Hid (FS = D) := hide (by rw [← unhide HD, wk_end, List.append_nil])
          go_wp2
          go_ret
          exact ⟨_, rfl, by rw [unhide HE]; exact owned3 (unhide HO), (unhide HBW).trans ((unhide HB).mono hBs)⟩
end Fw
end Go.Proofs.YtjcgchmncgihbaaDoor
