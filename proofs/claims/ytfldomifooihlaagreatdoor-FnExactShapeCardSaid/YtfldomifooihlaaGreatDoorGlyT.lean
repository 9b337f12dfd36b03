/- The glyphs of a text, as the specification tells them. -/
import Derived.Test.YtfldomifooihlaaGreatDoorGlyQ
import Derived.Test.YtfldomifooihlaaGreatDoorGlyS
import Derived.Test.YtfldomifooihlaaGreatDoorShpS
import Derived.Test.YtfldomifooihlaaGreatDoorChrO
import Derived.Deep.Cut
import Derived.RegionTactic
import Derived.BigQuiet
import Derived.Deep.QuietTactic
namespace Go.Proofs.YtfldomifooihlaaGreatDoor.Gly
open Go.RowKit Chr
set_option linter.unusedVariables false
/-- A row of numbers from some place on, with room enough. -/
def CutsAt (w : World) (v : Value) (l : List Int) : Prop := ∃ b off c, v = .slice (some ⟨b, off, none⟩) l.length c ∧ l.length ≤ c ∧ b < w.heap.size ∧ ∀ j, j < l.length → w.cell? ⟨b, off + j, none⟩ = some (.int .i64 (nth l j))
theorem CutsAt.below {w w' : World} {v : Value} {l : List Int} (h : CutsAt w v l) (B : Nat) (hb : Below B w w') (hv : ∀ b off c, v = .slice (some ⟨b, off, none⟩) l.length c → b < B) : CutsAt w' v l := by
  obtain ⟨b, off, c, rfl, h1, h2, h3⟩ := h
  have hB := hv b off c rfl
  exact ⟨b, off, c, rfl, h1, Nat.lt_of_lt_of_le h2 hb.size, fun j hj => (hb.cell (p := ⟨b, off + j, none⟩) hB).trans (h3 j hj)⟩
theorem cuts_own {w : World} {B : Nat} {v : Value} {l : List Int} (h : w.ownsRow B 2 1 v l.length (l.map (Value.int .i64))) (hl : 0 < l.length) : ∃ b c, v = .slice (some ⟨b, 0, none⟩) l.length c ∧ l.length ≤ c ∧ b < w.heap.size ∧ ∀ j, j < l.length → w.cell? ⟨b, 0 + j, none⟩ = some (.int .i64 (nth l j)) := by
  rcases h.2 with ⟨hv, hn⟩ | ⟨g, cap, cur, hv, hg, hh, hc, _⟩
  · omega
  · subst hv
    refine ⟨g, cap, rfl, hc, (Array.getElem?_eq_some_iff.1 hh).1, fun j hj => ?_⟩
    rw [Nat.zero_add, World.ownsRow.cellAt h j (by omega), List.getElem?_map]
    simp [nth, List.getD, hj]
theorem fS_le (r : List Int) (b : Bool) (s n : Nat) (h1 : r.length ≤ n) (h2 : s ≤ n) : fS r b s ≤ n := by
  induction r generalizing b s with
  | nil => cases b <;> exact h2
  | cons x t ih =>
    have h3 : t.length ≤ n := by simp at h1; omega
    cases b
    · show (if bin x = true then fS t false s else if con x = true then fS t true t.length else s) ≤ n
      split
      · exact ih false s h3 h2
      · split
        · exact ih true t.length h3 h3
        · exact h2
    · show (if (x == 1585) = true then fS t true s else if (x == 1584) = true then fS t false s else s) ≤ n
      split
      · exact ih true s h3 h2
      · split
        · exact ih false s h3 h2
        · exact h2
theorem flt_cons (h : Int × Int × Int) (t : List (Int × Int × Int)) : flt (h :: t) = cel h ++ flt t := by simp [flt]
theorem flt_set (G : List (Int × Int × Int)) (k : Nat) (g : Int × Int × Int) (hk : k < G.length) : flt (G.set k g) = (((((flt G).set (k * 5) g.1).set (k * 5 + 1) g.2.1).set (k * 5 + 2) g.2.2).set (k * 5 + 3) 0).set (k * 5 + 4) 0 := by
  induction G generalizing k with
  | nil => simp at hk
  | cons h t ih =>
    cases k with
    | zero => simp [flt_cons, cel]
    | succ k =>
      have := ih k (by simpa using hk)
      have el : (cel h).length = 5 := rfl
      rw [List.set_cons_succ, flt_cons, flt_cons, this]
      rw [List.set_append_right _ _ (by omega), List.set_append_right _ _ (by omega), List.set_append_right _ _ (by omega), List.set_append_right _ _ (by omega), List.set_append_right _ _ (by omega), el]
      rw [show (k + 1) * 5 - 5 = k * 5 by omega, show (k + 1) * 5 + 1 - 5 = k * 5 + 1 by omega, show (k + 1) * 5 + 2 - 5 = k * 5 + 2 by omega, show (k + 1) * 5 + 3 - 5 = k * 5 + 3 by omega, show (k + 1) * 5 + 4 - 5 = k * 5 + 4 by omega]
theorem GR.setG {w : World} {B b c n : Nat} {G : List (Int × Int × Int)} (h : GR w B (.slice (some ⟨b, 0, none⟩) n c) G) (hn : n = G.length) (k : Nat) (hk : k < n) (x f cl : Int) :
    GR (((((w.setCell ⟨b, k * 5, none⟩ (.int .i64 x)).setCell ⟨b, k * 5 + 1, none⟩ (.int .i64 f)).setCell ⟨b, k * 5 + 2, none⟩ (.int .i64 cl)).setCell ⟨b, k * 5 + 3, none⟩ (.int .i64 0)).setCell ⟨b, k * 5 + 4, none⟩ (.int .i64 0)) B (.slice (some ⟨b, 0, none⟩) n c) (G.set k (x, f, cl)) := by
  subst hn
  have h1 := (World.ownsRow.stored h (k * 5) (.int .i64 x)).1
  have h2 := (World.ownsRow.stored h1 (k * 5 + 1) (.int .i64 f)).1
  have h3 := (World.ownsRow.stored h2 (k * 5 + 2) (.int .i64 cl)).1
  have h4 := (World.ownsRow.stored h3 (k * 5 + 3) (.int .i64 0)).1
  have h5 := (World.ownsRow.stored h4 (k * 5 + 4) (.int .i64 0)).1
  unfold GR
  rw [List.length_set, flt_set G k _ hk, List.map_set, List.map_set, List.map_set, List.map_set, List.map_set]
  exact h5
/-- A slice that lies somewhere. -/
def sm : Value → Bool
  | .slice (some _) _ _ => true
  | _ => false
def sln : Value → Nat
  | .slice _ n _ => n
  | _ => 0
theorem sfx_true {s : ByteArray} {B : List Bool} {k d : Nat} (h : B.getD k false = true) : sfx s B k (d + 1) = ((steps s k).2 : Int) :: sfx s B (k + 1) d := by rw [sfx, if_pos h]
theorem sfx_false {s : ByteArray} {B : List Bool} {k d : Nat} (h : B.getD k false = false) : sfx s B k (d + 1) = sfx s B (k + 1) d := by rw [sfx, if_neg (by rw [h]; exact Bool.false_ne_true)]
theorem cls_true {s : ByteArray} {B : List Bool} {k : Nat} (h : B.getD k false = true) : cls s B (k + 1) = ((steps s k).2 : Int) := by rw [cls, if_pos h]
theorem cls_false {s : ByteArray} {B : List Bool} {k : Nat} (h : B.getD k false = false) : cls s B (k + 1) = cls s B k := by rw [cls, if_neg (by rw [h]; exact Bool.false_ne_true)]
theorem CutsAt.tail {w : World} {b off c : Nat} {x : Int} {t : List Int} {v : Value} (h : CutsAt w v (x :: t)) (hv : v = .slice (some ⟨b, off, none⟩) (x :: t).length c) : CutsAt w (.slice (some ⟨b, off + 1, none⟩) t.length (c - 1)) t := by
  obtain ⟨b', off', c', e, h1, h2, h3⟩ := h
  rw [hv] at e
  injection e with e1 e2 e3
  injection e1 with e1
  injection e1 with e4 e5
  subst e3 e4 e5
  refine ⟨b, off + 1, c - 1, rfl, by simp at h1; omega, h2, fun j hj => ?_⟩
  have := h3 (j + 1) (by simp; omega)
  rw [show off + 1 + j = off + (j + 1) by omega]
  rw [this]
  rfl
set_option maxHeartbeats 4000000 in
set_option maxRecDepth 100000 in
theorem sGlyphs (s : ByteArray) (w : World) (hs : s.size ≤ 65536) : Calls Tryz.prog 18 #[.string s] w fun e w' =>
    ∃ v, e = .returned v ∧ (∃ Bb, w.heap.size ≤ Bb ∧ GR w' Bb v (ord (gin s (pts s) (Shp.frs (pts s)) (bsS (pts s)) (pts s).length))) ∧ sm v = true ∧ Below w.heap.size w w' := by
  obtain ⟨i0, hi, hz0, hz1, hz2⟩ := info_parts infoG
  have hpl := pts_le s
  have CR := hide (fun W => sRowOf s W hs)
  have RI := hide (rise_of s)
  have CO := hide (fun W => sCharsO s W hs)
  go_enter Tryz.func18, Tryz.ntmps18
  go_upto_region 2 with (go_at_call 42; refine ((unhide CR) _).mono ?_; rintro e w2 ⟨v1, v2, rfl, hv1, hv2, hb2⟩; have B2 := hide hb2; have I1 := hide hv1; have I2 := hide hv2; clear hb2; obtain ⟨a1, c1, rfl, _⟩ := hv1; obtain ⟨a2, c2, rfl, _⟩ := hv2)
  have hc := two_cells (heap_alloc_last w2 (.cells #[.slice a1 (pts s).length c1, .slice a2 (atsL s).length c2] 79))
  have hz : w2.heap.size < (w2.alloc (.cells #[.slice a1 (pts s).length c1, .slice a2 (atsL s).length c2] 79)).heap.size := by simp
  have J1 := hide ((unhide I1).below (bel1 w2 (.cells #[.slice a1 (pts s).length c1, .slice a2 (atsL s).length c2] 79)))
  have J2 := hide ((unhide I2).below (bel1 w2 (.cells #[.slice a1 (pts s).length c1, .slice a2 (atsL s).length c2] 79)))
  have BB := hide (join2 (unhide B2) (bel1 w2 (.cells #[.slice a1 (pts s).length c1, .slice a2 (atsL s).length c2] 79)))
  clear I1 I2 B2 CR
  generalize w2.alloc (.cells #[.slice a1 (pts s).length c1, .slice a2 (atsL s).length c2] 79) = wb at hc hz J1 J2 BB ⊢
  generalize w2.heap.size = g at hc hz ⊢
  obtain ⟨x0, x1, _, _⟩ := hc
  have HAT := hide (nth_ats s)
  have hal : (atsL s).length = (pts s).length + 1 := by unfold atsL; simp [atl_len]
  have hBL := bsS_len (pts s)
  obtain ⟨L, hL⟩ : ∃ L, L = pts s := ⟨_, rfl⟩
  rw [← hL] at x0 J1 HAT hal hBL RI CO hpl
  have HLL := hide hL
  clear hL
  go_wp2_with fail
  refine (Shp.sForms _ L wb (unhide J1) (by omega)).mono ?_
  rintro e w3 ⟨fv, rfl, ho, hb⟩
  have hfl := Shp.frs_len L
  have B3 := hide (join2 (unhide BB) hb)
  have I3 := hide ((unhide J1).below hb)
  have A3 := hide ((unhide J2).below hb)
  have F3 := hide (IntsAt.owned ho)
  have y0 := (hb.cell (p := ⟨g, 0, none⟩) hz).trans x0
  have y1 := (hb.cell (p := ⟨g, 1, none⟩) hz).trans x1
  have hz3 : g < w3.heap.size := Nat.lt_of_lt_of_le hz hb.size
  clear ho hb J1 J2 BB x0 x1 hz
  obtain ⟨fa, fc, rfl, _⟩ := unhide F3
  rw [hfl] at F3 ⊢
  go_wp2_with fail
  refine ((unhide CO) w3).mono ?_
  rintro e w4 ⟨cv, rfl, ⟨Bb, hcv⟩, hb⟩
  have B4 := hide (join2 (unhide B3) hb)
  have I4 := hide ((unhide I3).below hb)
  have A4 := hide ((unhide A3).below hb)
  have F4 := hide ((unhide F3).below hb)
  have z0 := (hb.cell (p := ⟨g, 0, none⟩) hz3).trans y0
  have z1 := (hb.cell (p := ⟨g, 1, none⟩) hz3).trans y1
  have hz4 : g < w4.heap.size := Nat.lt_of_lt_of_le hz3 hb.size
  have HCV := hide hcv
  clear hb hcv I3 A3 F3 y0 y1 hz3 CO B3
  obtain ⟨n, hn⟩ : ∃ n, n = L.length := ⟨_, rfl⟩
  have C0 : Hid (0 < n → CutsAt w4 cv (sfx s (bsS L) 0 (n - 0)) ∧ ∀ b off c, cv = .slice (some ⟨b, off, none⟩) (sfx s (bsS L) 0 (n - 0)).length c → b < w4.heap.size) := hide (fun h0 => by
    have e := sfx_all s (bsS L) (by rw [hBL]; omega)
    rw [hBL, ← hn] at e
    have hl := (sfx_len s (bsS L) n 0).1
    obtain ⟨b, c, rfl, h1, h2, h3⟩ := cuts_own (by have := unhide HCV; rw [e] at this; exact this) hl
    exact ⟨⟨b, 0, c, rfl, h1, h2, h3⟩, fun b' off c' e' => by injection e' with e1 _ _; injection e1 with e1; injection e1 with e1; omega⟩)
  have O0 : Hid (GR (w4.alloc (.cells #[] 52)) w4.heap.size (.slice (some ⟨w4.heap.size, 0, none⟩) 0 0) (inK (gin s L (Shp.frs L) (bsS L) n) 0)) := hide (World.ownsRow_lit w4 #[] 0 (Nat.le_refl _) (by unfold maxLen; omega) rfl)
  have BA : Hid (Below w4.heap.size w4 (w4.alloc (.cells #[] 52))) := hide ((Below.refl _ _).alloc (Nat.le_refl _) _)
  rw [← hn] at z0 I4 F4 hal hBL RI hpl hfl HAT ⊢
  have hcvf : Hid (n = 0 → True) := hide (fun _ => trivial)
  have HCL := hide hn
  clear hn hcvf HCV
  generalize hFF : Shp.frs L = F at *
  generalize hSB : bsS L = SB at *
  have HFF := hide hFF
  have HSB := hide hSB
  clear hFF hSB
  generalize hG : gin s L F SB n = G at *
  have HG := hide hG
  clear hG
  go_wp2
  go_loopw [5, 6, 7, 8] (fun cv ov kv iv wr => ∃ k : Nat, k ≤ n ∧ iv = .int .i64 k ∧ kv = .int .i64 (cls s SB k) ∧ Hid (k < n → CutsAt w4 cv (sfx s SB k (n - k))) ∧ Hid (GR wr w4.heap.size ov (inK G k)) ∧ Hid (Below w4.heap.size w4 wr) ∧ Hid (sm ov = true)) (fun _ _ _ iv _ => n - (intOf iv).toNat)
  case atStart => exact ⟨0, Nat.zero_le _, rfl, rfl, hide (fun h => (unhide C0 h).1), O0, BA, hide rfl⟩
  case round =>
    obtain ⟨k, hk, rfl, rfl, HC, HO, HB, HM⟩ := hrel
    clear C0 O0 BA
    have c00 := ((unhide HB).cell (p := ⟨g, 0, none⟩) hz4).trans z0
    by_cases hlt : k < n
    · have hlt' : (k : Int) < (n : Int) := by omega
      have CK := hide (unhide HC hlt)
      have hat : (k : Int) < ((atsL s).length : Int) := by rw [hal]; omega
      have HATk := hide (unhide HAT k hlt)
      obtain ⟨ab, ao, rfl, a4⟩ := at_cell (unhide A4) (Below.refl _ _) k (by rw [hal]; omega)
      have hab : Hid (∀ W, Below w4.heap.size w4 W → W.cell? ⟨ab, ao + k, none⟩ = some (.int .i64 ((steps s k).2 : Int))) := hide (fun W hW => by
        obtain ⟨b', o', e, c⟩ := at_cell (unhide A4) hW k (by rw [hal]; omega)
        injection e with e
        injection e with e1 e2
        subst e1 e2
        rw [c, unhide HATk])
      have SG := hide (fun d (h : k + 1 + d = n) => sfx_gt s SB n (unhide RI) d (k + 1) k h (Nat.lt_succ_self _))
      obtain ⟨d, hd⟩ : ∃ d, n - k = d + 1 := ⟨n - k - 1, by omega⟩
      rw [hd] at CK
      have SG' := hide (unhide SG d (by omega))
      generalize hpk : ((steps s k).2 : Int) = pk at *
      have HPK := hide hpk
      clear a4 SG HC hpk
      go_wp2
      go_loopw [5, 7] (fun cv' kv' wi => ∃ (l : List Int) (cl : Int), Hid (CutsAt w4 cv' l) ∧ kv' = .int .i64 cl ∧ Hid ((∃ t, l = pk :: t ∧ t = sfx s SB (k + 1) d ∧ cls s SB (k + 1) = pk) ∨ (l = sfx s SB (k + 1) d ∧ cl = cls s SB (k + 1))) ∧ Hid (Below wr.heap.size wr wi)) (fun cv' _ _ => sln cv')
      case atStart =>
        cases hb : SB.getD k false
        · refine ⟨_, _, CK, rfl, hide (.inr ⟨sfx_false hb, (cls_false hb).symm⟩), hide (Below.refl _ _)⟩
        · refine ⟨_, _, CK, rfl, hide (.inl ⟨_, by rw [sfx_true hb, unhide HPK], rfl, by rw [cls_true hb, unhide HPK]⟩), hide (Below.refl _ _)⟩
      case round =>
        obtain ⟨l, cl, CA, rfl, HD, HBi⟩ := hrel
        have hwz := (unhide HB).size
        have HBw := hide ((unhide HB).trans ((unhide HBi).mono hwz))
        obtain ⟨b, off, c, rfl, hlc, hb, hcs⟩ := unhide CA
        have y1 := ((unhide HBw).cell (p := ⟨g, 1, none⟩) hz4).trans z1
        have ya := unhide hab _ (unhide HBw)
        have hCS := hide hcs
        clear hcs
        rcases unhide HD with ⟨t, rfl, ht, hcl⟩ | ⟨rfl, rfl⟩
        · have yc := ((unhide HBw).cell (p := ⟨b, off + 0, none⟩) hb).trans (unhide hCS 0 (by simp))
          rw [Nat.add_zero] at yc
          have yn : nth (pk :: t) 0 = pk := rfl
          rw [yn] at yc
          have hl1 := (sfx_len s SB d (k + 1)).1
          rw [← ht] at hl1
          have CT := hide ((unhide CA).tail rfl)
          rw [List.length_cons] at hlc ⊢
          have h0 : (0 : Int) < ((t.length + 1 : Nat) : Int) := by omega
          have h1 : (1 : Int) ≤ ((t.length + 1 : Nat) : Int) := by omega
          have hcc : ¬ c = 1 := by omega
          have hcc2 : ¬ c - 1 = 0 := by omega
          have hle : pk ≤ pk := Int.le_refl _
          have HN : Hid (t = sfx s SB (k + 1) d ∧ pk = cls s SB (k + 1)) := hide ⟨ht, hcl.symm⟩
          clear CA HD ht hcl yn hCS CK
          generalize t.length = m at *
          go_wp2
          go_quiet (fail)
          go_wp2
          exact ⟨⟨t, pk, CT, rfl, hide (.inr (unhide HN)), hide (bdrew (unhide HBi) _)⟩, by simp [sln]⟩
        · obtain ⟨x, t, he, hx⟩ := unhide SG'
          have yc := ((unhide HBw).cell (p := ⟨b, off + 0, none⟩) hb).trans (unhide hCS 0 (by rw [he]; simp))
          rw [Nat.add_zero, he] at yc
          have yn : nth (x :: t) 0 = x := rfl
          rw [yn] at yc
          have hl1 : (sfx s SB (k + 1) d).length = t.length + 1 := by rw [he]; rfl
          have CN := CA
          rw [hl1] at CN hlc ⊢
          have h0 : (0 : Int) < ((t.length + 1 : Nat) : Int) := by omega
          have hle : ¬ x ≤ pk := by omega
          have HON := hide ((unhide HO).below (unhide HBi))
          clear CA HD he yn hCS CK hx SG' HO
          generalize t.length = m at *
          generalize hck : cls s SB (k + 1) = cl at *
          have HCK := hide hck
          clear hck
          go_wp2
          go_quiet (fail)
          go_upto_region 12 with fail
          have HB5 := hide (bdrew (unhide HBw) nq)
          have O5 := hide ((unhide HON).below (drewN_bel _ nq))
          generalize wr.drewN nq = w5 at *
          clear HBw HBi HON y1 ya yc c00 h0 hle hwz
          have e0 := ((unhide HB5).cell (p := ⟨g, 0, none⟩) hz4).trans z0
          obtain ⟨lb, lo, rfl, cL⟩ := at_cell' (unhide I4) (unhide HB5) k hlt
          obtain ⟨fb, fo, rfl, cF⟩ := at_cell' (unhide F4) (unhide HB5) k hlt
          have hbz : Below w4.heap.size w4 (w5.alloc (.cells #[.int .i64 0, .int .i64 0, .int .i64 0, .int .i64 0, .int .i64 0] 52)) := (unhide HB5).alloc (unhide HB5).size _
          have e0z := (hbz.cell (p := ⟨g, 0, none⟩) hz4).trans z0
          obtain ⟨lb', lo', el, cLz⟩ := at_cell' (unhide I4) hbz k hlt
          injection el with el
          injection el with el1 el2
          subst el1 el2
          obtain ⟨fb', fo', ef, cFz⟩ := at_cell' (unhide F4) hbz k hlt
          injection ef with ef
          injection ef with ef1 ef2
          subst ef1 ef2
          clear hbz
          have EG : Hid (gat G k = (nth L k, nth F k, cl)) := hide (by rw [← unhide HG, ← unhide HCK]; simp [gat, gin, List.getD, hlt])
          generalize nth L k = p at *
          generalize nth F k = f at *
          go_region
          have hq5 : w4.heap.size ≤ w5.heap.size := (unhide HB5).size
          have nuq : u6.ownBlock ≠ some w5.heap.size := fun e => by have := (World.ownsRow.lt (unhide O5) _ e).2; omega
          have NB : (w5.alloc (.cells #[.int .i64 p, .int .i64 f, .int .i64 cl, .int .i64 0, .int .i64 0] 52)).drew.heap[w5.heap.size]? = some (.cells #[.int .i64 p, .int .i64 f, .int .i64 cl, .int .i64 0, .int .i64 0] 52 (0, 0)) := heap_alloc_last _ _
          have hba : Below w5.heap.size w5 (w5.alloc (.cells #[.int .i64 p, .int .i64 f, .int .i64 cl, .int .i64 0, .int .i64 0] 52)).drew := ((Below.refl _ _).alloc (Nat.le_refl _) _).drew
          have HB6 := hide ((unhide HB5).trans (hba.mono hq5))
          have O6 := hide ((unhide O5).below hba)
          have hq6 : w5.heap.size < (w5.alloc (.cells #[.int .i64 p, .int .i64 f, .int .i64 cl, .int .i64 0, .int .i64 0] 52)).drew.heap.size := (Array.getElem?_eq_some_iff.1 NB).1
          clear hba e0 e0z cL cF cLz cFz HB5 O5 z1
          go_upto_region 13 with fail
          generalize (w5.alloc (.cells #[.int .i64 p, .int .i64 f, .int .i64 cl, .int .i64 0, .int .i64 0] 52)).drew = w6 at *
          generalize w5.heap.size = q at *
          have hil : (inK G k).length = k := by
            rw [← stK_in, List.length_append]
            exact stK_len G k (by rw [← unhide HG, gin_len]; omega)
          have IS : Hid (inK G (k + 1) = ins (inK G k) (p, f, cl)) := hide (by rw [inK_succ G k (by rw [← unhide HG, gin_len]; omega), unhide EG])
          obtain ⟨oa, oc, hu6, hdis⟩ := (unhide O6).form
          clear hdis
          rw [hil] at hu6
          subst hu6
          obtain ⟨n0, n1, n2, n3, n4⟩ := five_of NB
          have OA : Hid ((w6.alloc (.cells #[.int .i64 p, .int .i64 f, .int .i64 cl, .int .i64 0, .int .i64 0] 52)).ownsRow w4.heap.size 52 5 (.slice oa k oc) k ((flt (inK G k)).map (Value.int .i64))) := hide (by
            have := (unhide O6).below ((Below.refl _ _).alloc (Nat.le_refl _) (.cells #[.int .i64 p, .int .i64 f, .int .i64 cl, .int .i64 0, .int .i64 0] 52))
            unfold GR at this
            rw [hil] at this
            exact this)
          have h46 := (unhide HB6).size
          generalize inK G k = O at *
          go_wp2_with (at_builtin; go_loud (refine wpList_appG _ rfl _ _ 28 rfl w4.heap.size 52 i0 (.agg #[.int .i64 0, .int .i64 0, .int .i64 0, .int .i64 0, .int .i64 0]) 5 40 Tryz.underlying28 hi hz0 hz1 hz2 rfl (by decide) _ _ _ rfl (unhide OA) ⟨w6.heap.size, 0, none⟩ 1 1 ((cel (p, f, cl)).map (Value.int .i64)) rfl rfl (cells_new w6 _ _) (one_cells _) (by unfold maxLen; omega) (by omega) (by simp; omega) ?_))
          intro v' w7 hown' hgrow hblk
          have O7 := hide (GR.app (G := O) (H := [(p, f, cl)]) (by rw [flt_one]; exact hown') (by rw [hil]; rfl))
          have hol : (O ++ [(p, f, cl)]).length = k + 1 := by simp [hil]
          obtain ⟨va, vc, ev, hvf⟩ := (unhide O7).form
          rw [hol] at ev
          subst ev
          obtain ⟨vb, rfl, hvb1, hvb2, hvb3⟩ : ∃ b, va = some ⟨b, 0, none⟩ ∧ k + 1 ≤ vc ∧ w4.heap.size ≤ b ∧ b < w7.heap.size := by
            rcases hvf with ⟨_, _, e⟩ | ⟨b, e, h1, h2, h3⟩
            · simp at e
            · exact ⟨b, e, by omega, h2, h3⟩
          have hba6 : Below w6.heap.size w6 (w6.alloc (.cells #[.int .i64 p, .int .i64 f, .int .i64 cl, .int .i64 0, .int .i64 0] 52)) := (Below.refl _ _).alloc (Nat.le_refl _) _
          have NB7 := (hgrow.block q (by simp; omega) (fun e => nuq e.symm)).trans ((hba6.block q hq6).trans NB)
          have HB7 := hide (((unhide HB6).trans (hba6.mono h46)).grown hgrow (by simp; omega) (fun j hj => (World.ownsRow.lt (unhide OA) j hj).1))
          have hvq : vb ≠ q := fun e => by
            rcases hblk vb rfl with h1 | h1
            · exact nuq (by rw [h1, e])
            · omega
          obtain ⟨m0, m1, m2, m3, m4⟩ := five_of NB7
          have HNB7 := hide NB7
          clear hown' hgrow hblk hvf hba6 OA O6 HB6 NB n0 n1 n2 n3 n4 NB7
          have CK1 : Hid (k + 1 < n → CutsAt w4 (.slice (some ⟨b, off, none⟩) (m + 1) c) (sfx s SB (k + 1) (n - (k + 1)))) := hide (fun _ => by rw [show n - (k + 1) = d by omega]; exact unhide CN)
          cases hv : vwa p
          · have IS1 : Hid (inK G (k + 1) = O ++ [(p, f, cl)]) := hide (by rw [unhide IS]; unfold ins; rw [if_neg (by simp [hv])])
            by_cases p1 : p < 1568
            · go_wp2
              go_roundw
              case rel => exact ⟨k + 1, by omega, by go_num, by rw [unhide HCK], CK1, hide (by rw [unhide IS1]; exact unhide O7), HB7, hide rfl⟩
              case measure => simp [intOf]; omega
            · by_cases p2 : 1579 < p
              · go_wp2
                go_roundw
                case rel => exact ⟨k + 1, by omega, by go_num, by rw [unhide HCK], CK1, hide (by rw [unhide IS1]; exact unhide O7), HB7, hide rfl⟩
                case measure => simp [intOf]; omega
              · have hm : p.tmod 2 = 1 := by
                  have h2 : p.tmod 2 = 0 ∨ p.tmod 2 = 1 := by rw [Int.tmod_eq_emod_of_nonneg (by omega)]; omega
                  rcases h2 with e | e
                  · unfold vwa at hv; simp [e] at hv; omega
                  · exact e
                go_wp2
                go_roundw
                case rel => exact ⟨k + 1, by omega, by go_num, by rw [unhide HCK], CK1, hide (by rw [unhide IS1]; exact unhide O7), HB7, hide rfl⟩
                case measure => simp [intOf]; omega
          · have hp : 1568 ≤ p ∧ p ≤ 1579 ∧ p.tmod 2 = 0 := by
              unfold vwa at hv
              simp at hv
              exact ⟨hv.1.1, hv.1.2, hv.2⟩
            obtain ⟨p1, p2, p3⟩ := hp
            have er : rid (O ++ [(p, f, cl)]) k = (ids O).reverse := by unfold rid; rw [← hil, List.take_left]
            have CS := hide (start_any w7 w4.heap.size vb vc (k + 1) (O ++ [(p, f, cl)]) k hol.symm (unhide O7) (by omega) (by omega))
            rw [er] at CS
            have hst : fA (ids O).reverse k ≤ k := fS_le _ _ _ _ (by simp [ids, hil]) (Nat.le_refl _)
            have IS1 : Hid (inK G (k + 1) = O.take (fA (ids O).reverse k) ++ (p, f, cl) :: O.drop (fA (ids O).reverse k)) := hide (by rw [unhide IS]; unfold ins; rw [if_pos hv, hil])
            generalize fA (ids O).reverse k = st at *
            have O8 : Hid (GR w7 w4.heap.size (.slice (some ⟨vb, 0, none⟩) (k + 1) vc) (shf O (p, f, cl) k)) := hide (by have := shf_zero O (p, f, cl); rw [hil] at this; rw [this]; exact unhide O7)
            have hw47 := (unhide HB7).size
            clear IS er hv O7 HG EG
            go_wp2_with fail
            refine (unhide CS).mono ?_
            rintro e w8 ⟨rfl, rfl⟩
            clear CS
            go_wp2
            go_loopw [11] (fun kv wi => ∃ j : Nat, st ≤ j ∧ j ≤ k ∧ kv = .int .i64 j ∧ Hid (GR wi w4.heap.size (.slice (some ⟨vb, 0, none⟩) (k + 1) vc) (shf O (p, f, cl) j)) ∧ Hid (Below w4.heap.size w4 wi) ∧ Hid (wi.heap[q]? = some (.cells #[.int .i64 p, .int .i64 f, .int .i64 cl, .int .i64 0, .int .i64 0] 52 (0, 0)))) (fun kv _ => (intOf kv).toNat)
            case atStart => exact ⟨k, hst, Nat.le_refl _, rfl, O8, HB7, HNB7⟩
            case round =>
              obtain ⟨j, hj1, hj2, rfl, HOj, HBj, HNj⟩ := hrel
              clear O8
              by_cases hjs : st < j
              · obtain ⟨i, hi0⟩ : ∃ i, j = i + 1 := ⟨j - 1, by omega⟩
                have hjs' : (st : Int) < (j : Int) := by omega
                have ei : (j : Int) - 1 = (i : Int) := by omega
                have h0i : (0 : Int) ≤ (i : Int) := by omega
                have h0j : (0 : Int) ≤ (j : Int) := by omega
                have hi1 : (i : Int) < ((k + 1 : Nat) : Int) := by omega
                have hi2 : (j : Int) < ((k + 1 : Nat) : Int) := by omega
                have hsl := shf_len O (p, f, cl) j
                rw [hil] at hsl
                obtain ⟨r0, r1, r2, r3, r4⟩ := (unhide HOj).five hsl.symm i (by omega)
                have SS := hide ((unhide HOj).setG hsl.symm j (by omega) (gat (shf O (p, f, cl) j) i).1 (gat (shf O (p, f, cl) j) i).2.1 (gat (shf O (p, f, cl) j) i).2.2)
                obtain ⟨q0, g0⟩ := (unhide HOj).cell hsl.symm (j * 5) (by omega)
                obtain ⟨q1, g1⟩ := (unhide HOj).cell hsl.symm (j * 5 + 1) (by omega)
                obtain ⟨q2, g2⟩ := (unhide HOj).cell hsl.symm (j * 5 + 2) (by omega)
                obtain ⟨q3, g3⟩ := (unhide HOj).cell hsl.symm (j * 5 + 3) (by omega)
                obtain ⟨q4, g4⟩ := (unhide HOj).cell hsl.symm (j * 5 + 4) (by omega)
                have ST : Hid ((shf O (p, f, cl) j).set j ((gat (shf O (p, f, cl) j) i).1, (gat (shf O (p, f, cl) j) i).2.1, (gat (shf O (p, f, cl) j) i).2.2) = shf O (p, f, cl) i) := hide (by rw [hi0]; exact shf_step O (p, f, cl) i (by omega))
                rw [unhide ST] at SS
                generalize (gat (shf O (p, f, cl) j) i).1 = xx at *
                generalize (gat (shf O (p, f, cl) j) i).2.1 = ff at *
                generalize (gat (shf O (p, f, cl) j) i).2.2 = cc at *
                generalize nth (flt (shf O (p, f, cl) j)) (j * 5) = o0 at *
                generalize nth (flt (shf O (p, f, cl) j)) (j * 5 + 1) = o1 at *
                generalize nth (flt (shf O (p, f, cl) j)) (j * 5 + 2) = o2 at *
                generalize nth (flt (shf O (p, f, cl) j)) (j * 5 + 3) = o3 at *
                generalize nth (flt (shf O (p, f, cl) j)) (j * 5 + 4) = o4 at *
                have HBn := hide ((((((unhide HBj).setCell (p := ⟨vb, j * 5, none⟩) hvb2 (.int .i64 xx)).setCell (p := ⟨vb, j * 5 + 1, none⟩) hvb2 (.int .i64 ff)).setCell (p := ⟨vb, j * 5 + 2, none⟩) hvb2 (.int .i64 cc)).setCell (p := ⟨vb, j * 5 + 3, none⟩) hvb2 (.int .i64 0)).setCell (p := ⟨vb, j * 5 + 4, none⟩) hvb2 (.int .i64 0))
                have hqv : q ≠ vb := fun e => hvq e.symm
                have HNn := hide ((heap_setCell_other _ ⟨vb, j * 5 + 4, none⟩ q (.int .i64 0) hqv).trans ((heap_setCell_other _ ⟨vb, j * 5 + 3, none⟩ q (.int .i64 0) hqv).trans ((heap_setCell_other _ ⟨vb, j * 5 + 2, none⟩ q (.int .i64 cc) hqv).trans ((heap_setCell_other _ ⟨vb, j * 5 + 1, none⟩ q (.int .i64 ff) hqv).trans ((heap_setCell_other _ ⟨vb, j * 5, none⟩ q (.int .i64 xx) hqv).trans (unhide HNj))))))
                have HI0 := hide hi0
                clear ST HOj hi0 hvq hqv m0 m1 m2 m3 m4
                go_upto_region 18 with fail
                generalize (((((wr.setCell ⟨vb, j * 5, none⟩ (.int .i64 xx)).setCell ⟨vb, j * 5 + 1, none⟩ (.int .i64 ff)).setCell ⟨vb, j * 5 + 2, none⟩ (.int .i64 cc)).setCell ⟨vb, j * 5 + 3, none⟩ (.int .i64 0)).setCell ⟨vb, j * 5 + 4, none⟩ (.int .i64 0)) = wn at *
                clear r0 r1 r2 r3 r4 q0 q1 q2 q3 q4 g0 g1 g2 g3 g4
                go_wp2
                go_roundw
                case rel => exact ⟨i, by have := unhide HI0; omega, by have := unhide HI0; omega, by go_num, SS, HBn, HNn⟩
                case measure => simp [intOf]; have := unhide HI0; omega
              · have hjst : j = st := by omega
                have hjs' : ¬ (st : Int) < (j : Int) := by omega
                rw [hjst] at HOj
                have h0s : (0 : Int) ≤ (st : Int) := by omega
                have hs1 : (st : Int) < ((k + 1 : Nat) : Int) := by omega
                have hsl := shf_len O (p, f, cl) st
                rw [hil] at hsl
                have SD := hide (shf_done O (p, f, cl) st (by omega))
                have SS := hide ((unhide HOj).setG hsl.symm st (by omega) p f cl)
                rw [unhide SD, ← unhide IS1] at SS
                obtain ⟨q0, g0⟩ := (unhide HOj).cell hsl.symm (st * 5) (by omega)
                obtain ⟨q1, g1⟩ := (unhide HOj).cell hsl.symm (st * 5 + 1) (by omega)
                obtain ⟨q2, g2⟩ := (unhide HOj).cell hsl.symm (st * 5 + 2) (by omega)
                obtain ⟨q3, g3⟩ := (unhide HOj).cell hsl.symm (st * 5 + 3) (by omega)
                obtain ⟨q4, g4⟩ := (unhide HOj).cell hsl.symm (st * 5 + 4) (by omega)
                obtain ⟨r0, r1, r2, r3, r4⟩ := five_of (unhide HNj)
                generalize nth (flt (shf O (p, f, cl) st)) (st * 5) = o0 at *
                generalize nth (flt (shf O (p, f, cl) st)) (st * 5 + 1) = o1 at *
                generalize nth (flt (shf O (p, f, cl) st)) (st * 5 + 2) = o2 at *
                generalize nth (flt (shf O (p, f, cl) st)) (st * 5 + 3) = o3 at *
                generalize nth (flt (shf O (p, f, cl) st)) (st * 5 + 4) = o4 at *
                have HBn := hide ((((((unhide HBj).setCell (p := ⟨vb, st * 5, none⟩) hvb2 (.int .i64 p)).setCell (p := ⟨vb, st * 5 + 1, none⟩) hvb2 (.int .i64 f)).setCell (p := ⟨vb, st * 5 + 2, none⟩) hvb2 (.int .i64 cl)).setCell (p := ⟨vb, st * 5 + 3, none⟩) hvb2 (.int .i64 0)).setCell (p := ⟨vb, st * 5 + 4, none⟩) hvb2 (.int .i64 0))
                clear SD HOj hjst m0 m1 m2 m3 m4 hvq
                go_upto_region 8 with fail
                generalize (((((wr.setCell ⟨vb, st * 5, none⟩ (.int .i64 p)).setCell ⟨vb, st * 5 + 1, none⟩ (.int .i64 f)).setCell ⟨vb, st * 5 + 2, none⟩ (.int .i64 cl)).setCell ⟨vb, st * 5 + 3, none⟩ (.int .i64 0)).setCell ⟨vb, st * 5 + 4, none⟩ (.int .i64 0)) = wn at *
                clear r0 r1 r2 r3 r4 q0 q1 q2 q3 q4 g0 g1 g2 g3 g4
                go_wp2
                go_roundw
                case rel => exact ⟨k + 1, by omega, by go_num, by rw [unhide HCK], CK1, SS, HBn, hide rfl⟩
                case measure => simp [intOf]; omega
    · obtain rfl : k = n := by omega
      have OO : Hid (GR wr w4.heap.size u6 (ord (gin s (pts s) (Shp.frs (pts s)) (bsS (pts s)) (pts s).length))) := hide (by
        have e : ord (gin s (pts s) (Shp.frs (pts s)) (bsS (pts s)) (pts s).length) = inK G k := by
          rw [← unhide HLL, unhide HFF, unhide HSB, ← unhide HCL, unhide HG]
          unfold ord
          rw [← unhide HG, gin_len]
        rw [e]
        exact unhide HO)
      go_wp2
      go_ret
      exact ⟨_, rfl, ⟨_, (unhide B4).size, unhide OO⟩, unhide HM, join2 (unhide B4) (unhide HB)⟩
end Go.Proofs.YtfldomifooihlaaGreatDoor.Gly
