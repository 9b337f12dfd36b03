/- The program's normal form of points. -/
import Derived.Test.YtamigjljgepfiaaGreatDoorMB
import Derived.Test.YtamigjljgepfiaaGreatDoorME
import Derived.Test.YtamigjljgepfiaaGreatDoorNmlS
namespace Go.Proofs.YtamigjljgepfiaaGreatDoor
open Go.RowKit Go.Shelf
attribute [local go_sem] Oper.semAt_some
def mark (D : Nat) : Deferred := { target := .collected D, args := #[] }
/-- The box holds the row; the marks of the loops that are through lie there. -/
structure NSt (w W : World) (bx : Nat) (Ds : List Nat) (Y : List Int) : Prop where
  box : ∃ v, Boxed W bx 27 v ∧ W.ownsRow w.heap.size 2 1 v Y.length (Y.map (Value.int .i64))
  bel : Below w.heap.size w W
  nod : Ds.Nodup
  mks : ∀ D ∈ Ds, w.heap.size ≤ D ∧ W.heap[D]? = some (.deferred (some []))
theorem NSt.grown {w W W' : World} {bx : Nat} {Ds : List Nat} {Y : List Int} {row : Option Nat} (h : NSt w W bx Ds Y) (hg : W.grownBy W' row) (hr : ∀ r, row = some r → w.heap.size ≤ r ∧ r ∉ Ds ∧ ∃ o : Obj, W.heap[r]? = some o ∧ o.isCells = false) : NSt w W' bx Ds Y := by
  obtain ⟨v, hb, ho⟩ := h.box
  refine ⟨⟨v, hb.kept hg (fun e => ?_), ho.kept hg ?_⟩, h.bel.grown hg h.bel.size (fun k e => (hr k e).1), h.nod, fun D hD => ⟨(h.mks D hD).1, ?_⟩⟩
  · obtain ⟨_, _, o, h1, h2⟩ := hr bx e.symm
    have h3 : W.heap[bx]? = _ := hb
    rw [h3] at h1
    injection h1 with h1
    subst h1
    cases h2
  · rcases ho.2 with ⟨rfl, _⟩ | ⟨g, cap, cur, rfl, _, hgb, _⟩
    · exact .inl rfl
    · refine .inr fun e' => ?_
      obtain ⟨_, _, o, h1, h2⟩ := hr g e'.symm
      rw [hgb] at h1
      injection h1 with h1
      subst h1
      cases h2
  · have hd := (h.mks D hD).2
    rw [hg.block D (Array.getElem?_eq_some_iff.1 hd).1 (fun e => (hr D e.symm).2.1 hD)]
    exact hd
theorem NSt.alloc {w W : World} {bx : Nat} {Ds : List Nat} {Y : List Int} (h : NSt w W bx Ds Y) (o : Obj) : NSt w (W.alloc o) bx Ds Y := h.grown (World.grownBy_alloc W o none) (fun r e => by cases e)
theorem NSt.from {w W0 : World} {bx : Nat} {Ds : List Nat} (Y : List Int) (hw : w.heap.size ≤ W0.heap.size) (hD : ∀ D ∈ Ds, D < W0.heap.size) : OwnFrom W0.heap.size (fun (pre : List Int) W => NSt w W bx Ds (Y ++ pre)) := fun s W W' row hs hg hr => hs.grown hg (fun r e => by
  obtain ⟨h1, h2⟩ := hr r e
  exact ⟨by omega, fun hm => by have := hD r hm; omega, h2⟩)
theorem leaves_marks {F : Fence} {n : Nat} {P : Program} {fn : Func} {tmps : Array Value} {R : Ending → World → Prop} {B : Nat} {w0 : World} {v : Value} {k : Nat} {xs : List Value} (h0 : B ≤ w0.heap.size) (hK : ∀ w' : World, w'.ownsRow B 2 1 v k xs → Below B w0 w' → LeavesIn F n P fn tmps R [] .returning w') : ∀ (Ds : List Nat) (w : World), Ds.Nodup → (∀ D ∈ Ds, B ≤ D ∧ w.heap[D]? = some (.deferred (some []))) → w.ownsRow B 2 1 v k xs → Below B w0 w → LeavesInM F n P fn tmps R (Ds.map mark) .returning w
  | [], w, _, _, ho, hb => hK w ho hb
  | D :: Ds, w, hn, hm, ho, hb => by
    have hd := hm D (by simp)
    obtain ⟨n1, n2⟩ := List.nodup_cons.1 hn
    refine ⟨by simp, .inl ⟨D, w.putObj D (.deferred none), rfl, run_takeDeferred hd.2, leaves_marks h0 hK Ds _ n2 (fun D' hD' => ?_) (ownsRow_putObj ho _ hd.2 rfl) (hb.grown (grownBy_putObj' w D _) (Nat.le_trans h0 hb.size) (fun m e => by cases e; exact hd.1))⟩⟩
    have hd' := hm D' (by simp [hD'])
    exact ⟨hd'.1, (World.putObj_heap_other (fun e => by subst e; exact n1 hD')).trans hd'.2⟩
theorem isCI (f : Int) (w : World) : Calls Tryz.prog 30 #[.int .i64 f] w fun e w' => e = .returned (.bool (isC f)) ∧ w' = w := by
  by_cases h2 : f = 2
  · subst h2
    go_enter Tryz.func30, Tryz.ntmps30
    go_wp2
    go_ret
    exact ⟨rfl, rfl⟩
  · by_cases h4 : f = 4
    · subst h4
      go_enter Tryz.func30, Tryz.ntmps30
      go_wp2
      go_ret
      exact ⟨rfl, rfl⟩
    · have t2 : (f == 2) = false := by simpa using h2
      have t4 : (f == 4) = false := by simpa using h4
      have HE : Hid (isC f = false) := hide (decide_eq_false (by omega))
      go_enter Tryz.func30, Tryz.ntmps30
      go_wp2
      go_ret
      exact ⟨ret_bool (unhide HE).symm, rfl⟩
theorem orderRow {W : World} {B : Nat} {v : Value} {Y : List Int} (ho : W.ownsRow B 2 1 v Y.length (Y.map (Value.int .i64))) (hbd : Y.length ≤ 600000) :
    Calls Tryz.prog 29 #[v] W fun e w' => e = .returned (.tuple #[]) ∧ w'.ownsRow B 2 1 v Y.length ((ordL Y).map (Value.int .i64)) ∧ W.grownBy w' v.ownBlock := by
  by_cases h0 : Y.length = 0
  · obtain rfl : Y = [] := List.length_eq_zero_iff.1 h0
    obtain ⟨a, cap, rfl⟩ := form_ownI ho
    refine (orderNone a cap W).mono ?_
    rintro e w' ⟨rfl, rfl⟩
    exact ⟨rfl, ho, grown_refl _ _⟩
  · obtain ⟨g, cap, rfl⟩ := own_pos ho (by omega)
    obtain ⟨Bq, S, h1, h2, h3, _, h5⟩ := own_seg ho
    refine (orderMarks_any W W g cap Y.length [] Bq Y rfl (by omega) h2 (by unfold maxLen at h3; omega) S).mono ?_
    rintro e w' ⟨rfl, s2⟩
    exact ⟨rfl, seg_own s2 h1 (ordL_len Y).symm h5 h3, s2.gr⟩
set_option maxRecDepth 100000 in
theorem composeNone (M : Nat) (b : Option Addr) (cap : Nat) (w : World) : Calls Tryz.prog 31 #[.map (some M), .slice b 0 cap] w fun e w' => e = .returned (.slice b 0 cap) ∧ w' = w := by
  by_cases hc : cap = 0
  · subst hc
    go_enter Tryz.func31, Tryz.ntmps31
    go_wp2
    go_loopw [5, 6, 15] (fun sv tv iv wr => sv = .slice b 0 0 ∧ tv = .int .i64 (-1) ∧ iv = .int .i64 0 ∧ wr = w) (fun _ _ _ _ => 0)
    case atStart => exact ⟨rfl, rfl, rfl, rfl⟩
    case round =>
      obtain ⟨rfl, rfl, rfl, rfl⟩ := hrel
      go_wp2
      go_ret
      exact ⟨rfl, rfl⟩
  · go_enter Tryz.func31, Tryz.ntmps31
    go_wp2
    go_loopw [5, 6, 15] (fun sv tv iv wr => sv = .slice b 0 cap ∧ tv = .int .i64 (-1) ∧ iv = .int .i64 0 ∧ wr = w) (fun _ _ _ _ => 0)
    case atStart => exact ⟨rfl, rfl, rfl, rfl⟩
    case round =>
      obtain ⟨rfl, rfl, rfl, rfl⟩ := hrel
      go_wp2
      go_ret
      exact ⟨rfl, rfl⟩
theorem composeRow {W : World} {B M : Nat} {v : Value} {Y : List Int} (ho : W.ownsRow B 2 1 v Y.length (Y.map (Value.int .i64))) (hM : BookAt W M []) (hA : Adj Y) (hbd : Y.length ≤ 600000) (hBM : B ≤ M) (hBw : B ≤ W.heap.size) :
    Calls Tryz.prog 31 #[.map (some M), v] W fun e w' => ∃ v', e = .returned v' ∧ w'.ownsRow B 2 1 v' (cmpQ Y).1.length ((cmpQ Y).1.map (Value.int .i64)) ∧ BelD B W w' := by
  by_cases h0 : Y.length = 0
  · obtain rfl : Y = [] := List.length_eq_zero_iff.1 h0
    obtain ⟨a, cap, rfl⟩ := form_ownI ho
    refine (composeNone M a cap W).mono ?_
    rintro e w' ⟨rfl, rfl⟩
    exact ⟨_, rfl, ho, BelD.refl _ _⟩
  · obtain ⟨g, cap, rfl⟩ := own_pos ho (by omega)
    obtain ⟨Bq, S, h1, h2, h3, h4, h5⟩ := own_seg ho
    exact composeAll_any B g M cap Y.length Y Bq [] W S h5 hM good_nil hA h4 (by omega) (by omega) h3 h1 hBM hBw
set_option maxHeartbeats 2000000 in
set_option maxRecDepth 100000 in
theorem normal_in (form : Int) (B0 n : Nat) (v : Value) (L : List Int) (w : World) (ho : w.ownsRow B0 2 1 v n (L.map (Value.int .i64))) (hbd : n ≤ 131072) :
    CallsIn Fence.wide 6 Tryz.prog 11 #[.int .i64 form, v] w fun e w' => NewRow w w' e (nrmL form L) := by
  have hn1 : 1 ≤ 6 := by omega
  obtain ⟨i0, hi, hz0, hz1, hz2⟩ := info_parts info2
  have hn : n = L.length := by have := ho.1; simp at this; exact this.symm
  obtain ⟨a, cap, rfl⟩ := form_ownI ho
  have HN := hide hn
  have HO := hide ho
  obtain ⟨k, hk⟩ : ∃ k, k = isK form := ⟨_, rfl⟩
  have HKf : Hid (k = true ↔ form = 3 ∨ form = 4) := hide (by rw [hk]; simp [isK])
  have HK := hide hk
  clear hn ho hk
  refine callsIn_of_wp_marks Tryz.func11 rfl trivial ?_ rfl
  simp only [Tryz.ntmps11, List.size_toArray, List.length_cons, List.length_nil, Nat.reduceAdd, Nat.reduceSub, Array.replicate_succ, Array.replicate_zero, List.push_toArray, List.append_toArray, List.nil_append, List.cons_append]
  gi_wp2_with (gi_at_make; refine wpListIn_make_own _ rfl _ _ 27 rfl w.heap.size 2 i0 (.int .i64 0) 1 Tryz.underlying27 hi hz0 hz1 .i64 .i64 _ n rfl rfl rfl ?b2 ?b3 ?b4 ?_)
  case b2 => rw [hz2]; omega
  case b3 => unfold maxLen; omega
  case b4 => omega
  intro w1 hown hgrow
  have hs1 := hgrow.size
  have N0 : Hid (NSt w (w1.alloc (.cells #[.slice (some ⟨w.heap.size, 0, none⟩) 0 n] 27)) w1.heap.size [] (nrmA k (L.take 0))) := hide ⟨⟨_, Boxed.new _ _ _, hown.alloc _⟩, (made_below hgrow).trans ((one_below w1 _).mono hs1), List.nodup_nil, by simp⟩
  clear hown hgrow
  gi_wp2
  refine wpIn_loop (fun a' W => ∃ (i : Nat) (Ds : List Nat) (u7 u15 u16 u17 u18 u19 u20 u26 : Value), i ≤ n ∧ a' = { tmps := #[.int .i64 form, .slice a n cap, undef, undef, .slice none 0 0, .pointer (some ⟨w1.heap.size, 0, none⟩), undef, u7, undef, .slice a n cap, .int .i64 n, .slice (some ⟨w.heap.size, 0, none⟩) 0 n, .slice a n cap, .int .i64 n, .int .i64 i, u15, u16, u17, u18, u19, u20, undef, undef, undef, undef, undef, u26, undef, undef, undef, undef, undef, undef, undef, undef], defers := Ds.map mark } ∧ Hid (NSt w W w1.heap.size Ds (nrmA k (L.take i)))) (fun a' _ => n - (intOf (a'.tmps.getD 14 undef)).toNat) ?start ?round
  case start => exact ⟨0, [], undef, undef, undef, undef, undef, undef, undef, undef, Nat.zero_le _, rfl, N0⟩
  case round =>
    rintro a' W ⟨i, Ds, u7, u15, u16, u17, u18, u19, u20, u26, hin, rfl, HS⟩
    clear N0
    by_cases hlt : i < n
    · have hlt' : (i : Int) < (n : Int) := by omega
      obtain ⟨gp, c1, hv⟩ := own_pos (unhide HO) (by omega)
      injection hv with hv1 _ hv3
      subst hv1 hv3
      have hgl := ((unhide HO).lt gp rfl).2
      have c0 := ((unhide HS).bel.cell (p := ⟨gp, i, none⟩) hgl).trans (cell_at (unhide HO) i hlt)
      have hT : nrmA k (L.take (i + 1)) = nrmA k (L.take i) ++ allF k 2 (nth L i) := flat_take k 2 L i (by have := unhide HN; omega)
      have hyl : (nrmA k (L.take i)).length ≤ 524288 := by
        have h1 := nrmA_len k (L.take i)
        have h2 : (L.take i).length ≤ i := List.length_take_le _ _
        omega
      have hx2 : (allF k 2 (nth L i)).length ≤ 4 := (allF_len k 2 (nth L i)).2
      have HT := hide hT
      clear hT
      generalize hy : nth L i = y at *
      clear hy
      have LA := (callsIn_wide (n := 5)).2 (last_any form y W)
      obtain ⟨W0, hW0⟩ : ∃ W0, W0 = (W.alloc (.cells #[.int .i64 form] 2)).alloc (.cells #[.int .i64 y] 2) := ⟨_, rfl⟩
      rw [← hW0] at LA
      have hsz : W0.heap.size = W.heap.size + 2 := by rw [hW0]; simp
      have HSt := last_stops 5 form y k (unhide HKf) W.heap.size (W.heap.size + 1) W0 (by omega) (by omega) (by rw [hW0]; simp) (by rw [hW0]; simp)
      have NS0 : NSt w W0 w1.heap.size Ds (nrmA k (L.take i) ++ []) := by rw [hW0, List.append_nil]; exact ((unhide HS).alloc _).alloc _
      have hws := (unhide HS).bel.size
      have hDs : ∀ D ∈ Ds, D < W0.heap.size := fun D hD => by
        have := (Array.getElem?_eq_some_iff.1 ((unhide HS).mks D hD).2).1
        omega
      clear HS hW0
      gi_wp2_with (refine ⟨trivial, ?_⟩; gi_at_call 28; refine LA.mono ?_; clear LA; rintro e W1 ⟨rfl, hW1⟩; subst hW1)
      generalize nrmA k (L.take i) = ys at *
      generalize allF k 2 y = xs at *
      refine wpIn_rangeFunc_ownG rfl hn1 (gf := 51) (lb := #[.pointer (some ⟨W.heap.size, 0, none⟩), .pointer (some ⟨W.heap.size + 1, 0, none⟩)]) rfl trivial (enters_of Tryz.func51 (by kernel_rfl) rfl)
        HSt KeepP.trans keepP_b (Below.refl _ _) (fun _ => rfl)
        (fun pre V => NSt w V w1.heap.size Ds (ys ++ pre))
        (fun _ _ _ => False)
        (NSt.from ys (by omega) hDs)
        (fun _ _ _ _ _ hs _ _ => hs)
        NS0
        (fun x => { tmps := #[.int .i64 form, .slice (some ⟨gp, 0, none⟩) n cap, undef, undef, .slice none 0 0, .pointer (some ⟨w1.heap.size, 0, none⟩), undef, .int .i64 y, .int .i64 x, .slice (some ⟨gp, 0, none⟩) n cap, .int .i64 n, .slice (some ⟨w.heap.size, 0, none⟩) 0 n, .slice (some ⟨gp, 0, none⟩) n cap, .int .i64 n, .int .i64 i, .bool true, .pointer (some ⟨gp, i, none⟩), .int .i64 y, .int .i64 form, .int .i64 y, .func (.func 51) #[] #[.pointer (some ⟨W.heap.size, 0, none⟩), .pointer (some ⟨W.heap.size + 1, 0, none⟩)], .int .i64 x, undef, undef, undef, undef, u26, undef, undef, undef, undef, undef, undef, undef, undef], defers := [] }) ?assign ?body ?done ?stop
      case assign =>
        intro l x V K hK
        gi_wp2
        exact hK
      case body =>
        rintro l pre x V hns hlt2
        obtain ⟨v, hv, hrow⟩ := hns.box
        have hc := hv.cell
        have hpl : (ys ++ pre).length ≤ 524300 := by rw [List.length_append]; omega
        have hBs := hns.bel.size
        obtain ⟨zl, hzl⟩ : ∃ zl, zl = (ys ++ pre).length := ⟨_, rfl⟩
        rw [← hzl] at hrow hpl
        have HZl := hide hzl
        clear hzl
        gi_wp2_with (gi_at_builtin; refine wpListIn_append_own _ rfl _ _ 27 rfl w.heap.size 2 i0 (.int .i64 0) 1 8 Tryz.underlying27 hi hz0 hz1 hz2 rfl (by decide) _ _ _ rfl (hrow.alloc _) ⟨V.heap.size, 0, none⟩ 1 1 [.int .i64 x] rfl rfl (cell_one_new _ _ _) (by simp [Value.oneCell']) ?c3 ?c4 ?c5 ?_)
        case c3 => unfold maxLen; omega
        case c4 => omega
        case c5 => simp; omega
        intro v' w2 hown' hgrow _
        obtain ⟨g', cap', rfl⟩ := ownsRow_succ hown'
        obtain ⟨hv1, hv2, hr2, hk2, hb2⟩ := hv.appended (by decide) hrow hBs hs1 hown' hgrow
        have hc1 := hv1.cell
        have hf1 := hv1.frozen
        have hkp := (KeepP.alloc V _).trans ((keepP_grown hgrow (hrow.alloc _)).trans (keepP_set (u := .slice (some ⟨g', 0, none⟩) (zl + 1) cap') hv1))
        have NS2 : NSt w (w2.setCell ⟨w1.heap.size, 0, none⟩ (.slice (some ⟨g', 0, none⟩) (zl + 1) cap')) w1.heap.size Ds (ys ++ (pre ++ [x])) := ⟨⟨_, hv2, by
          have e : (ys ++ (pre ++ [x])).length = zl + 1 := by rw [unhide HZl]; simp; omega
          rw [e]
          simpa using hr2⟩, hns.bel.trans hb2, hns.nod, fun D hD => ⟨(hns.mks D hD).1, hk2.same D _ (hns.mks D hD).2 rfl⟩⟩
        gi_wp2
        exact ⟨hk2.from _, hkp, NS2⟩
      case done =>
        rintro D zs V hD rfl hns hK
        have HS2 : Hid (NSt w V w1.heap.size (D :: Ds) (nrmA k (L.take (i + 1)))) := hide (by
          rw [unhide HT]
          refine ⟨hns.box, hns.bel, List.nodup_cons.2 ⟨fun hm => by have := hDs D hm; omega, hns.nod⟩, fun D' hD' => ?_⟩
          rcases List.mem_cons.1 hD' with rfl | hD'
          · exact ⟨by omega, hK⟩
          · exact hns.mks D' hD')
        clear hns hK HSt NS0
        gi_wp2
        have e1 : ((i + 1 : Nat) : Int) = (i : Int) + 1 := by omega
        refine ⟨⟨i + 1, D :: Ds, .int .i64 y, .bool true, .pointer (some ⟨gp, i, none⟩), .int .i64 y, .int .i64 form, .int .i64 y, .func (.func 51) #[] #[.pointer (some ⟨W.heap.size, 0, none⟩), .pointer (some ⟨W.heap.size + 1, 0, none⟩)], .int .i64 ((i : Int) + 1), by omega, ?_, HS2⟩, ?_⟩
        · rw [e1]
          rfl
        · simp [intOf]; omega
      case stop =>
        rintro D c pre V _ _ h _
        exact h.elim
    · obtain rfl : i = n := by omega
      have hlt' : ¬ (i : Int) < (i : Int) := by omega
      have hns := unhide HS
      rw [show L.take i = L from by rw [unhide HN, List.take_length]] at hns
      have hYl : (nrmA k L).length ≤ 600000 := by
        have := nrmA_len k L
        have := unhide HN
        omega
      have hAd := adj_ord _ (nrmA k L) rfl
      have HE1 : Hid (isC form = true → (cmpQ (ordL (nrmA k L))).1 = nrmL form L) := hide (fun h => by rw [nrmL, if_pos h, unhide HK])
      have HE2 : Hid (isC form = false → ordL (nrmA k L) = nrmL form L) := hide (fun h => by rw [nrmL, if_neg (by rw [h]; simp), unhide HK])
      have hol := ordL_len (nrmA k L)
      obtain ⟨v, hv, hrow⟩ := hns.box
      have OM := (callsIn_wide (n := 5)).2 (orderRow hrow hYl)
      have hc := hv.cell
      have hnr := hv.not_row (by decide) hrow
      have hko : ∀ w', W.grownBy w' v.ownBlock → KeepsOthers W w' := fun w' hg => KeepsOthers.of_grownBy hg (fun j o e1 e2 => by
        rcases hrow.2 with ⟨rfl, _⟩ | ⟨g, cap, cur, rfl, _, hgb, _⟩
        · cases e1
        · simp only [Value.ownBlock, Option.some.injEq] at e1
          subst e1
          rw [hgb] at e2
          injection e2 with e2
          subst e2
          rfl)
      have hlo : ∀ j, v.ownBlock = some j → w.heap.size ≤ j := fun j hj => (hrow.lt j hj).1
      have hBs := hns.bel.size
      clear HS
      generalize nrmA k L = Y at *
      generalize hZ : ordL Y = Z at *
      clear hZ
      have IC := fun W => (callsIn_wide (n := 5)).2 (isCI form W)
      have hmm := @run_makeMap Tryz.prog
      have hnd := hns.nod
      have HM := hns.mks
      have HBl := hns.bel
      clear hns
      have HOl := hide hol
      clear hol
      cases hcc : isC form with
      | false =>
        have hE := (unhide HE2) hcc
        rw [hcc] at IC
        gi_wp2_with (first
          | (refine ⟨trivial, ?_⟩; gi_at_call 29; refine OM.mono ?_; clear OM; rintro e W2 ⟨rfl, ho2, hg2⟩; have hc2 := (hv.kept hg2 hnr).cell)
          | (refine ⟨trivial, ?_⟩; gi_at_call 30; refine (IC W2).mono ?_; rintro e W3 ⟨rfl, hW3⟩; replace hW3 := hW3.symm; subst hW3))
        refine leaves_marks (B := w.heap.size) (w0 := w) (v := v) (k := Z.length) (xs := Z.map (Value.int .i64)) (Nat.le_refl _) (fun w' ho hb => ⟨_, results_tmp rfl _ _ _, v, rfl, by rw [← hE]; exact ho, hb⟩) Ds _ hnd (fun D hD => ⟨(HM D hD).1, (hko _ hg2).same D _ (HM D hD).2 rfl⟩) (by rw [unhide HOl]; exact ho2) (HBl.grown hg2 hBs hlo)
      | true =>
        have hE := (unhide HE1) hcc
        rw [hcc] at IC
        gi_wp2_with (first
          | (refine ⟨trivial, ?_⟩; gi_at_call 29; refine OM.mono ?_; clear OM; rintro e W2 ⟨rfl, ho2, hg2⟩; have hv2 := hv.kept hg2 hnr; have hc2 := (hv2.alloc (.map #[] 0)).cell; have bel2 := HBl.grown hg2 hBs hlo; have hb2s := bel2.size; have BK : BookAt (W2.alloc (.map #[] 0)) W2.heap.size [] := ⟨#[], 0, heap_alloc_new _ _, rfl⟩; have CA := (callsIn_wide (n := 5)).2 (composeRow (W := W2.alloc (.map #[] 0)) (B := w.heap.size) (M := W2.heap.size) (v := v) (Y := Z) (World.ownsRow.alloc (by rw [unhide HOl]; exact ho2) _) BK hAd (by have := unhide HOl; omega) hb2s (by simp; omega)))
          | (refine ⟨trivial, ?_⟩; gi_at_call 30; refine (IC W2).mono ?_; rintro e W3 ⟨rfl, hW3⟩; replace hW3 := hW3.symm; subst hW3)
          | (refine ⟨trivial, ?_⟩; gi_at_call 31; refine CA.mono ?_; clear CA; rintro e W4 ⟨v4, rfl, ho4, hb4⟩))
        refine leaves_marks (B := w.heap.size) (w0 := w) (v := v4) (k := (cmpQ Z).1.length) (xs := (cmpQ Z).1.map (Value.int .i64)) (Nat.le_refl _) (fun w' ho hb => ⟨_, results_tmp rfl _ _ _, v4, rfl, by rw [← hE]; exact ho, hb⟩) Ds _ hnd (fun D hD => ⟨(HM D hD).1, hb4.mk' D _ (by
          have h1 := (hko _ hg2).same D _ (HM D hD).2 rfl
          exact (alloc_block _ _ (Array.getElem?_eq_some_iff.1 h1).1).trans h1)⟩) ho4 ((bel2.trans ((one_below _ _).mono hb2s)).trans hb4.bel)
theorem normalI (form : Int) (B0 n : Nat) (v : Value) (L : List Int) (w : World) (ho : w.ownsRow B0 2 1 v n (L.map (Value.int .i64))) (hbd : n ≤ 131072) :
    Calls Tryz.prog 11 #[.int .i64 form, v] w fun e w' => NewRow w w' e (nrmL form L) := callsIn_wide.1 (normal_in form B0 n v L w ho hbd)
end Go.Proofs.YtamigjljgepfiaaGreatDoor
