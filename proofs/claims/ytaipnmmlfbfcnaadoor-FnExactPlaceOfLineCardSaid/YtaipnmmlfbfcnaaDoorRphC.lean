/- PlaceOfLine of a rope: what the program answers at once, and the specification's PlaceOfLine. -/
import Derived.Test.YtaipnmmlfbfcnaaDoorRphA
namespace Go.Proofs.YtaipnmmlfbfcnaaDoor.Rop
open Go.RowKit Rwc
set_option linter.unusedVariables false
set_option linter.unusedSimpArgs false
set_option maxRecDepth 100000 in
set_option maxHeartbeats 4000000 in
theorem placeNoR (v1 v2 : Value) (L : List Nd) (M : List Mk) (T : RT) (B : Nat) (w : World) (h1 : nd_At B w v1 L) (h2 : mk_At B w v2 M) (hT : IsTr (cat L) T) (hS : Sm L M) (hTab : TabD w) (hr : rgt L (nds T 0) M = false) (x : Int) :
    Calls Tryd.prog 20 #[.agg #[v1, v2], .int .i64 x] w fun e w' => e = .returned (.int .i64 (-1)) ∧ Below w.heap.size w w' := by
  have CT := hide (fun W (x : nd_At B W v1 L) (y : mk_At B W v2 M) (z : TabD W) => treeAny v1 v2 L M T B W x y hT z hS)
  rw [hr] at CT
  have H1 := hide h1
  have H2 := hide h2
  have HTAB := hide hTab
  obtain ⟨a1, c1, rfl⟩ := nd_form h1
  obtain ⟨a2, c2, rfl⟩ := mk_form h2
  clear h1 h2 hTab hS hr
  go_enter Tryd.func20, Tryd.ntmps20
  go_wp2_with fail
  obtain ⟨w0, hw0⟩ : ∃ w0, w0 = ((w.alloc (.cells #[.slice a1 L.length c1, .slice a2 M.length c2] 31)).alloc (.cells #[.int .i64 x] 2)).alloc (.cells #[.int .i64 0] 2) := ⟨_, rfl⟩
  have hB0 : Below w.heap.size w w0 := by rw [hw0]; exact (((Below.refl _ _).alloc (Nat.le_refl _) _).alloc (by simp) _).alloc (by simp; omega) _
  have z0 : w0.heap.size = w.heap.size + 3 := by rw [hw0]; simp
  have f1 : (w.alloc (.cells #[.slice a1 L.length c1, .slice a2 M.length c2] 31)).heap.size = w.heap.size + 1 := by simp
  have f2 : ((w.alloc (.cells #[.slice a1 L.length c1, .slice a2 M.length c2] 31)).alloc (.cells #[.int .i64 x] 2)).heap.size = w.heap.size + 2 := by simp
  have bA0 : Boxed w0 (w.heap.size + 1) 2 (.int .i64 x) := by rw [hw0, ← f1]; exact (Boxed.new _ 2 _).alloc _
  have bR0 : Boxed w0 (w.heap.size + 2) 2 (.int .i64 0) := by rw [hw0, ← f2]; exact Boxed.new _ 2 _
  rw [← hw0]
  clear hw0 f1 f2
  refine ((unhide CT) w0 (nd_below (unhide H1) hB0) (mk_below (unhide H2) hB0) ((unhide HTAB).below hB0)).mono ?_
  clear CT H1 H2 HTAB
  rintro e w1 ⟨p, rfl, ha, hb1⟩
  have hB1 : Below w.heap.size w w1 := hB0.trans (hb1.mono (by omega))
  have bA1 : Boxed w1 (w.heap.size + 1) 2 (.int .i64 x) := (hb1.block _ (by omega)).trans bA0
  have bR1 : Boxed w1 (w.heap.size + 1 + 1) 2 (.int .i64 0) := (hb1.block (w.heap.size + 2) (by omega)).trans bR0
  have cA := bA1.cell
  have qr := bR1.cell
  have qrf := bR1.frozen
  have HB := hide hB1
  have HR := hide bR1
  clear hB0 z0 bA0 bR0 hb1 hB1 bA1 bR1 ha
  go_wp2
  have y2 : (w1.setCell ⟨w.heap.size + 1 + 1, 0, none⟩ (.int .i64 (-1))).cell? ⟨w.heap.size + 1 + 1, 0, none⟩ = some (.int .i64 (-1)) := ((unhide HR).set (.int .i64 (-1))).cell
  have y3 : Below w.heap.size w (w1.setCell ⟨w.heap.size + 1 + 1, 0, none⟩ (.int .i64 (-1))) := (unhide HB).setCell (p := ⟨w.heap.size + 1 + 1, 0, none⟩) (by show w.heap.size ≤ w.heap.size + 1 + 1; omega) _
  refine bodyPost_ret (v := .int .i64 (-1)) ?_ rfl ⟨rfl, y3⟩
  simp [results, Tryd.results20, go_sem, y2]
set_option maxRecDepth 100000 in
set_option maxHeartbeats 4000000 in
theorem placeNeg (v1 v2 : Value) (L : List Nd) (M : List Mk) (T : RT) (B : Nat) (w : World) (h1 : nd_At B w v1 L) (h2 : mk_At B w v2 M) (hT : IsTr (cat L) T) (hS : Sm L M) (hTab : TabD w) (hr : rgt L (nds T 0) M = true) (x : Int) (hx : x < 0) :
    Calls Tryd.prog 20 #[.agg #[v1, v2], .int .i64 x] w fun e w' => e = .returned (.int .i64 (-1)) ∧ Below w.heap.size w w' := by
  have CT := hide (fun W (x : nd_At B W v1 L) (y : mk_At B W v2 M) (z : TabD W) => treeAny v1 v2 L M T B W x y hT z hS)
  rw [hr] at CT
  have H1 := hide h1
  have H2 := hide h2
  have HTAB := hide hTab
  obtain ⟨a1, c1, rfl⟩ := nd_form h1
  obtain ⟨a2, c2, rfl⟩ := mk_form h2
  clear h1 h2 hTab hS hr
  go_enter Tryd.func20, Tryd.ntmps20
  go_wp2_with fail
  obtain ⟨w0, hw0⟩ : ∃ w0, w0 = ((w.alloc (.cells #[.slice a1 L.length c1, .slice a2 M.length c2] 31)).alloc (.cells #[.int .i64 x] 2)).alloc (.cells #[.int .i64 0] 2) := ⟨_, rfl⟩
  have hB0 : Below w.heap.size w w0 := by rw [hw0]; exact (((Below.refl _ _).alloc (Nat.le_refl _) _).alloc (by simp) _).alloc (by simp; omega) _
  have z0 : w0.heap.size = w.heap.size + 3 := by rw [hw0]; simp
  have f1 : (w.alloc (.cells #[.slice a1 L.length c1, .slice a2 M.length c2] 31)).heap.size = w.heap.size + 1 := by simp
  have f2 : ((w.alloc (.cells #[.slice a1 L.length c1, .slice a2 M.length c2] 31)).alloc (.cells #[.int .i64 x] 2)).heap.size = w.heap.size + 2 := by simp
  have bA0 : Boxed w0 (w.heap.size + 1) 2 (.int .i64 x) := by rw [hw0, ← f1]; exact (Boxed.new _ 2 _).alloc _
  have bR0 : Boxed w0 (w.heap.size + 2) 2 (.int .i64 0) := by rw [hw0, ← f2]; exact Boxed.new _ 2 _
  rw [← hw0]
  clear hw0 f1 f2
  refine ((unhide CT) w0 (nd_below (unhide H1) hB0) (mk_below (unhide H2) hB0) ((unhide HTAB).below hB0)).mono ?_
  clear CT H1 H2 HTAB
  rintro e w1 ⟨p, rfl, ha, hb1⟩
  have hB1 : Below w.heap.size w w1 := hB0.trans (hb1.mono (by omega))
  have bA1 : Boxed w1 (w.heap.size + 1) 2 (.int .i64 x) := (hb1.block _ (by omega)).trans bA0
  have bR1 : Boxed w1 (w.heap.size + 1 + 1) 2 (.int .i64 0) := (hb1.block (w.heap.size + 2) (by omega)).trans bR0
  have cA := bA1.cell
  have qr := bR1.cell
  have qrf := bR1.frozen
  have HB := hide hB1
  have HR := hide bR1
  clear hB0 z0 bA0 bR0 hb1 hB1 bA1 bR1 ha
  go_wp2
  have y2 : (w1.setCell ⟨w.heap.size + 1 + 1, 0, none⟩ (.int .i64 (-1))).cell? ⟨w.heap.size + 1 + 1, 0, none⟩ = some (.int .i64 (-1)) := ((unhide HR).set (.int .i64 (-1))).cell
  have y3 : Below w.heap.size w (w1.setCell ⟨w.heap.size + 1 + 1, 0, none⟩ (.int .i64 (-1))) := (unhide HB).setCell (p := ⟨w.heap.size + 1 + 1, 0, none⟩) (by show w.heap.size ≤ w.heap.size + 1 + 1; omega) _
  refine bodyPost_ret (v := .int .i64 (-1)) ?_ rfl ⟨rfl, y3⟩
  simp [results, Tryd.results20, go_sem, y2]
set_option maxRecDepth 100000 in
set_option maxHeartbeats 4000000 in
theorem placeZero (v1 v2 : Value) (L : List Nd) (M : List Mk) (T : RT) (B : Nat) (w : World) (h1 : nd_At B w v1 L) (h2 : mk_At B w v2 M) (hT : IsTr (cat L) T) (hS : Sm L M) (hTab : TabD w) (hr : rgt L (nds T 0) M = true) :
    Calls Tryd.prog 20 #[.agg #[v1, v2], .int .i64 0] w fun e w' => e = .returned (.int .i64 (0)) ∧ Below w.heap.size w w' := by
  have CT := hide (fun W (x : nd_At B W v1 L) (y : mk_At B W v2 M) (z : TabD W) => treeAny v1 v2 L M T B W x y hT z hS)
  rw [hr] at CT
  have H1 := hide h1
  have H2 := hide h2
  have HTAB := hide hTab
  obtain ⟨a1, c1, rfl⟩ := nd_form h1
  obtain ⟨a2, c2, rfl⟩ := mk_form h2
  clear h1 h2 hTab hS hr
  go_enter Tryd.func20, Tryd.ntmps20
  go_wp2_with fail
  obtain ⟨w0, hw0⟩ : ∃ w0, w0 = ((w.alloc (.cells #[.slice a1 L.length c1, .slice a2 M.length c2] 31)).alloc (.cells #[.int .i64 0] 2)).alloc (.cells #[.int .i64 0] 2) := ⟨_, rfl⟩
  have hB0 : Below w.heap.size w w0 := by rw [hw0]; exact (((Below.refl _ _).alloc (Nat.le_refl _) _).alloc (by simp) _).alloc (by simp; omega) _
  have z0 : w0.heap.size = w.heap.size + 3 := by rw [hw0]; simp
  have f1 : (w.alloc (.cells #[.slice a1 L.length c1, .slice a2 M.length c2] 31)).heap.size = w.heap.size + 1 := by simp
  have f2 : ((w.alloc (.cells #[.slice a1 L.length c1, .slice a2 M.length c2] 31)).alloc (.cells #[.int .i64 0] 2)).heap.size = w.heap.size + 2 := by simp
  have bA0 : Boxed w0 (w.heap.size + 1) 2 (.int .i64 0) := by rw [hw0, ← f1]; exact (Boxed.new _ 2 _).alloc _
  have bR0 : Boxed w0 (w.heap.size + 2) 2 (.int .i64 0) := by rw [hw0, ← f2]; exact Boxed.new _ 2 _
  rw [← hw0]
  clear hw0 f1 f2
  refine ((unhide CT) w0 (nd_below (unhide H1) hB0) (mk_below (unhide H2) hB0) ((unhide HTAB).below hB0)).mono ?_
  clear CT H1 H2 HTAB
  rintro e w1 ⟨p, rfl, ha, hb1⟩
  have hB1 : Below w.heap.size w w1 := hB0.trans (hb1.mono (by omega))
  have bA1 : Boxed w1 (w.heap.size + 1) 2 (.int .i64 0) := (hb1.block _ (by omega)).trans bA0
  have bR1 : Boxed w1 (w.heap.size + 1 + 1) 2 (.int .i64 0) := (hb1.block (w.heap.size + 2) (by omega)).trans bR0
  have cA := bA1.cell
  have qr := bR1.cell
  have qrf := bR1.frozen
  have HB := hide hB1
  have HR := hide bR1
  clear hB0 z0 bA0 bR0 hb1 hB1 bA1 bR1 ha
  go_wp2
  have y2 : (w1.setCell ⟨w.heap.size + 1 + 1, 0, none⟩ (.int .i64 (0))).cell? ⟨w.heap.size + 1 + 1, 0, none⟩ = some (.int .i64 (0)) := ((unhide HR).set (.int .i64 (0))).cell
  have y3 : Below w.heap.size w (w1.setCell ⟨w.heap.size + 1 + 1, 0, none⟩ (.int .i64 (0))) := (unhide HB).setCell (p := ⟨w.heap.size + 1 + 1, 0, none⟩) (by show w.heap.size ≤ w.heap.size + 1 + 1; omega) _
  refine bodyPost_ret (v := .int .i64 (0)) ?_ rfl ⟨rfl, y3⟩
  simp [results, Tryd.results20, go_sem, y2]
theorem placeI (v1 v2 : Value) (L : List Nd) (M : List Mk) (T : RT) (B : Nat) (w : World) (h1 : nd_At B w v1 L) (h2 : mk_At B w v2 M) (hT : IsTr (cat L) T) (hS : Sm L M) (hTab : TabD w) (x : Int) (hx : x ≤ 9223372036854775807) :
    Calls Tryd.prog 20 #[.agg #[v1, v2], .int .i64 x] w fun e w' => e = .returned (.int .i64 (plcAns (rgt L (nds T 0) M) (cat L) x)) ∧ Below w.heap.size w w' := by
  by_cases hr : rgt L (nds T 0) M = true
  · rw [hr]
    by_cases h0 : x < 0
    · rw [plcAns_no (fun h => by omega)]
      exact placeNeg v1 v2 L M T B w h1 h2 hT hS hTab hr x h0
    · by_cases h3 : x = 0
      · have e : plcAns true (cat L) x = 0 := by
          subst h3
          have := plcAns_yes (C := cat L) (k := 0) (Nat.zero_le _)
          have e2 : plB 0 (cat L) = 0 := pB_zero _
          rw [e2] at this
          exact this
        rw [e]
        rw [h3]
        exact placeZero v1 v2 L M T B w h1 h2 hT hS hTab hr
      · obtain ⟨k, rfl⟩ : ∃ k : Nat, x = (k : Int) := ⟨x.toNat, by omega⟩
        exact callsIn_wide.1 (placeYes_in v1 v2 L M T B w h1 h2 hT hS hTab hr k (by omega) (by omega))
  · have hr' : rgt L (nds T 0) M = false := by simpa using hr
    rw [hr', plcAns_no (fun h => by cases h.1)]
    exact placeNoR v1 v2 L M T B w h1 h2 hT hS hTab hr' x
theorem plB_at {s : ByteArray} {i : Nat} (h : i < s.size) (c : bt s i = 10) : plB (endsK s i + 1) s = i + 1 := by
  have hl : i < s.data.toList.length := by rw [Array.length_toList]; exact h
  have e : s.data.toList = s.data.toList.take i ++ s.data.toList.drop i := (List.take_append_drop _ _).symm
  have e3 : endsK s i = (s.data.toList.take i).countP isE := rfl
  unfold plB
  rw [e, pB_far _ _ _ (by rw [e3]; omega), e3]
  have e4 : (s.data.toList.take i).countP isE + 1 - (s.data.toList.take i).countP isE = 1 := by omega
  rw [e4, List.drop_eq_getElem_cons hl, pB_cons]
  have e5 : isE s.data.toList[i] = true := by
    unfold isE
    rw [beq_iff_eq, ← c, ← bt_get s i h]
    rfl
  rw [if_pos e5, pB_zero, List.length_take, Nat.min_eq_left (by omega)]
theorem endsK_ends (s : ByteArray) (i : Nat) : endsK s i ≤ ends s := List.Sublist.countP_le (List.take_sublist _ _)
set_option maxRecDepth 100000 in
set_option maxHeartbeats 4000000 in
theorem placeS (v1 v2 : Value) (L : List Nd) (M : List Mk) (T : RT) (B : Nat) (w : World) (h1 : nd_At B w v1 L) (h2 : mk_At B w v2 M) (hT : IsTr (cat L) T) (hS : Sm L M) (x : Int) (hx : x ≤ 9223372036854775807) :
    Calls Tryd.prog 19 #[.agg #[v1, v2], .int .i64 x] w fun e w' => e = .returned (.int .i64 (plcAns (rgt L (nds T 0) M) (cat L) x)) ∧ Below w.heap.size w w' := by
  have hcc := hS.c
  have CF := hide (fun W (x : nd_At B W v1 L) (y : mk_At B W v2 M) => faultS v1 v2 L M T B W x y hT hS.l hS.m (by omega) hS.n)
  have CX := hide (fun W (x : nd_At B W v1 L) => textS v1 L B W x hS.l (by omega))
  have H1 := hide h1
  have H2 := hide h2
  obtain ⟨a1, c1, rfl⟩ := nd_form h1
  obtain ⟨a2, c2, rfl⟩ := mk_form h2
  clear h1 h2
  have B0 := hide ((Below.refl w.heap.size w).alloc (Nat.le_refl _) (.cells #[.slice a1 L.length c1, .slice a2 M.length c2] 31))
  have N0 := hide (heap_new w (.cells #[.slice a1 L.length c1, .slice a2 M.length c2] 31))
  have Z0 : Hid ((w.alloc (.cells #[.slice a1 L.length c1, .slice a2 M.length c2] 31)).heap.size = w.heap.size + 1) := hide (by simp)
  clear hT hS
  generalize rgt L (nds T 0) M = b at *
  generalize cat L = C at *
  have HNO := hide (plcAns_no (b := b) (C := C) (x := x))
  go_enter Tryd.func19, Tryd.ntmps19
  go_wp2_with fail
  generalize w.alloc (.cells #[.slice a1 L.length c1, .slice a2 M.length c2] 31) = w0 at *
  refine ((unhide CF) _ (nd_below (unhide H1) (unhide B0)) (mk_below (unhide H2) (unhide B0))).mono ?_
  rintro e w1 ⟨rfl, hb1⟩
  have B1 := hide ((unhide B0).trans (hb1.mono (unhide B0).size))
  obtain ⟨n0, n1, _, _⟩ := two_cells ((hb1.block w.heap.size (by rw [unhide Z0]; omega)).trans (unhide N0))
  clear hb1 CF
  cases b
  · rw [flt_no]
    have HR := hide ((unhide HNO) (fun h => by cases h.1))
    clear HNO
    go_wp2
    go_ret
    exact ⟨by rw [unhide HR]; rfl, unhide B1⟩
  · rw [flt_yes]
    by_cases c1 : x < 0
    · have HR := hide ((unhide HNO) (fun h => by omega))
      clear HNO
      go_wp2
      go_ret
      exact ⟨by rw [unhide HR]; rfl, unhide B1⟩
    obtain ⟨k, rfl⟩ : ∃ k : Nat, x = (k : Int) := ⟨x.toNat, by omega⟩
    by_cases c2 : k = 0
    · subst c2
      have HR : Hid (plcAns true C ((0 : Nat) : Int) = 0) := hide (by
        rw [plcAns_yes (Nat.zero_le _)]
        have e2 : plB 0 C = 0 := pB_zero _
        rw [e2]
        rfl)
      clear HNO
      go_wp2_with (go_at_call 23; refine ((unhide CX) _ (nd_below (unhide H1) (unhide B1))).mono ?_; rintro e w2 ⟨rfl, hb2⟩; have B2 := hide ((unhide B1).trans (hb2.mono (unhide B1).size)); clear hb2)
      go_ret
      exact ⟨by rw [unhide HR]; rfl, unhide B2⟩
    have ck : ((k : Int) == 0) = false := by simp; omega
    have ck2 : ¬ (k : Int) = 0 := by omega
    go_wp2_with (go_at_call 23; refine ((unhide CX) _ (nd_below (unhide H1) (unhide B1))).mono ?_; rintro e w2 ⟨rfl, hb2⟩; have B2 := hide ((unhide B1).trans (hb2.mono (unhide B1).size)); clear hb2)
    clear CX H1 H2 n0 n1 B0 B1 N0 Z0
    have HKA := hide (fun i (h : i < C.size) (c : bt C i = 10) => plB_at h c)
    have HKS := hide (endsK_succ C)
    have HKE := hide (endsK_ends C)
    have HALL := hide (endsK_all C)
    go_loopw [1, 6] (fun nv iv wr => ∃ i n : Nat, i ≤ C.size ∧ 1 ≤ n ∧ n ≤ k ∧ nv = .int .i64 (n : Int) ∧ iv = .int .i64 (i : Int) ∧ Hid (endsK C i + n = k) ∧ wr = w2) (fun _ iv _ => (C.size - intOf iv).toNat)
    case atStart => exact ⟨0, k, by omega, by omega, by omega, rfl, rfl, hide (by have : endsK C 0 = 0 := rfl; omega), rfl⟩
    case round =>
      obtain ⟨i, n, hi, hn1, hn2, rfl, rfl, HN, rfl⟩ := hrel
      by_cases h : i < C.size
      · have f0 : ∀ h, (C[i]'h).toNat = bt C i := fun h => bt_get C i h
        have hst := (unhide HKS) i h
        by_cases c : bt C i = 10
        · have hc : (bt C i : Int) = 10 := by omega
          have hat := (unhide HKA) i h c
          rw [if_pos c] at hst
          have wr1 : IntKind.i64.wrap ((n : Int) - 1) = (n : Int) - 1 := wrapI _ (by omega) (by omega)
          by_cases d : n = 1
          · subst d
            have hle := (unhide HKE) (i + 1)
            have HR : Hid (plcAns true C (k : Int) = ((i + 1 : Nat) : Int)) := hide (by
              have e := unhide HN
              rw [plcAns_yes (by omega), ← e, hat])
            have d0 : (((1 : Nat) : Int) - 1 == 0) = true := by decide
            have wr2 : IntKind.i64.wrap ((i : Int) + 1) = (i : Int) + 1 := wrapI _ (by omega) (by omega)
            clear hst hat c hle HNO HKA HKS HKE HALL
            go_wp2
            go_ret
            exact ⟨by rw [unhide HR]; exact ret_int (by omega), unhide B2⟩
          · have HN2 : Hid (endsK C (i + 1) + (n - 1) = k) := hide (by have := unhide HN; omega)
            have d0 : ((n : Int) - 1 == 0) = false := by simp; omega
            have d1 : ¬ (n : Int) - 1 = 0 := by omega
            clear hst hat c HNO
            go_wp2
            go_roundw
            case rel => exact ⟨i + 1, n - 1, by omega, by omega, by omega, by congr 1; omega, by go_num, HN2, by first | rfl | trivial⟩
            case measure => simp [intOf]; omega
        · have hc : ¬ (bt C i : Int) = 10 := by omega
          rw [if_neg c] at hst
          have HN2 : Hid (endsK C (i + 1) + n = k) := hide (by have := unhide HN; omega)
          clear hst c HNO
          go_wp2
          go_roundw
          case rel => exact ⟨i + 1, n, by omega, by omega, by omega, rfl, by go_num, HN2, by first | rfl | trivial⟩
          case measure => simp [intOf]; omega
      · obtain rfl : i = C.size := by omega
        have HR := hide ((unhide HNO) (fun h => by have := unhide HN; have := unhide HALL; omega))
        go_wp2
        go_ret
        exact ⟨by rw [unhide HR]; rfl, unhide B2⟩
end Go.Proofs.YtaipnmmlfbfcnaaDoor.Rop
