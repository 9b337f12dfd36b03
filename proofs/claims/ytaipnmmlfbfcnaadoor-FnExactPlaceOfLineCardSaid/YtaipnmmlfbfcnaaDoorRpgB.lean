/- LineAt of a rope: what the program answers where there is no line, and the specification's LineAt. -/
import Derived.Test.YtaipnmmlfbfcnaaDoorRpgA
namespace Go.Proofs.YtaipnmmlfbfcnaaDoor.Rop
open Go.RowKit Rwc
set_option linter.unusedVariables false
set_option linter.unusedSimpArgs false
theorem ans_drew {T : RT} {b : Bool} {W : World} {p : Option Addr} (h : Ans T b W p) : Ans T b W.drew p := by
  rcases h with ⟨h1, h2⟩ | ⟨h1, H, h2, h3, h4⟩
  · exact .inl ⟨h1, h2⟩
  · exact .inr ⟨h1, H, h2, h3, in_drew h4⟩
set_option maxRecDepth 100000 in
set_option maxHeartbeats 4000000 in
theorem lineNoR (v1 v2 : Value) (L : List Nd) (M : List Mk) (T : RT) (B : Nat) (w : World) (h1 : nd_At B w v1 L) (h2 : mk_At B w v2 M) (hT : IsTr (cat L) T) (hS : Sm L M) (hTab : TabD w) (hr : rgt L (nds T 0) M = false) (x : Int) :
    Calls Tryd.prog 18 #[.agg #[v1, v2], .int .i64 x] w fun e w' => e = .returned (.int .i64 (-1)) ∧ Below w.heap.size w w' := by
  have CT := hide (fun W (x : nd_At B W v1 L) (y : mk_At B W v2 M) (z : TabD W) => treeAny v1 v2 L M T B W x y hT z hS)
  rw [hr] at CT
  have H1 := hide h1
  have H2 := hide h2
  have HTAB := hide hTab
  obtain ⟨a1, c1, rfl⟩ := nd_form h1
  obtain ⟨a2, c2, rfl⟩ := mk_form h2
  clear h1 h2 hTab hS hr
  generalize cat L = C at *
  go_enter Tryd.func18, Tryd.ntmps18
  go_wp2_with fail
  obtain ⟨w0, hw0⟩ : ∃ w0, w0 = ((w.alloc (.cells #[.slice a1 L.length c1, .slice a2 M.length c2] 31)).alloc (.cells #[.int .i64 x] 2)).alloc (.cells #[.int .i64 0] 2) := ⟨_, rfl⟩
  have hB0 : Below w.heap.size w w0 := by rw [hw0]; exact (((Below.refl _ _).alloc (Nat.le_refl _) _).alloc (by simp) _).alloc (by simp; omega) _
  have z0 : w0.heap.size = w.heap.size + 3 := by rw [hw0]; simp
  have f1 : (w.alloc (.cells #[.slice a1 L.length c1, .slice a2 M.length c2] 31)).heap.size = w.heap.size + 1 := by simp
  have f2 : ((w.alloc (.cells #[.slice a1 L.length c1, .slice a2 M.length c2] 31)).alloc (.cells #[.int .i64 x] 2)).heap.size = w.heap.size + 2 := by simp
  have bA0 : Boxed w0 (w.heap.size + 1) 2 (.int .i64 x) := by rw [hw0, ← f1]; exact (Boxed.new _ 2 _).alloc _
  have bR0 : Boxed w0 (w.heap.size + 2) 2 (.int .i64 0) := by rw [hw0, ← f2]; exact Boxed.new _ 2 _
  rw [← hw0]
  clear hw0 f1 f2
  refine ((unhide CT) w0 (nd_below (unhide H1) hB0) (mk_below (unhide H2) hB0) ((unhide HTAB).below hB0)).mono ?_
  clear CT H1 H2 HTAB
  rintro e w1 ⟨p, rfl, ha, hb1⟩
  have hB1 : Below w.heap.size w w1 := hB0.trans (hb1.mono (by omega))
  have bA1 : Boxed w1 (w.heap.size + 1) 2 (.int .i64 x) := (hb1.block _ (by omega)).trans bA0
  have bR1 : Boxed w1 (w.heap.size + 1 + 1) 2 (.int .i64 0) := (hb1.block (w.heap.size + 2) (by omega)).trans bR0
  have AD : Hid (Ans T false w1.drew p) := hide (ans_drew ha)
  have cA := bA1.cell
  have cD : w1.drew.cell? ⟨w.heap.size + 1, 0, none⟩ = some (.int .i64 x) := cA
  have qr := bR1.cell
  have qrf := bR1.frozen
  have qd : w1.drew.cell? ⟨w.heap.size + 1 + 1, 0, none⟩ = some (.int .i64 0) := qr
  have qdf : w1.drew.frozen? ⟨w.heap.size + 1 + 1, 0, none⟩ = false := qrf
  have HB : Hid (Below w.heap.size w w1.drew) := hide (bdrew hB1 1)
  have HR : Hid (Boxed w1.drew (w.heap.size + 1 + 1) 2 (.int .i64 0)) := hide bR1
  clear hB0 z0 bA0 bR0 hb1 hB1 bA1 bR1 ha
  go_wp2_with fail
  refine wp_region_noPanic ?_
  refine wp_region_held_drew (S := fun w' : World => w'.cell? ⟨w.heap.size + 1, 0, none⟩ = some (.int .i64 x)) (by kernel_rfl) (by first | go_keep | exact cA) (fun hHeld => ?_)
  refine tkM (i := 0) (d := some 15) (v := ?_) rfl rfl (by kernel_rfl) (by kernel_rfl) (by kernel_rfl) (fun _ _ _ h => h) (Or.inl ⟨by rfl, ?_⟩) (by assumption) ?_
  rotate_left
  · intro w hSw; (try dsimp only at hSw); go_simp; try with_reducible rfl
  try simp only [Act.put, List.setIfInBounds_toArray, List.set_cons_zero, List.set_cons_succ]
  refine tkM (i := 1) (d := some 16) (v := ?_) rfl rfl (by kernel_rfl) (by kernel_rfl) (by kernel_rfl) (fun _ _ _ h => h) (Or.inl ⟨by rfl, ?_⟩) (by assumption) ?_
  rotate_left
  · intro w hSw; (try dsimp only at hSw); go_simp; try with_reducible rfl
  try simp only [Act.put, List.setIfInBounds_toArray, List.set_cons_zero, List.set_cons_succ]
  refine tkM (i := 2) (d := some 17) (v := ?_) rfl rfl (by kernel_rfl) (by kernel_rfl) (by kernel_rfl) (fun _ _ _ h => h) (Or.inl ⟨by rfl, ?_⟩) (by assumption) ?_
  rotate_left
  · intro w hSw; (try dsimp only at hSw); go_simp; try with_reducible rfl
  try simp only [Act.put, List.setIfInBounds_toArray, List.set_cons_zero, List.set_cons_succ]
  refine tkM (i := 3) (d := some 18) (v := undef) rfl rfl (by kernel_rfl) (by kernel_rfl) (by kernel_rfl) (fun _ _ _ h => h) (Or.inr ⟨by rfl, rfl⟩) (by assumption) ?_
  try simp only [Act.put, List.setIfInBounds_toArray, List.set_cons_zero, List.set_cons_succ]
  refine tkM (i := 4) (d := some 19) (v := undef) rfl rfl (by kernel_rfl) (by kernel_rfl) (by kernel_rfl) (fun _ _ _ h => h) (Or.inr ⟨by rfl, rfl⟩) (by assumption) ?_
  try simp only [Act.put, List.setIfInBounds_toArray, List.set_cons_zero, List.set_cons_succ]
  refine tkM (i := 5) (d := some 20) (v := undef) rfl rfl (by kernel_rfl) (by kernel_rfl) (by kernel_rfl) (fun _ _ _ h => h) (Or.inr ⟨by rfl, rfl⟩) (by assumption) ?_
  try simp only [Act.put, List.setIfInBounds_toArray, List.set_cons_zero, List.set_cons_succ]
  refine tkM (i := 6) (d := some 21) (v := undef) rfl rfl (by kernel_rfl) (by kernel_rfl) (by kernel_rfl) (fun _ _ _ h => h) (Or.inr ⟨by rfl, rfl⟩) (by assumption) ?_
  try simp only [Act.put, List.setIfInBounds_toArray, List.set_cons_zero, List.set_cons_succ]
  refine tkM (i := 7) (d := some 22) (v := undef) rfl rfl (by kernel_rfl) (by kernel_rfl) (by kernel_rfl) (fun _ _ _ h => h) (Or.inr ⟨by rfl, rfl⟩) (by assumption) ?_
  try simp only [Act.put, List.setIfInBounds_toArray, List.set_cons_zero, List.set_cons_succ]
  refine tkM (i := 8) (d := some 23) (v := undef) rfl rfl (by kernel_rfl) (by kernel_rfl) (by kernel_rfl) (fun _ _ _ h => h) (Or.inr ⟨by rfl, rfl⟩) (by assumption) ?_
  try simp only [Act.put, List.setIfInBounds_toArray, List.set_cons_zero, List.set_cons_succ]
  refine tkM (i := 9) (d := some 24) (v := ?_) rfl rfl (by kernel_rfl) (by kernel_rfl) (by kernel_rfl) (fun _ _ _ h => h) (Or.inl ⟨by rfl, ?_⟩) (by assumption) ?_
  rotate_left
  · intro w hSw; (try dsimp only at hSw); go_simp; try with_reducible rfl
  try simp only [Act.put, List.setIfInBounds_toArray, List.set_cons_zero, List.set_cons_succ]
  refine wpAnyH_done (by kernel_rfl) ?_ _
  refine NoPanic.normal ?_
  clear cA cD
  go_wp2
  have y2 : (w1.drew.setCell ⟨w.heap.size + 1 + 1, 0, none⟩ (.int .i64 (-1))).cell? ⟨w.heap.size + 1 + 1, 0, none⟩ = some (.int .i64 (-1)) := ((unhide HR).set (.int .i64 (-1))).cell
  have y3 : Below w.heap.size w (w1.drew.setCell ⟨w.heap.size + 1 + 1, 0, none⟩ (.int .i64 (-1))) := (unhide HB).setCell (p := ⟨w.heap.size + 1 + 1, 0, none⟩) (by show w.heap.size ≤ w.heap.size + 1 + 1; omega) _
  refine bodyPost_ret (v := .int .i64 (-1)) ?_ rfl ⟨rfl, y3⟩
  have y1 : (w1.setCell ⟨w.heap.size + 1 + 1, 0, none⟩ (.int .i64 (-1))).cell? ⟨w.heap.size + 1 + 1, 0, none⟩ = some (.int .i64 (-1)) := y2
  simp [results, Tryd.results18, go_sem, y1]
set_option maxRecDepth 100000 in
set_option maxHeartbeats 4000000 in
theorem lineNoP (v1 v2 : Value) (L : List Nd) (M : List Mk) (T : RT) (B : Nat) (w : World) (h1 : nd_At B w v1 L) (h2 : mk_At B w v2 M) (hT : IsTr (cat L) T) (hS : Sm L M) (hTab : TabD w) (hr : rgt L (nds T 0) M = true) (x : Int) (hx : (decide (0 ≤ x) && decide (x ≤ ((cat L).size : Int))) = false) :
    Calls Tryd.prog 18 #[.agg #[v1, v2], .int .i64 x] w fun e w' => e = .returned (.int .i64 (-1)) ∧ Below w.heap.size w w' := by
  have CT := hide (fun W (x : nd_At B W v1 L) (y : mk_At B W v2 M) (z : TabD W) => treeAny v1 v2 L M T B W x y hT z hS)
  rw [hr] at CT
  have CX := hide (fun W p (x : Ans T true W p) => textAny T (cat L) hT true W p x)
  have CW := hide (fun W => within_any x 0 ((cat L).size : Int) W)
  have e0 : txt true (cat L) = cat L := rfl
  rw [e0] at CX
  rw [hx] at CW
  clear e0 hx
  have H1 := hide h1
  have H2 := hide h2
  have HTAB := hide hTab
  obtain ⟨a1, c1, rfl⟩ := nd_form h1
  obtain ⟨a2, c2, rfl⟩ := mk_form h2
  clear h1 h2 hTab hS hr
  generalize cat L = C at *
  go_enter Tryd.func18, Tryd.ntmps18
  go_wp2_with fail
  obtain ⟨w0, hw0⟩ : ∃ w0, w0 = ((w.alloc (.cells #[.slice a1 L.length c1, .slice a2 M.length c2] 31)).alloc (.cells #[.int .i64 x] 2)).alloc (.cells #[.int .i64 0] 2) := ⟨_, rfl⟩
  have hB0 : Below w.heap.size w w0 := by rw [hw0]; exact (((Below.refl _ _).alloc (Nat.le_refl _) _).alloc (by simp) _).alloc (by simp; omega) _
  have z0 : w0.heap.size = w.heap.size + 3 := by rw [hw0]; simp
  have f1 : (w.alloc (.cells #[.slice a1 L.length c1, .slice a2 M.length c2] 31)).heap.size = w.heap.size + 1 := by simp
  have f2 : ((w.alloc (.cells #[.slice a1 L.length c1, .slice a2 M.length c2] 31)).alloc (.cells #[.int .i64 x] 2)).heap.size = w.heap.size + 2 := by simp
  have bA0 : Boxed w0 (w.heap.size + 1) 2 (.int .i64 x) := by rw [hw0, ← f1]; exact (Boxed.new _ 2 _).alloc _
  have bR0 : Boxed w0 (w.heap.size + 2) 2 (.int .i64 0) := by rw [hw0, ← f2]; exact Boxed.new _ 2 _
  rw [← hw0]
  clear hw0 f1 f2
  refine ((unhide CT) w0 (nd_below (unhide H1) hB0) (mk_below (unhide H2) hB0) ((unhide HTAB).below hB0)).mono ?_
  clear CT H1 H2 HTAB
  rintro e w1 ⟨p, rfl, ha, hb1⟩
  have hB1 : Below w.heap.size w w1 := hB0.trans (hb1.mono (by omega))
  have bA1 : Boxed w1 (w.heap.size + 1) 2 (.int .i64 x) := (hb1.block _ (by omega)).trans bA0
  have bR1 : Boxed w1 (w.heap.size + 1 + 1) 2 (.int .i64 0) := (hb1.block (w.heap.size + 2) (by omega)).trans bR0
  have AD : Hid (Ans T true w1.drew p) := hide (ans_drew ha)
  have cA := bA1.cell
  have cD : w1.drew.cell? ⟨w.heap.size + 1, 0, none⟩ = some (.int .i64 x) := cA
  have qr := bR1.cell
  have qrf := bR1.frozen
  have qd : w1.drew.cell? ⟨w.heap.size + 1 + 1, 0, none⟩ = some (.int .i64 0) := qr
  have qdf : w1.drew.frozen? ⟨w.heap.size + 1 + 1, 0, none⟩ = false := qrf
  have HB : Hid (Below w.heap.size w w1.drew) := hide (bdrew hB1 1)
  have HR : Hid (Boxed w1.drew (w.heap.size + 1 + 1) 2 (.int .i64 0)) := hide bR1
  clear hB0 z0 bA0 bR0 hb1 hB1 bA1 bR1 ha
  go_wp2_with fail
  refine wp_region_noPanic ?_
  refine wp_region_held_drew (S := fun w' : World => w'.cell? ⟨w.heap.size + 1, 0, none⟩ = some (.int .i64 x)) (by kernel_rfl) (by first | go_keep | exact cA) (fun hHeld => ?_)
  refine tkM (i := 0) (d := some 15) (v := ?_) rfl rfl (by kernel_rfl) (by kernel_rfl) (by kernel_rfl) (fun _ _ _ h => h) (Or.inl ⟨by rfl, ?_⟩) (by assumption) ?_
  rotate_left
  · intro w hSw; (try dsimp only at hSw); go_simp; try with_reducible rfl
  try simp only [Act.put, List.setIfInBounds_toArray, List.set_cons_zero, List.set_cons_succ]
  refine tkM (i := 1) (d := some 16) (v := ?_) rfl rfl (by kernel_rfl) (by kernel_rfl) (by kernel_rfl) (fun _ _ _ h => h) (Or.inl ⟨by rfl, ?_⟩) (by assumption) ?_
  rotate_left
  · intro w hSw; (try dsimp only at hSw); go_simp; try with_reducible rfl
  try simp only [Act.put, List.setIfInBounds_toArray, List.set_cons_zero, List.set_cons_succ]
  refine tkM (i := 2) (d := some 17) (v := ?_) rfl rfl (by kernel_rfl) (by kernel_rfl) (by kernel_rfl) (fun _ _ _ h => h) (Or.inl ⟨by rfl, ?_⟩) (by assumption) ?_
  rotate_left
  · intro w hSw; (try dsimp only at hSw); go_simp; try with_reducible rfl
  try simp only [Act.put, List.setIfInBounds_toArray, List.set_cons_zero, List.set_cons_succ]
  refine tkM (i := 3) (d := some 18) (v := ?_) rfl rfl (by kernel_rfl) (by kernel_rfl) (by kernel_rfl) (fun _ _ _ h => h) (Or.inl ⟨by rfl, ?_⟩) (by assumption) ?_
  rotate_left
  · intro w hSw; (try dsimp only at hSw); go_simp; try with_reducible rfl
  try simp only [Act.put, List.setIfInBounds_toArray, List.set_cons_zero, List.set_cons_succ]
  refine tkM (i := 4) (d := some 19) (v := ?_) rfl rfl (by kernel_rfl) (by kernel_rfl) (by kernel_rfl) (fun _ _ _ h => h) (Or.inl ⟨by rfl, ?_⟩) (by assumption) ?_
  rotate_left
  · intro w hSw; (try dsimp only at hSw); go_simp; try with_reducible rfl
  try simp only [Act.put, List.setIfInBounds_toArray, List.set_cons_zero, List.set_cons_succ]
  refine wpAnyH_ready (rs := [5]) (by kernel_rfl) (by simp) (AllReadyH.cons rfl (fun Kq hK => ?_) AllReadyH.nil)
  go_simp
  go_at_call 31
  refine ((unhide CX) _ _ (unhide AD)).mono ?_
  rintro e W2 ⟨rfl, hw⟩
  obtain rfl := hw.symm
  clear hw
  try go_wp2_with fail
  refine hK.out _ _ cD (fun hHeld5 => ?_)
  clear hK Kq
  try simp only [Act.put, List.setIfInBounds_toArray, List.set_cons_zero, List.set_cons_succ]
  refine tkM (i := 6) (d := some 21) (v := ?_) rfl rfl (by kernel_rfl) (by kernel_rfl) (by kernel_rfl) (fun _ _ _ h => h) (Or.inl ⟨by rfl, ?_⟩) (by assumption) ?_
  rotate_left
  · intro w hSw; (try dsimp only at hSw); go_simp; try with_reducible rfl
  try simp only [Act.put, List.setIfInBounds_toArray, List.set_cons_zero, List.set_cons_succ]
  refine wpAnyH_ready (rs := [7]) (by kernel_rfl) (by simp) (AllReadyH.cons rfl (fun Kq hK => ?_) AllReadyH.nil)
  go_simp
  go_at_call 32
  refine ((unhide CW) _).mono ?_
  rintro e W2 ⟨rfl, hw⟩
  obtain rfl := hw.symm
  clear hw
  try go_wp2_with fail
  refine hK.out _ _ cD (fun hHeld7 => ?_)
  clear hK Kq
  try simp only [Act.put, List.setIfInBounds_toArray, List.set_cons_zero, List.set_cons_succ]
  refine tkM (i := 8) (d := some 23) (v := ?_) rfl rfl (by kernel_rfl) (by kernel_rfl) (by kernel_rfl) (fun _ _ _ h => h) (Or.inl ⟨by rfl, ?_⟩) (by assumption) ?_
  rotate_left
  · intro w hSw; (try dsimp only at hSw); go_simp; try with_reducible rfl
  try simp only [Act.put, List.setIfInBounds_toArray, List.set_cons_zero, List.set_cons_succ]
  refine tkM (i := 9) (d := some 24) (v := ?_) rfl rfl (by kernel_rfl) (by kernel_rfl) (by kernel_rfl) (fun _ _ _ h => h) (Or.inl ⟨by rfl, ?_⟩) (by assumption) ?_
  rotate_left
  · intro w hSw; (try dsimp only at hSw); go_simp; try with_reducible rfl
  try simp only [Act.put, List.setIfInBounds_toArray, List.set_cons_zero, List.set_cons_succ]
  refine wpAnyH_done (by kernel_rfl) ?_ _
  refine NoPanic.normal ?_
  clear cA cD
  go_wp2
  have y2 : (w1.drew.setCell ⟨w.heap.size + 1 + 1, 0, none⟩ (.int .i64 (-1))).cell? ⟨w.heap.size + 1 + 1, 0, none⟩ = some (.int .i64 (-1)) := ((unhide HR).set (.int .i64 (-1))).cell
  have y3 : Below w.heap.size w (w1.drew.setCell ⟨w.heap.size + 1 + 1, 0, none⟩ (.int .i64 (-1))) := (unhide HB).setCell (p := ⟨w.heap.size + 1 + 1, 0, none⟩) (by show w.heap.size ≤ w.heap.size + 1 + 1; omega) _
  refine bodyPost_ret (v := .int .i64 (-1)) ?_ rfl ⟨rfl, y3⟩
  have y1 : (w1.setCell ⟨w.heap.size + 1 + 1, 0, none⟩ (.int .i64 (-1))).cell? ⟨w.heap.size + 1 + 1, 0, none⟩ = some (.int .i64 (-1)) := y2
  simp [results, Tryd.results18, go_sem, y1]
theorem lineI (v1 v2 : Value) (L : List Nd) (M : List Mk) (T : RT) (B : Nat) (w : World) (h1 : nd_At B w v1 L) (h2 : mk_At B w v2 M) (hT : IsTr (cat L) T) (hS : Sm L M) (hTab : TabD w) (x : Int) :
    Calls Tryd.prog 18 #[.agg #[v1, v2], .int .i64 x] w fun e w' => e = .returned (.int .i64 (lineAns (rgt L (nds T 0) M) (cat L) x)) ∧ Below w.heap.size w w' := by
  by_cases hr : rgt L (nds T 0) M = true
  · by_cases hx : 0 ≤ x ∧ x ≤ ((cat L).size : Int)
    · obtain ⟨k, rfl⟩ : ∃ k : Nat, x = (k : Int) := ⟨x.toNat, by omega⟩
      have hk : k ≤ (cat L).size := by omega
      rw [hr, lineAns_yes hk]
      exact callsIn_wide.1 (lineYes_in v1 v2 L M T B w h1 h2 hT hS hTab hr k hk)
    · rw [hr, lineAns_no (fun h => hx h.2)]
      refine lineNoP v1 v2 L M T B w h1 h2 hT hS hTab hr x ?_
      simp only [Bool.and_eq_false_iff, decide_eq_false_iff_not]
      omega
  · have hr' : rgt L (nds T 0) M = false := by simpa using hr
    rw [hr', lineAns_no (fun h => by cases h.1)]
    exact lineNoR v1 v2 L M T B w h1 h2 hT hS hTab hr' x
set_option maxRecDepth 100000 in
set_option maxHeartbeats 4000000 in
theorem lineS (v1 v2 : Value) (L : List Nd) (M : List Mk) (T : RT) (B : Nat) (w : World) (h1 : nd_At B w v1 L) (h2 : mk_At B w v2 M) (hT : IsTr (cat L) T) (hS : Sm L M) (x : Int) :
    Calls Tryd.prog 17 #[.agg #[v1, v2], .int .i64 x] w fun e w' => e = .returned (.int .i64 (lineAns (rgt L (nds T 0) M) (cat L) x)) ∧ Below w.heap.size w w' := by
  have hcc := hS.c
  have CF := hide (fun W (x : nd_At B W v1 L) (y : mk_At B W v2 M) => faultS v1 v2 L M T B W x y hT hS.l hS.m (by omega) hS.n)
  have CT := hide (fun W (x : nd_At B W v1 L) (y : mk_At B W v2 M) => ropeTextS v1 v2 L M T B W x y hT hS)
  have H1 := hide h1
  have H2 := hide h2
  obtain ⟨a1, c1, rfl⟩ := nd_form h1
  obtain ⟨a2, c2, rfl⟩ := mk_form h2
  clear h1 h2
  have B0 := hide ((Below.refl w.heap.size w).alloc (Nat.le_refl _) (.cells #[.slice a1 L.length c1, .slice a2 M.length c2] 31))
  have N0 := hide (heap_new w (.cells #[.slice a1 L.length c1, .slice a2 M.length c2] 31))
  have Z0 : Hid ((w.alloc (.cells #[.slice a1 L.length c1, .slice a2 M.length c2] 31)).heap.size = w.heap.size + 1) := hide (by simp)
  clear hT hS
  generalize rgt L (nds T 0) M = b at *
  generalize cat L = C at *
  have HNO := hide (lineAns_no (b := b) (C := C) (at' := x))
  go_enter Tryd.func17, Tryd.ntmps17
  go_wp2_with fail
  generalize w.alloc (.cells #[.slice a1 L.length c1, .slice a2 M.length c2] 31) = w0 at *
  refine ((unhide CT) _ (nd_below (unhide H1) (unhide B0)) (mk_below (unhide H2) (unhide B0))).mono ?_
  rintro e w1 ⟨rfl, hb1⟩
  have B1 := hide ((unhide B0).trans (hb1.mono (unhide B0).size))
  obtain ⟨n0, n1, _, _⟩ := two_cells ((hb1.block w.heap.size (by rw [unhide Z0]; omega)).trans (unhide N0))
  clear hb1 CT
  cases b
  · rw [flt_no] at CF
    have HR := hide ((unhide HNO) (fun h => by cases h.1))
    clear HNO
    generalize txt false C = X at *
    go_wp2_with (go_at_call 9; refine ((unhide CF) _ (nd_below (unhide H1) (unhide B1)) (mk_below (unhide H2) (unhide B1))).mono ?_; rintro e w2 ⟨rfl, hb2⟩; have B2 := hide ((unhide B1).trans (hb2.mono (unhide B1).size)); clear hb2)
    go_ret
    exact ⟨by rw [unhide HR]; rfl, unhide B2⟩
  · rw [flt_yes] at CF
    have e0 : txt true C = C := rfl
    rw [e0]
    by_cases c1 : x < 0
    · have HR := hide ((unhide HNO) (fun h => by omega))
      clear HNO
      go_wp2_with (go_at_call 9; refine ((unhide CF) _ (nd_below (unhide H1) (unhide B1)) (mk_below (unhide H2) (unhide B1))).mono ?_; rintro e w2 ⟨rfl, hb2⟩; have B2 := hide ((unhide B1).trans (hb2.mono (unhide B1).size)); clear hb2)
      go_ret
      exact ⟨by rw [unhide HR]; rfl, unhide B2⟩
    by_cases c2 : (C.size : Int) < x
    · have HR := hide ((unhide HNO) (fun h => by omega))
      clear HNO
      go_wp2_with (go_at_call 9; refine ((unhide CF) _ (nd_below (unhide H1) (unhide B1)) (mk_below (unhide H2) (unhide B1))).mono ?_; rintro e w2 ⟨rfl, hb2⟩; have B2 := hide ((unhide B1).trans (hb2.mono (unhide B1).size)); clear hb2)
      go_ret
      exact ⟨by rw [unhide HR]; rfl, unhide B2⟩
    obtain ⟨k, rfl⟩ : ∃ k : Nat, x = (k : Int) := ⟨x.toNat, by omega⟩
    have hk : k ≤ C.size := by omega
    have HR := hide (lineAns_yes (C := C) hk)
    have CE := hide (fun W => endsS (C.extract 0 k) W (by rw [ByteArray.size_extract]; omega))
    clear HNO
    have d0 : (0 : Int) ≤ (k : Int) := by omega
    have d1 : (k : Int) ≤ (C.size : Int) := by omega
    clear c1 c2
    go_wp2_with (first
      | (go_at_call 9; refine ((unhide CF) _ (nd_below (unhide H1) (unhide B1)) (mk_below (unhide H2) (unhide B1))).mono ?_; rintro e w2 ⟨rfl, hb2⟩; have B2 := hide ((unhide B1).trans (hb2.mono (unhide B1).size)); clear hb2)
      | (go_at_call 33; refine ((unhide CE) _).mono ?_; rintro e w3 ⟨rfl, hw⟩; obtain rfl := hw.symm; clear hw))
    go_ret
    exact ⟨by rw [unhide HR]; rfl, unhide B2⟩
end Go.Proofs.YtaipnmmlfbfcnaaDoor.Rop
