/- The tree of a rope, if it is right, as the program works it out. -/
import Derived.Test.YtaipnmmlfbfcnaaDoorRpfC
namespace Go.Proofs.YtaipnmmlfbfcnaaDoor.Rop
open Go.RowKit Rwc
set_option linter.unusedVariables false
set_option maxRecDepth 100000 in
theorem collI (Bt n₀ : Nat) (H : HT) (t : ByteArray) (hT : IsTr t H.sh) (hs : t.size ≤ 65536) (w : World) (hin : In n₀ w H) (hn : n₀ ≤ w.heap.size) (bP : w.cell? ⟨Bt, 0, none⟩ = some (.pointer H.ptr)) (hBt : Bt < w.heap.size) :
    Calls Tryd.prog 47 #[.func (.func 63) #[] #[.pointer (some ⟨Bt, 0, none⟩)]] w fun e w' => ∃ a c, e = .returned (.slice a (nds H.sh 0).length c) ∧ Ny w.heap.size w' (.slice a (nds H.sh 0).length c) (nds H.sh 0) ∧ Below w.heap.size w w' := by
  have CA := hide ((callsIn_wide (n := 6)).1 (appendSeqI Bt n₀ H t hT hs w hin hn bP hBt))
  clear hin hn bP hBt hT
  go_enter Tryd.func47, Tryd.ntmps47
  go_wp2_with (go_at_call 62; refine (unhide CA).mono ?_; rintro e w2 ⟨v, rfl, ho, hb⟩; obtain ⟨a, c, rfl⟩ := own_formN ho; have HO := hide ho; have HB := hide hb; clear ho hb)
  go_ret
  exact ⟨a, c, rfl, unhide HO, unhide HB⟩
theorem rope_box {w w' : World} {a b : Value} {T : TypeId} (hb : Below (w.alloc (.cells #[a, b] T)).heap.size (w.alloc (.cells #[a, b] T)) w') : w'.heap[w.heap.size]? = some (.cells #[a, b] T (0, 0)) :=
  (hb.block w.heap.size (by simp)).trans (heap_new w _)
set_option maxRecDepth 100000 in
set_option maxHeartbeats 8000000 in
theorem treeLong (v1 v2 : Value) (L : List Nd) (M : List Mk) (T : RT) (B : Nat) (w : World) (h1 : nd_At B w v1 L) (h2 : mk_At B w v2 M) (hT : IsTr (cat L) T) (hTab : TabD w) (hL : L.length ≤ 1048576) (hM : M.length ≤ 1048576)
    (hs1 : ∀ i, i < L.length → (nd_g L i).text.size ≤ 1048576) (hs2 : ∀ i, i < M.length → (mk_g M i).name.size ≤ 1048576) (hc : ¬ (cat L).size ≤ 65536) :
    Calls Tryd.prog 28 #[.agg #[v1, v2]] w fun e w' => e = .returned (.tuple #[.pointer none, .bool false]) ∧ Below w.heap.size w w' := by
  have CJ := hide (fun W (h : nd_At B W v1 L) => joinI v1 L B W h hL hs1)
  have H1 := hide h1
  have H2 := hide h2
  have HTAB := hide hTab
  obtain ⟨a1, c1, rfl⟩ := nd_form h1
  obtain ⟨a2, c2, rfl⟩ := mk_form h2
  clear h1 h2 hTab hs1
  have B0 := hide ((Below.refl w.heap.size w).alloc (Nat.le_refl _) (.cells #[.slice a1 L.length c1, .slice a2 M.length c2] 31))
  have N0 := hide (heap_new w (.cells #[.slice a1 L.length c1, .slice a2 M.length c2] 31))
  have Z0 : Hid ((w.alloc (.cells #[.slice a1 L.length c1, .slice a2 M.length c2] 31)).heap.size = w.heap.size + 1) := hide (by simp)
  rw [if_neg hc, decide_eq_false hc] at CJ
  go_enter Tryd.func28, Tryd.ntmps28
  go_wp2_with fail
  generalize w.alloc (.cells #[.slice a1 L.length c1, .slice a2 M.length c2] 31) = w0 at *
  refine ((unhide CJ) _ (nd_below (unhide H1) ((unhide B0)))).mono ?_
  rintro e w1 ⟨rfl, hb1⟩
  have B1 := hide ((unhide B0).trans (hb1.mono (unhide B0).size))
  have N1 := hide ((hb1.block w.heap.size (by rw [unhide Z0]; omega)).trans (unhide N0))
  have Z1 : Hid (w.heap.size + 1 ≤ w1.heap.size) := hide (by have := hb1.size; rw [unhide Z0] at this; exact this)
  clear hb1 N0 CJ
  go_wp2
  go_ret2
  exact ⟨rfl, unhide B1⟩
set_option maxRecDepth 100000 in
set_option maxHeartbeats 8000000 in
theorem treeMarks (v1 v2 : Value) (L : List Nd) (M : List Mk) (T : RT) (B : Nat) (w : World) (h1 : nd_At B w v1 L) (h2 : mk_At B w v2 M) (hT : IsTr (cat L) T) (hTab : TabD w) (hL : L.length ≤ 1048576) (hM : M.length ≤ 1048576)
    (hs1 : ∀ i, i < L.length → (nd_g L i).text.size ≤ 1048576) (hs2 : ∀ i, i < M.length → (mk_g M i).name.size ≤ 1048576) (hc : (cat L).size ≤ 65536) (hm : (decide (M.length ≤ 100) && mksR M (cat L).size 0) = false) :
    Calls Tryd.prog 28 #[.agg #[v1, v2]] w fun e w' => e = .returned (.tuple #[.pointer none, .bool false]) ∧ Below w.heap.size w w' := by
  have CJ := hide (fun W (h : nd_At B W v1 L) => joinI v1 L B W h hL hs1)
  have H1 := hide h1
  have H2 := hide h2
  have HTAB := hide hTab
  obtain ⟨a1, c1, rfl⟩ := nd_form h1
  obtain ⟨a2, c2, rfl⟩ := mk_form h2
  have CM := hide (fun W (h : mk_At B W (.slice a2 M.length c2) M) => areMarksI (.slice a2 M.length c2) M (cat L).size B W h (by omega) hs2 hM)
  rw [hm] at CM
  clear h1 h2 hTab hs1 hm
  have B0 := hide ((Below.refl w.heap.size w).alloc (Nat.le_refl _) (.cells #[.slice a1 L.length c1, .slice a2 M.length c2] 31))
  have N0 := hide (heap_new w (.cells #[.slice a1 L.length c1, .slice a2 M.length c2] 31))
  have Z0 : Hid ((w.alloc (.cells #[.slice a1 L.length c1, .slice a2 M.length c2] 31)).heap.size = w.heap.size + 1) := hide (by simp)
  rw [if_pos hc, decide_eq_true hc] at CJ
  generalize hC : cat L = C at *
  clear hC
  go_enter Tryd.func28, Tryd.ntmps28
  go_wp2_with fail
  generalize w.alloc (.cells #[.slice a1 L.length c1, .slice a2 M.length c2] 31) = w0 at *
  refine ((unhide CJ) _ (nd_below (unhide H1) ((unhide B0)))).mono ?_
  rintro e w1 ⟨rfl, hb1⟩
  have B1 := hide ((unhide B0).trans (hb1.mono (unhide B0).size))
  have N1 := hide ((hb1.block w.heap.size (by rw [unhide Z0]; omega)).trans (unhide N0))
  have Z1 : Hid (w.heap.size + 1 ≤ w1.heap.size) := hide (by have := hb1.size; rw [unhide Z0] at this; exact this)
  clear hb1 N0 CJ
  obtain ⟨n0, n1, _, _⟩ := two_cells (unhide N1)
  go_wp2_with (go_at_call 44; refine ((unhide CM) _ (mk_below (unhide H2) (unhide B1))).mono ?_; rintro e w2 ⟨rfl, hb2⟩; have B2 := hide ((unhide B1).trans (hb2.mono (unhide B1).size)); have N2 := hide ((hb2.block w.heap.size (by have := unhide Z1; omega)).trans (unhide N1)); have Z2 : Hid (w.heap.size + 1 ≤ w2.heap.size) := hide (by have := hb2.size; have := unhide Z1; omega); clear hb2 CM)
  go_ret2
  exact ⟨rfl, unhide B2⟩
set_option maxRecDepth 100000 in
set_option maxHeartbeats 8000000 in
theorem treeNo (v1 v2 : Value) (L : List Nd) (M : List Mk) (T : RT) (B : Nat) (w : World) (h1 : nd_At B w v1 L) (h2 : mk_At B w v2 M) (hT : IsTr (cat L) T) (hTab : TabD w) (hL : L.length ≤ 1048576) (hM : M.length ≤ 1048576)
    (hs1 : ∀ i, i < L.length → (nd_g L i).text.size ≤ 1048576) (hs2 : ∀ i, i < M.length → (mk_g M i).name.size ≤ 1048576) (hc : (cat L).size ≤ 65536) (hm : (decide (M.length ≤ 100) && mksR M (cat L).size 0) = true) (he : ((nds T 0).length == L.length && sameR L (nds T 0) 0) = false) :
    Calls Tryd.prog 28 #[.agg #[v1, v2]] w fun e w' => e = .returned (.tuple #[.pointer none, .bool false]) ∧ Below w.heap.size w w' := by
  have CJ := hide (fun W (h : nd_At B W v1 L) => joinI v1 L B W h hL hs1)
  have H1 := hide h1
  have H2 := hide h2
  have HTAB := hide hTab
  obtain ⟨a1, c1, rfl⟩ := nd_form h1
  obtain ⟨a2, c2, rfl⟩ := mk_form h2
  have CM := hide (fun W (h : mk_At B W (.slice a2 M.length c2) M) => areMarksI (.slice a2 M.length c2) M (cat L).size B W h (by omega) hs2 hM)
  rw [hm] at CM
  have CT := hide (fun W (hW : TabD W) => treeI hT W hW hc)
  have HFIT := hide hc
  have HIT := hide hT
  have hcount : (nds T 0).length ≤ 1048576 := by rw [nds_len]; have := hT.count.1; omega
  have CE : Hid (∀ (H : HT), H.sh = T → ∀ (W : World) (va : Value) (B' : Nat), nd_At B' W va (nds H.sh 0) → nd_At B W (.slice a1 L.length c1) L → Calls Tryd.prog 46 #[va, .slice a1 L.length c1] W fun e w' => e = .returned (.bool false) ∧ Below W.heap.size W w') := hide (fun H e W va B' x y => by subst e; rw [← he]; exact equalI va (.slice a1 L.length c1) _ L B' B W x y hcount hL)
  clear h1 h2 hTab hs1 hm he hT hcount
  have B0 := hide ((Below.refl w.heap.size w).alloc (Nat.le_refl _) (.cells #[.slice a1 L.length c1, .slice a2 M.length c2] 31))
  have N0 := hide (heap_new w (.cells #[.slice a1 L.length c1, .slice a2 M.length c2] 31))
  have Z0 : Hid ((w.alloc (.cells #[.slice a1 L.length c1, .slice a2 M.length c2] 31)).heap.size = w.heap.size + 1) := hide (by simp)
  rw [if_pos hc, decide_eq_true hc] at CJ
  generalize hC : cat L = C at *
  clear hC
  go_enter Tryd.func28, Tryd.ntmps28
  go_wp2_with fail
  generalize w.alloc (.cells #[.slice a1 L.length c1, .slice a2 M.length c2] 31) = w0 at *
  refine ((unhide CJ) _ (nd_below (unhide H1) ((unhide B0)))).mono ?_
  rintro e w1 ⟨rfl, hb1⟩
  have B1 := hide ((unhide B0).trans (hb1.mono (unhide B0).size))
  have N1 := hide ((hb1.block w.heap.size (by rw [unhide Z0]; omega)).trans (unhide N0))
  have Z1 : Hid (w.heap.size + 1 ≤ w1.heap.size) := hide (by have := hb1.size; rw [unhide Z0] at this; exact this)
  clear hb1 N0 CJ
  obtain ⟨n0, n1, _, _⟩ := two_cells (unhide N1)
  go_wp2_with (go_at_call 44; refine ((unhide CM) _ (mk_below (unhide H2) (unhide B1))).mono ?_; rintro e w2 ⟨rfl, hb2⟩; have B2 := hide ((unhide B1).trans (hb2.mono (unhide B1).size)); have N2 := hide ((hb2.block w.heap.size (by have := unhide Z1; omega)).trans (unhide N1)); have Z2 : Hid (w.heap.size + 1 ≤ w2.heap.size) := hide (by have := hb2.size; have := unhide Z1; omega); clear hb2 CM)
  refine ((unhide CT) _ ((unhide HTAB).below (unhide B2))).mono ?_
  rintro e w3 ⟨H, rfl, hsh, hi3, hb3⟩
  have HI := hide hi3
  have HSH := hide hsh
  have B3 := hide ((unhide B2).trans (hb3.mono (unhide B2).size))
  have N3 := hide ((hb3.block w.heap.size (by have := unhide Z2; omega)).trans (unhide N2))
  have Z3 : Hid (w.heap.size + 1 ≤ w3.heap.size) := hide (by have := hb3.size; have := unhide Z2; omega)
  clear hi3 hsh hb3 n0 n1 CT
  have HE1 : Hid (nds H.sh 0 = nds T 0) := hide (by rw [unhide HSH])
  obtain ⟨n3, _, _, _⟩ := two_cells (unhide N3)
  go_wp2_with fail
  have K0 : (fun w' : World => w'.cell? ⟨w.heap.size, 0, none⟩ = some (.slice a1 L.length c1)) w3 := n3
  refine wp_region_held_drew (S := fun w' : World => w'.cell? ⟨w.heap.size, 0, none⟩ = some (.slice a1 L.length c1)) (by kernel_rfl) (by first | go_keep | exact K0) (fun hHeld => ?_)
  refine tkM (i := 0) (d := some 25) (v := ?_) rfl rfl (by kernel_rfl) (by kernel_rfl) (by kernel_rfl) (fun _ _ _ h => h) (Or.inl ⟨by rfl, ?_⟩) (by assumption) ?_
  rotate_left
  · intro w hSw; (try dsimp only at hSw); go_simp; try with_reducible rfl
  try simp only [Act.put, List.setIfInBounds_toArray, List.set_cons_zero, List.set_cons_succ]
  refine tkM (i := 3) (d := some 28) (v := ?_) rfl rfl (by kernel_rfl) (by kernel_rfl) (by kernel_rfl) (fun _ _ _ h => h) (Or.inl ⟨by rfl, ?_⟩) (by assumption) ?_
  rotate_left
  · intro w hSw; (try dsimp only at hSw); go_simp; try with_reducible rfl
  try simp only [Act.put, List.setIfInBounds_toArray, List.set_cons_zero, List.set_cons_succ]
  refine tkM (i := 4) (d := some 29) (v := ?_) rfl rfl (by kernel_rfl) (by kernel_rfl) (by kernel_rfl) (fun _ _ _ h => h) (Or.inl ⟨by rfl, ?_⟩) (by assumption) ?_
  rotate_left
  · intro w hSw; (try dsimp only at hSw); go_simp; try with_reducible rfl
  try simp only [Act.put, List.setIfInBounds_toArray, List.set_cons_zero, List.set_cons_succ]
  refine wpAnyH_ready (rs := [1]) (by kernel_rfl) (by simp) (AllReadyH.cons rfl (fun Kq hK => ?_) AllReadyH.nil)
  go_simp
  go_at_call 48
  refine (alongF H.ptr _).mono ?_
  rintro e w4 ⟨rfl, hw4⟩
  have hbA : Below w3.heap.size w3 w4 := by rw [hw4]; exact (bdrew (Below.refl w3.heap.size w3) 1).alloc (Nat.le_refl _) _
  have hz4 : w4.heap.size = w3.heap.size + 1 := by rw [hw4]; simp
  have bP4 : w4.cell? ⟨w3.heap.size, 0, none⟩ = some (.pointer H.ptr) := by rw [hw4]; exact (Boxed.new w3.drew 51 _).cell
  have B4 := hide ((unhide B3).trans (hbA.mono (unhide B3).size))
  have I4 := hide (In.below hbA (unhide HI))
  have K4 : (fun w' : World => w'.cell? ⟨w.heap.size, 0, none⟩ = some (.slice a1 L.length c1)) w4 := (hbA.cell (p := ⟨w.heap.size, 0, none⟩) (by have := unhide Z3; show w.heap.size < _; omega)).trans n3
  clear hw4 hbA
  try go_wp2_with fail
  refine hK.out _ _ K4 (fun hHeld4 => ?_)
  clear hK Kq
  try simp only [Act.put, List.setIfInBounds_toArray, List.set_cons_zero, List.set_cons_succ]
  refine wpAnyH_ready (rs := [2]) (by kernel_rfl) (by simp) (AllReadyH.cons rfl (fun Kq hK => ?_) AllReadyH.nil)
  go_simp
  go_at_call 47
  refine (collI w3.heap.size w3.heap.size H C ((unhide HSH).symm ▸ unhide HIT) (unhide HFIT) _ (unhide I4) (by omega) bP4 (by omega)).mono ?_
  rintro e w5 ⟨ra, rc, rfl, ho5, hb5⟩
  have O5 := hide (ny_at ho5)
  have B5 := hide ((unhide B4).trans (hb5.mono (unhide B4).size))
  have I5 := hide (In.below (hb5.mono (by omega)) (unhide I4))
  have K5 : (fun w' : World => w'.cell? ⟨w.heap.size, 0, none⟩ = some (.slice a1 L.length c1)) w5 := (hb5.cell (p := ⟨w.heap.size, 0, none⟩) (by have := unhide Z3; show w.heap.size < _; omega)).trans K4
  have hz5 := hb5.size
  clear ho5 hb5 bP4
  try go_wp2_with fail
  refine hK.out _ _ K5 (fun hHeld5 => ?_)
  clear hK Kq
  try simp only [Act.put, List.setIfInBounds_toArray, List.set_cons_zero, List.set_cons_succ]
  refine wpAnyH_ready (rs := [5]) (by kernel_rfl) (by simp) (AllReadyH.cons rfl (fun Kq hK => ?_) AllReadyH.nil)
  go_simp
  go_at_call 46
  refine ((unhide CE) H (unhide HSH) _ _ _ (unhide O5) (nd_below (unhide H1) (unhide B5))).mono ?_
  rintro e w6 ⟨rfl, hb6⟩
  have B6 := hide ((unhide B5).trans (hb6.mono (unhide B5).size))
  have I6 := hide (In.below (hb6.mono (by omega)) (unhide I5))
  have K6 : (fun w' : World => w'.cell? ⟨w.heap.size, 0, none⟩ = some (.slice a1 L.length c1)) w6 := (hb6.cell (p := ⟨w.heap.size, 0, none⟩) (by have := unhide Z3; show w.heap.size < _; omega)).trans K5
  have hz6 := hb6.size
  clear hb6
  try go_wp2_with fail
  refine hK.out _ _ K6 (fun hHeld6 => ?_)
  clear hK Kq
  try simp only [Act.put, List.setIfInBounds_toArray, List.set_cons_zero, List.set_cons_succ]
  refine tkM (i := 6) (d := some 31) (v := ?_) rfl rfl (by kernel_rfl) (by kernel_rfl) (by kernel_rfl) (fun _ _ _ h => h) (Or.inl ⟨by rfl, ?_⟩) (by assumption) ?_
  rotate_left
  · intro w hSw; (try dsimp only at hSw); go_simp; try with_reducible rfl
  try simp only [Act.put, List.setIfInBounds_toArray, List.set_cons_zero, List.set_cons_succ]
  refine wpAnyH_done (by kernel_rfl) ?_ _
  go_wp2
  go_ret2
  exact ⟨rfl, unhide B6⟩
set_option maxRecDepth 100000 in
set_option maxHeartbeats 8000000 in
theorem treeYes (v1 v2 : Value) (L : List Nd) (M : List Mk) (T : RT) (B : Nat) (w : World) (h1 : nd_At B w v1 L) (h2 : mk_At B w v2 M) (hT : IsTr (cat L) T) (hTab : TabD w) (hL : L.length ≤ 1048576) (hM : M.length ≤ 1048576)
    (hs1 : ∀ i, i < L.length → (nd_g L i).text.size ≤ 1048576) (hs2 : ∀ i, i < M.length → (mk_g M i).name.size ≤ 1048576) (hc : (cat L).size ≤ 65536) (hm : (decide (M.length ≤ 100) && mksR M (cat L).size 0) = true) (he : ((nds T 0).length == L.length && sameR L (nds T 0) 0) = true) :
    Calls Tryd.prog 28 #[.agg #[v1, v2]] w fun e w' => ∃ H : HT, e = .returned (.tuple #[.pointer H.ptr, .bool true]) ∧ H.sh = T ∧ In w'.heap.size w' H ∧ Below w.heap.size w w' := by
  have CJ := hide (fun W (h : nd_At B W v1 L) => joinI v1 L B W h hL hs1)
  have H1 := hide h1
  have H2 := hide h2
  have HTAB := hide hTab
  obtain ⟨a1, c1, rfl⟩ := nd_form h1
  obtain ⟨a2, c2, rfl⟩ := mk_form h2
  have CM := hide (fun W (h : mk_At B W (.slice a2 M.length c2) M) => areMarksI (.slice a2 M.length c2) M (cat L).size B W h (by omega) hs2 hM)
  rw [hm] at CM
  have CT := hide (fun W (hW : TabD W) => treeI hT W hW hc)
  have HFIT := hide hc
  have HIT := hide hT
  have hcount : (nds T 0).length ≤ 1048576 := by rw [nds_len]; have := hT.count.1; omega
  have CE : Hid (∀ (H : HT), H.sh = T → ∀ (W : World) (va : Value) (B' : Nat), nd_At B' W va (nds H.sh 0) → nd_At B W (.slice a1 L.length c1) L → Calls Tryd.prog 46 #[va, .slice a1 L.length c1] W fun e w' => e = .returned (.bool true) ∧ Below W.heap.size W w') := hide (fun H e W va B' x y => by subst e; rw [← he]; exact equalI va (.slice a1 L.length c1) _ L B' B W x y hcount hL)
  clear h1 h2 hTab hs1 hm he hT hcount
  have B0 := hide ((Below.refl w.heap.size w).alloc (Nat.le_refl _) (.cells #[.slice a1 L.length c1, .slice a2 M.length c2] 31))
  have N0 := hide (heap_new w (.cells #[.slice a1 L.length c1, .slice a2 M.length c2] 31))
  have Z0 : Hid ((w.alloc (.cells #[.slice a1 L.length c1, .slice a2 M.length c2] 31)).heap.size = w.heap.size + 1) := hide (by simp)
  rw [if_pos hc, decide_eq_true hc] at CJ
  generalize hC : cat L = C at *
  clear hC
  go_enter Tryd.func28, Tryd.ntmps28
  go_wp2_with fail
  generalize w.alloc (.cells #[.slice a1 L.length c1, .slice a2 M.length c2] 31) = w0 at *
  refine ((unhide CJ) _ (nd_below (unhide H1) ((unhide B0)))).mono ?_
  rintro e w1 ⟨rfl, hb1⟩
  have B1 := hide ((unhide B0).trans (hb1.mono (unhide B0).size))
  have N1 := hide ((hb1.block w.heap.size (by rw [unhide Z0]; omega)).trans (unhide N0))
  have Z1 : Hid (w.heap.size + 1 ≤ w1.heap.size) := hide (by have := hb1.size; rw [unhide Z0] at this; exact this)
  clear hb1 N0 CJ
  obtain ⟨n0, n1, _, _⟩ := two_cells (unhide N1)
  go_wp2_with (go_at_call 44; refine ((unhide CM) _ (mk_below (unhide H2) (unhide B1))).mono ?_; rintro e w2 ⟨rfl, hb2⟩; have B2 := hide ((unhide B1).trans (hb2.mono (unhide B1).size)); have N2 := hide ((hb2.block w.heap.size (by have := unhide Z1; omega)).trans (unhide N1)); have Z2 : Hid (w.heap.size + 1 ≤ w2.heap.size) := hide (by have := hb2.size; have := unhide Z1; omega); clear hb2 CM)
  refine ((unhide CT) _ ((unhide HTAB).below (unhide B2))).mono ?_
  rintro e w3 ⟨H, rfl, hsh, hi3, hb3⟩
  have HI := hide hi3
  have HSH := hide hsh
  have B3 := hide ((unhide B2).trans (hb3.mono (unhide B2).size))
  have N3 := hide ((hb3.block w.heap.size (by have := unhide Z2; omega)).trans (unhide N2))
  have Z3 : Hid (w.heap.size + 1 ≤ w3.heap.size) := hide (by have := hb3.size; have := unhide Z2; omega)
  clear hi3 hsh hb3 n0 n1 CT
  have HE1 : Hid (nds H.sh 0 = nds T 0) := hide (by rw [unhide HSH])
  obtain ⟨n3, _, _, _⟩ := two_cells (unhide N3)
  go_wp2_with fail
  have K0 : (fun w' : World => w'.cell? ⟨w.heap.size, 0, none⟩ = some (.slice a1 L.length c1)) w3 := n3
  refine wp_region_held_drew (S := fun w' : World => w'.cell? ⟨w.heap.size, 0, none⟩ = some (.slice a1 L.length c1)) (by kernel_rfl) (by first | go_keep | exact K0) (fun hHeld => ?_)
  refine tkM (i := 0) (d := some 25) (v := ?_) rfl rfl (by kernel_rfl) (by kernel_rfl) (by kernel_rfl) (fun _ _ _ h => h) (Or.inl ⟨by rfl, ?_⟩) (by assumption) ?_
  rotate_left
  · intro w hSw; (try dsimp only at hSw); go_simp; try with_reducible rfl
  try simp only [Act.put, List.setIfInBounds_toArray, List.set_cons_zero, List.set_cons_succ]
  refine tkM (i := 3) (d := some 28) (v := ?_) rfl rfl (by kernel_rfl) (by kernel_rfl) (by kernel_rfl) (fun _ _ _ h => h) (Or.inl ⟨by rfl, ?_⟩) (by assumption) ?_
  rotate_left
  · intro w hSw; (try dsimp only at hSw); go_simp; try with_reducible rfl
  try simp only [Act.put, List.setIfInBounds_toArray, List.set_cons_zero, List.set_cons_succ]
  refine tkM (i := 4) (d := some 29) (v := ?_) rfl rfl (by kernel_rfl) (by kernel_rfl) (by kernel_rfl) (fun _ _ _ h => h) (Or.inl ⟨by rfl, ?_⟩) (by assumption) ?_
  rotate_left
  · intro w hSw; (try dsimp only at hSw); go_simp; try with_reducible rfl
  try simp only [Act.put, List.setIfInBounds_toArray, List.set_cons_zero, List.set_cons_succ]
  refine wpAnyH_ready (rs := [1]) (by kernel_rfl) (by simp) (AllReadyH.cons rfl (fun Kq hK => ?_) AllReadyH.nil)
  go_simp
  go_at_call 48
  refine (alongF H.ptr _).mono ?_
  rintro e w4 ⟨rfl, hw4⟩
  have hbA : Below w3.heap.size w3 w4 := by rw [hw4]; exact (bdrew (Below.refl w3.heap.size w3) 1).alloc (Nat.le_refl _) _
  have hz4 : w4.heap.size = w3.heap.size + 1 := by rw [hw4]; simp
  have bP4 : w4.cell? ⟨w3.heap.size, 0, none⟩ = some (.pointer H.ptr) := by rw [hw4]; exact (Boxed.new w3.drew 51 _).cell
  have B4 := hide ((unhide B3).trans (hbA.mono (unhide B3).size))
  have I4 := hide (In.below hbA (unhide HI))
  have K4 : (fun w' : World => w'.cell? ⟨w.heap.size, 0, none⟩ = some (.slice a1 L.length c1)) w4 := (hbA.cell (p := ⟨w.heap.size, 0, none⟩) (by have := unhide Z3; show w.heap.size < _; omega)).trans n3
  clear hw4 hbA
  try go_wp2_with fail
  refine hK.out _ _ K4 (fun hHeld4 => ?_)
  clear hK Kq
  try simp only [Act.put, List.setIfInBounds_toArray, List.set_cons_zero, List.set_cons_succ]
  refine wpAnyH_ready (rs := [2]) (by kernel_rfl) (by simp) (AllReadyH.cons rfl (fun Kq hK => ?_) AllReadyH.nil)
  go_simp
  go_at_call 47
  refine (collI w3.heap.size w3.heap.size H C ((unhide HSH).symm ▸ unhide HIT) (unhide HFIT) _ (unhide I4) (by omega) bP4 (by omega)).mono ?_
  rintro e w5 ⟨ra, rc, rfl, ho5, hb5⟩
  have O5 := hide (ny_at ho5)
  have B5 := hide ((unhide B4).trans (hb5.mono (unhide B4).size))
  have I5 := hide (In.below (hb5.mono (by omega)) (unhide I4))
  have K5 : (fun w' : World => w'.cell? ⟨w.heap.size, 0, none⟩ = some (.slice a1 L.length c1)) w5 := (hb5.cell (p := ⟨w.heap.size, 0, none⟩) (by have := unhide Z3; show w.heap.size < _; omega)).trans K4
  have hz5 := hb5.size
  clear ho5 hb5 bP4
  try go_wp2_with fail
  refine hK.out _ _ K5 (fun hHeld5 => ?_)
  clear hK Kq
  try simp only [Act.put, List.setIfInBounds_toArray, List.set_cons_zero, List.set_cons_succ]
  refine wpAnyH_ready (rs := [5]) (by kernel_rfl) (by simp) (AllReadyH.cons rfl (fun Kq hK => ?_) AllReadyH.nil)
  go_simp
  go_at_call 46
  refine ((unhide CE) H (unhide HSH) _ _ _ (unhide O5) (nd_below (unhide H1) (unhide B5))).mono ?_
  rintro e w6 ⟨rfl, hb6⟩
  have B6 := hide ((unhide B5).trans (hb6.mono (unhide B5).size))
  have I6 := hide (In.below (hb6.mono (by omega)) (unhide I5))
  have K6 : (fun w' : World => w'.cell? ⟨w.heap.size, 0, none⟩ = some (.slice a1 L.length c1)) w6 := (hb6.cell (p := ⟨w.heap.size, 0, none⟩) (by have := unhide Z3; show w.heap.size < _; omega)).trans K5
  have hz6 := hb6.size
  clear hb6
  try go_wp2_with fail
  refine hK.out _ _ K6 (fun hHeld6 => ?_)
  clear hK Kq
  try simp only [Act.put, List.setIfInBounds_toArray, List.set_cons_zero, List.set_cons_succ]
  refine tkM (i := 6) (d := some 31) (v := ?_) rfl rfl (by kernel_rfl) (by kernel_rfl) (by kernel_rfl) (fun _ _ _ h => h) (Or.inl ⟨by rfl, ?_⟩) (by assumption) ?_
  rotate_left
  · intro w hSw; (try dsimp only at hSw); go_simp; try with_reducible rfl
  try simp only [Act.put, List.setIfInBounds_toArray, List.set_cons_zero, List.set_cons_succ]
  refine wpAnyH_done (by kernel_rfl) ?_ _
  go_wp2
  go_ret2
  exact ⟨H, rfl, unhide HSH, In.mono (by omega) (unhide I6), unhide B6⟩
end Go.Proofs.YtaipnmmlfbfcnaaDoor.Rop
