/- Marks written into rules and passes, and found there again. -/
import Derived.Test.YtefbfffngmhjfaaDoorPasI
import Derived.Laws.Concat
namespace Go.Proofs.YtefbfffngmhjfaaDoor.Pas
open Go.RowKit
set_option linter.unusedVariables false
/-- The digits of a number ahead of others. -/
def dgs : Nat → Nat → List Int → List Int
  | 0, _, o => o
  | f + 1, k, o => if k = 0 then o else dgs f (k / 10) ((48 + ((k % 10 : Nat) : Int)) :: o)
theorem dgs_step (f k : Nat) (o : List Int) (h : k ≠ 0) : dgs (f + 1) k o = dgs f (k / 10) ((48 + ((k % 10 : Nat) : Int)) :: o) := if_neg h
theorem dgs_zero (f : Nat) (o : List Int) : dgs f 0 o = o := by cases f <;> rfl
/-- The text that marks place k. -/
def mtx (k : Nat) : ByteArray := strOfNums ([109] ++ dgs k k [])
theorem str_plus (A B : List Int) : strOfNums A ++ strOfNums B = strOfNums (A ++ B) := by
  unfold strOfNums
  apply ByteArray.ext
  simp [ByteArray.data_append]
theorem str_add (A B : List Int) (h : A.length + B.length ≤ 100000000) (W : World) : (Op.stringOp .add (strOfNums A) (strOfNums B)).run Tryd.prog W = .ok (.string (strOfNums (A ++ B))) W := by
  rw [run_string_add_sum W _ _ (by rw [strOfNums_size, strOfNums_size]; omega), str_plus]
theorem al1 (w : World) (a : Obj) : Below w.heap.size w (w.alloc a) := (Below.refl _ _).alloc (Nat.le_refl _) _
set_option maxHeartbeats 1000000 in
set_option maxRecDepth 100000 in
theorem markText_any (N : Nat) (w : World) (h0 : 0 < N) (h : N ≤ 8388608) :
    Calls Tryd.prog 43 #[.int .i64 N] w fun e w' => e = .returned (.string (mtx N)) ∧ Below w.heap.size w w' := by
  have hcv := conv1
  have E0 : ({ data := #[] } : ByteArray) = strOfNums [] := rfl
  have E1 : ({ data := #[109] } : ByteArray) = strOfNums [109] := rfl
  have HX : Hid (mtx N = strOfNums ([109] ++ dgs N N [])) := hide rfl
  generalize mtx N = X at *
  go_enter Tryd.func43, Tryd.ntmps43
  go_wp2
  go_loopw [0, 3] (fun nv ov wr => ∃ (f m : Nat) (out : List Int), nv = .int .i64 m ∧ ov = .string (strOfNums out) ∧ m ≤ f ∧ out.length + m ≤ N ∧ Hid (dgs f m out = dgs N N []) ∧ Hid (Below w.heap.size w wr)) (fun nv _ _ => (intOf nv).toNat)
  case atStart => exact ⟨N, N, [], rfl, rfl, Nat.le_refl _, by simp, hide rfl, hide (Below.refl _ _)⟩
  case round =>
    obtain ⟨f, m, out, rfl, rfl, hm, hol, HE, HB⟩ := hrel
    have hadd := fun (x : Int) (W : World) => str_add [x] out (by simp; omega) W
    by_cases h9 : 0 < m
    · obtain ⟨f, rfl⟩ : ∃ f', f = f' + 1 := ⟨f - 1, by omega⟩
      have hr : ((m : Int)).tmod 10 = ((m % 10 : Nat) : Int) := by rw [Int.tmod_eq_emod_of_nonneg (by omega)]; omega
      have hq : ((m : Int)).tdiv 10 = ((m / 10 : Nat) : Int) := by rw [Int.tdiv_eq_ediv_of_nonneg (by omega)]; omega
      have HE2 : Hid (dgs f (m / 10) ((48 + ((m % 10 : Nat) : Int)) :: out) = dgs N N []) := hide (by rw [← unhide HE, dgs_step f m out (by omega)])
      have h10 : m % 10 < 10 := Nat.mod_lt _ (by omega)
      have hq3 : m / 10 < m := Nat.div_lt_self (by omega) (by omega)
      generalize m % 10 = r at *
      generalize m / 10 = q at *
      clear HE
      go_wp2
      go_roundw
      case rel => exact ⟨f, q, (48 + (r : Int)) :: out, rfl, rfl, by omega, by simp; omega, HE2, hide ((unhide HB).trans ((al1 wr _).mono (unhide HB).size))⟩
      case measure => simp [intOf]; omega
    · obtain rfl : m = 0 := by omega
      have HE2 : Hid (X = strOfNums ([109] ++ out)) := hide (by rw [unhide HX, ← unhide HE, dgs_zero])
      have hadd2 := fun (W : World) => str_add [109] out (by simp; omega) W
      clear HE hadd
      go_wp2
      go_ret
      exact ⟨by rw [unhide HE2]; rfl, unhide HB⟩
/-- The rule that marks from number c on. -/
def mkr (c : Nat) : Ru := (mtx c, mtx (c + 1), mtx (c + 2), mtx (c + 3), ((c + 4 : Nat) : Int))
/-- Rules of which the first k are marked. -/
def mkTo (L : List Ru) (c k : Nat) : List Ru := (List.range L.length).map fun i => if i < k then mkr (c + i * 5) else gr L i
theorem mkTo_len (L : List Ru) (c k : Nat) : (mkTo L c k).length = L.length := by simp [mkTo]
theorem mkTo_at (L : List Ru) (c k i : Nat) (h : i < L.length) : gr (mkTo L c k) i = if i < k then mkr (c + i * 5) else gr L i := by simp [mkTo, gr, List.getD, h]
def mkR (L : List Ru) (c : Nat) : List Ru := mkTo L c L.length
theorem Has.of {xs : List Value} {L M : List Ru} {k : Nat} (h : Has xs L k) (e : ∀ i, i < k → gr M i = gr L i) : Has xs M k := fun i hi => by rw [e i hi]; exact h i hi
theorem Has.mark {xs : List Value} {L : List Ru} {c k : Nat} (h : Has xs (mkTo L c k) L.length) (hk : k < L.length) (hl : xs.length = L.length * 5) : Has (set5 xs (k * 5) (mkr (c + k * 5))) (mkTo L c (k + 1)) L.length := by
  intro i hi
  by_cases e : i = k
  · subst e
    rw [mkTo_at L c (i + 1) i hi, if_pos (by omega)]
    exact set5_at xs (i * 5) _ (by omega)
  · have := h i hi
    rw [mkTo_at L c k i hi] at this
    rw [set5_ne _ _ _ _ (by omega), set5_ne _ _ _ _ (by omega), set5_ne _ _ _ _ (by omega), set5_ne _ _ _ _ (by omega), set5_ne _ _ _ _ (by omega), mkTo_at L c (k + 1) i hi]
    by_cases e2 : i < k
    · rw [if_pos (by omega)]; rw [if_pos e2] at this; exact this
    · rw [if_neg (by omega)]; rw [if_neg e2] at this; exact this
theorem grow_below {w w1 w2 : World} {r : Option Nat} (h : w.grownBy w1 r) (hb : Below w1.heap.size w1 w2) : w.grownBy w2 r := by
  obtain ⟨h1, h2, h3, h4, h5⟩ := h
  exact ⟨hb.os.trans h1, hb.tape.trans h2, hb.output.trans h3, Nat.le_trans h4 hb.size, fun k hk hn => (hb.block k (Nat.lt_of_lt_of_le hk h4)).trans (h5 k hk hn)⟩
theorem grow_refl (w : World) (r : Option Nat) : w.grownBy w r := ⟨rfl, rfl, rfl, Nat.le_refl _, fun _ _ _ => rfl⟩
theorem grow_set {w w' : World} {g j : Nat} {u : Value} (h : w.grownBy w' (some g)) : w.grownBy (w'.setCell ⟨g, j, none⟩ u) (some g) := by
  obtain ⟨h1, h2, h3, h4, h5⟩ := h
  refine ⟨h1, h2, h3, by simpa using h4, fun k hk hn => ?_⟩
  rw [heap_setCell_other w' ⟨g, j, none⟩ k u (by intro e; exact hn (by rw [show g = k from e.symm]))]
  exact h5 k hk hn
set_option maxRecDepth 100000 in
set_option maxHeartbeats 4000000 in
theorem markWrs_at (lo g cap : Nat) (L : List Ru) (c : Nat) (w : World) (hc0 : 0 < c) (hc1 : c + L.length * 5 ≤ 8388608) (ho : ∃ xs, Has xs L L.length ∧ w.ownsRow lo 31 5 (.slice (some ⟨g, 0, none⟩) L.length cap) L.length xs) :
    Calls Tryd.prog 28 #[.slice (some ⟨g, 0, none⟩) L.length cap, .int .i64 c] w fun e w' => e = .returned (.int .i64 ((c + L.length * 5 : Nat) : Int)) ∧ (∃ xs, Has xs (mkR L c) L.length ∧ w'.ownsRow lo 31 5 (.slice (some ⟨g, 0, none⟩) L.length cap) L.length xs) ∧ w.grownBy w' (some g) := by
  obtain ⟨xs, hx, ho⟩ := ho
  have H0 : Hid (∃ xs, Has xs (mkTo L c 0) L.length ∧ w.ownsRow lo 31 5 (.slice (some ⟨g, 0, none⟩) L.length cap) L.length xs) := hide ⟨xs, hx.of (fun i hi => by rw [mkTo_at L c 0 i hi, if_neg (by omega)]), ho⟩
  clear hx ho
  go_enter Tryd.func28, Tryd.ntmps28
  go_wp2
  go_loopw [1, 5] (fun cv iv wr => ∃ k : Nat, k ≤ L.length ∧ iv = .int .i64 k ∧ cv = .int .i64 ((c + k * 5 : Nat) : Int) ∧ Hid (∃ xs, Has xs (mkTo L c k) L.length ∧ wr.ownsRow lo 31 5 (.slice (some ⟨g, 0, none⟩) L.length cap) L.length xs) ∧ Hid (w.grownBy wr (some g))) (fun _ iv _ => L.length - (intOf iv).toNat)
  case atStart => exact ⟨0, Nat.zero_le _, rfl, by simp, H0, hide (grow_refl _ _)⟩
  case round =>
    obtain ⟨k, hk, rfl, rfl, HO, HG⟩ := hrel
    clear H0
    by_cases hlt : k < L.length
    · have hlt' : (k : Int) < (L.length : Int) := by omega
      obtain ⟨xs, hx, ho⟩ := unhide HO
      have hxl : xs.length = L.length * 5 := ho.1
      have HM := hide (hx.mark hlt hxl)
      have C0 := hide (fun W => markText_any (c + k * 5) W (by omega) (by omega))
      have C1 := hide (fun W => markText_any (c + k * 5 + 1) W (by omega) (by omega))
      have C2 := hide (fun W => markText_any (c + k * 5 + 2) W (by omega) (by omega))
      have C3 := hide (fun W => markText_any (c + k * 5 + 3) W (by omega) (by omega))
      have hK : k * 5 + 5 ≤ L.length * 5 := by omega
      have e1 : ((c + k * 5 : Nat) : Int) + 1 = ((c + k * 5 + 1 : Nat) : Int) := by omega
      have e2 : ((c + k * 5 + 1 : Nat) : Int) + 1 = ((c + k * 5 + 2 : Nat) : Int) := by omega
      have e3 : ((c + k * 5 + 2 : Nat) : Int) + 1 = ((c + k * 5 + 3 : Nat) : Int) := by omega
      have e4 : ((c + k * 5 + 3 : Nat) : Int) + 1 = ((c + k * 5 + 4 : Nat) : Int) := by omega
      have e5 : ((c + k * 5 + 4 : Nat) : Int) + 1 = ((c + (k + 1) * 5 : Nat) : Int) := by omega
      have hb : c + k * 5 + 5 ≤ 8388608 := by omega
      have HMk : Hid (mkr (c + k * 5) = (mtx (c + k * 5), mtx (c + k * 5 + 1), mtx (c + k * 5 + 2), mtx (c + k * 5 + 3), ((c + k * 5 + 4 : Nat) : Int))) := hide rfl
      clear hx
      generalize hn0 : c + k * 5 = n0 at *
      generalize hn1 : n0 + 1 = n1 at *
      generalize hn2 : n0 + 2 = n2 at *
      generalize hn3 : n0 + 3 = n3 at *
      generalize hn4 : n0 + 4 = n4 at *
      generalize hn5 : c + (k + 1) * 5 = n5 at *
      have hz : n0 ≤ 8388608 ∧ n1 ≤ 8388608 ∧ n2 ≤ 8388608 ∧ n3 ≤ 8388608 ∧ n4 ≤ 8388608 := by omega
      obtain ⟨z0, z1, z2, z3, z4⟩ := hz
      have HN5 := hide hn5
      clear hn0 hn1 hn2 hn3 hn4 hn5
      generalize mtx n0 = m0 at *
      generalize mtx n1 = m1 at *
      generalize mtx n2 = m2 at *
      generalize mtx n3 = m3 at *
      have G0 := HG
      have O0 := hide ho
      clear HO HG ho
      go_wp2_with fail
      refine ((unhide C0) _).mono ?_
      rintro e x0 ⟨rfl, hb0⟩
      have o0 := ownsRow_below (unhide O0) hb0
      have G1 := hide (grow_set (j := k * 5) (u := .string m0) (grow_below (unhide G0) hb0))
      obtain ⟨y0, p0, q0⟩ := rowc_at o0 (k * 5) (by omega)
      have O1 := hide (o0.stored (k * 5) (.string m0)).1
      clear o0 hb0 C0 G0 O0
      go_wp2_with fail
      refine ((unhide C1) _).mono ?_
      rintro e x1 ⟨rfl, hb1⟩
      have o1 := ownsRow_below (unhide O1) hb1
      have G2 := hide (grow_set (j := k * 5 + 1) (u := .string m1) (grow_below (unhide G1) hb1))
      obtain ⟨y1, p1, q1⟩ := rowc_at o1 (k * 5 + 1) (by omega)
      have O2 := hide (o1.stored (k * 5 + 1) (.string m1)).1
      clear o1 hb1 C1 G1 O1 p0 q0
      go_wp2_with fail
      refine ((unhide C2) _).mono ?_
      rintro e x2 ⟨rfl, hb2⟩
      have o2 := ownsRow_below (unhide O2) hb2
      have G3 := hide (grow_set (j := k * 5 + 2) (u := .string m2) (grow_below (unhide G2) hb2))
      obtain ⟨y2, p2, q2⟩ := rowc_at o2 (k * 5 + 2) (by omega)
      have O3 := hide (o2.stored (k * 5 + 2) (.string m2)).1
      clear o2 hb2 C2 G2 O2 p1 q1
      go_wp2_with fail
      refine ((unhide C3) _).mono ?_
      rintro e x3 ⟨rfl, hb3⟩
      have o3 := ownsRow_below (unhide O3) hb3
      have G4 := hide (grow_set (j := k * 5 + 4) (u := .int .i64 (n4 : Int)) (grow_set (j := k * 5 + 3) (u := .string m3) (grow_below (unhide G3) hb3)))
      obtain ⟨y3, p3, q3⟩ := rowc_at o3 (k * 5 + 3) (by omega)
      obtain ⟨y4, p4, q4⟩ := rowc_at (o3.stored (k * 5 + 3) (.string m3)).1 (k * 5 + 4) (by omega)
      have O5 := hide ((o3.stored (k * 5 + 3) (.string m3)).1.stored (k * 5 + 4) (.int .i64 (n4 : Int))).1
      clear o3 hb3 C3 G3 O3 p2 q2
      go_wp2
      go_roundw
      case rel => exact ⟨k + 1, by omega, by go_num, by rw [unhide HN5], hide ⟨_, unhide HM, by rw [unhide HMk]; exact unhide O5⟩, G4⟩
      case measure => simp [intOf]; omega
    · obtain rfl : k = L.length := by omega
      go_wp2
      go_ret
      exact ⟨rfl, unhide HO, unhide HG⟩
theorem five_keep {w w' : World} {b off k c : Nat} (h : (fun w' => w'.cell? ⟨b, off + k * 5, none⟩ = some (.string (mtx (c + k * 5))) ∧ w'.cell? ⟨b, off + k * 5 + 1, none⟩ = some (.string (mtx (c + k * 5 + 1))) ∧ w'.cell? ⟨b, off + k * 5 + 2, none⟩ = some (.string (mtx (c + k * 5 + 2))) ∧ w'.cell? ⟨b, off + k * 5 + 3, none⟩ = some (.string (mtx (c + k * 5 + 3))) ∧ w'.cell? ⟨b, off + k * 5 + 4, none⟩ = some (.int .i64 ((c + k * 5 + 4 : Nat) : Int))) w) (hb : w'.heap[b]? = w.heap[b]?) : (fun w' => w'.cell? ⟨b, off + k * 5, none⟩ = some (.string (mtx (c + k * 5))) ∧ w'.cell? ⟨b, off + k * 5 + 1, none⟩ = some (.string (mtx (c + k * 5 + 1))) ∧ w'.cell? ⟨b, off + k * 5 + 2, none⟩ = some (.string (mtx (c + k * 5 + 2))) ∧ w'.cell? ⟨b, off + k * 5 + 3, none⟩ = some (.string (mtx (c + k * 5 + 3))) ∧ w'.cell? ⟨b, off + k * 5 + 4, none⟩ = some (.int .i64 ((c + k * 5 + 4 : Nat) : Int))) w' :=
  ⟨(World.cell?_of_block (a := ⟨b, off + k * 5, none⟩) hb).trans h.1, (World.cell?_of_block (a := ⟨b, off + k * 5 + 1, none⟩) hb).trans h.2.1, (World.cell?_of_block (a := ⟨b, off + k * 5 + 2, none⟩) hb).trans h.2.2.1, (World.cell?_of_block (a := ⟨b, off + k * 5 + 3, none⟩) hb).trans h.2.2.2.1, (World.cell?_of_block (a := ⟨b, off + k * 5 + 4, none⟩) hb).trans h.2.2.2.2⟩
theorem str_neP (a : ByteArray) (W : World) : (binOp .neq 9 (.string a) (.string a)).run Tryd.prog W = .ok (.bool false) W := by
  go_simp
set_option maxRecDepth 100000 in
set_option maxHeartbeats 8000000 in
theorem heldWrs_at (b off cap n c : Nat) (w : World) (hbs : b < w.heap.size) (hc0 : 0 < c) (hc1 : c + n * 5 ≤ 8388608) (hc : ∀ i, i < n → Five w b (off + i * 5) (mkr (c + i * 5))) :
    Calls Tryd.prog 29 #[.slice (some ⟨b, off, none⟩) n cap, .int .i64 c] w fun e w' => e = .returned (.int .i64 ((c + n * 5 : Nat) : Int)) ∧ Below w.heap.size w w' := by
  have HC := hide hc
  clear hc
  go_enter Tryd.func29, Tryd.ntmps29
  go_wp2
  go_loopw [1, 5] (fun cv iv wr => ∃ k : Nat, k ≤ n ∧ iv = .int .i64 k ∧ cv = .int .i64 ((c + k * 5 : Nat) : Int) ∧ Hid (Below w.heap.size w wr)) (fun _ iv _ => n - (intOf iv).toNat)
  case atStart => exact ⟨0, Nat.zero_le _, rfl, by simp, hide (Below.refl _ _)⟩
  case round =>
    obtain ⟨k, hk, rfl, rfl, HB⟩ := hrel
    by_cases hlt : k < n
    · have hlt' : (k : Int) < (n : Int) := by omega
      have h0k : (0 : Int) ≤ (k : Int) := by omega
      have hbw : b < wr.heap.size := Nat.lt_of_lt_of_le hbs (unhide HB).size
      have KS : (fun w' => w'.cell? ⟨b, off + k * 5, none⟩ = some (.string (mtx (c + k * 5))) ∧ w'.cell? ⟨b, off + k * 5 + 1, none⟩ = some (.string (mtx (c + k * 5 + 1))) ∧ w'.cell? ⟨b, off + k * 5 + 2, none⟩ = some (.string (mtx (c + k * 5 + 2))) ∧ w'.cell? ⟨b, off + k * 5 + 3, none⟩ = some (.string (mtx (c + k * 5 + 3))) ∧ w'.cell? ⟨b, off + k * 5 + 4, none⟩ = some (.int .i64 ((c + k * 5 + 4 : Nat) : Int))) wr := ((unhide HC) k hlt).block ((unhide HB).block b hbs)
      have C0 := hide (fun W => markText_any (c + k * 5) W (by omega) (by omega))
      have C1 := hide (fun W => markText_any (c + k * 5 + 1) W (by omega) (by omega))
      have C2 := hide (fun W => markText_any (c + k * 5 + 2) W (by omega) (by omega))
      have C3 := hide (fun W => markText_any (c + k * 5 + 3) W (by omega) (by omega))
      have e1 : ((c + k * 5 : Nat) : Int) + 1 = ((c + k * 5 + 1 : Nat) : Int) := by omega
      have e2 : ((c + k * 5 + 1 : Nat) : Int) + 1 = ((c + k * 5 + 2 : Nat) : Int) := by omega
      have e3 : ((c + k * 5 + 2 : Nat) : Int) + 1 = ((c + k * 5 + 3 : Nat) : Int) := by omega
      have e4 : ((c + k * 5 + 3 : Nat) : Int) + 1 = ((c + k * 5 + 4 : Nat) : Int) := by omega
      have e5 : ((c + k * 5 + 4 : Nat) : Int) + 1 = ((c + (k + 1) * 5 : Nat) : Int) := by omega
      have hb : c + k * 5 + 5 ≤ 8388608 := by omega
      have hne := str_neP
      have d0 := KS.1
      go_upto_region 4 with fail
      refine wp_region_held_drew (S := fun w' => w'.cell? ⟨b, off + k * 5, none⟩ = some (.string (mtx (c + k * 5))) ∧ w'.cell? ⟨b, off + k * 5 + 1, none⟩ = some (.string (mtx (c + k * 5 + 1))) ∧ w'.cell? ⟨b, off + k * 5 + 2, none⟩ = some (.string (mtx (c + k * 5 + 2))) ∧ w'.cell? ⟨b, off + k * 5 + 3, none⟩ = some (.string (mtx (c + k * 5 + 3))) ∧ w'.cell? ⟨b, off + k * 5 + 4, none⟩ = some (.int .i64 ((c + k * 5 + 4 : Nat) : Int))) (by kernel_rfl) (by first | go_keep | exact KS) (fun hHeld => ?_)
      refine tkP (i := 0) (d := some 12) (v := ?_) rfl rfl (by kernel_rfl) (by kernel_rfl) (by kernel_rfl) (fun _ _ _ h => h) (Or.inl ⟨by rfl, ?_⟩) (by assumption) ?_
      rotate_left
      · intro w hSw; (try dsimp only at hSw); go_simp; try with_reducible rfl
      try simp only [Act.put, List.setIfInBounds_toArray, List.set_cons_zero, List.set_cons_succ]
      refine tkP (i := 1) (d := some 13) (v := ?_) rfl rfl (by kernel_rfl) (by kernel_rfl) (by kernel_rfl) (fun _ _ _ h => h) (Or.inl ⟨by rfl, ?_⟩) (by assumption) ?_
      rotate_left
      · intro w hSw; (try dsimp only at hSw); go_simp; try with_reducible rfl
      try simp only [Act.put, List.setIfInBounds_toArray, List.set_cons_zero, List.set_cons_succ]
      refine tkP (i := 2) (d := some 14) (v := ?_) rfl rfl (by kernel_rfl) (by kernel_rfl) (by kernel_rfl) (fun _ _ _ h => h) (Or.inl ⟨by rfl, ?_⟩) (by assumption) ?_
      rotate_left
      · intro w hSw; (try dsimp only at hSw); go_simp; try with_reducible rfl
      try simp only [Act.put, List.setIfInBounds_toArray, List.set_cons_zero, List.set_cons_succ]
      refine tkP (i := 3) (d := some 15) (v := ?_) rfl rfl (by kernel_rfl) (by kernel_rfl) (by kernel_rfl) (fun _ _ _ h => h) (Or.inl ⟨by rfl, ?_⟩) (by assumption) ?_
      rotate_left
      · intro w hSw; (try dsimp only at hSw); go_simp; try with_reducible rfl
      try simp only [Act.put, List.setIfInBounds_toArray, List.set_cons_zero, List.set_cons_succ]
      refine tkP (i := 4) (d := some 16) (v := ?_) rfl rfl (by kernel_rfl) (by kernel_rfl) (by kernel_rfl) (fun _ _ _ h => h) (Or.inl ⟨by rfl, ?_⟩) (by assumption) ?_
      rotate_left
      · intro w hSw; (try dsimp only at hSw); go_simp; try with_reducible rfl
      try simp only [Act.put, List.setIfInBounds_toArray, List.set_cons_zero, List.set_cons_succ]
      refine tkP (i := 5) (d := some 17) (v := ?_) rfl rfl (by kernel_rfl) (by kernel_rfl) (by kernel_rfl) (fun _ _ _ h => h) (Or.inl ⟨by rfl, ?_⟩) (by assumption) ?_
      rotate_left
      · intro w hSw; (try dsimp only at hSw); go_simp; try with_reducible rfl
      try simp only [Act.put, List.setIfInBounds_toArray, List.set_cons_zero, List.set_cons_succ]
      refine wpAnyH_ready (rs := [6]) (by kernel_rfl) (by simp) (AllReadyH.cons rfl (fun K hK => ?_) AllReadyH.nil)
      go_simp
      go_at_call 43
      refine ((unhide C0) _).mono ?_
      rintro e x0 ⟨rfl, hx0⟩
      have BB0 := hide ((unhide HB).trans (((drewB wr).trans hx0).mono (unhide HB).size))
      have KS0 : (fun w' => w'.cell? ⟨b, off + k * 5, none⟩ = some (.string (mtx (c + k * 5))) ∧ w'.cell? ⟨b, off + k * 5 + 1, none⟩ = some (.string (mtx (c + k * 5 + 1))) ∧ w'.cell? ⟨b, off + k * 5 + 2, none⟩ = some (.string (mtx (c + k * 5 + 2))) ∧ w'.cell? ⟨b, off + k * 5 + 3, none⟩ = some (.string (mtx (c + k * 5 + 3))) ∧ w'.cell? ⟨b, off + k * 5 + 4, none⟩ = some (.int .i64 ((c + k * 5 + 4 : Nat) : Int))) x0 := five_keep (w := wr) KS (((drewB wr).trans hx0).block b hbw)
      have hbw0 : b < x0.heap.size := Nat.lt_of_lt_of_le hbw ((drewB wr).trans hx0).size
      clear hx0
      try go_wp2_with fail
      refine hK.out _ _ KS0 (fun hHeldy0 => ?_)
      clear hK K
      try simp only [Act.put, List.setIfInBounds_toArray, List.set_cons_zero, List.set_cons_succ]
      refine tkP (i := 7) (d := some 19) (v := ?_) rfl rfl (by kernel_rfl) (by kernel_rfl) (by kernel_rfl) (fun _ _ _ h => h) (Or.inl ⟨by rfl, ?_⟩) (by assumption) ?_
      rotate_left
      · intro w hSw; (try dsimp only at hSw); go_simp; try with_reducible rfl
      try simp only [Act.put, List.setIfInBounds_toArray, List.set_cons_zero, List.set_cons_succ]
      refine wpAnyH_done (by kernel_rfl) ?_ _
      all_goals
        go_upto_region 7 with fail
        refine wp_region_held_drew (S := fun w' => w'.cell? ⟨b, off + k * 5, none⟩ = some (.string (mtx (c + k * 5))) ∧ w'.cell? ⟨b, off + k * 5 + 1, none⟩ = some (.string (mtx (c + k * 5 + 1))) ∧ w'.cell? ⟨b, off + k * 5 + 2, none⟩ = some (.string (mtx (c + k * 5 + 2))) ∧ w'.cell? ⟨b, off + k * 5 + 3, none⟩ = some (.string (mtx (c + k * 5 + 3))) ∧ w'.cell? ⟨b, off + k * 5 + 4, none⟩ = some (.int .i64 ((c + k * 5 + 4 : Nat) : Int))) (by kernel_rfl) (by first | go_keep | exact KS0) (fun hHeld => ?_)
        refine tkP (i := 0) (d := some 22) (v := ?_) rfl rfl (by kernel_rfl) (by kernel_rfl) (by kernel_rfl) (fun _ _ _ h => h) (Or.inl ⟨by rfl, ?_⟩) (by assumption) ?_
        rotate_left
        · intro w hSw; (try dsimp only at hSw); go_simp; try with_reducible rfl
        try simp only [Act.put, List.setIfInBounds_toArray, List.set_cons_zero, List.set_cons_succ]
        refine tkP (i := 1) (d := some 23) (v := ?_) rfl rfl (by kernel_rfl) (by kernel_rfl) (by kernel_rfl) (fun _ _ _ h => h) (Or.inl ⟨by rfl, ?_⟩) (by assumption) ?_
        rotate_left
        · intro w hSw; (try dsimp only at hSw); go_simp; try with_reducible rfl
        try simp only [Act.put, List.setIfInBounds_toArray, List.set_cons_zero, List.set_cons_succ]
        refine tkP (i := 2) (d := some 24) (v := ?_) rfl rfl (by kernel_rfl) (by kernel_rfl) (by kernel_rfl) (fun _ _ _ h => h) (Or.inl ⟨by rfl, ?_⟩) (by assumption) ?_
        rotate_left
        · intro w hSw; (try dsimp only at hSw); go_simp; try with_reducible rfl
        try simp only [Act.put, List.setIfInBounds_toArray, List.set_cons_zero, List.set_cons_succ]
        refine tkP (i := 3) (d := some 25) (v := ?_) rfl rfl (by kernel_rfl) (by kernel_rfl) (by kernel_rfl) (fun _ _ _ h => h) (Or.inl ⟨by rfl, ?_⟩) (by assumption) ?_
        rotate_left
        · intro w hSw; (try dsimp only at hSw); go_simp; try with_reducible rfl
        try simp only [Act.put, List.setIfInBounds_toArray, List.set_cons_zero, List.set_cons_succ]
        refine tkP (i := 4) (d := some 26) (v := ?_) rfl rfl (by kernel_rfl) (by kernel_rfl) (by kernel_rfl) (fun _ _ _ h => h) (Or.inl ⟨by rfl, ?_⟩) (by assumption) ?_
        rotate_left
        · intro w hSw; (try dsimp only at hSw); go_simp; try with_reducible rfl
        try simp only [Act.put, List.setIfInBounds_toArray, List.set_cons_zero, List.set_cons_succ]
        refine tkP (i := 5) (d := some 27) (v := ?_) rfl rfl (by kernel_rfl) (by kernel_rfl) (by kernel_rfl) (fun _ _ _ h => h) (Or.inl ⟨by rfl, ?_⟩) (by assumption) ?_
        rotate_left
        · intro w hSw; (try dsimp only at hSw); go_simp; try with_reducible rfl
        try simp only [Act.put, List.setIfInBounds_toArray, List.set_cons_zero, List.set_cons_succ]
        refine wpAnyH_ready (rs := [6]) (by kernel_rfl) (by simp) (AllReadyH.cons rfl (fun K hK => ?_) AllReadyH.nil)
        go_simp
        go_at_call 43
        refine ((unhide C1) _).mono ?_
        rintro e x1 ⟨rfl, hx1⟩
        have BB1 := hide ((unhide BB0).trans (((drewB x0).trans hx1).mono (unhide BB0).size))
        have KS1 : (fun w' => w'.cell? ⟨b, off + k * 5, none⟩ = some (.string (mtx (c + k * 5))) ∧ w'.cell? ⟨b, off + k * 5 + 1, none⟩ = some (.string (mtx (c + k * 5 + 1))) ∧ w'.cell? ⟨b, off + k * 5 + 2, none⟩ = some (.string (mtx (c + k * 5 + 2))) ∧ w'.cell? ⟨b, off + k * 5 + 3, none⟩ = some (.string (mtx (c + k * 5 + 3))) ∧ w'.cell? ⟨b, off + k * 5 + 4, none⟩ = some (.int .i64 ((c + k * 5 + 4 : Nat) : Int))) x1 := five_keep (w := x0) KS0 (((drewB x0).trans hx1).block b hbw0)
        have hbw1 : b < x1.heap.size := Nat.lt_of_lt_of_le hbw0 ((drewB x0).trans hx1).size
        clear hx1
        try go_wp2_with fail
        refine hK.out _ _ KS1 (fun hHeldy1 => ?_)
        clear hK K
        try simp only [Act.put, List.setIfInBounds_toArray, List.set_cons_zero, List.set_cons_succ]
        refine tkP (i := 7) (d := some 29) (v := ?_) rfl rfl (by kernel_rfl) (by kernel_rfl) (by kernel_rfl) (fun _ _ _ h => h) (Or.inl ⟨by rfl, ?_⟩) (by assumption) ?_
        rotate_left
        · intro w hSw; (try dsimp only at hSw); go_simp; try with_reducible rfl
        try simp only [Act.put, List.setIfInBounds_toArray, List.set_cons_zero, List.set_cons_succ]
        refine wpAnyH_done (by kernel_rfl) ?_ _
        go_upto_region 10 with fail
        refine wp_region_held_drew (S := fun w' => w'.cell? ⟨b, off + k * 5, none⟩ = some (.string (mtx (c + k * 5))) ∧ w'.cell? ⟨b, off + k * 5 + 1, none⟩ = some (.string (mtx (c + k * 5 + 1))) ∧ w'.cell? ⟨b, off + k * 5 + 2, none⟩ = some (.string (mtx (c + k * 5 + 2))) ∧ w'.cell? ⟨b, off + k * 5 + 3, none⟩ = some (.string (mtx (c + k * 5 + 3))) ∧ w'.cell? ⟨b, off + k * 5 + 4, none⟩ = some (.int .i64 ((c + k * 5 + 4 : Nat) : Int))) (by kernel_rfl) (by first | go_keep | exact KS1) (fun hHeld => ?_)
        refine tkP (i := 0) (d := some 32) (v := ?_) rfl rfl (by kernel_rfl) (by kernel_rfl) (by kernel_rfl) (fun _ _ _ h => h) (Or.inl ⟨by rfl, ?_⟩) (by assumption) ?_
        rotate_left
        · intro w hSw; (try dsimp only at hSw); go_simp; try with_reducible rfl
        try simp only [Act.put, List.setIfInBounds_toArray, List.set_cons_zero, List.set_cons_succ]
        refine tkP (i := 1) (d := some 33) (v := ?_) rfl rfl (by kernel_rfl) (by kernel_rfl) (by kernel_rfl) (fun _ _ _ h => h) (Or.inl ⟨by rfl, ?_⟩) (by assumption) ?_
        rotate_left
        · intro w hSw; (try dsimp only at hSw); go_simp; try with_reducible rfl
        try simp only [Act.put, List.setIfInBounds_toArray, List.set_cons_zero, List.set_cons_succ]
        refine tkP (i := 2) (d := some 34) (v := ?_) rfl rfl (by kernel_rfl) (by kernel_rfl) (by kernel_rfl) (fun _ _ _ h => h) (Or.inl ⟨by rfl, ?_⟩) (by assumption) ?_
        rotate_left
        · intro w hSw; (try dsimp only at hSw); go_simp; try with_reducible rfl
        try simp only [Act.put, List.setIfInBounds_toArray, List.set_cons_zero, List.set_cons_succ]
        refine tkP (i := 3) (d := some 35) (v := ?_) rfl rfl (by kernel_rfl) (by kernel_rfl) (by kernel_rfl) (fun _ _ _ h => h) (Or.inl ⟨by rfl, ?_⟩) (by assumption) ?_
        rotate_left
        · intro w hSw; (try dsimp only at hSw); go_simp; try with_reducible rfl
        try simp only [Act.put, List.setIfInBounds_toArray, List.set_cons_zero, List.set_cons_succ]
        refine tkP (i := 4) (d := some 36) (v := ?_) rfl rfl (by kernel_rfl) (by kernel_rfl) (by kernel_rfl) (fun _ _ _ h => h) (Or.inl ⟨by rfl, ?_⟩) (by assumption) ?_
        rotate_left
        · intro w hSw; (try dsimp only at hSw); go_simp; try with_reducible rfl
        try simp only [Act.put, List.setIfInBounds_toArray, List.set_cons_zero, List.set_cons_succ]
        refine tkP (i := 5) (d := some 37) (v := ?_) rfl rfl (by kernel_rfl) (by kernel_rfl) (by kernel_rfl) (fun _ _ _ h => h) (Or.inl ⟨by rfl, ?_⟩) (by assumption) ?_
        rotate_left
        · intro w hSw; (try dsimp only at hSw); go_simp; try with_reducible rfl
        try simp only [Act.put, List.setIfInBounds_toArray, List.set_cons_zero, List.set_cons_succ]
        refine wpAnyH_ready (rs := [6]) (by kernel_rfl) (by simp) (AllReadyH.cons rfl (fun K hK => ?_) AllReadyH.nil)
        go_simp
        go_at_call 43
        refine ((unhide C2) _).mono ?_
        rintro e x2 ⟨rfl, hx2⟩
        have BB2 := hide ((unhide BB1).trans (((drewB x1).trans hx2).mono (unhide BB1).size))
        have KS2 : (fun w' => w'.cell? ⟨b, off + k * 5, none⟩ = some (.string (mtx (c + k * 5))) ∧ w'.cell? ⟨b, off + k * 5 + 1, none⟩ = some (.string (mtx (c + k * 5 + 1))) ∧ w'.cell? ⟨b, off + k * 5 + 2, none⟩ = some (.string (mtx (c + k * 5 + 2))) ∧ w'.cell? ⟨b, off + k * 5 + 3, none⟩ = some (.string (mtx (c + k * 5 + 3))) ∧ w'.cell? ⟨b, off + k * 5 + 4, none⟩ = some (.int .i64 ((c + k * 5 + 4 : Nat) : Int))) x2 := five_keep (w := x1) KS1 (((drewB x1).trans hx2).block b hbw1)
        have hbw2 : b < x2.heap.size := Nat.lt_of_lt_of_le hbw1 ((drewB x1).trans hx2).size
        clear hx2
        try go_wp2_with fail
        refine hK.out _ _ KS2 (fun hHeldy2 => ?_)
        clear hK K
        try simp only [Act.put, List.setIfInBounds_toArray, List.set_cons_zero, List.set_cons_succ]
        refine tkP (i := 7) (d := some 39) (v := ?_) rfl rfl (by kernel_rfl) (by kernel_rfl) (by kernel_rfl) (fun _ _ _ h => h) (Or.inl ⟨by rfl, ?_⟩) (by assumption) ?_
        rotate_left
        · intro w hSw; (try dsimp only at hSw); go_simp; try with_reducible rfl
        try simp only [Act.put, List.setIfInBounds_toArray, List.set_cons_zero, List.set_cons_succ]
        refine wpAnyH_done (by kernel_rfl) ?_ _
        go_upto_region 13 with fail
        refine wp_region_held_drew (S := fun w' => w'.cell? ⟨b, off + k * 5, none⟩ = some (.string (mtx (c + k * 5))) ∧ w'.cell? ⟨b, off + k * 5 + 1, none⟩ = some (.string (mtx (c + k * 5 + 1))) ∧ w'.cell? ⟨b, off + k * 5 + 2, none⟩ = some (.string (mtx (c + k * 5 + 2))) ∧ w'.cell? ⟨b, off + k * 5 + 3, none⟩ = some (.string (mtx (c + k * 5 + 3))) ∧ w'.cell? ⟨b, off + k * 5 + 4, none⟩ = some (.int .i64 ((c + k * 5 + 4 : Nat) : Int))) (by kernel_rfl) (by first | go_keep | exact KS2) (fun hHeld => ?_)
        refine tkP (i := 0) (d := some 42) (v := ?_) rfl rfl (by kernel_rfl) (by kernel_rfl) (by kernel_rfl) (fun _ _ _ h => h) (Or.inl ⟨by rfl, ?_⟩) (by assumption) ?_
        rotate_left
        · intro w hSw; (try dsimp only at hSw); go_simp; try with_reducible rfl
        try simp only [Act.put, List.setIfInBounds_toArray, List.set_cons_zero, List.set_cons_succ]
        refine tkP (i := 1) (d := some 43) (v := ?_) rfl rfl (by kernel_rfl) (by kernel_rfl) (by kernel_rfl) (fun _ _ _ h => h) (Or.inl ⟨by rfl, ?_⟩) (by assumption) ?_
        rotate_left
        · intro w hSw; (try dsimp only at hSw); go_simp; try with_reducible rfl
        try simp only [Act.put, List.setIfInBounds_toArray, List.set_cons_zero, List.set_cons_succ]
        refine tkP (i := 2) (d := some 44) (v := ?_) rfl rfl (by kernel_rfl) (by kernel_rfl) (by kernel_rfl) (fun _ _ _ h => h) (Or.inl ⟨by rfl, ?_⟩) (by assumption) ?_
        rotate_left
        · intro w hSw; (try dsimp only at hSw); go_simp; try with_reducible rfl
        try simp only [Act.put, List.setIfInBounds_toArray, List.set_cons_zero, List.set_cons_succ]
        refine tkP (i := 3) (d := some 45) (v := ?_) rfl rfl (by kernel_rfl) (by kernel_rfl) (by kernel_rfl) (fun _ _ _ h => h) (Or.inl ⟨by rfl, ?_⟩) (by assumption) ?_
        rotate_left
        · intro w hSw; (try dsimp only at hSw); go_simp; try with_reducible rfl
        try simp only [Act.put, List.setIfInBounds_toArray, List.set_cons_zero, List.set_cons_succ]
        refine tkP (i := 4) (d := some 46) (v := ?_) rfl rfl (by kernel_rfl) (by kernel_rfl) (by kernel_rfl) (fun _ _ _ h => h) (Or.inl ⟨by rfl, ?_⟩) (by assumption) ?_
        rotate_left
        · intro w hSw; (try dsimp only at hSw); go_simp; try with_reducible rfl
        try simp only [Act.put, List.setIfInBounds_toArray, List.set_cons_zero, List.set_cons_succ]
        refine tkP (i := 5) (d := some 47) (v := ?_) rfl rfl (by kernel_rfl) (by kernel_rfl) (by kernel_rfl) (fun _ _ _ h => h) (Or.inl ⟨by rfl, ?_⟩) (by assumption) ?_
        rotate_left
        · intro w hSw; (try dsimp only at hSw); go_simp; try with_reducible rfl
        try simp only [Act.put, List.setIfInBounds_toArray, List.set_cons_zero, List.set_cons_succ]
        refine wpAnyH_ready (rs := [6]) (by kernel_rfl) (by simp) (AllReadyH.cons rfl (fun K hK => ?_) AllReadyH.nil)
        go_simp
        go_at_call 43
        refine ((unhide C3) _).mono ?_
        rintro e x3 ⟨rfl, hx3⟩
        have BB3 := hide ((unhide BB2).trans (((drewB x2).trans hx3).mono (unhide BB2).size))
        have KS3 : (fun w' => w'.cell? ⟨b, off + k * 5, none⟩ = some (.string (mtx (c + k * 5))) ∧ w'.cell? ⟨b, off + k * 5 + 1, none⟩ = some (.string (mtx (c + k * 5 + 1))) ∧ w'.cell? ⟨b, off + k * 5 + 2, none⟩ = some (.string (mtx (c + k * 5 + 2))) ∧ w'.cell? ⟨b, off + k * 5 + 3, none⟩ = some (.string (mtx (c + k * 5 + 3))) ∧ w'.cell? ⟨b, off + k * 5 + 4, none⟩ = some (.int .i64 ((c + k * 5 + 4 : Nat) : Int))) x3 := five_keep (w := x2) KS2 (((drewB x2).trans hx3).block b hbw2)
        have hbw3 : b < x3.heap.size := Nat.lt_of_lt_of_le hbw2 ((drewB x2).trans hx3).size
        clear hx3
        try go_wp2_with fail
        refine hK.out _ _ KS3 (fun hHeldy3 => ?_)
        clear hK K
        try simp only [Act.put, List.setIfInBounds_toArray, List.set_cons_zero, List.set_cons_succ]
        refine tkP (i := 7) (d := some 49) (v := ?_) rfl rfl (by kernel_rfl) (by kernel_rfl) (by kernel_rfl) (fun _ _ _ h => h) (Or.inl ⟨by rfl, ?_⟩) (by assumption) ?_
        rotate_left
        · intro w hSw; (try dsimp only at hSw); go_simp; try with_reducible rfl
        try simp only [Act.put, List.setIfInBounds_toArray, List.set_cons_zero, List.set_cons_succ]
        refine wpAnyH_done (by kernel_rfl) ?_ _
        obtain ⟨_, _, _, _, f4⟩ := KS3
        have hnn : (((c + k * 5 + 4 : Nat) : Int) != ((c + k * 5 + 4 : Nat) : Int)) = false := by simp
        go_wp2
        go_roundw
        case rel => exact ⟨k + 1, by omega, by go_num, by (congr 1) <;> omega, BB3⟩
        case measure => simp [intOf]; omega
    · obtain rfl : k = n := by omega
      go_wp2
      go_ret
      exact ⟨rfl, unhide HB⟩
end Go.Proofs.YtefbfffngmhjfaaDoor.Pas
