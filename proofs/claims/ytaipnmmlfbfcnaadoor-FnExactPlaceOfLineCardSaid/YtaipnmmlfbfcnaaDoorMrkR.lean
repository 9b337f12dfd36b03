/- Rows of marks of a rope: how they lie in memory, how large they are, a copy, alike, opened. -/
import Derived.Test.YtaipnmmlfbfcnaaDoorRowC
namespace Go.Proofs.YtaipnmmlfbfcnaaDoor.Rop
open Go.RowKit Rwc
set_option linter.unusedVariables false
set_option linter.unusedSimpArgs false
structure Mk where
  name : ByteArray
  pl : Int
  stays : Bool
def mk_z : Mk := ⟨⟨#[]⟩, 0, false⟩
def mk_g (L : List Mk) (i : Nat) : Mk := L.getD i mk_z
def mk_v (r : Mk) : Value := .agg #[.string r.name, .int .i64 r.pl, .bool r.stays]
def mk_C (w : World) (b o : Nat) (r : Mk) : Prop :=
  w.cell? ⟨b, o, none⟩ = some (.string r.name) ∧ w.cell? ⟨b, o + 1, none⟩ = some (.int .i64 r.pl) ∧ w.cell? ⟨b, o + 2, none⟩ = some (.bool r.stays)
theorem mk_C_block {w w' : World} {b o : Nat} {r : Mk} (h : mk_C w b o r) (hb : w'.heap[b]? = w.heap[b]?) : mk_C w' b o r :=
  ⟨(World.cell?_of_block (a := ⟨b, o, none⟩) hb).trans h.1, (World.cell?_of_block (a := ⟨b, o + 1, none⟩) hb).trans h.2.1, (World.cell?_of_block (a := ⟨b, o + 2, none⟩) hb).trans h.2.2⟩
/-- A slice value that holds just these, in a block from B on. -/
def mk_At (B : Nat) (w : World) (v : Value) (L : List Mk) : Prop :=
  ∃ a cap, v = .slice a L.length cap ∧ (L = [] ∨ ∃ b off, a = some ⟨b, off, none⟩ ∧ B ≤ b ∧ b < w.heap.size ∧ ∀ i, i < L.length → mk_C w b (off + i * 3) (mk_g L i))
theorem mk_at {B : Nat} {w w' : World} {v : Value} {L : List Mk} (h : mk_At B w v L) (hs : w.heap.size ≤ w'.heap.size) (hb : ∀ b, B ≤ b → b < w.heap.size → w'.heap[b]? = w.heap[b]?) : mk_At B w' v L := by
  obtain ⟨a, cap, rfl, h⟩ := h
  refine ⟨a, cap, rfl, ?_⟩
  rcases h with h | ⟨b, off, rfl, hB, hbs, hc⟩
  · exact .inl h
  · exact .inr ⟨b, off, rfl, hB, by omega, fun i hi => mk_C_block (hc i hi) (hb b hB hbs)⟩
theorem mk_below {B : Nat} {w w' : World} {v : Value} {L : List Mk} (h : mk_At B w v L) (hb : Below w.heap.size w w') : mk_At B w' v L :=
  mk_at h hb.size fun b _ hlt => hb.block b hlt
theorem mk_down {B B' : Nat} {w : World} {v : Value} {L : List Mk} (h : mk_At B w v L) (hB : B' ≤ B) : mk_At B' w v L := by
  obtain ⟨a, cap, rfl, h⟩ := h
  refine ⟨a, cap, rfl, ?_⟩
  rcases h with h | ⟨b, off, rfl, hB2, hbs, hc⟩
  · exact .inl h
  · exact .inr ⟨b, off, rfl, by omega, hbs, hc⟩
theorem mk_form {B : Nat} {w : World} {v : Value} {L : List Mk} (h : mk_At B w v L) : ∃ a cap, v = .slice a L.length cap := by
  obtain ⟨a, cap, e, _⟩ := h
  exact ⟨a, cap, e⟩
theorem mk_put {B : Nat} {w : World} {v : Value} {L : List Mk} {g j : Nat} {x : Value} (h : mk_At B w v L) (hg : g < B) : mk_At B (w.setCell ⟨g, j, none⟩ x) v L :=
  mk_at h (by simp) fun b hB _ => heap_setCell_other w ⟨g, j, none⟩ b x (by show b ≠ g; omega)
def mk_s1 (r : Mk) : Nat := r.name.size
def mk_sk (L : List Mk) : Nat → Nat
  | 0 => 0
  | k + 1 => mk_sk L k + mk_s1 (mk_g L k)
def mk_sR (L : List Mk) : Nat := L.length + mk_sk L L.length
theorem mk_sk_mono (L : List Mk) (i k : Nat) (h : i ≤ k) : mk_sk L i ≤ mk_sk L k := by
  induction k with
  | zero => obtain rfl : i = 0 := by omega
            exact Nat.le_refl _
  | succ k ih =>
    by_cases e : i = k + 1
    · subst e; exact Nat.le_refl _
    · have := ih (by omega)
      have e2 : mk_sk L (k + 1) = mk_sk L k + mk_s1 (mk_g L k) := rfl
      omega
theorem mk_sk_up (L : List Mk) (i k : Nat) (h : i < k) : mk_s1 (mk_g L i) ≤ mk_sk L k := by
  have e2 : mk_sk L (i + 1) = mk_sk L i + mk_s1 (mk_g L i) := rfl
  have := mk_sk_mono L (i + 1) k h
  omega
/-- Texts that can be in memory. -/
def mk_F1 (r : Mk) : Prop := r.name.size ≤ 9223372036854775807
def mk_FR (L : List Mk) : Prop := L.length ≤ 9223372036854775807 ∧ ∀ i, i < L.length → mk_F1 (mk_g L i)
set_option maxRecDepth 100000 in
set_option maxHeartbeats 2000000 in
theorem mk_sz1 (r : Mk) (m : Int) (w : World) (hm : 0 ≤ m ∧ m ≤ 1048576) (hf : mk_F1 r) :
    Calls Tryd.prog 38 #[mk_v r, .int .i64 m] w fun e w' => e = .returned (.int .i64 (lf m (mk_s1 r))) ∧ Below w.heap.size w w' := by
  obtain ⟨x0, x1, x2⟩ := r
  have f0 := hf
  unfold mk_F1 at f0
  unfold mk_v
  simp only at *
  have B1 := hide ((Below.refl w.heap.size w).alloc (Nat.le_refl _) (.cells #[.string x0, .int .i64 x1, .bool x2] 68))
  have hs : mk_s1 ⟨x0, x1, x2⟩ = x0.size := rfl
  rw [hs]
  clear hs
  by_cases h0 : m - (x0.size : Int) < 0
  · have HE : Hid (lf m (x0.size) = -1) := hide (lf_no (by omega))
    generalize lf m (x0.size) = Q at *
    go_enter Tryd.func38, Tryd.ntmps38
    go_wp2
    go_ret
    exact ⟨by rw [unhide HE]; rfl, unhide B1⟩
  · have HE : Hid (lf m (x0.size) = m - (x0.size : Int)) := hide (by first | (rw [lf_ok (by omega)]; omega) | rw [lf_ok (by omega)])
    generalize lf m (x0.size) = Q at *
    go_enter Tryd.func38, Tryd.ntmps38
    go_wp2
    go_ret
    exact ⟨by rw [unhide HE]; rfl, unhide B1⟩
set_option maxRecDepth 100000 in
set_option maxHeartbeats 2000000 in
theorem mk_szs (v : Value) (L : List Mk) (m : Int) (B : Nat) (w : World) (hv : mk_At B w v L) (hm : 0 ≤ m ∧ m ≤ 1048576) (hf : mk_FR L) :
    Calls Tryd.prog 22 #[v, .int .i64 m] w fun e w' => e = .returned (.int .i64 (lf m (mk_sR L))) ∧ Below w.heap.size w w' := by
  obtain ⟨a, cap, rfl, hv⟩ := hv
  obtain ⟨hfl, hf⟩ := hf
  have HV := hide hv
  have HF := hide hf
  clear hv hf
  have HS : Hid (mk_sR L = L.length + mk_sk L L.length) := hide rfl
  generalize mk_sR L = S at *
  by_cases h0 : m - (L.length : Int) < 0
  · have HE : Hid (lf m S = -1) := hide (lf_no (by have := unhide HS; omega))
    generalize lf m S = Q at *
    go_enter Tryd.func22, Tryd.ntmps22
    go_wp2
    go_ret
    exact ⟨by rw [unhide HE]; rfl, Below.refl _ _⟩
  · have HM := hide (fun i h => mk_sk_mono L i L.length h)
    have HU := hide (fun k => (show mk_sk L (k + 1) = mk_sk L k + mk_s1 (mk_g L k) from rfl))
    go_enter Tryd.func22, Tryd.ntmps22
    go_wp2
    go_loopw [1, 5] (fun lv iv wr => ∃ k : Nat, k ≤ L.length ∧ iv = .int .i64 k ∧ lv = .int .i64 (m - (L.length : Int) - (mk_sk L k : Int)) ∧ (mk_sk L k : Int) ≤ m - (L.length : Int) ∧ Hid (Below w.heap.size w wr)) (fun _ iv _ => L.length - (intOf iv).toNat)
    case atStart => exact ⟨0, Nat.zero_le _, rfl, by simp [mk_sk], by simp [mk_sk]; omega, hide (Below.refl _ _)⟩
    case round =>
      obtain ⟨k, hk, rfl, rfl, hle, HB⟩ := hrel
      by_cases hlt : k < L.length
      · have hlt' : (k : Int) < (L.length : Int) := by omega
        rcases unhide HV with h' | ⟨b, off, rfl, _, hbs, hc⟩
        · rw [h'] at hlt; simp at hlt
        obtain ⟨d0, d1, d2⟩ := mk_C_block (hc k hlt) ((unhide HB).block b hbs)
        have C := hide (fun W => mk_sz1 (mk_g L k) (m - (L.length : Int) - (mk_sk L k : Int)) W (by omega) ((unhide HF) k hlt))
        have hs := (unhide HU) k
        have hm := (unhide HM) (k + 1) (by omega)
        have hBs := (unhide HB).size
        have hS := unhide HS
        clear hc
        generalize mk_g L k = r at *
        obtain ⟨x0, x1, x2⟩ := r
        unfold mk_v at C
        simp only at d0 d1 d2 C
        by_cases hq : m - (L.length : Int) - (mk_sk L k : Int) - ((mk_s1 ⟨x0, x1, x2⟩ : Nat) : Int) < 0
        · rw [lf_no hq] at C
          have HE2 : Hid (lf m S = -1) := hide (lf_no (by omega))
          generalize mk_s1 ⟨x0, x1, x2⟩ = Z at *
          clear hS
          go_wp2_with (go_at_call 38; refine ((unhide C) _).mono ?_; rintro e w1 ⟨rfl, hb1⟩; have B1 := hide ((unhide HB).trans (hb1.mono hBs)); clear hb1)
          go_ret
          exact ⟨by rw [unhide HE2]; rfl, unhide B1⟩
        · rw [lf_ok hq] at C
          generalize mk_s1 ⟨x0, x1, x2⟩ = Z at *
          have es : m - (L.length : Int) - (mk_sk L k : Int) - (Z : Int) = m - (L.length : Int) - (mk_sk L (k + 1) : Int) := by omega
          rw [es] at C hq
          have hle2 : (mk_sk L (k + 1) : Int) ≤ m - (L.length : Int) := by omega
          clear es hs hm hS
          go_wp2_with (go_at_call 38; refine ((unhide C) _).mono ?_; rintro e w1 ⟨rfl, hb1⟩; have B1 := hide ((unhide HB).trans (hb1.mono hBs)); clear hb1)
          go_roundw
          case rel => exact ⟨k + 1, by omega, by go_num, rfl, hle2, B1⟩
          case measure => simp [intOf]; omega
      · obtain rfl : k = L.length := by omega
        have HE2 : Hid (lf m S = m - (L.length : Int) - (mk_sk L L.length : Int)) := hide (by have := unhide HS; rw [lf_ok (by omega)]; omega)
        go_wp2
        go_ret
        exact ⟨by rw [unhide HE2]; rfl, unhide HB⟩
theorem mk_info : (Tryd.prog.info? 48).map (fun i => (i.zero, i.size, i.bytes)) = some (some (.agg #[.string ⟨#[]⟩, .int .i64 0, .bool false]), 3, 32) := by kernel_rfl
set_option maxRecDepth 100000 in
set_option maxHeartbeats 2000000 in
theorem mk_to1 (r : Mk) (w : World) : Calls Tryd.prog 42 #[mk_v r] w fun e w' => e = .returned (mk_v r) ∧ Below w.heap.size w w' := by
  obtain ⟨x0, x1, x2⟩ := r
  unfold mk_v
  go_enter Tryd.func42, Tryd.ntmps42
  go_wp2
  go_returns
  exact ⟨rfl, (((Below.refl _ _).alloc (Nat.le_refl _) _).alloc (by simp) _).alloc (by simp; omega) _⟩
def mk_set (xs : List Value) (j : Nat) (r : Mk) : List Value := ((xs.set j (.string r.name)).set (j + 1) (.int .i64 r.pl)).set (j + 2) (.bool r.stays)
theorem mk_set_len (xs : List Value) (j : Nat) (r : Mk) : (mk_set xs j r).length = xs.length := by simp [mk_set]
theorem mk_set_at (xs : List Value) (j : Nat) (r : Mk) (h : j + 3 ≤ xs.length) : (mk_set xs j r)[j]? = some (.string r.name) ∧ (mk_set xs j r)[j + 1]? = some (.int .i64 r.pl) ∧ (mk_set xs j r)[j + 2]? = some (.bool r.stays) := by
  unfold mk_set
  simp only [List.getElem?_set, List.length_set]
  refine ⟨?_, ?_, ?_⟩
  · rw [if_neg (by omega), if_neg (by omega), if_pos trivial, if_pos (by omega)]
  · rw [if_neg (by omega), if_pos trivial, if_pos (by omega)]
  · rw [if_pos trivial, if_pos (by omega)]
theorem mk_set_ne (xs : List Value) (j i : Nat) (r : Mk) (h : i < j ∨ j + 3 ≤ i) : (mk_set xs j r)[i]? = xs[i]? := by
  unfold mk_set
  simp only [List.getElem?_set, List.length_set]
  rw [if_neg (by omega), if_neg (by omega), if_neg (by omega)]
/-- Cells of a row that hold the first k. -/
def mk_Has (xs : List Value) (L : List Mk) (k : Nat) : Prop :=
  ∀ i, i < k → xs[i * 3]? = some (.string (mk_g L i).name) ∧ xs[i * 3 + 1]? = some (.int .i64 (mk_g L i).pl) ∧ xs[i * 3 + 2]? = some (.bool (mk_g L i).stays)
theorem mk_has_put {xs : List Value} {L : List Mk} {k : Nat} (h : mk_Has xs L k) (hl : k * 3 + 3 ≤ xs.length) : mk_Has (mk_set xs (k * 3) (mk_g L k)) L (k + 1) := by
  intro i hi
  by_cases e : i = k
  · subst e
    exact mk_set_at xs (i * 3) (mk_g L i) hl
  · have := h i (by omega)
    rw [mk_set_ne _ _ _ _ (by omega), mk_set_ne _ _ _ _ (by omega), mk_set_ne _ _ _ _ (by omega)]
    exact this
/-- The row when k are copied. -/
def mk_S (w0 w : World) (n : Nat) (L : List Mk) (k : Nat) : Prop :=
  ∃ xs : List Value, mk_Has xs L k ∧ w.ownsRow w0.heap.size 48 3 (.slice (some ⟨w0.heap.size, 0, none⟩) n n) n xs ∧ Below w0.heap.size w0 w
theorem mk_S_all {w0 w : World} {L : List Mk} (h : mk_S w0 w L.length L L.length) : mk_At w0.heap.size w (.slice (some ⟨w0.heap.size, 0, none⟩) L.length L.length) L := by
  obtain ⟨xs, h1, h2, h3⟩ := h
  refine ⟨_, _, rfl, ?_⟩
  by_cases e : L = []
  · exact .inl e
  · have hlt : w0.heap.size < w.heap.size := (h2.lt w0.heap.size rfl).2
    refine .inr ⟨w0.heap.size, 0, rfl, Nat.le_refl _, hlt, fun i hi => ?_⟩
    obtain ⟨c0, c1, c2⟩ := h1 i hi
    rw [Nat.zero_add]
    exact ⟨(h2.cellAt (i * 3) (by omega)).trans c0, (h2.cellAt (i * 3 + 1) (by omega)).trans c1, (h2.cellAt (i * 3 + 2) (by omega)).trans c2⟩
theorem mk_own {w : World} {B g n c : Nat} {e : TypeId} {xs : List Value} (h : w.ownsRow B e 3 (.slice (some ⟨g, 0, none⟩) n c) n xs) (j : Nat) (r : Mk) :
    ((((w).setCell ⟨g, j, none⟩ (.string r.name)).setCell ⟨g, j + 1, none⟩ (.int .i64 r.pl)).setCell ⟨g, j + 2, none⟩ (.bool r.stays)).ownsRow B e 3 (.slice (some ⟨g, 0, none⟩) n c) n (mk_set xs j r) :=
  (((h.stored (j) _).1.stored (j + 1) _).1.stored (j + 2) _).1
theorem mk_S_put {w0 w : World} {n : Nat} {L : List Mk} {k : Nat} (h : mk_S w0 w n L k) (hk : k < n) :
    mk_S w0 ((((w).setCell ⟨w0.heap.size, k * 3, none⟩ (.string (mk_g L k).name)).setCell ⟨w0.heap.size, k * 3 + 1, none⟩ (.int .i64 (mk_g L k).pl)).setCell ⟨w0.heap.size, k * 3 + 2, none⟩ (.bool (mk_g L k).stays)) n L (k + 1) := by
  obtain ⟨xs, h1, h2, h3⟩ := h
  have hx : xs.length = n * 3 := h2.1
  refine ⟨mk_set xs (k * 3) (mk_g L k), mk_has_put h1 (by omega), mk_own h2 (k * 3) (mk_g L k), ?_⟩
  exact (((h3.setCell (p := ⟨w0.heap.size, k * 3, none⟩) (Nat.le_refl _) _).setCell (p := ⟨w0.heap.size, k * 3 + 1, none⟩) (Nat.le_refl _) _).setCell (p := ⟨w0.heap.size, k * 3 + 2, none⟩) (Nat.le_refl _) _)
theorem mk_S_below {w0 w w' : World} {n : Nat} {L : List Mk} {k : Nat} (h : mk_S w0 w n L k) (hb : Below w.heap.size w w') : mk_S w0 w' n L k := by
  obtain ⟨xs, h1, h2, h3⟩ := h
  exact ⟨xs, h1, ownsRow_below h2 hb, h3.trans (hb.mono h3.size)⟩
set_option maxRecDepth 100000 in
set_option maxHeartbeats 4000000 in
theorem mk_tos (v : Value) (L : List Mk) (B : Nat) (w : World) (hv : mk_At B w v L) (hl : L.length ≤ 1048576) :
    Calls Tryd.prog 27 #[v] w fun e w' => e = .returned (.slice (some ⟨w.heap.size, 0, none⟩) L.length L.length) ∧ mk_At w.heap.size w' (.slice (some ⟨w.heap.size, 0, none⟩) L.length L.length) L ∧ Below w.heap.size w w' := by
  obtain ⟨i0, hi, hz0, hz1, hz2⟩ := info_parts mk_info
  obtain ⟨a, cap, rfl, hv⟩ := hv
  have HV := hide hv
  clear hv
  go_enter Tryd.func27, Tryd.ntmps27
  go_wp2_with (at_make; refine wpList_make_full _ rfl _ _ 29 rfl w.heap.size 48 i0 (.agg #[.string ⟨#[]⟩, .int .i64 0, .bool false]) 3 Tryd.underlying29 hi hz0 hz1 .i64 .i64 _ _ L.length rfl rfl rfl rfl ?b2 ?b3 ?b4 ?_)
  case b2 => rw [hz2]; omega
  case b3 => unfold maxLen; omega
  case b4 => omega
  intro w1 hown hgrow
  have H1 : Hid (mk_S w w1 L.length L 0) := hide ⟨_, fun i hi => by omega, hown, madeB hgrow⟩
  clear hown hgrow
  go_wp2
  go_loopw [4] (fun i wr => ∃ k : Nat, k ≤ L.length ∧ i = .int .i64 k ∧ Hid (mk_S w wr L.length L k)) (fun i _ => L.length - (intOf i).toNat)
  case atStart => exact ⟨0, Nat.zero_le _, rfl, H1⟩
  case round =>
    obtain ⟨k, hk, rfl, HO⟩ := hrel
    clear H1
    obtain ⟨_, _, _, hr4⟩ := unhide HO
    by_cases hlt : k < L.length
    · have hlt' : (k : Int) < (L.length : Int) := by omega
      rcases unhide HV with h' | ⟨b, off, rfl, _, hbs, hc⟩
      · rw [h'] at hlt; simp at hlt
      obtain ⟨d0, d1, d2⟩ := mk_C_block (hc k hlt) (hr4.block b hbs)
      have CT := hide (fun W => mk_to1 (mk_g L k) W)
      have HP := hide (fun W (h : mk_S w W L.length L k) => mk_S_put h hlt)
      clear hc hr4
      generalize mk_g L k = r at *
      obtain ⟨x0, x1, x2⟩ := r
      unfold mk_v at CT
      simp only at d0 d1 d2 CT HP
      go_wp2_with fail
      refine ((unhide CT) _).mono ?_
      rintro e w2 ⟨rfl, hb2⟩
      have S2 := mk_S_below (unhide HO) hb2
      have S3 := hide ((unhide HP) w2 S2)
      obtain ⟨xs, _, hr5, hr6⟩ := S2
      obtain ⟨z0, p0, q0⟩ := rowc_at hr5 (k * 3) (by omega)
      obtain ⟨z1, p1, q1⟩ := rowc_at hr5 (k * 3 + 1) (by omega)
      obtain ⟨z2, p2, q2⟩ := rowc_at hr5 (k * 3 + 2) (by omega)
      obtain ⟨y1, r1, s1⟩ := rowc_at (hr5.stored (k * 3) (.string x0)).1 (k * 3 + 1) (by omega)
      obtain ⟨y2, r2, s2⟩ := rowc_at ((hr5.stored (k * 3) (.string x0)).1.stored (k * 3 + 1) (.int .i64 x1)).1 (k * 3 + 2) (by omega)
      clear HO HP CT hb2 hr5 hr6 d0 d1 d2
      go_wp2
      go_roundw
      case rel => exact ⟨k + 1, by omega, by go_num, S3⟩
      case measure => simp [intOf]; omega
    · obtain rfl : k = L.length := by omega
      have R := hide (mk_S_all (unhide HO))
      have B := hide hr4
      clear hr4 HO
      go_wp2
      go_ret
      exact ⟨rfl, unhide R, unhide B⟩
set_option maxRecDepth 100000 in
set_option maxHeartbeats 2000000 in
theorem mk_eq1 (r : Mk) (w : World) : Calls Tryd.prog 50 #[mk_v r, mk_v r] w fun e w' => e = .returned (.bool true) ∧ Below w.heap.size w w' := by
  obtain ⟨x0, x1, x2⟩ := r
  unfold mk_v
  have hg1 : (x1 != x1) = false := by simp
  have hg2 : (x2 != x2) = false := by simp
  go_enter Tryd.func50, Tryd.ntmps50
  go_wp2
  go_ret
  exact ⟨rfl, ((Below.refl _ _).alloc (Nat.le_refl _) _).alloc (by simp) _⟩
set_option maxRecDepth 100000 in
set_option maxHeartbeats 4000000 in
theorem mk_eqs (v1 v2 : Value) (L : List Mk) (B1 B2 : Nat) (w : World) (h1 : mk_At B1 w v1 L) (h2 : mk_At B2 w v2 L) (hl : L.length ≤ 1048576) :
    Calls Tryd.prog 30 #[v1, v2] w fun e w' => e = .returned (.bool true) ∧ Below w.heap.size w w' := by
  obtain ⟨a1, c1, rfl, hg1⟩ := h1
  obtain ⟨a2, c2, rfl, hg2⟩ := h2
  have G1 := hide hg1
  have G2 := hide hg2
  clear hg1 hg2
  have hne : ((L.length : Int) != (L.length : Int)) = false := by simp
  go_enter Tryd.func30, Tryd.ntmps30
  go_wp2
  go_loopw [5] (fun i wr => ∃ k : Nat, k ≤ L.length ∧ i = .int .i64 k ∧ Hid (Below w.heap.size w wr)) (fun i _ => L.length - (intOf i).toNat)
  case atStart => exact ⟨0, Nat.zero_le _, rfl, hide (Below.refl _ _)⟩
  case round =>
    obtain ⟨k, hk, rfl, HB⟩ := hrel
    by_cases hlt : k < L.length
    · rcases unhide G1 with h' | ⟨b1, o1, rfl, _, hb1, hc1⟩
      · rw [h'] at hlt; simp at hlt
      rcases unhide G2 with h' | ⟨b2, o2, rfl, _, hb2, hc2⟩
      · rw [h'] at hlt; simp at hlt
      obtain ⟨d0, d1, d2⟩ := mk_C_block (hc1 k hlt) ((unhide HB).block b1 hb1)
      obtain ⟨e0, e1, e2⟩ := mk_C_block (hc2 k hlt) ((unhide HB).block b2 hb2)
      have CE := hide (fun W => mk_eq1 (mk_g L k) W)
      have hlt' : (k : Int) < (L.length : Int) := by omega
      have h0k : (0 : Int) ≤ (k : Int) := by omega
      clear hc1 hc2
      generalize mk_g L k = r at *
      obtain ⟨x0, x1, x2⟩ := r
      unfold mk_v at CE
      simp only at d0 d1 d2 e0 e1 e2 CE
      go_wp2_with fail
      go_region_with (go_at_call 50; refine ((unhide CE) _).mono ?_; rintro e w2 ⟨rfl, hb2⟩)
      all_goals
        have HB' := hide ((unhide HB).trans (((drewB wr).trans hb2).mono (unhide HB).size))
        clear hb2
        go_wp2
        go_roundw
        case rel => exact ⟨k + 1, by omega, by go_num, HB'⟩
        case measure => simp [intOf]; omega
    · go_wp2
      go_ret
      exact ⟨rfl, unhide HB⟩
section
open Go.ChangeShapes Go.WideShapes Go.ChangeAt Go.Deep
variable {H : Type} {enc : TypeId × Value → H} {w : World} {base : Nat} {spare : Nat → Bool} {held : Bool}
theorem mk_lcells : Tryd.prog.cellsOf 68 = 3 := by kernel_rfl
set_option maxRecDepth 100000 in
theorem mk_open {fuel : Nat} {v : Value} {y : DataW H × List MemPlace} (h : DataW.trod enc Tryd.prog w base spare held fuel 23 [v] = some y) : ∃ L, mk_At 0 w v L ∧ L.length ≤ maxLen ∧ ∀ i, i < L.length → mk_F1 (mk_g L i) := by
  rcases open_slice Tryd.underlying23 h with ⟨hcs, _⟩ | ⟨x, len, cap, m, n, D, Pl, hcs, _, hl, hm, hmm, _, hx⟩
  · simp at hcs
    subst hcs
    exact ⟨[], ⟨none, 0, rfl, .inl rfl⟩, by simp, by simp⟩
  · simp at hcs
    subst hcs
    have hlm : len ≤ m := by rw [hmm]; split <;> omega
    have each : ∀ i, i < len → ∃ r : Mk, (w.cell? (x.add (i * 3)) = some (.string r.name) ∧ w.cell? (x.add (i * 3 + 1)) = some (.int .i64 r.pl) ∧ w.cell? (x.add (i * 3 + 2)) = some (.bool r.stays)) ∧ mk_F1 r := by
      intro i hi
      obtain ⟨cs', h1, h2⟩ := hx i (by omega)
      rw [mk_lcells] at h1
      obtain ⟨_, hlen, hcell⟩ := World.cells?_some h1
      obtain ⟨xs, k, hk, hxy, _, hxl, hfl⟩ := DataW.trod_struct Tryd.underlying68 h2
      match cs', hlen with
      | [v0, v1, v2], _ =>
        have g0 := hfl 0 _ rfl
        have g1 := hfl 1 _ rfl
        have g2 := hfl 2 _ rfl
        simp [str_cells, i64_cells, bool_cells] at g0 g1 g2
        have e0 := hcell 0 (by omega)
        have e1 := hcell 1 (by omega)
        have e2 := hcell 2 (by omega)
        rw [add_add] at e0 e1 e2
        have j0 : ∃ y, DataW.trod enc Tryd.prog w base spare held k 9 [v0] = some y := by
          match xs, hxl with
          | [y0, y1, y2], _ => exact ⟨_, g0⟩
        have j1 : ∃ y, DataW.trod enc Tryd.prog w base spare held k 2 [v1] = some y := by
          match xs, hxl with
          | [y0, y1, y2], _ => exact ⟨_, g1⟩
        have j2 : ∃ y, DataW.trod enc Tryd.prog w base spare held k 4 [v2] = some y := by
          match xs, hxl with
          | [y0, y1, y2], _ => exact ⟨_, g2⟩
        obtain ⟨_, j0⟩ := j0
        obtain ⟨_, j1⟩ := j1
        obtain ⟨_, j2⟩ := j2
        obtain ⟨s0, q0, _, z0⟩ := DataW.trod_string Tryd.underlying9 j0
        obtain ⟨s1, q1, _⟩ := DataW.trod_int Tryd.underlying2 j1
        obtain ⟨s2, q2, _⟩ := DataW.trod_bool Tryd.underlying4 j2
        simp at q0 q1 q2
        subst q0 q1 q2
        unfold maxLen at *
        refine ⟨⟨s0, s1, s2⟩, ⟨by simpa using e0, by simpa using e1, by simpa using e2⟩, ?_⟩
        unfold mk_F1
        simp only
        omega
    have inh : Inhabited Mk := ⟨mk_z⟩
    obtain ⟨R, hR⟩ := choose_lt each
    have hlen : ((List.range len).map R).length = len := by simp
    have hg : ∀ i, i < len → mk_g ((List.range len).map R) i = R i := fun i hi => by simp [mk_g, List.getD, hi]
    refine ⟨(List.range len).map R, ⟨some x, cap, by rw [hlen], ?_⟩, by rw [hlen]; omega, fun i hi => ?_⟩
    · by_cases h0 : len = 0
      · exact .inl (List.length_eq_zero_iff.1 (by omega))
      · have hR0 := (hR 0 (by omega)).1.1
        rw [Nat.zero_mul] at hR0
        obtain ⟨b, off, rfl⟩ := add_spot hR0
        have hb := block_lt_of_cell hR0
        rw [addr_add] at hb
        refine .inr ⟨b, off, rfl, Nat.zero_le _, hb, fun i hi => ?_⟩
        rw [hlen] at hi
        obtain ⟨⟨t0, t1, t2⟩, _⟩ := hR i hi
        rw [addr_add] at t0 t1 t2
        rw [hg i hi]
        exact ⟨t0, t1, t2⟩
    · rw [hlen] at hi
      rw [hg i hi]
      exact (hR i hi).2
end
end Go.Proofs.YtaipnmmlfbfcnaaDoor.Rop
