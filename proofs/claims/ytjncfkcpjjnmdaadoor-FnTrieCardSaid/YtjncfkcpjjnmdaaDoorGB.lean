/- Several texts in one. -/
import Derived.Test.YtjncfkcpjjnmdaaDoorPakP
import Derived.Test.YtjncfkcpjjnmdaaDoorDSrc
/- A text of a trie read back: one byte, digits. -/
namespace Go.Proofs.YtjncfkcpjjnmdaaDoor
open Go.RowKit
/-- The byte at a place; at the end 0. -/
def hb (T : ByteArray) (k : Nat) : Nat := if h : k < T.size then (T[k]'h).toNat else 0
theorem hb_in {T : ByteArray} {k : Nat} (h : k < T.size) : (T[k]'h).toNat = hb T k := by
  unfold hb
  rw [dif_pos h]
theorem hb_end {T : ByteArray} : hb T T.size = 0 := by
  unfold hb
  rw [dif_neg (by omega)]
theorem hb_lt (T : ByteArray) (k : Nat) : hb T k < 256 := by
  unfold hb
  split
  · exact (T[k]).toNat_lt
  · omega
/-- The reader: its text and its place. -/
def RdAt (w wx : World) (g : Nat) (T : ByteArray) (k : Nat) : Prop :=
  wx.heap[g]? = some (.cells #[.string T, .int .i64 k] 59 (0, 0)) ∧ w.grownBy wx (some g)
theorem rd_cells {w : World} {g : Nat} {x y : Value} {T : TypeId} (h : w.heap[g]? = some (.cells #[x, y] T (0, 0))) :
    w.cell? ⟨g, 0, none⟩ = some x ∧ w.cell? ⟨g, 1, none⟩ = some y ∧ w.frozen? ⟨g, 1, none⟩ = false := by
  simp [World.cell?, World.frozen?, h]
theorem RdAt.drewN {w wx : World} {g k : Nat} {T : ByteArray} (h : RdAt w wx g T k) (n : Nat) : RdAt w (wx.drewN n) g T k := ⟨h.1, Dr.grown_drewN h.2 n⟩
theorem RdAt.set {w wx : World} {g k : Nat} {T : ByteArray} (h : RdAt w wx g T k) (q : Nat) : RdAt w (wx.setCell ⟨g, 1, none⟩ (.int .i64 q)) g T q :=
  ⟨heap_setCell_same wx g 1 _ 59 _ h.1, Dr.grown_trans h.2 Dr.grown_set⟩
theorem RdAt.trans {w w1 w2 : World} {g k j : Nat} {T : ByteArray} (h : RdAt w w1 g T k) (q : RdAt w1 w2 g T j) : RdAt w w2 g T j := ⟨q.1, Dr.grown_trans h.2 q.2⟩
theorem RdAt.self {w wx : World} {g k : Nat} {T : ByteArray} (h : RdAt w wx g T k) : RdAt wx wx g T k := ⟨h.1, Dr.grown_refl _ _⟩
set_option maxRecDepth 100000 in
theorem here_in (w : World) (g k : Nat) (T : ByteArray) (h : RdAt w w g T k) (hk : k < T.size) :
    Calls Tryd.prog 50 #[.pointer (some ⟨g, 0, none⟩)] w fun e w' => e = .returned (.int .u8 (hb T k)) ∧ RdAt w w' g T k := by
  obtain ⟨c0, c1, f1⟩ := rd_cells h.1
  have H := hide h
  have hne : ¬ ((k : Int) = (T.size : Int)) := by omega
  have HB := hb_in hk
  clear h
  go_enter Tryd.func50, Tryd.ntmps50
  go_wp2
  go_quiet (fail)
  go_wp2
  go_quiet (fail)
  go_wp2
  go_ret
  refine ⟨?_, ?_⟩
  · rw [← HB]
    rfl
  · exact ((unhide H).drewN _).drewN _
set_option maxRecDepth 100000 in
theorem here_end (w : World) (g : Nat) (T : ByteArray) (h : RdAt w w g T T.size) :
    Calls Tryd.prog 50 #[.pointer (some ⟨g, 0, none⟩)] w fun e w' => e = .returned (.int .u8 (hb T T.size)) ∧ RdAt w w' g T T.size := by
  obtain ⟨c0, c1, f1⟩ := rd_cells h.1
  have H := hide h
  clear h
  rw [hb_end]
  go_enter Tryd.func50, Tryd.ntmps50
  go_wp2
  go_quiet (fail)
  go_wp2
  go_ret
  exact ⟨rfl, (unhide H).drewN _⟩
theorem here_any (w : World) (g k : Nat) (T : ByteArray) (h : RdAt w w g T k) (hk : k ≤ T.size) :
    Calls Tryd.prog 50 #[.pointer (some ⟨g, 0, none⟩)] w fun e w' => e = .returned (.int .u8 (hb T k)) ∧ RdAt w w' g T k := by
  rcases Nat.lt_or_ge k T.size with hl | hl
  · exact here_in w g k T h hl
  · have e : k = T.size := Nat.le_antisymm hk hl
    subst e
    exact here_end w g T h
/-- A byte taken, or not. -/
theorem takes_no (w : World) (g k b : Nat) (T : ByteArray) (h : RdAt w w g T k) (hk : k ≤ T.size) (hb' : hb T k ≠ b) :
    Calls Tryd.prog 45 #[.pointer (some ⟨g, 0, none⟩), .int .u8 b] w fun e w' => e = .returned (.bool false) ∧ RdAt w w' g T k := by
  have C := hide (here_any w g k T h hk)
  have hne : ¬ ((hb T k : Int) = (b : Int)) := by omega
  clear h hb'
  generalize hb T k = c at *
  go_enter Tryd.func45, Tryd.ntmps45
  go_wp2_with fail
  refine (unhide C).mono ?_
  rintro e w1 ⟨rfl, H⟩
  clear C
  have H := hide H
  go_wp2
  go_ret
  exact ⟨rfl, unhide H⟩
theorem takes_yes (w : World) (g k b : Nat) (T : ByteArray) (h : RdAt w w g T k) (hk : k < T.size) (hT : T.size ≤ 65536) (hb' : hb T k = b) :
    Calls Tryd.prog 45 #[.pointer (some ⟨g, 0, none⟩), .int .u8 b] w fun e w' => e = .returned (.bool true) ∧ RdAt w w' g T (k + 1) := by
  have C := hide (here_any w g k T h (by omega))
  rw [hb'] at C
  clear h hb'
  go_enter Tryd.func45, Tryd.ntmps45
  go_wp2_with fail
  refine (unhide C).mono ?_
  rintro e w1 ⟨rfl, H⟩
  obtain ⟨c0, c1, f1⟩ := rd_cells H.1
  clear C
  have H := hide H
  go_wp2
  go_ret
  exact ⟨rfl, (unhide H).set (k + 1)⟩
end Go.Proofs.YtjncfkcpjjnmdaaDoor
/- Digits read back: no Go in sight. -/
namespace Go.Proofs.YtjncfkcpjjnmdaaDoor
open Go.RowKit
theorem dig_pos (u : Nat) : 0 < (digZ u).length := by
  by_cases h : u < 10
  · rw [digZ_small h]; simp
  · rw [digZ_big h]; simp
theorem dig_lt (u : Nat) : u < 10 ^ (digZ u).length := by
  induction u using Nat.strongRecOn with
  | _ u ih =>
    by_cases h : u < 10
    · rw [digZ_small h]; simpa using h
    · have := ih (u / 10) (by omega)
      rw [digZ_big h, List.length_append, List.length_singleton, Nat.pow_succ]
      omega
theorem dig_ge (u : Nat) (h0 : 0 < u) : 10 ^ ((digZ u).length - 1) ≤ u := by
  induction u using Nat.strongRecOn with
  | _ u ih =>
    by_cases h : u < 10
    · rw [digZ_small h]; simp; omega
    · have h1 := ih (u / 10) (by omega) (by omega)
      have h2 := dig_pos (u / 10)
      rw [digZ_big h, List.length_append, List.length_singleton, Nat.add_sub_cancel]
      obtain ⟨m, hm⟩ : ∃ m, (digZ (u / 10)).length = m + 1 := ⟨(digZ (u / 10)).length - 1, by omega⟩
      rw [hm] at h1 ⊢
      rw [Nat.pow_succ]
      simp at h1
      omega
/-- The digit at a place from the end. -/
theorem dig_nth (u : Nat) : ∀ j, j < (digZ u).length → nth (digZ u) ((digZ u).length - 1 - j) = 48 + ((u / 10 ^ j % 10 : Nat) : Int) := by
  induction u using Nat.strongRecOn with
  | _ u ih =>
    intro j hj
    by_cases h : u < 10
    · rw [digZ_small h] at hj ⊢
      simp at hj
      subst hj
      simp [nth]
      omega
    · have h1 := ih (u / 10) (by omega)
      rw [digZ_big h] at hj ⊢
      rw [List.length_append, List.length_singleton] at hj ⊢
      cases j with
      | zero => simp [nth]
      | succ j =>
        have h2 := h1 j (by omega)
        have e : (digZ (u / 10)).length + 1 - 1 - (j + 1) = (digZ (u / 10)).length - 1 - j := by omega
        rw [e]
        have e2 : u / 10 ^ (j + 1) = u / 10 / 10 ^ j := by rw [Nat.div_div_eq_div_mul, Nat.pow_succ, Nat.mul_comm]
        rw [e2, ← h2]
        unfold nth
        rw [List.getD_eq_getElem?_getD, List.getD_eq_getElem?_getD, List.getElem?_append_left (by omega)]
theorem dig_step (u j : Nat) : u / 10 ^ j = 10 * (u / 10 ^ (j + 1)) + u / 10 ^ j % 10 := by
  have e2 : u / 10 ^ (j + 1) = u / 10 ^ j / 10 := by rw [Nat.div_div_eq_div_mul, Nat.pow_succ]
  rw [e2]
  omega
theorem dig_first (u : Nat) (h0 : 0 < u) : u / 10 ^ ((digZ u).length - 1) % 10 ≠ 0 := by
  have h1 := dig_lt u
  have h2 := dig_ge u h0
  have h3 := dig_pos u
  obtain ⟨m, hm⟩ : ∃ m, (digZ u).length = m + 1 := ⟨(digZ u).length - 1, by omega⟩
  rw [hm] at h1 h2 ⊢
  rw [Nat.add_sub_cancel] at h2 ⊢
  have p := Nat.pow_pos (n := m) (show 0 < 10 by omega)
  have a : 1 ≤ u / 10 ^ m := (Nat.one_le_div_iff p).2 h2
  have b : u / 10 ^ m < 10 := by
    rw [Nat.div_lt_iff_lt_mul p]
    rw [Nat.pow_succ] at h1
    omega
  omega
end Go.Proofs.YtjncfkcpjjnmdaaDoor
/- Digits read back. -/
namespace Go.Proofs.YtjncfkcpjjnmdaaDoor
open Go.RowKit
/-- From k on stand the digits of u, and no more. -/
def DigAt (T : ByteArray) (k u : Nat) : Prop :=
  k + (digZ u).length ≤ T.size ∧ (∀ j, j < (digZ u).length → hb T (k + (digZ u).length - 1 - j) = 48 + u / 10 ^ j % 10) ∧ (hb T (k + (digZ u).length) < 48 ∨ 57 < hb T (k + (digZ u).length))
set_option maxHeartbeats 1000000 in
theorem digits_zero (w : World) (g k : Nat) (T : ByteArray) (h : RdAt w w g T k) (hT : T.size ≤ 65536) (hd : DigAt T k 0) :
    Calls Tryd.prog 56 #[.pointer (some ⟨g, 0, none⟩)] w fun e w' => e = .returned (.tuple #[.int .i64 0, .bool true]) ∧ RdAt w w' g T (k + 1) := by
  have e : digZ 0 = [48] := by rw [digZ_small (by omega)]; rfl
  obtain ⟨h1, h2, -⟩ := hd
  rw [e] at h1 h2
  have h3 := h2 0 (by simp)
  simp at h1 h3
  have C := hide (takes_yes w g k 48 T h (by omega) hT h3)
  clear h h1 h2 h3 e
  go_enter Tryd.func56, Tryd.ntmps56
  go_wp2_with fail
  refine (unhide C).mono ?_
  rintro e w1 ⟨rfl, H⟩
  clear C
  have H := hide H
  go_wp2
  go_returns
  exact ⟨rfl, unhide H⟩
def rdPl (w : World) (g : Nat) : Nat := match w.cell? ⟨g, 1, none⟩ with | some v => (intOf v).toNat | none => 0
theorem RdAt.pl {w wx : World} {g k : Nat} {T : ByteArray} (h : RdAt w wx g T k) : rdPl wx g = k := by
  obtain ⟨c0, c1, f1⟩ := rd_cells h.1
  unfold rdPl
  rw [c1]
  simp [intOf]
set_option maxHeartbeats 1000000 in
theorem digits_more (w : World) (g k u : Nat) (T : ByteArray) (h : RdAt w w g T k) (hT : T.size ≤ 65536) (h0 : 0 < u) (hu : u ≤ 1000000000000) (hd : DigAt T k u) :
    Calls Tryd.prog 56 #[.pointer (some ⟨g, 0, none⟩)] w fun e w' => e = .returned (.tuple #[.int .i64 u, .bool true]) ∧ RdAt w w' g T (k + (digZ u).length) := by
  have hp := dig_pos u
  have hlt := dig_lt u
  have hf := dig_first u h0
  obtain ⟨h1, h2, h3⟩ := hd
  generalize (digZ u).length = n at *
  have hk : hb T k ≠ 48 := by
    have a := h2 (n - 1) (by omega)
    rw [show k + n - 1 - (n - 1) = k by omega] at a
    omega
  have C := hide (takes_no w g k 48 T h (by omega) hk)
  have HQ : Hid (∃ q, q = k + n) := hide ⟨_, rfl⟩
  obtain ⟨q, hq⟩ := unhide HQ
  rw [← hq] at h1 h2 h3 ⊢
  have hkq : k < q := by omega
  have H2 := hide h2
  have H3 := hide h3
  have HZ := hide (show 0 = u / 10 ^ n from (Nat.div_eq_of_lt hlt).symm)
  have HQ := hide hq
  clear h h2 h3 hk hf hlt hq hp
  go_enter Tryd.func56, Tryd.ntmps56
  go_wp2_with fail
  refine (unhide C).mono ?_
  rintro e w1 ⟨rfl, H⟩
  obtain ⟨c0, c1, f1⟩ := rd_cells H.1
  clear C
  have H := hide H
  go_wp2
  clear c0 c1 f1
  go_loopw [5] (fun nv wr => ∃ (j p v : Nat), j ≤ n ∧ Hid (p + j = q) ∧ nv = .int .i64 v ∧ Hid (v = u / 10 ^ j) ∧ Hid (RdAt w wr g T p)) (fun nv wr => 65537 - rdPl wr g)
  case atStart => exact ⟨n, k, 0, Nat.le_refl _, hide (unhide HQ).symm, rfl, HZ, H⟩
  case round =>
    obtain ⟨j, p, v, hj, HP, rfl, HV, HR⟩ := hrel
    have HPL := hide (unhide HR).pl
    have hpq : p ≤ q := by have := unhide HP; omega
    have CH := hide (fun W (q : RdAt w W g T p) => here_any W g p T q.self (by omega))
    clear H
    cases j with
    | zero =>
      have hpn : p = q := by have := unhide HP; omega
      subst hpn
      have hvu : v = u := by have := unhide HV; simpa using this
      subst hvu
      have hc := unhide H3
      clear HV HP HZ H2 H3
      generalize hb T p = c at *
      rcases hc with hc | hc
      · go_wp2_with fail
        refine ((unhide CH) _ (unhide HR)).mono ?_
        rintro e w2 ⟨rfl, H4⟩
        obtain ⟨c0, c1, f1⟩ := rd_cells H4.1
        have HR := hide ((unhide HR).trans H4)
        clear H4 CH
        go_wp2
        go_quiet (fail)
        go_wp2
        go_returns
        exact ⟨rfl, (unhide HR).drewN _⟩
      · go_wp2_with fail
        refine ((unhide CH) _ (unhide HR)).mono ?_
        rintro e w2 ⟨rfl, H4⟩
        have HR := hide ((unhide HR).trans H4)
        clear H4
        go_wp2_with fail
        refine ((unhide CH) _ (unhide HR)).mono ?_
        rintro e w3 ⟨rfl, H4⟩
        obtain ⟨c0, c1, f1⟩ := rd_cells H4.1
        have HR := hide ((unhide HR).trans H4)
        clear H4 CH
        go_wp2
        go_quiet (fail)
        go_wp2
        go_returns
        exact ⟨rfl, (unhide HR).drewN _⟩
    | succ j =>
      have hjq : p + (j + 1) = q := unhide HP
      obtain ⟨d, hd⟩ : ∃ d, u / 10 ^ j % 10 = d := ⟨_, rfl⟩
      have hc : hb T p = 48 + d := by
        have := (unhide H2) j (by omega)
        rw [show q - 1 - j = p by omega, hd] at this
        exact this
      have hd9 : d ≤ 9 := by omega
      have hv : u / 10 ^ j = 10 * v + d := by
        have := dig_step u j
        rw [← unhide HV, hd] at this
        exact this
      have hle : u / 10 ^ j ≤ u := Nat.div_le_self _ _
      have hlt2 : 10 * v + d ≤ u := by omega
      have HV2 := hide (show 10 * v + d = u / 10 ^ j from hv.symm)
      have HP2 := hide (show p + 1 + j = q by omega)
      have hps : p < T.size := by omega
      rw [hc] at CH
      clear HV HP HZ H2 H3 hd hc hv hle hjq
      go_wp2_with fail
      refine ((unhide CH) _ (unhide HR)).mono ?_
      rintro e w2 ⟨rfl, H4⟩
      have HR := hide ((unhide HR).trans H4)
      clear H4
      go_wp2_with fail
      refine ((unhide CH) _ (unhide HR)).mono ?_
      rintro e w3 ⟨rfl, H4⟩
      have HR := hide ((unhide HR).trans H4)
      clear H4
      go_wp2_with fail
      refine ((unhide CH) _ (unhide HR)).mono ?_
      rintro e w4 ⟨rfl, H4⟩
      obtain ⟨c0, c1, f1⟩ := rd_cells H4.1
      have HR := hide ((unhide HR).trans H4)
      clear H4
      go_wp2
      go_roundw
      case rel => exact ⟨j, p + 1, 10 * v + d, by omega, HP2, by go_num, HV2, hide ((unhide HR).set (p + 1))⟩
      case measure =>
        have a := ((unhide HR).set (p + 1)).pl
        show 65537 - rdPl (w4.setCell ⟨g, 1, none⟩ (.int .i64 ((p + 1 : Nat) : Int))) g < _
        rw [a, unhide HPL]
        omega
theorem digits_any (w : World) (g k u : Nat) (T : ByteArray) (h : RdAt w w g T k) (hT : T.size ≤ 65536) (hu : u ≤ 1000000000000) (hd : DigAt T k u) :
    Calls Tryd.prog 56 #[.pointer (some ⟨g, 0, none⟩)] w fun e w' => e = .returned (.tuple #[.int .i64 u, .bool true]) ∧ RdAt w w' g T (k + (digZ u).length) := by
  cases u with
  | zero =>
    have e : (digZ 0).length = 1 := by rw [digZ_small (by omega)]; rfl
    rw [e]
    exact digits_zero w g k T h hT hd
  | succ u => exact digits_more w g k (u + 1) T h hT (by omega) hu hd
theorem DigAt.first {T : ByteArray} {k u : Nat} (h : DigAt T k u) : k < T.size ∧ 48 ≤ hb T k ∧ hb T k ≤ 57 ∧ (0 < u → hb T k ≠ 48) := by
  have hp := dig_pos u
  have hf := dig_first u
  obtain ⟨h1, h2, -⟩ := h
  generalize (digZ u).length = n at *
  have a := h2 (n - 1) (by omega)
  rw [show k + n - 1 - (n - 1) = k by omega] at a
  refine ⟨by omega, by omega, by omega, fun h0 => ?_⟩
  have := hf h0
  omega
/-- From k on stands a number, and no more. -/
def NumAt (T : ByteArray) (k : Nat) (x : Int) : Prop := if x < 0 then k < T.size ∧ hb T k = 45 ∧ DigAt T (k + 1) x.natAbs else DigAt T k x.toNat
set_option maxHeartbeats 1000000 in
theorem number_pos (w : World) (g k u : Nat) (T : ByteArray) (h : RdAt w w g T k) (hT : T.size ≤ 65536) (hu : u ≤ 1000000000000) (hd : DigAt T k u) :
    Calls Tryd.prog 55 #[.pointer (some ⟨g, 0, none⟩)] w fun e w' => e = .returned (.tuple #[.int .i64 u, .bool true]) ∧ RdAt w w' g T (k + (digZ u).length) := by
  have h1 := hd.first
  obtain ⟨c0, c1, f1⟩ := rd_cells h.1
  have C := hide (takes_no w g k 45 T h (by omega) (by omega))
  have CD := hide (fun W (q : RdAt w W g T k) => digits_any W g k u T q.self hT hu hd)
  clear h h1 hd
  generalize (digZ u).length = n at *
  go_enter Tryd.func55, Tryd.ntmps55
  go_wp2_with fail
  refine (unhide C).mono ?_
  rintro e w1 ⟨rfl, H⟩
  have H := hide H
  clear C c0 c1 f1
  go_wp2_with fail
  refine ((unhide CD) _ (unhide H)).mono ?_
  rintro e w2 ⟨rfl, H4⟩
  have H := hide ((unhide H).trans H4)
  clear H4 CD
  go_wp2
  go_returns
  exact ⟨rfl, unhide H⟩
set_option maxHeartbeats 1000000 in
theorem number_neg (w : World) (g k u : Nat) (T : ByteArray) (h : RdAt w w g T k) (hT : T.size ≤ 65536) (h0 : 0 < u) (hu : u ≤ 1000000000000) (hk : k < T.size) (hm : hb T k = 45) (hd : DigAt T (k + 1) u) :
    Calls Tryd.prog 55 #[.pointer (some ⟨g, 0, none⟩)] w fun e w' => e = .returned (.tuple #[.int .i64 (-(u : Int)), .bool true]) ∧ RdAt w w' g T (k + 1 + (digZ u).length) := by
  have h1 := hd.first
  obtain ⟨c0, c1, f1⟩ := rd_cells h.1
  have hc := h1.2.2.2 h0
  have C := hide (takes_yes w g k 45 T h hk hT hm)
  have CD := hide (fun W (q : RdAt w W g T (k + 1)) => digits_any W g (k + 1) u T q.self hT hu hd)
  have CH := hide (fun W (q : RdAt w W g T (k + 1)) => here_any W g (k + 1) T q.self (by omega))
  clear h hd hm hk
  generalize (digZ u).length = n at *
  have hc2 : ¬ ((hb T (k + 1) : Int) = 48) := by omega
  generalize hb T (k + 1) = c at *
  clear hc h1
  go_enter Tryd.func55, Tryd.ntmps55
  go_wp2_with fail
  refine (unhide C).mono ?_
  rintro e w1 ⟨rfl, H⟩
  have H := hide H
  clear C c0 c1 f1
  go_wp2_with fail
  refine ((unhide CH) _ (unhide H)).mono ?_
  rintro e w2 ⟨rfl, H4⟩
  have H := hide ((unhide H).trans H4)
  clear H4 CH
  go_wp2_with fail
  refine ((unhide CD) _ (unhide H)).mono ?_
  rintro e w3 ⟨rfl, H4⟩
  have H := hide ((unhide H).trans H4)
  clear H4 CD
  go_wp2
  go_returns
  exact ⟨by go_num, unhide H⟩
theorem number_any (w : World) (g k : Nat) (x : Int) (T : ByteArray) (h : RdAt w w g T k) (hT : T.size ≤ 65536) (h0 : -1000000000000 ≤ x) (h1 : x ≤ 1000000000000) (hd : NumAt T k x) :
    Calls Tryd.prog 55 #[.pointer (some ⟨g, 0, none⟩)] w fun e w' => e = .returned (.tuple #[.int .i64 x, .bool true]) ∧ RdAt w w' g T (k + (itoaZ x).length) := by
  unfold NumAt at hd
  split at hd
  · rename_i hx
    have := number_neg w g k x.natAbs T h hT (by omega) (by omega) hd.1 hd.2.1 hd.2.2
    rw [itoaZ_neg hx, List.length_cons]
    rw [show -((x.natAbs : Nat) : Int) = x by omega, show k + 1 + (digZ x.natAbs).length = k + ((digZ x.natAbs).length + 1) by omega] at this
    exact this
  · rename_i hx
    have := number_pos w g k x.toNat T h hT (by omega) hd
    rw [itoaZ_pos (by omega)]
    rw [show ((x.toNat : Nat) : Int) = x by omega] at this
    exact this
end Go.Proofs.YtjncfkcpjjnmdaaDoor
/- Runs read back. -/
namespace Go.Proofs.YtjncfkcpjjnmdaaDoor
open Go.RowKit
/-- From k on stand a number and how often it stands, and no more. -/
def RunAt (T : ByteArray) (k : Nat) (x : Int) (c : Nat) : Prop :=
  NumAt T k x ∧ k + (itoaZ x).length ≤ T.size ∧ if c = 1 then hb T (k + (itoaZ x).length) ≠ 120 else k + (itoaZ x).length < T.size ∧ hb T (k + (itoaZ x).length) = 120 ∧ DigAt T (k + (itoaZ x).length + 1) c
/-- How long that is. -/
def runLen (x : Int) (c : Nat) : Nat := (itoaZ x).length + if c = 1 then 0 else 1 + (digZ c).length
set_option maxHeartbeats 1000000 in
theorem run_one (w : World) (g k : Nat) (x : Int) (T : ByteArray) (h : RdAt w w g T k) (hT : T.size ≤ 65536) (h0 : -1000000000000 ≤ x) (h1 : x ≤ 1000000000000) (hd : NumAt T k x)
    (hl : k + (itoaZ x).length ≤ T.size) (hx : hb T (k + (itoaZ x).length) ≠ 120) :
    Calls Tryd.prog 49 #[.pointer (some ⟨g, 0, none⟩)] w fun e w' => e = .returned (.tuple #[.int .i64 x, .int .i64 1, .bool true]) ∧ RdAt w w' g T (k + (itoaZ x).length) := by
  have C := hide (number_any w g k x T h hT h0 h1 hd)
  have CT := hide (fun W (q : RdAt w W g T (k + (itoaZ x).length)) => takes_no W g (k + (itoaZ x).length) 120 T q.self hl hx)
  clear h hd hl hx
  generalize (itoaZ x).length = n at *
  go_enter Tryd.func49, Tryd.ntmps49
  go_wp2_with fail
  refine (unhide C).mono ?_
  rintro e w1 ⟨rfl, H⟩
  have H := hide H
  clear C
  go_wp2_with fail
  refine ((unhide CT) _ (unhide H)).mono ?_
  rintro e w2 ⟨rfl, H4⟩
  have H := hide ((unhide H).trans H4)
  clear H4 CT
  go_wp2
  go_returns
  exact ⟨rfl, unhide H⟩
set_option maxHeartbeats 1000000 in
theorem run_more (w : World) (g k c : Nat) (x : Int) (T : ByteArray) (h : RdAt w w g T k) (hT : T.size ≤ 65536) (h0 : -1000000000000 ≤ x) (h1 : x ≤ 1000000000000) (hd : NumAt T k x)
    (hl : k + (itoaZ x).length < T.size) (hx : hb T (k + (itoaZ x).length) = 120) (hc : DigAt T (k + (itoaZ x).length + 1) c) (c2 : 2 ≤ c) (c3 : c ≤ 32768) :
    Calls Tryd.prog 49 #[.pointer (some ⟨g, 0, none⟩)] w fun e w' => e = .returned (.tuple #[.int .i64 x, .int .i64 c, .bool true]) ∧ RdAt w w' g T (k + (itoaZ x).length + 1 + (digZ c).length) := by
  have C := hide (number_any w g k x T h hT h0 h1 hd)
  have CT := hide (fun W (q : RdAt w W g T (k + (itoaZ x).length)) => takes_yes W g (k + (itoaZ x).length) 120 T q.self hl hT hx)
  have CD := hide (fun W (q : RdAt w W g T (k + (itoaZ x).length + 1)) => digits_any W g (k + (itoaZ x).length + 1) c T q.self hT (by omega) hc)
  clear h hd hx hc
  generalize (itoaZ x).length = n at *
  generalize (digZ c).length = m at *
  go_enter Tryd.func49, Tryd.ntmps49
  go_wp2_with fail
  refine (unhide C).mono ?_
  rintro e w1 ⟨rfl, H⟩
  have H := hide H
  clear C
  go_wp2_with fail
  refine ((unhide CT) _ (unhide H)).mono ?_
  rintro e w2 ⟨rfl, H4⟩
  obtain ⟨d0, d1, f1⟩ := rd_cells H4.1
  have H := hide ((unhide H).trans H4)
  clear H4 CT
  go_wp2_with fail
  refine ((unhide CD) _ (unhide H)).mono ?_
  rintro e w3 ⟨rfl, H4⟩
  have H := hide ((unhide H).trans H4)
  clear H4 CD d0 d1 f1
  go_wp2
  go_returns
  exact ⟨rfl, unhide H⟩
theorem run_any (w : World) (g k c : Nat) (x : Int) (T : ByteArray) (h : RdAt w w g T k) (hT : T.size ≤ 65536) (h0 : -1000000000000 ≤ x) (h1 : x ≤ 1000000000000) (hd : RunAt T k x c) (c1 : 1 ≤ c) (c3 : c ≤ 32768) :
    Calls Tryd.prog 49 #[.pointer (some ⟨g, 0, none⟩)] w fun e w' => e = .returned (.tuple #[.int .i64 x, .int .i64 c, .bool true]) ∧ RdAt w w' g T (k + runLen x c) := by
  unfold RunAt at hd
  unfold runLen
  by_cases hc : c = 1
  · subst hc
    rw [if_pos rfl] at hd ⊢
    exact run_one w g k x T h hT h0 h1 hd.1 hd.2.1 hd.2.2
  · rw [if_neg hc] at hd ⊢
    have := run_more w g k c x T h hT h0 h1 hd.1 hd.2.2.1 hd.2.2.2.1 hd.2.2.2.2 (by omega) c3
    rw [show k + (itoaZ x).length + 1 + (digZ c).length = k + ((itoaZ x).length + (1 + (digZ c).length)) by omega] at this
    exact this
end Go.Proofs.YtjncfkcpjjnmdaaDoor
