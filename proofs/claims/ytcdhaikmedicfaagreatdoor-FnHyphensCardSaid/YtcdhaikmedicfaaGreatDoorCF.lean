/- Several texts in one. -/
import Derived.Test.YtcdhaikmedicfaaGreatDoorCA
import Derived.Test.YtcdhaikmedicfaaGreatDoorStrD
import Derived.Lib.Bytealg
import Derived.BigQuiet
import Derived.Test.YtcdhaikmedicfaaGreatDoorCP
import Derived.Test.YtcdhaikmedicfaaGreatDoorWL
import Derived.Test.YtcdhaikmedicfaaGreatDoorBase
import Derived.Test.YtcdhaikmedicfaaGreatDoorShelfB
import Derived.Shelf.Strings.Builder1
import Derived.Test.YtcdhaikmedicfaaGreatDoorShelfP
import Derived.Shelf.Strings.BuilderK
import Derived.Shelf.Strings.Repeat
import Derived.Test.YtcdhaikmedicfaaGreatDoorClmT
import Derived.Test.YtcdhaikmedicfaaGreatDoorHYB
/- Columns: where cells end, as the program finds it. -/
namespace Go.Proofs.YtcdhaikmedicfaaGreatDoor
namespace Clm
open Go.RowKit
set_option linter.unusedVariables false
set_option linter.unusedSimpArgs false
theorem ix_none {l : List UInt8} {c : UInt8} (h : ∀ j, j < l.length → l.getD j 0 ≠ c) : Lib.indexByte l c = -1 := by
  induction l with
  | nil => rfl
  | cons b l ih =>
    have h0 : b ≠ c := h 0 (by simp)
    have h1 := ih (fun j hj => by have := h (j + 1) (by simp; omega); simpa using this)
    unfold Lib.indexByte
    rw [h1]
    simp [h0]
theorem ix_some {l : List UInt8} {c : UInt8} : ∀ {j : Nat}, j < l.length → l.getD j 0 = c → (∀ i, i < j → l.getD i 0 ≠ c) → Lib.indexByte l c = (j : Int) := by
  induction l with
  | nil => intro j h; simp at h
  | cons b l ih =>
    intro j h h2 h3
    cases j with
    | zero =>
      have h2' : b = c := h2
      unfold Lib.indexByte
      simp [h2']
    | succ j =>
      have h0 : b ≠ c := h3 0 (by omega)
      have h1 := ih (j := j) (by simpa using h) (by simpa using h2) (fun i hi => by have := h3 (i + 1) (by omega); simpa using this)
      unfold Lib.indexByte
      rw [h1]
      have e : ((j : Int) == -1) = false := by rw [beq_eq_false_iff_ne]; omega
      rw [e]
      simp [h0]
theorem bt_lst (s : ByteArray) (i : Nat) (h : i < s.size) : bt s i = (s.data.toList.getD i 0).toNat := by
  obtain ⟨⟨l⟩⟩ := s
  have hj : i < l.length := h
  unfold bt
  show ((⟨l⟩ : Array UInt8)[i]!).toNat = _
  simp [List.getD_eq_getElem?_getD, hj]
theorem nine_iff (s : ByteArray) (i : Nat) (h : i < s.size) : s.data.toList.getD i 0 = 9 ↔ bt s i = 9 := by
  rw [bt_lst s i h]
  constructor
  · intro e; rw [e]; rfl
  · intro e; exact UInt8.toNat_inj.1 e
theorem sz_lst (s : ByteArray) : s.data.toList.length = s.size := by rw [Array.length_toList]; rfl
set_option maxRecDepth 100000 in
theorem idxT (t : ByteArray) (j : Int) (h : Lib.indexByte t.data.toList 9 = j) (w : World) : Calls Tryz.prog 101 #[.string t, .string ⟨#[9]⟩] w fun e w' => e = .returned (.int .i64 j) ∧ w' = w := by
  have C3 : Hid (∀ w, Calls Tryz.prog 120 #[.string t, .int .u8 9] w fun e w' => e = .returned (.int .i64 j) ∧ w' = w) := hide (fun w => by
    go_enter Tryz.func120, Tryz.ntmps120
    go_wp2
    rw [run_callFunc_extern Tryz.func129 (by kernel_rfl) (by kernel_rfl) (by kernel_rfl) (e := Extern.BytealgIndexByte.indexByte) (by kernel_rfl), Lib.run_indexByteString]
    simp only [Result.andThen]
    rw [Oper.upon_value]
    go_wp2
    go_ret
    exact ⟨rfl, rfl⟩)
  by_cases hq : ([9] == t.toList) = true
  · have hj : j = 0 := by
      have e := (beq_iff_eq.1 hq).symm
      rw [ByteArray.toList_eq] at e
      rw [e] at h
      rw [← h]
      decide
    subst hj
    clear C3 h
    go_enter Tryz.func101, Tryz.ntmps101
    go_wp2
    go_ret
    exact ⟨rfl, rfl⟩
  · have hq2 : ([9] == t.toList) = false := by simpa using hq
    clear hq h
    go_enter Tryz.func101, Tryz.ntmps101
    go_wp2_with (go_at_call 120; refine ((unhide C3) _).mono ?_; rintro e w' ⟨rfl, hw⟩; obtain rfl := hw.symm; clear hw)
    go_ret
    exact ⟨rfl, rfl⟩
set_option maxRecDepth 100000 in
set_option maxHeartbeats 2000000 in
theorem cutN (y : ByteArray) (h : ∀ i, i < y.size → ¬ bt y i = 9) (w : World) : Calls Tryz.prog 58 #[.string y, .string ⟨#[9]⟩] w fun e w' => e = .returned (.tuple #[.string y, .string ⟨#[]⟩, .bool false]) ∧ w' = w := by
  have CI := hide (fun W => idxT y (-1) (ix_none (fun j hj => by rw [sz_lst] at hj; exact fun e => h j hj ((nine_iff y j hj).1 e))) W)
  have CL : Hid (∀ W, Calls Tryz.prog 75 #[.string y, .string ⟨#[9]⟩] W fun e w' => e = .returned (.tuple #[.string y, .string ⟨#[]⟩, .bool false]) ∧ w' = W) := hide (fun W => by
    go_enter Tryz.func75, Tryz.ntmps75
    go_wp2_with (go_at_call 101; refine ((unhide CI) _).mono ?_; rintro e w' ⟨rfl, hw⟩; obtain rfl := hw.symm; clear hw)
    go_ret3
    exact ⟨rfl, rfl⟩)
  clear CI h
  go_enter Tryz.func58, Tryz.ntmps58
  go_wp2_with (go_at_call 75; refine ((unhide CL) _).mono ?_; rintro e w' ⟨rfl, hw⟩; obtain rfl := hw.symm; clear hw)
  go_ret3
  exact ⟨rfl, rfl⟩
set_option maxRecDepth 100000 in
set_option maxHeartbeats 2000000 in
theorem cutY (y : ByteArray) (j : Nat) (hj : j < y.size) (h9 : bt y j = 9) (h : ∀ i, i < j → ¬ bt y i = 9) (hy : y.size ≤ 1048576) (w : World) : Calls Tryz.prog 58 #[.string y, .string ⟨#[9]⟩] w fun e w' => e = .returned (.tuple #[.string (y.extract 0 j), .string (y.extract (j + 1) y.size), .bool true]) ∧ Below w.heap.size w w' := by
  have CI := hide (fun W => idxT y (j : Int) (ix_some (by rw [sz_lst]; exact hj) ((nine_iff y j hj).2 h9) (fun i hi e => h i hi ((nine_iff y i (by omega)).1 e))) W)
  obtain ⟨r, hr⟩ : ∃ r, j + 1 = r := ⟨_, rfl⟩
  have hrI : (j : Int) + 1 = (r : Int) := by omega
  have hrs : (r : Int) ≤ (y.size : Int) := by omega
  have hjs : (j : Int) ≤ (y.size : Int) := by omega
  have hj0 : (0 : Int) ≤ (j : Int) := by omega
  rw [hr]
  have CL : Hid (∀ W, Calls Tryz.prog 75 #[.string y, .string ⟨#[9]⟩] W fun e w' => e = .returned (.tuple #[.string (y.extract 0 j), .string (y.extract r y.size), .bool true]) ∧ Below W.heap.size W w') := hide (fun W => by
    clear hr h h9
    go_enter Tryz.func75, Tryz.ntmps75
    go_wp2_with (go_at_call 101; refine ((unhide CI) _).mono ?_; rintro e w' ⟨rfl, hw⟩; obtain rfl := hw.symm; clear hw)
    go_quiet (fail)
    go_wp2_with fail
    go_ret3
    exact ⟨rfl, bdrew (Below.refl _ _) _⟩)
  clear CI h h9 hr
  go_enter Tryz.func58, Tryz.ntmps58
  go_wp2_with (go_at_call 75; refine ((unhide CL) _).mono ?_; rintro e w' ⟨rfl, hb⟩)
  go_ret3
  exact ⟨rfl, hb⟩
set_option maxRecDepth 100000 in
set_option maxHeartbeats 4000000 in
theorem lastI (x : ByteArray) (hx : x.size ≤ 1048576) (w : World) : Calls Tryz.prog 47 #[.string x, .string ⟨#[9]⟩] w fun e w' => e = .returned (.int .i64 (((cts x x.size).2 : Int) - 1)) ∧ w' = w := by
  have CB : Hid (∀ W, Calls Tryz.prog 65 #[.string x, .int .u8 9] W fun e w' => e = .returned (.int .i64 (((cts x x.size).2 : Int) - 1)) ∧ w' = W) := hide (fun W => by
    go_enter Tryz.func65, Tryz.ntmps65
    go_wp2_with fail
    go_loopw [5] (fun v5 wk => ∃ (k : Nat) (c : Int), v5 = .int .i64 c ∧ Hid (c = (k : Int) - 1) ∧ -1 ≤ c ∧ k ≤ x.size ∧ Hid (cts x x.size = cts x k) ∧ wk = W) (fun v _ => (intOf v + 1).toNat)
    case atStart => exact ⟨x.size, _, rfl, hide rfl, by omega, by omega, hide rfl, rfl⟩
    case round =>
      obtain ⟨k, c, rfl, HC, hc1, hk, HK, hwk⟩ := hrel
      obtain rfl := hwk.symm
      clear hwk
      by_cases hc0 : 0 ≤ c
      · obtain ⟨j, hj⟩ : ∃ j, k - 1 = j := ⟨_, rfl⟩
        obtain rfl : c = (j : Int) := by have := unhide HC; omega
        have hjx : (j : Int) < (x.size : Int) := by have := unhide HC; omega
        have HJ : Hid (k = j + 1) := hide (by have := unhide HC; omega)
        have f3 := fun h => bt_get x j h
        have HY : Hid (bt x j = 9 → (cts x x.size).2 = j + 1) := hide (fun e => by rw [unhide HK, unhide HJ, cts_yes e])
        have HN : Hid (¬ bt x j = 9 → cts x x.size = cts x j) := hide (fun e => by rw [unhide HK, unhide HJ, cts_no e])
        clear hj
        generalize bt x j = b3 at *
        by_cases c3 : b3 = 9
        · have c3b : ((b3 : Int) == 9) = true := by rw [c3]; rfl
          have HE := hide ((unhide HY) c3)
          clear c3 HY HN HK
          go_wp2_with fail
          go_ret
          exact ⟨ret_int (by rw [unhide HE]; omega), rfl⟩
        · have c3b : ((b3 : Int) == 9) = false := by rw [beq_eq_false_iff_ne]; omega
          have HE := hide ((unhide HN) c3)
          clear c3 HY HN HK
          go_wp2_with fail
          go_roundw
          case rel => exact ⟨j, _, rfl, hide rfl, by omega, by have := unhide HJ; omega, HE, trivial⟩
          case measure => (simp [intOf] <;> omega)
      · have HE : Hid ((cts x x.size).2 = 0) := hide (by
          rw [unhide HK, show k = 0 by have := unhide HC; omega]
          rfl)
        go_wp2_with fail
        go_ret
        exact ⟨ret_int (by rw [unhide HE]; rfl), rfl⟩)
  go_enter Tryz.func47, Tryz.ntmps47
  go_wp2_with (go_at_call 65; refine ((unhide CB) _).mono ?_; rintro e w' ⟨rfl, hw⟩; obtain rfl := hw.symm; clear hw)
  go_ret
  exact ⟨rfl, rfl⟩
end Clm
end Go.Proofs.YtcdhaikmedicfaaGreatDoor
/- Columns, the program's side: where the next cell ends; its iterator, walked. -/
namespace Go.Proofs.YtcdhaikmedicfaaGreatDoor
namespace Clm
open Go.RowKit Go.Shelf
set_option linter.unusedVariables false
set_option linter.unusedSimpArgs false
attribute [local go_sem] Oper.semAt_some
theorem cts_pre (x : ByteArray) (i : Nat) : ∀ d, (cts x i).1 <+: (cts x (i + d)).1
  | 0 => List.prefix_refl _
  | d + 1 => by
    have ih := cts_pre x i d
    rw [← Nat.add_assoc]
    by_cases h : bt x (i + d) = 9
    · rw [cts_yes h]
      exact ih.trans (List.prefix_append _ _)
    · rw [cts_no h]
      exact ih
theorem cts_cel (x : ByteArray) (i : Nat) (h : i ≤ x.size) : (cts x i).1 <+: cel x := by
  have := cts_pre x i (x.size - i)
  rw [show i + (x.size - i) = x.size by omega] at this
  exact this
theorem first9 (x : ByteArray) (a : Nat) : ∀ d, (∀ j, a ≤ j → j < a + d → ¬ bt x j = 9) ∨ ∃ j, a ≤ j ∧ j < a + d ∧ bt x j = 9 ∧ ∀ i, a ≤ i → i < j → ¬ bt x i = 9
  | 0 => .inl (fun j h1 h2 => by omega)
  | d + 1 => by
    rcases first9 x a d with h | ⟨j, h1, h2, h3, h4⟩
    · by_cases e : bt x (a + d) = 9
      · exact .inr ⟨a + d, by omega, by omega, e, fun i h1 h2 => h i h1 h2⟩
      · refine .inl (fun j h1 h2 => ?_)
        by_cases hj : j = a + d
        · rw [hj]; exact e
        · exact h j h1 (by omega)
    · exact .inr ⟨j, h1, by omega, h3, h4⟩
theorem ext_bt (x : ByteArray) (a i : Nat) (h : a + i < x.size) : bt (x.extract a x.size) i = bt x (a + i) :=
  bt_extract x a x.size i (Nat.le_refl _) (by omega)
theorem ext_sz (x : ByteArray) (a : Nat) : (x.extract a x.size).size = x.size - a := by rw [ByteArray.size_extract]; omega
/-- What Cut tells at the k-th cell. -/
def Ct (x : ByteArray) (k : Nat) (c r : ByteArray) (b : Bool) : Prop :=
  (b = false ∧ k = (cel x).length) ∨ (b = true ∧ k < (cel x).length ∧ c = nthS (cel x) k ∧ ∃ a, r = x.extract a x.size ∧ (cts x a).2 = a ∧ a ≤ x.size ∧ (cts x a).1.length = k + 1)
theorem nth_pre {L M : List ByteArray} (h : L <+: M) (k : Nat) (hk : k < L.length) : nthS M k = nthS L k := by
  obtain ⟨t, rfl⟩ := h
  unfold nthS
  rw [List.getD_eq_getElem?_getD, List.getElem?_append_left hk, ← List.getD_eq_getElem?_getD]
theorem cutC (x : ByteArray) (hx : x.size ≤ 1048576) (a : Nat) (ha : a ≤ x.size) (h2 : (cts x a).2 = a) (k : Nat) (hk : (cts x a).1.length = k) (W : World) :
    Calls Tryz.prog 58 #[.string (x.extract a x.size), .string ⟨#[9]⟩] W fun e w' => ∃ c r b, e = .returned (.tuple #[.string c, .string r, .bool b]) ∧ Below W.heap.size W w' ∧ Ct x k c r b := by
  rcases first9 x a (x.size - a) with h | ⟨j, h3, h4, h5, h6⟩
  · refine (cutN (x.extract a x.size) (fun i hi => ?_) W).mono ?_
    · rw [ext_sz] at hi
      rw [ext_bt x a i (by omega)]
      exact h (a + i) (by omega) (by omega)
    · rintro e w' ⟨rfl, rfl⟩
      refine ⟨_, _, _, rfl, Below.refl _ _, .inl ⟨rfl, ?_⟩⟩
      have e := cts_skip (x := x) (a := a) (x.size - a) (fun j h1 h2 => h j h1 h2)
      rw [show a + (x.size - a) = x.size by omega] at e
      unfold cel
      rw [e, hk]
  · obtain ⟨d, rfl⟩ : ∃ d, j = a + d := ⟨j - a, by omega⟩
    have hd : d < (x.extract a x.size).size := by rw [ext_sz]; omega
    refine (cutY (x.extract a x.size) d hd (by rw [ext_bt x a d (by omega)]; exact h5) (fun i hi => by rw [ext_bt x a i (by omega)]; exact h6 (a + i) (by omega) (by omega)) (by rw [ext_sz]; omega) W).mono ?_
    rintro e w' ⟨rfl, hb⟩
    have e1 := cts_skip (x := x) (a := a) d (fun j h1 h2 => h6 j h1 (by omega))
    have e2 : cts x (a + d + 1) = ((cts x a).1 ++ [x.extract a (a + d)], a + d + 1) := by rw [cts_yes h5, e1, h2]
    have hp := cts_cel x (a + d + 1) (by omega)
    have hl : (cts x (a + d + 1)).1.length = k + 1 := by rw [e2]; simp [hk]
    have e3 : nthS (cel x) k = x.extract a (a + d) := by
      rw [nth_pre hp k (by omega), e2]
      unfold nthS
      simp [List.getD_eq_getElem?_getD, ← hk]
    refine ⟨_, _, _, rfl, hb, .inr ⟨rfl, ?_, ?_, a + d + 1, ?_, ?_, by omega, hl⟩⟩
    · have := hp.length_le
      omega
    · rw [e3, ByteArray.extract_extract]
      congr 1
      omega
    · rw [ext_sz, ByteArray.extract_extract]
      congr 1
      · omega
    · rw [e2]
theorem cellsI (x : ByteArray) (w : World) : Calls Tryz.prog 42 #[.string x] w fun e w' => e = .returned (.func (.func 57) #[] #[.pointer (some ⟨w.heap.size, 0, none⟩)]) ∧ w' = w.alloc (.cells #[.string x] 9) := by
  go_enter Tryz.func42, Tryz.ntmps42
  go_wp2
  go_ret
  exact ⟨rfl, rfl⟩
set_option maxRecDepth 100000 in
set_option maxHeartbeats 4000000 in
theorem cells_in (n' l bt : Nat) (x : ByteArray) (hx : x.size ≤ 65536) (W : World) (hbt : W.cell? ⟨bt, 0, none⟩ = some (.string x)) (J Jx : Nat → World → Prop)
    (hA : ∀ k Wa Wb, J k Wa → Below Wa.heap.size Wa Wb → J k Wb)
    (hY : ∀ k Wa, k < (cel x).length → J k Wa → YieldAt Fence.wide (n' - 1) Tryz.prog l #[.int .i64 (k : Int), .string (nthS (cel x) k)] Wa fun e Wb => (e = .returned (.bool true) ∧ J (k + 1) Wb) ∨ (e = .returned (.bool false) ∧ Jx (k + 1) Wb))
    (h0 : J 0 W) :
    CallsIn Fence.wide n' Tryz.prog 57 #[.func (.yield l) #[] #[], .pointer (some ⟨bt, 0, none⟩)] W fun e W' => (∃ v, e = .returned v) ∧ (J (cel x).length W' ∨ (∃ k, k ≤ (cel x).length ∧ Jx k W')) := by
  have CC := hide (fun a (ha : a ≤ x.size) (h2 : (cts x a).2 = a) k (hk : (cts x a).1.length = k) W => (callsIn_wide (n := n' - 1)).2 (cutC x (by omega) a ha h2 k hk W))
  have C0 := (callsIn_wide (n := n' - 1)).2 (cutC x (by omega) 0 (Nat.zero_le _) rfl 0 rfl W)
  rw [show x.extract 0 x.size = x by simp] at C0
  have HL : Hid ((cel x).length ≤ 65536) := hide (by have := cel_len x; omega)
  refine callsIn_of_wp Tryz.func57 rfl trivial ?_ rfl
  simp only [Tryz.ntmps57, List.size_toArray, List.length_cons, List.length_nil, Nat.reduceAdd, Nat.reduceSub, Array.replicate_succ, Array.replicate_zero, List.push_toArray, List.append_toArray, List.nil_append, List.cons_append]
  gi_wp2_with (first | (refine ⟨trivial, (fun h => (by cases h)), ?_⟩; gi_at_call 58; refine C0.mono ?_; clear C0; rintro e W1 ⟨c0, r0, b0, rfl, hb1, hc1⟩; have J1 := hide (hA 0 _ _ h0 hb1); have HC1 := hide hc1; clear hb1 hc1 h0))
  gi_loopw [3, 4, 5, 6] (fun v3 v4 v5 v6 wr => ∃ (k : Nat) (c r : ByteArray) (b : Bool), v3 = .string c ∧ v4 = .string r ∧ v5 = .bool b ∧ v6 = .int .i64 (k : Int) ∧ k ≤ (cel x).length ∧ Hid (Ct x k c r b) ∧ Hid (J k wr)) (fun _ _ _ v _ => (cel x).length - (intOf v).toNat)
  case atStart => exact ⟨0, c0, r0, b0, rfl, rfl, rfl, rfl, by omega, HC1, J1⟩
  case round =>
    obtain ⟨k, c, r, b, rfl, rfl, rfl, rfl, hk, HC, HJ⟩ := hrel
    cases b
    · have HE : Hid (k = (cel x).length) := hide (by
        rcases unhide HC with h | h
        · exact h.2
        · cases h.1)
      gi_wp2
      go_end0
      exact ⟨⟨_, rfl⟩, .inl (by rw [← unhide HE]; exact unhide HJ)⟩
    · obtain ⟨a, hlt, HCN, rfl, ha2, ha, hal⟩ : ∃ a, k < (cel x).length ∧ Hid (c = nthS (cel x) k) ∧ r = x.extract a x.size ∧ Hid ((cts x a).2 = a) ∧ a ≤ x.size ∧ Hid ((cts x a).1.length = k + 1) := by
        rcases unhide HC with h | ⟨_, h1, h2, a, h3, h4, h5, h6⟩
        · cases h.1
        · exact ⟨a, h1, hide h2, h3, hide h4, h5, hide h6⟩
      have CK := hide (fun W => (unhide CC) a ha (unhide ha2) (k + 1) (unhide hal) W)
      have hkb : k ≤ 65536 := by have := unhide HL; omega
      obtain ⟨fn, tmps, assign, body, hy, hR⟩ := hY k wr hlt (unhide HJ)
      rw [← unhide HCN] at hy
      clear HC
      gi_wp2
      refine ⟨(fun h => (by cases h)), ?_⟩
      refine hR.mono ?_
      rintro e w6 (⟨rfl, hJ6⟩ | ⟨rfl, hJx6⟩)
      · have J6 := hide hJ6
        clear hJ6
        gi_wp2_with (first | (refine ⟨trivial, (fun h => (by cases h)), ?_⟩; gi_at_call 58; refine ((unhide CK) _).mono ?_; rintro e w7 ⟨c7, r7, b7, rfl, hb7, hc7⟩; have J7 := hide (hA _ _ _ (unhide J6) hb7); have HC7 := hide hc7; clear hb7 hc7))
        go_roundw
        case rel => exact ⟨k + 1, c7, r7, b7, rfl, rfl, rfl, by go_num, hlt, HC7, J7⟩
        case measure => (simp [intOf] <;> omega)
      · gi_wp2
        refine bodyPost_ret (results_none rfl _ _ _) rfl ?_
        exact ⟨⟨_, rfl⟩, .inr ⟨k + 1, hlt, hJx6⟩⟩
end Clm
end Go.Proofs.YtcdhaikmedicfaaGreatDoor
/- Columns, the program's side: the widths of the columns. -/
namespace Go.Proofs.YtcdhaikmedicfaaGreatDoor
namespace Clm
open Go.RowKit Go.Shelf Chr
set_option linter.unusedVariables false
set_option linter.unusedSimpArgs false
attribute [local go_sem] Oper.semAt_some
def mrkD (D : Nat) : Deferred := { target := .collected D, args := #[] }
/-- The box of the widths, the marks of the loops that are through. -/
structure Wd (w V : World) (Ds : List Nat) (W : List Int) : Prop where
  box : ∃ v, Boxed V w.heap.size 26 v ∧ V.ownsRow w.heap.size 2 1 v W.length (W.map (Value.int .i64))
  bel : Below w.heap.size w V
  nod : Ds.Nodup
  mks : ∀ D ∈ Ds, w.heap.size ≤ D ∧ V.heap[D]? = some (.deferred (some []))
/-- The same while a round is under way, the row written out, the record beside it. -/
structure Wv (w V : World) (Ds : List Nat) (l : Nat) (rc : Obj) (q n c : Nat) (W : List Int) : Prop where
  box : Boxed V w.heap.size 26 (.slice (some ⟨q, 0, none⟩) n c)
  row : V.ownsRow w.heap.size 2 1 (.slice (some ⟨q, 0, none⟩) n c) n (W.map (Value.int .i64))
  bel : Below w.heap.size w V
  nod : Ds.Nodup
  mks : ∀ D ∈ Ds, w.heap.size ≤ D ∧ V.heap[D]? = some (.deferred (some []))
  rcd : V.heap[l]? = some rc ∧ w.heap.size ≤ l ∧ l ∉ Ds
theorem Wd.below {w V V' : World} {Ds : List Nat} {W : List Int} (h : Wd w V Ds W) (hb : Below V.heap.size V V') : Wd w V' Ds W := by
  obtain ⟨v, hv, ho⟩ := h.box
  exact ⟨⟨v, (hb.block _ hv.lt).trans hv, ownsRow_below ho hb⟩, h.bel.trans (hb.mono h.bel.size), h.nod, fun D hD => ⟨(h.mks D hD).1, (hb.block D (Array.getElem?_eq_some_iff.1 (h.mks D hD).2).1).trans (h.mks D hD).2⟩⟩
theorem Wd.put {w V : World} {Ds : List Nat} {W : List Int} (h : Wd w V Ds W) {l : Nat} {o o' : Obj} (hl : V.heap[l]? = some o) (ho : o.isCells = false) (hw : w.heap.size ≤ l) (hd : l ∉ Ds) : Wd w (V.putObj l o') Ds W := by
  obtain ⟨v, hv, hr⟩ := h.box
  have hg := grownBy_putObj' V l o'
  refine ⟨⟨v, hv.kept hg (fun e => ?_), ownsRow_putObj hr _ hl ho⟩, h.bel.grown hg h.bel.size (fun k e => by injection e with e; omega), h.nod, fun D hD => ⟨(h.mks D hD).1, (World.putObj_heap_other (fun e => hd (by rw [← e]; exact hD))).trans (h.mks D hD).2⟩⟩
  injection e with e
  have hv' : V.heap[w.heap.size]? = _ := hv
  rw [e, hl] at hv'
  injection hv' with hv'
  rw [hv'] at ho
  cases ho
theorem Wv.below {w V V' : World} {Ds : List Nat} {l : Nat} {rc : Obj} {q n c : Nat} {W : List Int} (h : Wv w V Ds l rc q n c W) (hb : Below V.heap.size V V') : Wv w V' Ds l rc q n c W :=
  ⟨(hb.block _ h.box.lt).trans h.box, ownsRow_below h.row hb, h.bel.trans (hb.mono h.bel.size), h.nod, fun D hD => ⟨(h.mks D hD).1, (hb.block D (Array.getElem?_eq_some_iff.1 (h.mks D hD).2).1).trans (h.mks D hD).2⟩, (hb.block l (Array.getElem?_eq_some_iff.1 h.rcd.1).1).trans h.rcd.1, h.rcd.2⟩
theorem Wv.set {w V : World} {Ds : List Nat} {l : Nat} {rc : Obj} {q n c : Nat} {W : List Int} (h : Wv w V Ds l rc q n c W) (hrc : rc.isCells = false) (k : Nat) (x : Int) : Wv w (V.setCell ⟨q, k, none⟩ (.int .i64 x)) Ds l rc q n c (W.set k x) := by
  have hq := h.row.lt q rfl
  have hg : ∀ b, b ≠ q → (V.setCell ⟨q, k, none⟩ (.int .i64 x)).heap[b]? = V.heap[b]? := fun b hb => Below.heap_setCell _ _ _ _ (fun e => hb e)
  obtain ⟨cur, fz, hqc⟩ : ∃ cur fz, V.heap[q]? = some (.cells cur 2 fz) := by
    rcases h.row.2 with ⟨e, _⟩ | ⟨g, cap, cur, e, _, hh, _⟩
    · cases e
    · injection e with e1 e2 e3
      injection e1 with e1
      injection e1 with e1
      subst e1
      exact ⟨_, _, hh⟩
  have hbn : w.heap.size ≠ q := fun e => h.box.not_row (by decide) h.row (by rw [← e]; rfl)
  have hnc : ∀ b o, V.heap[b]? = some o → o.isCells = false → b ≠ q := fun b o hb ho e => by
    rw [e, hqc] at hb
    injection hb with hb
    rw [← hb] at ho
    cases ho
  refine ⟨(hg _ hbn).trans h.box, ?_, h.bel.setCell (p := ⟨q, k, none⟩) hq.1 _, h.nod, fun D hD => ⟨(h.mks D hD).1, (hg D (hnc D _ (h.mks D hD).2 rfl)).trans (h.mks D hD).2⟩, (hg l (hnc l _ h.rcd.1 hrc)).trans h.rcd.1, h.rcd.2⟩
  have := (h.row.stored k (.int .i64 x)).1
  rw [List.map_set]
  exact this
theorem Wv.done {w V : World} {Ds : List Nat} {l : Nat} {rc : Obj} {q n c : Nat} {W : List Int} (h : Wv w V Ds l rc q n c W) (hrc : rc.isCells = false) (o : Obj) : Wd w (V.putObj l o) Ds W ∧ (V.putObj l o).heap[l]? = some o := by
  have hl := W.length_map (f := Value.int .i64)
  have hn : n = W.length := by have := h.row.1; simp at this; omega
  refine ⟨Wd.put ⟨⟨_, h.box, by rw [← hn]; exact h.row⟩, h.bel, h.nod, h.mks⟩ h.rcd.1 hrc h.rcd.2.1 h.rcd.2.2, World.putObj_heap_same (Array.getElem?_eq_some_iff.1 h.rcd.1).1⟩
theorem lv_marks {F : Fence} {n : Nat} {P : Program} {fn : Func} {tmps : Array Value} {R : Ending → World → Prop} {B : Nat} {w0 : World} {v : Value} {k : Nat} {xs : List Value} (h0 : B ≤ w0.heap.size) (hK : ∀ w' : World, w'.ownsRow B 2 1 v k xs → Below B w0 w' → LeavesIn F n P fn tmps R [] .returning w') : ∀ (Ds : List Nat) (w : World), Ds.Nodup → (∀ D ∈ Ds, B ≤ D ∧ w.heap[D]? = some (.deferred (some []))) → w.ownsRow B 2 1 v k xs → Below B w0 w → LeavesInM F n P fn tmps R (Ds.map mrkD) .returning w
  | [], w, _, _, ho, hb => hK w ho hb
  | D :: Ds, w, hn, hm, ho, hb => by
    have hd := hm D (by simp)
    obtain ⟨n1, n2⟩ := List.nodup_cons.1 hn
    refine ⟨by simp, .inl ⟨D, w.putObj D (.deferred none), rfl, run_takeDeferred hd.2, lv_marks h0 hK Ds _ n2 (fun D' hD' => ?_) (ownsRow_putObj ho _ hd.2 rfl) (hb.grown (grownBy_putObj' w D _) (Nat.le_trans h0 hb.size) (fun m e => by cases e; exact hd.1))⟩⟩
    have hd' := hm D' (by simp [hD'])
    exact ⟨hd'.1, (World.putObj_heap_other (fun e => by subst e; exact n1 hD')).trans hd'.2⟩
theorem widest_walk (x : ByteArray) (hx : x.size ≤ 65536) (w W2 : World) (D : Nat) (hD : W2.heap.size = D) (hwD : w.heap.size ≤ D) (Ds : List Nat) (hDs : D ∉ Ds) (hDl : D + 1 ∉ Ds) (W0 : List Int) (hs : Wd w W2 Ds W0) (bt : Nat) (hbt : W2.cell? ⟨bt, 0, none⟩ = some (.string x)) (hbl : bt < W2.heap.size)
    {fn : FuncId} {tm : Array Value} {ps : Array Tmp} {asg bd : Code} {d : Nat}
    (hBody : ∀ k Va, k < (cel x).length → Wd w Va (D :: Ds) (wup W0 (cel x) k) → Va.heap[D + 1]? = some (.loop (lrec .ready none fn tm ps asg bd d)) → YieldAt Fence.wide 4 Tryz.prog (D + 1) #[.int .i64 (k : Int), .string (nthS (cel x) k)] Va fun e Vb =>
      e = .returned (.bool true) ∧ Wd w Vb (D :: Ds) (wup W0 (cel x) (k + 1)) ∧ Vb.heap[D + 1]? = some (.loop (lrec .ready none fn tm ps asg bd d))) :
    CallsIn Fence.wide 5 Tryz.prog 57 #[.func (.yield (D + 1)) #[] #[], .pointer (some ⟨bt, 0, none⟩)] ((W2.alloc (.deferred (some []))).alloc (.loop (lrec .ready none fn tm ps asg bd d))) fun e V => (∃ v, e = .returned v) ∧
      Wd w V (D :: Ds) (wup W0 (cel x) (cel x).length) ∧ V.heap[D + 1]? = some (.loop (lrec .ready none fn tm ps asg bd d)) := by
  generalize hrc : Obj.loop (lrec .ready none fn tm ps asg bd d) = rc at *
  subst hD
  obtain ⟨W3, hW3⟩ : ∃ W3, W3 = W2.alloc (.deferred (some [])) := ⟨_, rfl⟩
  have z3 : W3.heap.size = W2.heap.size + 1 := by rw [hW3]; simp
  have b3 : Below W2.heap.size W2 W3 := by rw [hW3]; exact (Below.refl _ _).alloc (Nat.le_refl _) _
  have d3 : W3.heap[W2.heap.size]? = some (.deferred (some [])) := by rw [hW3]; exact heap_alloc_last _ _
  rw [← hW3]
  obtain ⟨W4, hW4⟩ : ∃ W4, W4 = W3.alloc rc := ⟨_, rfl⟩
  have b4 : Below W3.heap.size W3 W4 := by rw [hW4]; exact (Below.refl _ _).alloc (Nat.le_refl _) _
  have l4 : W4.heap[W2.heap.size + 1]? = some rc := by rw [hW4, ← z3]; exact heap_alloc_last _ _
  have z4 : W4.heap.size = W2.heap.size + 2 := by rw [hW4]; simp [z3]
  have hs4 := (hs.below b3).below b4
  have d4 := (b4.block W2.heap.size (by omega)).trans d3
  have c4 := (b4.cell (p := ⟨bt, 0, none⟩) (by show bt < _; omega)).trans ((b3.cell (p := ⟨bt, 0, none⟩) hbl).trans hbt)
  rw [← hW4]
  refine (cells_in 5 (W2.heap.size + 1) bt x hx W4 c4 (fun k V => Wd w V (W2.heap.size :: Ds) (wup W0 (cel x) k) ∧ V.heap[W2.heap.size + 1]? = some rc) (fun _ _ => False) ?_ ?_ ?_).mono ?_
  · rintro k Va Vb ⟨h, hl⟩ hb
    exact ⟨h.below hb, (hb.block _ (Array.getElem?_eq_some_iff.1 hl).1).trans hl⟩
  · rintro k Va hk ⟨h, hl⟩
    exact YieldAt.mono (hBody k Va hk h hl) (fun e Vb h => .inl h)
  · exact ⟨⟨hs4.box, hs4.bel, List.nodup_cons.2 ⟨hDs, hs4.nod⟩, fun D' hD' => by
      rcases List.mem_cons.1 hD' with rfl | hD'
      · exact ⟨hwD, d4⟩
      · exact hs4.mks D' hD'⟩, l4⟩
  · rintro e V ⟨he, h | ⟨_, _, h⟩⟩
    · exact ⟨he, h⟩
    · exact h.elim
theorem set_end (W : List Int) (T : Int) (hT : 0 ≤ T) : (W ++ [0]).set W.length (max 0 T) = put1 W W.length T := by
  unfold put1
  rw [if_neg (by omega), show max 0 T = T by omega]
  simp
theorem getD_end (W : List Int) (x : Int) : (W ++ [x]).getD W.length 0 = x := by simp [List.getD_eq_getElem?_getD]
theorem cell_ofK {V : World} {B q n c : Nat} {W : List Int} (h : V.ownsRow B 2 1 (.slice (some ⟨q, 0, none⟩) n c) n (W.map (Value.int .i64))) (k : Nat) (hk : k < n) : V.cell? ⟨q, k, none⟩ = some (.int .i64 (W.getD k 0)) := by
  have hl : W.length = n := by simpa using h.1
  rw [h.cellAt k (by omega), List.getElem?_map, List.getElem?_eq_getElem (by omega)]
  simp [List.getD_eq_getElem?_getD, show k < W.length by omega]
theorem mixedC : Tryz.prog.follows Departure.mixedOrders = true := by kernel_rfl
set_option maxRecDepth 100000 in
set_option maxHeartbeats 8000000 in
theorem widest_in (v : Value) (P : List ByteArray) (w : World) (hv : StrsAt w v P) (hP : P.length ≤ 1000) (hz : ∀ i, i < P.length → (nthS P i).size ≤ 65536) (ht : TabAt w) (hT : Wid.TabD w) :
    CallsIn Fence.wide 6 Tryz.prog 30 #[v] w fun e w' => ∃ u, e = .returned u ∧ w'.ownsRow w.heap.size 2 1 u (wal P P.length).length ((wal P P.length).map (Value.int .i64)) ∧ Below w.heap.size w w' := by
  have hn1 : 1 ≤ 6 := by omega
  obtain ⟨i0, hi, hz0, hz1, hz2⟩ := info_parts info2
  obtain ⟨va, vc, rfl, hva⟩ := hv
  have HVA : Hid (0 < P.length → ∃ b off, va = some ⟨b, off, none⟩ ∧ b < w.heap.size ∧ ∀ i, i < P.length → w.cell? ⟨b, off + i, none⟩ = some (.string (nthS P i))) := hide (fun h => by
    rcases hva with h0 | ⟨b, off, h1, h2, h3⟩
    · subst h0; simp at h
    · exact ⟨b, off, h1, h2, h3⟩)
  have HZ := hide hz
  have HT := hide ht
  have HTD := hide hT
  have hmx := mixedC
  have HWL := hide (wal_len P hz)
  clear hva hz ht hT
  refine callsIn_of_wp_marks Tryz.func30 rfl trivial ?_ rfl
  simp only [Tryz.ntmps30, List.size_toArray, List.length_cons, List.length_nil, Nat.reduceAdd, Nat.reduceSub, Array.replicate_succ, Array.replicate_zero, List.push_toArray, List.append_toArray, List.nil_append, List.cons_append]
  have N0 : Hid (Wd w (w.alloc (.cells #[.slice none 0 0] 26)) [] (wal P 0)) := hide ⟨⟨_, Boxed.new _ _ _, World.ownsRow_nil _ _ _ _⟩, (Below.refl _ _).alloc (Nat.le_refl _) _, List.nodup_nil, by simp⟩
  obtain ⟨n, hn⟩ : ∃ n, P.length = n := ⟨_, rfl⟩
  rw [hn] at hP HVA HZ HWL ⊢
  clear hn
  gi_wp2
  refine wpIn_loop (fun a' W => ∃ (i : Nat) (Ds : List Nat) (u5 u11 u12 u13 u14 u15 u35 : Value), i ≤ n ∧ a' = { tmps := #[.slice va n vc, undef, .slice none 0 0, .pointer (some ⟨w.heap.size, 0, none⟩), undef, u5, undef, undef, .slice va n vc, .int .i64 n, .int .i64 i, u11, u12, u13, u14, u15, undef, undef, undef, undef, undef, undef, undef, undef, undef, undef, undef, undef, undef, undef, undef, undef, undef, undef, undef, u35, undef], defers := Ds.map mrkD } ∧ Hid (Wd w W Ds (wal P i))) (fun a' _ => n - (intOf (a'.tmps.getD 10 undef)).toNat) ?start ?round
  case start => exact ⟨0, [], undef, undef, undef, undef, undef, undef, undef, Nat.zero_le _, rfl, N0⟩
  case round =>
    rintro a' W ⟨i, Ds, u5, u11, u12, u13, u14, u15, u35, hin, rfl, HS⟩
    clear N0
    by_cases hlt : i < n
    · have hlt' : (i : Int) < (n : Int) := by omega
      obtain ⟨b, off, rfl, hbw, hc⟩ := (unhide HVA) (by omega)
      have c0 := ((unhide HS).bel.cell (p := ⟨b, off + i, none⟩) hbw).trans (hc i hlt)
      have hx := (unhide HZ) i hlt
      have HWN : Hid (wal P (i + 1) = wup (wal P i) (cel (nthS P i)) (cel (nthS P i)).length) := hide rfl
      have HW65 : Hid ((wal P i).length ≤ 65536) := hide ((unhide HWL) i hin)
      have HWB := hide (fun k j => wup_bd (wal P i) (cel (nthS P i)) (wal_bd P i) k j)
      have HWU := hide (fun k => wup_len (wal P i) (cel (nthS P i)) k)
      have HCZ := hide (fun k (hk : k < (cel (nthS P i)).length) => cel_size (nthS P i) k hk)
      have HCL := hide (cel_len (nthS P i))
      clear hc
      generalize nthS P i = x at *
      generalize wal P i = W0 at *
      have CA := (callsIn_wide (n := 5)).2 (cellsI x W)
      have hws := (unhide HS).bel.size
      have hbx : (W.alloc (.cells #[.string x] 9)).cell? ⟨W.heap.size, 0, none⟩ = some (.string x) := (Boxed.new W 9 (.string x)).cell
      have HS2 := hide ((unhide HS).below ((Below.refl _ _).alloc (Nat.le_refl _) (.cells #[.string x] 9)))
      have hsz : (W.alloc (.cells #[.string x] 9)).heap.size = W.heap.size + 1 := by simp
      have HDs : Hid (∀ D ∈ Ds, D < W.heap.size) := hide (fun D hD => (Array.getElem?_eq_some_iff.1 ((unhide HS).mks D hD).2).1)
      clear HS
      gi_wp2_with (refine ⟨trivial, ?_⟩; gi_at_call 42; refine CA.mono ?_; clear CA; rintro e W1 ⟨rfl, hW1⟩; obtain rfl := hW1.symm; clear hW1)
      have HZS := hide hsz
      refine range_walkR rfl hn1 (gf := 57) (lb := #[.pointer (some ⟨W.heap.size, 0, none⟩)]) rfl trivial (enters_of Tryz.func57 (by kernel_rfl) rfl) ?_
      intro fn hfn
      obtain ⟨D, hD⟩ : ∃ D, (W.alloc (.cells #[.string x] 9)).heap.size = D := ⟨_, rfl⟩
      have hD1 : D = W.heap.size + 1 := by rw [← hD]; exact hsz
      have hDn : D ∉ Ds := fun hm => by have := (unhide HDs) D hm; omega
      have hDl : D + 1 ∉ Ds := fun hm => by have := (unhide HDs) (D + 1) hm; omega
      rw [hD]
      refine (widest_walk x hx w (W.alloc (.cells #[.string x] 9)) D hD (by omega) Ds hDn hDl W0 (unhide HS2) W.heap.size hbx (by omega) (d := D) ?body).mono ?done
      case body =>
        intro k Va hk hWd hl
        have HDL : Hid (w.heap.size ≤ D + 1 ∧ D + 1 ∉ D :: Ds) := hide ⟨by omega, fun hm => by
          rcases List.mem_cons.1 hm with h | h
          · omega
          · exact hDl h⟩
        clear hD hD1
        refine yield_roundR trivial hl rfl { tmps := #[.slice (some ⟨b, off, none⟩) n vc, undef, .slice none 0 0, .pointer (some ⟨w.heap.size, 0, none⟩), undef, .string x, .int .i64 k, .string (nthS (cel x) k), .slice (some ⟨b, off, none⟩) n vc, .int .i64 n, .int .i64 i, .bool true, .pointer (some ⟨b, off + i, none⟩), .string x, .string x, .func (.func 57) #[] #[.pointer (some ⟨W.heap.size, 0, none⟩)], .int .i64 k, .string (nthS (cel x) k), undef, undef, undef, undef, undef, undef, undef, undef, undef, undef, undef, undef, undef, undef, undef, undef, undef, u35, undef], defers := [] } (fun K hK => ?ha) ?hb
        case ha =>
          gi_wp2
          exact hK
        case hb =>
          intro rc2 hrc2
          have HR := hide hrc2
          have hl2 : Va.heap[D + 1]? = some (.loop (rc2 .ready none)) := by rw [hrc2]; exact hl
          clear hrc2 hl
          have P1 := hWd.put (o' := .loop (rc2 .busy none)) hl2 rfl (unhide HDL).1 (unhide HDL).2
          have l1 : (Va.putObj (D + 1) (.loop (rc2 .busy none))).heap[D + 1]? = some (.loop (rc2 .busy none)) := World.putObj_heap_same (Array.getElem?_eq_some_iff.1 hl2).1
          generalize Va.putObj (D + 1) (.loop (rc2 .busy none)) = V1 at *
          clear hWd hl2
          have hkl := (unhide HCL)
          have hy := (unhide HCZ) k hk
          have HPN : Hid (wup W0 (cel x) (k + 1) = put1 (wup W0 (cel x) k) k (wx (nthS (cel x) k))) := hide rfl
          have hTb := wx_bd (nthS (cel x) k)
          have hbd := (unhide HWB) k k
          obtain ⟨hl1, hl3, hl4⟩ := (unhide HWU) k
          have h65 := unhide HW65
          have HT1 : Hid (TabAt V1 ∧ Wid.TabD V1) := hide ⟨(unhide HT).below P1.bel, (unhide HTD).below P1.bel⟩
          have CWy : Hid (∀ m U, TabAt U → Wid.TabD U → CallsIn (Fence.wide.inRound (D + 1)) m Tryz.prog 43 #[.string (nthS (cel x) k)] U fun e w' => e = .returned (.int .i64 (wx (nthS (cel x) k))) ∧ Below U.heap.size U w') := hide (fun m U ht hd => CallsIn.inRound (D + 1) ((callsIn_wide (n := m)).2 (by
            have h := Wid.implWide (nthS (cel x) k) U ht hd
            rw [if_neg (by omega)] at h
            exact h)))
          generalize wx (nthS (cel x) k) = T at *
          generalize nthS (cel x) k = y at *
          generalize wup W0 (cel x) k = V0 at *
          obtain ⟨bv, hbv, hrow⟩ := P1.box
          have hV0 : V0.length ≤ 131072 := by omega
          by_cases hkV : k = V0.length
          · have hkb : ((k : Int) == ((V0.length : Nat) : Int)) = true := by rw [hkV]; simp
            obtain ⟨ba, bc, rfl⟩ := Chr.own_form hrow
            have hbc := hbv.cell
            have hBs := P1.bel.size
            have HP1 := hide P1
            have HE : Hid ((V0 ++ [0]).set k (max 0 T) = put1 V0 k T) := hide (by rw [hkV]; exact set_end V0 T hTb.1)
            have HG : Hid ((V0 ++ [0]).getD k 0 = 0) := hide (by rw [hkV]; exact getD_end V0 0)
            have HL1 := hide l1
            have HBV := hide hbv
            have HRW := hide hrow
            have HKV := hide hkV
            obtain ⟨n0, hn0⟩ : ∃ n0, V0.length = n0 := ⟨_, rfl⟩
            have HN0 := hide hn0
            rw [hn0] at hkb hV0 hbc HBV HRW
            clear P1 l1 hbv hrow hkV hl1 hl3 hl4 hn0 hbd
            gi_wp2_with (gi_at_builtin; refine wpListIn_append_own _ rfl _ _ 26 rfl w.heap.size 2 i0 (.int .i64 0) 1 8 Tryz.underlying26 hi hz0 hz1 hz2 rfl (by decide) _ _ _ rfl ((unhide HRW).alloc _) ⟨V1.heap.size, 0, none⟩ 1 1 [.int .i64 0] rfl rfl (cell_one_new _ _ _) (by simp [Value.oneCell']) ?c3 ?c4 ?c5 ?_)
            case c3 => unfold maxLen; omega
            case c4 => omega
            case c5 => first | omega | (simp; omega)
            intro v' w2 hown' hgrow _
            obtain ⟨g', cap', rfl⟩ := ownsRow_succ hown'
            obtain ⟨hv1, hv2, hr2, hk2, hb2⟩ := (unhide HBV).appended (by decide) (unhide HRW) hBs (Nat.le_refl _) hown' hgrow
            have hc1 := hv1.cell
            have hf1 := hv1.frozen
            have X2 : Hid (Wv w (w2.setCell ⟨w.heap.size, 0, none⟩ (.slice (some ⟨g', 0, none⟩) (n0 + 1) cap')) (D :: Ds) (D + 1) (.loop (rc2 .busy none)) g' (n0 + 1) cap' (V0 ++ [0])) := hide ⟨hv2, by simpa using hr2, (unhide HP1).bel.trans hb2, (unhide HP1).nod, fun D' hD' => ⟨((unhide HP1).mks D' hD').1, hk2.same D' _ ((unhide HP1).mks D' hD').2 rfl⟩, hk2.same (D + 1) _ (unhide HL1) rfl, unhide HDL⟩
            have T2 : Hid (TabAt (w2.setCell ⟨w.heap.size, 0, none⟩ (.slice (some ⟨g', 0, none⟩) (n0 + 1) cap')) ∧ Wid.TabD (w2.setCell ⟨w.heap.size, 0, none⟩ (.slice (some ⟨g', 0, none⟩) (n0 + 1) cap'))) := hide ⟨(unhide HT).below (unhide X2).bel, (unhide HTD).below (unhide X2).bel⟩
            clear hown' hgrow hv1 hv2 hr2 hk2 hb2
            gi_wp2_with fail
            generalize w2.setCell ⟨w.heap.size, 0, none⟩ (.slice (some ⟨g', 0, none⟩) (n0 + 1) cap') = V2 at *
            have hkn : k < n0 + 1 := by have := unhide HKV; have := unhide HN0; omega
            obtain ⟨n2, hn2⟩ : ∃ n2, n0 + 1 = n2 := ⟨_, rfl⟩
            rw [hn2] at X2 hkn ⊢
            have hkI : (k : Int) < (n2 : Int) := by omega
            have hk0 : (0 : Int) ≤ (k : Int) := by omega
            have hn2b : n2 ≤ 131073 := by omega
            clear hn2
            obtain ⟨d0, hd0⟩ : ∃ d0, (V0 ++ [0]).getD k 0 = d0 := ⟨_, rfl⟩
            have HD0 : Hid ((V0 ++ [0]).getD k 0 = d0 ∧ True) := hide ⟨hd0, trivial⟩
            have HE2 : Hid ((V0 ++ [0]).set k (max d0 T) = put1 V0 k T) := hide (by rw [← hd0, unhide HG]; exact unhide HE)
            have hdb : 0 ≤ d0 ∧ d0 ≤ 131072 := by rw [← hd0, unhide HG]; omega
            clear hd0 hc1 hf1 hbc HKV HN0
            generalize V0 ++ [0] = V9 at *
            refine Wid.region_inv hmx (fun lf ac w' => ∃ (b0 b1 b2 b3 b4 b5 b6 b7 b8 b9 b10 : Bool), lf = #[b0, b1, b2, b3, b4, b5, b6, b7, b8, b9, b10] ∧ ac = { tmps := #[.slice (some ⟨b, off, none⟩) n vc, undef, .slice none 0 0, .pointer (some ⟨w.heap.size, 0, none⟩), undef, .string x, .int .i64 k, .string y, .slice (some ⟨b, off, none⟩) n vc, .int .i64 n, .int .i64 i, .bool true, .pointer (some ⟨b, off + i, none⟩), .string x, .string x, .func (.func 57) #[] #[.pointer (some ⟨W.heap.size, 0, none⟩)], .int .i64 k, .string y, .int .i64 k, .slice ba n0 bc, .int .i64 n0, .bool true, .slice ba n0 bc, .slice (some ⟨V1.heap.size, 0, none⟩) 1 1, .slice (some ⟨g', 0, none⟩) n2 cap', (bif b0 then .slice (some ⟨g', 0, none⟩) n2 cap' else undef), (bif b1 then .int .i64 k else undef), (bif b2 then .slice (some ⟨g', 0, none⟩) n2 cap' else undef), (bif b3 then .int .i64 k else undef), (bif b4 then .pointer (some ⟨g', k, none⟩) else undef), (bif b5 then .int .i64 d0 else undef), (bif b6 then .string y else undef), (bif b7 then .int .i64 T else undef), (bif b8 then .int .i64 (max d0 T) else undef), (bif b9 then .pointer (some ⟨g', k, none⟩) else undef), u35, undef], defers := [] } ∧ Hid (Wv w w' (D :: Ds) (D + 1) (.loop (rc2 .busy none)) g' n2 cap' (bif b10 then V9.set k (max d0 T) else V9)) ∧ Hid (TabAt w' ∧ Wid.TabD w') ∧ (b8 = true → b5 = true) ∧ (b10 = true → b8 = true)) (by kernel_rfl) ?size ?first ?step ?last
            case size =>
              rintro lf ac w' ⟨b0, b1, b2, b3, b4, b5, b6, b7, b8, b9, b10, rfl, _⟩
              rfl
            case first => exact ⟨false, false, false, false, false, false, false, false, false, false, false, rfl, rfl, hide ((unhide X2).below (bdrew (Below.refl V2.heap.size V2) 1)), hide ⟨(unhide T2).1.below (bdrew (Below.refl V2.heap.size V2) 1), (unhide T2).2.below (bdrew (Below.refl V2.heap.size V2) 1)⟩, (fun h => by cases h), (fun h => by cases h)⟩
            case step =>
              rintro ii lf ac w' ⟨b0, b1, b2, b3, b4, b5, b6, b7, b8, b9, b10, rfl, rfl, hX, hTT, h8, h10⟩ hr
              have hr := mem_ready.1 hr
              rcases ii with _ | _ | _ | _ | _ | _ | _ | _ | _ | _ | _ | ii
              · simp [Region.binds] at hr
                repeat (rcases hr with ⟨hq, hr⟩)
                subst_vars
                have kb := (unhide hX).box.cell
                refine wpOpIn_step rfl (fun K hK => ?_)
                go_simp
                refine hK _ _ ⟨true, _, _, _, _, _, _, _, _, _, _, rfl, rfl, hX, hTT, h8, h10⟩
              · simp [Region.binds] at hr
                repeat (rcases hr with ⟨hq, hr⟩)
                subst_vars
                refine wpOpIn_step rfl (fun K hK => ?_)
                go_simp
                refine hK _ _ ⟨_, true, _, _, _, _, _, _, _, _, _, rfl, rfl, hX, hTT, h8, h10⟩
              · simp [Region.binds] at hr
                repeat (rcases hr with ⟨hq, hr⟩)
                subst_vars
                have kb := (unhide hX).box.cell
                refine wpOpIn_step rfl (fun K hK => ?_)
                go_simp
                refine hK _ _ ⟨_, _, true, _, _, _, _, _, _, _, _, rfl, rfl, hX, hTT, h8, h10⟩
              · simp [Region.binds] at hr
                repeat (rcases hr with ⟨hq, hr⟩)
                subst_vars
                refine wpOpIn_step rfl (fun K hK => ?_)
                go_simp
                refine hK _ _ ⟨_, _, _, true, _, _, _, _, _, _, _, rfl, rfl, hX, hTT, h8, h10⟩
              · simp [Region.binds] at hr
                repeat (rcases hr with ⟨hq, hr⟩)
                subst_vars
                refine wpOpIn_step rfl (fun K hK => ?_)
                go_simp
                refine hK _ _ ⟨_, _, _, _, true, _, _, _, _, _, _, rfl, rfl, hX, hTT, h8, h10⟩
              · simp [Region.binds] at hr
                repeat (rcases hr with ⟨hq, hr⟩)
                subst_vars
                obtain rfl : b8 = false := by cases b8 <;> simp_all
                obtain rfl : b10 = false := by cases b10 <;> simp_all
                have kc := cell_ofK (unhide hX).row k hkn
                simp only [cond_false] at kc
                rw [(unhide HD0).1] at kc
                refine wpOpIn_step rfl (fun K hK => ?_)
                go_simp
                refine hK _ _ ⟨_, _, _, _, _, true, _, _, _, _, _, rfl, rfl, hX, hTT, (fun _ => rfl), h10⟩
              · simp [Region.binds] at hr
                repeat (rcases hr with ⟨hq, hr⟩)
                subst_vars
                refine wpOpIn_step rfl (fun K hK => ?_)
                go_simp
                refine hK _ _ ⟨_, _, _, _, _, _, true, _, _, _, _, rfl, rfl, hX, hTT, h8, h10⟩
              · simp [Region.binds] at hr
                repeat (rcases hr with ⟨hq, hr⟩)
                subst_vars
                refine wpOpIn_step rfl (fun K hK => ?_)
                go_simp
                refine ⟨trivial, ?_⟩
                gi_at_call 43
                refine ((unhide CWy) _ _ (unhide hTT).1 (unhide hTT).2).mono ?_
                rintro e W5 ⟨rfl, hb5⟩
                have X5 := hide ((unhide hX).below hb5)
                have T5 := hide (show TabAt W5 ∧ Wid.TabD W5 from ⟨(unhide hTT).1.below hb5, (unhide hTT).2.below hb5⟩)
                clear hb5
                refine hK _ _ ⟨_, _, _, _, _, _, _, true, _, _, _, rfl, rfl, X5, T5, h8, h10⟩
              · simp [Region.binds] at hr
                repeat (rcases hr with ⟨hq, hr⟩)
                subst_vars
                refine wpOpIn_step rfl (fun K hK => ?_)
                go_simp
                refine hK _ _ ⟨_, _, _, _, _, _, _, _, true, _, _, rfl, rfl, hX, hTT, (fun _ => rfl), (fun h => rfl)⟩
              · simp [Region.binds] at hr
                repeat (rcases hr with ⟨hq, hr⟩)
                subst_vars
                refine wpOpIn_step rfl (fun K hK => ?_)
                go_simp
                refine hK _ _ ⟨_, _, _, _, _, _, _, _, _, true, _, rfl, rfl, hX, hTT, h8, h10⟩
              · simp [Region.binds] at hr
                repeat (rcases hr with ⟨hq, hr⟩)
                subst_vars
                have kc := cell_ofK (unhide hX).row k hkn
                have kf := (unhide hX).row.frozenAt k
                have X6 := hide ((unhide hX).set rfl k (max d0 T))
                have T6 := hide (show TabAt (w'.setCell ⟨g', k, none⟩ (.int .i64 (max d0 T))) ∧ Wid.TabD (w'.setCell ⟨g', k, none⟩ (.int .i64 (max d0 T))) from ⟨(unhide HT).below (unhide X6).bel, (unhide HTD).below (unhide X6).bel⟩)
                simp only [cond_false] at kc
                refine wpOpIn_step rfl (fun K hK => ?_)
                go_simp
                refine hK _ _ ⟨_, _, _, _, _, _, _, _, _, _, true, rfl, rfl, X6, T6, h8, (fun _ => rfl)⟩
              · simp at hr
            case last =>
              rintro ac W4 ⟨f0, f1, f2, f3, f4, f5, f6, f7, f8, f9, f10, hlf, rfl, hX, hTT, h8, h10⟩
              have hlf := congrArg Array.toList hlf
              simp at hlf
              repeat (rcases hlf with ⟨hq, hlf⟩)
              subst_vars
              simp only [cond_true] at hX
              gi_wp2
              rw [unhide HE2, ← unhide HPN] at hX
              obtain ⟨e1, e2⟩ := (unhide hX).done rfl (.loop (rc2 .ready none))
              exact ⟨(unhide hX).rcd.1, rfl, e1, by rw [e2, (unhide HR) .ready none]⟩
          · have hkV2 : k < V0.length := by omega
            have hkb : ((k : Int) == ((V0.length : Nat) : Int)) = false := by rw [beq_eq_false_iff_ne]; omega
            obtain ⟨g', cap', rfl⟩ : ∃ g c, bv = .slice (some ⟨g, 0, none⟩) V0.length c := by
              rcases hrow.2 with ⟨_, h0⟩ | ⟨g, cap, cur, e, _⟩
              · omega
              · exact ⟨g, cap, e⟩
            have hbc := hbv.cell
            have HE2 : Hid (V0.set k (max (V0.getD k 0) T) = put1 V0 k T) := hide (by unfold put1; rw [if_pos hkV2])
            have X2 : Hid (Wv w V1 (D :: Ds) (D + 1) (.loop (rc2 .busy none)) g' V0.length cap' V0) := hide ⟨hbv, hrow, P1.bel, P1.nod, P1.mks, l1, unhide HDL⟩
            have T2 := HT1
            obtain ⟨n2, hn2⟩ : ∃ n2, V0.length = n2 := ⟨_, rfl⟩
            rw [hn2] at X2 hkb hbc hkV2
            have hkn : k < n2 := hkV2
            have hkI : (k : Int) < (n2 : Int) := by omega
            have hk0 : (0 : Int) ≤ (k : Int) := by omega
            have hn2b : n2 ≤ 131073 := by omega
            clear P1 l1 hbv hrow hl1 hl3 hl4 hkV hkV2 hV0
            clear hn2
            obtain ⟨d0, hd0⟩ : ∃ d0, V0.getD k 0 = d0 := ⟨_, rfl⟩
            have HD0 : Hid (V0.getD k 0 = d0 ∧ True) := hide ⟨hd0, trivial⟩
            rw [hd0] at HE2 hbd
            have hdb := hbd
            clear hd0 hbd
            obtain ⟨V9, hV9⟩ : ∃ V9, V9 = V0 := ⟨_, rfl⟩
            rw [← hV9] at X2 HD0
            have HE3 : Hid (V9.set k (max d0 T) = put1 V0 k T) := hide (by rw [hV9]; exact unhide HE2)
            clear HE2 hV9
            have HE2 := HE3
            clear HE3
            gi_wp2_with fail
            clear hbc
            obtain ⟨V2, hV2⟩ : ∃ V2, V2 = V1 := ⟨_, rfl⟩
            rw [← hV2] at X2 T2 ⊢
            clear hV2
            refine Wid.region_inv hmx (fun lf ac w' => ∃ (b0 b1 b2 b3 b4 b5 b6 b7 b8 b9 b10 : Bool), lf = #[b0, b1, b2, b3, b4, b5, b6, b7, b8, b9, b10] ∧ ac = { tmps := #[.slice (some ⟨b, off, none⟩) n vc, undef, .slice none 0 0, .pointer (some ⟨w.heap.size, 0, none⟩), undef, .string x, .int .i64 k, .string y, .slice (some ⟨b, off, none⟩) n vc, .int .i64 n, .int .i64 i, .bool true, .pointer (some ⟨b, off + i, none⟩), .string x, .string x, .func (.func 57) #[] #[.pointer (some ⟨W.heap.size, 0, none⟩)], .int .i64 k, .string y, .int .i64 k, .slice (some ⟨g', 0, none⟩) n2 cap', .int .i64 n2, .bool false, undef, undef, undef, (bif b0 then .slice (some ⟨g', 0, none⟩) n2 cap' else undef), (bif b1 then .int .i64 k else undef), (bif b2 then .slice (some ⟨g', 0, none⟩) n2 cap' else undef), (bif b3 then .int .i64 k else undef), (bif b4 then .pointer (some ⟨g', k, none⟩) else undef), (bif b5 then .int .i64 d0 else undef), (bif b6 then .string y else undef), (bif b7 then .int .i64 T else undef), (bif b8 then .int .i64 (max d0 T) else undef), (bif b9 then .pointer (some ⟨g', k, none⟩) else undef), u35, undef], defers := [] } ∧ Hid (Wv w w' (D :: Ds) (D + 1) (.loop (rc2 .busy none)) g' n2 cap' (bif b10 then V9.set k (max d0 T) else V9)) ∧ Hid (TabAt w' ∧ Wid.TabD w') ∧ (b8 = true → b5 = true) ∧ (b10 = true → b8 = true)) (by kernel_rfl) ?size ?first ?step ?last
            case size =>
              rintro lf ac w' ⟨b0, b1, b2, b3, b4, b5, b6, b7, b8, b9, b10, rfl, _⟩
              rfl
            case first => exact ⟨false, false, false, false, false, false, false, false, false, false, false, rfl, rfl, hide ((unhide X2).below (bdrew (Below.refl V2.heap.size V2) 1)), hide ⟨(unhide T2).1.below (bdrew (Below.refl V2.heap.size V2) 1), (unhide T2).2.below (bdrew (Below.refl V2.heap.size V2) 1)⟩, (fun h => by cases h), (fun h => by cases h)⟩
            case step =>
              rintro ii lf ac w' ⟨b0, b1, b2, b3, b4, b5, b6, b7, b8, b9, b10, rfl, rfl, hX, hTT, h8, h10⟩ hr
              have hr := mem_ready.1 hr
              rcases ii with _ | _ | _ | _ | _ | _ | _ | _ | _ | _ | _ | ii
              · simp [Region.binds] at hr
                repeat (rcases hr with ⟨hq, hr⟩)
                subst_vars
                have kb := (unhide hX).box.cell
                refine wpOpIn_step rfl (fun K hK => ?_)
                go_simp
                refine hK _ _ ⟨true, _, _, _, _, _, _, _, _, _, _, rfl, rfl, hX, hTT, h8, h10⟩
              · simp [Region.binds] at hr
                repeat (rcases hr with ⟨hq, hr⟩)
                subst_vars
                refine wpOpIn_step rfl (fun K hK => ?_)
                go_simp
                refine hK _ _ ⟨_, true, _, _, _, _, _, _, _, _, _, rfl, rfl, hX, hTT, h8, h10⟩
              · simp [Region.binds] at hr
                repeat (rcases hr with ⟨hq, hr⟩)
                subst_vars
                have kb := (unhide hX).box.cell
                refine wpOpIn_step rfl (fun K hK => ?_)
                go_simp
                refine hK _ _ ⟨_, _, true, _, _, _, _, _, _, _, _, rfl, rfl, hX, hTT, h8, h10⟩
              · simp [Region.binds] at hr
                repeat (rcases hr with ⟨hq, hr⟩)
                subst_vars
                refine wpOpIn_step rfl (fun K hK => ?_)
                go_simp
                refine hK _ _ ⟨_, _, _, true, _, _, _, _, _, _, _, rfl, rfl, hX, hTT, h8, h10⟩
              · simp [Region.binds] at hr
                repeat (rcases hr with ⟨hq, hr⟩)
                subst_vars
                refine wpOpIn_step rfl (fun K hK => ?_)
                go_simp
                refine hK _ _ ⟨_, _, _, _, true, _, _, _, _, _, _, rfl, rfl, hX, hTT, h8, h10⟩
              · simp [Region.binds] at hr
                repeat (rcases hr with ⟨hq, hr⟩)
                subst_vars
                obtain rfl : b8 = false := by cases b8 <;> simp_all
                obtain rfl : b10 = false := by cases b10 <;> simp_all
                have kc := cell_ofK (unhide hX).row k hkn
                simp only [cond_false] at kc
                rw [(unhide HD0).1] at kc
                refine wpOpIn_step rfl (fun K hK => ?_)
                go_simp
                refine hK _ _ ⟨_, _, _, _, _, true, _, _, _, _, _, rfl, rfl, hX, hTT, (fun _ => rfl), h10⟩
              · simp [Region.binds] at hr
                repeat (rcases hr with ⟨hq, hr⟩)
                subst_vars
                refine wpOpIn_step rfl (fun K hK => ?_)
                go_simp
                refine hK _ _ ⟨_, _, _, _, _, _, true, _, _, _, _, rfl, rfl, hX, hTT, h8, h10⟩
              · simp [Region.binds] at hr
                repeat (rcases hr with ⟨hq, hr⟩)
                subst_vars
                refine wpOpIn_step rfl (fun K hK => ?_)
                go_simp
                refine ⟨trivial, ?_⟩
                gi_at_call 43
                refine ((unhide CWy) _ _ (unhide hTT).1 (unhide hTT).2).mono ?_
                rintro e W5 ⟨rfl, hb5⟩
                have X5 := hide ((unhide hX).below hb5)
                have T5 := hide (show TabAt W5 ∧ Wid.TabD W5 from ⟨(unhide hTT).1.below hb5, (unhide hTT).2.below hb5⟩)
                clear hb5
                refine hK _ _ ⟨_, _, _, _, _, _, _, true, _, _, _, rfl, rfl, X5, T5, h8, h10⟩
              · simp [Region.binds] at hr
                repeat (rcases hr with ⟨hq, hr⟩)
                subst_vars
                refine wpOpIn_step rfl (fun K hK => ?_)
                go_simp
                refine hK _ _ ⟨_, _, _, _, _, _, _, _, true, _, _, rfl, rfl, hX, hTT, (fun _ => rfl), (fun h => rfl)⟩
              · simp [Region.binds] at hr
                repeat (rcases hr with ⟨hq, hr⟩)
                subst_vars
                refine wpOpIn_step rfl (fun K hK => ?_)
                go_simp
                refine hK _ _ ⟨_, _, _, _, _, _, _, _, _, true, _, rfl, rfl, hX, hTT, h8, h10⟩
              · simp [Region.binds] at hr
                repeat (rcases hr with ⟨hq, hr⟩)
                subst_vars
                have kc := cell_ofK (unhide hX).row k hkn
                have kf := (unhide hX).row.frozenAt k
                have X6 := hide ((unhide hX).set rfl k (max d0 T))
                have T6 := hide (show TabAt (w'.setCell ⟨g', k, none⟩ (.int .i64 (max d0 T))) ∧ Wid.TabD (w'.setCell ⟨g', k, none⟩ (.int .i64 (max d0 T))) from ⟨(unhide HT).below (unhide X6).bel, (unhide HTD).below (unhide X6).bel⟩)
                simp only [cond_false] at kc
                refine wpOpIn_step rfl (fun K hK => ?_)
                go_simp
                refine hK _ _ ⟨_, _, _, _, _, _, _, _, _, _, true, rfl, rfl, X6, T6, h8, (fun _ => rfl)⟩
              · simp at hr
            case last =>
              rintro ac W4 ⟨f0, f1, f2, f3, f4, f5, f6, f7, f8, f9, f10, hlf, rfl, hX, hTT, h8, h10⟩
              have hlf := congrArg Array.toList hlf
              simp at hlf
              repeat (rcases hlf with ⟨hq, hlf⟩)
              subst_vars
              simp only [cond_true] at hX
              gi_wp2
              rw [unhide HE2, ← unhide HPN] at hX
              obtain ⟨e1, e2⟩ := (unhide hX).done rfl (.loop (rc2 .ready none))
              exact ⟨(unhide hX).rcd.1, rfl, e1, by rw [e2, (unhide HR) .ready none]⟩
      case done =>
        rintro e V ⟨he, hWd, hl⟩
        refine ⟨he, .inl ⟨hl, fun o => ?_⟩⟩
        have HX : Hid (Wd w (V.putObj (D + 1) o) (D :: Ds) (wal P (i + 1))) := hide (by
          rw [unhide HWN]
          exact hWd.put hl rfl (by omega) (fun hm => by
            rcases List.mem_cons.1 hm with h | h
            · omega
            · exact hDl h))
        generalize V.putObj (D + 1) o = V2 at *
        clear hWd hl HWN
        gi_wp2
        have e1 : ((i + 1 : Nat) : Int) = (i : Int) + 1 := by omega
        refine ⟨⟨i + 1, D :: Ds, .string x, .bool true, .pointer (some ⟨b, off + i, none⟩), .string x, .string x, .func (.func 57) #[] #[.pointer (some ⟨W.heap.size, 0, none⟩)], .int .i64 ((i : Int) + 1), by omega, ?_, HX⟩, ?_⟩
        · rw [e1]
          rfl
        · simp [intOf]; omega
    · obtain rfl : i = n := by omega
      have hlt' : ¬ (i : Int) < (i : Int) := by omega
      have hns := unhide HS
      obtain ⟨v, hv, hrow⟩ := hns.box
      have hc := hv.cell
      have hnd := hns.nod
      have HM := hns.mks
      have HBl := hns.bel
      clear HS hns
      gi_wp2
      exact lv_marks (B := w.heap.size) (w0 := w) (v := v) (k := (wal P i).length) (xs := (wal P i).map (Value.int .i64)) (Nat.le_refl _) (fun w' ho hb => ⟨_, results_tmp rfl _ _ _, v, rfl, ho, hb⟩) Ds _ hnd (fun D hD => HM D hD) hrow HBl
theorem widestI (v : Value) (P : List ByteArray) (w : World) (hv : StrsAt w v P) (hP : P.length ≤ 1000) (hz : ∀ i, i < P.length → (nthS P i).size ≤ 65536) (ht : TabAt w) (hT : Wid.TabD w) :
    Calls Tryz.prog 30 #[v] w fun e w' => ∃ u, e = .returned u ∧ w'.ownsRow w.heap.size 2 1 u (wal P P.length).length ((wal P P.length).map (Value.int .i64)) ∧ Below w.heap.size w w' := callsIn_wide.1 (widest_in v P w hv hP hz ht hT)
end Clm
end Go.Proofs.YtcdhaikmedicfaaGreatDoor
/- strings.Builder: its methods by the library's contracts; a text that grows in one. -/
namespace Go.Proofs
open Go.Shelf Go.RowKit
set_option linter.unusedVariables false
def Tryz.laysBW_ren : Go.Shelf.Ren := ⟨fun | 166 => 45 | 240 => 61 | 276 => 85 | n => n, fun | 70 => 79 | 72 => 81 | 37 => 22 | 75 => 84 | 80 => 89 | 164 => 122 | 20 => 20 | 127 => 106 | n => n, fun | n => n⟩
theorem Tryz.laysBW : Go.Proofs.Lays.n166 Tryz.prog Tryz.laysBW_ren := {
  mixed := by kernel_rfl
  f166 := Tryz.func45.trans (congrArg some (by kernel_rfl))
  f240 := Tryz.func61.trans (congrArg some (by kernel_rfl))
  f276 := Tryz.func85.trans (congrArg some (by kernel_rfl))
  t0 := Tryz.underlying0
  a0 := Tryz.isAgg0
  z0 := Tryz.sizeOf0
  v0 := Tryz.zeroValue0
  t3 := Tryz.underlying3
  a3 := Tryz.isAgg3
  z3 := Tryz.sizeOf3
  v3 := Tryz.zeroValue3
  t4 := Tryz.underlying4
  a4 := Tryz.isAgg4
  z4 := Tryz.sizeOf4
  v4 := Tryz.zeroValue4
  t9 := Tryz.underlying9
  a9 := Tryz.isAgg9
  z9 := Tryz.sizeOf9
  v9 := Tryz.zeroValue9
  t20 := Tryz.underlying20
  a20 := Tryz.isAgg20
  z20 := Tryz.sizeOf20
  v20 := Tryz.zeroValue20
  t37 := Tryz.underlying22
  a37 := Tryz.isAgg22
  z37 := Tryz.sizeOf22
  v37 := Tryz.zeroValue22
  t70 := Tryz.underlying79
  a70 := Tryz.isAgg79
  z70 := Tryz.sizeOf79
  v70 := Tryz.zeroValue79
  t72 := Tryz.underlying81
  a72 := Tryz.isAgg81
  z72 := Tryz.sizeOf81
  v72 := Tryz.zeroValue81
  t75 := Tryz.underlying84
  a75 := Tryz.isAgg84
  z75 := Tryz.sizeOf84
  v75 := Tryz.zeroValue84
  t164 := Tryz.underlying122
  a164 := Tryz.isAgg122
  z164 := Tryz.sizeOf122
  v164 := Tryz.zeroValue122 }
theorem extraW : Builder.Extra Tryz.prog Tryz.laysBW_ren where
  sizeBuilder := by kernel_rfl
  liesBuilder := by kernel_rfl
  t5 := Tryz.underlying5
  a5 := Tryz.isAgg5
  z5 := Tryz.sizeOf5
  v5 := Tryz.zeroValue5
  infoByte := by kernel_rfl
  cellsByte := by kernel_rfl
  sizeByte := by kernel_rfl
  neB5 := by decide
theorem extraS : Builder.Extra Tryz.prog Tryz.laysBS_ren where
  sizeBuilder := by kernel_rfl
  liesBuilder := by kernel_rfl
  t5 := Tryz.underlying5
  a5 := Tryz.isAgg5
  z5 := Tryz.sizeOf5
  v5 := Tryz.zeroValue5
  infoByte := by kernel_rfl
  cellsByte := by kernel_rfl
  sizeByte := by kernel_rfl
  neB5 := by decide
namespace YtcdhaikmedicfaaGreatDoor.Bld
/-- A builder in block b that holds the text s. -/
def At (B b : Nat) (s : ByteArray) (w : World) : Prop := Lib.IsBuilder 81 5 B b (Lib.byteCells s.data.toList) w
theorem At.new (w : World) : At w.heap.size w.heap.size ⟨#[]⟩ (w.alloc (.cells #[.pointer none, .slice none 0 0] 81)) := Lib.fresh_isBuilder _ _ w
theorem At.below {B b : Nat} {s : ByteArray} {w w' : World} (h : At B b s w) (hb : Below w.heap.size w w') : At B b s w' := by
  have go : ∀ p, Lib.BuilderAt 81 5 B b p (Lib.byteCells s.data.toList) w → Lib.BuilderAt 81 5 B b p (Lib.byteCells s.data.toList) w' := by
    rintro p ⟨h1, v, h2, h3, h4⟩
    exact ⟨h1, v, (hb.block b (Array.getElem?_eq_some_iff.1 h2).1).trans h2, ownsRow_below h3 hb, h4⟩
  rcases h with h | h
  · exact .inl (go _ h)
  · exact .inr (go _ h)
theorem At.lt {B b : Nat} {s : ByteArray} {w : World} (h : At B b s w) : B ≤ b ∧ b < w.heap.size := by
  rcases h with h | h
  · exact ⟨h.1, h.lt⟩
  · exact ⟨h.1, h.lt⟩
theorem app_cells (s t : ByteArray) : Lib.byteCells s.data.toList ++ Lib.strCells t = Lib.byteCells (s ++ t).data.toList := by
  rw [Lib.strCells_eq]
  simp [Lib.byteCells, ByteArray.data_append]
theorem len_any (B b : Nat) (s : ByteArray) (w : World) (h : At B b s w) : Calls Tryz.prog 44 #[.pointer (some ⟨b, 0, none⟩)] w fun e w' => e = .returned (.int .i64 (s.size : Int)) ∧ w' = w := by
  refine (Any.Builder_Len Tryz.laysBL B b _ w h).mono ?_
  rintro e w' ⟨rfl, rfl⟩
  refine ⟨?_, rfl⟩
  have : (Lib.byteCells s.data.toList).length = s.size := by simp [Lib.byteCells]
  rw [this]
theorem write_any (B b : Nat) (s t : ByteArray) (w : World) (h : At B b s w) (hs : s.size + t.size ≤ 4294967296) (hB : B ≤ w.heap.size) :
    Calls Tryz.prog 45 #[.pointer (some ⟨b, 0, none⟩), .string t] w fun e w' => e = .returned (.tuple #[.int .i64 t.size, .nilIface]) ∧ At B b (s ++ t) w' ∧ Below B w w' := by
  have hl : (Lib.byteCells s.data.toList).length = s.size := by simp [Lib.byteCells]
  refine (Any.Builder_WriteString Tryz.laysBW extraW B b _ t w h (by rw [hl]; omega) hB).mono ?_
  rintro e w' ⟨rfl, h1, h2⟩
  refine ⟨rfl, .inr ?_, h2⟩
  rw [← app_cells]
  exact h1
theorem string_any (B b : Nat) (s : ByteArray) (w : World) (h : At B b s w) (hB : B ≤ w.heap.size) :
    Calls Tryz.prog 48 #[.pointer (some ⟨b, 0, none⟩)] w fun e w' => e = .returned (.string s) ∧ Below B w w' := by
  refine (Any.Builder_String_any Tryz.laysBS extraS B b s.data.toList w h hB).mono ?_
  rintro e w' ⟨rfl, h2⟩
  exact ⟨rfl, h2⟩
end YtcdhaikmedicfaaGreatDoor.Bld
end Go.Proofs
/- Columns, the program's side: a row filled up. -/
namespace Go.Proofs.YtcdhaikmedicfaaGreatDoor
namespace Clm
open Go.RowKit Go.Shelf Chr
set_option linter.unusedVariables false
set_option linter.unusedSimpArgs false
attribute [local go_sem] Oper.semAt_some
/-- A builder in block b that holds the text s. -/
def Bd (b : Nat) (s : ByteArray) (w : World) : Prop := Lib.IsBuilderF 81 5 b b (Lib.byteCells s.data.toList) w
/-- What writing into it changes: itself, and rows of bytes. -/
def Kb (b : Nat) (w w' : World) : Prop := w.heap.size ≤ w'.heap.size ∧ Below b w w' ∧ Lib.OthersKept 5 (some b) w w'
theorem Bd.new (w : World) : Bd w.heap.size ⟨#[]⟩ (w.alloc (.cells #[.pointer none, .slice none 0 0] 81)) := Lib.IsBuilderF.of (Bld.At.new w)
theorem Bd.grown {b : Nat} {s : ByteArray} {w w' : World} {row : Option Nat} (h : Bd b s w) (hg : w.grownBy w' row) (hr : ∀ r, row = some r → r ≠ b ∧ ∀ c fz, w.heap[r]? ≠ some (.cells c 5 fz)) : Bd b s w' := by
  have go : ∀ p, Lib.BuilderAtF 81 5 b b p (Lib.byteCells s.data.toList) w → Lib.BuilderAtF 81 5 b b p (Lib.byteCells s.data.toList) w' := by
    rintro p ⟨h1, v, h2, h3, h4⟩
    refine ⟨h1, v, (hg.block b (Array.getElem?_eq_some_iff.1 h2).1 (fun e => (hr b e.symm).1 rfl)).trans h2, h3.kept hg ?_, h4⟩
    cases hv : v.ownBlock with
    | none => exact .inl rfl
    | some k =>
      refine .inr (fun e => ?_)
      obtain ⟨c, fz, hc⟩ := Lib.ownsRowF_kind h3 k hv
      exact (hr k e.symm).2 _ _ hc
  rcases h with h | h
  · exact .inl (go _ h)
  · exact .inr (go _ h)
theorem Bd.below {b : Nat} {s : ByteArray} {w w' : World} (h : Bd b s w) (hb : Below w.heap.size w w') : Bd b s w' :=
  h.grown (row := none) ⟨hb.os, hb.tape, hb.output, hb.size, fun k hk _ => hb.block k hk⟩ (fun r e => by cases e)
theorem Bd.lt {b : Nat} {s : ByteArray} {w : World} (h : Bd b s w) : b < w.heap.size := by
  rcases h with h | h
  · exact h.lt
  · exact h.lt
theorem lenB (b : Nat) (s : ByteArray) (w : World) (h : Bd b s w) : Calls Tryz.prog 44 #[.pointer (some ⟨b, 0, none⟩)] w fun e w' => e = .returned (.int .i64 (s.size : Int)) ∧ w' = w := by
  refine (Any.Builder_Len_f Tryz.laysBL b b _ w h).mono ?_
  rintro e w' ⟨rfl, rfl⟩
  refine ⟨?_, rfl⟩
  have : (Lib.byteCells s.data.toList).length = s.size := by simp [Lib.byteCells]
  rw [this]
theorem writeB (b : Nat) (s t : ByteArray) (w : World) (h : Bd b s w) (hs : s.size + t.size ≤ 4294967296) :
    Calls Tryz.prog 45 #[.pointer (some ⟨b, 0, none⟩), .string t] w fun e w' => e = .returned (.tuple #[.int .i64 t.size, .nilIface]) ∧ Bd b (s ++ t) w' ∧ Kb b w w' := by
  have hl : (Lib.byteCells s.data.toList).length = s.size := by simp [Lib.byteCells]
  refine (Any.Builder_WriteString_k Tryz.laysBW extraW b b _ t w h (by rw [hl]; omega) (Nat.le_of_lt h.lt)).mono ?_
  rintro e w' ⟨rfl, h1, h2, h3⟩
  refine ⟨rfl, .inr ?_, h2.size, h2, h3⟩
  rw [← Bld.app_cells]
  exact h1
theorem stringB (b : Nat) (s : ByteArray) (w : World) (h : Bd b s w) :
    Calls Tryz.prog 48 #[.pointer (some ⟨b, 0, none⟩)] w fun e w' => e = .returned (.string s) ∧ Bd b s w' ∧ Kb b w w' := by
  refine (Any.Builder_String_any_k Tryz.laysBS extraS b b s.data.toList w h (Nat.le_of_lt h.lt)).mono ?_
  rintro e w' ⟨rfl, h1, h2, h3⟩
  exact ⟨rfl, h1, h2.size, h2, h3⟩
theorem extraRC : Builder.Extra Tryz.prog Tryz.laysRep_ren where
  sizeBuilder := by kernel_rfl
  liesBuilder := by kernel_rfl
  t5 := Tryz.underlying5
  a5 := Tryz.isAgg5
  z5 := Tryz.sizeOf5
  v5 := Tryz.zeroValue5
  infoByte := by kernel_rfl
  cellsByte := by kernel_rfl
  sizeByte := by kernel_rfl
  neB5 := by decide
theorem rep_blaC (k : Nat) : (⟨(Lib.repeatL [32] k).toArray⟩ : ByteArray) = bla k := by
  unfold bla
  congr 2
  induction k with
  | zero => rfl
  | succ k ih => simp [Lib.repeatL, ih, List.replicate_succ]
theorem repC (c : Nat) (hc : c ≤ 200000) (w : World) : Calls Tryz.prog 46 #[.string ⟨#[32]⟩, .int .i64 (c : Int)] w fun e w' => e = .returned (.string (bla c)) ∧ Below w.heap.size w w' := by
  refine (Any.strings_Repeat Tryz.laysRep extraRC ⟨#[32]⟩ c w (by omega) (by show 1 * c ≤ _; omega)).mono ?_
  rintro e w' ⟨rfl, hb⟩
  refine ⟨?_, hb⟩
  rw [← rep_blaC]
end Clm
end Go.Proofs.YtcdhaikmedicfaaGreatDoor
/- Columns, the program's side: a row filled up: the walk. -/
namespace Go.Proofs.YtcdhaikmedicfaaGreatDoor
namespace Clm
open Go.RowKit Go.Shelf Chr
set_option linter.unusedVariables false
set_option linter.unusedSimpArgs false
attribute [local go_sem] Oper.semAt_some
/-- The boxes of filledRow: the widths, the gap, the two results, the builder; the loop's mark. -/
structure Fr (w V : World) (vw : Value) (gap : Int) (S : ByteArray) : Prop where
  bw : Boxed V w.heap.size 26 vw
  bg : Boxed V (w.heap.size + 1) 2 (.int .i64 gap)
  bf : Boxed V (w.heap.size + 2) 9 (.string ⟨#[]⟩)
  bt : Boxed V (w.heap.size + 3) 4 (.bool false)
  bb : Bd (w.heap.size + 4) S V
  bd : V.heap[w.heap.size + 6]? = some (.deferred (some []))
  bel : Below w.heap.size w V
theorem blk_lt {V : World} {k : Nat} {o : Obj} (h : V.heap[k]? = some o) : k < V.heap.size := (Array.getElem?_eq_some_iff.1 h).1
theorem Fr.below {w V V' : World} {vw : Value} {gap : Int} {S : ByteArray} (h : Fr w V vw gap S) (hb : Below V.heap.size V V') : Fr w V' vw gap S :=
  ⟨(hb.block _ h.bw.lt).trans h.bw, (hb.block _ h.bg.lt).trans h.bg, (hb.block _ h.bf.lt).trans h.bf, (hb.block _ h.bt.lt).trans h.bt, h.bb.below hb, (hb.block _ (blk_lt h.bd)).trans h.bd, h.bel.trans (hb.mono h.bel.size)⟩
theorem Fr.write {w V V' : World} {vw : Value} {gap : Int} {S S' : ByteArray} (h : Fr w V vw gap S) (hb : Bd (w.heap.size + 4) S' V') (hk : Kb (w.heap.size + 4) V V') : Fr w V' vw gap S' :=
  ⟨(hk.2.1.block _ (by omega)).trans h.bw, (hk.2.1.block _ (by omega)).trans h.bg, (hk.2.1.block _ (by omega)).trans h.bf, (hk.2.1.block _ (by omega)).trans h.bt, hb, hk.2.2 _ _ h.bd (fun e => by injection e with e; omega) (fun c fz e => by cases e), h.bel.trans (hk.2.1.mono (by omega))⟩
theorem rec_write {w V V' : World} {l : Loop} (h : V.heap[w.heap.size + 7]? = some (.loop l)) (hk : Kb (w.heap.size + 4) V V') : V'.heap[w.heap.size + 7]? = some (.loop l) :=
  hk.2.2 _ _ h (fun e => by injection e with e; omega) (fun c fz e => by cases e)
theorem rec_below {V V' : World} {k : Nat} {o : Obj} (h : V.heap[k]? = some o) (hb : Below V.heap.size V V') : V'.heap[k]? = some o := (hb.block _ (blk_lt h)).trans h
theorem Fr.put {w V : World} {vw : Value} {gap : Int} {S : ByteArray} (h : Fr w V vw gap S) {l : Loop} (hl : V.heap[w.heap.size + 7]? = some (.loop l)) (o : Obj) : Fr w (V.putObj (w.heap.size + 7) o) vw gap S := by
  have hg := grownBy_putObj' V (w.heap.size + 7) o
  have hne : ∀ k, k ≠ w.heap.size + 7 → some k ≠ some (w.heap.size + 7) := fun k h1 e => by injection e with e; omega
  exact ⟨h.bw.kept hg (hne _ (by omega)), h.bg.kept hg (hne _ (by omega)), h.bf.kept hg (hne _ (by omega)), h.bt.kept hg (hne _ (by omega)), h.bb.grown hg (fun r e => by
    injection e with e
    subst e
    exact ⟨by omega, fun c fz e2 => by rw [hl] at e2; cases e2⟩), (hg.block _ (blk_lt h.bd) (hne _ (by omega))).trans h.bd, h.bel.grown hg h.bel.size (fun k e => by injection e with e; omega)⟩
/-- The results written. -/
theorem Fr.res {w V : World} {vw : Value} {gap : Int} {S : ByteArray} (h : Fr w V vw gap S) (s : ByteArray) (b : Bool) :
    Boxed (V.setCell ⟨w.heap.size + 2, 0, none⟩ (.string s)) (w.heap.size + 3) 4 (.bool false) ∧
    Boxed ((V.setCell ⟨w.heap.size + 2, 0, none⟩ (.string s)).setCell ⟨w.heap.size + 3, 0, none⟩ (.bool b)) (w.heap.size + 2) 9 (.string s) ∧
    Boxed ((V.setCell ⟨w.heap.size + 2, 0, none⟩ (.string s)).setCell ⟨w.heap.size + 3, 0, none⟩ (.bool b)) (w.heap.size + 3) 4 (.bool b) ∧
    (∀ k, k ≠ w.heap.size + 2 → k ≠ w.heap.size + 3 → ((V.setCell ⟨w.heap.size + 2, 0, none⟩ (.string s)).setCell ⟨w.heap.size + 3, 0, none⟩ (.bool b)).heap[k]? = V.heap[k]?) ∧
    Bd (w.heap.size + 4) S ((V.setCell ⟨w.heap.size + 2, 0, none⟩ (.string s)).setCell ⟨w.heap.size + 3, 0, none⟩ (.bool b)) ∧
    Below w.heap.size w ((V.setCell ⟨w.heap.size + 2, 0, none⟩ (.string s)).setCell ⟨w.heap.size + 3, 0, none⟩ (.bool b)) := by
  have g1 := grownBy_setCell' V (w.heap.size + 2) (.string s)
  have g2 := grownBy_setCell' (V.setCell ⟨w.heap.size + 2, 0, none⟩ (.string s)) (w.heap.size + 3) (.bool b)
  have ne : ∀ a b : Nat, a ≠ b → some a ≠ some b := fun a b h e => h (by injection e)
  have f1 := h.bf.set (.string s)
  have t1 := h.bt.kept g1 (ne _ _ (by omega))
  have f2 := f1.kept g2 (ne _ _ (by omega))
  have t2 := t1.set (.bool b)
  have b1 := h.bb.grown g1 (fun r e => by
    injection e with e
    subst e
    exact ⟨by omega, fun c fz e2 => by have h3 : V.heap[w.heap.size + 2]? = _ := h.bf; rw [h3] at e2; cases e2⟩)
  have b2 := b1.grown g2 (fun r e => by
    injection e with e
    subst e
    exact ⟨by omega, fun c fz e2 => by have h3 : (V.setCell ⟨w.heap.size + 2, 0, none⟩ (.string s)).heap[w.heap.size + 3]? = _ := t1; rw [h3] at e2; cases e2⟩)
  refine ⟨t1, f2, t2, fun k h1 h2 => ?_, b2, (h.bel.setCell (p := ⟨w.heap.size + 2, 0, none⟩) (by show w.heap.size ≤ w.heap.size + 2; omega) _).setCell (p := ⟨w.heap.size + 3, 0, none⟩) (by show w.heap.size ≤ w.heap.size + 3; omega) _⟩
  rw [heap_setCell_other _ _ k _ (by show k ≠ w.heap.size + 3; omega), heap_setCell_other _ _ k _ (by show k ≠ w.heap.size + 2; omega)]
theorem Fr.res0 {w V : World} {vw : Value} {gap : Int} {S : ByteArray} (h : Fr w V vw gap S) : Fr w ((V.setCell ⟨w.heap.size + 2, 0, none⟩ (.string ⟨#[]⟩)).setCell ⟨w.heap.size + 3, 0, none⟩ (.bool false)) vw gap S := by
  obtain ⟨_, h2, h3, h4, h5, h6⟩ := h.res ⟨#[]⟩ false
  exact ⟨(h4 _ (by omega) (by omega)).trans h.bw, (h4 _ (by omega) (by omega)).trans h.bg, h2, h3, h5, (h4 _ (by omega) (by omega)).trans h.bd, h6⟩
theorem Fr.ends {w V : World} {vw : Value} {gap : Int} {S : ByteArray} (h : Fr w V vw gap S) (s : ByteArray) (b : Bool) :
    ((V.setCell ⟨w.heap.size + 2, 0, none⟩ (.string s)).setCell ⟨w.heap.size + 3, 0, none⟩ (.bool b)).heap[w.heap.size + 6]? = some (.deferred (some [])) ∧
    (((V.setCell ⟨w.heap.size + 2, 0, none⟩ (.string s)).setCell ⟨w.heap.size + 3, 0, none⟩ (.bool b)).putObj (w.heap.size + 6) (.deferred none)).cell? ⟨w.heap.size + 2, 0, none⟩ = some (.string s) ∧
    (((V.setCell ⟨w.heap.size + 2, 0, none⟩ (.string s)).setCell ⟨w.heap.size + 3, 0, none⟩ (.bool b)).putObj (w.heap.size + 6) (.deferred none)).cell? ⟨w.heap.size + 3, 0, none⟩ = some (.bool b) ∧
    Below w.heap.size w (((V.setCell ⟨w.heap.size + 2, 0, none⟩ (.string s)).setCell ⟨w.heap.size + 3, 0, none⟩ (.bool b)).putObj (w.heap.size + 6) (.deferred none)) := by
  obtain ⟨_, h2, h3, h4, h5, h6⟩ := h.res s b
  have g3 := grownBy_putObj' ((V.setCell ⟨w.heap.size + 2, 0, none⟩ (.string s)).setCell ⟨w.heap.size + 3, 0, none⟩ (.bool b)) (w.heap.size + 6) (.deferred none)
  have ne : ∀ a b : Nat, a ≠ b → some a ≠ some b := fun a b h e => h (by injection e)
  exact ⟨(h4 _ (by omega) (by omega)).trans h.bd, (h2.kept g3 (ne _ _ (by omega))).cell, (h3.kept g3 (ne _ _ (by omega))).cell, h6.grown g3 h6.size (fun k e => by injection e with e; omega)⟩
theorem Fr.stops {w V : World} {vw : Value} {gap : Int} {S : ByteArray} (h : Fr w V vw gap S) :
    (V.putObj (w.heap.size + 6) (.deferred none)).cell? ⟨w.heap.size + 2, 0, none⟩ = some (.string ⟨#[]⟩) ∧ (V.putObj (w.heap.size + 6) (.deferred none)).cell? ⟨w.heap.size + 3, 0, none⟩ = some (.bool false) ∧ Below w.heap.size w (V.putObj (w.heap.size + 6) (.deferred none)) := by
  have g3 := grownBy_putObj' V (w.heap.size + 6) (.deferred none)
  have ne : ∀ a b : Nat, a ≠ b → some a ≠ some b := fun a b h e => h (by injection e)
  exact ⟨(h.bf.kept g3 (ne _ _ (by omega))).cell, (h.bt.kept g3 (ne _ _ (by omega))).cell, h.bel.grown g3 h.bel.size (fun k e => by injection e with e; omega)⟩
theorem fill_walk (x : ByteArray) (hx : x.size ≤ 65536) (w w2 : World) (vw : Value) (gap : Int) (Wl : List Int) (hz : w2.heap.size = w.heap.size + 6) (bW : Boxed w2 w.heap.size 26 vw) (bG : Boxed w2 (w.heap.size + 1) 2 (.int .i64 gap)) (bF : Boxed w2 (w.heap.size + 2) 9 (.string ⟨#[]⟩)) (bT : Boxed w2 (w.heap.size + 3) 4 (.bool false)) (bB : Bd (w.heap.size + 4) ⟨#[]⟩ w2) (bX : Boxed w2 (w.heap.size + 5) 9 (.string x)) (hB2 : Below w.heap.size w w2)
    {fn : FuncId} {tm : Array Value} {ps : Array Tmp} {asg bd : Code} {d : Nat}
    (hBody : ∀ k Va, k < (cel x).length → Fr w Va vw gap (fl Wl (cel x) gap k) → Va.heap[w.heap.size + 7]? = some (.loop (lrec .ready none fn tm ps asg bd d)) → fz Wl (cel x) gap k ≤ 65536 → YieldAt Fence.wide 4 Tryz.prog (w.heap.size + 7) #[.int .i64 (k : Int), .string (nthS (cel x) k)] Va fun e Vb =>
      (e = .returned (.bool true) ∧ (Fr w Vb vw gap (fl Wl (cel x) gap (k + 1)) ∧ Vb.heap[w.heap.size + 7]? = some (.loop (lrec .ready none fn tm ps asg bd d)) ∧ fz Wl (cel x) gap (k + 1) ≤ 65536)) ∨ (e = .returned (.bool false) ∧ ((∃ S, Fr w Vb vw gap S) ∧ Vb.heap[w.heap.size + 7]? = some (.loop (lrec .done (some .ret) fn tm ps asg bd d)) ∧ 65536 < fz Wl (cel x) gap (k + 1)))) :
    CallsIn Fence.wide 5 Tryz.prog 57 #[.func (.yield (w.heap.size + 7)) #[] #[], .pointer (some ⟨w.heap.size + 5, 0, none⟩)] ((w2.alloc (.deferred (some []))).alloc (.loop (lrec .ready none fn tm ps asg bd d))) fun e V => (∃ v, e = .returned v) ∧
      ((Fr w V vw gap (fl Wl (cel x) gap (cel x).length) ∧ V.heap[w.heap.size + 7]? = some (.loop (lrec .ready none fn tm ps asg bd d)) ∧ fz Wl (cel x) gap (cel x).length ≤ 65536) ∨
       (∃ k, k ≤ (cel x).length ∧ (∃ S, Fr w V vw gap S) ∧ V.heap[w.heap.size + 7]? = some (.loop (lrec .done (some .ret) fn tm ps asg bd d)) ∧ 65536 < fz Wl (cel x) gap k)) := by
  generalize hrc : Obj.loop (lrec .ready none fn tm ps asg bd d) = rc at *
  generalize hrx : Obj.loop (lrec .done (some .ret) fn tm ps asg bd d) = rx at *
  obtain ⟨W3, hW3⟩ : ∃ W3, W3 = w2.alloc (.deferred (some [])) := ⟨_, rfl⟩
  have z3 : W3.heap.size = w.heap.size + 7 := by rw [hW3]; simp [hz]
  have b3 : Below w2.heap.size w2 W3 := by rw [hW3]; exact (Below.refl _ _).alloc (Nat.le_refl _) _
  have d3 : W3.heap[w.heap.size + 6]? = some (.deferred (some [])) := by rw [hW3, ← hz]; exact heap_alloc_last _ _
  rw [← hW3]
  obtain ⟨W4, hW4⟩ : ∃ W4, W4 = W3.alloc rc := ⟨_, rfl⟩
  have b4 : Below W3.heap.size W3 W4 := by rw [hW4]; exact (Below.refl _ _).alloc (Nat.le_refl _) _
  have l4 : W4.heap[w.heap.size + 7]? = some rc := by rw [hW4, ← z3]; exact heap_alloc_last _ _
  have kp : ∀ k, k < w2.heap.size → W4.heap[k]? = w2.heap[k]? := fun k hk => (b4.block k (by omega)).trans (b3.block k hk)
  have b24 : Below w2.heap.size w2 W4 := b3.trans (b4.mono (by omega))
  have F4 : Fr w W4 vw gap ⟨#[]⟩ := ⟨(kp _ (by omega)).trans bW, (kp _ (by omega)).trans bG, (kp _ (by omega)).trans bF, (kp _ (by omega)).trans bT, bB.below b24, (b4.block _ (by omega)).trans d3, hB2.trans (b24.mono (by omega))⟩
  have c4 : W4.cell? ⟨w.heap.size + 5, 0, none⟩ = some (.string x) := (b24.cell (p := ⟨w.heap.size + 5, 0, none⟩) (by show w.heap.size + 5 < _; omega)).trans bX.cell
  rw [← hW4]
  refine (cells_in 5 (w.heap.size + 7) (w.heap.size + 5) x hx W4 c4 (fun k V => Fr w V vw gap (fl Wl (cel x) gap k) ∧ V.heap[w.heap.size + 7]? = some rc ∧ fz Wl (cel x) gap k ≤ 65536) (fun k V => (∃ S, Fr w V vw gap S) ∧ V.heap[w.heap.size + 7]? = some rx ∧ 65536 < fz Wl (cel x) gap k) ?_ ?_ ?_).mono ?_
  · rintro k Va Vb ⟨h, hl, hf⟩ hb
    exact ⟨h.below hb, rec_below hl hb, hf⟩
  · rintro k Va hk ⟨h, hl, hf⟩
    exact hBody k Va hk h hl hf
  · exact ⟨F4, l4, by rw [fz]; omega⟩
  · rintro e V ⟨he, h⟩
    exact ⟨he, h⟩
def Fit (W : List Int) (gap : Int) (x : ByteArray) (s : ByteArray) (b : Bool) : Prop := (b = true ∧ tot W gap x ≤ 65536 ∧ s = row W gap x) ∨ (b = false ∧ 65536 < tot W gap x)
set_option maxRecDepth 100000 in
set_option maxHeartbeats 8000000 in
theorem filled_in (x : ByteArray) (hx : x.size ≤ 65536) (vw : Value) (Wl : List Int) (gap : Int) (B : Nat) (w : World) (ho : w.ownsRow B 2 1 vw Wl.length (Wl.map (Value.int .i64))) (h0 : 0 ≤ gap) (h1 : gap ≤ 20)
    (hk : ∀ k, k < (cel x).length → k < Wl.length ∧ (0 ≤ Wl.getD k 0 ∧ Wl.getD k 0 ≤ 131072) ∧ 0 ≤ bk Wl (cel x) gap k) (ht : TabAt w) (hT : Wid.TabD w) :
    CallsIn Fence.wide 6 Tryz.prog 31 #[.string x, vw, .int .i64 gap] w fun e w' => ∃ s b, e = .returned (.tuple #[.string s, .bool b]) ∧ Below w.heap.size w w' ∧ Fit Wl gap x s b := by
  have hn1 : 1 ≤ 6 := by omega
  have CA := hide (fun W => (callsIn_wide (n := 5)).2 (cellsI x W))
  obtain ⟨va, vc, rfl⟩ := form_ownC ho
  obtain ⟨n, hn⟩ : ∃ n, Wl.length = n := ⟨_, rfl⟩
  rw [hn] at ho hk ⊢
  clear hn
  have HO := hide ho
  have HK := hide hk
  have HT := hide ht
  have HTD := hide hT
  have hmx := mixedC
  have HCZ := hide (fun k (hk : k < (cel x).length) => cel_size x k hk)
  have hcl := cel_len x
  have hls := lst_size x
  clear ho hk ht hT
  refine callsIn_of_wp_marks Tryz.func31 rfl trivial ?_ rfl
  simp only [Tryz.ntmps31, List.size_toArray, List.length_cons, List.length_nil, Nat.reduceAdd, Nat.reduceSub, Array.replicate_succ, Array.replicate_zero, List.push_toArray, List.append_toArray, List.nil_append, List.cons_append]
  gi_wp2_with (refine ⟨trivial, ?_⟩; gi_at_call 42; refine ((unhide CA) _).mono ?_; clear CA; rintro e W1 ⟨rfl, rfl⟩)
  obtain ⟨w0, hw0⟩ : ∃ w0, w0 = (((w.alloc (.cells #[.slice va n vc] 26)).alloc (.cells #[.int .i64 gap] 2)).alloc (.cells #[.string ⟨#[]⟩] 9)).alloc (.cells #[.bool false] 4) := ⟨_, rfl⟩
  have z0 : w0.heap.size = w.heap.size + 4 := by rw [hw0]; simp
  have q1 : (w.alloc (.cells #[.slice va n vc] 26)).heap.size = w.heap.size + 1 := by simp
  have q2 : ((w.alloc (.cells #[.slice va n vc] 26)).alloc (.cells #[.int .i64 gap] 2)).heap.size = w.heap.size + 2 := by simp
  have q3 : (((w.alloc (.cells #[.slice va n vc] 26)).alloc (.cells #[.int .i64 gap] 2)).alloc (.cells #[.string ⟨#[]⟩] 9)).heap.size = w.heap.size + 3 := by simp
  have bW0 : Boxed w0 w.heap.size 26 (.slice va n vc) := by rw [hw0]; exact (((Boxed.new w 26 _).alloc _).alloc _).alloc _
  have bG0 : Boxed w0 (w.heap.size + 1) 2 (.int .i64 gap) := by rw [hw0, ← q1]; exact ((Boxed.new _ 2 _).alloc _).alloc _
  have bF0 : Boxed w0 (w.heap.size + 2) 9 (.string ⟨#[]⟩) := by rw [hw0, ← q2]; exact (Boxed.new _ 9 _).alloc _
  have bT0 : Boxed w0 (w.heap.size + 3) 4 (.bool false) := by rw [hw0, ← q3]; exact Boxed.new _ 4 _
  have hB0 : Below w.heap.size w w0 := by rw [hw0]; exact ((((Below.refl _ _).alloc (Nat.le_refl _) _).alloc (by simp) _).alloc (by simp; omega) _).alloc (by simp; omega) _
  simp only [← hw0]
  clear hw0 q1 q2 q3
  obtain ⟨w1, hw1⟩ : ∃ w1, w1 = w0.alloc (.cells #[.pointer none, .slice none 0 0] 81) := ⟨_, rfl⟩
  have z1 : w1.heap.size = w.heap.size + 5 := by rw [hw1]; simp [z0]
  have bB1 : Bd (w.heap.size + 4) ⟨#[]⟩ w1 := by rw [hw1, ← z0]; exact Bd.new w0
  have b01 : Below w0.heap.size w0 w1 := by rw [hw1]; exact (Below.refl _ _).alloc (Nat.le_refl _) _
  simp only [← hw1]
  clear hw1
  obtain ⟨w2, hw2⟩ : ∃ w2, w2 = w1.alloc (.cells #[.string x] 9) := ⟨_, rfl⟩
  have hz : w2.heap.size = w.heap.size + 6 := by rw [hw2]; simp [z1]
  have b12 : Below w1.heap.size w1 w2 := by rw [hw2]; exact (Below.refl _ _).alloc (Nat.le_refl _) _
  have bX : Boxed w2 (w.heap.size + 5) 9 (.string x) := by rw [hw2, ← z1]; exact Boxed.new w1 9 _
  have b02 : Below w0.heap.size w0 w2 := b01.trans (b12.mono (by omega))
  have bB := bB1.below b12
  have bW : Boxed w2 w.heap.size 26 (.slice va n vc) := (b02.block _ (by omega)).trans bW0
  have bG : Boxed w2 (w.heap.size + 1) 2 (.int .i64 gap) := (b02.block _ (by omega)).trans bG0
  have bF : Boxed w2 (w.heap.size + 2) 9 (.string ⟨#[]⟩) := (b02.block _ (by omega)).trans bF0
  have bT : Boxed w2 (w.heap.size + 3) 4 (.bool false) := (b02.block _ (by omega)).trans bT0
  have hB2 : Below w.heap.size w w2 := hB0.trans (b02.mono (by omega))
  simp only [← hw2, Nat.add_assoc, Nat.reduceAdd]
  clear hw2 z0 z1 bW0 bG0 bF0 bT0 hB0 b01 b12 b02 bB1
  refine range_walkR rfl hn1 (gf := 57) (lb := #[.pointer (some ⟨w.heap.size + 5, 0, none⟩)]) rfl trivial (enters_of Tryz.func57 (by kernel_rfl) rfl) ?_
  intro fn hfn
  rw [hz]
  refine (fill_walk x hx w w2 (.slice va n vc) gap Wl hz bW bG bF bT bB bX hB2 (d := w.heap.size + 6) ?body).mono ?done
  case body =>
    intro k Va hk hFr hl hfz
    clear bW bG bF bT bB bX hB2 hz
    refine yield_roundR trivial hl rfl { tmps := #[.string x, .slice va n vc, .int .i64 gap, undef, .pointer (some ⟨w.heap.size, 0, none⟩), .pointer (some ⟨w.heap.size + 1, 0, none⟩), .pointer (some ⟨w.heap.size + 2, 0, none⟩), .pointer (some ⟨w.heap.size + 3, 0, none⟩), .pointer (some ⟨w.heap.size + 4, 0, none⟩), .int .i64 k, .string (nthS (cel x) k), undef, .string x, .func (.func 57) #[] #[.pointer (some ⟨w.heap.size + 5, 0, none⟩)], .int .i64 k, .string (nthS (cel x) k), undef, undef, undef, undef, undef, undef, undef, undef, undef, undef, undef, undef, undef, undef, undef, undef, undef, undef, undef, undef, undef, undef, undef, undef, undef, undef, undef, undef, undef, undef], defers := [] } (fun K hK => ?ha) ?hb
    case ha =>
      gi_wp2
      exact hK
    case hb =>
      intro rc2 hrc2
      have HR := hide hrc2
      have hl2 : Va.heap[w.heap.size + 7]? = some (.loop (rc2 .ready none)) := by rw [hrc2]; exact hl
      clear hrc2 hl
      have F1 := hide (hFr.put hl2 (.loop (rc2 .busy none)))
      have L1 : Hid ((Va.putObj (w.heap.size + 7) (.loop (rc2 .busy none))).heap[w.heap.size + 7]? = some (.loop (rc2 .busy none))) := hide (World.putObj_heap_same (blk_lt hl2))
      generalize Va.putObj (w.heap.size + 7) (.loop (rc2 .busy none)) = V1 at *
      clear hFr hl2
      obtain ⟨hkn, hbd, hbk⟩ := (unhide HK) k hk
      have hy := (unhide HCZ) k hk
      have hTb := wx_bd (nthS (cel x) k)
      have HFN : Hid (fl Wl (cel x) gap (k + 1) = fl Wl (cel x) gap k ++ nthS (cel x) k ++ bla (bk Wl (cel x) gap k).toNat) := hide rfl
      have HZN : Hid (fz Wl (cel x) gap (k + 1) = fz Wl (cel x) gap k + ((nthS (cel x) k).size : Int) + bk Wl (cel x) gap k) := hide rfl
      have hSz : ((fl Wl (cel x) gap k).size : Int) = fz Wl (cel x) gap k := fl_size k (fun j hj => ((unhide HK) j (by omega)).2.2)
      have hbe : bk Wl (cel x) gap k = Wl.getD k 0 - wx (nthS (cel x) k) + gap := rfl
      have HT1 : Hid (TabAt V1 ∧ Wid.TabD V1) := hide ⟨(unhide HT).below (unhide F1).bel, (unhide HTD).below (unhide F1).bel⟩
      have CWy : Hid (∀ m U, TabAt U → Wid.TabD U → CallsIn (Fence.wide.inRound (w.heap.size + 7)) m Tryz.prog 43 #[.string (nthS (cel x) k)] U fun e w' => e = .returned (.int .i64 (wx (nthS (cel x) k))) ∧ Below U.heap.size U w') := hide (fun m U ht hd => CallsIn.inRound (w.heap.size + 7) ((callsIn_wide (n := m)).2 (by
        have h := Wid.implWide (nthS (cel x) k) U ht hd
        rw [if_neg (by omega)] at h
        exact h)))
      have CL : Hid (∀ m U S, Bd (w.heap.size + 4) S U → CallsIn (Fence.wide.inRound (w.heap.size + 7)) m Tryz.prog 44 #[.pointer (some ⟨w.heap.size + 4, 0, none⟩)] U fun e w' => e = .returned (.int .i64 (S.size : Int)) ∧ w' = U) := hide (fun m U S h => CallsIn.inRound (w.heap.size + 7) ((callsIn_wide (n := m)).2 (lenB _ S U h)))
      have CWr : Hid (∀ m U S t, Bd (w.heap.size + 4) S U → S.size + t.size ≤ 4294967296 → CallsIn (Fence.wide.inRound (w.heap.size + 7)) m Tryz.prog 45 #[.pointer (some ⟨w.heap.size + 4, 0, none⟩), .string t] U fun e w' => e = .returned (.tuple #[.int .i64 t.size, .nilIface]) ∧ Bd (w.heap.size + 4) (S ++ t) w' ∧ Kb (w.heap.size + 4) U w') := hide (fun m U S t h hs => CallsIn.inRound (w.heap.size + 7) ((callsIn_wide (n := m)).2 (writeB _ S t U h hs)))
      obtain ⟨g', hva, hgl, hgc⟩ : ∃ g, va = some ⟨g, 0, none⟩ ∧ g < w.heap.size ∧ w.cell? ⟨g, k, none⟩ = some (.int .i64 (Wl.getD k 0)) := by
        rcases (unhide HO).2 with ⟨_, h0⟩ | ⟨g, cap, cur, e, _⟩
        · omega
        · injection e with e1 e2 e3
          refine ⟨g, e1, ((unhide HO).lt g (by rw [e1]; rfl)).2, ?_⟩
          have HO2 := unhide HO
          rw [e1] at HO2
          exact cell_ofK HO2 k hkn
      subst hva
      have kc0 := (unhide F1).bel.cell (p := ⟨g', k, none⟩) hgl
      rw [hgc] at kc0
      have KC := hide (fun (U : World) (h : Below w.heap.size w U) => (h.cell (p := ⟨g', k, none⟩) hgl).trans hgc)
      clear kc0 hgc
      generalize hTe : wx (nthS (cel x) k) = T at *
      generalize nthS (cel x) k = y at *
      generalize Wl.getD k 0 = d at *
      generalize fl Wl (cel x) gap k = S at *
      generalize hFZ : fz Wl (cel x) gap k = fz0 at *
      generalize hBK : bk Wl (cel x) gap k = bk0 at *
      clear hTe hFZ hBK
      obtain ⟨q, hq⟩ : ∃ q : Nat, bk0 = (q : Int) := ⟨bk0.toNat, by omega⟩
      have hdq : d - T + gap = (q : Int) := by omega
      have hSb : S.size ≤ 65536 := by omega
      have hqb : q ≤ 131092 := by omega
      have hkI : (k : Int) < (n : Int) := by omega
      have hk0 : (0 : Int) ≤ (k : Int) := by omega
      have HFN2 : Hid (fl Wl (cel x) gap (k + 1) = S ++ y ++ bla q) := hide (by rw [unhide HFN, hq]; rfl)
      have HZN2 : Hid (fz Wl (cel x) gap (k + 1) = (S.size : Int) + (y.size : Int) + (q : Int)) := hide (by rw [unhide HZN, hq, ← hSz])
      have hn64 : n ≤ 9223372036854775807 := by
        have h := (unhide HO)
        rcases h.2 with ⟨_, h0⟩ | ⟨g, cap, cur, e, _, _, h3, h4, _⟩
        · omega
        · unfold maxLen at h4; omega
      have wr1 : IntKind.i64.wrap (d - T) = d - T := by simp [IntKind.wrap, IntKind.bits, IntKind.signed]; omega
      have wr2 : IntKind.i64.wrap (d - T + gap) = d - T + gap := by simp [IntKind.wrap, IntKind.bits, IntKind.signed]; omega
      have HDQ : Hid (d - T + gap = (q : Int) ∧ True) := hide ⟨hdq, trivial⟩
      have HFZ0 : Hid (fz0 ≤ 65536 ∧ True) := hide ⟨hfz, trivial⟩
      have hky : y.size ≤ 65536 := by omega
      have hk65 : k ≤ 65536 := by omega
      have CRp : Hid (∀ m U, CallsIn (Fence.wide.inRound (w.heap.size + 7)) m Tryz.prog 46 #[.string ⟨#[32]⟩, .int .i64 (q : Int)] U fun e w' => e = .returned (.string (bla q)) ∧ Below U.heap.size U w') := hide (fun m U => CallsIn.inRound (w.heap.size + 7) ((callsIn_wide (n := m)).2 (repC q (by omega) U)))
      clear HFN HZN hq hdq hbk hbe hSz hfz hy
      gi_wp2_with fail
      refine Wid.region_inv hmx (fun lf ac w' => ∃ (b0 b1 b2 b3 b4 b5 b6 b7 b8 b9 : Bool), lf = #[b0, b1, b2, b3, b4, b5, b6, b7, b8, b9] ∧ ac = { tmps := #[.string x, .slice (some ⟨g', 0, none⟩) n vc, .int .i64 gap, undef, .pointer (some ⟨w.heap.size, 0, none⟩), .pointer (some ⟨w.heap.size + 1, 0, none⟩), .pointer (some ⟨w.heap.size + 2, 0, none⟩), .pointer (some ⟨w.heap.size + 3, 0, none⟩), .pointer (some ⟨w.heap.size + 4, 0, none⟩), .int .i64 k, .string y, (bif b9 then .int .i64 (d - T + gap) else undef), .string x, .func (.func 57) #[] #[.pointer (some ⟨w.heap.size + 5, 0, none⟩)], .int .i64 k, .string y, (bif b0 then .slice (some ⟨g', 0, none⟩) n vc else undef), (bif b1 then .int .i64 k else undef), (bif b2 then .pointer (some ⟨g', k, none⟩) else undef), (bif b3 then .int .i64 d else undef), (bif b4 then .string y else undef), (bif b5 then .int .i64 T else undef), (bif b6 then .int .i64 (d - T) else undef), (bif b7 then .int .i64 gap else undef), (bif b8 then .int .i64 (d - T + gap) else undef), undef, undef, undef, undef, undef, undef, undef, undef, undef, undef, undef, undef, undef, undef, undef, undef, undef, undef, undef, undef, undef], defers := [] } ∧ Hid (Fr w w' (.slice (some ⟨g', 0, none⟩) n vc) gap S) ∧ Hid (w'.heap[w.heap.size + 7]? = some (.loop (rc2 .busy none))) ∧ Hid (TabAt w' ∧ Wid.TabD w')) (by kernel_rfl) ?size ?first ?step ?last
      case size =>
        rintro lf ac w' ⟨b0, b1, b2, b3, b4, b5, b6, b7, b8, b9, rfl, _⟩
        rfl
      case first => exact ⟨false, false, false, false, false, false, false, false, false, false, rfl, rfl, hide ((unhide F1).below (bdrew (Below.refl V1.heap.size V1) 1)), hide (rec_below (unhide L1) (bdrew (Below.refl V1.heap.size V1) 1)), hide ⟨(unhide HT1).1.below (bdrew (Below.refl V1.heap.size V1) 1), (unhide HT1).2.below (bdrew (Below.refl V1.heap.size V1) 1)⟩⟩
      case step =>
        rintro ii lf ac w' ⟨b0, b1, b2, b3, b4, b5, b6, b7, b8, b9, rfl, rfl, hX, hL, hTT⟩ hr
        have hr := mem_ready.1 hr
        rcases ii with _ | _ | _ | _ | _ | _ | _ | _ | _ | _ | ii
        · simp [Region.binds] at hr
          repeat (rcases hr with ⟨hq, hr⟩)
          subst_vars
          have kb := (unhide hX).bw.cell
          refine wpOpIn_step rfl (fun K hK => ?_)
          go_simp
          refine hK _ _ ⟨true, _, _, _, _, _, _, _, _, _, rfl, rfl, hX, hL, hTT⟩
        · simp [Region.binds] at hr
          repeat (rcases hr with ⟨hq, hr⟩)
          subst_vars
          refine wpOpIn_step rfl (fun K hK => ?_)
          go_simp
          refine hK _ _ ⟨_, true, _, _, _, _, _, _, _, _, rfl, rfl, hX, hL, hTT⟩
        · simp [Region.binds] at hr
          repeat (rcases hr with ⟨hq, hr⟩)
          subst_vars
          refine wpOpIn_step rfl (fun K hK => ?_)
          go_simp
          refine hK _ _ ⟨_, _, true, _, _, _, _, _, _, _, rfl, rfl, hX, hL, hTT⟩
        · simp [Region.binds] at hr
          repeat (rcases hr with ⟨hq, hr⟩)
          subst_vars
          have kc := (unhide KC) _ (unhide hX).bel
          refine wpOpIn_step rfl (fun K hK => ?_)
          go_simp
          refine hK _ _ ⟨_, _, _, true, _, _, _, _, _, _, rfl, rfl, hX, hL, hTT⟩
        · simp [Region.binds] at hr
          repeat (rcases hr with ⟨hq, hr⟩)
          subst_vars
          refine wpOpIn_step rfl (fun K hK => ?_)
          go_simp
          refine hK _ _ ⟨_, _, _, _, true, _, _, _, _, _, rfl, rfl, hX, hL, hTT⟩
        · simp [Region.binds] at hr
          repeat (rcases hr with ⟨hq, hr⟩)
          subst_vars
          refine wpOpIn_step rfl (fun K hK => ?_)
          go_simp
          refine ⟨trivial, ?_⟩
          gi_at_call 43
          refine ((unhide CWy) _ _ (unhide hTT).1 (unhide hTT).2).mono ?_
          rintro e W5 ⟨rfl, hb5⟩
          have X5 := hide ((unhide hX).below hb5)
          have L5 := hide (rec_below (unhide hL) hb5)
          have T5 := hide (show TabAt W5 ∧ Wid.TabD W5 from ⟨(unhide hTT).1.below hb5, (unhide hTT).2.below hb5⟩)
          clear hb5
          refine hK _ _ ⟨_, _, _, _, _, true, _, _, _, _, rfl, rfl, X5, L5, T5⟩
        · simp [Region.binds] at hr
          repeat (rcases hr with ⟨hq, hr⟩)
          subst_vars
          refine wpOpIn_step rfl (fun K hK => ?_)
          go_simp
          refine hK _ _ ⟨_, _, _, _, _, _, true, _, _, _, rfl, rfl, hX, hL, hTT⟩
        · simp [Region.binds] at hr
          repeat (rcases hr with ⟨hq, hr⟩)
          subst_vars
          have kb := (unhide hX).bg.cell
          refine wpOpIn_step rfl (fun K hK => ?_)
          go_simp
          refine hK _ _ ⟨_, _, _, _, _, _, _, true, _, _, rfl, rfl, hX, hL, hTT⟩
        · simp [Region.binds] at hr
          repeat (rcases hr with ⟨hq, hr⟩)
          subst_vars
          refine wpOpIn_step rfl (fun K hK => ?_)
          go_simp
          refine hK _ _ ⟨_, _, _, _, _, _, _, _, true, _, rfl, rfl, hX, hL, hTT⟩
        · simp [Region.binds] at hr
          repeat (rcases hr with ⟨hq, hr⟩)
          subst_vars
          refine wpOpIn_step rfl (fun K hK => ?_)
          go_simp
          refine hK _ _ ⟨_, _, _, _, _, _, _, _, _, true, rfl, rfl, hX, hL, hTT⟩
        · simp at hr
      case last =>
        rintro ac W4 ⟨f0, f1, f2, f3, f4, f5, f6, f7, f8, f9, hlf, rfl, hX, hL, hTT⟩
        have hlf := congrArg Array.toList hlf
        simp at hlf
        repeat (rcases hlf with ⟨hq, hlf⟩)
        subst_vars
        simp only [cond_true]
        rw [(unhide HDQ).1]
        clear wr1 wr2
        by_cases hbig : (65536 : Int) < (S.size : Int) + (y.size : Int) + (q : Int)
        · have kf := (unhide hX).bf.cell
          have kff := (unhide hX).bf.frozen
          have kt := (unhide hX).bt.cell
          have ktf := (unhide hX).bt.frozen
          have R0 := hide (unhide hX).res0
          have R1 := hide (((unhide hX).res ⟨#[]⟩ false).2.2.2.1 (w.heap.size + 7) (by omega) (by omega))
          gi_wp2_with (first | (refine ⟨trivial, ?_⟩; gi_at_call 44; refine ((unhide CL) _ _ _ (unhide hX).bb).mono ?_; rintro e W5 ⟨rfl, hw5⟩; obtain rfl := hw5.symm; clear hw5))
          have hrec := (unhide R1).trans (unhide hL)
          exact ⟨hrec, .inr ⟨rfl, ⟨S, (unhide R0).put hrec _⟩, by rw [World.putObj_heap_same (blk_lt hrec), (unhide HR) _ _], by rw [unhide HZN2]; exact hbig⟩⟩
        · gi_wp2_with (first | (refine ⟨trivial, ?_⟩; gi_at_call 44; refine ((unhide CL) _ _ _ (unhide hX).bb).mono ?_; rintro e W5 ⟨rfl, hw5⟩; obtain rfl := hw5.symm; clear hw5) | (refine ⟨trivial, ?_⟩; gi_at_call 45; refine ((unhide CWr) _ _ S y (unhide hX).bb (by omega)).mono ?_; rintro e W5 ⟨rfl, hb5, hk5⟩; have X5 := hide ((unhide hX).write hb5 hk5); have L5 := hide (rec_write (unhide hL) hk5); clear hb5 hk5 hX hL) | (refine ⟨trivial, ?_⟩; gi_at_call 46; refine ((unhide CRp) _ _).mono ?_; rintro e W6 ⟨rfl, hb6⟩; have X6 := hide ((unhide X5).below hb6); have L6 := hide (rec_below (unhide L5) hb6); clear hb6 X5 L5) | (refine ⟨trivial, ?_⟩; gi_at_call 45; refine ((unhide CWr) _ _ (S ++ y) (bla q) (unhide X6).bb (by rw [ByteArray.size_append, bla_size]; omega)).mono ?_; rintro e W7 ⟨rfl, hb7, hk7⟩; have X7 := hide ((unhide X6).write hb7 hk7); have L7 := hide (rec_write (unhide L6) hk7); clear hb7 hk7 X6 L6))
          exact ⟨unhide L7, .inl ⟨rfl, by rw [unhide HFN2]; exact (unhide X7).put (unhide L7) _, by rw [World.putObj_heap_same (blk_lt (unhide L7)), (unhide HR) .ready none], by rw [unhide HZN2]; omega⟩⟩
  case done =>
    rintro e V ⟨he, h⟩
    refine ⟨he, ?_⟩
    clear bW bG bF bT bB bX hB2
    rcases h with ⟨hF, hl, hfz⟩ | ⟨k, hk, ⟨S, hF⟩, hl, hbig⟩
    · refine .inl ⟨hl, fun o => ?_⟩
      have F1 := hide (hF.put hl o)
      have hSz : ((fl Wl (cel x) gap (cel x).length).size : Int) = fz Wl (cel x) gap (cel x).length := fl_size _ (fun j hj => ((unhide HK) j hj).2.2)
      have HROW : Hid (row Wl gap x = fl Wl (cel x) gap (cel x).length ++ lst x) := hide rfl
      have HTOT : Hid (tot Wl gap x = ((fl Wl (cel x) gap (cel x).length).size : Int) + ((lst x).size : Int)) := hide (by unfold tot; rw [hSz])
      have HLST : Hid (x.extract (cts x x.size).2 x.size = lst x) := hide rfl
      have hle := (cts_le x x.size).1
      have CLI := hide (fun W => (callsIn_wide (n := 5)).2 (lastI x (by omega) W))
      have CL : Hid (∀ U S, Bd (w.heap.size + 4) S U → CallsIn Fence.wide 5 Tryz.prog 44 #[.pointer (some ⟨w.heap.size + 4, 0, none⟩)] U fun e w' => e = .returned (.int .i64 (S.size : Int)) ∧ w' = U) := hide (fun U S h => (callsIn_wide (n := 5)).2 (lenB _ S U h))
      have CWr : Hid (∀ U S t, Bd (w.heap.size + 4) S U → S.size + t.size ≤ 4294967296 → CallsIn Fence.wide 5 Tryz.prog 45 #[.pointer (some ⟨w.heap.size + 4, 0, none⟩), .string t] U fun e w' => e = .returned (.tuple #[.int .i64 t.size, .nilIface]) ∧ Bd (w.heap.size + 4) (S ++ t) w' ∧ Kb (w.heap.size + 4) U w') := hide (fun U S t h hs => (callsIn_wide (n := 5)).2 (writeB _ S t U h hs))
      have CS : Hid (∀ U S, Bd (w.heap.size + 4) S U → CallsIn Fence.wide 5 Tryz.prog 48 #[.pointer (some ⟨w.heap.size + 4, 0, none⟩)] U fun e w' => e = .returned (.string S) ∧ Bd (w.heap.size + 4) S w' ∧ Kb (w.heap.size + 4) U w') := hide (fun U S h => (callsIn_wide (n := 5)).2 (stringB _ S U h))
      have hSb : (fl Wl (cel x) gap (cel x).length).size ≤ 65536 := by omega
      rw [show w.heap.size + 6 + 1 = w.heap.size + 7 from rfl]
      generalize V.putObj (w.heap.size + 7) o = V1 at *
      clear hF hl hSz hfz
      generalize fl Wl (cel x) gap (cel x).length = S at *
      generalize lst x = Y at *
      obtain ⟨en, hen⟩ : ∃ en, (cts x x.size).2 = en := ⟨_, rfl⟩
      rw [hen] at CLI HLST hle
      clear hen
      have hle2 : (en : Int) ≤ (x.size : Int) := by omega
      have he1 : (en : Int) - 1 + 1 = (en : Int) := by omega
      have HEX := hide (unhide HLST)
      generalize hX : x.extract en x.size = XE at *
      obtain rfl := (unhide HEX)
      clear HEX HLST
      gi_wp2_with (first
        | (refine ⟨trivial, ?_⟩; gi_at_call 47; refine ((unhide CLI) _).mono ?_; clear CLI; rintro e W2 ⟨rfl, hw2⟩; obtain rfl := hw2.symm; clear hw2)
        | (refine ⟨trivial, ?_⟩; gi_at_call 45; refine ((unhide CWr) _ _ _ (unhide F1).bb (by omega)).mono ?_; clear CWr; rintro e W3 ⟨rfl, hb3, hk3⟩; have F3 := hide ((unhide F1).write hb3 hk3); clear hb3 hk3)
        | (refine ⟨trivial, ?_⟩; gi_at_call 48; refine ((unhide CS) _ _ (unhide F3).bb).mono ?_; clear CS; rintro e W4 ⟨rfl, hb4, hk4⟩; have F4 := hide ((unhide F3).write hb4 hk4); clear hb4 hk4)
        | (refine ⟨trivial, ?_⟩; gi_at_call 44; refine ((unhide CL) _ _ (unhide F4).bb).mono ?_; clear CL; rintro e W5 ⟨rfl, hw5⟩; obtain rfl := hw5.symm; clear hw5; have kf := (unhide F4).bf.cell; have kff := (unhide F4).bf.frozen; have kt := (unhide F4).bt.cell; have ktf := (unhide F4).bt.frozen; have kt2 := ((unhide F4).res (row Wl gap x) true).1.cell; have kt3 := ((unhide F4).res (row Wl gap x) true).1.frozen))
      obtain ⟨p1, p2, p3, p4⟩ := (unhide F4).ends (S ++ XE) (decide ((S.size : Int) + (XE.size : Int) ≤ 65536))
      refine ⟨by simp, .inl ⟨_, _, rfl, run_takeDeferred p1, ?_⟩⟩
      refine ⟨.tuple #[.string (S ++ XE), .bool (decide ((S.size : Int) + (XE.size : Int) ≤ 65536))], ?_, _, _, rfl, p4, ?_⟩
      · simp [results, Tryz.f31, go_sem, p2, p3]
      · by_cases hb : (S.size : Int) + (XE.size : Int) ≤ 65536
        · exact .inl ⟨decide_eq_true hb, by rw [unhide HTOT]; exact hb, (unhide HROW).symm⟩
        · exact .inr ⟨decide_eq_false hb, by rw [unhide HTOT]; omega⟩
    · refine .inr ⟨_, hl, fun o => ?_⟩
      have F1 := hide (hF.put hl o)
      have HBIG : Hid (65536 < tot Wl gap x) := hide (by
        have h := fz_up (W := Wl) (C := cel x) (gap := gap) k ((cel x).length - k) (fun j hj => ((unhide HK) j (by omega)).2.2)
        rw [show k + ((cel x).length - k) = (cel x).length by omega] at h
        unfold tot
        omega)
      rw [show w.heap.size + 6 + 1 = w.heap.size + 7 from rfl]
      generalize V.putObj (w.heap.size + 7) o = V1 at *
      have kf := (unhide F1).bf.cell
      have kt := (unhide F1).bt.cell
      clear hF hl hbig
      gi_wp2
      obtain ⟨p2, p3, p5⟩ := (unhide F1).stops
      refine ⟨by simp, .inl ⟨_, _, rfl, run_takeDeferred (unhide F1).bd, ?_⟩⟩
      refine ⟨.tuple #[.string ⟨#[]⟩, .bool false], ?_, _, _, rfl, p5, .inr ⟨rfl, unhide HBIG⟩⟩
      simp [results, Tryz.f31, go_sem, p2, p3]
end Clm
end Go.Proofs.YtcdhaikmedicfaaGreatDoor
/- Columns, as the program makes them. -/
namespace Go.Proofs.YtcdhaikmedicfaaGreatDoor
namespace Clm
open Go.RowKit Go.Shelf Chr
set_option linter.unusedVariables false
set_option linter.unusedSimpArgs false
theorem firstL (P : List ByteArray) : ∀ n, ∃ f, f ≤ n ∧ (∀ i, i < f → (nthS P i).size ≤ 65536) ∧ (f < n → 65536 < (nthS P f).size)
  | 0 => ⟨0, Nat.le_refl _, fun i h => absurd h (by omega), fun h => absurd h (by omega)⟩
  | n + 1 => by
    obtain ⟨f, h1, h2, h3⟩ := firstL P n
    by_cases e : f = n
    · subst e
      by_cases c : 65536 < (nthS P f).size
      · exact ⟨f, by omega, h2, fun _ => c⟩
      · refine ⟨f + 1, Nat.le_refl _, fun i hi => ?_, fun h => absurd h (by omega)⟩
        by_cases e2 : i = f
        · subst e2; omega
        · exact h2 i (by omega)
    · exact ⟨f, by omega, h2, fun _ => h3 (by omega)⟩
theorem clm_len (P : List ByteArray) (gap : Int) : (clm P gap).length ≤ 1000 := by
  unfold clm
  split
  · rename_i h
    rw [out_len]
    exact (of_decide_eq_true h).1
  · exact Nat.zero_le _
theorem own_baseC {W : World} {B B' k : Nat} {e : TypeId} {v : Value} {xs : List Value} (h : W.ownsRow B' e 1 v k xs) (hB : B ≤ B') : W.ownsRow B e 1 v k xs := by
  refine ⟨h.1, ?_⟩
  rcases h.2 with h' | ⟨g, cp, cur, hv, hg, r⟩
  · exact .inl h'
  · exact .inr ⟨g, cp, cur, hv, Nat.le_trans hB hg, r⟩
theorem withinC (p a b : Int) (w : World) : Calls Tryz.prog 29 #[.int .i64 p, .int .i64 a, .int .i64 b] w fun e w' => e = .returned (.bool (decide (a ≤ p) && decide (p ≤ b))) ∧ w' = w := by
  have rb : ∀ {x y : Bool}, x = y → (Ending.returned (.bool x) : Ending) = .returned (.bool y) := fun h => by rw [h]
  by_cases h1 : a ≤ p
  · by_cases h2 : p ≤ b
    · go_enter Tryz.func29, Tryz.ntmps29
      go_wp2
      go_ret
      exact ⟨rb (x := true) (by simp [h1, h2]), rfl⟩
    · go_enter Tryz.func29, Tryz.ntmps29
      go_wp2
      go_ret
      exact ⟨rb (x := false) (by simp [h2]), rfl⟩
  · go_enter Tryz.func29, Tryz.ntmps29
    go_wp2
    go_ret
    exact ⟨rb (x := false) (by simp; omega), rfl⟩
set_option maxRecDepth 100000 in
set_option maxHeartbeats 4000000 in
theorem idxL (v : Value) (P : List ByteArray) (w : World) (hv : StrsAt w v P) (hP : P.length ≤ 1048576) (f : Nat) (hf : f ≤ P.length) (hs : ∀ i, i < f → (nthS P i).size ≤ 65536) (hb : f < P.length → 65536 < (nthS P f).size) :
    Calls Tryz.prog 41 #[v, .func (.func 19) #[] #[]] w fun e w' => e = .returned (.int .i64 (if f < P.length then (f : Int) else -1)) ∧ w' = w := by
  obtain ⟨va, vc, rfl, hva⟩ := hv
  have HVA : Hid (0 < P.length → ∃ b off, va = some ⟨b, off, none⟩ ∧ b < w.heap.size ∧ ∀ i, i < P.length → w.cell? ⟨b, off + i, none⟩ = some (.string (nthS P i))) := hide (fun h => by
    rcases hva with h0 | ⟨b, off, h1, h2, h3⟩
    · subst h0; simp at h
    · exact ⟨b, off, h1, h2, h3⟩)
  have HS := hide hs
  have HB := hide hb
  clear hva hs hb
  obtain ⟨n, hn⟩ : ∃ n, P.length = n := ⟨_, rfl⟩
  rw [hn] at hP hf HVA HB ⊢
  clear hn
  go_enter Tryz.func41, Tryz.ntmps41
  go_wp2_with fail
  go_loopw [8] (fun v8 wr => ∃ i : Nat, i ≤ f ∧ v8 = .int .i64 (i : Int) ∧ wr = w) (fun v _ => n - (intOf v).toNat)
  case atStart => exact ⟨0, by omega, rfl, rfl⟩
  case round =>
    obtain ⟨i, hi, rfl, hwr⟩ := hrel
    obtain rfl := hwr.symm
    clear hwr
    by_cases hlt : i < n
    · have hI : (i : Int) < (n : Int) := by omega
      obtain ⟨b, off, rfl, hbw, hc⟩ := (unhide HVA) (by omega)
      have c1 := hc i hlt
      clear hc
      by_cases hif : i < f
      · have hsm := (unhide HS) i hif
        have CS := hide (fun W => short_any (nthS P i) W (by omega))
        generalize nthS P i = X at *
        go_wp2_with (go_at_call 19; refine ((unhide CS) _).mono ?_; rintro e w2 ⟨rfl, hw⟩; obtain rfl := hw.symm; clear hw)
        go_roundw
        case rel => exact ⟨i + 1, by omega, by go_num, trivial⟩
        case measure => (simp [intOf] <;> omega)
      · obtain rfl : i = f := by omega
        have hbg := (unhide HB) hlt
        have CS := hide (fun W => long_any (nthS P i) W (by omega))
        generalize nthS P i = X at *
        go_wp2_with (go_at_call 19; refine ((unhide CS) _).mono ?_; rintro e w2 ⟨rfl, hw⟩; obtain rfl := hw.symm; clear hw)
        go_ret
        exact ⟨rfl, rfl⟩
    · obtain rfl : i = n := by omega
      have hI : ¬ (i : Int) < (i : Int) := by omega
      have hfe : ¬ f < i := by omega
      go_wp2_with fail
      go_ret
      exact ⟨rfl, rfl⟩
theorem contL (v : Value) (P : List ByteArray) (w : World) (hv : StrsAt w v P) (hP : P.length ≤ 1048576) (f : Nat) (hf : f ≤ P.length) (hs : ∀ i, i < f → (nthS P i).size ≤ 65536) (hb : f < P.length → 65536 < (nthS P f).size) :
    Calls Tryz.prog 28 #[v, .func (.func 19) #[] #[]] w fun e w' => e = .returned (.bool (decide (f < P.length))) ∧ w' = w := by
  have CI := hide (idxL v P w hv hP f hf hs hb)
  clear hv hs hb
  by_cases h : f < P.length
  · rw [if_pos h] at CI
    have h0 : (0 : Int) ≤ (f : Int) := by omega
    go_enter Tryz.func28, Tryz.ntmps28
    go_wp2_with (go_at_call 41; refine (unhide CI).mono ?_; rintro e w2 ⟨rfl, hw⟩; obtain rfl := hw.symm; clear hw)
    go_ret
    first | exact ⟨rfl, rfl⟩ | exact ⟨by rw [decide_eq_true h]; rfl, rfl⟩
  · rw [if_neg h] at CI
    go_enter Tryz.func28, Tryz.ntmps28
    go_wp2_with (go_at_call 41; refine (unhide CI).mono ?_; rintro e w2 ⟨rfl, hw⟩; obtain rfl := hw.symm; clear hw)
    go_ret
    first | exact ⟨rfl, rfl⟩ | exact ⟨by rw [decide_eq_false h]; rfl, rfl⟩
theorem filledI (x : ByteArray) (hx : x.size ≤ 65536) (vw : Value) (Wl : List Int) (gap : Int) (B : Nat) (w : World) (ho : w.ownsRow B 2 1 vw Wl.length (Wl.map (Value.int .i64))) (h0 : 0 ≤ gap) (h1 : gap ≤ 20)
    (hk : ∀ k, k < (cel x).length → k < Wl.length ∧ (0 ≤ Wl.getD k 0 ∧ Wl.getD k 0 ≤ 131072) ∧ 0 ≤ bk Wl (cel x) gap k) (ht : TabAt w) (hT : Wid.TabD w) :
    Calls Tryz.prog 31 #[.string x, vw, .int .i64 gap] w fun e w' => ∃ s b, e = .returned (.tuple #[.string s, .bool b]) ∧ Below w.heap.size w w' ∧ Fit Wl gap x s b := callsIn_wide.1 (filled_in x hx vw Wl gap B w ho h0 h1 hk ht hT)
set_option maxRecDepth 100000 in
set_option maxHeartbeats 8000000 in
theorem implC (v : Value) (P : List ByteArray) (gap : Int) (w : World) (hv : StrsAt w v P) (hP : P.length ≤ 1048576) (ht : TabAt w) (hT : Wid.TabD w) :
    Calls Tryz.prog 10 #[v, .int .i64 gap] w fun e w' => NewS w w' e (clm P gap) := by
  obtain ⟨k0, hk, hx0, hx1, hx2⟩ := info_parts info9
  by_cases hl : 1000 < P.length
  · have hPI : (1000 : Int) < (P.length : Int) := by omega
    have HR : Hid (clm P gap = []) := hide (if_neg (fun hf => by have := (of_decide_eq_true hf).1; omega))
    obtain ⟨va, vc, rfl, _⟩ := hv
    go_enter Tryz.func10, Tryz.ntmps10
    go_wp2_with fail
    go_ret
    exact ⟨_, rfl, by rw [unhide HR]; exact World.ownsRow_nil _ _ _ _, Below.refl _ _⟩
  have hPI : ¬ (1000 : Int) < (P.length : Int) := by omega
  obtain ⟨f, hf, hsm, hbg⟩ := firstL P P.length
  have CT := hide (contL v P w hv hP f hf hsm hbg)
  have CI := hide (fun W => withinC gap 0 20 W)
  by_cases hfl : f < P.length
  · rw [decide_eq_true hfl] at CT
    have HR : Hid (clm P gap = []) := hide (if_neg (fun hf => by have := (of_decide_eq_true hf).2.2.2.1 f hfl; have := hbg hfl; omega))
    obtain ⟨va, vc, rfl, _⟩ := hv
    clear hsm hbg
    go_enter Tryz.func10, Tryz.ntmps10
    go_wp2_with (go_at_call 28; refine (unhide CT).mono ?_; rintro e w2 ⟨rfl, hw⟩; obtain rfl := hw.symm; clear hw)
    go_ret
    exact ⟨_, rfl, by rw [unhide HR]; exact World.ownsRow_nil _ _ _ _, Below.refl _ _⟩
  rw [decide_eq_false hfl] at CT
  by_cases hg : ¬ (0 ≤ gap ∧ gap ≤ 20)
  · have hb : (decide (0 ≤ gap) && decide (gap ≤ 20)) = false := by
      cases hq : (decide (0 ≤ gap) && decide (gap ≤ 20))
      · rfl
      · rw [Bool.and_eq_true, decide_eq_true_eq, decide_eq_true_eq] at hq; exact absurd hq hg
    rw [hb] at CI
    have HR : Hid (clm P gap = []) := hide (if_neg (fun hf => by have h := of_decide_eq_true hf; exact hg ⟨h.2.1, h.2.2.1⟩))
    obtain ⟨va, vc, rfl, _⟩ := hv
    clear hsm hbg hb hg
    go_enter Tryz.func10, Tryz.ntmps10
    go_wp2_with (first | (go_at_call 28; refine (unhide CT).mono ?_; rintro e w2 ⟨rfl, hw⟩; obtain rfl := hw.symm; clear hw) | (go_at_call 29; refine ((unhide CI) _).mono ?_; rintro e w2 ⟨rfl, hw⟩; obtain rfl := hw.symm; clear hw))
    go_ret
    exact ⟨_, rfl, by rw [unhide HR]; exact World.ownsRow_nil _ _ _ _, Below.refl _ _⟩
  obtain ⟨h0, h1⟩ := Decidable.not_not.1 hg
  have hb : (decide (0 ≤ gap) && decide (gap ≤ 20)) = true := by rw [decide_eq_true h0, decide_eq_true h1]; rfl
  rw [hb] at CI
  obtain rfl : f = P.length := by omega
  have HZ := hide hsm
  have CWS := hide (widestI v P w hv (by omega) hsm ht hT)
  have HK := hide (fun i (hi : i < P.length) k (hk : k < (cel (nthS P i)).length) => (show k < (wal P P.length).length ∧ (0 ≤ (wal P P.length).getD k 0 ∧ (wal P P.length).getD k 0 ≤ 131072) ∧ 0 ≤ bk (wal P P.length) (cel (nthS P i)) gap k from by
    have a := wal_has P i P.length k hi hk
    have b := wal_bd P P.length k
    refine ⟨a.2, b, ?_⟩
    unfold bk
    omega))
  have HT := hide (And.intro ht hT)
  obtain ⟨va, vc, rfl, hva⟩ := hv
  have HVA : Hid (0 < P.length → ∃ b off, va = some ⟨b, off, none⟩ ∧ b < w.heap.size ∧ ∀ i, i < P.length → w.cell? ⟨b, off + i, none⟩ = some (.string (nthS P i))) := hide (fun h => by
    rcases hva with h0 | ⟨b, off, h1, h2, h3⟩
    · subst h0; simp at h
    · exact ⟨b, off, h1, h2, h3⟩)
  have HNO : Hid (∀ i, i < P.length → 65536 < tot (wal P P.length) gap (nthS P i) → clm P gap = []) := hide (fun i hi hb => if_neg (fun hf => by have := (of_decide_eq_true hf).2.2.2.2 i hi; omega))
  have HYES : Hid ((∀ i, i < P.length → tot (wal P P.length) gap (nthS P i) ≤ 65536) → clm P gap = out (wal P P.length) gap P P.length) := hide (fun h => if_pos (decide_eq_true ⟨by omega, h0, h1, unhide HZ, h⟩))
  clear hsm hbg hb hg hva ht hT hfl hf
  generalize wal P P.length = W at *
  obtain ⟨n, hn⟩ : ∃ n, P.length = n := ⟨_, rfl⟩
  have hn1 : n ≤ 1000 := by omega
  rw [hn] at hP hl hPI HZ CT CWS HK HVA HNO HYES ⊢
  clear hn
  go_enter Tryz.func10, Tryz.ntmps10
  go_wp2_with (first | (go_at_call 28; refine (unhide CT).mono ?_; rintro e w2 ⟨rfl, hw⟩; obtain rfl := hw.symm; clear hw) | (go_at_call 29; refine ((unhide CI) _).mono ?_; rintro e w2 ⟨rfl, hw⟩; obtain rfl := hw.symm; clear hw) | (go_at_call 30; refine (unhide CWS).mono ?_; clear CWS; rintro e w1 ⟨u, rfl, ho1, hb1⟩; have O1 := hide ho1; have B1 := hide hb1; clear ho1 hb1))
  obtain ⟨ua, uc, rfl⟩ := form_ownC (unhide O1)
  have z1 := (unhide B1).size
  go_loopw [6, 27] (fun v6 v27 wr => ∃ i : Nat, i ≤ n ∧ v27 = .int .i64 (i : Int) ∧ Hid (wr.ownsRow w1.heap.size 9 1 v6 (out W gap P i).length ((out W gap P i).map Value.string)) ∧ Hid (Below w1.heap.size w1 wr) ∧ Hid (∀ j, j < i → tot W gap (nthS P j) ≤ 65536)) (fun _ v _ => n - (intOf v).toNat)
  case atStart => exact ⟨0, by omega, rfl, hide (World.ownsRow_nil _ _ _ _), hide (Below.refl _ _), hide (fun j hj => absurd hj (by omega))⟩
  case round =>
    obtain ⟨i, hi, rfl, HO, HB, HJ⟩ := hrel
    obtain ⟨oa, oc, rfl⟩ := form_ownC (unhide HO)
    have hzr := (unhide HB).size
    by_cases hlt : i < n
    · have hI : (i : Int) < (n : Int) := by omega
      obtain ⟨b, off, rfl, hbw, hc⟩ := (unhide HVA) (by omega)
      have c0 := ((unhide B1).cell (p := ⟨b, off + i, none⟩) hbw).trans (hc i hlt)
      have c1 := ((unhide HB).cell (p := ⟨b, off + i, none⟩) (by show b < _; omega)).trans c0
      clear hc c0
      have HOU : Hid (out W gap P (i + 1) = out W gap P i ++ [row W gap (nthS P i)]) := hide rfl
      have hol := out_len W gap P i
      have HNOi := hide ((unhide HNO) i hlt)
      have HJN : Hid (tot W gap (nthS P i) ≤ 65536 → ∀ j, j < i + 1 → tot W gap (nthS P j) ≤ 65536) := hide (fun h j hj => by
        by_cases e : j = i
        · rw [e]; exact h
        · exact (unhide HJ) j (by omega))
      have OW := hide (ownsRow_below (unhide O1) (unhide HB))
      have TB := (unhide HT).1.below ((unhide B1).trans ((unhide HB).mono z1))
      have TD := (unhide HT).2.below ((unhide B1).trans ((unhide HB).mono z1))
      have CF := hide (filledI (nthS P i) ((unhide HZ) i hlt) _ W gap w.heap.size wr (unhide OW) h0 h1 ((unhide HK) i hlt) TB TD)
      clear TB TD
      generalize nthS P i = X at *
      rw [hol] at HO
      go_wp2_with fail
      refine (unhide CF).mono ?_
      rintro e w2 ⟨s, bb, rfl, hb2, hfit⟩
      have O2 := hide (ownsRow_below (unhide HO) hb2)
      have B2 := hide ((unhide HB).trans (hb2.mono hzr))
      have z2 := (unhide B2).size
      clear hb2 CF HO HB OW
      cases bb
      · have HBIG : Hid (65536 < tot W gap X) := hide (by
          rcases hfit with ⟨e, _⟩ | ⟨_, e⟩
          · cases e
          · exact e)
        have HR := hide ((unhide HNOi) (unhide HBIG))
        clear hfit
        go_wp2_with fail
        go_ret
        exact ⟨_, rfl, by rw [unhide HR]; exact World.ownsRow_nil _ _ _ _, (unhide B1).trans ((unhide B2).mono z1)⟩
      · obtain ⟨htt, hs⟩ : tot W gap X ≤ 65536 ∧ s = row W gap X := by
          rcases hfit with ⟨_, h⟩ | ⟨e, _⟩
          · exact h
          · cases e
        have HJ2 := hide ((unhide HJN) htt)
        rw [← hs] at HOU
        clear hfit htt hs
        go_wp2_with (at_builtin; refine wpList_append_own _ rfl _ _ 23 rfl w1.heap.size 9 k0 (.string ⟨#[]⟩) 1 16 Tryz.underlying23 hk hx0 hx1 hx2 rfl (by decide) _ _ _ rfl (own_allocC (unhide O2) _) ⟨w2.heap.size, 0, none⟩ 1 1 [.string s] rfl rfl (cell_one_new _ _ _) (by simp [Value.oneCell']) ?c3 ?c4 ?c5 ?_)
        case c3 => unfold maxLen; omega
        case c4 => omega
        case c5 => first | omega | (simp; omega)
        intro v' w3 ho3 hg3 _
        have hz3 : (w2.alloc (.cells #[.string s] 9)).heap.size = w2.heap.size + 1 := by simp
        have HO2 : Hid (w3.ownsRow w1.heap.size 9 1 v' (out W gap P (i + 1)).length ((out W gap P (i + 1)).map Value.string)) := hide (by
          rw [unhide HOU, List.length_append, List.map_append, hol]
          exact ho3)
        have HB3 : Hid (Below w1.heap.size w1 w3) := hide (((unhide B2).alloc z2 _).grown hg3 (by rw [hz3]; omega) (fun j hj => ((unhide O2).lt j hj).1))
        clear ho3 hg3 hz3
        go_wp2_with fail
        go_roundw
        case rel => exact ⟨i + 1, hlt, by go_num, HO2, HB3, HJ2⟩
        case measure => (simp [intOf] <;> omega)
    · obtain rfl : i = n := by omega
      have hI : ¬ (i : Int) < (i : Int) := by omega
      have HR := hide ((unhide HYES) (unhide HJ))
      go_wp2_with fail
      go_ret
      exact ⟨_, rfl, by rw [unhide HR]; exact own_baseC (unhide HO) z1, (unhide B1).trans ((unhide HB).mono z1)⟩
end Clm
end Go.Proofs.YtcdhaikmedicfaaGreatDoor
/- The law of Columns: both sides tell of every list of rows and every gap the same, and neither changes what it was handed. -/
namespace Go.Proofs.YtcdhaikmedicfaaGreatDoor
namespace Clm
open Go.RowKit
set_option linter.unusedVariables false
set_option linter.unusedSimpArgs false
theorem joinCl {w w1 w2 : World} (h : Below w.heap.size w w1) (h2 : Below w1.heap.size w1 w2) : Below w.heap.size w w2 := h.trans (h2.mono h.size)
set_option maxRecDepth 100000 in
set_option maxHeartbeats 2000000 in
theorem specC (v : Value) (P : List ByteArray) (gap : Int) (w : World) (hv : StrsAt w v P) (hP : P.length ≤ 1048576) :
    Calls Tryz.prog 11 #[v, .int .i64 gap] w fun e w' => NewS w w' e (clm P gap) := by
  have O1 : Hid ((w.alloc (.cells #[] 9)).ownsRow w.heap.size 9 1 (.slice (some ⟨w.heap.size, 0, none⟩) 0 0) ([] : List ByteArray).length (([] : List ByteArray).map Value.string)) := hide (World.ownsRow_lit w #[] 0 (Nat.le_refl _) (by unfold maxLen; omega) rfl)
  by_cases hl : 1000 < P.length
  · have hPI : (1000 : Int) < (P.length : Int) := by omega
    have HR : Hid (clm P gap = []) := hide (if_neg (fun hf => by have := (of_decide_eq_true hf).1; omega))
    obtain ⟨va, vc, rfl, _⟩ := hv
    go_enter Tryz.func11, Tryz.ntmps11
    go_wp2_with fail
    go_ret
    exact ⟨_, rfl, by rw [unhide HR]; exact unhide O1, (Below.refl _ _).alloc (Nat.le_refl _) _⟩
  have hPI : ¬ (1000 : Int) < (P.length : Int) := by omega
  by_cases h0 : gap < 0
  · have HR : Hid (clm P gap = []) := hide (if_neg (fun hf => by have := (of_decide_eq_true hf).2.1; omega))
    obtain ⟨va, vc, rfl, _⟩ := hv
    go_enter Tryz.func11, Tryz.ntmps11
    go_wp2_with fail
    go_ret
    exact ⟨_, rfl, by rw [unhide HR]; exact unhide O1, (Below.refl _ _).alloc (Nat.le_refl _) _⟩
  by_cases h1 : 20 < gap
  · have HR : Hid (clm P gap = []) := hide (if_neg (fun hf => by have := (of_decide_eq_true hf).2.2.1; omega))
    obtain ⟨va, vc, rfl, _⟩ := hv
    go_enter Tryz.func11, Tryz.ntmps11
    go_wp2_with fail
    go_ret
    exact ⟨_, rfl, by rw [unhide HR]; exact unhide O1, (Below.refl _ _).alloc (Nat.le_refl _) _⟩
  obtain ⟨f, hf, hsm, hbg⟩ := firstL P P.length
  exact colS v P gap w hv (by omega) (by omega) (by omega) f hf hbg hsm
end Clm
end Go.Proofs.YtcdhaikmedicfaaGreatDoor
