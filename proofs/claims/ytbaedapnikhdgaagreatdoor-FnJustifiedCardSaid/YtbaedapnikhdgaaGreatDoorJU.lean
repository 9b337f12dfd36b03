/- Several texts in one. -/
import Derived.Test.YtbaedapnikhdgaaGreatDoorND
import Derived.Lib.RepeatB
import Derived.Deep.Cut
import Derived.WalkSmall
import Derived.Test.YtbaedapnikhdgaaGreatDoorWL
import Derived.Lib.BufferRead
import Derived.Test.YtbaedapnikhdgaaGreatDoorBase
import Derived.Test.YtbaedapnikhdgaaGreatDoorShelfB
import Derived.Shelf.Strings.Builder1
import Derived.Test.YtbaedapnikhdgaaGreatDoorShelfP
import Derived.Test.YtbaedapnikhdgaaGreatDoorCloS
import Derived.Shelf.Strings.Repeat
import Derived.BigQuiet
/- A line made as wide as asked for, in plain numbers and texts. -/
namespace Go.Proofs.YtbaedapnikhdgaaGreatDoor
namespace Jus
open Go.RowKit
set_option linter.unusedVariables false
/-- Whether a row of blanks ends ahead of a place, with something ahead of it. -/
def gap (x : ByteArray) (i : Nat) : Bool := !(decide (∀ j, j < i → bt x j = 32)) && (decide (bt x (i - 1) = 32) && !decide (bt x i = 32))
def gps (x : ByteArray) : Nat → List Int
  | 0 => []
  | i + 1 => if gap x i = true then gps x i ++ [(i : Int)] else gps x i
theorem gps_none {x : ByteArray} {k : Nat} (h : ∀ j, j < k → bt x j = 32) : ∀ i, i ≤ k + 1 → gps x i = []
  | 0, _ => rfl
  | i + 1, hi => by
    have g : gap x i = false := by
      unfold gap
      rw [decide_eq_true (show ∀ j, j < i → bt x j = 32 from fun j hj => h j (by omega))]
      rfl
    rw [gps, g]
    exact gps_none h i (by omega)
theorem gps_yes {x : ByteArray} {i : Nat} (h : gap x i = true) : gps x (i + 1) = gps x i ++ [(i : Int)] := if_pos h
theorem gps_no {x : ByteArray} {i : Nat} (h : gap x i = false) : gps x (i + 1) = gps x i := if_neg (by rw [h]; decide)
theorem gap_of {x : ByteArray} {i j : Nat} (hj : j < i) (h : bt x j ≠ 32) : gap x i = (decide (bt x (i - 1) = 32) && !decide (bt x i = 32)) := by
  unfold gap
  rw [decide_eq_false (show ¬ ∀ j, j < i → bt x j = 32 from fun c => h (c j hj))]
  rfl
theorem gap_not {x : ByteArray} {i : Nat} (h : ∀ j, j < i → bt x j = 32) : gap x i = false := by
  unfold gap
  rw [decide_eq_true h]
  rfl
theorem gap_pos {x : ByteArray} {i : Nat} (h : gap x i = true) : 1 ≤ i := by
  cases i with
  | zero => rw [gap_not (fun j hj => absurd hj (by omega))] at h; cases h
  | succ i => omega
theorem gps_len (x : ByteArray) (i : Nat) : (gps x i).length ≤ i := by
  induction i with
  | zero => exact Nat.le_refl _
  | succ i ih =>
    rw [gps]
    split
    · rw [List.length_append]; simp; omega
    · omega
/-- Where the m-th stretch begins. -/
def fr (G : List Int) (m : Nat) : Nat := if m = 0 then 0 else (nth G (m - 1)).toNat
theorem nth_app1 (L : List Int) (y : Int) (k : Nat) (h : k < L.length) : nth (L ++ [y]) k = nth L k := by
  unfold nth
  rw [List.getD_eq_getElem?_getD, List.getElem?_append_left h, ← List.getD_eq_getElem?_getD]
theorem nth_app2 (L : List Int) (y : Int) : nth (L ++ [y]) L.length = y := by
  unfold nth
  simp [List.getD_eq_getElem?_getD]
theorem gps_up (x : ByteArray) : ∀ i m, m < (gps x i).length → ∃ g : Nat, nth (gps x i) m = (g : Int) ∧ fr (gps x i) m ≤ g ∧ g < i
  | 0, m, h => absurd h (by simp [gps])
  | i + 1, m, h => by
    have ih := gps_up x i
    by_cases c : gap x i = true
    · rw [gps_yes c] at h ⊢
      rw [List.length_append] at h
      by_cases e : m = (gps x i).length
      · subst e
        refine ⟨i, nth_app2 _ _, ?_, by omega⟩
        unfold fr
        split
        · omega
        · rename_i h0
          rw [nth_app1 _ _ _ (by omega)]
          obtain ⟨g, h1, h2, h3⟩ := ih ((gps x i).length - 1) (by omega)
          rw [h1]
          omega
      · have hm : m < (gps x i).length := by simp at h; omega
        obtain ⟨g, h1, h2, h3⟩ := ih m hm
        refine ⟨g, by rw [nth_app1 _ _ _ hm]; exact h1, ?_, by omega⟩
        unfold fr at h2 ⊢
        split
        · omega
        · rw [nth_app1 _ _ _ (by omega)]
          rw [if_neg (by assumption)] at h2
          exact h2
    · have c' : gap x i = false := by simpa using c
      rw [gps_no c'] at h ⊢
      obtain ⟨g, h1, h2, h3⟩ := ih m h
      exact ⟨g, h1, h2, by omega⟩
/-- Blanks. -/
def bla (k : Nat) : ByteArray := ⟨(List.replicate k (32 : UInt8)).toArray⟩
theorem bla_size (k : Nat) : (bla k).size = k := by
  show (List.replicate k (32 : UInt8)).toArray.size = k
  simp
theorem bla_add (a b : Nat) : bla a ++ bla b = bla (a + b) := by
  apply ByteArray.ext
  rw [ByteArray.data_append]
  unfold bla
  simp
theorem bla_zero (x : ByteArray) : x ++ bla 0 = x := by
  apply ByteArray.ext
  rw [ByteArray.data_append]
  unfold bla
  simp
/-- The text up to the m-th place, blanks put in. -/
def jo (x : ByteArray) (G : List Int) (e r : Nat) : Nat → ByteArray
  | 0 => ⟨#[]⟩
  | m + 1 => jo x G e r m ++ x.extract (fr G m) (nth G m).toNat ++ bla (if m < r then e + 1 else e)
def jus (x : ByteArray) (G : List Int) (e r : Nat) : ByteArray := jo x G e r G.length ++ x.extract (fr G G.length) x.size
theorem jo_next (x : ByteArray) (G : List Int) (e r m : Nat) : jo x G e r (m + 1) = jo x G e r m ++ x.extract (fr G m) (nth G m).toNat ++ bla (if m < r then e + 1 else e) := rfl
theorem jo_more {x : ByteArray} {G : List Int} {e r m : Nat} (h : m < r) : jo x G e r (m + 1) = jo x G e r m ++ x.extract (fr G m) (nth G m).toNat ++ bla e ++ bla 1 := by
  rw [jo_next, if_pos h, ByteArray.append_assoc, ByteArray.append_assoc, ByteArray.append_assoc, bla_add]
theorem jo_less {x : ByteArray} {G : List Int} {e r m : Nat} (h : ¬ m < r) : jo x G e r (m + 1) = jo x G e r m ++ x.extract (fr G m) (nth G m).toNat ++ bla e := by
  rw [jo_next, if_neg h]
theorem fr_next (G : List Int) (m : Nat) : fr G (m + 1) = (nth G m).toNat := by
  unfold fr
  rw [if_neg (by omega)]
  rfl
theorem ext_add (x : ByteArray) (a b : Nat) (h : a ≤ b) : x.extract 0 a ++ x.extract a b = x.extract 0 b := by
  rw [ByteArray.extract_append_extract]
  congr 1 <;> omega
theorem ext_all (x : ByteArray) : x.extract 0 x.size = x := ByteArray.extract_zero_size
theorem jo_zero (x : ByteArray) (i : Nat) : ∀ m, m ≤ (gps x i).length → jo x (gps x i) 0 0 m = x.extract 0 (fr (gps x i) m)
  | 0, _ => by
    apply ByteArray.ext
    simp [jo, fr]
  | m + 1, h => by
    obtain ⟨g, h1, h2, h3⟩ := gps_up x i m (by omega)
    rw [jo_less (by omega), jo_zero x i m (by omega), bla_zero, fr_next, h1]
    exact ext_add x _ _ (by omega)
theorem jus_zero (x : ByteArray) (hx : 0 < x.size) : jus x (gps x x.size) 0 0 = x := by
  unfold jus
  rw [jo_zero x x.size _ (Nat.le_refl _)]
  have hf : fr (gps x x.size) (gps x x.size).length ≤ x.size := by
    unfold fr
    split
    · omega
    · obtain ⟨g, h1, h2, h3⟩ := gps_up x x.size ((gps x x.size).length - 1) (by omega)
      rw [h1]
      omega
  rw [ext_add x _ _ hf, ext_all]
theorem fr_le (x : ByteArray) (m : Nat) (h : m ≤ (gps x x.size).length) : fr (gps x x.size) m ≤ x.size := by
  unfold fr
  split
  · omega
  · obtain ⟨g, h1, h2, h3⟩ := gps_up x x.size (m - 1) (by omega)
    rw [h1]
    omega
theorem jo_size (x : ByteArray) (e r : Nat) : ∀ m, m ≤ (gps x x.size).length → (jo x (gps x x.size) e r m).size ≤ fr (gps x x.size) m + m * (e + 1)
  | 0, _ => Nat.zero_le _
  | m + 1, h => by
    obtain ⟨g, h1, h2, h3⟩ := gps_up x x.size m (by omega)
    have ih := jo_size x e r m (by omega)
    rw [jo_next, ByteArray.size_append, ByteArray.size_append, ByteArray.size_extract, bla_size, fr_next, h1, Nat.succ_mul]
    have hb : (if m < r then e + 1 else e) ≤ e + 1 := by split <;> omega
    have ht : (g : Int).toNat = g := rfl
    rw [ht]
    omega
theorem rep_bla (k : Nat) : (⟨(Lib.repeatL [32] k).toArray⟩ : ByteArray) = bla k := by
  unfold bla
  congr 2
  induction k with
  | zero => rfl
  | succ k ih => simp [Lib.repeatL, ih, List.replicate_succ]
end Jus
end Go.Proofs.YtbaedapnikhdgaaGreatDoor
/- A line made as wide as asked for, as the program does it: how many points, the places for blanks. -/
namespace Go.Proofs.YtbaedapnikhdgaaGreatDoor
namespace Jus
open Go.RowKit
set_option linter.unusedVariables false
set_option linter.unusedSimpArgs false
set_option maxRecDepth 100000 in
set_option maxHeartbeats 1000000 in
theorem countJ (s : ByteArray) (w : World) (hs : s.size ≤ 65536) : Calls Tryz.prog 34 #[.string s] w fun e w' => e = .returned (.int .i64 ((pts s).length : Int)) ∧ Below w.heap.size w w' := by
  have HB0 : Hid (Below w.heap.size w (w.iter s 0)) := hide ((Below.refl _ _).alloc (Nat.le_refl _) _)
  have HI0 : Hid ((w.iter s 0).heap[w.heap.size]? = some (.stringIter s 0)) := hide (World.iter_heap w s 0)
  go_enter Tryz.func34, Tryz.ntmps34
  go_wp2
  go_loopw [2] (fun v wr => ∃ (n : Nat) (L : List Int) (pos : Nat), v = .int .i64 (L.length : Int) ∧ Hid (steps s n = (L, pos)) ∧ pos ≤ s.size ∧ L.length ≤ pos ∧ Hid (wr.heap[w.heap.size]? = some (.stringIter s pos)) ∧ Hid (Below w.heap.size w wr)) (fun _ wr => s.size - wr.iterPos w.heap.size)
  case atStart => exact ⟨0, [], 0, rfl, hide rfl, by omega, by simp, HI0, HB0⟩
  case round =>
    obtain ⟨n, L, pos, rfl, HS, hpos, hL, HI, HB⟩ := hrel
    clear HB0 HI0
    have HM := hide (iterPos_of (unhide HI))
    by_cases hlt : pos < s.size
    · have hbd := dN_bd s pos hlt
      have d1 := hbd.1
      have d2 := hbd.2.1
      have hBs := (unhide HB).size
      have HS' := hide (pts_step (unhide HS) hlt)
      have hnx : ∀ ty, (Instr.next (.pointer (some ⟨w.heap.size, 0, none⟩)) true ty).run Tryz.prog wr = .ok (.tuple #[.bool true, .int .i64 pos, .int .i32 (dP s pos)]) (wr.iterAt w.heap.size s (pos + dN s pos)) := fun ty => Lib.run_next_any_at wr _ s pos ty (unhide HI) hlt
      obtain ⟨w2, hw2⟩ : ∃ w2, wr.iterAt w.heap.size s (pos + dN s pos) = w2 := ⟨_, rfl⟩
      rw [hw2] at hnx
      have HI2 : Hid (w2.heap[w.heap.size]? = some (.stringIter s (pos + dN s pos))) := hide (by rw [← hw2]; exact Lib.iterAt_heap wr _ s pos _ (unhide HI))
      have HB2 : Hid (Below w.heap.size w w2) := hide (by rw [← hw2]; exact Lib.below_iterAt (unhide HB) (Nat.le_refl _) _ _)
      have HM3 := hide (iterPos_of (unhide HI2))
      clear hbd hw2
      go_wp2
      go_roundw
      case rel => exact ⟨n + 1, L ++ [(dP s pos : Int)], pos + dN s pos, by simp, HS', by omega, by simp; omega, HI2, HB2⟩
      case measure => rw [unhide HM, unhide HM3]; omega
    · have hnx : ∀ ty, (Instr.next (.pointer (some ⟨w.heap.size, 0, none⟩)) true ty).run Tryz.prog wr = .ok (.tuple #[.bool false]) wr := fun ty => Lib.run_next_end_at wr _ s pos ty (unhide HI) hlt
      have e := steps_pts s n (by rw [unhide HS]; show s.size ≤ pos; omega)
      rw [unhide HS] at e
      have e' : L = pts s := e
      have HL := hide (congrArg List.length e')
      clear e e'
      go_wp2
      go_ret
      exact ⟨by rw [← unhide HL]; rfl, unhide HB⟩
set_option maxRecDepth 100000 in
theorem shortJ (s : ByteArray) (w : World) (hle : ¬ (65536 : Int) < (s.size : Int)) : Calls Tryz.prog 25 #[.string s] w fun e w' => e = .returned (.bool false) ∧ w' = w := by
  go_enter Tryz.func25, Tryz.ntmps25
  go_wp2
  go_ret
  exact ⟨rfl, rfl⟩
set_option maxRecDepth 100000 in
theorem longJ (s : ByteArray) (w : World) (hle : (65536 : Int) < (s.size : Int)) : Calls Tryz.prog 25 #[.string s] w fun e w' => e = .returned (.bool true) ∧ w' = w := by
  go_enter Tryz.func25, Tryz.ntmps25
  go_wp2
  go_ret
  exact ⟨rfl, rfl⟩
def few (x : ByteArray) : Bool := decide (x.size ≤ 65536) && decide ((pts x).length ≤ 1000)
set_option maxRecDepth 100000 in
set_option maxHeartbeats 2000000 in
theorem manyJ (x : ByteArray) (w : World) : Calls Tryz.prog 14 #[.string x] w fun e w' => e = .returned (.bool (!few x)) ∧ Below w.heap.size w w' := by
  by_cases h : 65536 < x.size
  · have hgt : (65536 : Int) < (x.size : Int) := by omega
    have HR : Hid (few x = false) := hide (by unfold few; rw [decide_eq_false (by omega)]; rfl)
    have CL := hide (fun W => longJ x W hgt)
    go_enter Tryz.func14, Tryz.ntmps14
    go_wp2_with (go_at_call 25; refine ((unhide CL) _).mono ?_; clear CL; rintro e W1 ⟨rfl, hw1⟩; obtain rfl := hw1.symm; clear hw1)
    go_ret
    exact ⟨by rw [unhide HR]; rfl, Below.refl _ _⟩
  · have hgt : ¬ (65536 : Int) < (x.size : Int) := by omega
    have HR : Hid (few x = decide ((pts x).length ≤ 1000)) := hide (by unfold few; rw [decide_eq_true (by omega)]; rfl)
    have CL := hide (fun W => shortJ x W hgt)
    have CC := hide (fun W => countJ x W (by omega))
    generalize (pts x).length = n at *
    by_cases hn : n ≤ 1000
    · have hnI : ¬ (1000 : Int) < (n : Int) := by omega
      go_enter Tryz.func14, Tryz.ntmps14
      go_wp2_with (first | (go_at_call 25; refine ((unhide CL) _).mono ?_; rintro e W1 ⟨rfl, hw1⟩; obtain rfl := hw1.symm; clear hw1) | (go_at_call 34; refine ((unhide CC) _).mono ?_; rintro e W1 ⟨rfl, hb1⟩))
      go_ret
      refine ⟨?_, hb1⟩
      rw [unhide HR, decide_eq_true hn]
      show Ending.returned (.bool (decide ((1000 : Int) < (n : Int)))) = _
      rw [decide_eq_false (by omega)]
      rfl
    · have hnI : (1000 : Int) < (n : Int) := by omega
      go_enter Tryz.func14, Tryz.ntmps14
      go_wp2_with (first | (go_at_call 25; refine ((unhide CL) _).mono ?_; rintro e W1 ⟨rfl, hw1⟩; obtain rfl := hw1.symm; clear hw1) | (go_at_call 34; refine ((unhide CC) _).mono ?_; rintro e W1 ⟨rfl, hb1⟩))
      go_ret
      refine ⟨?_, hb1⟩
      rw [unhide HR, decide_eq_false hn]
      rfl
/-- So many blanks lead a text. -/
def Ld (x : ByteArray) (k : Nat) : Prop := (∀ j, j < k → bt x j = 32) ∧ k ≤ x.size ∧ (k = x.size ∨ bt x k ≠ 32)
theorem bt_ext (x : ByteArray) (k i : Nat) (h : k + i < x.size) : bt (x.extract k x.size) i = bt x (k + i) := by
  unfold bt
  congr 1
  obtain ⟨⟨l⟩⟩ := x
  have h' : k + i < l.length := h
  show ((⟨⟨l⟩⟩ : ByteArray).extract k l.length).data[i]! = (⟨l⟩ : Array UInt8)[k + i]!
  rw [ByteArray.data_extract]
  simp [List.getElem?_take, List.getElem?_drop, show i < l.length - k by omega, h']
def szOf : Value → Nat
  | .string y => y.size
  | _ => 0
set_option maxRecDepth 100000 in
set_option maxHeartbeats 4000000 in
theorem trimJ (x : ByteArray) (w : World) : Calls Tryz.prog 57 #[.string x, .int .u8 32] w fun e w' => (∃ z, e = .returned (.string z) ∧ ∃ k, Ld x k ∧ z.size + k = x.size) ∧ w' = w := by
  go_enter Tryz.func57, Tryz.ntmps57
  go_wp2_with fail
  go_loopw [0] (fun v0 wr => ∃ (y : ByteArray) (k : Nat), v0 = .string y ∧ Hid (y = x.extract k x.size) ∧ Hid (∀ j, j < k → bt x j = 32) ∧ y.size + k = x.size ∧ wr = w) (fun v _ => szOf v)
  case atStart => exact ⟨x, 0, rfl, hide ByteArray.extract_zero_size.symm, hide (fun j hj => absurd hj (by omega)), by omega, rfl⟩
  case round =>
    obtain ⟨y, k, rfl, HY, HL, hk, hw⟩ := hrel
    obtain rfl := hw.symm
    clear hw
    by_cases h0 : 0 < y.size
    · have h0I : (0 : Int) < (y.size : Int) := by omega
      have hb : bt y 0 = bt x k := by
        have h1 := bt_ext x k 0 (by omega)
        rw [← unhide HY] at h1
        exact h1
      have f0 := fun h => bt_get y 0 h
      have HB := hide hb
      clear hb
      generalize bt y 0 = b at *
      by_cases hc : b = 32
      · have hc1 : ((b : Int) == 32) = true := by rw [hc]; rfl
        have HL2 : Hid (∀ j, j < k + 1 → bt x j = 32) := hide (fun j hj => by
          by_cases e : j = k
          · rw [e, ← unhide HB]; exact hc
          · exact (unhide HL) j (by omega))
        have HY2 : Hid (y.extract 1 y.size = x.extract (k + 1) x.size) := hide (by
          have h1 := unhide HY
          rw [h1, ByteArray.extract_extract]
          rw [h1] at hk
          congr 1
          omega)
        have hs : (y.extract 1 y.size).size = y.size - 1 := by rw [ByteArray.size_extract]; omega
        have HS := hide hs
        clear hc hs
        go_wp2_with fail
        go_roundw
        case rel => exact ⟨_, k + 1, rfl, HY2, HL2, by rw [unhide HS]; omega, trivial⟩
        case measure =>
          show (y.extract 1 y.size).size < y.size
          rw [unhide HS]
          omega
      · have hc1 : ((b : Int) == 32) = false := by
          rw [beq_eq_false_iff_ne]
          omega
        have HE : Hid (Ld x k) := hide ⟨unhide HL, by omega, .inr (by rw [← unhide HB]; exact hc)⟩
        clear hc
        go_wp2_with fail
        go_ret
        refine ⟨?_, rfl⟩
        exact ⟨y, rfl, k, unhide HE, hk⟩
    · have h0I : ¬ (0 : Int) < (y.size : Int) := by omega
      have HE : Hid (Ld x k) := hide ⟨unhide HL, by omega, .inl (by omega)⟩
      go_wp2_with fail
      go_ret
      refine ⟨?_, rfl⟩
      exact ⟨y, rfl, k, unhide HE, hk⟩
set_option maxRecDepth 100000 in
set_option maxHeartbeats 4000000 in
theorem trimL (x : ByteArray) (w : World) : Calls Tryz.prog 35 #[.string x, .string ⟨#[32]⟩] w fun e w' => (∃ z, e = .returned (.string z) ∧ ∃ k, Ld x k ∧ z.size + k = x.size) ∧ w' = w := by
  have CT := hide (fun W => trimJ x W)
  by_cases h0 : x.size = 0
  · have he : x.toList.isEmpty = true := by rw [List.isEmpty_iff_length_eq_zero, Lib.toList_data]; exact h0
    have HL : Hid (Ld x 0) := hide ⟨fun j hj => absurd hj (by omega), by omega, .inl h0.symm⟩
    go_enter Tryz.func35, Tryz.ntmps35
    go_wp2_with (go_at_call 57; refine ((unhide CT) _).mono ?_; rintro e w1 ⟨⟨z, rfl, k, hl, hz⟩, hw⟩; obtain rfl := hw.symm; clear hw)
    all_goals first
      | (go_ret; exact ⟨⟨x, rfl, 0, unhide HL, by omega⟩, rfl⟩)
      | (go_ret; exact ⟨⟨z, rfl, k, hl, hz⟩, rfl⟩)
  · have he : x.toList.isEmpty = false := by
      cases hh : x.toList.isEmpty
      · rfl
      · rw [List.isEmpty_iff_length_eq_zero, Lib.toList_data] at hh; exact absurd hh h0
    go_enter Tryz.func35, Tryz.ntmps35
    go_wp2_with (go_at_call 57; refine ((unhide CT) _).mono ?_; rintro e w1 ⟨⟨z, rfl, k, hl, hz⟩, hw⟩; obtain rfl := hw.symm; clear hw)
    all_goals (go_ret; exact ⟨⟨z, rfl, k, hl, hz⟩, rfl⟩)
end Jus
end Go.Proofs.YtbaedapnikhdgaaGreatDoor
/- The places for blanks: both sides. -/
namespace Go.Proofs.YtbaedapnikhdgaaGreatDoor
namespace Jus
open Go.RowKit
set_option linter.unusedVariables false
set_option linter.unusedSimpArgs false
theorem infoW3 : (Tryz.prog.info? 3).map (fun i => (i.zero, i.size, i.bytes)) = some (some (.int .i64 0), 1, 8) := by kernel_rfl
def NewW (w w' : World) (e : Ending) (l : List Int) : Prop := ∃ v, e = .returned v ∧ w'.ownsRow w.heap.size 3 1 v l.length (l.map (Value.int .i64)) ∧ Below w.heap.size w w'
theorem own_allocJ {w : World} {base : Nat} {e : TypeId} {v : Value} {n : Nat} {xs : List Value} (h : w.ownsRow base e 1 v n xs) (o : Obj) : (w.alloc o).ownsRow base e 1 v n xs :=
  ownsRow_below h ((Below.refl _ _).alloc (Nat.le_refl _) o)
theorem row_stepJ {w wr w2 : World} {base : Nat} {e : TypeId} {v v' : Value} {L : List Int} {p : Int} {o : Obj} (hb : Below base w wr) (hB : base ≤ wr.heap.size)
    (ho : wr.ownsRow base e 1 v L.length (L.map (Value.int .i64)))
    (ho2 : w2.ownsRow base e 1 v' (L.length + 1) (L.map (Value.int .i64) ++ [.int .i64 p])) (hg : (wr.alloc o).grownBy w2 v.ownBlock) :
    w2.ownsRow base e 1 v' (L ++ [p]).length ((L ++ [p]).map (Value.int .i64)) ∧ Below base w w2 := by
  refine ⟨?_, (hb.alloc hB o).grown hg (by simp; omega) (fun j hj => (ho.lt j hj).1)⟩
  rw [List.length_append, List.map_append]
  exact ho2
theorem form_ownJ {w : World} {B n : Nat} {e : TypeId} {v : Value} {xs : List Value} (h : w.ownsRow B e 1 v n xs) : ∃ a cap, v = .slice a n cap := by
  rcases h.2 with ⟨rfl, rfl⟩ | ⟨g, cap, cur, rfl, _⟩
  · exact ⟨_, _, rfl⟩
  · exact ⟨_, _, rfl⟩
set_option maxRecDepth 100000 in
set_option maxHeartbeats 4000000 in
theorem placesJ (x : ByteArray) (hx : x.size ≤ 65536) (w : World) : Calls Tryz.prog 16 #[.string x] w fun e w' => NewW w w' e (gps x x.size) := by
  obtain ⟨i0, hi, hz0, hz1, hz2⟩ := info_parts infoW3
  have CT := hide (fun W => trimL x W)
  go_enter Tryz.func16, Tryz.ntmps16
  go_wp2_with (go_at_call 35; refine ((unhide CT) _).mono ?_; rintro e w1 ⟨⟨z, rfl, k, hl, hz⟩, hw⟩; obtain rfl := hw.symm; clear hw; have HLD := hide hl; have hkx : k ≤ x.size := hl.2.1; have hkI : (x.size : Int) - (z.size : Int) = (k : Int) := (by omega); have HZ := hide hz; clear hl hz)
  obtain ⟨a0, ha0⟩ : ∃ a0, k + 1 = a0 := ⟨_, rfl⟩
  have ha0I : (k : Int) + 1 = (a0 : Int) := by omega
  have HG0 : Hid (gps x a0 = []) := hide (gps_none (unhide HLD).1 a0 (by omega))
  have O0 : Hid (w.ownsRow w.heap.size 3 1 (.slice none 0 0) (gps x a0).length ((gps x a0).map (Value.int .i64))) := hide (by rw [unhide HG0]; exact ⟨rfl, .inl ⟨rfl, rfl⟩⟩)
  have HA0 := hide ha0
  have HAI := hide ha0I
  clear ha0 ha0I
  go_loopw [4, 5] (fun v4 v5 wr => ∃ a : Nat, v5 = .int .i64 (a : Int) ∧ a0 ≤ a ∧ (a ≤ x.size ∨ a = a0) ∧ Hid (wr.ownsRow w.heap.size 3 1 v4 (gps x a).length ((gps x a).map (Value.int .i64))) ∧ Hid (Below w.heap.size w wr)) (fun _ v _ => x.size - (intOf v).toNat)
  case atStart => exact ⟨a0, by rw [← unhide HAI], by omega, .inr rfl, O0, hide (Below.refl _ _)⟩
  case round =>
    obtain ⟨a, rfl, h1, h2, HO, HB⟩ := hrel
    have hgl := gps_len x a
    obtain ⟨va, vc, rfl⟩ := form_ownJ (unhide HO)
    have hsz := (unhide HB).size
    by_cases hlt : a < x.size
    · have hI : (a : Int) < (x.size : Int) := by omega
      have HK := unhide HA0
      obtain ⟨r, hr⟩ : ∃ r, a - 1 = r := ⟨_, rfl⟩
      have hrI : (a : Int) - 1 = (r : Int) := by omega
      have hrx : (r : Int) < (x.size : Int) := by omega
      have hk9 : bt x k ≠ 32 := by
        rcases (unhide HLD).2.2 with h | h
        · omega
        · exact h
      have HGP := hide (gap_of (x := x) (i := a) (j := k) (by omega) hk9)
      rw [hr] at HGP
      have f1 := fun h => bt_get x r h
      have f2 := fun h => bt_get x a h
      clear HK hr hk9 h2
      generalize bt x r = b1 at *
      generalize bt x a = b2 at *
      by_cases c1 : b1 = 32
      · have c1b : ((b1 : Int) == 32) = true := by rw [c1]; rfl
        by_cases c2 : b2 = 32
        · have c2b : ((b2 : Int) == 32) = true := by rw [c2]; rfl
          have c2n : ((b2 : Int) != 32) = false := by simp [bne, c2b]
          have HN : Hid (gps x (a + 1) = gps x a) := hide (gps_no (by rw [unhide HGP, decide_eq_true c1, decide_eq_true c2]; rfl))
          clear c1 c2
          go_wp2_with fail
          go_roundw
          case rel => exact ⟨a + 1, by go_num, by omega, .inl (by omega), hide (by rw [unhide HN]; exact unhide HO), HB⟩
          case measure => (simp [intOf] <;> omega)
        · have c2b : ((b2 : Int) == 32) = false := by rw [beq_eq_false_iff_ne]; omega
          have c2n : ((b2 : Int) != 32) = true := by simp [bne, c2b]
          have HN : Hid (gps x (a + 1) = gps x a ++ [(a : Int)]) := hide (gps_yes (by rw [unhide HGP, decide_eq_true c1, decide_eq_false c2]; rfl))
          clear c1 c2
          go_wp2_with (at_builtin; refine wpList_append_own _ rfl _ _ 37 rfl w.heap.size 3 i0 (.int .i64 0) 1 8 Tryz.underlying37 hi hz0 hz1 hz2 rfl (by decide) _ _ _ rfl (own_allocJ (unhide HO) _) ⟨wr.heap.size, 0, none⟩ 1 1 [.int .i64 (a : Int)] rfl rfl ?c1 ?c2 ?c3 ?c4 ?c5 ?_)
          case c1 => exact cell_one_new _ _ _
          case c2 => intro u hu; simp at hu; subst hu; rfl
          case c3 => unfold maxLen; omega
          case c4 => omega
          case c5 => simp; omega
          intro v' w3 hown' hgrow _
          have R := row_stepJ (unhide HB) hsz (unhide HO) hown' hgrow
          rw [← unhide HN] at R
          have R1 := hide R.1
          have R2 := hide R.2
          clear hown' hgrow R
          go_wp2_with fail
          go_roundw
          case rel => exact ⟨a + 1, by go_num, by omega, .inl (by omega), R1, R2⟩
          case measure => (simp [intOf] <;> omega)
      · have c1b : ((b1 : Int) == 32) = false := by rw [beq_eq_false_iff_ne]; omega
        have HN : Hid (gps x (a + 1) = gps x a) := hide (gps_no (by rw [unhide HGP, decide_eq_false c1]; rfl))
        clear c1
        go_wp2_with fail
        go_roundw
        case rel => exact ⟨a + 1, by go_num, by omega, .inl (by omega), hide (by rw [unhide HN]; exact unhide HO), HB⟩
        case measure => (simp [intOf] <;> omega)
    · have hI : ¬ (a : Int) < (x.size : Int) := by omega
      have HE : Hid (gps x x.size = gps x a) := hide (by
        rcases h2 with h2 | h2
        · rw [show a = x.size by omega]
        · subst h2
          rw [unhide HG0]
          exact gps_none (unhide HLD).1 _ (by have := unhide HA0; omega))
      go_wp2_with fail
      go_ret
      rw [unhide HE]
      exact ⟨_, rfl, unhide HO, unhide HB⟩
set_option maxRecDepth 100000 in
set_option maxHeartbeats 4000000 in
theorem gapsS (x : ByteArray) (hx : x.size ≤ 65536) (w : World) : Calls Tryz.prog 22 #[.string x] w fun e w' => NewW w w' e (gps x x.size) := by
  obtain ⟨i0, hi, hz0, hz1, hz2⟩ := info_parts infoW3
  have O0 : Hid ((w.alloc (.cells #[] 3)).ownsRow w.heap.size 3 1 (.slice (some ⟨w.heap.size, 0, none⟩) 0 0) (gps x 1).length ((gps x 1).map (Value.int .i64))) := hide (by
    rw [gps_none (x := x) (k := 0) (fun j hj => absurd hj (by omega)) 1 (by omega)]
    exact World.ownsRow_lit w #[] 0 (Nat.le_refl _) (by unfold maxLen; omega) rfl)
  have B0 : Hid (Below w.heap.size w (w.alloc (.cells #[] 3))) := hide ((Below.refl _ _).alloc (Nat.le_refl _) _)
  go_enter Tryz.func22, Tryz.ntmps22
  go_wp2_with fail
  go_loopw [3, 4] (fun v3 v4 wr => ∃ a : Nat, v4 = .int .i64 (a : Int) ∧ 1 ≤ a ∧ (a ≤ x.size ∨ a = 1) ∧ Hid (wr.ownsRow w.heap.size 3 1 v3 (gps x a).length ((gps x a).map (Value.int .i64))) ∧ Hid (Below w.heap.size w wr)) (fun _ v _ => x.size - (intOf v).toNat)
  case atStart => exact ⟨1, rfl, by omega, .inr rfl, O0, B0⟩
  case round =>
    obtain ⟨a, rfl, h1, h2, HO, HB⟩ := hrel
    have hgl := gps_len x a
    obtain ⟨va, vc, rfl⟩ := form_ownJ (unhide HO)
    have hsz := (unhide HB).size
    by_cases hlt : a < x.size
    · have hI : (a : Int) < (x.size : Int) := by omega
      obtain ⟨r, hr⟩ : ∃ r, a - 1 = r := ⟨_, rfl⟩
      have hrI : (a : Int) - 1 = (r : Int) := by omega
      have hrx : (r : Int) < (x.size : Int) := by omega
      have f1 := fun h => bt_get x r h
      have f2 := fun h => bt_get x a h
      have HF : Hid (∀ j h, (x[j]'h).toNat = bt x j) := hide (fun j h => bt_get x j h)
      have HGP : Hid (∀ j, j < a → bt x j ≠ 32 → gap x a = (decide (bt x r = 32) && !decide (bt x a = 32))) := hide (fun j hj hb => by rw [gap_of hj hb, hr])
      have HGN : Hid (¬ (bt x r = 32 ∧ ¬ bt x a = 32) → gap x a = false) := hide (fun h => by
        unfold gap
        rw [hr]
        by_cases p : bt x r = 32
        · by_cases q : bt x a = 32
          · simp [p, q]
          · exact absurd ⟨p, q⟩ h
        · simp [p])
      have HRA : Hid (r + 1 = a) := hide (by omega)
      clear hr h2
      generalize hb1 : bt x r = b1 at *
      generalize hb2 : bt x a = b2 at *
      by_cases c1 : b1 = 32
      · have c1b : ((b1 : Int) != 32) = false := by rw [c1]; rfl
        by_cases c2 : b2 = 32
        · have c2b : ((b2 : Int) == 32) = true := by rw [c2]; rfl
          have HN : Hid (gps x (a + 1) = gps x a) := hide (gps_no ((unhide HGN) (fun h => h.2 c2)))
          clear c1 c2 hb1 hb2
          go_wp2_with fail
          go_roundw
          case rel => exact ⟨a + 1, by go_num, by omega, .inl (by omega), hide (by rw [unhide HN]; exact unhide HO), HB⟩
          case measure => (simp [intOf] <;> omega)
        · have c2b : ((b2 : Int) == 32) = false := by rw [beq_eq_false_iff_ne]; omega
          have HY : Hid (∀ j, j < a → bt x j ≠ 32 → gps x (a + 1) = gps x a ++ [(a : Int)]) := hide (fun j hj hb => gps_yes (by rw [(unhide HGP) j hj hb, decide_eq_true c1, decide_eq_false c2]; rfl))
          have HZ : Hid ((∀ j, j < a → bt x j = 32) → gps x (a + 1) = gps x a) := hide (fun h => gps_no (gap_not h))
          have HB1 : Hid (∀ j, j = r → bt x j = 32) := hide (fun j e => by rw [e, hb1]; exact c1)
          clear c1 c2 hb1 hb2 HGP HGN
          go_wp2_with fail
          clear f1 f2
          go_loopw [5] (fun v5 wk => ∃ (k : Nat) (c : Int), v5 = .int .i64 c ∧ Hid (c = (k : Int) - 1) ∧ -1 ≤ c ∧ k ≤ a ∧ Hid (∀ j, k ≤ j → j < a → bt x j = 32) ∧ wk = wr) (fun v _ => (intOf v + 1).toNat)
          case atStart => exact ⟨a, _, rfl, hide hrI.symm, by omega, by omega, hide (fun j hj hj2 => absurd hj2 (by omega)), rfl⟩
          case round =>
            obtain ⟨k, c, rfl, HC, hc1, hk, HK, hwk⟩ := hrel
            obtain rfl := hwk.symm
            clear hwk
            by_cases hc0 : 0 ≤ c
            · obtain ⟨j, hj⟩ : ∃ j, k - 1 = j := ⟨_, rfl⟩
              obtain rfl : c = (j : Int) := by have := unhide HC; omega
              have hjx : (j : Int) < (x.size : Int) := by have := unhide HC; omega
              have HJ : Hid (k = j + 1) := hide (by have := unhide HC; omega)
              have f3 := fun h => bt_get x j h
              have HJ1 : Hid (bt x j = 32 → ∀ i, j ≤ i → i < a → bt x i = 32) := hide (fun e i h1 h2 => by
                by_cases q : i = j
                · rw [q]; exact e
                · exact (unhide HK) i (by have := unhide HJ; omega) h2)
              have HJ2 : Hid (bt x j ≠ 32 → gps x (a + 1) = gps x a ++ [(a : Int)]) := hide (fun e => (unhide HY) j (by have := unhide HJ; omega) e)
              clear hj
              generalize bt x j = b3 at *
              by_cases c3 : b3 = 32
              · have c3b : ((b3 : Int) == 32) = true := by rw [c3]; rfl
                have HK2 := hide ((unhide HJ1) c3)
                clear c3 HJ1 HJ2
                go_wp2_with fail
                go_roundw
                case rel => exact ⟨j, _, rfl, hide rfl, by omega, by have := unhide HJ; omega, HK2, trivial⟩
                case measure => (simp [intOf] <;> omega)
              · have c3b : ((b3 : Int) == 32) = false := by rw [beq_eq_false_iff_ne]; omega
                have HN := hide ((unhide HJ2) c3)
                clear c3 HJ1 HJ2
                go_wp2_with (at_builtin; refine wpList_append_own _ rfl _ _ 37 rfl w.heap.size 3 i0 (.int .i64 0) 1 8 Tryz.underlying37 hi hz0 hz1 hz2 rfl (by decide) _ _ _ rfl (own_allocJ (unhide HO) _) ⟨wr.heap.size, 0, none⟩ 1 1 [.int .i64 (a : Int)] rfl rfl ?c1 ?c2 ?c3 ?c4 ?c5 ?_)
                case c1 => exact cell_one_new _ _ _
                case c2 => intro u hu; simp at hu; subst hu; rfl
                case c3 => unfold maxLen; omega
                case c4 => omega
                case c5 => simp; omega
                intro v' w3 hown' hgrow _
                have R := row_stepJ (unhide HB) hsz (unhide HO) hown' hgrow
                rw [← unhide HN] at R
                have R1 := hide R.1
                have R2 := hide R.2
                clear hown' hgrow R
                go_wp2_with fail
                go_roundw
                case rel => exact ⟨a + 1, by go_num, by omega, .inl (by omega), R1, R2⟩
                case measure => (simp [intOf] <;> omega)
            · have HN := hide ((unhide HZ) (fun j hj => (unhide HK) j (by have := unhide HC; omega) hj))
              go_wp2_with fail
              go_roundw
              case rel => exact ⟨a + 1, by go_num, by omega, .inl (by omega), hide (by rw [unhide HN]; exact unhide HO), HB⟩
              case measure => (simp [intOf] <;> omega)
      · have c1b : ((b1 : Int) != 32) = true := by rw [bne_iff_ne]; omega
        have HN : Hid (gps x (a + 1) = gps x a) := hide (gps_no ((unhide HGN) (fun h => c1 h.1)))
        clear c1 hb1 hb2
        go_wp2_with fail
        go_roundw
        case rel => exact ⟨a + 1, by go_num, by omega, .inl (by omega), hide (by rw [unhide HN]; exact unhide HO), HB⟩
        case measure => (simp [intOf] <;> omega)
    · have hI : ¬ (a : Int) < (x.size : Int) := by omega
      have HE : Hid (gps x x.size = gps x a) := hide (by
        rcases h2 with h2 | h2
        · rw [show a = x.size by omega]
        · subst h2
          rw [gps_none (x := x) (k := 0) (fun j hj => absurd hj (by omega)) 1 (by omega)]
          exact gps_none (x := x) (k := 0) (fun j hj => absurd hj (by omega)) _ (by omega))
      go_wp2_with fail
      go_ret
      rw [unhide HE]
      exact ⟨_, rfl, unhide HO, unhide HB⟩
end Jus
end Go.Proofs.YtbaedapnikhdgaaGreatDoor
/- A line made as wide as asked for, as the specification does it. -/
namespace Go.Proofs.YtbaedapnikhdgaaGreatDoor
namespace Jus
open Go.RowKit
set_option linter.unusedVariables false
set_option linter.unusedSimpArgs false
theorem info5j : (Tryz.prog.info? 5).map (fun i => (i.zero, i.size, i.bytes)) = some (some (.int .u8 0), 1, 1) := by kernel_rfl
theorem conv_ownJ (w : World) (B : Nat) (v : Value) (n : Nat) (zs : List Int) (h : w.ownsRow B 5 1 v n (zs.map (Value.int .u8))) :
    (convert 22 9 v).run Tryz.prog w = .ok (.string (strOfNums zs)) w := by
  have hl : zs.length = n := by simpa using h.1
  rcases h.2 with ⟨rfl, hn⟩ | ⟨g, cap, cur, hv, hg, hh, hn, hm, hs, ht⟩
  · obtain rfl : zs = [] := List.length_eq_zero_iff.1 (by omega)
    exact Lib.run_convert_nil_bytes w 22 9 5 0 Tryz.underlying22 Tryz.underlying5 Tryz.underlying9
  · subst hv
    refine conv_of w g cap zs n hl fun i hi => ?_
    rw [h.cellAt i (by omega), List.getElem?_map]
    simp [List.getD, show i < zs.length by omega]
theorem str_bla (k : Nat) : strOfNums (List.replicate k 32) = bla k := by
  apply ByteArray.ext
  unfold strOfNums bla
  simp
theorem rep_next (k : Nat) : (List.replicate (k + 1) (32 : Int)) = List.replicate k 32 ++ [32] := by
  rw [List.replicate_succ']
set_option maxRecDepth 100000 in
set_option maxHeartbeats 4000000 in
theorem blanksS (n : Nat) (hn : n ≤ 100000) (w : World) : Calls Tryz.prog 23 #[.int .i64 (n : Int)] w fun e w' => e = .returned (.string (bla n)) ∧ Below w.heap.size w w' := by
  obtain ⟨i0, hi, hz0, hz1, hz2⟩ := info_parts info5j
  have O0 : Hid ((w.alloc (.cells #[] 5)).ownsRow w.heap.size 5 1 (.slice (some ⟨w.heap.size, 0, none⟩) 0 0) 0 ((List.replicate 0 (32 : Int)).map (Value.int .u8))) := hide (World.ownsRow_lit w #[] 0 (Nat.le_refl _) (by unfold maxLen; omega) rfl)
  have B0 : Hid (Below w.heap.size w (w.alloc (.cells #[] 5))) := hide ((Below.refl _ _).alloc (Nat.le_refl _) _)
  go_enter Tryz.func23, Tryz.ntmps23
  go_wp2_with fail
  go_loopw [0, 3] (fun v0 v3 wr => ∃ (m k : Nat), v0 = .int .i64 (m : Int) ∧ k + m = n ∧ Hid (wr.ownsRow w.heap.size 5 1 v3 k ((List.replicate k (32 : Int)).map (Value.int .u8))) ∧ Hid (Below w.heap.size w wr)) (fun v _ _ => (intOf v).toNat)
  case atStart => exact ⟨n, 0, rfl, by omega, O0, B0⟩
  case round =>
    obtain ⟨m, k, rfl, hk, HO, HB⟩ := hrel
    obtain ⟨va, vc, rfl⟩ := form_ownJ (unhide HO)
    have hsz := (unhide HB).size
    by_cases h0 : 0 < m
    · have hI : (0 : Int) < (m : Int) := by omega
      obtain ⟨q, hq⟩ : ∃ q, m - 1 = q := ⟨_, rfl⟩
      have hqI : (m : Int) - 1 = (q : Int) := by omega
      have hq2 : k + 1 + q = n := by omega
      have hlt : q < m := by omega
      clear hq
      go_wp2_with (at_builtin; refine wpList_append_own _ rfl _ _ 22 rfl w.heap.size 5 i0 (.int .u8 0) 1 1 Tryz.underlying22 hi hz0 hz1 hz2 rfl (by decide) _ _ _ rfl (own_allocJ (unhide HO) _) ⟨wr.heap.size, 0, none⟩ 1 1 [.int .u8 32] rfl rfl ?c1 ?c2 ?c3 ?c4 ?c5 ?_)
      case c1 => exact cell_one_new _ _ _
      case c2 => intro u hu; simp at hu; subst hu; rfl
      case c3 => unfold maxLen; omega
      case c4 => omega
      case c5 => simp; omega
      intro v' w3 hown' hgrow _
      have R1 : Hid (w3.ownsRow w.heap.size 5 1 v' (k + 1) ((List.replicate (k + 1) (32 : Int)).map (Value.int .u8))) := hide (by
        rw [rep_next, List.map_append, List.map_replicate]
        exact hown')
      have R2 : Hid (Below w.heap.size w w3) := hide (((unhide HB).alloc hsz _).grown hgrow (by simp; omega) (fun j hj => ((unhide HO).lt j hj).1))
      clear hown' hgrow
      go_wp2_with fail
      go_roundw
      case rel => exact ⟨q, k + 1, rfl, hq2, R1, R2⟩
      case measure => (simp [intOf] <;> omega)
    · obtain rfl : m = 0 := by omega
      obtain rfl : k = n := by omega
      have hI : ¬ (0 : Int) < ((0 : Nat) : Int) := by omega
      have hcv := conv_ownJ wr w.heap.size _ _ _ (unhide HO)
      rw [str_bla] at hcv
      go_wp2_with fail
      go_ret
      exact ⟨rfl, unhide HB⟩
set_option maxRecDepth 100000 in
set_option maxHeartbeats 4000000 in
theorem fewS (x : ByteArray) (w : World) : Calls Tryz.prog 21 #[.string x] w fun e w' => (∃ v, e = .returned (.tuple #[v, .bool (few x)])) ∧ Below w.heap.size w w' := by
  by_cases h : 65536 < x.size
  · have hgt : (65536 : Int) < (x.size : Int) := by omega
    have HR : Hid (few x = false) := hide (by unfold few; rw [decide_eq_false (by omega)]; rfl)
    go_enter Tryz.func21, Tryz.ntmps21
    go_wp2_with fail
    go_ret2
    exact ⟨⟨_, by rw [unhide HR]; rfl⟩, Below.refl _ _⟩
  · have hgt : ¬ (65536 : Int) < (x.size : Int) := by omega
    have HR : Hid (few x = decide ((pts x).length ≤ 1000)) := hide (by unfold few; rw [decide_eq_true (by omega)]; rfl)
    have HR2 : Hid (few x = decide (((pts x).length : Int) ≤ 1000)) := hide (by rw [unhide HR]; exact decide_eq_decide.2 (by omega))
    have CP := hide (fun W => l01Points x W (by omega))
    go_enter Tryz.func21, Tryz.ntmps21
    go_wp2_with (go_at_call 24; refine ((unhide CP) _).mono ?_; rintro e w1 ⟨v1, rfl, ho1, hb1⟩; obtain ⟨a1, c1, rfl⟩ := form_ownJ ho1; clear ho1)
    go_ret2
    exact ⟨⟨_, by rw [unhide HR2]; rfl⟩, hb1⟩
end Jus
end Go.Proofs.YtbaedapnikhdgaaGreatDoor
/- A line made as wide as asked for, as the specification does it: the walk. -/
namespace Go.Proofs.YtbaedapnikhdgaaGreatDoor
namespace Jus
open Go.RowKit
set_option linter.unusedVariables false
set_option linter.unusedSimpArgs false
/-- How much a line lacks. -/
def lk (x : ByteArray) (wd : Int) : Int := wd - Wid.ws (Chr.charsOut x)
/-- What Justified tells. -/
def ju (x : ByteArray) (wd : Int) : ByteArray :=
  if few x = true ∧ 0 ≤ wd ∧ wd ≤ 1000 then
    (if (gps x x.size).length = 0 ∨ lk x wd ≤ 0 then x else jus x (gps x x.size) ((lk x wd).tdiv (gps x x.size).length).toNat ((lk x wd).tmod (gps x x.size).length).toNat)
  else ⟨#[]⟩
theorem few_size {x : ByteArray} (h : few x = true) : x.size ≤ 65536 := by
  unfold few at h
  rw [Bool.and_eq_true] at h
  exact of_decide_eq_true h.1
theorem lk_bd (x : ByteArray) (wd : Int) (h0 : 0 ≤ wd) (h1 : wd ≤ 1000) : -200000 ≤ lk x wd ∧ lk x wd ≤ 1000 ∧ 0 ≤ Wid.ws (Chr.charsOut x) ∧ Wid.ws (Chr.charsOut x) ≤ 131072 := by
  have a := Wid.ws_bd (Chr.charsOut x)
  have b := Chr.charsOut_le x
  unfold lk
  omega
theorem div_of {l : Int} {n : Nat} (h : 0 < l) (h1 : l ≤ 1000) (hn : 0 < n) : ∃ e r : Nat, l.tdiv (n : Int) = (e : Int) ∧ l.tmod (n : Int) = (r : Int) ∧ e ≤ 1000 ∧ r ≤ 1000 := by
  obtain ⟨k, rfl⟩ : ∃ k : Nat, l = (k : Int) := ⟨l.toNat, by omega⟩
  refine ⟨k / n, k % n, Int.ofNat_tdiv k n ▸ rfl, Int.ofNat_tmod k n ▸ rfl, ?_, ?_⟩
  · have := Nat.div_le_self k n; omega
  · have := Nat.mod_le k n; omega
theorem add_any (A B : ByteArray) (h : A.size + B.size ≤ 4294967296) (W : World) : (Op.stringOp .add A B).run Tryz.prog W = .ok (.string (A ++ B)) W :=
  run_string_add_sum W _ _ (by omega)
theorem jo_bd (x : ByteArray) (e r m : Nat) (hx : x.size ≤ 65536) (he : e ≤ 1000) (hm : m ≤ (gps x x.size).length) : (jo x (gps x x.size) e r m).size ≤ 70000000 := by
  have h1 := jo_size x e r m hm
  have h2 := fr_le x m hm
  have h3 := gps_len x x.size
  have h4 : m * (e + 1) ≤ 65536 * 1001 := Nat.mul_le_mul (by omega) (by omega)
  omega
theorem row_rd {w : World} {B : Nat} {v : Value} {l : List Int} (h : w.ownsRow B 3 1 v l.length (l.map (Value.int .i64))) (hl : 0 < l.length) : ∃ g c, v = .slice (some ⟨g, 0, none⟩) l.length c ∧ B ≤ g ∧ g < w.heap.size ∧ ∀ k, k < l.length → w.cell? ⟨g, k, none⟩ = some (.int .i64 (nth l k)) := by
  rcases h.2 with ⟨rfl, h0⟩ | ⟨g, cap, cur, rfl, hb, hh, hn, hm, hs, ht⟩
  · omega
  · refine ⟨g, cap, rfl, hb, (Array.getElem?_eq_some_iff.1 hh).1, fun k hk => ?_⟩
    rw [h.cellAt k (by omega), List.getElem?_map, List.getElem?_eq_getElem hk]
    unfold nth
    simp [List.getD_eq_getElem?_getD, hk]
set_option maxRecDepth 100000 in
set_option maxHeartbeats 8000000 in
theorem specJ (x : ByteArray) (wd : Int) (w : World) : Calls Tryz.prog 6 #[.string x, .int .i64 wd] w fun e w' => e = .returned (.string (ju x wd)) ∧ Below w.heap.size w w' := by
  have CF := hide (fun W => fewS x W)
  cases hf : few x
  · have HR : Hid (ju x wd = ⟨#[]⟩) := hide (if_neg (fun c => by rw [hf] at c; cases c.1))
    rw [hf] at CF
    clear hf
    go_enter Tryz.func6, Tryz.ntmps6
    go_wp2_with (go_at_call 21; refine ((unhide CF) _).mono ?_; rintro e w1 ⟨⟨v1, rfl⟩, hb1⟩)
    go_ret
    exact ⟨by rw [unhide HR]; rfl, hb1⟩
  by_cases h0 : 0 ≤ wd
  · by_cases h1 : wd ≤ 1000
    · have h0n : ¬ wd < 0 := by omega
      have h1n : ¬ 1000 < wd := by omega
      have hx := few_size hf
      have HJ : Hid (ju x wd = if (gps x x.size).length = 0 ∨ lk x wd ≤ 0 then x else jus x (gps x x.size) ((lk x wd).tdiv (gps x x.size).length).toNat ((lk x wd).tmod (gps x x.size).length).toNat) := hide (if_pos ⟨hf, h0, h1⟩)
      rw [hf] at CF
      have CG := hide (fun W => gapsS x hx W)
      have CW := hide (fun W => Wid.wideS x hx W)
      obtain ⟨l1, l2, l3, l4⟩ := lk_bd x wd h0 h1
      have hlk : wd - Wid.ws (Chr.charsOut x) = lk x wd := rfl
      have HUP := hide (gps_up x x.size)
      have HJB := hide (fun e r m he hm => jo_bd x e r m hx he hm)
      have HFL := hide (fun m hm => fr_le x m hm)
      have hgn := gps_len x x.size
      have HXJ : Hid (∀ e r, jus x (gps x x.size) e r = jo x (gps x x.size) e r (gps x x.size).length ++ x.extract (fr (gps x x.size) (gps x x.size).length) x.size) := hide (fun e r => rfl)
      clear hf
      generalize gps x x.size = G at *
      obtain ⟨n, hn⟩ : ∃ n, G.length = n := ⟨_, rfl⟩
      have CG2 : Hid (∀ W : World, Calls Tryz.prog 22 #[.string x] W fun e w' => ∃ v, e = .returned v ∧ w'.ownsRow W.heap.size 3 1 v n (G.map (Value.int .i64)) ∧ Below W.heap.size W w') := hide (by rw [← hn]; exact unhide CG)
      rw [hn] at HUP HJB HFL HJ HXJ hgn
      have HN := hide hn
      clear CG hn
      generalize Wid.ws (Chr.charsOut x) = T at *
      generalize lk x wd = l at *
      generalize ju x wd = J at *
      by_cases hn0 : n = 0
      · have HR : Hid (J = x) := hide ((unhide HJ).trans (if_pos (.inl hn0)))
        have hn0b : ((n : Int) == 0) = true := by rw [hn0]; rfl
        clear hn0
        go_enter Tryz.func6, Tryz.ntmps6
        go_wp2_with (first | (go_at_call 21; refine ((unhide CF) _).mono ?_; rintro e w1 ⟨⟨v1, rfl⟩, hb1⟩; have B1 := hide hb1; clear hb1) | (go_at_call 22; refine ((unhide CG2) _).mono ?_; rintro e w2 ⟨gv, rfl, ho2, hb2⟩; obtain ⟨ga, gc, rfl⟩ := form_ownJ ho2; have O2 := hide ho2; have B2 := hide ((unhide B1).trans (hb2.mono (unhide B1).size)); clear ho2 hb2) | (go_at_call 12; refine ((unhide CW) _).mono ?_; rintro e w3 ⟨rfl, hb3⟩; have O3 := hide (ownsRow_below (unhide O2) hb3); have B3 := hide ((unhide B2).trans (hb3.mono (unhide B2).size)); clear hb3))
        go_ret
        exact ⟨by rw [unhide HR]; rfl, unhide B3⟩
      have hn0b : ((n : Int) == 0) = false := by rw [beq_eq_false_iff_ne]; omega
      by_cases hl0 : l ≤ 0
      · have HR : Hid (J = x) := hide ((unhide HJ).trans (if_pos (.inr hl0)))
        clear hn0
        go_enter Tryz.func6, Tryz.ntmps6
        go_wp2_with (first | (go_at_call 21; refine ((unhide CF) _).mono ?_; rintro e w1 ⟨⟨v1, rfl⟩, hb1⟩; have B1 := hide hb1; clear hb1) | (go_at_call 22; refine ((unhide CG2) _).mono ?_; rintro e w2 ⟨gv, rfl, ho2, hb2⟩; obtain ⟨ga, gc, rfl⟩ := form_ownJ ho2; have O2 := hide ho2; have B2 := hide ((unhide B1).trans (hb2.mono (unhide B1).size)); clear ho2 hb2) | (go_at_call 12; refine ((unhide CW) _).mono ?_; rintro e w3 ⟨rfl, hb3⟩; have O3 := hide (ownsRow_below (unhide O2) hb3); have B3 := hide ((unhide B2).trans (hb3.mono (unhide B2).size)); clear hb3))
        go_ret
        exact ⟨by rw [unhide HR]; rfl, unhide B3⟩
      obtain ⟨d, r, hd, hr, hd1, hr1⟩ := div_of (n := n) (by omega) l2 (by omega)
      have HR : Hid (J = jus x G d r) := hide (by
        rw [unhide HJ, if_neg (by omega), hd, hr]
        rfl)
      have hnI : ¬ (n : Int) = 0 := by omega
      have CB := hide (fun k hk W => blanksS k hk W)
      go_enter Tryz.func6, Tryz.ntmps6
      go_wp2_with (first | (go_at_call 21; refine ((unhide CF) _).mono ?_; rintro e w1 ⟨⟨v1, rfl⟩, hb1⟩; have B1 := hide hb1; clear hb1) | (go_at_call 22; refine ((unhide CG2) _).mono ?_; rintro e w2 ⟨gv, rfl, ho2, hb2⟩; obtain ⟨ga, gc, rfl⟩ := form_ownJ ho2; have O2 := hide ho2; have B2 := hide ((unhide B1).trans (hb2.mono (unhide B1).size)); clear ho2 hb2) | (go_at_call 12; refine ((unhide CW) _).mono ?_; rintro e w3 ⟨rfl, hb3⟩; have O3 := hide (ownsRow_below (unhide O2) hb3); have B3 := hide ((unhide B2).trans (hb3.mono (unhide B2).size)); clear hb3))
      have HDR := hide (And.intro hd hr)
      have z3 := (unhide B3).size
      have HGR : Hid (∃ g, ga = some ⟨g, 0, none⟩ ∧ g < w3.heap.size ∧ ∀ k, k < n → w3.cell? ⟨g, k, none⟩ = some (.int .i64 (nth G k))) := hide (by
        have h1 := unhide O3
        have hN := unhide HN
        subst hN
        obtain ⟨g, c, e1, e2, e3, e4⟩ := row_rd h1 (by omega)
        injection e1 with e1
        exact ⟨g, e1, e3, e4⟩)
      obtain ⟨g, hga, hgw, hgc⟩ := unhide HGR
      subst hga
      have HGC := hide hgc
      clear HGR hgc O3 hd hr
      go_loopw [10, 11, 12, 13] (fun v10 v11 v12 _ wr => ∃ (m f : Nat) (S : ByteArray), m ≤ n ∧ v10 = .string S ∧ v11 = .int .i64 (f : Int) ∧ v12 = .int .i64 (m : Int) ∧ Hid (S = jo x G d r m) ∧ Hid (f = fr G m) ∧ Hid (Below w3.heap.size w3 wr)) (fun _ _ v _ _ => n - (intOf v).toNat)
      case atStart => exact ⟨0, 0, ⟨#[]⟩, by omega, rfl, rfl, rfl, hide rfl, hide rfl, hide (Below.refl _ _)⟩
      case round =>
        obtain ⟨m, f, S, hm, rfl, rfl, rfl, HS, HF, HB⟩ := hrel
        have hzr := (unhide HB).size
        have hSz : S.size ≤ 70000000 := by rw [unhide HS]; exact (unhide HJB) d r m hd1 hm
        have hfx : f ≤ x.size := by rw [unhide HF]; exact (unhide HFL) m hm
        by_cases hlt : m < n
        · have hI : (m : Int) < (n : Int) := by omega
          obtain ⟨q, hq1, hq2, hq3⟩ := (unhide HUP) m hlt
          have c1 := ((unhide HB).cell (p := ⟨g, m, none⟩) hgw).trans ((unhide HGC) m hlt)
          rw [hq1] at c1
          rw [← unhide HF] at hq2
          have hfq : (f : Int) ≤ (q : Int) := by omega
          have hqx : (q : Int) ≤ (x.size : Int) := by omega
          have HXS : Hid ((x.extract f q).size ≤ 65536) := hide (by rw [ByteArray.size_extract]; omega)
          have HJN : Hid (jo x G d r (m + 1) = S ++ x.extract f q ++ bla (if m < r then d + 1 else d)) := hide (by rw [jo_next, ← unhide HS, ← unhide HF, hq1]; rfl)
          have HFN : Hid (q = fr G (m + 1)) := hide (by rw [fr_next, hq1]; rfl)
          have HLE : Hid (m + 1 ≤ n) := hide hlt
          have hdt := (unhide HDR).1
          have hrt := (unhide HDR).2
          have HQ1 := hide hq1
          clear hq1
          generalize hX : x.extract f q = X at *
          have A1 := add_any S X (by have := unhide HXS; omega)
          obtain ⟨S1, hS1⟩ : ∃ S1, S ++ X = S1 := ⟨_, rfl⟩
          have hS1z : S1.size ≤ 70100000 := by rw [← hS1, ByteArray.size_append]; have := unhide HXS; omega
          rw [hS1] at A1 HJN
          clear hS1
          by_cases hmr : m < r
          · have hmrI : (m : Int) < (r : Int) := by omega
            rw [if_pos hmr] at HJN
            have CBd := hide (fun W => (unhide CB) (d + 1) (by omega) W)
            have A2 := add_any S1 (bla (d + 1)) (by rw [bla_size]; omega)
            rw [← unhide HJN] at A2
            obtain ⟨d2, hd2⟩ : ∃ d2, d + 1 = d2 := ⟨_, rfl⟩
            have hd2I : (d : Int) + 1 = (d2 : Int) := by omega
            rw [hd2] at CBd A2
            clear hd2 hmr HJN
            go_wp2_with (go_at_call 23; refine ((unhide CBd) _).mono ?_; rintro e w4 ⟨rfl, hb4⟩; have B4 := hide ((unhide HB).trans (hb4.mono hzr)); have c2 := (unhide B4).cell (p := ⟨g, m, none⟩) hgw; rw [(unhide HGC) m hlt, unhide HQ1] at c2; clear hb4)
            go_roundw
            case rel => exact ⟨m + 1, q, _, unhide HLE, rfl, rfl, by go_num, hide rfl, HFN, B4⟩
            case measure => (simp [intOf] <;> omega)
          · have hmrI : ¬ (m : Int) < (r : Int) := by omega
            rw [if_neg hmr] at HJN
            have CBd := hide (fun W => (unhide CB) d (by omega) W)
            have A2 := add_any S1 (bla d) (by rw [bla_size]; omega)
            rw [← unhide HJN] at A2
            clear hmr HJN
            go_wp2_with (go_at_call 23; refine ((unhide CBd) _).mono ?_; rintro e w4 ⟨rfl, hb4⟩; have B4 := hide ((unhide HB).trans (hb4.mono hzr)); have c2 := (unhide B4).cell (p := ⟨g, m, none⟩) hgw; rw [(unhide HGC) m hlt, unhide HQ1] at c2; clear hb4)
            go_roundw
            case rel => exact ⟨m + 1, q, _, unhide HLE, rfl, rfl, by go_num, hide rfl, HFN, B4⟩
            case measure => (simp [intOf] <;> omega)
        · obtain rfl : m = n := by omega
          have hfI : (f : Int) ≤ (x.size : Int) := by omega
          have HEJ : Hid (J = S ++ x.extract f x.size) := hide (by rw [unhide HR, unhide HXJ, ← unhide HS, ← unhide HF])
          have HXS : Hid ((x.extract f x.size).size ≤ 65536) := hide (by rw [ByteArray.size_extract]; omega)
          generalize hX : x.extract f x.size = X at *
          have A1 := add_any S X (by have := unhide HXS; omega)
          rw [← unhide HEJ] at A1
          go_wp2_with fail
          go_ret
          exact ⟨rfl, (unhide B3).trans ((unhide HB).mono z3)⟩
    · have HR : Hid (ju x wd = ⟨#[]⟩) := hide (if_neg (fun c => h1 c.2.2))
      have h1n : 1000 < wd := by omega
      have h0n : ¬ wd < 0 := by omega
      rw [hf] at CF
      clear hf
      go_enter Tryz.func6, Tryz.ntmps6
      go_wp2_with (go_at_call 21; refine ((unhide CF) _).mono ?_; rintro e w1 ⟨⟨v1, rfl⟩, hb1⟩)
      go_ret
      exact ⟨by rw [unhide HR]; rfl, hb1⟩
  · have HR : Hid (ju x wd = ⟨#[]⟩) := hide (if_neg (fun c => h0 c.2.1))
    have h0n : wd < 0 := by omega
    rw [hf] at CF
    clear hf
    go_enter Tryz.func6, Tryz.ntmps6
    go_wp2_with (go_at_call 21; refine ((unhide CF) _).mono ?_; rintro e w1 ⟨⟨v1, rfl⟩, hb1⟩)
    go_ret
    exact ⟨by rw [unhide HR]; rfl, hb1⟩
end Jus
end Go.Proofs.YtbaedapnikhdgaaGreatDoor
/- strings.Builder: its methods by the library's contracts; a text that grows in one. -/
namespace Go.Proofs
open Go.Shelf Go.RowKit
set_option linter.unusedVariables false
def Tryz.laysBW_ren : Go.Shelf.Ren := ⟨fun | 166 => 18 | 240 => 37 | 276 => 61 | n => n, fun | 70 => 39 | 72 => 41 | 37 => 22 | 75 => 43 | 80 => 33 | 164 => 90 | 20 => 20 | 127 => 67 | n => n, fun | n => n⟩
theorem Tryz.laysBW : Go.Proofs.Lays.n166 Tryz.prog Tryz.laysBW_ren := {
  mixed := by kernel_rfl
  f166 := Tryz.func18.trans (congrArg some (by kernel_rfl))
  f240 := Tryz.func37.trans (congrArg some (by kernel_rfl))
  f276 := Tryz.func61.trans (congrArg some (by kernel_rfl))
  t0 := Tryz.underlying0
  a0 := Tryz.isAgg0
  z0 := Tryz.sizeOf0
  v0 := Tryz.zeroValue0
  t3 := Tryz.underlying3
  a3 := Tryz.isAgg3
  z3 := Tryz.sizeOf3
  v3 := Tryz.zeroValue3
  t4 := Tryz.underlying4
  a4 := Tryz.isAgg4
  z4 := Tryz.sizeOf4
  v4 := Tryz.zeroValue4
  t9 := Tryz.underlying9
  a9 := Tryz.isAgg9
  z9 := Tryz.sizeOf9
  v9 := Tryz.zeroValue9
  t20 := Tryz.underlying20
  a20 := Tryz.isAgg20
  z20 := Tryz.sizeOf20
  v20 := Tryz.zeroValue20
  t37 := Tryz.underlying22
  a37 := Tryz.isAgg22
  z37 := Tryz.sizeOf22
  v37 := Tryz.zeroValue22
  t70 := Tryz.underlying39
  a70 := Tryz.isAgg39
  z70 := Tryz.sizeOf39
  v70 := Tryz.zeroValue39
  t72 := Tryz.underlying41
  a72 := Tryz.isAgg41
  z72 := Tryz.sizeOf41
  v72 := Tryz.zeroValue41
  t75 := Tryz.underlying43
  a75 := Tryz.isAgg43
  z75 := Tryz.sizeOf43
  v75 := Tryz.zeroValue43
  t164 := Tryz.underlying90
  a164 := Tryz.isAgg90
  z164 := Tryz.sizeOf90
  v164 := Tryz.zeroValue90 }
theorem extraW : Builder.Extra Tryz.prog Tryz.laysBW_ren where
  sizeBuilder := by kernel_rfl
  liesBuilder := by kernel_rfl
  t5 := Tryz.underlying5
  a5 := Tryz.isAgg5
  z5 := Tryz.sizeOf5
  v5 := Tryz.zeroValue5
  infoByte := by kernel_rfl
  cellsByte := by kernel_rfl
  sizeByte := by kernel_rfl
  neB5 := by decide
theorem extraS : Builder.Extra Tryz.prog Tryz.laysBS_ren where
  sizeBuilder := by kernel_rfl
  liesBuilder := by kernel_rfl
  t5 := Tryz.underlying5
  a5 := Tryz.isAgg5
  z5 := Tryz.sizeOf5
  v5 := Tryz.zeroValue5
  infoByte := by kernel_rfl
  cellsByte := by kernel_rfl
  sizeByte := by kernel_rfl
  neB5 := by decide
namespace YtbaedapnikhdgaaGreatDoor.Bld
/-- A builder in block b that holds the text s. -/
def At (B b : Nat) (s : ByteArray) (w : World) : Prop := Lib.IsBuilder 41 5 B b (Lib.byteCells s.data.toList) w
theorem At.new (w : World) : At w.heap.size w.heap.size ⟨#[]⟩ (w.alloc (.cells #[.pointer none, .slice none 0 0] 41)) := Lib.fresh_isBuilder _ _ w
theorem At.below {B b : Nat} {s : ByteArray} {w w' : World} (h : At B b s w) (hb : Below w.heap.size w w') : At B b s w' := by
  have go : ∀ p, Lib.BuilderAt 41 5 B b p (Lib.byteCells s.data.toList) w → Lib.BuilderAt 41 5 B b p (Lib.byteCells s.data.toList) w' := by
    rintro p ⟨h1, v, h2, h3, h4⟩
    exact ⟨h1, v, (hb.block b (Array.getElem?_eq_some_iff.1 h2).1).trans h2, ownsRow_below h3 hb, h4⟩
  rcases h with h | h
  · exact .inl (go _ h)
  · exact .inr (go _ h)
theorem At.lt {B b : Nat} {s : ByteArray} {w : World} (h : At B b s w) : B ≤ b ∧ b < w.heap.size := by
  rcases h with h | h
  · exact ⟨h.1, h.lt⟩
  · exact ⟨h.1, h.lt⟩
theorem app_cells (s t : ByteArray) : Lib.byteCells s.data.toList ++ Lib.strCells t = Lib.byteCells (s ++ t).data.toList := by
  rw [Lib.strCells_eq]
  simp [Lib.byteCells, ByteArray.data_append]
theorem len_any (B b : Nat) (s : ByteArray) (w : World) (h : At B b s w) : Calls Tryz.prog 41 #[.pointer (some ⟨b, 0, none⟩)] w fun e w' => e = .returned (.int .i64 (s.size : Int)) ∧ w' = w := by
  refine (Any.Builder_Len Tryz.laysBL B b _ w h).mono ?_
  rintro e w' ⟨rfl, rfl⟩
  refine ⟨?_, rfl⟩
  have : (Lib.byteCells s.data.toList).length = s.size := by simp [Lib.byteCells]
  rw [this]
theorem write_any (B b : Nat) (s t : ByteArray) (w : World) (h : At B b s w) (hs : s.size + t.size ≤ 4294967296) (hB : B ≤ w.heap.size) :
    Calls Tryz.prog 18 #[.pointer (some ⟨b, 0, none⟩), .string t] w fun e w' => e = .returned (.tuple #[.int .i64 t.size, .nilIface]) ∧ At B b (s ++ t) w' ∧ Below B w w' := by
  have hl : (Lib.byteCells s.data.toList).length = s.size := by simp [Lib.byteCells]
  refine (Any.Builder_WriteString Tryz.laysBW extraW B b _ t w h (by rw [hl]; omega) hB).mono ?_
  rintro e w' ⟨rfl, h1, h2⟩
  refine ⟨rfl, .inr ?_, h2⟩
  rw [← app_cells]
  exact h1
theorem string_any (B b : Nat) (s : ByteArray) (w : World) (h : At B b s w) (hB : B ≤ w.heap.size) :
    Calls Tryz.prog 20 #[.pointer (some ⟨b, 0, none⟩)] w fun e w' => e = .returned (.string s) ∧ Below B w w' := by
  refine (Any.Builder_String_any Tryz.laysBS extraS B b s.data.toList w h hB).mono ?_
  rintro e w' ⟨rfl, h2⟩
  exact ⟨rfl, h2⟩
end YtbaedapnikhdgaaGreatDoor.Bld
end Go.Proofs
/- A line made as wide as asked for, as the program does it: the walk. -/
namespace Go.Proofs.YtbaedapnikhdgaaGreatDoor
namespace Jus
open Go.RowKit Go.Shelf
set_option linter.unusedVariables false
set_option linter.unusedSimpArgs false
theorem extraR : Builder.Extra Tryz.prog Tryz.laysRep_ren where
  sizeBuilder := by kernel_rfl
  liesBuilder := by kernel_rfl
  t5 := Tryz.underlying5
  a5 := Tryz.isAgg5
  z5 := Tryz.sizeOf5
  v5 := Tryz.zeroValue5
  infoByte := by kernel_rfl
  cellsByte := by kernel_rfl
  sizeByte := by kernel_rfl
  neB5 := by decide
theorem repJ (c : Nat) (hc : c ≤ 1000) (w : World) : Calls Tryz.prog 19 #[.string ⟨#[32]⟩, .int .i64 (c : Int)] w fun e w' => e = .returned (.string (bla c)) ∧ Below w.heap.size w w' := by
  refine (Any.strings_Repeat Tryz.laysRep extraR ⟨#[32]⟩ c w (by omega) (by show 1 * c ≤ _; omega)).mono ?_
  rintro e w' ⟨rfl, hb⟩
  refine ⟨?_, hb⟩
  rw [← rep_bla]
theorem withinJ (p a b : Int) (w : World) : Calls Tryz.prog 15 #[.int .i64 p, .int .i64 a, .int .i64 b] w fun e w' => e = .returned (.bool (decide (a ≤ p) && decide (p ≤ b))) ∧ w' = w := by
  have rb : ∀ {x y : Bool}, x = y → (Ending.returned (.bool x) : Ending) = .returned (.bool y) := fun h => by rw [h]
  by_cases h1 : a ≤ p
  · by_cases h2 : p ≤ b
    · go_enter Tryz.func15, Tryz.ntmps15
      go_wp2
      go_ret
      exact ⟨rb (x := true) (by simp [h1, h2]), rfl⟩
    · go_enter Tryz.func15, Tryz.ntmps15
      go_wp2
      go_ret
      exact ⟨rb (x := false) (by simp [h2]), rfl⟩
  · go_enter Tryz.func15, Tryz.ntmps15
    go_wp2
    go_ret
    exact ⟨rb (x := false) (by simp; omega), rfl⟩
theorem div_of0 {l : Int} {n : Nat} (h : 0 ≤ l) (h1 : l ≤ 1000) (hn : 0 < n) : ∃ e r : Nat, l.tdiv (n : Int) = (e : Int) ∧ l.tmod (n : Int) = (r : Int) ∧ e ≤ 1000 ∧ r ≤ 1000 := by
  obtain ⟨k, rfl⟩ : ∃ k : Nat, l = (k : Int) := ⟨l.toNat, by omega⟩
  refine ⟨k / n, k % n, Int.ofNat_tdiv k n ▸ rfl, Int.ofNat_tmod k n ▸ rfl, ?_, ?_⟩
  · have := Nat.div_le_self k n; omega
  · have := Nat.mod_le k n; omega
set_option maxRecDepth 100000 in
set_option maxHeartbeats 8000000 in
theorem implJ (x : ByteArray) (wd : Int) (w : World) (ht : TabAt w) (hT : Wid.TabD w) : Calls Tryz.prog 5 #[.string x, .int .i64 wd] w fun e w' => e = .returned (.string (ju x wd)) ∧ Below w.heap.size w w' := by
  have CM := hide (fun W => manyJ x W)
  have CI := hide (fun W => withinJ wd 0 1000 W)
  have HT := hide (And.intro ht hT)
  clear ht hT
  cases hf : few x
  · have HR : Hid (ju x wd = ⟨#[]⟩) := hide (if_neg (fun c => by rw [hf] at c; cases c.1))
    rw [hf] at CM
    clear hf
    go_enter Tryz.func5, Tryz.ntmps5
    go_wp2_with (go_at_call 14; refine ((unhide CM) _).mono ?_; rintro e w1 ⟨rfl, hb1⟩)
    go_ret
    exact ⟨by rw [unhide HR]; rfl, hb1⟩
  by_cases hw01 : ¬ (0 ≤ wd ∧ wd ≤ 1000)
  · have HR : Hid (ju x wd = ⟨#[]⟩) := hide (if_neg (fun c => hw01 c.2))
    have hb : (decide (0 ≤ wd) && decide (wd ≤ 1000)) = false := by
      cases hq : (decide (0 ≤ wd) && decide (wd ≤ 1000))
      · rfl
      · rw [Bool.and_eq_true, decide_eq_true_eq, decide_eq_true_eq] at hq; exact absurd hq hw01
    rw [hf] at CM
    rw [hb] at CI
    clear hf hb hw01
    go_enter Tryz.func5, Tryz.ntmps5
    go_wp2_with (first | (go_at_call 14; refine ((unhide CM) _).mono ?_; rintro e w1 ⟨rfl, hb1⟩) | (go_at_call 15; refine ((unhide CI) _).mono ?_; rintro e w' ⟨rfl, hw⟩; obtain rfl := hw.symm; clear hw))
    go_ret
    exact ⟨by rw [unhide HR]; rfl, hb1⟩
  obtain ⟨h0, h1⟩ := Decidable.not_not.1 hw01
  clear hw01
  have hx := few_size hf
  have HJ : Hid (ju x wd = if (gps x x.size).length = 0 ∨ lk x wd ≤ 0 then x else jus x (gps x x.size) ((lk x wd).tdiv (gps x x.size).length).toNat ((lk x wd).tmod (gps x x.size).length).toNat) := hide (if_pos ⟨hf, h0, h1⟩)
  have hb : (decide (0 ≤ wd) && decide (wd ≤ 1000)) = true := by rw [decide_eq_true h0, decide_eq_true h1]; rfl
  rw [hf] at CM
  rw [hb] at CI
  have CG := hide (fun W => placesJ x hx W)
  have CW := hide (fun W (h : TabAt W ∧ Wid.TabD W) => Wid.implWide x W h.1 h.2)
  rw [if_neg (by omega)] at CW
  obtain ⟨l1, l2, l3, l4⟩ := lk_bd x wd h0 h1
  have hlk : wd - Wid.ws (Chr.charsOut x) = lk x wd := rfl
  have HUP := hide (gps_up x x.size)
  have HJB := hide (fun e r m he hm => jo_bd x e r m hx he hm)
  have HFL := hide (fun m hm => fr_le x m hm)
  have hgn := gps_len x x.size
  have HXJ : Hid (∀ e r, jus x (gps x x.size) e r = jo x (gps x x.size) e r (gps x x.size).length ++ x.extract (fr (gps x x.size) (gps x x.size).length) x.size) := hide (fun e r => rfl)
  have HZ : Hid (0 < x.size → jus x (gps x x.size) 0 0 = x) := hide (fun h => jus_zero x h)
  have CC := hide (fun W => clone_any x W (by omega))
  clear hf hb
  generalize gps x x.size = G at *
  obtain ⟨n, hn⟩ : ∃ n, G.length = n := ⟨_, rfl⟩
  have CG2 : Hid (∀ W : World, Calls Tryz.prog 16 #[.string x] W fun e w' => ∃ v, e = .returned v ∧ w'.ownsRow W.heap.size 3 1 v n (G.map (Value.int .i64)) ∧ Below W.heap.size W w') := hide (by rw [← hn]; exact unhide CG)
  rw [hn] at HUP HJB HFL HJ HXJ hgn
  have HN := hide hn
  clear CG hn
  generalize Wid.ws (Chr.charsOut x) = T at *
  generalize lk x wd = l at *
  generalize ju x wd = J at *
  by_cases hn0 : n = 0
  · have HR : Hid (J = x) := hide ((unhide HJ).trans (if_pos (.inl hn0)))
    have hn0b : ((n : Int) == 0) = true := by rw [hn0]; rfl
    clear hn0
    go_enter Tryz.func5, Tryz.ntmps5
    go_wp2_with (first | (go_at_call 14; refine ((unhide CM) _).mono ?_; rintro e w1 ⟨rfl, hb1⟩; have B1 := hide hb1; clear hb1) | (go_at_call 15; refine ((unhide CI) _).mono ?_; rintro e w' ⟨rfl, hw⟩; obtain rfl := hw.symm; clear hw) | (go_at_call 16; refine ((unhide CG2) _).mono ?_; rintro e w2 ⟨gv, rfl, ho2, hb2⟩; obtain ⟨ga, gc, rfl⟩ := form_ownJ ho2; have O2 := hide ho2; have B2 := hide ((unhide B1).trans (hb2.mono (unhide B1).size)); clear ho2 hb2) | (go_at_call 8; refine ((unhide CW) _ ⟨(unhide HT).1.below (unhide B2), (unhide HT).2.below (unhide B2)⟩).mono ?_; rintro e w3 ⟨rfl, hb3⟩; have O3 := hide (ownsRow_below (unhide O2) hb3); have B3 := hide ((unhide B2).trans (hb3.mono (unhide B2).size)); clear hb3) | (go_at_call 17; refine ((unhide CC) _).mono ?_; rintro e w4 ⟨rfl, hb4⟩; have B4 := hide ((unhide B3).trans (hb4.mono (unhide B3).size)); clear hb4))
    go_ret
    exact ⟨by rw [unhide HR]; rfl, unhide B4⟩
  have hn0b : ((n : Int) == 0) = false := by rw [beq_eq_false_iff_ne]; omega
  by_cases hl0 : l < 0
  · have HR : Hid (J = x) := hide ((unhide HJ).trans (if_pos (.inr (by omega))))
    clear hn0
    go_enter Tryz.func5, Tryz.ntmps5
    go_wp2_with (first | (go_at_call 14; refine ((unhide CM) _).mono ?_; rintro e w1 ⟨rfl, hb1⟩; have B1 := hide hb1; clear hb1) | (go_at_call 15; refine ((unhide CI) _).mono ?_; rintro e w' ⟨rfl, hw⟩; obtain rfl := hw.symm; clear hw) | (go_at_call 16; refine ((unhide CG2) _).mono ?_; rintro e w2 ⟨gv, rfl, ho2, hb2⟩; obtain ⟨ga, gc, rfl⟩ := form_ownJ ho2; have O2 := hide ho2; have B2 := hide ((unhide B1).trans (hb2.mono (unhide B1).size)); clear ho2 hb2) | (go_at_call 8; refine ((unhide CW) _ ⟨(unhide HT).1.below (unhide B2), (unhide HT).2.below (unhide B2)⟩).mono ?_; rintro e w3 ⟨rfl, hb3⟩; have O3 := hide (ownsRow_below (unhide O2) hb3); have B3 := hide ((unhide B2).trans (hb3.mono (unhide B2).size)); clear hb3) | (go_at_call 17; refine ((unhide CC) _).mono ?_; rintro e w4 ⟨rfl, hb4⟩; have B4 := hide ((unhide B3).trans (hb4.mono (unhide B3).size)); clear hb4))
    go_ret
    exact ⟨by rw [unhide HR]; rfl, unhide B4⟩
  obtain ⟨d, r, hd, hr, hd1, hr1⟩ := div_of0 (n := n) (by omega) l2 (by omega)
  have HR : Hid (J = jus x G d r) := hide (by
    rw [unhide HJ]
    by_cases hz : l ≤ 0
    · obtain rfl : l = 0 := by omega
      rw [if_pos (.inr (Int.le_refl _))]
      rw [Int.zero_tdiv] at hd
      rw [Int.zero_tmod] at hr
      obtain rfl : d = 0 := by omega
      obtain rfl : r = 0 := by omega
      exact ((unhide HZ) (by omega)).symm
    · rw [if_neg (by omega), hd, hr]
      rfl)
  have hnI : ¬ (n : Int) = 0 := by omega
  have CR := hide (fun W => repJ d hd1 W)
  go_enter Tryz.func5, Tryz.ntmps5
  go_wp2_with (first | (go_at_call 14; refine ((unhide CM) _).mono ?_; rintro e w1 ⟨rfl, hb1⟩; have B1 := hide hb1; clear hb1) | (go_at_call 15; refine ((unhide CI) _).mono ?_; rintro e w' ⟨rfl, hw⟩; obtain rfl := hw.symm; clear hw) | (go_at_call 16; refine ((unhide CG2) _).mono ?_; rintro e w2 ⟨gv, rfl, ho2, hb2⟩; obtain ⟨ga, gc, rfl⟩ := form_ownJ ho2; have O2 := hide ho2; have B2 := hide ((unhide B1).trans (hb2.mono (unhide B1).size)); clear ho2 hb2) | (go_at_call 8; refine ((unhide CW) _ ⟨(unhide HT).1.below (unhide B2), (unhide HT).2.below (unhide B2)⟩).mono ?_; rintro e w3 ⟨rfl, hb3⟩; have O3 := hide (ownsRow_below (unhide O2) hb3); have B3 := hide ((unhide B2).trans (hb3.mono (unhide B2).size)); clear hb3) | (go_at_call 17; refine ((unhide CC) _).mono ?_; rintro e w4 ⟨rfl, hb4⟩; have B4 := hide ((unhide B3).trans (hb4.mono (unhide B3).size)); clear hb4))
  go_quiet (fail)
  go_wp2_with fail
  have HDR := hide (And.intro hd hr)
  have z3 := (unhide B3).size
  have HGR : Hid (∃ g, ga = some ⟨g, 0, none⟩ ∧ g < w3.heap.size ∧ ∀ k, k < n → w3.cell? ⟨g, k, none⟩ = some (.int .i64 (nth G k))) := hide (by
    have h1 := unhide O3
    have hN := unhide HN
    subst hN
    obtain ⟨g, c, e1, e2, e3, e4⟩ := row_rd h1 (by omega)
    injection e1 with e1
    exact ⟨g, e1, e3, e4⟩)
  obtain ⟨g, hga, hgw, hgc⟩ := unhide HGR
  subst hga
  have HGC := hide hgc
  clear HGR hgc O3 hd hr
  obtain ⟨w4, hw4⟩ : ∃ w4, w4 = (w3.drewN nq).alloc (.cells #[.pointer none, .slice none 0 0] 41) := ⟨_, rfl⟩
  have A4 : Hid (Bld.At w3.heap.size w3.heap.size ⟨#[]⟩ w4) := hide (by rw [hw4]; exact Bld.At.new (w3.drewN nq))
  have B4 : Hid (Below w3.heap.size w3 w4) := hide (by rw [hw4]; exact (bdrew (Below.refl _ _) nq).alloc (Nat.le_refl _) _)
  rw [← hw4]
  clear hw4
  go_loopw [10, 45] (fun v10 v45 wr => ∃ (m f : Nat) (S : ByteArray), m ≤ n ∧ v10 = .int .i64 (f : Int) ∧ v45 = .int .i64 (m : Int) ∧ Hid (S = jo x G d r m) ∧ Hid (f = fr G m) ∧ Hid (Bld.At w3.heap.size w3.heap.size S wr) ∧ Hid (Below w3.heap.size w3 wr)) (fun _ v _ => n - (intOf v).toNat)
  case atStart => exact ⟨0, 0, ⟨#[]⟩, by omega, rfl, rfl, hide rfl, hide rfl, A4, B4⟩
  case round =>
    obtain ⟨m, f, S, hm, rfl, rfl, HS, HF, HA, HB⟩ := hrel
    have hzr := (unhide HB).size
    have hSz : S.size ≤ 70000000 := by rw [unhide HS]; exact (unhide HJB) d r m hd1 hm
    have hfx : f ≤ x.size := by rw [unhide HF]; exact (unhide HFL) m hm
    by_cases hlt : m < n
    · have hI : (m : Int) < (n : Int) := by omega
      obtain ⟨q, hq1, hq2, hq3⟩ := (unhide HUP) m hlt
      have c1 := ((unhide HB).cell (p := ⟨g, m, none⟩) hgw).trans ((unhide HGC) m hlt)
      rw [hq1] at c1
      rw [← unhide HF] at hq2
      have hfq : (f : Int) ≤ (q : Int) := by omega
      have hqx : (q : Int) ≤ (x.size : Int) := by omega
      have HXS : Hid ((x.extract f q).size ≤ 65536) := hide (by rw [ByteArray.size_extract]; omega)
      have HFN : Hid (q = fr G (m + 1)) := hide (by rw [fr_next, hq1]; rfl)
      have HLE : Hid (m + 1 ≤ n) := hide hlt
      have HY : Hid (m < r → jo x G d r (m + 1) = S ++ x.extract f q ++ bla d ++ bla 1) := hide (fun h => by rw [jo_more h, ← unhide HS, ← unhide HF, hq1]; rfl)
      have HNo : Hid (¬ m < r → jo x G d r (m + 1) = S ++ x.extract f q ++ bla d) := hide (fun h => by rw [jo_less h, ← unhide HS, ← unhide HF, hq1]; rfl)
      clear hq1
      generalize hX : x.extract f q = X at *
      go_wp2_with fail
      refine (Bld.write_any _ _ S X _ (unhide HA) (by have := unhide HXS; omega) hzr).mono ?_
      rintro e w5 ⟨rfl, ha5, hb5⟩
      have A5 := hide ha5
      have B5 := hide ((unhide HB).trans hb5)
      have s5 : (S ++ X).size ≤ 70100000 := by rw [ByteArray.size_append]; have := unhide HXS; omega
      have z5 := hb5.size
      clear ha5 hb5 HA HB
      generalize S ++ X = S5 at *
      go_wp2_with fail
      refine ((unhide CR) _).mono ?_
      rintro e w6 ⟨rfl, hb6⟩
      have A6 := hide ((unhide A5).below hb6)
      have B6 := hide ((unhide B5).trans (hb6.mono (by omega)))
      have z6 := hb6.size
      clear hb6 A5 B5
      go_wp2_with fail
      refine (Bld.write_any _ _ S5 (bla d) _ (unhide A6) (by rw [bla_size]; omega) (by omega)).mono ?_
      rintro e w7 ⟨rfl, ha7, hb7⟩
      have A7 := hide ha7
      have B7 := hide ((unhide B6).trans hb7)
      have s7 : (S5 ++ bla d).size ≤ 70110000 := by rw [ByteArray.size_append, bla_size]; omega
      have z7 := hb7.size
      clear ha7 hb7 A6 B6
      by_cases hmr : m < r
      · have hmrI : (m : Int) < (r : Int) := by omega
        have HJN := hide ((unhide HY) hmr)
        clear HY HNo hmr
        generalize S5 ++ bla d = S7 at *
        go_wp2_with fail
        refine (Bld.write_any _ _ S7 ⟨#[32]⟩ _ (unhide A7) (by show S7.size + 1 ≤ _; omega) (by omega)).mono ?_
        rintro e w8 ⟨rfl, ha8, hb8⟩
        have A8 : Hid (Bld.At w3.heap.size w3.heap.size (jo x G d r (m + 1)) w8) := hide (by rw [unhide HJN]; exact ha8)
        have B8 := hide ((unhide B7).trans hb8)
        clear ha8 hb8 A7 B7
        go_wp2_with fail
        go_roundw
        case rel => exact ⟨m + 1, q, _, unhide HLE, rfl, by go_num, hide rfl, HFN, A8, B8⟩
        case measure => (simp [intOf] <;> omega)
      · have hmrI : ¬ (m : Int) < (r : Int) := by omega
        have HJN := hide ((unhide HNo) hmr)
        clear HY HNo hmr
        rw [← unhide HJN] at A7
        go_wp2_with fail
        go_roundw
        case rel => exact ⟨m + 1, q, _, unhide HLE, rfl, by go_num, hide rfl, HFN, A7, B7⟩
        case measure => (simp [intOf] <;> omega)
    · obtain rfl : m = n := by omega
      have hfI : (f : Int) ≤ (x.size : Int) := by omega
      have HEJ : Hid (J = S ++ x.extract f x.size) := hide (by rw [unhide HR, unhide HXJ, ← unhide HS, ← unhide HF])
      have HXS : Hid ((x.extract f x.size).size ≤ 65536) := hide (by rw [ByteArray.size_extract]; omega)
      generalize hX : x.extract f x.size = X at *
      go_wp2_with fail
      refine (Bld.write_any _ _ S X _ (unhide HA) (by have := unhide HXS; omega) hzr).mono ?_
      rintro e w5 ⟨rfl, ha5, hb5⟩
      have A5 : Hid (Bld.At w3.heap.size w3.heap.size J w5) := hide (by rw [unhide HEJ]; exact ha5)
      have B5 := hide ((unhide HB).trans hb5)
      have z5 := hb5.size
      clear ha5 hb5 HA HB
      go_wp2_with fail
      refine (Bld.string_any _ _ J _ (unhide A5) (by omega)).mono ?_
      rintro e w6 ⟨rfl, hb6⟩
      go_wp2_with fail
      go_ret
      exact ⟨rfl, (unhide B3).trans (((unhide B5).trans hb6).mono z3)⟩
end Jus
end Go.Proofs.YtbaedapnikhdgaaGreatDoor
