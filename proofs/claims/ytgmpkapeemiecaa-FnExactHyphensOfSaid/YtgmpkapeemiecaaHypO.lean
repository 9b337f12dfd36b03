/- Hyphens of a word, as the program tells them. -/
import Derived.Test.YtgmpkapeemiecaaHypM
import Derived.Test.YtgmpkapeemiecaaHypU
import Derived.WalkSmall
namespace Go.Proofs.Ytgmpkapeemiecaa
namespace Hyp
open Go.RowKit
set_option linter.unusedVariables false
set_option linter.unusedSimpArgs false
/-- Whether all bytes of a text are small letters. -/
def smP (x : ByteArray) (k : Nat) : Prop := ∀ i, i < k → 97 ≤ bt x i ∧ bt x i ≤ 122
def sm (x : ByteArray) : Bool := decide (∀ i, i < x.size → 97 ≤ bt x i ∧ bt x i ≤ 122)
theorem sm_yes {x : ByteArray} (h : smP x x.size) : sm x = true := decide_eq_true h
theorem sm_no {x : ByteArray} {i : Nat} (hi : i < x.size) (h : ¬ (97 ≤ bt x i ∧ bt x i ≤ 122)) : sm x = false := decide_eq_false (fun c => h (c i hi))
theorem smP_next {x : ByteArray} {k : Nat} (h : smP x k) (h2 : 97 ≤ bt x k ∧ bt x k ≤ 122) : smP x (k + 1) := fun i hi => by
  by_cases e : i = k
  · subst e; exact h2
  · exact h i (by omega)
theorem dP_big {s : ByteArray} {i : Nat} (h : 128 ≤ bt s i) : 128 ≤ dP s i := by
  unfold dP
  rw [decode_dec]
  unfold dec
  rw [if_neg (by omega)]
  repeat' split
  all_goals (simp only []; omega)
theorem dP_small {s : ByteArray} {i : Nat} (h : bt s i < 128) : dP s i = bt s i ∧ dN s i = 1 := by
  unfold dP dN
  rw [decode_dec, dec_one h]
  exact ⟨rfl, rfl⟩
set_option maxRecDepth 100000 in
set_option maxHeartbeats 2000000 in
theorem noSmI (p : Int) (h0 : 0 ≤ p) (h1 : p ≤ 1114111) (w : World) : Calls Try.prog 28 #[.int .i32 p] w fun e w' => e = .returned (.bool (!(decide (97 ≤ p) && decide (p ≤ 122)))) ∧ w' = w := by
  go_enter Try.func28, Try.ntmps28
  go_wp2_with (go_at_call 35; refine (withinH _ _ _ _).mono ?_; rintro e w' ⟨rfl, hw⟩; obtain rfl := hw.symm; clear hw)
  go_ret
  refine ⟨?_, rfl⟩
  show Ending.returned (.bool (!decide _ || !decide _)) = _
  rw [Bool.not_and]
set_option maxRecDepth 100000 in
set_option maxHeartbeats 4000000 in
theorem sidxI (x : ByteArray) (hx : x.size ≤ 1048576) (w : World) : Calls Try.prog 41 #[.string x, .func (.func 28) #[] #[], .bool true] w fun e w' => (∃ r : Int, e = .returned (.int .i64 r) ∧ (0 ≤ r ↔ sm x = false)) ∧ Below w.heap.size w w' := by
  have HI0 : Hid ((w.iter x 0).heap[w.heap.size]? = some (.stringIter x 0)) := hide (World.iter_heap w x 0)
  have HB0 : Hid (Below w.heap.size w (w.iter x 0)) := hide ((Below.refl _ _).alloc (Nat.le_refl _) _)
  go_enter Try.func41, Try.ntmps41
  go_wp2_with fail
  go_loopw [7, 8] (fun _ _ wr => ∃ pos : Nat, pos ≤ x.size ∧ Hid (smP x pos) ∧ Hid (wr.heap[w.heap.size]? = some (.stringIter x pos)) ∧ Hid (Below w.heap.size w wr)) (fun _ _ wr => x.size - wr.iterPos w.heap.size)
  case atStart => exact ⟨0, by omega, hide (fun i hi => absurd hi (by omega)), HI0, HB0⟩
  case round =>
    obtain ⟨pos, hpos, HS, HI, HB⟩ := hrel
    clear HI0 HB0
    have HM := hide (iterPos_of (unhide HI))
    by_cases hlt : pos < x.size
    · have hbd := dN_bd x pos hlt
      have hp0 : (0 : Int) ≤ (dP x pos : Int) := by omega
      have hp1 : (dP x pos : Int) ≤ 1114111 := by omega
      have hnx : ∀ ty, (Instr.next (.pointer (some ⟨w.heap.size, 0, none⟩)) true ty).run Try.prog wr = .ok (.tuple #[.bool true, .int .i64 pos, .int .i32 (dP x pos)]) (wr.iterAt w.heap.size x (pos + dN x pos)) := fun ty => Lib.run_next_any_at wr _ x pos ty (unhide HI) hlt
      obtain ⟨w2, hw2⟩ : ∃ w2, wr.iterAt w.heap.size x (pos + dN x pos) = w2 := ⟨_, rfl⟩
      rw [hw2] at hnx
      have HI2 : Hid (w2.heap[w.heap.size]? = some (.stringIter x (pos + dN x pos))) := hide (by rw [← hw2]; exact Lib.iterAt_heap wr _ x pos _ (unhide HI))
      have HB2 : Hid (Below w.heap.size w w2) := hide ((unhide HB).trans (by rw [← hw2]; exact Lib.below_iterAt (Below.refl _ _) (Nat.le_refl _) _ _))
      have CN := hide (fun W => noSmI (dP x pos : Int) hp0 hp1 W)
      clear hw2
      by_cases hs : 97 ≤ bt x pos ∧ bt x pos ≤ 122
      · obtain ⟨e1, e2⟩ := dP_small (s := x) (i := pos) (by omega)
        have hb : (!(decide ((97 : Int) ≤ (dP x pos : Int)) && decide ((dP x pos : Int) ≤ 122))) = false := by
          rw [e1]
          simp
          omega
        have HS2 := hide (smP_next (unhide HS) hs)
        rw [hb] at CN
        rw [e2] at HI2
        have HM2 := hide (iterPos_of (unhide HI2))
        clear hb e1 e2 hbd hp0 hp1 hs
        generalize dP x pos = p at *
        go_wp2_with (go_at_call 28; refine ((unhide CN) _).mono ?_; rintro e w' ⟨rfl, hw⟩; obtain rfl := hw.symm; clear hw)
        go_roundw
        case rel => exact ⟨pos + 1, by omega, HS2, HI2, HB2⟩
        case measure => rw [unhide HM, unhide HM2]; omega
      · have hb : (!(decide ((97 : Int) ≤ (dP x pos : Int)) && decide ((dP x pos : Int) ≤ 122))) = true := by
          by_cases c : bt x pos < 128
          · rw [(dP_small c).1]
            simp
            omega
          · have := dP_big (s := x) (i := pos) (by omega)
            simp
            omega
        have HR := hide (sm_no hlt hs)
        have hp9 : (0 : Int) ≤ (pos : Int) := by omega
        rw [hb] at CN
        clear hb hbd hp0 hp1 hs
        generalize dP x pos = p at *
        go_wp2_with (go_at_call 28; refine ((unhide CN) _).mono ?_; rintro e w' ⟨rfl, hw⟩; obtain rfl := hw.symm; clear hw)
        go_ret
        exact ⟨⟨_, rfl, ⟨fun _ => unhide HR, fun _ => hp9⟩⟩, unhide HB2⟩
    · have hnx : ∀ ty, (Instr.next (.pointer (some ⟨w.heap.size, 0, none⟩)) true ty).run Try.prog wr = .ok (.tuple #[.bool false]) wr := fun ty => Lib.run_next_end_at wr _ x pos ty (unhide HI) hlt
      obtain rfl : pos = x.size := by omega
      have HR := hide (sm_yes (unhide HS))
      go_wp2_with fail
      go_ret
      exact ⟨⟨_, rfl, ⟨fun h => absurd h (by decide), fun h => by rw [unhide HR] at h; cases h⟩⟩, unhide HB⟩
set_option maxRecDepth 100000 in
set_option maxHeartbeats 2000000 in
theorem contI (x : ByteArray) (hx : x.size ≤ 1048576) (w : World) : Calls Try.prog 27 #[.string x, .func (.func 28) #[] #[]] w fun e w' => e = .returned (.bool (!sm x)) ∧ Below w.heap.size w w' := by
  have CS := hide (fun W => sidxI x hx W)
  have CI : Hid (∀ W, Calls Try.prog 34 #[.string x, .func (.func 28) #[] #[]] W fun e w' => (∃ r : Int, e = .returned (.int .i64 r) ∧ (0 ≤ r ↔ sm x = false)) ∧ Below W.heap.size W w') := hide (fun W => by
    go_enter Try.func34, Try.ntmps34
    go_wp2_with (go_at_call 41; refine ((unhide CS) _).mono ?_; rintro e w1 ⟨⟨r, rfl, hr⟩, hb⟩)
    go_ret
    exact ⟨⟨r, rfl, hr⟩, hb⟩)
  clear CS
  cases hs : sm x
  · go_enter Try.func27, Try.ntmps27
    go_wp2_with (go_at_call 34; refine ((unhide CI) _).mono ?_; rintro e w1 ⟨⟨r, rfl, hr⟩, hb⟩; have h0 : (0 : Int) ≤ r := hr.2 hs; clear hr)
    go_ret
    exact ⟨rfl, hb⟩
  · go_enter Try.func27, Try.ntmps27
    go_wp2_with (go_at_call 34; refine ((unhide CI) _).mono ?_; rintro e w1 ⟨⟨r, rfl, hr⟩, hb⟩; have h0 : ¬ (0 : Int) ≤ r := (fun c => by rw [hr.1 c] at hs; cases hs); clear hr)
    go_ret
    refine ⟨?_, hb⟩
    show Ending.returned (.bool (decide (0 ≤ r))) = _
    rw [decide_eq_false (by omega)]
    rfl
/-- A text between the edges of a word. -/
def tx (x : ByteArray) : ByteArray := (⟨#[46]⟩ : ByteArray) ++ x ++ ⟨#[46]⟩
theorem tx_size (x : ByteArray) : (tx x).size = x.size + 2 := by
  unfold tx
  rw [ByteArray.size_append, ByteArray.size_append]
  show 1 + x.size + 1 = _
  omega
theorem bt_lst (s : ByteArray) (i : Nat) (h : i < s.size) : bt s i = (s.data.toList.getD i 0).toNat := by
  obtain ⟨⟨l⟩⟩ := s
  have hj : i < l.length := h
  unfold bt
  show ((⟨l⟩ : Array UInt8)[i]!).toNat = _
  simp [List.getD_eq_getElem?_getD, hj]
theorem tx_letters {x : ByteArray} (h : sm x = true) : ∀ i, i < (tx x).size → ltr (bt (tx x) i : Int) := fun i hi => by
  have hs := of_decide_eq_true h
  have hd : (tx x).data.toList = 46 :: (x.data.toList ++ [46]) := by
    unfold tx
    simp [ByteArray.data_append]
  rw [bt_lst _ _ hi, hd]
  rw [tx_size] at hi
  unfold ltr
  match i with
  | 0 => exact .inr (by simp)
  | j + 1 =>
    by_cases c : j < x.size
    · have h1 := hs j c
      rw [bt_lst _ _ c] at h1
      have c' : j < x.data.toList.length := by rw [Array.length_toList]; exact c
      rw [List.getD_cons_succ, List.getD_eq_getElem?_getD, List.getElem?_append_left c', ← List.getD_eq_getElem?_getD]
      exact .inl (by omega)
    · have c' : x.data.toList.length = x.size := by rw [Array.length_toList]; rfl
      obtain rfl : j = x.size := by omega
      rw [List.getD_cons_succ, List.getD_eq_getElem?_getD, List.getElem?_append_right (by omega), c']
      exact .inr (by simp)
/-- The places with odd digits. -/
def hy (best : List Int) : Nat → List Int
  | 0 => []
  | k + 1 => if ((best.getD (k + 3) 0).tmod 2 == 1) = true then hy best k ++ [((k + 2 : Nat) : Int)] else hy best k
theorem hy_len (best : List Int) (k : Nat) : (hy best k).length ≤ k := by
  induction k with
  | zero => exact Nat.le_refl _
  | succ k ih =>
    rw [hy]
    split
    · rw [List.length_append]; simp; omega
    · omega
def NewRow (w w' : World) (e : Ending) (l : List Int) : Prop := ∃ v, e = .returned v ∧ w'.ownsRow w.heap.size 2 1 v l.length (l.map (Value.int .i64)) ∧ Below w.heap.size w w'
theorem own_baseH {w : World} {B' B : Nat} {e : TypeId} {s : Nat} {v : Value} {n : Nat} {xs : List Value} (h : w.ownsRow B' e s v n xs) (hB : B ≤ B') : w.ownsRow B e s v n xs := by
  refine ⟨h.1, ?_⟩
  rcases h.2 with h' | ⟨g, cp, cur, hv, hg, r⟩
  · exact .inl h'
  · exact .inr ⟨g, cp, cur, hv, Nat.le_trans hB hg, r⟩
theorem owned_allocH {w : World} {base : Nat} {e : TypeId} {v : Value} {n : Nat} {xs : List Value} (h : w.ownsRow base e 1 v n xs) (o : Obj) : (w.alloc o).ownsRow base e 1 v n xs :=
  ownsRow_below h ((Below.refl _ _).alloc (Nat.le_refl _) o)
theorem row_stepH {w wr w2 : World} {base : Nat} {v v' : Value} {L : List Int} {p : Int} {o : Obj} (hb : Below base w wr) (hB : base ≤ wr.heap.size)
    (ho : wr.ownsRow base 2 1 v L.length (L.map (Value.int .i64)))
    (ho2 : w2.ownsRow base 2 1 v' (L.length + 1) (L.map (Value.int .i64) ++ [.int .i64 p])) (hg : (wr.alloc o).grownBy w2 v.ownBlock) :
    w2.ownsRow base 2 1 v' (L ++ [p]).length ((L ++ [p]).map (Value.int .i64)) ∧ Below base w w2 := by
  refine ⟨?_, (hb.alloc hB o).grown hg (by simp; omega) (fun j hj => (ho.lt j hj).1)⟩
  rw [List.length_append, List.map_append]
  exact ho2
theorem form_ownH {w : World} {B n : Nat} {v : Value} {xs : List Value} (h : w.ownsRow B 2 1 v n xs) : ∃ a cap, v = .slice a n cap := by
  rcases h.2 with ⟨rfl, rfl⟩ | ⟨g, cap, cur, rfl, _⟩
  · exact ⟨_, _, rfl⟩
  · exact ⟨_, _, rfl⟩
theorem aa_nn (D : List Nat → Option (List Int)) (h : Dl D) (t : ByteArray) (j : Nat) : 0 ≤ (aa D t t.size).getD j 0 := ((aa_le h t j _ t.size (Nat.le_refl _)).1 (Int.le_refl _)).1
theorem mod2 {d : Int} (h : 0 ≤ d) : 0 ≤ d.tmod 2 ∧ d.tmod 2 < 2 := ⟨Int.tmod_nonneg _ h, Int.tmod_lt_of_pos _ (by decide)⟩
end Hyp
end Go.Proofs.Ytgmpkapeemiecaa
