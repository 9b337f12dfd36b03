/- The first line of a text, as the program cuts it off. -/
import Derived.Test.YtklakcnapdhcnaaDoorRdpU
import Derived.Lib.IndexLaws
namespace Go.Proofs.YtklakcnapdhcnaaDoor.Pas
open Go.RowKit
set_option linter.unusedVariables false
/-- Where the line that begins at i ends. -/
def fnl (t : ByteArray) (i : Nat) : Nat := if i < t.size then if bt t i = 10 then i else fnl t (i + 1) else t.size
theorem fnl_end {t : ByteArray} {i : Nat} (h : ¬ i < t.size) : fnl t i = t.size := by rw [fnl, if_neg h]
theorem fnl_at {t : ByteArray} {i : Nat} (h : i < t.size) (h1 : bt t i = 10) : fnl t i = i := by rw [fnl, if_pos h, if_pos h1]
theorem fnl_on {t : ByteArray} {i : Nat} (h : i < t.size) (h1 : ¬ bt t i = 10) : fnl t i = fnl t (i + 1) := by rw [fnl, if_pos h, if_neg h1]
theorem fnl_is (t : ByteArray) (j : Nat) (hj : j ≤ t.size) (hat : j < t.size → bt t j = 10) (n : Nat) : ∀ p, j - p ≤ n → p ≤ j → (∀ k, p ≤ k → k < j → ¬ bt t k = 10) → fnl t p = j := by
  induction n with
  | zero =>
    intro p h1 h2 h3
    obtain rfl : p = j := by omega
    by_cases h : p < t.size
    · exact fnl_at h (hat h)
    · rw [fnl_end h]; omega
  | succ n ih =>
    intro p h1 h2 h3
    by_cases e : p = j
    · subst e
      by_cases h : p < t.size
      · exact fnl_at h (hat h)
      · rw [fnl_end h]; omega
    · rw [fnl_on (by omega) (h3 p (Nat.le_refl _) (by omega))]
      exact ih (p + 1) (by omega) (by omega) (fun k a b => h3 k (by omega) b)
theorem fnl_spec (t : ByteArray) (n : Nat) : ∀ p, t.size - p ≤ n → p ≤ t.size → p ≤ fnl t p ∧ fnl t p ≤ t.size ∧ (∀ k, p ≤ k → k < fnl t p → ¬ bt t k = 10) ∧ (fnl t p < t.size → bt t (fnl t p) = 10) := by
  induction n with
  | zero => intro p h1 h2; rw [fnl_end (by omega)]; exact ⟨h2, Nat.le_refl _, fun k a b => by omega, fun h => by omega⟩
  | succ n ih =>
    intro p h1 h2
    by_cases h : p < t.size
    · by_cases hb : bt t p = 10
      · rw [fnl_at h hb]; exact ⟨Nat.le_refl _, h2, fun k a b => by omega, fun _ => hb⟩
      · rw [fnl_on h hb]
        obtain ⟨a, b, c, d⟩ := ih (p + 1) (by omega) (by omega)
        refine ⟨by omega, b, fun k h3 h4 => ?_, d⟩
        by_cases e : k = p
        · rw [e]; exact hb
        · exact c k (by omega) h4
    · rw [fnl_end h]; exact ⟨h2, Nat.le_refl _, fun k a b => by omega, fun h => by omega⟩
theorem bt_list (s : ByteArray) (k : Nat) (h : k < s.size) : s.data.toList[k]? = some 10 ↔ bt s k = 10 := by
  have e : s.data.toList[k]? = some (s[k]'h) := by simp [ByteArray.getElem_eq_getElem_data]
  rw [e, ← bt_get s k h]
  constructor
  · intro a; rw [Option.some.injEq] at a; rw [a]; rfl
  · intro a; rw [Option.some.injEq]; exact UInt8.toNat_inj.1 a
theorem idx_fnl (t : ByteArray) (p : Nat) (hp : p ≤ t.size) : Lib.indexByte (t.extract p t.size).data.toList 10 = if fnl t p < t.size then ((fnl t p - p : Nat) : Int) else -1 := by
  have hz := ext_size t p
  by_cases hm : Lib.indexByte (t.extract p t.size).data.toList 10 = -1
  · have hno := Lib.indexByte_none hm
    have e : fnl t p = t.size := fnl_is t t.size (Nat.le_refl _) (fun h => by omega) _ p (Nat.le_refl _) hp (fun k h1 h2 h3 => by
      refine hno (k - p) ((bt_list _ _ (by omega)).2 ?_)
      rw [bt_ext t p (k - p) (by omega)]
      rw [← h3]; congr 1; omega)
    rw [hm, e, if_neg (by omega)]
  · obtain ⟨o, ho⟩ : ∃ o : Nat, Lib.indexByte (t.extract p t.size).data.toList 10 = o := ⟨(Lib.indexByte (t.extract p t.size).data.toList 10).toNat, by have := Lib.indexByte_ge (t.extract p t.size).data.toList 10; omega⟩
    obtain ⟨h1, h2⟩ := Lib.indexByte_some ho
    have hol : o < (t.extract p t.size).size := by
      have := (List.getElem?_eq_some_iff.1 h1).1
      simpa using this
    rw [bt_list _ _ hol, bt_ext t p o (by omega)] at h1
    have e : fnl t p = p + o := fnl_is t (p + o) (by omega) (fun _ => h1) _ p (Nat.le_refl _) (by omega) (fun k h3 h4 h5 => by
      refine h2 (k - p) (by omega) ((bt_list _ _ (by omega)).2 ?_)
      rw [bt_ext t p (k - p) (by omega)]
      rw [← h5]; congr 1; omega)
    rw [ho, e, if_pos (by omega)]
    congr 1
    omega
set_option maxRecDepth 100000 in
set_option maxHeartbeats 4000000 in
theorem lix_any (s : ByteArray) (w : World) : Calls Tryd.prog 66 #[.string s, .string ⟨#[10]⟩] w fun e w' => e = .returned (.int .i64 (Lib.indexByte s.data.toList 10)) ∧ w' = w := by
  have C := hide (fun W => sidx_any s 10 W)
  have e10 : ((10 : Int)).toNat.toUInt8 = 10 := rfl
  rw [e10] at C
  by_cases h : s = ⟨#[10]⟩
  · have hE : (([10] : List UInt8) == s.toList) = true := by rw [h, Go.ByteArray.toList_eq]; rfl
    have hi : Lib.indexByte s.data.toList 10 = 0 := by rw [h]; rfl
    rw [hi]
    clear h hi C
    go_enter Tryd.func66, Tryd.ntmps66
    go_wp2
    go_ret
    exact ⟨rfl, rfl⟩
  · have hE : (([10] : List UInt8) == s.toList) = false := by
      rw [beq_eq_false_iff_ne]
      intro e
      exact h (bytes_eqR (by rw [← e, Go.ByteArray.toList_eq]))
    clear h
    generalize Lib.indexByte s.data.toList 10 = q at *
    go_enter Tryd.func66, Tryd.ntmps66
    go_wp2_with (go_at_call 72; refine ((unhide C) _).mono ?_; rintro e w' ⟨rfl, hw⟩; obtain rfl := hw.symm; clear hw)
    go_ret
    exact ⟨rfl, rfl⟩
/-- What is cut off, and what is left. -/
def ctA (t : ByteArray) (p : Nat) : ByteArray := if fnl t p < t.size then t.extract p (fnl t p) else t.extract p t.size
def ctB (t : ByteArray) (p : Nat) : ByteArray := if fnl t p < t.size then t.extract (fnl t p + 1) t.size else ⟨#[]⟩
theorem ext_to (t : ByteArray) (p k : Nat) (h : p + k ≤ t.size) : (t.extract p t.size).extract 0 k = t.extract p (p + k) := by
  rw [ByteArray.extract_extract]; congr 1; omega
set_option maxRecDepth 100000 in
set_option maxHeartbeats 4000000 in
theorem lcut_any (t : ByteArray) (p : Nat) (w : World) (ht : t.size ≤ 1048576) (hp : p ≤ t.size) : Calls Tryd.prog 52 #[.string (t.extract p t.size), .string ⟨#[10]⟩] w fun e w' => e = .returned (.tuple #[.string (ctA t p), .string (ctB t p), .bool (decide (fnl t p < t.size))]) ∧ Below w.heap.size w w' := by
  have C := hide (fun W => lix_any (t.extract p t.size) W)
  rw [idx_fnl t p hp] at C
  obtain ⟨f1, f2, f3, f4⟩ := fnl_spec t _ p (Nat.le_refl _) hp
  unfold ctA ctB
  by_cases h : fnl t p < t.size
  · rw [if_pos h] at C
    rw [if_pos h, if_pos h, decide_eq_true h]
    have e1 := ext_to t p (fnl t p - p) (by omega)
    have e2 := ext_ext t p (fnl t p - p + 1) (by omega)
    rw [show p + (fnl t p - p) = fnl t p by omega] at e1
    rw [show p + (fnl t p - p + 1) = fnl t p + 1 by omega] at e2
    rw [← e1, ← e2]
    have hz := ext_size t p
    have g1 : fnl t p - p + 1 ≤ (t.extract p t.size).size := by omega
    clear e1 e2 f1 f2 f3 f4 h
    generalize fnl t p - p = o at *
    have hsm : (t.extract p t.size).size ≤ 1048576 := by omega
    clear hz
    generalize t.extract p t.size = s at *
    have c1 : (0 : Int) ≤ (o : Int) := by omega
    have c2 : (o : Int) ≤ (s.size : Int) := by omega
    have c3 : (0 : Int) ≤ (o : Int) + 1 := by omega
    have c4 : (o : Int) + 1 ≤ (s.size : Int) := by omega
    have c5 : ((o : Int) + 1).toNat = o + 1 := by omega
    have c6 : IntKind.i64.wrap ((o : Int) + 1) = (o : Int) + 1 := wrap_in _ (by omega) (by omega)
    have mixed : Tryd.prog.follows Departure.mixedOrders = true := by kernel_rfl
    go_enter Tryd.func52, Tryd.ntmps52
    go_wp2_with (go_at_call 66; refine ((unhide C) _).mono ?_; rintro e w' ⟨rfl, hw⟩; obtain rfl := hw.symm; clear hw)
    go_region_o
    go_wp2
    go_ret3
    exact ⟨by first | rfl | (simp [c5]), drewB _⟩
  · rw [if_neg h] at C
    rw [if_neg h, if_neg h, decide_eq_false h]
    clear f1 f2 f3 f4 h
    generalize t.extract p t.size = s at *
    go_enter Tryd.func52, Tryd.ntmps52
    go_wp2_with (go_at_call 66; refine ((unhide C) _).mono ?_; rintro e w' ⟨rfl, hw⟩; obtain rfl := hw.symm; clear hw)
    go_ret3
    exact ⟨rfl, Below.refl _ _⟩
set_option maxHeartbeats 1000000 in
theorem cut_any (t : ByteArray) (p : Nat) (w : World) (ht : t.size ≤ 1048576) (hp : p ≤ t.size) : Calls Tryd.prog 34 #[.string (t.extract p t.size), .string ⟨#[10]⟩] w fun e w' => e = .returned (.tuple #[.string (ctA t p), .string (ctB t p), .bool (decide (fnl t p < t.size))]) ∧ Below w.heap.size w w' := by
  have C := hide (fun W => lcut_any t p W ht hp)
  generalize ctA t p = a at *
  generalize ctB t p = b at *
  generalize decide (fnl t p < t.size) = d at *
  generalize t.extract p t.size = s at *
  go_enter Tryd.func34, Tryd.ntmps34
  go_wp2_with (go_at_call 52; refine ((unhide C) _).mono ?_; rintro e w' ⟨rfl, hb⟩)
  go_ret3
  exact ⟨rfl, hb⟩
end Go.Proofs.YtklakcnapdhcnaaDoor.Pas
