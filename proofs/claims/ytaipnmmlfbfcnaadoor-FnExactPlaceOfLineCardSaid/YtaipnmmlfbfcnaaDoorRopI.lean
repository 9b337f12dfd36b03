/- Where a text is cut, how many lines it has: as the program asks. -/
import Derived.Test.YtaipnmmlfbfcnaaDoorRopP
import Derived.Test.YtaipnmmlfbfcnaaDoorShelfD
import Derived.Test.YtaipnmmlfbfcnaaDoorRows
import Derived.Lib.Bytealg
namespace Go.Proofs.YtaipnmmlfbfcnaaDoor.Rop
open Go.RowKit
set_option linter.unusedVariables false
def TabD (w : World) : Prop := Lib.Utf8Tabs (Tryd.laysDec_ren.g 3) (Tryd.laysDec_ren.g 4) w
theorem TabD.below {w w' : World} (h : TabD w) (hb : Below w.heap.size w w') : TabD w' := Utf8Tabs_below h hb
theorem ends_count (t : ByteArray) : Lib.countByte t.data.toList 10 = ends t := by
  unfold Lib.countByte ends
  rw [List.count_eq_countP]
  apply List.countP_congr
  intro x _
  constructor
  · intro h
    rw [beq_iff_eq] at h ⊢
    rw [h]; rfl
  · intro h
    rw [beq_iff_eq] at h ⊢
    exact UInt8.toNat_inj.1 (by rw [h]; rfl)
set_option maxRecDepth 100000 in
theorem countI (t : ByteArray) (w : World) : Calls Tryd.prog 54 #[.string t, .string ⟨#[10]⟩] w fun e w' => e = .returned (.int .i64 (ends t : Int)) ∧ w' = w := by
  have HE := hide (ends_count t)
  go_enter Tryd.func54, Tryd.ntmps54
  go_wp2
  rw [run_callFunc_extern Tryd.func68 (by kernel_rfl) (by kernel_rfl) (by kernel_rfl) (e := Extern.BytealgCount.count) (by kernel_rfl), Lib.run_countString]
  simp only [Result.andThen]
  rw [Oper.upon_value]
  go_wp2
  go_ret
  exact ⟨ret_int (by exact congrArg (Nat.cast (R := Int)) (unhide HE)), rfl⟩
theorem linesI (t : ByteArray) (w : World) : Calls Tryd.prog 35 #[.string t] w fun e w' => e = .returned (.int .i64 (ends t : Int)) ∧ w' = w := by
  have C := hide (countI t w)
  go_enter Tryd.func35, Tryd.ntmps35
  go_wp2_with (go_at_call 54; refine (unhide C).mono ?_; rintro e w' ⟨rfl, hw⟩; obtain rfl := hw.symm; clear hw)
  go_ret
  exact ⟨rfl, rfl⟩
theorem bt_ex (s : ByteArray) (r i : Nat) (h : r + i < s.size) : bt (s.extract r s.size) i = bt s (r + i) := by
  have hz : i < (s.extract r s.size).size := by rw [ByteArray.size_extract]; omega
  rw [← bt_get _ i hz, ← bt_get _ _ h]
  congr 1
  exact ByteArray.getElem_extract ..
theorem dN_ex (s : ByteArray) (r : Nat) (h : r < s.size) : (Lib.decodeGo (s.extract r s.size)).2 = dN s r := by
  have hz : (s.extract r s.size).size = s.size - r := by rw [ByteArray.size_extract]; omega
  have e : Lib.decodeGo (s.extract r s.size) = Utf8.decode (s.extract r s.size) 0 := by
    show (if (s.extract r s.size).size = 0 then (65533, 0) else Utf8.decode (s.extract r s.size) 0) = _
    rw [if_neg (by omega)]
  rw [e]
  unfold dN
  rw [decode_dec, decode_dec, hz, bt_ex s r 0 (by omega)]
  have g : ∀ j, r + j < s.size → bt (s.extract r s.size) (0 + j) = bt s (r + j) := fun j hj => by rw [Nat.zero_add]; exact bt_ex s r j hj
  have o : ∀ j, s.size ≤ r + j → bt (s.extract r s.size) (0 + j) = bt s (r + j) := fun j hj => by
    unfold bt
    show ((s.extract r s.size).data[0 + j]!).toNat = (s.data[r + j]!).toNat
    have h1 : ¬ 0 + j < (s.extract r s.size).data.size := by have : (s.extract r s.size).data.size = (s.extract r s.size).size := rfl; omega
    have h2 : ¬ r + j < s.data.size := by have : s.data.size = s.size := rfl; omega
    rw [getElem!_def, getElem!_def, Array.getElem?_eq_none (by omega), Array.getElem?_eq_none (by omega)]
  have a : ∀ j, bt (s.extract r s.size) (0 + j) = bt s (r + j) := fun j => by
    by_cases c : r + j < s.size
    · exact g j c
    · exact o j (by omega)
  rw [a 1, a 2, a 3]
  have q : ∀ j, (0 + j < s.size - r) = (r + j < s.size) := fun j => propext (by omega)
  unfold dec
  simp only [q, Nat.add_zero]
set_option maxRecDepth 100000 in
set_option maxHeartbeats 1000000 in
theorem winI (s : ByteArray) (p : Nat) (w : World) (hT : TabD w) (hp : p < s.size) (hs : s.size ≤ 65536) :
    Calls Tryd.prog 74 #[.string s, .int .i64 (p : Int)] w fun e w' => e = .returned (.bool (win s p)) ∧ Below w.heap.size w w' := by
  have HT := hide hT
  have CD : Hid (∀ (r : Nat) (W : World), TabD W → r < s.size → Calls Tryd.prog 80 #[.string (s.extract r s.size)] W fun e w' => (∃ q : Int, e = .returned (.tuple #[.int .i32 q, .int .i64 (dN s r : Int)])) ∧ Below W.heap.size W w') := hide (fun r W hW hr => (Any.utf8_DecodeRuneInString Tryd.laysDec (s.extract r s.size) W hW).mono (fun e w' h => ⟨⟨((Lib.decodeGo (s.extract r s.size)).1 : Int), by rw [h.1, dN_ex s r hr]⟩, h.2⟩))
  have HW : Hid (win s p = (winK s p 1 || winK s p 2 || winK s p 3)) := hide rfl
  have HD := hide (dN_ex s)
  clear hT
  go_enter Tryd.func74, Tryd.ntmps74
  go_wp2
  go_loopw [5] (fun bv wr => ∃ b : Nat, 1 ≤ b ∧ b ≤ 4 ∧ bv = .int .i64 (b : Int) ∧ Hid (∀ k, 1 ≤ k → k < b → winK s p k = false) ∧ Hid (Below w.heap.size w wr)) (fun bv _ => (4 - intOf bv).toNat)
  case atStart => exact ⟨1, by omega, by omega, rfl, hide (fun k h1 h2 => by omega), hide (Below.refl _ _)⟩
  case round =>
    obtain ⟨b, b1, b4, rfl, HK, HB⟩ := hrel
    by_cases c4 : b = 4
    · subst c4
      have HF : Hid (win s p = false) := hide (by
        rw [unhide HW, (unhide HK) 1 (by omega) (by omega), (unhide HK) 2 (by omega) (by omega), (unhide HK) 3 (by omega) (by omega)]; rfl)
      have hU : undef = Value.tuple #[] := rfl
      go_wp2
      go_ret
      exact ⟨by rw [unhide HF]; rfl, unhide HB⟩
    by_cases cp : b ≤ p
    · have hlt : (b : Int) < 4 := by omega
      have hle : (b : Int) ≤ (p : Int) := by omega
      have hsub : (p : Int) - (b : Int) = ((p - b : Nat) : Int) := by omega
      have C := hide ((unhide CD) (p - b) wr ((unhide HT).below (unhide HB)) (by omega))
      have hbs := (unhide HB).size
      have hd := dN_all s (p - b)
      by_cases cd : b < dN s (p - b)
      · have HF : Hid (win s p = true) := hide ((win_iff s p).2 ⟨b, b1, by omega, cp, cd⟩)
        generalize dN s (p - b) = d at *
        have hbd : (b : Int) < (d : Int) := by omega
        clear HK HW HD CD
        go_wp2_with (go_at_call 80; refine (unhide C).mono ?_; rintro e w2 ⟨⟨q, rfl⟩, hb2⟩; have B2 := hide hb2; clear hb2)
        go_ret
        exact ⟨by rw [unhide HF]; rfl, (unhide HB).trans ((unhide B2).mono hbs)⟩
      · have HK2 : Hid (∀ k, 1 ≤ k → k < b + 1 → winK s p k = false) := hide (fun k h1 h2 => by
          by_cases e : k = b
          · subst e
            unfold winK
            rw [decide_eq_false cd]; simp
          · exact (unhide HK) k h1 (by omega))
        generalize dN s (p - b) = d at *
        have hbd : ¬ (b : Int) < (d : Int) := by omega
        clear HK HW HD CD
        go_wp2_with (go_at_call 80; refine (unhide C).mono ?_; rintro e w2 ⟨⟨q, rfl⟩, hb2⟩; have B2 := hide hb2; clear hb2)
        go_roundw
        case rel => exact ⟨b + 1, by omega, by omega, by go_num, HK2, hide ((unhide HB).trans ((unhide B2).mono hbs))⟩
        case measure => simp [intOf]; omega
    · have HF : Hid (win s p = false) := hide (by
        cases hw : win s p with
        | false => rfl
        | true =>
          obtain ⟨k, k1, k2, k3, k4⟩ := (win_iff s p).1 hw
          have := (unhide HK) k k1 (by omega)
          unfold winK at this
          rw [decide_eq_true k3, decide_eq_true k4] at this
          cases this)
      have hlt : (b : Int) < 4 := by omega
      have hle : ¬ (b : Int) ≤ (p : Int) := by omega
      clear HK HW HD CD
      go_wp2
      go_ret
      exact ⟨by rw [unhide HF]; rfl, unhide HB⟩
set_option maxRecDepth 100000 in
set_option maxHeartbeats 1000000 in
theorem halfI (s : ByteArray) (w : World) (hT : TabD w) (h64 : 64 < s.size) (hs : s.size ≤ 65536) :
    Calls Tryd.prog 61 #[.string s] w fun e w' => e = .returned (.int .i64 (cut s : Int)) ∧ Below w.heap.size w w' := by
  have HT := hide hT
  have HC : Hid (dn s ((s.size + 1) / 2) = cut s) := hide rfl
  clear hT
  have hq : ((s.size : Int) + 1).tdiv 2 = (((s.size + 1) / 2 : Nat) : Int) := by rw [Int.tdiv_eq_ediv_of_nonneg (by omega)]; omega
  go_enter Tryd.func61, Tryd.ntmps61
  go_wp2
  go_loopw [3] (fun cv wr => ∃ p : Nat, p ≤ (s.size + 1) / 2 ∧ cv = .int .i64 (p : Int) ∧ Hid (dn s p = cut s) ∧ Hid (Below w.heap.size w wr)) (fun cv _ => (intOf cv).toNat)
  case atStart => exact ⟨(s.size + 1) / 2, Nat.le_refl _, by go_num, HC, hide (Below.refl _ _)⟩
  case round =>
    obtain ⟨p, hp, rfl, HN, HB⟩ := hrel
    have hbs := (unhide HB).size
    have C := hide (winI s p wr ((unhide HT).below (unhide HB)) (by omega) hs)
    cases hw : win s p with
    | true =>
      rw [hw] at C
      obtain ⟨k, rfl⟩ : ∃ k, p = k + 1 := by
        cases p with
        | zero => exact absurd hw (by simp [win, winK])
        | succ k => exact ⟨k, rfl⟩
      have HN2 : Hid (dn s k = cut s) := hide (by
        rw [← unhide HN]
        show dn s k = if win s (k + 1) then dn s k else k + 1
        rw [hw]; rfl)
      clear hw HN
      go_wp2_with (go_at_call 74; refine (unhide C).mono ?_; rintro e w2 ⟨rfl, hb2⟩; have B2 := hide hb2; clear hb2)
      go_roundw
      case rel => exact ⟨k, by omega, by go_num, HN2, hide ((unhide HB).trans ((unhide B2).mono hbs))⟩
      case measure => simp [intOf]
    | false =>
      rw [hw] at C
      have HE : Hid (p = cut s) := hide (by
        rw [← unhide HN]
        cases p with
        | zero => rfl
        | succ k =>
          show k + 1 = if win s (k + 1) then dn s k else k + 1
          rw [hw]; rfl)
      clear hw HN
      go_wp2_with (go_at_call 74; refine (unhide C).mono ?_; rintro e w2 ⟨rfl, hb2⟩; have B2 := hide hb2; clear hb2)
      go_ret
      exact ⟨ret_int (by rw [unhide HE]), (unhide HB).trans ((unhide B2).mono hbs)⟩
end Go.Proofs.YtaipnmmlfbfcnaaDoor.Rop
