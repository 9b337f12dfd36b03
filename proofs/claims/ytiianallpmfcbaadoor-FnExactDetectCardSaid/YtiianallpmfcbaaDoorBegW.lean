/- Whether bytes begin a point's writing: the specification's answer. -/
import Derived.Test.YtiianallpmfcbaaDoorBegD
namespace Go.Proofs.YtiianallpmfcbaaDoor
open Go.RowKit
/-- An answer that tells whether the bytes begin a point's writing. -/
def BegB (s : ByteArray) (e : Ending) : Prop := ∃ b, e = .returned (.bool b) ∧ (b = true ↔ Beg s)
theorem begB_false {s : ByteArray} (h : ¬ Beg s) : BegB s (.returned (.bool false)) := ⟨false, rfl, by simp [h]⟩
theorem begB_true {s : ByteArray} (h : Beg s) : BegB s (.returned (.bool true)) := ⟨true, rfl, by simp [h]⟩
/-- What is known of the byte k. -/
def Good (s : ByteArray) (lo hi j : Nat) : Prop := (j = 1 → lo ≤ bt s j ∧ bt s j ≤ hi) ∧ 128 ≤ bt s j ∧ bt s j ≤ 191
def GoodTo (s : ByteArray) (lo hi k : Nat) : Prop := ∀ j, 1 ≤ j → j < k → Good s lo hi j
theorem GoodTo.succ {s : ByteArray} {lo hi k : Nat} (h : GoodTo s lo hi k) (hg : Good s lo hi k) : GoodTo s lo hi (k + 1) := by
  intro j h1 h2
  by_cases e : j = k
  · rw [e]; exact hg
  · exact h j h1 (by omega)
set_option maxHeartbeats 16000000 in
set_option maxRecDepth 100000 in
theorem begins_walk (s : ByteArray) (w : World) (hs : s.size ≤ 1048576) (h0 : s.toList.isEmpty = false) (hp : 0 < s.size) :
    Calls Tryd.prog 40 #[.string s] w fun e w' => BegB s e ∧ w' = w := by
  obtain ⟨lo, hi, most, hL⟩ := lead_any (bt s 0)
  have HL := hide hL
  have b0 := bt_lt s 0
  have f0 : ∀ h, (s[0]'h).toNat = bt s 0 := fun h => bt_get s 0 h
  clear hL
  go_enter Tryd.func40, Tryd.ntmps40
  go_wp2
  all_goals first
    | (go_ret
       refine ⟨begB_false (not_beg (unhide HL) (.inl ?_)), rfl⟩
       have m1 := (unhide HL).m1; have m2 := (unhide HL).m2; have m3 := (unhide HL).m3; have m4 := (unhide HL).m4
       omega)
    | (go_loop [7] (fun i => ∃ k : Nat, 1 ≤ k ∧ k ≤ s.size ∧ i = .int .i64 k ∧ Hid (GoodTo s lo hi k)) (fun i => s.size - (intOf i).toNat)
       case atStart => exact ⟨1, by omega, by omega, rfl, hide (fun j h1 h2 => by omega)⟩
       case round =>
         obtain ⟨k, hk1, hk2, rfl, HG⟩ := hrel
         by_cases hlt : k < s.size
         · have hlt' : (k : Int) < (s.size : Int) := by omega
           have f1 : ∀ h, (s[k]'h).toNat = bt s k := fun h => bt_get s k h
           cases hke : ((k : Int) == 1)
           all_goals
             have hkp : ((k : Int) == 1) = true ↔ k = 1 := by rw [beq_iff_eq]; omega
             rw [hke] at hkp
             have HK := hide hkp
             clear hkp
             go_wp2
             all_goals
               have l1 := (unhide HL).l1; have l2 := (unhide HL).l2; have l3 := (unhide HL).l3; have g1 := (unhide HL).h1; have g2 := (unhide HL).h2; have g3 := (unhide HL).h3
               have hkp := unhide HK
               simp only [Bool.false_eq_true, false_iff, true_iff] at hkp
               try simp only [beq_iff_eq, beq_eq_false_iff_ne, ne_eq] at *
             all_goals first
               | (go_ret
                  refine ⟨begB_false (not_beg (unhide HL) (.inr ⟨k, hk1, hlt, ?_⟩)), rfl⟩
                  intro hg
                  have e1 := hg.1; have e2 := hg.2
                  omega)
               | (have hgk : Good s lo hi k := ⟨fun e => by omega, by omega, by omega⟩
                  go_round
                  case rel => exact ⟨k + 1, by omega, by omega, by go_num, hide ((unhide HG).succ hgk)⟩
                  case measure => simp [intOf]; omega)
         · go_wp2
           go_ret
           have m1 := (unhide HL).m1; have m2 := (unhide HL).m2; have m3 := (unhide HL).m3; have m4 := (unhide HL).m4
           exact ⟨begB_true ⟨lo, hi, most, unhide HL, by omega, fun j h1 h2 => (unhide HG) j h1 (by omega)⟩, rfl⟩)
theorem begins_true (s : ByteArray) (w : World) (hs : s.size ≤ 1048576) (hp : 0 < s.size) (h : Beg s) :
    Calls Tryd.prog 40 #[.string s] w fun e w' => e = .returned (.bool true) ∧ w' = w := by
  refine (begins_walk s w hs ?_ hp).mono ?_
  · rw [ByteArray.toList_eq]
    cases hd : s.data.toList with
    | nil =>
      have h2 : s.data.toList.length = s.size := by simp
      rw [hd] at h2
      have h3 : 0 = s.size := h2
      omega
    | cons a t => rfl
  · rintro e w' ⟨⟨b, rfl, hb⟩, rfl⟩
    exact ⟨by rw [hb.2 h], rfl⟩
theorem begins_false (s : ByteArray) (w : World) (hs : s.size ≤ 1048576) (hp : 0 < s.size) (h : ¬ Beg s) :
    Calls Tryd.prog 40 #[.string s] w fun e w' => e = .returned (.bool false) ∧ w' = w := by
  refine (begins_walk s w hs ?_ hp).mono ?_
  · rw [ByteArray.toList_eq]
    cases hd : s.data.toList with
    | nil =>
      have h2 : s.data.toList.length = s.size := by simp
      rw [hd] at h2
      have h3 : 0 = s.size := h2
      omega
    | cons a t => rfl
  · rintro e w' ⟨⟨b, rfl, hb⟩, rfl⟩
    cases b
    · exact ⟨rfl, rfl⟩
    · exact absurd (hb.1 rfl) h
end Go.Proofs.YtiianallpmfcbaaDoor
