/- Columns: blanks, as the specification writes them. -/
import Derived.Test.YtnmlfgnnhhaeoaaDoorClmP
import Derived.Test.YtnmlfgnnhhaeoaaDoorClmS
import Derived.Test.YtnmlfgnnhhaeoaaDoorND
import Derived.Lib.BufferRead
namespace Go.Proofs.YtnmlfgnnhhaeoaaDoor
namespace Clm
open Go.RowKit
set_option linter.unusedVariables false
set_option linter.unusedSimpArgs false
theorem info5c : (Tryd.prog.info? 5).map (fun i => (i.zero, i.size, i.bytes)) = some (some (.int .u8 0), 1, 1) := by kernel_rfl
theorem conv_ownC (w : World) (B : Nat) (v : Value) (n : Nat) (zs : List Int) (h : w.ownsRow B 5 1 v n (zs.map (Value.int .u8))) :
    (convert 42 9 v).run Tryd.prog w = .ok (.string (strOfNums zs)) w := by
  have hl : zs.length = n := by simpa using h.1
  rcases h.2 with ⟨rfl, hn⟩ | ⟨g, cap, cur, hv, hg, hh, hn, hm, hs, ht⟩
  · obtain rfl : zs = [] := List.length_eq_zero_iff.1 (by omega)
    exact Lib.run_convert_nil_bytes w 42 9 5 0 Tryd.underlying42 Tryd.underlying5 Tryd.underlying9
  · subst hv
    refine conv_of w g cap zs n hl fun i hi => ?_
    rw [h.cellAt i (by omega), List.getElem?_map]
    simp [List.getD, show i < zs.length by omega]
theorem str_bla (k : Nat) : strOfNums (List.replicate k 32) = bla k := by
  apply ByteArray.ext
  unfold strOfNums bla
  simp
theorem rep_next (k : Nat) : (List.replicate (k + 1) (32 : Int)) = List.replicate k 32 ++ [32] := by
  rw [List.replicate_succ']
set_option maxRecDepth 100000 in
set_option maxHeartbeats 4000000 in
theorem blanksS (n : Nat) (hn : n ≤ 100000) (w : World) : Calls Tryd.prog 13 #[.int .i64 (n : Int)] w fun e w' => e = .returned (.string (bla n)) ∧ Below w.heap.size w w' := by
  obtain ⟨i0, hi, hz0, hz1, hz2⟩ := info_parts info5c
  have O0 : Hid ((w.alloc (.cells #[] 5)).ownsRow w.heap.size 5 1 (.slice (some ⟨w.heap.size, 0, none⟩) 0 0) 0 ((List.replicate 0 (32 : Int)).map (Value.int .u8))) := hide (World.ownsRow_lit w #[] 0 (Nat.le_refl _) (by unfold maxLen; omega) rfl)
  have B0 : Hid (Below w.heap.size w (w.alloc (.cells #[] 5))) := hide ((Below.refl _ _).alloc (Nat.le_refl _) _)
  go_enter Tryd.func13, Tryd.ntmps13
  go_wp2_with fail
  go_loopw [0, 3] (fun v0 v3 wr => ∃ (m k : Nat), v0 = .int .i64 (m : Int) ∧ k + m = n ∧ Hid (wr.ownsRow w.heap.size 5 1 v3 k ((List.replicate k (32 : Int)).map (Value.int .u8))) ∧ Hid (Below w.heap.size w wr)) (fun v _ _ => (intOf v).toNat)
  case atStart => exact ⟨n, 0, rfl, by omega, O0, B0⟩
  case round =>
    obtain ⟨m, k, rfl, hk, HO, HB⟩ := hrel
    obtain ⟨va, vc, rfl⟩ := form_ownC (unhide HO)
    have hsz := (unhide HB).size
    by_cases h0 : 0 < m
    · have hI : (0 : Int) < (m : Int) := by omega
      obtain ⟨q, hq⟩ : ∃ q, m - 1 = q := ⟨_, rfl⟩
      have hqI : (m : Int) - 1 = (q : Int) := by omega
      have hq2 : k + 1 + q = n := by omega
      have hlt : q < m := by omega
      clear hq
      go_wp2_with (at_builtin; refine wpList_append_own _ rfl _ _ 42 rfl w.heap.size 5 i0 (.int .u8 0) 1 1 Tryd.underlying42 hi hz0 hz1 hz2 rfl (by decide) _ _ _ rfl (own_allocC (unhide HO) _) ⟨wr.heap.size, 0, none⟩ 1 1 [.int .u8 32] rfl rfl ?c1 ?c2 ?c3 ?c4 ?c5 ?_)
      case c1 => exact cell_one_new _ _ _
      case c2 => intro u hu; simp at hu; subst hu; rfl
      case c3 => unfold maxLen; omega
      case c4 => omega
      case c5 => simp; omega
      intro v' w3 hown' hgrow _
      have R1 : Hid (w3.ownsRow w.heap.size 5 1 v' (k + 1) ((List.replicate (k + 1) (32 : Int)).map (Value.int .u8))) := hide (by
        rw [rep_next, List.map_append, List.map_replicate]
        exact hown')
      have R2 : Hid (Below w.heap.size w w3) := hide (((unhide HB).alloc hsz _).grown hgrow (by simp; omega) (fun j hj => ((unhide HO).lt j hj).1))
      clear hown' hgrow
      go_wp2_with fail
      go_roundw
      case rel => exact ⟨q, k + 1, rfl, hq2, R1, R2⟩
      case measure => (simp [intOf] <;> omega)
    · obtain rfl : m = 0 := by omega
      obtain rfl : k = n := by omega
      have hI : ¬ (0 : Int) < ((0 : Nat) : Int) := by omega
      have hcv := conv_ownC wr w.heap.size _ _ _ (unhide HO)
      rw [str_bla] at hcv
      go_wp2_with fail
      go_ret
      exact ⟨rfl, unhide HB⟩
end Clm
end Go.Proofs.YtnmlfgnnhhaeoaaDoor
