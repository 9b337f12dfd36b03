/- A pattern of hyphens, as the specification reads it. -/
import Derived.Test.YtgmpkapeemiecaaHypP
import Derived.Test.YtgmpkapeemiecaaIntA
import Derived.Test.YtgmpkapeemiecaaAppG
import Derived.Test.YtgmpkapeemiecaaNPts
import Derived.Lib.BufferRead
namespace Go.Proofs.Ytgmpkapeemiecaa
namespace Hyp
open Go.RowKit
set_option linter.unusedVariables false
set_option linter.unusedSimpArgs false
/-- Two rows of the call's own, in blocks apart. -/
structure Dw (B : Nat) (w : World) (e1 e2 : TypeId) (v1 v2 : Value) (n1 n2 : Nat) (X1 X2 : List Value) : Prop where
  o1 : w.ownsRow B e1 1 v1 n1 X1
  o2 : w.ownsRow B e2 1 v2 n2 X2
  d12 : ∀ k, v1.ownBlock = some k → v2.ownBlock ≠ some k
section T
variable {B : Nat} {w w1 w2 : World} {e1 e2 : TypeId} {v1 v2 v' : Value} {n1 n2 : Nat} {X1 X2 : List Value}
theorem own_atD {w w' : World} {B : Nat} {e : TypeId} {s : Nat} {v : Value} {n : Nat} {xs : List Value} (h : w.ownsRow B e s v n xs) (hs : ∀ k, v.ownBlock = some k → w'.heap[k]? = w.heap[k]?) : w'.ownsRow B e s v n xs := by
  refine ⟨h.1, ?_⟩
  rcases h.2 with h' | ⟨g, cap, cur, hv, hg, hh, r⟩
  · exact .inl h'
  · exact .inr ⟨g, cap, cur, hv, hg, (hs g (by rw [hv]; rfl)).trans hh, r⟩
theorem Dw.below (h : Dw B w e1 e2 v1 v2 n1 n2 X1 X2) (hb : Below w.heap.size w w1) : Dw B w1 e1 e2 v1 v2 n1 n2 X1 X2 :=
  ⟨own_atD h.o1 (fun k e => hb.block k (h.o1.lt k e).2), own_atD h.o2 (fun k e => hb.block k (h.o2.lt k e).2), h.d12⟩
theorem Dw.alloc (h : Dw B w e1 e2 v1 v2 n1 n2 X1 X2) (o : Obj) : Dw B (w.alloc o) e1 e2 v1 v2 n1 n2 X1 X2 := h.below ((Below.refl _ _).alloc (Nat.le_refl _) _)
theorem Dw.app1 (h : Dw B w e1 e2 v1 v2 n1 n2 X1 X2) (x : Value) (ho : w2.ownsRow B e1 1 v' (n1 + 1) (X1 ++ [x])) (hg : w.grownBy w2 v1.ownBlock) (hk : ∀ k, v'.ownBlock = some k → v1.ownBlock = some k ∨ w.heap.size ≤ k) : Dw B w2 e1 e2 v' v2 (n1 + 1) n2 (X1 ++ [x]) X2 := by
  refine ⟨ho, own_atD h.o2 (fun k e => ?_), fun k e e2 => ?_⟩
  · exact hg.block k (h.o2.lt k e).2 (fun e3 => h.d12 k e3.symm e)
  · rcases hk k e with e3 | e3
    · exact h.d12 k e3 e2
    · have := (h.o2.lt k e2).2; omega
theorem Dw.app2 (h : Dw B w e1 e2 v1 v2 n1 n2 X1 X2) (x : Value) (ho : w2.ownsRow B e2 1 v' (n2 + 1) (X2 ++ [x])) (hg : w.grownBy w2 v2.ownBlock) (hk : ∀ k, v'.ownBlock = some k → v2.ownBlock = some k ∨ w.heap.size ≤ k) : Dw B w2 e1 e2 v1 v' n1 (n2 + 1) X1 (X2 ++ [x]) := by
  refine ⟨own_atD h.o1 (fun k e => ?_), ho, fun k e e2 => ?_⟩
  · exact hg.block k (h.o1.lt k e).2 (fun e3 => h.d12 k e e3.symm)
  · rcases hk k e2 with e3 | e3
    · exact h.d12 k e e3
    · have := (h.o1.lt k e).2; omega
theorem Dw.set2 {g cap : Nat} (h : Dw B w e1 e2 v1 (.slice (some ⟨g, 0, none⟩) n2 cap) n1 n2 X1 X2) (i : Nat) (x : Value) : Dw B (w.setCell ⟨g, i, none⟩ x) e1 e2 v1 (.slice (some ⟨g, 0, none⟩) n2 cap) n1 n2 X1 (X2.set i x) := by
  refine ⟨own_atD h.o1 (fun k e => ?_), (h.o2.stored i x).1, h.d12⟩
  exact Below.heap_setCell _ _ _ _ (fun e3 => h.d12 k e (by show some g = some k; rw [e3]))
end T
theorem row_frm {w : World} {B n : Nat} {e : TypeId} {v : Value} {xs : List Value} (h : w.ownsRow B e 1 v n xs) : ∃ a cap, v = .slice a n cap ∧ (0 < n → ∃ b, a = some ⟨b, 0, none⟩ ∧ B ≤ b) := by
  rcases h.2 with ⟨rfl, h0⟩ | ⟨g, cap, cur, rfl, hb, _⟩
  · exact ⟨none, 0, by rw [h0], fun h => by omega⟩
  · exact ⟨_, cap, rfl, fun _ => ⟨g, rfl, hb⟩⟩
theorem conv_own (w : World) (B : Nat) (v : Value) (n : Nat) (zs : List Int) (h : w.ownsRow B 5 1 v n (zs.map (Value.int .u8))) :
    (convert 53 9 v).run Try.prog w = .ok (.string (strOfNums zs)) w := by
  have hl : zs.length = n := by simpa using h.1
  rcases h.2 with ⟨rfl, hn⟩ | ⟨g, cap, cur, hv, hg, hh, hn, hm, hs, ht⟩
  · obtain rfl : zs = [] := List.length_eq_zero_iff.1 (by omega)
    exact Lib.run_convert_nil_bytes w 53 9 5 0 Try.underlying53 Try.underlying5 Try.underlying9
  · subst hv
    refine conv_of w g cap zs n hl fun i hi => ?_
    rw [h.cellAt i (by omega), List.getElem?_map]
    simp [List.getD, show i < zs.length by omega]
theorem info5h : (Try.prog.info? 5).map (fun i => (i.zero, i.size, i.bytes)) = some (some (.int .u8 0), 1, 1) := by kernel_rfl
theorem pr_add {t : ByteArray} {i : Nat} {s : St} (h : pr t i = some s) {c : Int} (hc : (bt t i : Int) = c) : pr t (i + 1) = stp s c := by rw [pr_next h, hc]
def u8s (L : List Int) : List Value := L.map (Value.int .u8)
def i64s (L : List Int) : List Value := L.map (Value.int .i64)
set_option maxRecDepth 100000 in
set_option maxHeartbeats 8000000 in
theorem patS (t : ByteArray) (ht : t.size ≤ 1048576) (w : World) : Calls Try.prog 22 #[.string t] w fun e w' =>
    (∃ X v, e = .returned (.tuple #[.string X, v, .bool (right t)]) ∧ (right t = true → ∀ s, pat t = some s → X = strOfNums s.L ∧ w'.ownsRow w.heap.size 2 1 v (s.D.length + 1) (i64s (s.D ++ [s.d])))) ∧ Below w.heap.size w w' := by
  obtain ⟨i0, hi, hz0, hz1, hz2⟩ := info_parts info5h
  obtain ⟨j0, hj, hy0, hy1, hy2⟩ := info_parts info2
  have HT0 := hide (fun i (h : i ≤ t.size) (h2 : pr t i = none) => right_none h h2)
  have HT1 := hide (fun s (h : pr t t.size = some s) => right_some h)
  have HT2 := hide (fun s (h : pat t = some s) => pat_pr h)
  go_enter Try.func22, Try.ntmps22
  go_wp2
  obtain ⟨w1, hw1⟩ : ∃ w1, w1 = (w.alloc (.cells #[] 5)).alloc (.cells #[.int .i64 0] 2) := ⟨_, rfl⟩
  have h0 : Hid (Dw w.heap.size w1 5 2 (.slice (some ⟨w.heap.size, 0, none⟩) 0 0) (.slice (some ⟨w.heap.size + 1, 0, none⟩) 1 1) 0 1 (u8s ([] : List Int)) (i64s (([] : List Int) ++ [0]))) := hide (by
    rw [hw1]
    have hz : (w.alloc (.cells #[] 5)).heap.size = w.heap.size + 1 := by simp
    refine ⟨?_, ?_, fun k e e2 => ?_⟩
    · exact ownsRow_below (World.ownsRow_lit w #[] 0 (Nat.le_refl _) (by unfold maxLen; omega) rfl) ((Below.refl _ _).alloc (Nat.le_refl _) _)
    · have := World.ownsRow_lit (w.alloc (.cells #[] 5)) (e := 2) (size := 1) #[.int .i64 0] 1 (base := w.heap.size) (by omega) (by unfold maxLen; omega) rfl
      rw [hz] at this
      exact this
    · have : w.heap.size = k := by injection e
      have : w.heap.size + 1 = k := by injection e2
      omega)
  have b0 : Hid (Below w.heap.size w w1) := hide (by rw [hw1]; exact ((Below.refl _ _).alloc (Nat.le_refl _) _).alloc (by simp) _)
  have hl1 : 0 < w1.heap.size := by rw [hw1]; simp
  try rw [← hw1]
  clear hw1
  go_loopw [5, 6, 7, 8] (fun v5 v6 v7 v8 wr => ∃ (i : Nat) (s : St), i ≤ t.size ∧ v8 = .int .i64 (i : Int) ∧ v7 = .bool s.b ∧ Hid (pr t i = some s) ∧ Hid (Dw w.heap.size wr 5 2 v5 v6 s.L.length (s.L.length + 1) (u8s s.L) (i64s (s.D ++ [s.d]))) ∧ Hid (Below w.heap.size w wr)) (fun _ _ _ x _ => t.size - (intOf x).toNat)
  case atStart => exact ⟨0, ⟨[], [], 0, false⟩, by omega, rfl, rfl, hide rfl, h0, b0⟩
  case round =>
    obtain ⟨i, s, hi2, rfl, rfl, HP, HD, HB⟩ := hrel
    have hHD := unhide HD
    obtain ⟨a5, c5, rfl, hb5⟩ := row_frm hHD.o1
    obtain ⟨a6, c6, rfl, hb6⟩ := row_frm hHD.o2
    have o := pr_ok (unhide HP)
    have hL1 := o.le
    have hL2 := o.len
    have d0 := o.d0
    have d9 := o.d9
    have ok := hide o
    have eL : (u8s s.L).length = s.L.length := by simp [u8s]
    have eD : (i64s (s.D ++ [s.d])).length = s.L.length + 1 := by simp [i64s, hL2]
    obtain ⟨g6, rfl, hg6⟩ := hb6 (by omega)
    have cl : wr.cell? ⟨g6, s.L.length, none⟩ = some (.int .i64 s.d) := by
      have := hHD.o2.cellAt s.L.length (by simp [i64s, hL2])
      rw [this]
      simp [i64s, ← hL2]
    have clf := hHD.o2.frozenAt s.L.length
    clear hHD hb6 o
    by_cases hlt : i < t.size
    · have hI : (i : Int) < (t.size : Int) := by omega
      have hx : ∀ h, (((t[i]'h).toNat : Nat) : Int) = (bt t i : Int) := fun h => by rw [bt_get]
      have hc256 : (bt t i : Int) < 256 := by have := bt_lt t i; omega
      have hc0 : (0 : Int) ≤ (bt t i : Int) := by omega
      have HN := hide (fun (s2 : Option St) (h : stp s (bt t i : Int) = s2) => show pr t (i + 1) = s2 by rw [pr_next (unhide HP), h])
      have hsub : ((s.L.length : Int) + 1) - 1 = (s.L.length : Int) := by omega
      generalize (bt t i : Int) = c at *
      have HST : Hid (stp s c = if 49 ≤ c ∧ c ≤ 57 ∧ s.d = 0 then some ⟨s.L, s.D, c - 48, true⟩ else if (97 ≤ c ∧ c ≤ 122) ∨ c = 46 then some ⟨s.L ++ [c], s.D ++ [s.d], 0, s.b⟩ else none) := hide rfl
      by_cases q1 : 49 ≤ c
      · by_cases q2 : c ≤ 57
        · by_cases q3 : s.d = 0
          · have t3 : (s.d == 0) = true := by simpa using q3
            have HR := hide ((unhide HN) _ ((unhide HST).trans (if_pos ⟨q1, q2, q3⟩)))
            have hw8 : IntKind.u8.wrap (c - 48) = c - 48 := by simp [IntKind.wrap, IntKind.bits, IntKind.signed]; omega
            have D2 := hide ((unhide HD).set2 s.L.length (.int .i64 (c - 48)))
            have B2 : Hid (Below w.heap.size w (wr.setCell ⟨g6, s.L.length, none⟩ (.int .i64 (c - 48)))) := hide ((unhide HB).setCell (p := ⟨g6, s.L.length, none⟩) hg6 _)
            have eX : (i64s (s.D ++ [s.d])).set s.L.length (.int .i64 (c - 48)) = i64s (s.D ++ [c - 48]) := by
              unfold i64s
              rw [List.map_append, List.set_append, if_neg (by simp [hL2])]
              simp [hL2]
            rw [eX] at D2
            clear eX HST HN HP
            go_wp2_with fail
            go_roundw
            case rel => exact ⟨i + 1, _, by omega, by go_num, rfl, HR, D2, B2⟩
            case measure => simp [intOf]; omega
          · have t3 : (s.d == 0) = false := by simpa using q3
            have HR := hide ((unhide HT0) _ (by omega) ((unhide HN) _ ((unhide HST).trans ((if_neg (fun h => q3 h.2.2)).trans (if_neg (by omega))))))
            have r1 : ¬ 97 ≤ c := by omega
            have r2 : (c == 46) = false := by rw [beq_eq_false_iff_ne]; omega
            clear HST HN
            go_wp2_with fail
            go_ret3
            exact ⟨⟨⟨#[]⟩, .slice none 0 0, by rw [unhide HR] <;> rfl, fun h => by rw [unhide HR] at h; cases h⟩, unhide HB⟩
        · by_cases r1 : 97 ≤ c ∧ c ≤ 122
          · obtain ⟨r1, r1'⟩ := r1
            have HR := hide ((unhide HN) _ ((unhide HST).trans ((if_neg (by omega)).trans (if_pos (.inl ⟨r1, r1'⟩)))))
            clear HST HN
            go_wp2_with (at_builtin; go_loud (refine wpList_appG _ rfl _ _ 53 rfl w.heap.size 5 i0 (.int .u8 0) 1 1 Try.underlying53 hi hz0 hz1 hz2 rfl (by decide) _ _ _ rfl ((unhide HD).alloc _).o1 ⟨wr.heap.size, 0, none⟩ 1 1 [.int .u8 c] rfl rfl (cell_one_new _ _ _) (by intro u hu; simp at hu; subst hu; rfl) (by unfold maxLen; omega) (by omega) (by simp; have := (unhide HB).size; omega) ?_))
            intro v5 w3 hown' hgrow hblk
            have D3 := hide (((unhide HD).alloc (.cells #[.int .u8 c] 5)).app1 (.int .u8 c) hown' hgrow (by simpa using hblk))
            have B3 := hide (((unhide HB).alloc (unhide HB).size (.cells #[.int .u8 c] 5)).grown hgrow (by simp; have := (unhide HB).size; omega) (fun m hm => ((unhide HD).o1.lt m hm).1))
            clear hown' hgrow hblk
            go_wp2_with (at_builtin; go_loud (refine wpList_appG _ rfl _ _ 28 rfl w.heap.size 2 j0 (.int .i64 0) 1 8 Try.underlying28 hj hy0 hy1 hy2 rfl (by decide) _ _ _ rfl ((unhide D3).alloc _).o2 ⟨w3.heap.size, 0, none⟩ 1 1 [.int .i64 0] rfl rfl (cell_one_new _ _ _) (by intro u hu; simp at hu; subst hu; rfl) (by unfold maxLen; omega) (by omega) (by simp; have := (unhide B3).size; omega) ?_))
            intro v6 w4 hown' hgrow hblk
            have D4 := hide (((unhide D3).alloc (.cells #[.int .i64 0] 2)).app2 (.int .i64 0) hown' hgrow (by simpa using hblk))
            have B4 := hide (((unhide B3).alloc (unhide B3).size (.cells #[.int .i64 0] 2)).grown hgrow (by simp; have := (unhide B3).size; omega) (fun m hm => ((unhide D3).o2.lt m hm).1))
            clear hown' hgrow hblk
            obtain ⟨a7, c7, rfl, _⟩ := row_frm (unhide D4).o1
            obtain ⟨a8, c8, rfl, _⟩ := row_frm (unhide D4).o2
            go_wp2
            go_roundw
            case rel =>
              exact ⟨i + 1, ⟨s.L ++ [c], s.D ++ [s.d], 0, s.b⟩, by omega, by go_num, rfl, HR, (by simpa [u8s, i64s] using D4), B4⟩
            case measure => simp [intOf]; omega
          · by_cases r2 : c = 46
            · have t2 : (c == 46) = true := by simpa using r2
              have HR := hide ((unhide HN) _ ((unhide HST).trans ((if_neg (by omega)).trans (if_pos (.inr r2)))))
              have r3 : ¬ 97 ≤ c := by omega
              clear r2 r1
              clear HST HN
              go_wp2_with (at_builtin; go_loud (refine wpList_appG _ rfl _ _ 53 rfl w.heap.size 5 i0 (.int .u8 0) 1 1 Try.underlying53 hi hz0 hz1 hz2 rfl (by decide) _ _ _ rfl ((unhide HD).alloc _).o1 ⟨wr.heap.size, 0, none⟩ 1 1 [.int .u8 c] rfl rfl (cell_one_new _ _ _) (by intro u hu; simp at hu; subst hu; rfl) (by unfold maxLen; omega) (by omega) (by simp; have := (unhide HB).size; omega) ?_))
              intro v5 w3 hown' hgrow hblk
              have D3 := hide (((unhide HD).alloc (.cells #[.int .u8 c] 5)).app1 (.int .u8 c) hown' hgrow (by simpa using hblk))
              have B3 := hide (((unhide HB).alloc (unhide HB).size (.cells #[.int .u8 c] 5)).grown hgrow (by simp; have := (unhide HB).size; omega) (fun m hm => ((unhide HD).o1.lt m hm).1))
              clear hown' hgrow hblk
              go_wp2_with (at_builtin; go_loud (refine wpList_appG _ rfl _ _ 28 rfl w.heap.size 2 j0 (.int .i64 0) 1 8 Try.underlying28 hj hy0 hy1 hy2 rfl (by decide) _ _ _ rfl ((unhide D3).alloc _).o2 ⟨w3.heap.size, 0, none⟩ 1 1 [.int .i64 0] rfl rfl (cell_one_new _ _ _) (by intro u hu; simp at hu; subst hu; rfl) (by unfold maxLen; omega) (by omega) (by simp; have := (unhide B3).size; omega) ?_))
              intro v6 w4 hown' hgrow hblk
              have D4 := hide (((unhide D3).alloc (.cells #[.int .i64 0] 2)).app2 (.int .i64 0) hown' hgrow (by simpa using hblk))
              have B4 := hide (((unhide B3).alloc (unhide B3).size (.cells #[.int .i64 0] 2)).grown hgrow (by simp; have := (unhide B3).size; omega) (fun m hm => ((unhide D3).o2.lt m hm).1))
              clear hown' hgrow hblk
              obtain ⟨a7, c7, rfl, _⟩ := row_frm (unhide D4).o1
              obtain ⟨a8, c8, rfl, _⟩ := row_frm (unhide D4).o2
              go_wp2
              go_roundw
              case rel =>
                exact ⟨i + 1, ⟨s.L ++ [c], s.D ++ [s.d], 0, s.b⟩, by omega, by go_num, rfl, HR, (by simpa [u8s, i64s] using D4), B4⟩
              case measure => simp [intOf]; omega
            · have t2 : (c == 46) = false := by simpa using r2
              have HR := hide ((unhide HT0) _ (by omega) ((unhide HN) _ ((unhide HST).trans ((if_neg (by omega)).trans (if_neg (by omega))))))
              by_cases r3 : 97 ≤ c
              · have r4 : ¬ c ≤ 122 := by omega
                clear HST HN
                go_wp2_with fail
                go_ret3
                exact ⟨⟨⟨#[]⟩, .slice none 0 0, by rw [unhide HR] <;> rfl, fun h => by rw [unhide HR] at h; cases h⟩, unhide HB⟩
              · clear HST HN
                go_wp2_with fail
                go_ret3
                exact ⟨⟨⟨#[]⟩, .slice none 0 0, by rw [unhide HR] <;> rfl, fun h => by rw [unhide HR] at h; cases h⟩, unhide HB⟩
      · have r3 : ¬ 97 ≤ c := by omega
        by_cases r2 : c = 46
        · have t2 : (c == 46) = true := by simpa using r2
          have HR := hide ((unhide HN) _ ((unhide HST).trans ((if_neg (by omega)).trans (if_pos (.inr r2)))))
          clear r2
          clear HST HN
          go_wp2_with (at_builtin; go_loud (refine wpList_appG _ rfl _ _ 53 rfl w.heap.size 5 i0 (.int .u8 0) 1 1 Try.underlying53 hi hz0 hz1 hz2 rfl (by decide) _ _ _ rfl ((unhide HD).alloc _).o1 ⟨wr.heap.size, 0, none⟩ 1 1 [.int .u8 c] rfl rfl (cell_one_new _ _ _) (by intro u hu; simp at hu; subst hu; rfl) (by unfold maxLen; omega) (by omega) (by simp; have := (unhide HB).size; omega) ?_))
          intro v5 w3 hown' hgrow hblk
          have D3 := hide (((unhide HD).alloc (.cells #[.int .u8 c] 5)).app1 (.int .u8 c) hown' hgrow (by simpa using hblk))
          have B3 := hide (((unhide HB).alloc (unhide HB).size (.cells #[.int .u8 c] 5)).grown hgrow (by simp; have := (unhide HB).size; omega) (fun m hm => ((unhide HD).o1.lt m hm).1))
          clear hown' hgrow hblk
          go_wp2_with (at_builtin; go_loud (refine wpList_appG _ rfl _ _ 28 rfl w.heap.size 2 j0 (.int .i64 0) 1 8 Try.underlying28 hj hy0 hy1 hy2 rfl (by decide) _ _ _ rfl ((unhide D3).alloc _).o2 ⟨w3.heap.size, 0, none⟩ 1 1 [.int .i64 0] rfl rfl (cell_one_new _ _ _) (by intro u hu; simp at hu; subst hu; rfl) (by unfold maxLen; omega) (by omega) (by simp; have := (unhide B3).size; omega) ?_))
          intro v6 w4 hown' hgrow hblk
          have D4 := hide (((unhide D3).alloc (.cells #[.int .i64 0] 2)).app2 (.int .i64 0) hown' hgrow (by simpa using hblk))
          have B4 := hide (((unhide B3).alloc (unhide B3).size (.cells #[.int .i64 0] 2)).grown hgrow (by simp; have := (unhide B3).size; omega) (fun m hm => ((unhide D3).o2.lt m hm).1))
          clear hown' hgrow hblk
          obtain ⟨a7, c7, rfl, _⟩ := row_frm (unhide D4).o1
          obtain ⟨a8, c8, rfl, _⟩ := row_frm (unhide D4).o2
          go_wp2
          go_roundw
          case rel =>
            exact ⟨i + 1, ⟨s.L ++ [c], s.D ++ [s.d], 0, s.b⟩, by omega, by go_num, rfl, HR, (by simpa [u8s, i64s] using D4), B4⟩
          case measure => simp [intOf]; omega
        · have t2 : (c == 46) = false := by simpa using r2
          have HR := hide ((unhide HT0) _ (by omega) ((unhide HN) _ ((unhide HST).trans ((if_neg (by omega)).trans (if_neg (by omega))))))
          clear HST HN
          go_wp2_with fail
          go_ret3
          exact ⟨⟨⟨#[]⟩, .slice none 0 0, by rw [unhide HR] <;> rfl, fun h => by rw [unhide HR] at h; cases h⟩, unhide HB⟩
    · obtain rfl : i = t.size := by omega
      have HPR := hide (show pr t t.size = some s from unhide HP)
      have HRT := hide ((unhide HT1) s (unhide HP))
      have hcv := conv_own wr _ _ _ s.L (unhide HD).o1
      have hiff := hide (inner_iff s.L)
      have hno := hide (@inner_no s.L)
      have HO : Hid (okP s = (s.b && (decide (1 ≤ s.L.length) && (decide (s.L.length ≤ 20) && !inner s.L)))) := hide rfl
      have hcl : Hid (∀ j, j < s.L.length → wr.cell? ⟨(match a5 with | some x => x.block | none => 0), j, none⟩ = some (.int .u8 (s.L.getD j 0))) := hide (by
        intro j hj
        obtain ⟨b5, rfl, _⟩ := hb5 (by omega)
        have := (unhide HD).o1.cellAt j (by simp [u8s]; omega)
        rw [this]
        simp [u8s, List.getD_eq_getElem?_getD, hj])
      clear cl clf HP
      go_wp2_with fail
      go_loopw [11] (fun v11 wr' => ∃ j : Nat, 1 ≤ j ∧ j ≤ s.L.length + 1 ∧ v11 = .int .i64 (j : Int) ∧ wr' = wr ∧ Hid (∀ i, 1 ≤ i → i < j → i + 1 < s.L.length → s.L.getD i 0 ≠ 46)) (fun x _ => s.L.length + 1 - (intOf x).toNat)
      case atStart => exact ⟨1, by omega, by omega, rfl, rfl, hide (fun i h1 h2 => by omega)⟩
      case round =>
        obtain ⟨j, hj1, hj2, rfl, hwr, HJ⟩ := hrel
        obtain rfl := hwr.symm
        clear hwr
        by_cases q : j + 1 < s.L.length
        · have qI : (j : Int) + 1 < (s.L.length : Int) := by omega
          obtain ⟨b5, rfl, _⟩ := hb5 (by omega)
          have cj := (unhide hcl) j (by omega)
          simp only at cj
          have HJJ := hide ((unhide HJ))
          have HYES := hide (fun (h : s.L.getD j 0 = 46) => show right t = false by
            rw [unhide HRT, unhide HO, (unhide hiff).2 ⟨j, hj1, q, h⟩]
            simp)
          have HNX := hide (fun (h : s.L.getD j 0 ≠ 46) i (h1 : 1 ≤ i) (h2 : i < j + 1) (h3 : i + 1 < s.L.length) => show s.L.getD i 0 ≠ 46 by
            by_cases e : i = j
            · rw [e]; exact h
            · exact (unhide HJ) i h1 (by omega) h3)
          generalize s.L.getD j 0 = c at *
          by_cases e : c = 46
          · have te : (c == 46) = true := by simpa using e
            have HR := hide ((unhide HYES) e)
            clear e
            go_wp2_with fail
            go_ret3
            exact ⟨⟨⟨#[]⟩, .slice none 0 0, by rw [unhide HR] <;> rfl, fun h => by rw [unhide HR] at h; cases h⟩, unhide HB⟩
          · have te : (c == 46) = false := by simpa using e
            have HN2 := hide ((unhide HNX) e)
            clear e
            go_wp2_with fail
            go_roundw
            case rel => exact ⟨j + 1, by omega, by omega, by go_num, by first | rfl | trivial, HN2⟩
            case measure => simp [intOf]; omega
        · have qI : ¬ (j : Int) + 1 < (s.L.length : Int) := by omega
          have hin : Hid (inner s.L = false) := hide ((unhide hno) (fun i h1 h2 => (unhide HJ) i h1 (by omega) h2))
          have HR : Hid (right t = (s.b && (decide (1 ≤ s.L.length) && decide (s.L.length ≤ 20)))) := hide (by rw [unhide HRT, unhide HO, unhide hin]; simp)
          have fin : ∀ x : Bool, (s.b && (decide (1 ≤ s.L.length) && decide (s.L.length ≤ 20))) = x → (∃ X v, Ending.returned (.tuple #[.string (strOfNums s.L), .slice (some ⟨g6, 0, none⟩) (s.L.length + 1) c6, .bool x]) = .returned (.tuple #[.string X, v, .bool (right t)]) ∧ (right t = true → ∀ s, pat t = some s → X = strOfNums s.L ∧ wr.ownsRow w.heap.size 2 1 v (s.D.length + 1) (i64s (s.D ++ [s.d])))) ∧ Below w.heap.size w wr := by
            intro x hx
            refine ⟨⟨_, _, by rw [unhide HR, hx], fun h s2 h2 => ?_⟩, unhide HB⟩
            have h3 := ((unhide HT2) s2 h2).1
            rw [unhide HPR] at h3
            obtain rfl := Option.some.inj h3
            refine ⟨rfl, ?_⟩
            have := (unhide HD).o2
            rw [hL2]
            exact this
          have FIN := hide fin
          clear fin HRT HO hiff hno hcl HR HPR HT0 HT1
          generalize s.b = bb at *
          cases bb
          · have H1 := hide ((unhide FIN) false rfl)
            clear FIN
            go_wp2_with fail
            go_ret3
            exact unhide H1
          · by_cases z1 : 1 ≤ s.L.length
            · have zI : (1 : Int) ≤ (s.L.length : Int) := by omega
              by_cases z2 : s.L.length ≤ 20
              · have zJ : (s.L.length : Int) ≤ 20 := by omega
                have H1 := hide ((unhide FIN) true (by simp [z1, z2]))
                clear FIN
                go_wp2_with fail
                go_ret3
                exact unhide H1
              · have zJ : ¬ (s.L.length : Int) ≤ 20 := by omega
                have H1 := hide ((unhide FIN) false (by simp; omega))
                clear FIN
                go_wp2_with fail
                go_ret3
                exact unhide H1
            · have zI : ¬ (1 : Int) ≤ (s.L.length : Int) := by omega
              have H1 := hide ((unhide FIN) false (by simp; omega))
              clear FIN
              go_wp2_with fail
              go_ret3
              exact unhide H1
end Hyp
end Go.Proofs.Ytgmpkapeemiecaa
