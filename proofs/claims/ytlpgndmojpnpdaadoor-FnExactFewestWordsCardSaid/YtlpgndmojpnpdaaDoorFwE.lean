/- The ends of the words that begin at a place, as the program tells them. -/
import Derived.Test.YtlpgndmojpnpdaaDoorFwI
import Derived.Maps.AppendAt
namespace Go.Proofs.YtlpgndmojpnpdaaDoor
namespace Fw
open Go.RowKit
open Wd (lsB)
set_option linter.unusedVariables false
theorem info3 : (Tryd.prog.info? 3).map (fun i => (i.zero, i.size, i.bytes)) = some (some (.int .i64 0), 1, 8) := by kernel_rfl
/-- The ends of words, in bytes. -/
def eL (s : ByteArray) (W : List ByteArray) (a k : Nat) : List Int := (ek (qq s W a) k).map fun j => ((a + 3 * j : Nat) : Int)
theorem eL_yes {s : ByteArray} {W : List ByteArray} {a k : Nat} (h : qq s W a (k + 1) = true) : eL s W a (k + 1) = eL s W a k ++ [((a + 3 * (k + 1) : Nat) : Int)] := by
  unfold eL
  rw [show ek (qq s W a) (k + 1) = ek (qq s W a) k ++ [k + 1] by show ek (qq s W a) k ++ _ = _; rw [if_pos h], List.map_append]
  rfl
theorem eL_no {s : ByteArray} {W : List ByteArray} {a k : Nat} (h : qq s W a (k + 1) = false) : eL s W a (k + 1) = eL s W a k := by
  unfold eL
  rw [show ek (qq s W a) (k + 1) = ek (qq s W a) k by show ek (qq s W a) k ++ _ = _; rw [if_neg (by rw [h]; simp), List.append_nil]]
theorem eL_len (s : ByteArray) (W : List ByteArray) (a k : Nat) : (eL s W a k).length ≤ k := by
  unfold eL
  rw [List.length_map]
  exact ek_len _ _
set_option maxRecDepth 100000 in
set_option maxHeartbeats 8000000 in
theorem wordEnds_any (v : Value) (W : List ByteArray) (s : ByteArray) (a : Nat) (w : World) (hv : StrsAt w v W) (hW : Wr W) (hs : s.size ≤ 65536) (ha : a ≤ s.size) :
    Calls Tryd.prog 32 #[v, .string s, .int .i64 (a : Int)] w fun e w' => ∃ v', e = .returned v' ∧ w'.ownsRow w.heap.size 3 1 v' (eL s W a 60).length ((eL s W a 60).map (Value.int .i64)) ∧ Below w.heap.size w w' := by
  obtain ⟨i0, hi, hz0, hz1, hz2⟩ := info_parts info3
  have HV := hide hv
  have HW := hide hW
  have hfew := hW.few
  have CB := hide (fun x V h => bsS v W x V h hW)
  obtain ⟨av, cap, rfl, _⟩ := hv
  have HEND : Hid (∀ K, (∀ k, K < k → qq s W a k = false) → eL s W a 60 = eL s W a K) := hide (fun K h => by unfold eL; rw [ek_end (fun k hk => qq_far hW hk) h])
  clear hW
  have HO0 : Hid (w.ownsRow w.heap.size 3 1 (.slice none 0 0) (eL s W a 0).length ((eL s W a 0).map (Value.int .i64))) := hide (World.ownsRow_nil _ _ _ _)
  go_enter Tryd.func32, Tryd.ntmps32
  go_wp2
  go_loopw [7, 8] (fun v' x wr => ∃ k : Nat, x = .int .i64 ((a + 3 * (k + 1) : Nat) : Int) ∧ a + 3 * k ≤ s.size ∧ Hid (wr.ownsRow w.heap.size 3 1 v' (eL s W a k).length ((eL s W a k).map (Value.int .i64))) ∧ Hid (Below w.heap.size w wr)) (fun _ x _ => s.size + 3 - (intOf x).toNat)
  case atStart => exact ⟨0, by go_num, by omega, HO0, hide (Below.refl _ _)⟩
  case round =>
    obtain ⟨k, rfl, hk, HO, HB⟩ := hrel
    clear HO0
    have hBs := (unhide HB).size
    have hel := eL_len s W a k
    obtain ⟨z, hz⟩ : ∃ z, a + 3 * (k + 1) = z := ⟨_, rfl⟩
    rw [hz]
    by_cases hend : z ≤ s.size
    · have hend' : (z : Int) ≤ (s.size : Int) := by omega
      have haz : (a : Int) ≤ (z : Int) := by omega
      have HQ : Hid (qq s W a (k + 1) = hw W (s.extract a z)) := hide (by unfold qq; rw [hz, decide_eq_true hend, Bool.true_and])
      have HY := hide (fun h => @eL_yes s W a k h)
      rw [hz] at HY
      have HN := hide (fun h => @eL_no s W a k h)
      have HNO : Hid (∀ i, Lb W (s.extract a z) i → (i = W.length ∨ hpf (nthS W i) (s.extract a z) = false) → ∀ j, k + 1 < j → qq s W a j = false) := hide (fun i hl hc j hj => by
        cases e : qq s W a j with
        | false => rfl
        | true =>
          unfold qq at e
          rw [Bool.and_eq_true, hw_iff] at e
          obtain ⟨q1, q2⟩ := lb_pre (unhide HW) hl e.2 (ext_pre (show z ≤ a + 3 * j by omega))
          rcases hc with h1 | h1
          · omega
          · rw [hpf_pre q2] at h1; cases h1)
      have HSAME : Hid (∀ i, Lb W (s.extract a z) i → hw W (s.extract a z) = true → i < W.length ∧ hpf (nthS W i) (s.extract a z) = true) := hide (fun i hl h => by
        rw [lb_mem (unhide HW) hl, decide_eq_true_eq] at h
        exact ⟨h.1, by rw [h.2]; exact hpf_pre (List.prefix_refl _)⟩)
      obtain ⟨x, hx⟩ : ∃ x, s.extract a z = x := ⟨_, rfl⟩
      rw [hx] at HQ HNO HSAME
      have CB1 := hide (fun V h => (unhide CB) x V h)
      generalize hD : hw W x = D at *
      have HZ := hide hz
      have hz3 : (z : Int) + 3 = ((z + 3 : Nat) : Int) := by omega
      have hwz : IntKind.i64.wrap ((z : Int) + 3) = (z : Int) + 3 := by rw [hz3]; exact wrapN (z + 3) (by omega)
      have HR3 : Hid ((z + 3 : Nat) = a + 3 * (k + 1 + 1)) := hide (by omega)
      clear hz hD hz3
      cases D
      · have HE := hide ((unhide HN) (unhide HQ))
        go_upto_region 9 with (go_at_call 38; refine ((unhide CB1) _ ((unhide HV).below (unhide HB))).mono ?_; rintro e w' ⟨i, hl, rfl, hw'⟩; obtain rfl := hw'.symm; clear hw'; have HL := hide hl; have hile := hl.le; clear hl)
        by_cases hil : i < W.length
        · obtain ⟨b, off, cp, he, hbs, hc⟩ := strs_rd (unhide HV) (by omega)
          cases he
          have c1 := ((unhide HB).cell (p := ⟨b, off + i, none⟩) hbs).trans (hc i hil)
          have hil' : (i : Int) < (W.length : Int) := by omega
          have hne : ((i : Int) == (W.length : Int)) = false := by simp; omega
          obtain ⟨y, hy⟩ : ∃ y, nthS W i = y := ⟨_, rfl⟩
          have HNO1 := hide ((unhide HNO) i (unhide HL))
          rw [hy] at c1 HNO1
          have CH := hide (fun V => hpfS y x V)
          generalize hP : hpf y x = P at *
          clear hc hy hP
          cases P
          · have HF := hide ((unhide HEND) (k + 1) ((unhide HNO1) (.inr rfl)))
            go_wp2_with (go_at_call 39; refine ((unhide CH) _).mono ?_; rintro e w' ⟨rfl, hx⟩; obtain rfl := hx.symm; clear hx)
            go_ret
            exact ⟨_, rfl, by rw [unhide HF, unhide HE]; exact unhide HO, unhide HB⟩
          · go_wp2_with (go_at_call 39; refine ((unhide CH) _).mono ?_; rintro e w' ⟨rfl, hx⟩; obtain rfl := hx.symm; clear hx)
            go_roundw
            case rel => exact ⟨k + 1, by rw [← unhide HR3]; go_num, by have := unhide HZ; omega, hide (by rw [unhide HE]; exact unhide HO), HB⟩
            case measure => simp [intOf]; omega
        · have hiw : i = W.length := by omega
          have HF := hide ((unhide HEND) (k + 1) ((unhide HNO) i (unhide HL) (.inl hiw)))
          have hne : ((i : Int) == (W.length : Int)) = true := by simp; omega
          clear hiw
          go_wp2
          go_ret
          exact ⟨_, rfl, by rw [unhide HF, unhide HE]; exact unhide HO, unhide HB⟩
      · have HE := hide ((unhide HY) (unhide HQ))
        obtain ⟨m, hm⟩ : ∃ m, (eL s W a k).length = m := ⟨_, rfl⟩
        rw [hm] at HO hel
        have HM := hide hm
        clear hm
        go_upto_region 9 with (first
          | (go_at_call 38; refine ((unhide CB1) _ ((unhide HV).below (unhide HB))).mono ?_; rintro e w' ⟨i, hl, rfl, hw'⟩; obtain rfl := hw'.symm; clear hw'; have HL := hide hl; have hile := hl.le; clear hl)
          | (at_builtin; refine wpList_append_own _ rfl _ _ 39 rfl w.heap.size 3 i0 (.int .i64 0) 1 8 Tryd.underlying39 hi hz0 hz1 hz2 rfl (by decide) _ _ _ rfl (ownG_alloc (unhide HO) _) ⟨wr.heap.size, 0, none⟩ 1 1 [.int .i64 (z : Int)] rfl rfl ?c1 ?c2 ?c3 ?c4 ?c5 ?_; rotate_left 5; intro v' w4 hown' hgrow hne))
        case c1 => exact cell_one_new _ _ _
        case c2 => first | rfl | (intro u hu; simp at hu; subst hu; rfl)
        case c3 => first | omega | (unfold maxLen; omega)
        case c4 => omega
        case c5 => first | omega | (simp; omega)
        have O4 : Hid (w4.ownsRow w.heap.size 3 1 v' (eL s W a (k + 1)).length ((eL s W a (k + 1)).map (Value.int .i64))) := hide (by rw [unhide HE, List.map_append, List.length_append, unhide HM]; exact hown')
        have B4 : Hid (Below w.heap.size w w4) := hide (((unhide HB).alloc (by omega) _).grown hgrow (by simp; omega) (fun m hm => ((unhide HO).lt m hm).1))
        clear hown' hgrow
        obtain ⟨hil, hpt⟩ := (unhide HSAME) i (unhide HL) (by first | rfl | trivial)
        obtain ⟨b, off, cp, he, hbs, hc⟩ := strs_rd (unhide HV) (by omega)
        cases he
        have c1 := ((unhide B4).cell (p := ⟨b, off + i, none⟩) hbs).trans (hc i hil)
        have hil' : (i : Int) < (W.length : Int) := by omega
        have hne2 : ((i : Int) == (W.length : Int)) = false := by simp; omega
        obtain ⟨y, hy⟩ : ∃ y, nthS W i = y := ⟨_, rfl⟩
        rw [hy] at c1 hpt
        have CH := hide (fun V => hpfS y x V)
        rw [hpt] at CH
        clear hc hy hpt
        go_wp2_with (go_at_call 39; refine ((unhide CH) _).mono ?_; rintro e w' ⟨rfl, hx⟩; obtain rfl := hx.symm; clear hx)
        go_roundw
        case rel => exact ⟨k + 1, by rw [← unhide HR3]; go_num, by have := unhide HZ; omega, O4, B4⟩
        case measure => simp [intOf]; omega
    · have hend' : ¬ (z : Int) ≤ (s.size : Int) := by omega
      have HF := hide ((unhide HEND) k (fun j hj => by unfold qq; rw [decide_eq_false (by omega)]; rfl))
      go_wp2
      go_ret
      exact ⟨_, rfl, by rw [unhide HF]; exact unhide HO, unhide HB⟩
end Fw
end Go.Proofs.YtlpgndmojpnpdaaDoor
