/- Hyphens of a word, as the program tells them: the walk. -/
import Derived.Test.YtgmpkapeemiecaaHypO
namespace Go.Proofs.Ytgmpkapeemiecaa
namespace Hyp
open Go.RowKit
set_option linter.unusedVariables false
set_option linter.unusedSimpArgs false
theorem addE1 (x : ByteArray) (hx : x.size ≤ 1048576) (W : World) : (Op.stringOp .add ⟨#[46]⟩ x).run Try.prog W = .ok (.string ((⟨#[46]⟩ : ByteArray) ++ x)) W :=
  run_string_add_sum W _ _ (by show 1 + x.size ≤ _; omega)
theorem addE2 (x : ByteArray) (hx : x.size ≤ 1048576) (W : World) : (Op.stringOp .add ((⟨#[46]⟩ : ByteArray) ++ x) ⟨#[46]⟩).run Try.prog W = .ok (.string (tx x)) W :=
  run_string_add_sum W _ _ (by rw [ByteArray.size_append]; show 1 + x.size + 1 ≤ _; omega)
theorem wrap8_2 {q : Int} (h0 : 0 ≤ q) (h1 : q < 2) : IntKind.u8.wrap q = q := by
  simp [IntKind.wrap, IntKind.bits, IntKind.signed]
  omega
theorem wrapN (b : Nat) (h : b ≤ 1048576) : wrap64 (b : Int) = (b : Int) := by unfold wrap64; omega
set_option maxRecDepth 100000 in
set_option maxHeartbeats 4000000 in
theorem hyphI (A : Mp) (b0 : Nat) (B : Nat) (d0 : Option (Nat × List Int)) (x : ByteArray) (w : World) (hT : Tr B w A) (h0 : A [] = some (b0, d0)) (hB : B ≤ w.heap.size) (hD : Dl (dgA A)) (hl : sm x = true) (hz : x.size ≤ 65536) :
    Calls Try.prog 29 #[.pointer (some ⟨b0, 0, none⟩), .string x] w fun e w' => NewRow w w' e (hy (aa (dgA A) (tx x) (tx x).size) (x.size - 4)) := by
  obtain ⟨i0, hi, hz0, hz1, hz2⟩ := info_parts info2
  have htz := tx_size x
  have CD := hide (fun W (hb : Below w.heap.size w W) => digitsI A B b0 d0 (tx x) W (hT.below hb) h0 (Nat.le_trans hB hb.size) (tx_letters hl) (by omega))
  have NN := hide (aa_nn (dgA A) hD (tx x))
  have A1 := addE1 x (by omega)
  have A2 := addE2 x (by omega)
  have LB : Hid ((aa (dgA A) (tx x) (tx x).size).length = x.size + 3) := hide (by rw [aa_len, htz])
  clear hT h0 hD hl hB
  rw [htz] at CD
  rw [htz] at NN LB ⊢
  clear htz
  generalize aa (dgA A) (tx x) (x.size + 2) = best at *
  generalize (⟨#[46]⟩ : ByteArray) ++ x = x1 at *
  generalize tx x = t at *
  go_enter Try.func29, Try.ntmps29
  go_wp2_with (go_at_call 36; refine ((unhide CD) _ (Below.refl _ _)).mono ?_; rintro e w5 ⟨⟨g, c, rfl, hg, hgs⟩, hb5⟩)
  have R5 := hide hg
  have B5 := hide hb5
  have hgl : g < w5.heap.size := lt_of_block hg
  have O5 : Hid (w5.ownsRow w5.heap.size 2 1 (.slice none 0 0) ([] : List Int).length (([] : List Int).map (Value.int .i64))) := hide ⟨rfl, .inl ⟨rfl, rfl⟩⟩
  clear hg hb5
  go_loopw [6, 7] (fun v6 v7 wr => ∃ (a k : Nat), v7 = .int .i64 (a : Int) ∧ Hid (a = k + 2) ∧ k ≤ x.size - 4 ∧ Hid (wr.ownsRow w5.heap.size 2 1 v6 (hy best k).length ((hy best k).map (Value.int .i64))) ∧ Hid (Below w5.heap.size w5 wr)) (fun _ v _ => x.size - (intOf v).toNat)
  case atStart => exact ⟨2, 0, rfl, hide rfl, by omega, O5, hide (Below.refl _ _)⟩
  case round =>
    obtain ⟨a, k, rfl, HA, hk, HO, HB⟩ := hrel
    have hhl := hy_len best k
    obtain ⟨va, vc, rfl⟩ := form_ownH (unhide HO)
    have hsz := (unhide HB).size
    by_cases hlt : k < x.size - 4
    · have hI : (a : Int) ≤ (x.size : Int) - 3 := by have := unhide HA; omega
      have ha9 : a ≤ 65536 := by have := unhide HA; omega
      obtain ⟨b, hb⟩ : ∃ b, a + 1 = b := ⟨_, rfl⟩
      have hbI : (a : Int) + 1 = (b : Int) := by omega
      have hb2 : (b : Int) < (x.size : Int) + 2 + 1 := by omega
      have c1 := row_cell (unhide R5) b (by have := unhide HA; rw [unhide LB]; omega)
      have c2 := ((unhide HB).cell (p := ⟨g, b, none⟩) hgl).trans c1
      have hd := (unhide NN) b
      have hm := mod2 hd
      have HX : Hid (hy best (k + 1) = if ((best.getD b 0).tmod 2 == 1) = true then hy best k ++ [(a : Int)] else hy best k) := hide (by rw [hy, ← hb, unhide HA])
      have hw8 := wrap8_2 hm.1 hm.2
      have HA2 : Hid (b = k + 1 + 2) := hide (by have := unhide HA; omega)
      clear c1 hm hd hb
      generalize best.getD b 0 = d at *
      generalize hq : d.tmod 2 = q at *
      cases hq1 : (q == 1)
      · have HX2 : Hid (hy best (k + 1) = hy best k) := hide ((unhide HX).trans (if_neg (by rw [hq1]; decide)))
        go_wp2_with fail
        go_roundw
        case rel => exact ⟨b, k + 1, by go_num, HA2, by omega, hide (by rw [unhide HX2]; exact unhide HO), HB⟩
        case measure => simp [intOf]; omega
      · have HX2 : Hid (hy best (k + 1) = hy best k ++ [(a : Int)]) := hide ((unhide HX).trans (if_pos hq1))
        go_wp2_with (at_builtin; refine wpList_append_own _ rfl _ _ 28 rfl w5.heap.size 2 i0 (.int .i64 0) 1 8 Try.underlying28 hi hz0 hz1 hz2 rfl (by decide) _ _ _ rfl (owned_allocH (unhide HO) _) ⟨wr.heap.size, 0, none⟩ 1 1 [.int .i64 (a : Int)] rfl rfl ?c1 ?c2 ?c3 ?c4 ?c5 ?_)
        case c1 => exact cell_one_new _ _ _
        case c2 => intro u hu; simp at hu; subst hu; rfl
        case c3 => unfold maxLen; omega
        case c4 => omega
        case c5 => simp; omega
        intro v' w3 hown' hgrow _
        have R := row_stepH (unhide HB) hsz (unhide HO) hown' hgrow
        rw [← unhide HX2] at R
        have R1 := hide R.1
        have R2 := hide R.2
        clear hown' hgrow R
        go_wp2_with fail
        go_roundw
        case rel => exact ⟨b, k + 1, by go_num, HA2, by omega, R1, R2⟩
        case measure => simp [intOf]; omega
    · obtain rfl : k = x.size - 4 := by omega
      have hI : ¬ (a : Int) ≤ (x.size : Int) - 3 := by have := unhide HA; omega
      go_wp2_with fail
      go_ret
      exact ⟨_, rfl, own_baseH (unhide HO) (unhide B5).size, (unhide B5).trans ((unhide HB).mono (unhide B5).size)⟩
end Hyp
end Go.Proofs.Ytgmpkapeemiecaa
