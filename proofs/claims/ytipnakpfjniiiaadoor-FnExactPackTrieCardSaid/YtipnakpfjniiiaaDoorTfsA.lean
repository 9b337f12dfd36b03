/- Is a trie right? The specification's answer. -/
import Derived.Test.YtipnakpfjniiiaaDoorMA
namespace Go.Proofs.YtipnakpfjniiiaaDoor
open Go.RowKit
theorem box2 (w : World) (x y : Value) (t : TypeId) : (w.alloc (.cells #[x, y] t)).cell? ⟨w.heap.size, 0, none⟩ = some x ∧ (w.alloc (.cells #[x, y] t)).cell? ⟨w.heap.size, 1, none⟩ = some y := by
  constructor <;> simp
theorem DatAt.alloc {w : World} {v : Value} {l : List Int} (h : DatAt w w.heap.size v l) (o : Obj) : DatAt (w.alloc o) (w.alloc o).heap.size v l := by
  obtain ⟨a, cap, e, hc, hd⟩ := h
  refine ⟨a, cap, e, hc, hd.imp_right ?_⟩
  rintro ⟨b, off, e2, hb, hcell⟩
  exact ⟨b, off, e2, by simp; omega, fun i hi => cell_alloc (hcell i hi) o⟩
set_option maxHeartbeats 4000000 in
set_option maxRecDepth 100000 in
theorem specTF (vi vd : Value) (ix dt : List Int) (w : World) (hi : DatAt w w.heap.size vi ix) (hd : DatAt w w.heap.size vd dt) (li : ix.length ≤ 1048576) (ld : dt.length ≤ 1048576) :
    Calls Tryd.prog 51 #[.agg #[vi, vd]] w fun e w' => e = .returned (.int .i64 (trieFault ix dt)) ∧ Below w.heap.size w w' := by
  have HI := hide hi
  have HD := hide hd
  obtain ⟨ai, ci, rfl, _, hx1⟩ := hi
  obtain ⟨ad, cd, rfl, hcap, hx2⟩ := hd
  clear hx1 hx2
  have HB1 : Hid (∀ o, Below w.heap.size w (w.alloc o)) := hide (fun o => (Below.refl _ _).alloc (Nat.le_refl _) o)
  obtain ⟨q, hq⟩ : ∃ q : Nat, dt.length / 64 = q := ⟨_, rfl⟩
  obtain ⟨r, hr⟩ : ∃ r : Nat, dt.length % 64 = r := ⟨_, rfl⟩
  have eq : (dt.length : Int).tdiv 64 = (q : Int) := by rw [Int.tdiv_eq_ediv_of_nonneg (by omega)]; omega
  have er : (dt.length : Int).tmod 64 = (r : Int) := by rw [Int.tmod_eq_emod_of_nonneg (by omega)]; omega
  have hq' : (q : Int) ≤ 16384 := by omega
  by_cases c1 : ix.length = 512
  · have c1' : ((ix.length : Int) != 512) = false := by simp; omega
    by_cases c2 : r = 0
    · have c2' : ((r : Int) != 0) = false := by simp; omega
      by_cases c3 : 512 < q
      · have c3' : (512 : Int) < (q : Int) := by omega
        have HN : Hid (trieFault ix dt = 1) := hide (trie_no3 (by omega))
        have HC := hide c1
        clear hq hr c1 c2
        go_enter Tryd.func51, Tryd.ntmps51
        go_wp2
        go_ret
        exact ⟨ret_int (unhide HN).symm, unhide HB1 _⟩
      · have c3' : ¬ (512 : Int) < (q : Int) := by omega
        have HL : Hid (dt.length = q * 64) := hide (by omega)
        have HC := hide c1
        have HQ := hide hq
        have HR := hide hr
        have HZ := hide c2
        clear hq hr c1 c2
        go_enter Tryd.func51, Tryd.ntmps51
        go_upto_region 4 with fail
        have HBw : Hid (Below w.heap.size w (w.alloc (.cells #[.slice ai ix.length ci, .slice ad dt.length cd] 28))) := hide (unhide HB1 _)
        have b0 := (box2 w (.slice ai ix.length ci) (.slice ad dt.length cd) 28).1
        have b1 := (box2 w (.slice ai ix.length ci) (.slice ad dt.length cd) 28).2
        have HI1 : Hid (DatAt (w.alloc (.cells #[.slice ai ix.length ci, .slice ad dt.length cd] 28)) (w.alloc (.cells #[.slice ai ix.length ci, .slice ad dt.length cd] 28)).heap.size (.slice ai ix.length ci) ix) := hide ((unhide HI).alloc _)
        have HD1 : Hid (DatAt (w.alloc (.cells #[.slice ai ix.length ci, .slice ad dt.length cd] 28)) (w.alloc (.cells #[.slice ai ix.length ci, .slice ad dt.length cd] 28)).heap.size (.slice ad dt.length cd) dt) := hide ((unhide HD).alloc _)
        generalize w.alloc (.cells #[.slice ai ix.length ci, .slice ad dt.length cd] 28) = w1 at *
        clear HI HD HB1
        go_wp2
        go_loopw [4] (fun a wr => ∃ k n : Nat, k ≤ q ∧ a = .int .i64 k ∧ wr = w1.drewN n ∧ Hid (Unlike dt k)) (fun a _ => q - (intOf a).toNat)
        case atStart => exact ⟨0, 0, Nat.zero_le _, rfl, rfl, hide (fun i j a b => by omega)⟩
        case round =>
          obtain ⟨k, n, hk, rfl, rfl, HU⟩ := hrel
          by_cases hlt : k < q
          · have hlt' : (k : Int) < (q : Int) := by omega
            have hlen : 0 < dt.length := by have := unhide HL; omega
            obtain ⟨ad', cap', hv, _, hx⟩ := unhide HD1
            simp only [Value.slice.injEq] at hv
            obtain ⟨rfl, _, rfl⟩ := hv
            rcases hx with e | ⟨b, off, rfl, hbl, hcell⟩
            · rw [e] at hlen; simp at hlen
            have HK := hide (fun i (hi : i < q) cap => (blk_cell (cap := cap) hbl hcell q i (unhide HL) hi).ints (Nat.le_refl _))
            clear hcell
            have hA : (k + 1) * 64 ≤ dt.length := by rw [unhide HL]; exact Nat.mul_le_mul_right 64 hlt
            go_wp2
            go_loopw [5] (fun bb wr => ∃ m n2 : Nat, m ≤ k ∧ bb = .int .i64 m ∧ wr = w1.drewN n2 ∧ Hid (∀ j, j < m → blk dt k ≠ blk dt j)) (fun bb _ => k - (intOf bb).toNat)
            case atStart => exact ⟨0, n, Nat.zero_le _, rfl, rfl, hide (fun j hj => by omega)⟩
            case round =>
              obtain ⟨m, n2, hm, rfl, rfl, HV⟩ := hrel
              by_cases hmk : m < k
              · have hmk' : (m : Int) < (k : Int) := by omega
                have hAm : (m + 1) * 64 ≤ dt.length := Nat.le_trans (Nat.mul_le_mul_right 64 (by omega)) hA
                have ek : (k + 1) * 64 - k * 64 = 64 := by omega
                have em : (m + 1) * 64 - m * 64 = 64 := by omega
                have HCall : Hid (∀ x, Calls Tryd.prog 54 #[.slice (some ⟨b, off + k * 64, none⟩) ((k + 1) * 64 - k * 64) (cd - k * 64), .slice (some ⟨b, off + m * 64, none⟩) ((m + 1) * 64 - m * 64) (cd - m * 64)] ((w1.drewN n2).drewN x) fun e w' => e = .returned (.bool (sameB (blk dt k) (blk dt m))) ∧ ∃ y, w' = ((w1.drewN n2).drewN x).drewN y) := hide (fun x => by
                  rw [ek, em]
                  have i1 := (unhide HK) k hlt (cd - k * 64)
                  have i2 := (unhide HK) m (by omega) (cd - m * 64)
                  have l1 := blk_len dt k q (unhide HL) hlt
                  have l2 := blk_len dt m q (unhide HL) (by omega)
                  exact same_any _ _ _ _ _ ((i1.drewN n2).drewN x) ((i2.drewN n2).drewN x) (by omega) (by omega))
                clear ek em
                have wk1 : IntKind.i64.wrap ((k : Int) * 64) = (k : Int) * 64 := wrap_in _ (by omega) (by omega)
                have wk2 : IntKind.i64.wrap ((k : Int) + 1) = (k : Int) + 1 := wrap_in _ (by omega) (by omega)
                have wk3 : IntKind.i64.wrap (((k : Int) + 1) * 64) = ((k : Int) + 1) * 64 := wrap_in _ (by omega) (by omega)
                have wm1 : IntKind.i64.wrap ((m : Int) * 64) = (m : Int) * 64 := wrap_in _ (by omega) (by omega)
                have wm2 : IntKind.i64.wrap ((m : Int) + 1) = (m : Int) + 1 := wrap_in _ (by omega) (by omega)
                have wm3 : IntKind.i64.wrap (((m : Int) + 1) * 64) = ((m : Int) + 1) * 64 := wrap_in _ (by omega) (by omega)
                have sk1 : (0 : Int) ≤ (k : Int) * 64 := by omega
                have sk2 : (k : Int) * 64 ≤ ((k : Int) + 1) * 64 := by omega
                have sk3 : ((k : Int) + 1) * 64 ≤ (cd : Int) := by omega
                have sk4 : ((k : Int) * 64).toNat = k * 64 := by omega
                have sk5 : (((k : Int) + 1) * 64).toNat = (k + 1) * 64 := by omega
                have sm1 : (0 : Int) ≤ (m : Int) * 64 := by omega
                have sm2 : (m : Int) * 64 ≤ ((m : Int) + 1) * 64 := by omega
                have sm3 : ((m : Int) + 1) * 64 ≤ (cd : Int) := by omega
                have sm4 : ((m : Int) * 64).toNat = m * 64 := by omega
                have sm5 : (((m : Int) + 1) * 64).toNat = (m + 1) * 64 := by omega
                have sk6 : (0 : Int) ≤ ((k : Int) + 1) * 64 := by omega
                have sk7 : (k : Int) ≤ (k : Int) + 1 := by omega
                have sk8 : ¬ cd = k * 64 := by omega
                have sm6 : (0 : Int) ≤ ((m : Int) + 1) * 64 := by omega
                have sm7 : (m : Int) ≤ (m : Int) + 1 := by omega
                have sm8 : ¬ cd = m * 64 := by omega
                have b1' : (w1.drewN n2).cell? ⟨w.heap.size, 1, none⟩ = some (.slice (some ⟨b, off, none⟩) dt.length cd) := b1
                have HBw2 : Hid (Below w.heap.size w (w1.drewN n2)) := hide (bdrew (unhide HBw) _)
                have HW2 : Hid (∀ x, (w1.drewN n2).drewN x = w1.drewN (n2 + x)) := hide (fun x => drewN_add _ _ _)
                generalize w1.drewN n2 = w2 at *
                cases hsb : sameB (blk dt k) (blk dt m)
                · have HV' : Hid (∀ j, j < m + 1 → blk dt k ≠ blk dt j) := hide (fun j hj => by
                    by_cases e : j = m
                    · rw [e]; exact (sameB_not _ _).1 hsb
                    · exact unhide HV j (by omega))
                  rw [hsb] at HCall
                  go_upto_region 10 with fail
                  go_quiet (first | (go_at_call 54; refine Calls.quiet_of ((unhide HCall) _)))
                  go_wp2
                  go_roundw
                  case rel => exact ⟨m + 1, _, by omega, by go_num, unhide HW2 _, HV'⟩
                  case measure => simp [intOf]; omega
                · have HN : Hid (trieFault ix dt = 1) := hide (trie_no4 (fun hu => by rw [unhide HQ] at hu; exact hu m k hmk hlt ((sameB_iff _ _).1 hsb).symm))
                  rw [hsb] at HCall
                  go_upto_region 10 with fail
                  go_quiet (first | (go_at_call 54; refine Calls.quiet_of ((unhide HCall) _)))
                  go_wp2
                  go_ret
                  exact ⟨ret_int (unhide HN).symm, bdrew (unhide HBw2) _⟩
              · obtain rfl : m = k := by omega
                have HU' : Hid (Unlike dt (m + 1)) := hide (fun i j hij hj => by
                  by_cases e : j = m
                  · subst e; exact fun h => unhide HV i hij h.symm
                  · exact unhide HU i j hij (by omega))
                go_wp2
                go_roundw
                case rel => exact ⟨m + 1, n2, by omega, by go_num, rfl, HU'⟩
                case measure => simp [intOf]; omega
          · obtain rfl : k = q := by omega
            go_wp2
            go_loop [6, 7] (fun nx i => ∃ (j : Nat) (m : Int), j ≤ ix.length ∧ 0 ≤ m ∧ m ≤ j ∧ i = .int .i64 j ∧ nx = .int .i64 m ∧ Hid (turns 0 ix = turnAt ix j m)) (fun _ i => ix.length - (intOf i).toNat)
            case atStart => exact ⟨0, 0, Nat.zero_le _, by omega, by omega, rfl, rfl, hide rfl⟩
            case round =>
              obtain ⟨j, m, hj, hm0, hmj, rfl, rfl, HT⟩ := hrel
              by_cases hjl : j < ix.length
              · obtain ⟨ai', cap', hv, _, hx⟩ := unhide HI1
                simp only [Value.slice.injEq] at hv
                obtain ⟨rfl, _, rfl⟩ := hv
                rcases hx with e | ⟨b, off, rfl, hbl, hcell⟩
                · rw [e] at hjl; simp at hjl
                have d1 := hcell j hjl
                have i1 : (j : Int) < (ix.length : Int) := by omega
                have HS := hide (turnAt_step ix j m hjl)
                clear hcell
                generalize nth ix j = x at *
                by_cases q1 : x < 0
                · have HN : Hid (trieFault ix dt = 1) := hide (trie_no5 (by rw [unhide HT, unhide HS, if_pos (.inl q1)]; intro e; cases e))
                  go_wp2
                  go_ret
                  exact ⟨ret_int (unhide HN).symm, bdrew (unhide HBw) _⟩
                · by_cases q2 : m < x
                  · have HN : Hid (trieFault ix dt = 1) := hide (trie_no5 (by rw [unhide HT, unhide HS, if_pos (.inr q2)]; intro e; cases e))
                    go_wp2
                    go_ret
                    exact ⟨ret_int (unhide HN).symm, bdrew (unhide HBw) _⟩
                  · by_cases q3 : x = m
                    · have HN : Hid (turns 0 ix = turnAt ix (j + 1) (m + 1)) := hide (by rw [unhide HT, unhide HS, if_neg (by omega), if_pos q3])
                      subst q3
                      have q3' : (x == x) = true := by simp
                      go_wp2
                      go_round
                      case rel => exact ⟨j + 1, x + 1, by omega, by omega, by omega, by go_num, by go_num, HN⟩
                      case measure => simp [intOf]; omega
                    · have HN : Hid (turns 0 ix = turnAt ix (j + 1) m) := hide (by rw [unhide HT, unhide HS, if_neg (by omega), if_neg q3])
                      have q3' : (x == m) = false := by simpa using q3
                      clear q3
                      go_wp2
                      go_round
                      case rel => exact ⟨j + 1, m, by omega, by omega, by omega, by go_num, by go_num, HN⟩
                      case measure => simp [intOf]; omega
              · have HM : Hid (turns 0 ix = some m) := hide (by rw [unhide HT, turnAt_end ix j m hjl])
                by_cases hmq : m = (k : Int)
                · have HN : Hid (trieFault ix dt = 0) := hide (trieFault_ok ⟨unhide HC, by have := unhide HR; have := unhide HZ; omega, by have := unhide HQ; omega, by rw [unhide HQ]; exact unhide HU, by rw [unhide HQ, unhide HM, hmq]⟩)
                  subst hmq
                  have hmq' : ((k : Int) != (k : Int)) = false := by simp
                  go_wp2
                  go_ret
                  exact ⟨ret_int (unhide HN).symm, bdrew (unhide HBw) _⟩
                · have HN : Hid (trieFault ix dt = 1) := hide (trie_no5 (by rw [unhide HQ, unhide HM]; intro e; injection e with e; exact hmq e))
                  have hmq' : (m != (k : Int)) = true := by simpa using hmq
                  clear hmq
                  go_wp2
                  go_ret
                  exact ⟨ret_int (unhide HN).symm, bdrew (unhide HBw) _⟩
    · have c2' : ((r : Int) != 0) = true := by simp; omega
      have HN : Hid (trieFault ix dt = 1) := hide (trie_no2 (by omega))
      clear hq hr c1 c2
      go_enter Tryd.func51, Tryd.ntmps51
      go_wp2
      go_ret
      exact ⟨ret_int (unhide HN).symm, unhide HB1 _⟩
  · have c1' : ((ix.length : Int) != 512) = true := by simp; omega
    have HN : Hid (trieFault ix dt = 1) := hide (trie_no1 c1)
    clear hq hr c1
    go_enter Tryd.func51, Tryd.ntmps51
    go_wp2
    go_ret
    exact ⟨ret_int (unhide HN).symm, unhide HB1 _⟩
end Go.Proofs.YtipnakpfjniiiaaDoor
