/- The order of levels, as the specification tells it. -/
import Derived.Test.YtfnaclpkpjembaaBidO
namespace Go.Proofs.Ytfnaclpkpjembaa.Bd
open Go.RowKit
set_option linter.unusedVariables false
/-- What one level's walk over the order asks of the numbers. -/
theorem ord_step (L : List Int) (j : Nat) : ∃ (fl : Nat → Nat) (R : Nat → List Int) (Z : List Int) (ov : Nat → Nat), Trn L.length fl R Z (fun k => nth L k < 20 - (j : Int)) ∧ R 0 = ordK L j ∧ Z = ordK L (j + 1) ∧
    ∀ k, k < L.length → nth (R k) k = (ov k : Int) ∧ ov k < L.length ∧ (20 - (j : Int) ≤ nth L (ov k) ↔ 20 - (j : Int) ≤ nth L k) := by
  refine ⟨_, _, _, fun k => (nth (ordK L j) k).toNat, trn_of L (ordK L j) (20 - (j : Int)), rfl, rfl, fun k hk => ?_⟩
  obtain ⟨q, h1, h2, h3⟩ := ordK_in L j k hk
  have e := trn_out L (20 - (j : Int)) (ordK L j) k k (trn_le _ _ _ _) (by rw [ordK_len]; exact hk)
  have e2 : (nth (ordK L j) k).toNat = q := by rw [h2]; rfl
  simp only [e2]
  exact ⟨e.trans h2, h1, h3⟩
theorem row_step {w wr w1 w2 : World} {base : Nat} {v v' : Value} {L : List Int} {p : Int} {o : Obj} (hb : Below base w wr) (hb1 : Below base wr w1) (hB : base ≤ w1.heap.size)
    (ho : w1.ownsRow base 2 1 v L.length (L.map (Value.int .i64)))
    (ho2 : w2.ownsRow base 2 1 v' (L.length + 1) (L.map (Value.int .i64) ++ [.int .i64 p])) (hg : (w1.alloc o).grownBy w2 v.ownBlock) :
    w2.ownsRow base 2 1 v' (L ++ [p]).length ((L ++ [p]).map (Value.int .i64)) ∧ Below base w w2 := by
  refine ⟨?_, ((hb.trans hb1).alloc hB o).grown hg (by simp; omega) (fun j hj => (ho.lt j hj).1)⟩
  rw [List.length_append, List.map_append]
  exact ho2
theorem owned_alloc {w : World} {base : Nat} {e : TypeId} {v : Value} {n : Nat} {xs : List Value} (h : w.ownsRow base e 1 v n xs) (o : Obj) : (w.alloc o).ownsRow base e 1 v n xs :=
  ownsRow_below h ((Below.refl _ _).alloc (Nat.le_refl _) o)
/-- The places 0, 1 and so on. -/
def upto (k : Nat) : List Int := (List.range k).map fun (i : Nat) => (i : Int)
theorem upto_len (k : Nat) : (upto k).length = k := by simp [upto]
theorem upto_succ (k : Nat) : upto (k + 1) = upto k ++ [(k : Int)] := by simp [upto, List.range_succ]
set_option maxHeartbeats 2000000 in
set_option maxRecDepth 100000 in
theorem l09Order_any (v : Value) (L : List Int) (w : World) (h : IntsAt w v L) (hl : L.length ≤ 1048576) :
    Calls Try.prog 23 #[v] w fun e w' => ∃ sv, e = .returned sv ∧ w'.ownsRow w.heap.size 2 1 sv (ordL L).length ((ordL L).map (Value.int .i64)) ∧ Below w.heap.size w w' := by
  have HV0 : Hid (∀ wr, Below w.heap.size w wr → IntsAt wr v L) := hide (fun wr hb => h.below hb)
  obtain ⟨va, vc, rfl, _⟩ := h
  obtain ⟨n, hn⟩ : ∃ n, n = L.length := ⟨_, rfl⟩
  have HN := hide hn
  rw [← hn] at hl
  rw [← hn]
  clear hn
  obtain ⟨i0, hi, hz0, hz1, hz2⟩ := info_parts info2
  have HO0 : Hid ((w.alloc (.cells #[] 2)).ownsRow w.heap.size 2 1 (.slice (some ⟨w.heap.size, 0, none⟩) 0 0) (upto 0).length ((upto 0).map (Value.int .i64))) := hide (World.ownsRow_lit w #[] 0 (Nat.le_refl _) (by unfold maxLen; omega) rfl)
  have HB0 : Hid (Below w.heap.size w (w.alloc (.cells #[] 2))) := hide ((Below.refl _ _).alloc (Nat.le_refl _) _)
  go_enter Try.func23, Try.ntmps23
  go_wp2
  go_loopw [3, 4] (fun ov iv wr => ∃ (k g cap : Nat), k ≤ n ∧ iv = .int .i64 k ∧ ov = .slice (some ⟨g, 0, none⟩) k cap ∧ Hid (wr.ownsRow w.heap.size 2 1 (.slice (some ⟨g, 0, none⟩) k cap) (upto k).length ((upto k).map (Value.int .i64))) ∧ Hid (Below w.heap.size w wr)) (fun _ i _ => n - (intOf i).toNat)
  case atStart => exact ⟨0, _, 0, Nat.zero_le _, rfl, rfl, HO0, HB0⟩
  case round =>
    obtain ⟨k, g, cap, hk, rfl, rfl, HO, HB⟩ := hrel
    clear HO0 HB0
    have hul := upto_len k
    have hBs := (unhide HB).size
    by_cases hlt : k < n
    · have hlt' : (k : Int) < (n : Int) := by omega
      go_wp2_with (at_builtin; refine wpList_append_own _ rfl _ _ 22 rfl w.heap.size 2 i0 (.int .i64 0) 1 8 Try.underlying22 hi hz0 hz1 hz2 rfl (by decide) _ _ _ rfl (owned_alloc (unhide HO) _) ⟨wr.heap.size, 0, none⟩ 1 1 [.int .i64 (k : Int)] rfl rfl (cell_one_new _ _ _) (by intro u hu; simp at hu; subst hu; rfl) (by unfold maxLen; omega) (by omega) (by simp; omega) ?_)
      intro v' w3 hown' hgrow _
      have hown2 : w3.ownsRow w.heap.size 2 1 v' ((upto k).length + 1) ((upto k).map (Value.int .i64) ++ [.int .i64 (k : Int)]) := by rw [hul]; exact hown'
      have r := row_step (unhide HB) (Below.refl _ _) (by omega) (unhide HO) hown2 hgrow
      rw [← upto_succ] at r
      obtain ⟨g', cap', rfl⟩ := own_pos r.1 (by rw [upto_len]; omega)
      rw [upto_len] at r
      have R1 : Hid (w3.ownsRow w.heap.size 2 1 (.slice (some ⟨g', 0, none⟩) (k + 1) cap') (upto (k + 1)).length ((upto (k + 1)).map (Value.int .i64))) := hide (by rw [upto_len]; exact r.1)
      have R2 := hide r.2
      clear hown' hown2 hgrow r HO HB
      rw [upto_len]
      go_wp2
      go_roundw
      case rel => exact ⟨k + 1, g', cap', by omega, by go_num, rfl, R1, R2⟩
      case measure => simp [intOf]; omega
    · obtain rfl : n = k := by omega
      clear hlt hk hi hz0 hz1 hz2
      have B0 : ∃ B, B = w.heap.size := ⟨_, rfl⟩
      obtain ⟨B, hB⟩ := B0
      have HBB := hide hB
      have H1 : Hid (Rw wr wr B g n cap (ordK L 0)) := hide (by
        have o := unhide HO
        rw [upto_len, ← hB] at o
        refine ⟨?_, grown_refl _ _⟩
        have e : upto n = ordK L 0 := by rw [unhide HN]; rfl
        rw [← e]
        exact o)
      have hgB : w.heap.size ≤ g := by have := (unhide H1).cap; omega
      have HVC : Hid (∀ wq, wr.grownBy wq (some g) → ∀ k, k < n → ∃ b off, va = some ⟨b, off, none⟩ ∧ wq.cell? ⟨b, off + k, none⟩ = some (.int .i64 (nth L k))) := hide (by
        intro wq hg k hk
        obtain ⟨a', vc', ev, hcell⟩ := unhide HV0 wq ((unhide HB).trans (grown_below hg hgB hBs))
        injection ev with e1 e2 e3
        subst e1
        rcases hcell with hnil | ⟨b, off, rfl, hb, hcell⟩
        · have := unhide HN; rw [hnil] at this; simp at this; omega
        · exact ⟨b, off, rfl, hcell k (by rw [← unhide HN]; exact hk)⟩)
      clear HV0 hB hul
      generalize hw1 : wr = w1 at H1 HVC HB
      have H1' : Hid (Rw w1 w1 B g n cap (ordK L 0)) := H1
      have hBs1 : w.heap.size ≤ w1.heap.size := by rw [← hw1]; exact hBs
      clear hw1 H1 HO hBs
      go_wp2
      go_loopw [5] (fun hv wj => ∃ j : Nat, j ≤ 20 ∧ hv = .int .i64 (20 - (j : Int)) ∧ Hid (Rw w1 wj B g n cap (ordK L j))) (fun hv _ => (intOf hv).toNat)
      case atStart => exact ⟨0, Nat.zero_le _, rfl, H1'⟩
      case round =>
        obtain ⟨j, hj, rfl, HO⟩ := hrel
        clear H1'
        by_cases hlt : j < 20
        · have hp : (0 : Int) < 20 - (j : Int) := by omega
          obtain ⟨fl, R, Z, ov, hT, hR0, hZ, hov⟩ := ord_step L j
          rw [← unhide HN] at hT hov
          have T := hide hT
          have OV := hide hov
          have HZ := hide hZ
          have H6 : Hid (Rw w1 wr B g n cap (R 0)) := hide (by rw [hR0]; exact unhide HO)
          clear hT hov hZ hR0 HO
          obtain ⟨hh, ehh⟩ : ∃ hh : Int, hh = 20 - (j : Int) := ⟨_, rfl⟩
          have EHH := hide ehh
          have hh20 : hh ≤ 20 := by omega
          rw [← ehh] at hp T OV
          rw [← ehh]
          clear ehh
          go_wp2
          go_loopw [6] (fun iv wi => ∃ i : Nat, iv = .int .i64 i ∧ ((i ≤ n ∧ i = fl i ∧ Hid (Rw w1 wi B g n cap (R i))) ∨ (i = n + 1 ∧ Hid (Rw w1 wi B g n cap Z)))) (fun iv _ => n + 1 - (intOf iv).toNat)
          case atStart => exact ⟨0, rfl, .inl ⟨Nat.zero_le _, (unhide T).zero.symm, H6⟩⟩
          case round =>
            obtain ⟨i, rfl, hcase⟩ := hrel
            clear H6
            by_cases hin : i < n
            · have hin' : (i : Int) < (n : Int) := by omega
              obtain ⟨FI, SI0⟩ : Hid (i = fl i) ∧ Hid (Rw w1 wr B g n cap (R i)) := by
                rcases hcase with ⟨_, a, b⟩ | ⟨a, _⟩
                · exact ⟨hide a, b⟩
                · omega
              clear hcase
              go_wp2
              go_loopw [7] (fun kv wk => ∃ k : Nat, kv = .int .i64 k ∧ i ≤ k ∧ k ≤ n ∧ Hid (i = fl k) ∧ Hid (Rw w1 wk B g n cap (R k))) (fun kv _ => n - (intOf kv).toNat)
              case atStart => exact ⟨i, rfl, Nat.le_refl _, by omega, FI, SI0⟩
              case round =>
                obtain ⟨k, rfl, hik0, hkn, FK, SK⟩ := hrel
                clear SI0 FI
                by_cases hlt2 : k < n
                · have hlt2' : (k : Int) < (n : Int) := by omega
                  obtain ⟨o1, o2, o3⟩ := unhide OV k hlt2
                  obtain ⟨b, off, rfl, c2⟩ := unhide HVC wr (unhide SK).gr (ov k) o2
                  have c1 := (unhide SK).cell k hlt2
                  rw [o1] at c1
                  have o2' : (ov k : Int) < (n : Int) := by omega
                  clear o1
                  by_cases t : hh ≤ nth L (ov k)
                  · have E := hide ((unhide T).hi k hlt2 (by have := o3.1 t; omega))
                    have FK' : Hid (i = fl (k + 1)) := hide (by rw [(unhide E).1]; exact unhide FK)
                    have SK' : Hid (Rw w1 wr B g n cap (R (k + 1))) := hide (by rw [(unhide E).2]; exact unhide SK)
                    clear E SK FK o3
                    go_wp2
                    go_roundw
                    case rel => exact ⟨k + 1, by go_num, by omega, by omega, FK', SK'⟩
                    case measure => simp [intOf]; omega
                  · have E := hide ((unhide T).lo k hlt2 (by have := mt o3.2 t; omega))
                    clear o3
                    have G1 : Hid (k + 1 = fl (k + 1)) := hide (unhide E).1.symm
                    have G2 : Hid (R (k + 1) = rv (R k) i k) := hide (by rw [(unhide E).2, ← unhide FK])
                    clear E
                    have hik : i ≤ k := by omega
                    have HK : Hid ((R k).length = n) := hide (unhide SK).len
                    have H8 : Hid (Rw w1 wr B g n cap (rvp (R k) i k 0)) := hide (by rw [rvp_zero]; exact unhide SK)
                    clear SK
                    go_wp2
                    go_loopw [8, 9] (fun av bv wq => ∃ s : Nat, (i + s + s ≤ k ∨ s = 0) ∧ av = .int .i64 ((i : Int) + s) ∧ bv = .int .i64 ((k : Int) - 1 - s) ∧ Hid (Rw w1 wq B g n cap (rvp (R k) i k s))) (fun av _ _ => k - (intOf av).toNat)
                    case atStart => exact ⟨0, .inr rfl, by simp, by simp, H8⟩
                    case round =>
                      obtain ⟨s, hs, rfl, rfl, SI⟩ := hrel
                      clear H8
                      by_cases hlt3 : i + s + s + 1 < k
                      · have hlt3' : (i : Int) + s < (k : Int) - 1 - s := by omega
                        have hL := unhide HK
                        have ca := (unhide SI).cell (i + s) (by omega)
                        have cb := (unhide SI).cell (k - 1 - s) (by omega)
                        rw [rvp_lo _ _ _ _ hlt3 (by omega)] at ca
                        rw [rvp_hi _ _ _ _ hlt3 (by omega)] at cb
                        have fa := (unhide SI).frozen (i + s)
                        have s1 := (unhide SI).set (i + s) (nth (R k) (k - 1 - s))
                        have cc := s1.cell (k - 1 - s) (by omega)
                        have fb := s1.frozen (k - 1 - s)
                        have s2 := s1.set (k - 1 - s) (nth (R k) (i + s))
                        rw [rvp_step _ _ _ _ hlt3 (by omega)] at s2
                        have S2 := hide s2
                        clear s1 s2 SI
                        generalize nth (List.set (rvp (R k) i k s) (i + s) (nth (R k) (k - 1 - s))) (k - 1 - s) = u at *
                        generalize nth (R k) (i + s) = x at *
                        generalize nth (R k) (k - 1 - s) = y at *
                        go_wp2
                        go_roundw
                        case rel => exact ⟨s + 1, by omega, by go_num, by go_num, S2⟩
                        case measure => simp [intOf]; omega
                      · have hge3 : ¬ (i : Int) + s < (k : Int) - 1 - s := by omega
                        have S3 : Hid (Rw w1 wr B g n cap (rv (R k) i k)) := hide (by
                          have := unhide SI
                          rw [rvp_done _ _ _ _ hlt3 (by omega)] at this
                          exact this)
                        clear SI
                        go_wp2
                        go_roundw
                        case rel => exact ⟨k + 1, by go_num, .inl ⟨by omega, unhide G1, hide (by rw [unhide G2]; exact unhide S3)⟩⟩
                        case measure => simp [intOf]; omega
                · obtain rfl : n = k := by omega
                  have G2 : Hid (Z = rv (R n) i n) := hide (by rw [(unhide T).last, ← unhide FK])
                  have hik : i ≤ n := by omega
                  have HK : Hid ((R n).length = n) := hide (unhide SK).len
                  have H8 : Hid (Rw w1 wr B g n cap (rvp (R n) i n 0)) := hide (by rw [rvp_zero]; exact unhide SK)
                  clear SK
                  go_wp2
                  go_loopw [8, 9] (fun av bv wq => ∃ s : Nat, (i + s + s ≤ n ∨ s = 0) ∧ av = .int .i64 ((i : Int) + s) ∧ bv = .int .i64 ((n : Int) - 1 - s) ∧ Hid (Rw w1 wq B g n cap (rvp (R n) i n s))) (fun av _ _ => n - (intOf av).toNat)
                  case atStart => exact ⟨0, .inr rfl, by simp, by simp, H8⟩
                  case round =>
                    obtain ⟨s, hs, rfl, rfl, SI⟩ := hrel
                    clear H8
                    by_cases hlt3 : i + s + s + 1 < n
                    · have hlt3' : (i : Int) + s < (n : Int) - 1 - s := by omega
                      have hL := unhide HK
                      have ca := (unhide SI).cell (i + s) (by omega)
                      have cb := (unhide SI).cell (n - 1 - s) (by omega)
                      rw [rvp_lo _ _ _ _ hlt3 (by omega)] at ca
                      rw [rvp_hi _ _ _ _ hlt3 (by omega)] at cb
                      have fa := (unhide SI).frozen (i + s)
                      have s1 := (unhide SI).set (i + s) (nth (R n) (n - 1 - s))
                      have cc := s1.cell (n - 1 - s) (by omega)
                      have fb := s1.frozen (n - 1 - s)
                      have s2 := s1.set (n - 1 - s) (nth (R n) (i + s))
                      rw [rvp_step _ _ _ _ hlt3 (by omega)] at s2
                      have S2 := hide s2
                      clear s1 s2 SI
                      generalize nth (List.set (rvp (R n) i n s) (i + s) (nth (R n) (n - 1 - s))) (n - 1 - s) = u at *
                      generalize nth (R n) (i + s) = x at *
                      generalize nth (R n) (n - 1 - s) = y at *
                      go_wp2
                      go_roundw
                      case rel => exact ⟨s + 1, by omega, by go_num, by go_num, S2⟩
                      case measure => simp [intOf]; omega
                    · have hge3 : ¬ (i : Int) + s < (n : Int) - 1 - s := by omega
                      have S3 : Hid (Rw w1 wr B g n cap (rv (R n) i n)) := hide (by
                        have := unhide SI
                        rw [rvp_done _ _ _ _ hlt3 (by omega)] at this
                        exact this)
                      clear SI
                      go_wp2
                      go_roundw
                      case rel => exact ⟨n + 1, by go_num, .inr ⟨rfl, hide (by rw [unhide G2]; exact unhide S3)⟩⟩
                      case measure => simp [intOf]; omega
            · have hin' : ¬ (i : Int) < (n : Int) := by omega
              have SZ : Hid (Rw w1 wr B g n cap (ordK L (j + 1))) := hide (by
                rw [← unhide HZ]
                rcases hcase with ⟨h1, h2, h3⟩ | ⟨_, h3⟩
                · obtain rfl : i = n := by omega
                  have e := (unhide T).last
                  rw [← h2, rv_none _ _ _ (Nat.le_refl _)] at e
                  rw [e]
                  exact unhide h3
                · exact unhide h3)
              clear hcase
              go_wp2
              go_roundw
              case rel => exact ⟨j + 1, by omega, by have e := unhide EHH; subst e; go_num, SZ⟩
              case measure => simp [intOf]; have := unhide EHH; omega
        · obtain rfl : j = 20 := by omega
          go_wp2
          go_ret
          refine ⟨_, rfl, ?_, (unhide HB).trans (grown_below (unhide HO).gr hgB hBs1)⟩
          have := (unhide HO).ow
          rw [unhide HBB] at this
          rw [ordL_len, ← unhide HN]
          exact this
end Go.Proofs.Ytfnaclpkpjembaa.Bd
