/- What a trie tells of a point; the law of TrieAt. -/
import Derived.Test.YtnaebifmnhgjiaaTriL
namespace Go.Proofs.Ytnaebifmnhgjiaa
open Go.RowKit
theorem ok_ix {ix dt : List Int} (h : TrieOk ix dt) (p : Nat) (hp : p < 32768) : ∃ x : Nat, nth ix (p / 64) = (x : Int) ∧ x < 512 ∧ x * 64 + p % 64 < dt.length ∧ nth dt (x * 64 + p % 64) = atP ix dt p := by
  obtain ⟨h1, h2, h3, _, h5⟩ := h
  have hb := (turns_bd ix 0 _ h5).2 (p / 64) (by omega)
  have hn : nth ix (p / 64) = ix.getD (p / 64) 0 := rfl
  rw [← hn] at hb
  refine ⟨(nth ix (p / 64)).toNat, by omega, by omega, by omega, ?_⟩
  rfl
theorem DatAt.at {w : World} {B : Nat} {a : Option Addr} {c : Nat} {l : List Int} (h : DatAt w B (.slice a l.length c) l) (hl : 0 < l.length) : ∃ b off, a = some ⟨b, off, none⟩ ∧ ∀ i, i < l.length → w.cell? ⟨b, off + i, none⟩ = some (.int .i64 (nth l i)) := by
  obtain ⟨a', cap, e, _, hd⟩ := h
  simp only [Value.slice.injEq] at e
  rcases hd with hn | ⟨b, off, e2, _, hc⟩
  · rw [hn] at hl; simp at hl
  · exact ⟨b, off, e.1.trans e2, hc⟩
set_option maxHeartbeats 2000000 in
theorem valueAt_any (vi vd : Value) (ix dt : List Int) (p : Nat) (w : World) (hi : DatAt w w.heap.size vi ix) (hd : DatAt w w.heap.size vd dt) (_ : ix.length ≤ 1048576) (ld : dt.length ≤ 1048576) (ho : TrieOk ix dt) (hp : p < 32768) :
    Calls Try.prog 58 #[.agg #[vi, vd], .int .i64 p] w fun e w' => e = .returned (.int .i64 (atP ix dt p)) ∧ Below w.heap.size w w' := by
  obtain ⟨x, hx, hx5, hxl, hxv⟩ := ok_ix ho p hp
  have h512 := ho.1
  obtain ⟨ai, ci, rfl, _, _⟩ := id hi
  obtain ⟨ad, cd, rfl, _, _⟩ := id hd
  obtain ⟨b1, o1, rfl, k1⟩ := hi.at (by omega)
  obtain ⟨b2, o2, rfl, k2⟩ := hd.at (by omega)
  have d1 := cell_alloc (k1 (p / 64) (by omega))
  have d2 := cell_alloc (k2 (x * 64 + p % 64) hxl)
  rw [hx] at d1
  rw [hxv] at d2
  have HB1 : Hid (∀ o, Below w.heap.size w (w.alloc o)) := hide (fun o => (Below.refl _ _).alloc (Nat.le_refl _) o)
  obtain ⟨q, hq⟩ : ∃ q : Nat, p / 64 = q := ⟨_, rfl⟩
  obtain ⟨r, hr⟩ : ∃ r : Nat, p % 64 = r := ⟨_, rfl⟩
  have eq : (p : Int).tdiv 64 = (q : Int) := by rw [Int.tdiv_eq_ediv_of_nonneg (by omega)]; omega
  have er : (p : Int).tmod 64 = (r : Int) := by rw [Int.tmod_eq_emod_of_nonneg (by omega)]; omega
  rw [hq] at d1
  rw [hr] at d2 hxl
  have hqi : (q : Int) < (ix.length : Int) := by omega
  have hqn : q < ix.length := by omega
  have hxi : (x : Int) * 64 + (r : Int) < (dt.length : Int) := by omega
  have w1 : IntKind.i64.wrap (q : Int) = (q : Int) := wrap_in _ (by omega) (by omega)
  have w2 : IntKind.i64.wrap ((x : Int) * 64) = (x : Int) * 64 := wrap_in _ (by omega) (by omega)
  have w3 : IntKind.i64.wrap (r : Int) = (r : Int) := wrap_in _ (by omega) (by omega)
  have w4 : IntKind.i64.wrap ((x : Int) * 64 + (r : Int)) = (x : Int) * 64 + (r : Int) := wrap_in _ (by omega) (by omega)
  have t1 : ((x : Int) * 64 + (r : Int)).toNat = x * 64 + r := by omega
  have t2 : (0 : Int) ≤ (x : Int) * 64 + (r : Int) := by omega
  clear hx hxv hq hr k1 k2 hi hd h512 ho
  generalize atP ix dt p = z at *
  go_enter Try.func58, Try.ntmps58
  go_upto_region 1 with fail
  go_quiet (fail)
  go_wp2
  go_ret
  exact ⟨rfl, bdrew (unhide HB1 _) _⟩
def tellsAt (ix dt : List Int) (p : Int) : Int := if trieFault ix dt = 0 ∧ 0 ≤ p ∧ p ≤ 32767 then atP ix dt p.toNat else 0
theorem tellsAt_yes {ix dt : List Int} {p : Int} (h : TrieOk ix dt ∧ 0 ≤ p ∧ p ≤ 32767) : tellsAt ix dt p = atP ix dt p.toNat := if_pos ⟨trieFault_ok h.1, h.2⟩
theorem tellsAt_no {ix dt : List Int} {p : Int} (h : ¬ (TrieOk ix dt ∧ 0 ≤ p ∧ p ≤ 32767)) : tellsAt ix dt p = 0 := if_neg fun g => h ⟨by
  by_cases ho : TrieOk ix dt
  · exact ho
  · rw [trieFault_no ho] at g
    exact absurd g.1 (by decide), g.2⟩
set_option maxHeartbeats 2000000 in
theorem implTA (vi vd : Value) (ix dt : List Int) (p : Int) (w : World) (hi : DatAt w w.heap.size vi ix) (hd : DatAt w w.heap.size vd dt) (li : ix.length ≤ 1048576) (ld : dt.length ≤ 1048576) :
    Calls Try.prog 28 #[.agg #[vi, vd], .int .i64 p] w fun e w' => e = .returned (.int .i64 (tellsAt ix dt p)) ∧ Below w.heap.size w w' := by
  have HI := hide hi
  have HD := hide hd
  obtain ⟨ai, ci, rfl, _, _⟩ := hi
  obtain ⟨ad, cd, rfl, _, _⟩ := hd
  have HB1 : Hid (∀ o, Below w.heap.size w (w.alloc o)) := hide (fun o => (Below.refl _ _).alloc (Nat.le_refl _) o)
  by_cases c1 : p < 0
  · have HN : Hid (tellsAt ix dt p = 0) := hide (tellsAt_no (by omega))
    go_enter Try.func28, Try.ntmps28
    go_wp2
    go_ret
    exact ⟨ret_int (unhide HN).symm, unhide HB1 _⟩
  · by_cases c2 : 32767 < p
    · have HN : Hid (tellsAt ix dt p = 0) := hide (tellsAt_no (by omega))
      go_enter Try.func28, Try.ntmps28
      go_wp2
      go_ret
      exact ⟨ret_int (unhide HN).symm, unhide HB1 _⟩
    · obtain ⟨n, rfl⟩ : ∃ n : Nat, p = (n : Int) := ⟨p.toNat, by omega⟩
      by_cases ho : TrieOk ix dt
      · have hf := trieFault_ok ho
        have HN : Hid (tellsAt ix dt (n : Int) = atP ix dt n) := hide (tellsAt_yes ⟨ho, by omega, by omega⟩)
        have HO := hide ho
        clear ho
        go_enter Try.func28, Try.ntmps28
        go_upto_region 1 with fail
        have X1 := hide (Box.new w (.slice ai ix.length ci) (.slice ad dt.length cd) 31)
        have P1 := hide ((unhide HI).alloc (.cells #[.slice ai ix.length ci, .slice ad dt.length cd] 31))
        have Q1 := hide ((unhide HD).alloc (.cells #[.slice ai ix.length ci, .slice ad dt.length cd] 31))
        have W1 := hide (unhide HB1 (.cells #[.slice ai ix.length ci, .slice ad dt.length cd] 31))
        clear HI HD HB1
        generalize w.alloc (.cells #[.slice ai ix.length ci, .slice ad dt.length cd] 31) = w1 at *
        obtain ⟨⟨x0, x1⟩, _, _⟩ := unhide X1
        go_wp2_with fail
        refine (implTF _ _ ix dt _ (unhide P1) (unhide Q1) li ld).mono ?_
        rintro e w2 ⟨rfl, hb⟩
        rw [hf]
        have P2 := hide ((unhide P1).below hb)
        have Q2 := hide ((unhide Q1).below hb)
        have X2 := hide ((unhide X1).below hb)
        have W2 := hide ((unhide W1).trans (hb.mono (unhide W1).size))
        clear hb P1 Q1 X1 W1 x0 x1
        obtain ⟨⟨x0, x1⟩, _, _⟩ := unhide X2
        go_wp2_with fail
        refine (valueAt_any _ _ ix dt n _ (unhide P2) (unhide Q2) li ld (unhide HO) (by omega)).mono ?_
        rintro e w3 ⟨rfl, hb⟩
        have W3 := hide ((unhide W2).trans (hb.mono (unhide W2).size))
        clear hb
        go_wp2
        go_ret
        exact ⟨ret_int (unhide HN).symm, unhide W3⟩
      · have hf := trieFault_no ho
        have HN : Hid (tellsAt ix dt (n : Int) = 0) := hide (tellsAt_no (fun h => ho h.1))
        clear ho
        go_enter Try.func28, Try.ntmps28
        go_wp2_with fail
        refine (implTF _ _ ix dt _ ((unhide HI).alloc _) ((unhide HD).alloc _) li ld).mono ?_
        rintro e w2 ⟨rfl, hb⟩
        rw [hf]
        have W2 := hide ((unhide HB1 _).trans (hb.mono (unhide HB1 _).size))
        clear hb
        go_wp2
        go_ret
        exact ⟨ret_int (unhide HN).symm, unhide W2⟩
set_option maxHeartbeats 2000000 in
theorem specTA (vi vd : Value) (ix dt : List Int) (p : Int) (w : World) (hi : DatAt w w.heap.size vi ix) (hd : DatAt w w.heap.size vd dt) (li : ix.length ≤ 1048576) (ld : dt.length ≤ 1048576) :
    Calls Try.prog 27 #[.agg #[vi, vd], .int .i64 p] w fun e w' => e = .returned (.int .i64 (tellsAt ix dt p)) ∧ Below w.heap.size w w' := by
  have HI := hide hi
  have HD := hide hd
  obtain ⟨ai, ci, rfl, _, _⟩ := hi
  obtain ⟨ad, cd, rfl, _, _⟩ := hd
  have HB1 : Hid (∀ o, Below w.heap.size w (w.alloc o)) := hide (fun o => (Below.refl _ _).alloc (Nat.le_refl _) o)
  by_cases ho : TrieOk ix dt
  · have hf := trieFault_ok ho
    by_cases c1 : p < 0
    · have HN : Hid (tellsAt ix dt p = 0) := hide (tellsAt_no (by omega))
      clear ho
      go_enter Try.func27, Try.ntmps27
      go_wp2_with fail
      refine (specTF _ _ ix dt _ ((unhide HI).alloc _) ((unhide HD).alloc _) li ld).mono ?_
      rintro e w2 ⟨rfl, hb⟩
      rw [hf]
      have W2 := hide ((unhide HB1 _).trans (hb.mono (unhide HB1 _).size))
      clear hb
      go_wp2
      go_ret
      exact ⟨ret_int (unhide HN).symm, unhide W2⟩
    · by_cases c2 : 32767 < p
      · have HN : Hid (tellsAt ix dt p = 0) := hide (tellsAt_no (by omega))
        clear ho
        go_enter Try.func27, Try.ntmps27
        go_wp2_with fail
        refine (specTF _ _ ix dt _ ((unhide HI).alloc _) ((unhide HD).alloc _) li ld).mono ?_
        rintro e w2 ⟨rfl, hb⟩
        rw [hf]
        have W2 := hide ((unhide HB1 _).trans (hb.mono (unhide HB1 _).size))
        clear hb
        go_wp2
        go_ret
        exact ⟨ret_int (unhide HN).symm, unhide W2⟩
      · obtain ⟨n, rfl⟩ : ∃ n : Nat, p = (n : Int) := ⟨p.toNat, by omega⟩
        have HN : Hid (tellsAt ix dt (n : Int) = atP ix dt n) := hide (tellsAt_yes ⟨ho, by omega, by omega⟩)
        have HO := hide ho
        clear ho
        go_enter Try.func27, Try.ntmps27
        go_upto_region 1 with fail
        have X1 := hide (Box.new w (.slice ai ix.length ci) (.slice ad dt.length cd) 31)
        have P1 := hide ((unhide HI).alloc (.cells #[.slice ai ix.length ci, .slice ad dt.length cd] 31))
        have Q1 := hide ((unhide HD).alloc (.cells #[.slice ai ix.length ci, .slice ad dt.length cd] 31))
        have W1 := hide (unhide HB1 (.cells #[.slice ai ix.length ci, .slice ad dt.length cd] 31))
        clear HI HD HB1
        generalize w.alloc (.cells #[.slice ai ix.length ci, .slice ad dt.length cd] 31) = w1 at *
        obtain ⟨⟨x0, x1⟩, _, _⟩ := unhide X1
        go_wp2_with fail
        refine (specTF _ _ ix dt _ (unhide P1) (unhide Q1) li ld).mono ?_
        rintro e w2 ⟨rfl, hb⟩
        rw [hf]
        have P2 := hide ((unhide P1).below hb)
        have Q2 := hide ((unhide Q1).below hb)
        have X2 := hide ((unhide X1).below hb)
        have W2 := hide ((unhide W1).trans (hb.mono (unhide W1).size))
        clear hb P1 Q1 X1 W1 x0 x1 hf
        obtain ⟨⟨x0, x1⟩, _, _⟩ := unhide X2
        obtain ⟨x, hx, hx5, hxl, hxv⟩ := ok_ix (unhide HO) n (by omega)
        have h512 := (unhide HO).1
        obtain ⟨b1, o1, e1, k1⟩ := (unhide P2).at (by omega)
        obtain ⟨b2, o2, e2, k2⟩ := (unhide Q2).at (by omega)
        subst e1 e2
        have d1 := k1 (n / 64) (by omega)
        have d2 := k2 (x * 64 + n % 64) hxl
        rw [hx] at d1
        rw [hxv] at d2
        obtain ⟨q, hq⟩ : ∃ q : Nat, n / 64 = q := ⟨_, rfl⟩
        obtain ⟨r, hr⟩ : ∃ r : Nat, n % 64 = r := ⟨_, rfl⟩
        have eq : (n : Int).tdiv 64 = (q : Int) := by rw [Int.tdiv_eq_ediv_of_nonneg (by omega)]; omega
        have er : (n : Int).tmod 64 = (r : Int) := by rw [Int.tmod_eq_emod_of_nonneg (by omega)]; omega
        rw [hq] at d1
        rw [hr] at d2 hxl
        have hqi : (q : Int) < (ix.length : Int) := by omega
        have hqn : q < ix.length := by omega
        have hxi : (x : Int) * 64 + (r : Int) < (dt.length : Int) := by omega
        have w1 : IntKind.i64.wrap (q : Int) = (q : Int) := wrap_in _ (by omega) (by omega)
        have w2 : IntKind.i64.wrap ((x : Int) * 64) = (x : Int) * 64 := wrap_in _ (by omega) (by omega)
        have w3 : IntKind.i64.wrap (r : Int) = (r : Int) := wrap_in _ (by omega) (by omega)
        have w4 : IntKind.i64.wrap ((x : Int) * 64 + (r : Int)) = (x : Int) * 64 + (r : Int) := wrap_in _ (by omega) (by omega)
        have t1 : ((x : Int) * 64 + (r : Int)).toNat = x * 64 + r := by omega
        have t2 : (0 : Int) ≤ (x : Int) * 64 + (r : Int) := by omega
        clear hx hxv hq hr k1 k2 h512 P2 Q2
        have HN' := HN
        clear HN
        generalize atP ix dt n = z at *
        go_upto_region 3 with fail
        go_quiet (fail)
        go_wp2
        go_ret
        exact ⟨ret_int (unhide HN').symm, bdrew (unhide W2) _⟩
  · have hf := trieFault_no ho
    have HN : Hid (tellsAt ix dt p = 0) := hide (tellsAt_no (fun h => ho h.1))
    clear ho
    go_enter Try.func27, Try.ntmps27
    go_wp2_with fail
    refine (specTF _ _ ix dt _ ((unhide HI).alloc _) ((unhide HD).alloc _) li ld).mono ?_
    rintro e w2 ⟨rfl, hb⟩
    rw [hf]
    have W2 := hide ((unhide HB1 _).trans (hb.mono (unhide HB1 _).size))
    clear hb
    go_wp2
    go_ret
    exact ⟨ret_int (unhide HN).symm, unhide W2⟩
set_option maxHeartbeats 2000000 in
theorem lawTrieAt (vi vd : Value) (ix dt : List Int) (p : Int) (w : World) (hi : IntsAt w vi ix) (hd : IntsAt w vd dt) (mi : ix.length ≤ maxLen) (md : dt.length ≤ maxLen) (_ : (Lit.int .i64 p).wf = true) :
    Calls Try.prog 6 #[.agg #[vi, vd], .int .i64 p] w fun e w' => e = .returned (.bool true) ∧ Below w.heap.size w w' := by
  have HI := hide hi
  have HD := hide hd
  obtain ⟨a1, c1, rfl, _⟩ := hi
  obtain ⟨a2, c2, rfl, _⟩ := hd
  unfold maxLen at mi md
  go_enter Try.func6, Try.ntmps6
  go_upto_region 1 with fail
  have B0 := hide (Box.new w (.slice a1 ix.length c1) (.slice a2 dt.length c2) 37)
  have W0 : Hid (Below w.heap.size w (w.alloc (.cells #[.slice a1 ix.length c1, .slice a2 dt.length c2] 37))) := hide ((Below.refl _ _).alloc (Nat.le_refl _) _)
  generalize w.alloc (.cells #[.slice a1 ix.length c1, .slice a2 dt.length c2] 37) = w0 at *
  obtain ⟨⟨x0, x1⟩, _, _⟩ := unhide B0
  go_wp2_with fail
  refine (szTrie_any _ _ _ _ _ _ _ (by omega) (by omega)).mono ?_
  rintro e w1 ⟨rfl, hb⟩
  have B1 := hide ((unhide B0).below hb)
  have W1 := hide ((unhide W0).trans (hb.mono (unhide W0).size))
  clear hb B0 W0 x0 x1
  by_cases hL : (1048576 : Int) < ix.length + dt.length
  · have hs : szL ix.length dt.length = -1 := by unfold szL; rw [if_pos hL]
    rw [hs]
    go_wp2
    go_ret
    exact ⟨rfl, unhide W1⟩
  · have hs : szL ix.length dt.length = 1048576 - ix.length - dt.length := by unfold szL; rw [if_neg hL]
    rw [hs]
    have hs' : ¬ (1048576 : Int) - ix.length - dt.length < 0 := by omega
    obtain ⟨⟨x0, x1⟩, _, _⟩ := unhide B1
    go_wp2_with fail
    refine (toTrie_any _ _ _ _ ix dt _ ((unhide HI).below (unhide W1)) ((unhide HD).below (unhide W1)) (by omega) (by omega)).mono ?_
    rintro e w2 ⟨g1, g2, rfl, hd1, hd2, hb⟩
    have P2 := hide hd1
    have Q2 := hide hd2
    have B2 := hide ((unhide B1).below hb)
    have W2 := hide ((unhide W1).trans (hb.mono (unhide W1).size))
    clear hb hd1 hd2 B1 W1 x0 x1
    go_wp2_with fail
    refine (specTA _ _ ix dt p _ (unhide P2) (unhide Q2) (by omega) (by omega)).mono ?_
    rintro e w3 ⟨rfl, hb⟩
    have B3 := hide ((unhide B2).below hb)
    have W3 := hide ((unhide W2).trans (hb.mono (unhide W2).size))
    clear hb B2 W2 P2 Q2
    obtain ⟨⟨x0, x1⟩, _, _⟩ := unhide B3
    go_wp2_with fail
    refine (toTrie_any _ _ _ _ ix dt _ ((unhide HI).below (unhide W3)) ((unhide HD).below (unhide W3)) (by omega) (by omega)).mono ?_
    rintro e w4 ⟨g1, g2, rfl, hd1, hd2, hb⟩
    have P4 := hide hd1
    have Q4 := hide hd2
    have B4 := hide ((unhide B3).below hb)
    have W4 := hide ((unhide W3).trans (hb.mono (unhide W3).size))
    clear hb hd1 hd2 B3 W3 x0 x1
    go_upto_region 7 with fail
    have X5 := hide (Box.new w4 (.slice (some ⟨g1, 0, none⟩) ix.length ix.length) (.slice (some ⟨g2, 0, none⟩) dt.length dt.length) 31)
    have P5 := hide ((unhide P4).alloc (.cells #[.slice (some ⟨g1, 0, none⟩) ix.length ix.length, .slice (some ⟨g2, 0, none⟩) dt.length dt.length] 31))
    have Q5 := hide ((unhide Q4).alloc (.cells #[.slice (some ⟨g1, 0, none⟩) ix.length ix.length, .slice (some ⟨g2, 0, none⟩) dt.length dt.length] 31))
    have B5 := hide ((unhide B4).alloc (.cells #[.slice (some ⟨g1, 0, none⟩) ix.length ix.length, .slice (some ⟨g2, 0, none⟩) dt.length dt.length] 31))
    have W5 := hide ((unhide W4).alloc (unhide W4).size (.cells #[.slice (some ⟨g1, 0, none⟩) ix.length ix.length, .slice (some ⟨g2, 0, none⟩) dt.length dt.length] 31))
    clear P4 Q4 B4 W4
    generalize w4.alloc (.cells #[.slice (some ⟨g1, 0, none⟩) ix.length ix.length, .slice (some ⟨g2, 0, none⟩) dt.length dt.length] 31) = w5 at *
    generalize w4.heap.size = gx0 at *
    obtain ⟨⟨x0, x1⟩, _, _⟩ := unhide X5
    go_wp2_with fail
    refine (implTA _ _ ix dt p _ (unhide P5) (unhide Q5) (by omega) (by omega)).mono ?_
    rintro e w6 ⟨rfl, hb⟩
    have P6 := hide ((unhide P5).below hb)
    have Q6 := hide ((unhide Q5).below hb)
    have X6 := hide ((unhide X5).below hb)
    have B6 := hide ((unhide B5).below hb)
    have W6 := hide ((unhide W5).trans (hb.mono (unhide W5).size))
    clear hb P5 Q5 X5 B5 W5 x0 x1
    have hne : (tellsAt ix dt p != tellsAt ix dt p) = false := by simp
    generalize tellsAt ix dt p = tf at *
    go_upto_region 10 with fail
    obtain ⟨⟨x0, x1⟩, _, _⟩ := unhide X6
    obtain ⟨⟨z0, z1⟩, _, _⟩ := unhide B6
    go_region_with (first | (go_at_call 25; refine (toTrie_any _ _ _ _ ix dt _ ((unhide HI).below (by first | exact unhide W6 | exact bdrew1 (unhide W6))) ((unhide HD).below (by first | exact unhide W6 | exact bdrew1 (unhide W6))) (by omega) (by omega)).mono ?_; rintro e w7 ⟨h1, h2, rfl, hd1, hd2, hb⟩; have P7 := hide (((unhide P6).below (drew_below _)).below hb); have Q7 := hide (((unhide Q6).below (drew_below _)).below hb); have E7 := hide hd1; have F7 := hide hd2; have X7 := hide (((unhide X6).below (drew_below _)).below hb); have W7 := hide ((unhide W6).trans ((drew_below _).trans hb |>.mono (unhide W6).size)); obtain ⟨⟨k0, k1⟩, _, _⟩ := unhide X7; clear hb hd1 hd2) | (go_at_call 19; refine (eqTrie_any _ _ _ _ ix dt _ ((unhide P7).ints (Nat.le_refl _)) ((unhide Q7).ints (Nat.le_refl _)) ((unhide E7).ints (Nat.le_refl _)) ((unhide F7).ints (Nat.le_refl _)) (by omega) (by omega)).mono ?_; rintro e w8 ⟨rfl, hb⟩; have W8 := hide ((unhide W7).trans (hb.mono (unhide W7).size)); clear hb))
    all_goals
      go_wp2
      go_ret
      exact ⟨rfl, unhide W8⟩
end Go.Proofs.Ytnaebifmnhgjiaa
