/- What is selected, both sides. -/
import Derived.Test.YtfnaclpkpjembaaBidT
import Derived.Test.YtfnaclpkpjembaaBidC
import Derived.Test.YtfnaclpkpjembaaAppG
namespace Go.Proofs.Ytfnaclpkpjembaa.Bd
open Go.RowKit
set_option linter.unusedVariables false
/-- The stretches of what is selected, of the first k places from the left. -/
def selS (O : List Int) (fr to : Int) : Nat → List Int
  | 0 => []
  | k + 1 => if nth O k < fr ∨ to ≤ nth O k then selS O fr to k
    else if 0 < (selS O fr to k).length ∧ nth (selS O fr to k) ((selS O fr to k).length - 1) = (k : Int) then (selS O fr to k).set ((selS O fr to k).length - 1) ((k : Int) + 1)
    else selS O fr to k ++ [(k : Int), (k : Int) + 1]
theorem sel_out {O : List Int} {fr to : Int} {k : Nat} (h : nth O k < fr ∨ to ≤ nth O k) : selS O fr to (k + 1) = selS O fr to k := by
  rw [selS, if_pos h]
theorem sel_hit {O : List Int} {fr to : Int} {k q : Nat} (h1 : ¬ nth O k < fr) (h2 : ¬ to ≤ nth O k) (hl : (selS O fr to k).length = (q + 1) * 2) (hx : nth (selS O fr to k) (q * 2 + 1) = (k : Int)) :
    selS O fr to (k + 1) = (selS O fr to k).set (q * 2 + 1) ((k : Int) + 1) := by
  have e : (selS O fr to k).length - 1 = q * 2 + 1 := by omega
  rw [selS, if_neg (by omega), e, if_pos ⟨by omega, hx⟩]
theorem sel_new {O : List Int} {fr to : Int} {k : Nat} (h1 : ¬ nth O k < fr) (h2 : ¬ to ≤ nth O k) (hl : (selS O fr to k).length = 0) :
    selS O fr to (k + 1) = selS O fr to k ++ [(k : Int), (k : Int) + 1] := by
  rw [selS, if_neg (by omega), if_neg (by omega)]
theorem sel_more {O : List Int} {fr to : Int} {k q : Nat} (h1 : ¬ nth O k < fr) (h2 : ¬ to ≤ nth O k) (hl : (selS O fr to k).length = (q + 1) * 2) (hx : ¬ nth (selS O fr to k) (q * 2 + 1) = (k : Int)) :
    selS O fr to (k + 1) = selS O fr to k ++ [(k : Int), (k : Int) + 1] := by
  have e : (selS O fr to k).length - 1 = q * 2 + 1 := by omega
  rw [selS, if_neg (by omega), e, if_neg (by intro h; exact hx h.2)]
theorem sel_none {O : List Int} {fr to : Int} (h : to < fr) (k : Nat) : selS O fr to k = [] := by
  induction k with
  | zero => rfl
  | succ k ih => rw [sel_out (by omega)]; exact ih
/-- What Selected may be asked. -/
def selOk (L : List Int) (fr to : Int) : Bool := okL L && decide (0 ≤ fr) && decide (fr ≤ to) && decide (to ≤ (L.length : Int))
/-- The answer of Selected. -/
def selA (L : List Int) (fr to : Int) : List Int := if selOk L fr to then selS (ordL L) fr to L.length else []
theorem selA_impl (L : List Int) (fr to : Int) (h : ¬ (fr < 0 ∨ ((ordA L).length : Int) < to)) : selA L fr to = selS (ordA L) fr to (ordA L).length := by
  unfold selA selOk
  cases hok : okL L
  · have e : ordA L = [] := by unfold ordA; rw [hok]; rfl
    rw [e]
    rfl
  · have e : ordA L = ordL L := by unfold ordA; rw [hok]; rfl
    rw [e, ordL_len] at h
    rw [e, ordL_len]
    by_cases h2 : fr ≤ to
    · rw [if_pos (by simp; omega)]
    · rw [sel_none (by omega), if_neg (by simp; omega)]
theorem selA_bad (L : List Int) (fr to : Int) (h : fr < 0 ∨ ((ordA L).length : Int) < to) : selA L fr to = [] := by
  unfold selA selOk
  cases hok : okL L
  · rfl
  · have e : ordA L = ordL L := by unfold ordA; rw [hok]; rfl
    rw [e, ordL_len] at h
    rw [if_neg (by simp; omega)]
theorem sel_len (O : List Int) (fr to : Int) (k : Nat) : ∃ m, m ≤ k ∧ (selS O fr to k).length = m * 2 := by
  induction k with
  | zero => exact ⟨0, Nat.le_refl _, rfl⟩
  | succ k ih =>
    obtain ⟨m, h1, h2⟩ := ih
    unfold selS
    split
    · exact ⟨m, by omega, h2⟩
    · split
      · exact ⟨m, by omega, by simp; exact h2⟩
      · exact ⟨m + 1, by omega, by simp; omega⟩
theorem selA_len (L : List Int) (fr to : Int) : ∃ m, m ≤ 1000 ∧ (selA L fr to).length = m * 2 := by
  unfold selA selOk
  split
  · rename_i h
    simp only [Bool.and_eq_true, decide_eq_true_eq] at h
    obtain ⟨m, h1, h2⟩ := sel_len (ordL L) fr to L.length
    exact ⟨m, by have := ((okL_iff L).1 h.1.1.1).1; omega, h2⟩
  · exact ⟨0, by omega, rfl⟩
/-- The stretches so far and the order that they are told of, in two blocks. -/
structure Sel (w wr : World) (v ov : Value) (m : Nat) (F O : List Int) : Prop where
  st : StRow wr w.heap.size v m F
  od : Own wr w.heap.size ov O
  ne : ∀ k, v.ownBlock = some k → ov.ownBlock ≠ some k
  bel : Below w.heap.size w wr
theorem Sel.ord {w wr : World} {a : Option Addr} {c n m : Nat} {v : Value} {F O : List Int} (h : Sel w wr v (.slice a n c) m F O) (k : Nat) (hk : k < O.length) : ∃ b off, a = some ⟨b, off, none⟩ ∧ wr.cell? ⟨b, off + k, none⟩ = some (.int .i64 (nth O k)) := by
  obtain ⟨a', c', e', hc⟩ := at_cells h.od.at
  injection e' with e1 e2 e3
  subst e1
  obtain ⟨b, off, rfl, _, hcell⟩ := hc k hk
  exact ⟨b, off, rfl, hcell⟩
theorem Sel.put {w wr : World} {g c m : Nat} {ov : Value} {F O : List Int} (h : Sel w wr (.slice (some ⟨g, 0, none⟩) m c) ov m F O) (i : Nat) (x : Int) : Sel w (wr.setCell ⟨g, i, none⟩ (.int .i64 x)) (.slice (some ⟨g, 0, none⟩) m c) ov m (F.set i x) O := by
  have hgr : wr.grownBy (wr.setCell ⟨g, i, none⟩ (.int .i64 x)) (some g) := grown_set (grown_refl _ _)
  have hg := World.ownsRow.lt h.st g rfl
  exact ⟨h.st.set i x, h.od.keep hgr (fun k hk e => h.ne g rfl (by rw [hk, e])), h.ne, h.bel.trans (grown_bel hgr (fun k e => by injection e with e; omega) h.bel.size)⟩
theorem Sel.app {w wr w3 : World} {v v' ov : Value} {m : Nat} {F O : List Int} {x y : Int} {o : Obj} (h : Sel w wr v ov m F O)
    (ho : w3.ownsRow w.heap.size 38 2 v' (m + 1) (F.map (Value.int .i64) ++ [.int .i64 x, .int .i64 y])) (hg : (wr.alloc o).grownBy w3 v.ownBlock) (hk : ∀ k, v'.ownBlock = some k → v.ownBlock = some k ∨ wr.heap.size + 1 ≤ k) : Sel w w3 v' ov (m + 1) (F ++ [x, y]) O := by
  have hal : Below wr.heap.size wr (wr.alloc o) := (Below.refl _ _).alloc (Nat.le_refl _) o
  have hod := h.od.below hal
  refine ⟨?_, hod.keep hg (fun k hk2 e => h.ne k e hk2), fun k hk2 e => ?_, ?_⟩
  · unfold StRow
    rw [List.map_append]
    exact ho
  · rcases hk k hk2 with h1 | h1
    · exact h.ne k h1 e
    · have := (World.ownsRow.lt h.od k e).2
      have := hal.size
      omega
  · exact (h.bel.trans (hal.mono h.bel.size)).trans (grown_bel hg (fun k e => (World.ownsRow.lt h.st k e).1) (by have := h.bel.size; have := hal.size; omega))
theorem two_new (w : World) (x y : Value) (t : TypeId) : ∀ j u, [x, y][j]? = some u → (w.alloc (.cells #[x, y] t)).cell? ((⟨w.heap.size, 0, none⟩ : Addr).add j) = some u := by
  intro j u hj
  match j, hj with
  | 0, hj => simp at hj; subst hj; simp [Addr.add]
  | 1, hj => simp at hj; subst hj; simp [Addr.add]
  | (j + 2), hj => simp at hj
theorem two_one (x y : Int) : ∀ u ∈ [Value.int .i64 x, Value.int .i64 y], u.oneCell' = true := by
  intro u hu; simp at hu; rcases hu with rfl | rfl <;> rfl
set_option maxHeartbeats 2000000 in
set_option maxRecDepth 100000 in
theorem specSelected (v : Value) (L : List Int) (fr to : Int) (w : World) (h : IntsAt w v L) (hl : L.length ≤ 1048576) :
    Calls Try.prog 17 #[v, .int .i64 fr, .int .i64 to] w fun e w' => ∃ sv m, e = .returned sv ∧ StRow w' w.heap.size sv m (selA L fr to) ∧ Below w.heap.size w w' := by
  have W0 : Hid (Below w.heap.size w (w.alloc (.cells #[] 38))) := hide ((Below.refl _ _).alloc (Nat.le_refl _) _)
  have HV : Hid (∀ wr, Below w.heap.size w wr → IntsAt wr v L) := hide (fun wr hb => h.below hb)
  have AL := hide (l09Right_any v L _ (h.below (unhide W0)) hl)
  have HO0 : Hid (StRow (w.alloc (.cells #[] 38)) w.heap.size (.slice (some ⟨w.heap.size, 0, none⟩) 0 0) 0 []) := hide (World.ownsRow_lit w #[] 0 (Nat.le_refl _) (by unfold maxLen; omega) rfl)
  have hsz : (w.alloc (.cells #[] 38)).heap.size = w.heap.size + 1 := by simp
  obtain ⟨lva, lvc, rfl, _⟩ := h
  generalize hw0 : w.alloc (.cells #[] 38) = w0 at *
  have HW := hide hw0
  clear hw0
  obtain ⟨i0, hi, hz0, hz1, hz2⟩ := info_parts infoSt
  by_cases hc : selOk L fr to = true
  · have R : Hid (selA L fr to = selS (ordL L) fr to L.length) := hide (by unfold selA; rw [if_pos hc])
    unfold selOk at hc
    simp only [Bool.and_eq_true, decide_eq_true_eq] at hc
    obtain ⟨⟨⟨hok, f1⟩, f2⟩, f3⟩ := hc
    have hl2 : L.length ≤ 1000 := ((okL_iff L).1 hok).1
    have g1 : ¬ fr < 0 := by omega
    have g2 : ¬ to < fr := by omega
    have g3 : ¬ (L.length : Int) < to := by omega
    go_enter Try.func17, Try.ntmps17
    go_wp2_with fail
    rw [unhide HW]
    refine (unhide AL).mono ?_
    rintro e w1 ⟨rfl, hbl⟩
    rw [hok]
    have HB1 := hide hbl
    have S1 := hide ((unhide HO0).below hbl)
    have W1 := hide ((unhide W0).trans (hbl.mono (by omega)))
    clear hbl AL HO0 W0
    go_wp2_with fail
    refine (l09Order_any _ L _ (unhide HV _ (unhide W1)) hl).mono ?_
    rintro e w2 ⟨ov, rfl, ho, hbl⟩
    have hod : Own w2 w1.heap.size ov (ordL L) := ho
    have hz1s := (unhide HB1).size
    have S2 := hide ((unhide S1).below hbl)
    have W2 : Hid (Below w.heap.size w w2) := hide ((unhide W1).trans (hbl.mono (unhide W1).size))
    have NE : Hid (∀ k, (Value.slice (some ⟨w.heap.size, 0, none⟩) 0 0).ownBlock = some k → ov.ownBlock ≠ some k) := hide (fun k hk e => by
      have := (World.ownsRow.lt hod k e).1
      simp [Value.ownBlock] at hk
      omega)
    have OD : Hid (Own w2 w.heap.size ov (ordL L)) := hide (own_base hod (by omega))
    obtain ⟨oa, oc, rfl, _⟩ := hod.at
    rw [ordL_len] at NE OD ⊢
    have HS0 : Hid (Sel w w2 (.slice (some ⟨w.heap.size, 0, none⟩) 0 0) (.slice oa L.length oc) 0 (selS (ordL L) fr to 0) (ordL L)) := hide ⟨unhide S2, unhide OD, unhide NE, unhide W2⟩
    clear ho hbl hod S1 S2 W1 W2 NE OD HB1 HW
    go_wp2
    go_loopw [7, 9] (fun v7 i wr => ∃ (k m : Nat) (va : Option Addr) (vc : Nat), k ≤ L.length ∧ m ≤ k ∧ v7 = .slice va m vc ∧ i = .int .i64 k ∧ Hid (Sel w wr (.slice va m vc) (.slice oa L.length oc) m (selS (ordL L) fr to k) (ordL L))) (fun _ i _ => L.length - (intOf i).toNat)
    case atStart => exact ⟨0, 0, _, _, Nat.zero_le _, Nat.zero_le _, rfl, rfl, HS0⟩
    case round =>
      obtain ⟨k, m, va2, vc2, hk, hmk, rfl, rfl, HS⟩ := hrel
      clear HS0
      by_cases hlt : k < L.length
      · have hlt' : (k : Int) < (L.length : Int) := by omega
        obtain ⟨b, off, rfl, co⟩ := (unhide HS).ord k (by rw [ordL_len]; exact hlt)
        obtain ⟨o, eo⟩ : ∃ o, o = nth (ordL L) k := ⟨_, rfl⟩
        have EO := hide eo
        rw [← eo] at co
        by_cases t1 : o < fr
        · have E := hide (sel_out (O := (ordL L)) (fr := fr) (to := to) (k := k) (.inl (by rw [← eo]; exact t1)))
          have HS' : Hid (Sel w wr (.slice va2 m vc2) (.slice (some ⟨b, off, none⟩) L.length oc) m (selS (ordL L) fr to (k + 1)) (ordL L)) := hide (by rw [unhide E]; exact unhide HS)
          clear HS E eo
          go_wp2
          go_roundw
          case rel => exact ⟨k + 1, m, _, _, by omega, by omega, rfl, by go_num, HS'⟩
          case measure => simp [intOf]; omega
        by_cases t2 : to ≤ o
        · have E := hide (sel_out (O := (ordL L)) (fr := fr) (to := to) (k := k) (.inr (by rw [← eo]; exact t2)))
          have HS' : Hid (Sel w wr (.slice va2 m vc2) (.slice (some ⟨b, off, none⟩) L.length oc) m (selS (ordL L) fr to (k + 1)) (ordL L)) := hide (by rw [unhide E]; exact unhide HS)
          clear HS E eo
          go_wp2
          go_roundw
          case rel => exact ⟨k + 1, m, _, _, by omega, by omega, rfl, by go_num, HS'⟩
          case measure => simp [intOf]; omega
        have hsl := (unhide HS).st.len
        by_cases hm : m = 0
        · subst hm
          have E := hide (sel_new (O := (ordL L)) (fr := fr) (to := to) (k := k) (by rw [← eo]; exact t1) (by rw [← eo]; exact t2) (by omega))
          clear eo hsl
          go_wp2_with (at_builtin; go_loud (refine wpList_appG _ rfl _ _ 29 rfl w.heap.size 38 i0 (.agg #[.int .i64 0, .int .i64 0]) 2 16 Try.underlying29 hi hz0 hz1 hz2 rfl (by decide) _ _ _ rfl (World.ownsRow.alloc (unhide HS).st _) ⟨wr.heap.size, 0, none⟩ 1 1 [.int .i64 (k : Int), .int .i64 ((k : Int) + 1)] rfl rfl (two_new _ _ _ _) (two_one _ _) (by unfold maxLen; omega) (by omega) (by have := (unhide HS).bel.size; simp; omega) ?_))
          intro v' w3 hown' hgrow hblk
          have HS' : Hid (Sel w w3 v' (.slice (some ⟨b, off, none⟩) L.length oc) (0 + 1) (selS (ordL L) fr to (k + 1)) (ordL L)) := hide (by rw [unhide E]; exact (unhide HS).app hown' hgrow hblk)
          clear hown' hgrow hblk HS
          obtain ⟨va', vc', rfl, hva'⟩ := (unhide HS').st.form
          clear hva'
          go_wp2
          go_roundw
          case rel => exact ⟨k + 1, 0 + 1, _, _, by omega, by omega, rfl, by go_num, HS'⟩
          case measure => simp [intOf]; omega
        · obtain ⟨q, rfl⟩ : ∃ q, m = q + 1 := ⟨m - 1, by omega⟩
          obtain ⟨a', c', ev, hgg⟩ := (unhide HS).st.form
          obtain ⟨g, rfl, _, _⟩ := hgg (by omega)
          injection ev with e1 e2 e3
          subst e1 e3
          clear e2
          obtain ⟨cz, fz⟩ := (unhide HS).st.cell (q * 2 + 1) (by omega)
          by_cases hx : nth (selS (ordL L) fr to k) (q * 2 + 1) = (k : Int)
          · have E := hide (sel_hit (O := (ordL L)) (fr := fr) (to := to) (k := k) (by rw [← eo]; exact t1) (by rw [← eo]; exact t2) hsl hx)
            have HS' : Hid (Sel w (wr.setCell ⟨g, q * 2 + 1, none⟩ (.int .i64 ((k : Int) + 1))) (.slice (some ⟨g, 0, none⟩) (q + 1) vc2) (.slice (some ⟨b, off, none⟩) L.length oc) (q + 1) (selS (ordL L) fr to (k + 1)) (ordL L)) := hide (by rw [unhide E]; exact (unhide HS).put (q * 2 + 1) ((k : Int) + 1))
            rw [hx] at cz
            have hq : ((k : Int) == (k : Int)) = true := by simp
            clear HS E eo hsl hx
            go_wp2
            go_roundw
            case rel => exact ⟨k + 1, q + 1, _, _, by omega, by omega, rfl, by go_num, HS'⟩
            case measure => simp [intOf]; omega
          · have E := hide (sel_more (O := (ordL L)) (fr := fr) (to := to) (k := k) (by rw [← eo]; exact t1) (by rw [← eo]; exact t2) hsl hx)
            have hq : (nth (selS (ordL L) fr to k) (q * 2 + 1) == (k : Int)) = false := by simpa using hx
            clear eo hsl hx
            go_wp2_with (at_builtin; go_loud (refine wpList_appG _ rfl _ _ 29 rfl w.heap.size 38 i0 (.agg #[.int .i64 0, .int .i64 0]) 2 16 Try.underlying29 hi hz0 hz1 hz2 rfl (by decide) _ _ _ rfl (World.ownsRow.alloc (unhide HS).st _) ⟨wr.heap.size, 0, none⟩ 1 1 [.int .i64 (k : Int), .int .i64 ((k : Int) + 1)] rfl rfl (two_new _ _ _ _) (two_one _ _) (by unfold maxLen; omega) (by omega) (by have := (unhide HS).bel.size; simp; omega) ?_))
            intro v' w3 hown' hgrow hblk
            have HS' : Hid (Sel w w3 v' (.slice (some ⟨b, off, none⟩) L.length oc) ((q + 1) + 1) (selS (ordL L) fr to (k + 1)) (ordL L)) := hide (by rw [unhide E]; exact (unhide HS).app hown' hgrow hblk)
            clear hown' hgrow hblk HS
            obtain ⟨va', vc', rfl, hva'⟩ := (unhide HS').st.form
            clear hva'
            go_wp2
            go_roundw
            case rel => exact ⟨k + 1, (q + 1) + 1, _, _, by omega, by omega, rfl, by go_num, HS'⟩
            case measure => simp [intOf]; omega
      · obtain rfl : k = L.length := by omega
        go_wp2
        go_ret
        rw [unhide R]
        exact ⟨_, m, rfl, (unhide HS).st, (unhide HS).bel⟩
  · have R : Hid (selA L fr to = []) := hide (by unfold selA; rw [if_neg hc])
    unfold selOk at hc
    simp only [Bool.and_eq_true, decide_eq_true_eq] at hc
    cases hok : okL L
    · go_enter Try.func17, Try.ntmps17
      go_wp2_with fail
      rw [unhide HW]
      refine (unhide AL).mono ?_
      rintro e w1 ⟨rfl, hbl⟩
      rw [hok]
      have S1 := hide ((unhide HO0).below hbl)
      have W1 := hide ((unhide W0).trans (hbl.mono (by omega)))
      clear hbl AL HO0 W0 hc
      go_wp2
      go_ret
      rw [unhide R]
      exact ⟨_, 0, rfl, unhide S1, unhide W1⟩
    by_cases g1 : fr < 0
    · go_enter Try.func17, Try.ntmps17
      go_wp2_with fail
      rw [unhide HW]
      refine (unhide AL).mono ?_
      rintro e w1 ⟨rfl, hbl⟩
      rw [hok]
      have S1 := hide ((unhide HO0).below hbl)
      have W1 := hide ((unhide W0).trans (hbl.mono (by omega)))
      clear hbl AL HO0 W0 hc
      go_wp2
      go_ret
      rw [unhide R]
      exact ⟨_, 0, rfl, unhide S1, unhide W1⟩
    by_cases g2 : to < fr
    · go_enter Try.func17, Try.ntmps17
      go_wp2_with fail
      rw [unhide HW]
      refine (unhide AL).mono ?_
      rintro e w1 ⟨rfl, hbl⟩
      rw [hok]
      have S1 := hide ((unhide HO0).below hbl)
      have W1 := hide ((unhide W0).trans (hbl.mono (by omega)))
      clear hbl AL HO0 W0 hc
      go_wp2
      go_ret
      rw [unhide R]
      exact ⟨_, 0, rfl, unhide S1, unhide W1⟩
    have g3 : (L.length : Int) < to := by
      by_cases g : (L.length : Int) < to
      · exact g
      · exact absurd ⟨⟨⟨hok, by omega⟩, by omega⟩, by omega⟩ hc
    go_enter Try.func17, Try.ntmps17
    go_wp2_with fail
    rw [unhide HW]
    refine (unhide AL).mono ?_
    rintro e w1 ⟨rfl, hbl⟩
    rw [hok]
    have S1 := hide ((unhide HO0).below hbl)
    have W1 := hide ((unhide W0).trans (hbl.mono (by omega)))
    clear hbl AL HO0 W0 hc
    go_wp2
    go_ret
    rw [unhide R]
    exact ⟨_, 0, rfl, unhide S1, unhide W1⟩
set_option maxHeartbeats 2000000 in
set_option maxRecDepth 100000 in
theorem implSelected (v : Value) (L : List Int) (fr to : Int) (w : World) (h : IntsAt w v L) (hl : L.length ≤ 1048576) :
    Calls Try.prog 18 #[v, .int .i64 fr, .int .i64 to] w fun e w' => ∃ sv m, e = .returned sv ∧ StRow w' w.heap.size sv m (selA L fr to) ∧ Below w.heap.size w w' := by
  have IO := hide (implOrder v L w h hl)
  obtain ⟨i0, hi, hz0, hz1, hz2⟩ := info_parts infoSt
  have lO := ordA_len L
  go_enter Try.func18, Try.ntmps18
  go_wp2_with fail
  refine (unhide IO).mono ?_
  rintro e w2 ⟨ov, rfl, ho, hbl⟩
  have OD : Hid (Own w2 w.heap.size ov (ordA L)) := hide ho
  have W2 := hide hbl
  clear ho hbl IO
  obtain ⟨oa, oc, rfl, _⟩ := (unhide OD).at
  by_cases g1 : fr < 0
  · have R := hide (selA_bad L fr to (.inl g1))
    go_wp2
    go_ret
    rw [unhide R]
    exact ⟨_, 0, rfl, World.ownsRow_nil _ _ _ _, unhide W2⟩
  by_cases g2 : ((ordA L).length : Int) < to
  · have R := hide (selA_bad L fr to (.inr g2))
    go_wp2
    go_ret
    rw [unhide R]
    exact ⟨_, 0, rfl, World.ownsRow_nil _ _ _ _, unhide W2⟩
  have R := hide (selA_impl L fr to (by omega))
  have HS0 : Hid (Sel w w2 (.slice none 0 0) (.slice oa (ordA L).length oc) 0 (selS (ordA L) fr to 0) (ordA L)) := hide ⟨World.ownsRow_nil _ _ _ _, unhide OD, fun k hk => by simp [Value.ownBlock] at hk, unhide W2⟩
  clear W2 OD
  obtain ⟨n, en⟩ : ∃ n, n = (ordA L).length := ⟨_, rfl⟩
  have EN := hide en
  rw [← en] at HS0 lO g2 R
  rw [← en]
  clear en
  go_wp2
  go_loopw [8, 25] (fun v7 i wr => ∃ (k m : Nat) (va : Option Addr) (vc : Nat), k ≤ n ∧ m ≤ k ∧ v7 = .slice va m vc ∧ i = .int .i64 k ∧ Hid (Sel w wr (.slice va m vc) (.slice oa n oc) m (selS (ordA L) fr to k) (ordA L))) (fun _ i _ => n - (intOf i).toNat)
  case atStart => exact ⟨0, 0, _, _, Nat.zero_le _, Nat.zero_le _, rfl, rfl, HS0⟩
  case round =>
    obtain ⟨k, m, va2, vc2, hk, hmk, rfl, rfl, HS⟩ := hrel
    clear HS0
    by_cases hlt : k < n
    · have hlt' : (k : Int) < (n : Int) := by omega
      obtain ⟨b, off, rfl, co⟩ := (unhide HS).ord k (by rw [← unhide EN]; exact hlt)
      obtain ⟨o, eo⟩ : ∃ o, o = nth (ordA L) k := ⟨_, rfl⟩
      have EO := hide eo
      rw [← eo] at co
      by_cases t1 : o < fr
      · have E := hide (sel_out (O := (ordA L)) (fr := fr) (to := to) (k := k) (.inl (by rw [← eo]; exact t1)))
        have HS' : Hid (Sel w wr (.slice va2 m vc2) (.slice (some ⟨b, off, none⟩) n oc) m (selS (ordA L) fr to (k + 1)) (ordA L)) := hide (by rw [unhide E]; exact unhide HS)
        clear HS E eo
        go_wp2
        go_roundw
        case rel => exact ⟨k + 1, m, _, _, by omega, by omega, rfl, by go_num, HS'⟩
        case measure => simp [intOf]; omega
      by_cases t2 : to ≤ o
      · have E := hide (sel_out (O := (ordA L)) (fr := fr) (to := to) (k := k) (.inr (by rw [← eo]; exact t2)))
        have HS' : Hid (Sel w wr (.slice va2 m vc2) (.slice (some ⟨b, off, none⟩) n oc) m (selS (ordA L) fr to (k + 1)) (ordA L)) := hide (by rw [unhide E]; exact unhide HS)
        clear HS E eo
        go_wp2
        go_roundw
        case rel => exact ⟨k + 1, m, _, _, by omega, by omega, rfl, by go_num, HS'⟩
        case measure => simp [intOf]; omega
      have hsl := (unhide HS).st.len
      by_cases hm : m = 0
      · subst hm
        have E := hide (sel_new (O := (ordA L)) (fr := fr) (to := to) (k := k) (by rw [← eo]; exact t1) (by rw [← eo]; exact t2) (by omega))
        clear eo hsl
        go_wp2_with (at_builtin; go_loud (refine wpList_appG _ rfl _ _ 29 rfl w.heap.size 38 i0 (.agg #[.int .i64 0, .int .i64 0]) 2 16 Try.underlying29 hi hz0 hz1 hz2 rfl (by decide) _ _ _ rfl (World.ownsRow.alloc (unhide HS).st _) ⟨wr.heap.size, 0, none⟩ 1 1 [.int .i64 (k : Int), .int .i64 ((k : Int) + 1)] rfl rfl (two_new _ _ _ _) (two_one _ _) (by unfold maxLen; omega) (by omega) (by have := (unhide HS).bel.size; simp; omega) ?_))
        intro v' w3 hown' hgrow hblk
        have HS' : Hid (Sel w w3 v' (.slice (some ⟨b, off, none⟩) n oc) (0 + 1) (selS (ordA L) fr to (k + 1)) (ordA L)) := hide (by rw [unhide E]; exact (unhide HS).app hown' hgrow hblk)
        clear hown' hgrow hblk HS
        obtain ⟨va', vc', rfl, hva'⟩ := (unhide HS').st.form
        clear hva'
        go_wp2
        go_roundw
        case rel => exact ⟨k + 1, 0 + 1, _, _, by omega, by omega, rfl, by go_num, HS'⟩
        case measure => simp [intOf]; omega
      · obtain ⟨q, rfl⟩ : ∃ q, m = q + 1 := ⟨m - 1, by omega⟩
        obtain ⟨a', c', ev, hgg⟩ := (unhide HS).st.form
        obtain ⟨g, rfl, _, _⟩ := hgg (by omega)
        injection ev with e1 e2 e3
        subst e1 e3
        clear e2
        obtain ⟨cz, fz⟩ := (unhide HS).st.cell (q * 2 + 1) (by omega)
        by_cases hx : nth (selS (ordA L) fr to k) (q * 2 + 1) = (k : Int)
        · have E := hide (sel_hit (O := (ordA L)) (fr := fr) (to := to) (k := k) (by rw [← eo]; exact t1) (by rw [← eo]; exact t2) hsl hx)
          have HS' : Hid (Sel w (wr.setCell ⟨g, q * 2 + 1, none⟩ (.int .i64 ((k : Int) + 1))) (.slice (some ⟨g, 0, none⟩) (q + 1) vc2) (.slice (some ⟨b, off, none⟩) n oc) (q + 1) (selS (ordA L) fr to (k + 1)) (ordA L)) := hide (by rw [unhide E]; exact (unhide HS).put (q * 2 + 1) ((k : Int) + 1))
          rw [hx] at cz
          have hq : ((k : Int) == (k : Int)) = true := by simp
          clear HS E eo hsl hx
          go_wp2
          go_roundw
          case rel => exact ⟨k + 1, q + 1, _, _, by omega, by omega, rfl, by go_num, HS'⟩
          case measure => simp [intOf]; omega
        · have E := hide (sel_more (O := (ordA L)) (fr := fr) (to := to) (k := k) (by rw [← eo]; exact t1) (by rw [← eo]; exact t2) hsl hx)
          have hq : (nth (selS (ordA L) fr to k) (q * 2 + 1) == (k : Int)) = false := by simpa using hx
          clear eo hsl hx
          go_wp2_with (at_builtin; go_loud (refine wpList_appG _ rfl _ _ 29 rfl w.heap.size 38 i0 (.agg #[.int .i64 0, .int .i64 0]) 2 16 Try.underlying29 hi hz0 hz1 hz2 rfl (by decide) _ _ _ rfl (World.ownsRow.alloc (unhide HS).st _) ⟨wr.heap.size, 0, none⟩ 1 1 [.int .i64 (k : Int), .int .i64 ((k : Int) + 1)] rfl rfl (two_new _ _ _ _) (two_one _ _) (by unfold maxLen; omega) (by omega) (by have := (unhide HS).bel.size; simp; omega) ?_))
          intro v' w3 hown' hgrow hblk
          have HS' : Hid (Sel w w3 v' (.slice (some ⟨b, off, none⟩) n oc) ((q + 1) + 1) (selS (ordA L) fr to (k + 1)) (ordA L)) := hide (by rw [unhide E]; exact (unhide HS).app hown' hgrow hblk)
          clear hown' hgrow hblk HS
          obtain ⟨va', vc', rfl, hva'⟩ := (unhide HS').st.form
          clear hva'
          go_wp2
          go_roundw
          case rel => exact ⟨k + 1, (q + 1) + 1, _, _, by omega, by omega, rfl, by go_num, HS'⟩
          case measure => simp [intOf]; omega
    · obtain rfl : n = k := by omega
      go_wp2
      go_ret
      rw [unhide R]
      exact ⟨_, m, rfl, (unhide HS).st, (unhide HS).bel⟩
end Go.Proofs.Ytfnaclpkpjembaa.Bd
