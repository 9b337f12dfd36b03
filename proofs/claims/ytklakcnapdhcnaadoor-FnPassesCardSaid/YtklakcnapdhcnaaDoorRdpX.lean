/- A text of a rule, as the specification reads it. -/
import Derived.Test.YtklakcnapdhcnaaDoorRdpV
import Derived.BigQuiet
namespace Go.Proofs.YtklakcnapdhcnaaDoor.Pas
open Go.RowKit
set_option linter.unusedVariables false
set_option maxRecDepth 100000 in
set_option maxHeartbeats 2000000 in
theorem in_any8 (s : ByteArray) (b : Nat) (w : World) (hs : s.size = 8) (K : Bool) (hK : (∃ j, j < 8 ∧ bt s j = b) ↔ K = true) : Calls Tryd.prog 33 #[.int .i64 (b : Int), .string s] w fun e w' => e = .returned (.bool K) ∧ w' = w := by
  have hsl : s.size ≤ 8 := by omega
  have hsg : 8 ≤ s.size := by omega
  have HK := hide hK
  clear hK hs
  go_enter Tryd.func33, Tryd.ntmps33
  go_wp2
  go_loopw [5] (fun iv wr => ∃ k : Nat, k ≤ s.size ∧ iv = .int .i64 k ∧ Hid (∀ j, j < k → bt s j ≠ b) ∧ wr = w) (fun iv _ => s.size - (intOf iv).toNat)
  case atStart => exact ⟨0, Nat.zero_le _, rfl, hide (fun j hj => by omega), rfl⟩
  case round =>
    obtain ⟨k, hk, rfl, HJ, rfl⟩ := hrel
    by_cases hlt : k < s.size
    · have hlt' : (k : Int) < (s.size : Int) := by omega
      have h0k : (0 : Int) ≤ (k : Int) := by omega
      have f1 : ∀ h, (s[k]'h).toNat = bt s k := fun h => bt_get s k h
      have hbb := bt_lt s k
      have hwp : wrap64 ((bt s k : Nat) : Int) = ((bt s k : Nat) : Int) := by unfold wrap64; omega
      by_cases he : bt s k = b
      · have HT : Hid (K = true) := hide ((unhide HK).1 ⟨k, by omega, he⟩)
        have he' : ((b : Int) == ((bt s k : Nat) : Int)) = true := by rw [he]; exact beq_self_eq_true _
        clear he HK HJ
        generalize bt s k = c at *
        go_wp2
        go_ret
        exact ⟨by rw [unhide HT]; rfl, rfl⟩
      · have HJ2 : Hid (∀ j, j < k + 1 → bt s j ≠ b) := hide (fun j hj => by
          by_cases e : j = k
          · rw [e]; exact he
          · exact (unhide HJ) j (by omega))
        have he' : ((b : Int) == ((bt s k : Nat) : Int)) = false := by rw [beq_eq_false_iff_ne]; omega
        clear he HJ
        generalize bt s k = c at *
        go_wp2
        go_roundw
        case rel => exact ⟨k + 1, by omega, by go_num, HJ2, trivial⟩
        case measure => simp [intOf]; omega
    · obtain rfl : k = s.size := by omega
      have HT : Hid (K = false) := hide (by
        cases hh : K with
        | false => rfl
        | true =>
          obtain ⟨j, hj, e⟩ := (unhide HK).2 hh
          exact absurd e ((unhide HJ) j (by omega)))
      go_wp2
      go_ret
      exact ⟨by rw [unhide HT]; rfl, rfl⟩
def Sg8 : ByteArray := ⟨#[91, 93, 62, 124, 58, 32, 92, 10]⟩
theorem sg8_is (b : Nat) : (∃ j, j < 8 ∧ bt Sg8 j = b) ↔ (sgnB b || b == 10) = true := by
  have e : bt Sg8 0 = 91 ∧ bt Sg8 1 = 93 ∧ bt Sg8 2 = 62 ∧ bt Sg8 3 = 124 ∧ bt Sg8 4 = 58 ∧ bt Sg8 5 = 32 ∧ bt Sg8 6 = 92 ∧ bt Sg8 7 = 10 := ⟨rfl, rfl, rfl, rfl, rfl, rfl, rfl, rfl⟩
  obtain ⟨e0, e1, e2, e3, e4, e5, e6, e7⟩ := e
  unfold sgnB
  simp only [Bool.or_eq_true, beq_iff_eq]
  constructor
  · rintro ⟨j, hj, rfl⟩
    have : j = 0 ∨ j = 1 ∨ j = 2 ∨ j = 3 ∨ j = 4 ∨ j = 5 ∨ j = 6 ∨ j = 7 := by omega
    rcases this with rfl | rfl | rfl | rfl | rfl | rfl | rfl | rfl <;> omega
  · rintro ((h | h | h | h | h | h | h) | h)
    · exact ⟨0, by omega, by omega⟩
    · exact ⟨1, by omega, by omega⟩
    · exact ⟨2, by omega, by omega⟩
    · exact ⟨3, by omega, by omega⟩
    · exact ⟨4, by omega, by omega⟩
    · exact ⟨5, by omega, by omega⟩
    · exact ⟨6, by omega, by omega⟩
    · exact ⟨7, by omega, by omega⟩
theorem in_sg8 (b : Nat) (w : World) : Calls Tryd.prog 33 #[.int .i64 (b : Int), .string ⟨#[91, 93, 62, 124, 58, 32, 92, 10]⟩] w fun e w' => e = .returned (.bool (sgnB b || b == 10)) ∧ w' = w := in_any8 Sg8 b w rfl (sgnB b || b == 10) (sg8_is b)
theorem beq92 {b : Nat} (h : ¬ b = 92) : ((b : Int) == 92) = false := by rw [beq_eq_false_iff_ne]; omega
theorem dec92 {b : Nat} (h : ¬ b = 92) : decide ((b : Int) = 92) = false := decide_eq_false (by omega)
theorem beq110 {b : Nat} (h : ¬ b = 110) : ((b : Int) == 110) = false := by rw [beq_eq_false_iff_ne]; omega
/-- The place. -/
def rs (A : Nat) (w : World) : Nat := match w.cell? ⟨A, 1, none⟩ with
  | some (.int _ i) => i.toNat
  | _ => 0
theorem Sx.rs {w : World} {A : Nat} {t : ByteArray} {x : Nat × Bool} (h : Sx w A t x) : rs A w = x.1 := by
  unfold Pas.rs
  rw [(three_cellsR h).1.2.1]
  rfl
structure Ts (t : ByteArray) (i j : Nat) (X : List Int) : Prop where
  a : (txS t i).1 = X ++ (txS t j).1
  b : (txS t i).2 = (txS t j).2
theorem Ts.hid {t : ByteArray} {i j : Nat} {X : List Int} (h : Ts t i j X) (h1 : j < t.size) (h2 : bt t j = 92) (h3 : j + 1 < t.size) (h4 : badB (bt t (j + 1)) = false) : Ts t i (j + 2) (X ++ [(Pas.hid (bt t (j + 1)) : Int)]) := by
  obtain ⟨a, b⟩ := h
  rw [txS_hid h1 h2 h3 (by rw [h4]; decide)] at a b
  exact ⟨by rw [a]; simp, b⟩
theorem Ts.on {t : ByteArray} {i j : Nat} {X : List Int} (h : Ts t i j X) (h1 : j < t.size) (h2 : ¬ (bt t j = 92 ∧ j + 1 < t.size)) (h3 : ¬ (sgnB (bt t j) = true ∨ bt t j = 10)) : Ts t i (j + 1) (X ++ [(bt t j : Int)]) := by
  obtain ⟨a, b⟩ := h
  rw [txS_on h1 h2 h3] at a b
  exact ⟨by rw [a]; simp, b⟩
theorem Ts.stop {t : ByteArray} {i j : Nat} {X : List Int} {q : Bool} (h : Ts t i j X) (h1 : txS t j = ([], j, q)) : txS t i = (X, j, q) := by
  obtain ⟨a, b⟩ := h
  rw [h1] at a b
  refine Prod.ext ?_ b
  rw [a]; simp
theorem drewNB (w : World) (n : Nat) : Below w.heap.size w (w.drewN n) := ⟨rfl, rfl, rfl, Nat.le_refl _, fun _ _ => rfl⟩
theorem Kx.drewN {A : Nat} {w w' : World} (h : Kx A w w') (n : Nat) : Kx A w (w'.drewN n) := ⟨h.bel.trans ⟨rfl, rfl, rfl, Nat.le_refl _, fun _ _ => rfl⟩, h.oth⟩
theorem Sx.drewN {w : World} {A : Nat} {t : ByteArray} {x : Nat × Bool} (h : Sx w A t x) (n : Nat) : Sx (w.drewN n) A t x := h
/-- All that the loop knows of its world. -/
structure Lp (w wr : World) (A j : Nat) (t : ByteArray) (v : Value) (X : List Int) : Prop where
  o : By w.heap.size wr v X
  b : Sx wr A t (j, false)
  k : Kx A w wr
theorem Lp.drewN {w wr : World} {A j : Nat} {t : ByteArray} {v : Value} {X : List Int} (h : Lp w wr A j t v X) (n : Nat) : Lp w (wr.drewN n) A j t v X := ⟨h.o.below (drewNB _ _), h.b.drewN n, h.k.drewN n⟩
/-- A byte more, and the place goes on. -/
theorem Lp.snoc {w wr w2 : World} {A j : Nat} {t : ByteArray} {v v' : Value} {X : List Int} {o : Obj} {x : Int} (h : Lp w wr A j t v X) (hA : A < w.heap.size) (ho : w2.ownsRow w.heap.size 5 1 v' (X.length + 1) (X.map (Value.int .u8) ++ [.int .u8 x])) (hg : (wr.alloc o).grownBy w2 v.ownBlock) (m : Nat) :
    Sx w2 A t (j, false) ∧ Lp w (w2.setCell ⟨A, 1, none⟩ (.int .i64 ((j + m : Nat) : Int))) A (j + m) t v' (X ++ [x]) := by
  have st := (Kb.refl w.heap.size wr).app h.k.bel.size h.o hg
  have B2 : Sx w2 A t (j, false) := st.typ _ _ _ _ h.b (by decide)
  exact ⟨B2, By.put (A := A) (j := 1) (By.snoc (N := [x]) ho rfl) hA, B2.put1 (j + m), (h.k.kb st (Nat.le_of_lt hA)).put 1 _⟩
set_option maxRecDepth 100000 in
set_option maxHeartbeats 16000000 in
/-- l13Text, where nothing is wrong yet. -/
theorem textS_ok (A i : Nat) (t : ByteArray) (w : World) (ht : t.size ≤ 1048576) (hi : i ≤ t.size) (hB : Sx w A t (i, false)) :
    Calls Tryd.prog 38 #[.pointer (some ⟨A, 0, none⟩)] w fun e w' => e = .returned (.string (strOfNums (txS t i).1)) ∧ Sx w' A t (txS t i).2 ∧ Kx A w w' := by
  obtain ⟨i0, hi0, hz0, hz1, hz2⟩ := info_parts infoB
  have hA := hB.lt
  have L0 : Hid (Lp w (w.alloc (.cells #[] 5)) A i t (.slice (some ⟨w.heap.size, 0, none⟩) 0 0) []) := hide ⟨World.ownsRow_lit w #[] 0 (Nat.le_refl _) (by unfold maxLen; omega) rfl, ((al1 w _).block A hA).trans hB, (Kx.refl A w).of (al1 w (.cells #[] 5)) (Nat.le_of_lt hA)⟩
  have T0 : Hid (Ts t i i []) := hide ⟨by simp, rfl⟩
  clear hB
  go_enter Tryd.func38, Tryd.ntmps38
  go_wp2
  go_loopw [3] (fun tv wr => ∃ (j : Nat) (X : List Int), j ≤ t.size ∧ X.length ≤ j ∧ Hid (Lp w wr A j t tv X) ∧ Hid (Ts t i j X)) (fun _ wr => t.size - rs A wr)
  case atStart => exact ⟨i, [], hi, Nat.zero_le _, L0, T0⟩
  case round =>
    obtain ⟨j, X, hj, hX, HL, HT⟩ := hrel
    clear L0 T0
    have HRS := hide (unhide HL).b.rs
    simp only at HRS
    obtain ⟨⟨c0, c1, c2⟩, _⟩ := three_cellsR (unhide HL).b
    simp only at c0 c1 c2
    by_cases hlt : j < t.size
    · have hlt' : (j : Int) < (t.size : Int) := by omega
      have h0j : (0 : Int) ≤ (j : Int) := by omega
      have g1 : ∀ h, (t[j]'h).toNat = bt t j := fun h => bt_get t j h
      have hbb := bt_lt t j
      go_wp2_with fail
      go_quiet (fail)
      have HL' := hide ((unhide HL).drewN nq)
      clear HL c0 c1 c2
      generalize wr.drewN nq = y1 at *
      have HL := HL'
      clear HL'
      obtain ⟨⟨c0, c1, c2⟩, _⟩ := three_cellsR (unhide HL).b
      simp only at c0 c1 c2
      go_wp2_with fail
      go_quiet (fail)
      have HL' := hide ((unhide HL).drewN nq)
      clear HL c0 c1 c2
      generalize y1.drewN nq = y2 at *
      have HL := HL'
      clear HL'
      obtain ⟨⟨c0, c1, c2⟩, _⟩ := three_cellsR (unhide HL).b
      simp only at c0 c1 c2
      go_wp2_with fail
      obtain ⟨b, hb⟩ : ∃ b, b = bt t j := ⟨_, rfl⟩
      rw [← hb] at hbb ⊢
      have HBT := hide hb
      clear hb g1
      by_cases h92b : b = 92
      · have h92 : bt t j = 92 := (unhide HBT).symm.trans h92b
        have h92' : ((b : Int) == 92) = true := by rw [h92b]; rfl
        have hbI : (b : Int) = 92 := by omega
        have ew2 : IntKind.i64.wrap ((j : Int) + 1) = (j : Int) + 1 := wrap_in _ (by omega) (by omega)
        by_cases h2 : j + 1 < t.size
        · have h2' : (j : Int) + 1 < (t.size : Int) := by omega
          have h2'' : (0 : Int) ≤ (j : Int) + 1 := by omega
          have et : ((j : Int) + 1).toNat = j + 1 := by omega
          have g2 : ∀ h, (t[j + 1]'h).toNat = bt t (j + 1) := fun h => bt_get t (j + 1) h
          have hb2 := bt_lt t (j + 1)
          have HT1 := hide (fun h => (unhide HT).hid hlt h92 h2 h)
          have HS1 := hide (fun h => (unhide HT).stop (txS_bad hlt h92 h2 h))
          have CI := hide (fun W => in_sgs (bt t (j + 1)) W)
          have CF := hide (fun W h => fail_any A j t false W h)
          have N1 := hide (fun h => hid_n (b := bt t (j + 1)) h)
          have N2 := hide (fun h => hid_o (b := bt t (j + 1)) h)
          have D1 := hide (fun h => bad_n (b := bt t (j + 1)) h)
          have D2 := hide (fun h => bad_o (b := bt t (j + 1)) h)
          have hwp : wrap64 ((bt t (j + 1) : Nat) : Int) = ((bt t (j + 1) : Nat) : Int) := by unfold wrap64; omega
          clear HT h92 HBT hb2
          go_quiet (fail)
          have HL' := hide ((unhide HL).drewN nq)
          clear HL c0 c1 c2
          generalize y2.drewN nq = y3 at *
          have HL := HL'
          clear HL'
          obtain ⟨⟨c0, c1, c2⟩, _⟩ := three_cellsR (unhide HL).b
          simp only at c0 c1 c2
          go_wp2_with fail
          go_quiet (fail)
          have HL' := hide ((unhide HL).drewN nq)
          clear HL c0 c1 c2
          generalize y3.drewN nq = y4 at *
          have HL := HL'
          clear HL'
          obtain ⟨⟨c0, c1, c2⟩, _⟩ := three_cellsR (unhide HL).b
          simp only at c0 c1 c2
          generalize bt t (j + 1) = b2 at *
          clear g2 et h2' h2'' h92' hbI h92b ew2
          --STOP1
          by_cases h110 : b2 = 110
          · have h110' : ((b2 : Int) == 110) = true := by rw [h110]; rfl
            have HT4 := hide ((unhide HT1) ((unhide D1) h110))
            rw [(unhide N1) h110] at HT4
            clear HT1 HS1 N1 N2 D1 D2 CF CI
            have hlw := (unhide HL).k.bel.size
            go_wp2_with (at_builtin; refine wpList_appG _ rfl _ _ 22 rfl w.heap.size 5 i0 (.int .u8 0) 1 1 Tryd.underlying22 hi0 hz0 hz1 hz2 rfl (by decide) _ _ _ rfl (By.alloc (unhide HL).o _) ⟨y4.heap.size, 0, none⟩ 1 1 [.int .u8 10] rfl rfl (one_new _ _) (one_oneB _) ?c3 ?c4 ?c5 ?_)
            case c3 => unfold maxLen; omega
            case c4 => omega
            case c5 => simp; omega
            intro v' w2 hown hgrow _
            obtain ⟨B2, L3⟩ := (unhide HL).snoc (x := 10) hA hown hgrow 2
            have H3 := hide L3
            obtain ⟨⟨d0, d1, d2⟩, ⟨k0, k1, k2⟩⟩ := three_cellsR B2
            simp only at d0 d1 d2
            have ej : ((j + 2 : Nat) : Int) = (j : Int) + 2 := by omega
            rw [ej] at H3
            clear hown hgrow B2 L3 ej HL c0 c1 c2
            go_wp2
            go_roundw
            case rel => exact ⟨j + 2, X ++ [10], by omega, by simp; omega, H3, HT4⟩
            case measure => rw [(unhide H3).b.rs, unhide HRS]; omega
          · have h110' : ((b2 : Int) == 110) = false := beq110 h110
            rw [(unhide N2) h110] at HT1
            rw [(unhide D2) h110] at HT1 HS1
            clear h110 N1 N2 D1 D2
            cases hsg : sgnB b2 with
            | true =>
              have HT4 := hide ((unhide HT1) (by rw [hsg]; rfl))
              rw [hsg] at CI
              clear HT1 HS1 CF hsg
              have hlw := (unhide HL).k.bel.size
              go_wp2_with (first
                | (go_at_call 33; refine ((unhide CI) _).mono ?_; rintro e w' ⟨rfl, hw⟩; obtain rfl := hw.symm; clear hw)
                | (at_builtin; refine wpList_appG _ rfl _ _ 22 rfl w.heap.size 5 i0 (.int .u8 0) 1 1 Tryd.underlying22 hi0 hz0 hz1 hz2 rfl (by decide) _ _ _ rfl (By.alloc (unhide HL).o _) ⟨y4.heap.size, 0, none⟩ 1 1 [.int .u8 (b2 : Int)] rfl rfl (one_new _ _) (one_oneB _) ?c3 ?c4 ?c5 ?_))
              case c3 => unfold maxLen; omega
              case c4 => omega
              case c5 => simp; omega
              intro v' w2 hown hgrow _
              obtain ⟨B2, L3⟩ := (unhide HL).snoc (x := (b2 : Int)) hA hown hgrow 2
              have H3 := hide L3
              obtain ⟨⟨d0, d1, d2⟩, ⟨k0, k1, k2⟩⟩ := three_cellsR B2
              simp only at d0 d1 d2
              have ej : ((j + 2 : Nat) : Int) = (j : Int) + 2 := by omega
              rw [ej] at H3
              clear hown hgrow B2 L3 ej HL c0 c1 c2
              go_wp2
              go_roundw
              case rel => exact ⟨j + 2, X ++ [(b2 : Int)], by omega, by simp; omega, H3, HT4⟩
              case measure => rw [(unhide H3).b.rs, unhide HRS]; omega
            | false =>
              have HE := hide ((unhide HS1) (by rw [hsg]; rfl))
              rw [hsg] at CI
              clear HT1 HS1 hsg
              go_wp2_with (first
                | (go_at_call 33; refine ((unhide CI) _).mono ?_; rintro e w' ⟨rfl, hw⟩; obtain rfl := hw.symm; clear hw)
                | (go_at_call 57; refine ((unhide CF) _ (unhide HL).b).mono ?_; rintro e z ⟨rfl, hs2, hk2⟩; have HS2 := hide hs2; have HK2 := hide ((unhide HL).k.trans hk2); have HO2 := By.kx (unhide HL).o hA hk2; have hcv := conv_owned z w.heap.size _ _ _ HO2; clear hs2 hk2))
              go_ret
              rw [unhide HE]
              exact ⟨rfl, unhide HS2, unhide HK2⟩
        · have h2' : ¬ (j : Int) + 1 < (t.size : Int) := by omega
          have HE := hide ((unhide HT).stop (txS_sgn hlt (fun e => h2 e.2) (.inl (by rw [h92]; decide))))
          have CI := hide (fun W => in_sg8 b W)
          rw [show (sgnB b || b == 10) = true by rw [h92b]; rfl] at CI
          clear HT h92 HBT
          have hwp : wrap64 ((b : Nat) : Int) = ((b : Nat) : Int) := by unfold wrap64; omega
          go_quiet (fail)
          have HL' := hide ((unhide HL).drewN nq)
          clear HL c0 c1 c2
          generalize y2.drewN nq = y3 at *
          have HL := HL'
          clear HL'
          obtain ⟨⟨c0, c1, c2⟩, _⟩ := three_cellsR (unhide HL).b
          simp only at c0 c1 c2
          clear h92' hbI h92b ew2
          have hcv := conv_owned y3 w.heap.size _ _ _ (unhide HL).o
          go_wp2_with (go_at_call 33; refine ((unhide CI) _).mono ?_; rintro e w' ⟨rfl, hw⟩; obtain rfl := hw.symm; clear hw)
          go_ret
          rw [unhide HE]
          exact ⟨rfl, (unhide HL).b, (unhide HL).k⟩
      · have h92 : ¬ bt t j = 92 := fun e => h92b ((unhide HBT).trans e)
        have HT1 := hide (fun h => (unhide HT).on hlt (fun e => h92 e.1) h)
        have HS1 := hide (fun h => (unhide HT).stop (txS_sgn hlt (fun e => h92 e.1) h))
        have CI := hide (fun W => in_sg8 (bt t j) W)
        have hwp : wrap64 ((bt t j : Nat) : Int) = ((bt t j : Nat) : Int) := by unfold wrap64; have := bt_lt t j; omega
        have HQ : Hid ((sgnB (bt t j) || bt t j == 10) = true ↔ (sgnB (bt t j) = true ∨ bt t j = 10)) := hide (by rw [Bool.or_eq_true, beq_iff_eq])
        rw [← unhide HBT] at HT1 HS1 CI HQ hwp
        clear HT h92 HBT
        have h92' : ((b : Int) == 92) = false := beq92 h92b
        have h92d : decide ((b : Int) = 92) = false := dec92 h92b
        go_quiet (fail)
        have HL' := hide ((unhide HL).drewN nq)
        clear HL c0 c1 c2
        generalize y2.drewN nq = y3 at *
        have HL := HL'
        clear HL'
        obtain ⟨⟨c0, c1, c2⟩, _⟩ := three_cellsR (unhide HL).b
        simp only at c0 c1 c2
        by_cases hs : sgnB b = true ∨ b = 10
        · have HE := hide ((unhide HS1) hs)
          rw [(unhide HQ).2 hs] at CI
          clear HT1 HS1 HQ hs
          have hcv := conv_owned y3 w.heap.size _ _ _ (unhide HL).o
          go_wp2_with (go_at_call 33; refine ((unhide CI) _).mono ?_; rintro e w' ⟨rfl, hw⟩; obtain rfl := hw.symm; clear hw)
          go_ret
          rw [unhide HE]
          exact ⟨rfl, (unhide HL).b, (unhide HL).k⟩
        · have HT4 := hide ((unhide HT1) hs)
          rw [show (sgnB b || b == 10) = false by rw [← Bool.not_eq_true]; exact fun e => hs ((unhide HQ).1 e)] at CI
          clear HT1 HS1 HQ hs
          have hlw := (unhide HL).k.bel.size
          go_wp2_with (first
            | (go_at_call 33; refine ((unhide CI) _).mono ?_; rintro e w' ⟨rfl, hw⟩; obtain rfl := hw.symm; clear hw)
            | (at_builtin; refine wpList_appG _ rfl _ _ 22 rfl w.heap.size 5 i0 (.int .u8 0) 1 1 Tryd.underlying22 hi0 hz0 hz1 hz2 rfl (by decide) _ _ _ rfl (By.alloc (unhide HL).o _) ⟨y3.heap.size, 0, none⟩ 1 1 [.int .u8 (b : Int)] rfl rfl (one_new _ _) (one_oneB _) ?c3 ?c4 ?c5 ?_))
          case c3 => unfold maxLen; omega
          case c4 => omega
          case c5 => simp; omega
          intro v' w2 hown hgrow _
          obtain ⟨B2, L3⟩ := (unhide HL).snoc (x := (b : Int)) hA hown hgrow 1
          have H3 := hide L3
          obtain ⟨⟨d0, d1, d2⟩, ⟨k0, k1, k2⟩⟩ := three_cellsR B2
          simp only at d0 d1 d2
          have ej : ((j + 1 : Nat) : Int) = (j : Int) + 1 := by omega
          rw [ej] at H3
          clear hown hgrow B2 L3 ej HL c0 c1 c2
          go_wp2
          go_roundw
          case rel => exact ⟨j + 1, X ++ [(b : Int)], by omega, by simp; omega, H3, HT4⟩
          case measure => rw [(unhide H3).b.rs, unhide HRS]; omega
    · have hlt' : ¬ (j : Int) < (t.size : Int) := by omega
      have HE := hide ((unhide HT).stop (txS_end hlt))
      clear HT
      go_wp2_with fail
      go_quiet (fail)
      have HL' := hide ((unhide HL).drewN nq)
      clear HL c0 c1 c2
      generalize wr.drewN nq = y1 at *
      have HL := HL'
      clear HL'
      obtain ⟨⟨c0, c1, c2⟩, _⟩ := three_cellsR (unhide HL).b
      simp only at c0 c1 c2
      have hcv := conv_owned y1 w.heap.size _ _ _ (unhide HL).o
      go_wp2
      go_ret
      rw [unhide HE]
      exact ⟨rfl, (unhide HL).b, (unhide HL).k⟩
end Go.Proofs.YtklakcnapdhcnaaDoor.Pas
