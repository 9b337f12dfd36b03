/- The specification's order of marks. -/
import Derived.Test.YtnfdkcphmolkiaaOrdP
import Derived.Test.YtnfdkcphmolkiaaAllS
namespace Go.Proofs.Ytnfdkcphmolkiaa
open Go.RowKit
set_option maxHeartbeats 1000000 in
theorem clsS (p : Int) (w : World) : Calls Try.prog 119 #[.int .i64 p] w fun e w' => e = .returned (.int .i64 (clsZ p)) ∧ w' = w := by
  by_cases h1 : p = 1584
  · subst h1
    go_enter Try.func119, Try.ntmps119
    go_wp2
    go_ret
    exact ⟨rfl, rfl⟩
  by_cases h2 : p = 1585
  · subst h2
    go_enter Try.func119, Try.ntmps119
    go_wp2
    go_ret
    exact ⟨rfl, rfl⟩
  have t1 : (p == 1584) = false := by simpa using h1
  have t2 : (p == 1585) = false := by simpa using h2
  obtain ⟨z, hz⟩ : ∃ z, clsZ p = z := ⟨_, rfl⟩
  have hz' := hz
  unfold clsZ at hz'
  rw [if_neg h1, if_neg h2] at hz'
  rw [hz]
  clear hz
  by_cases h3 : p < 4096
  · rw [if_pos h3] at hz'
    have HE := hide hz'
    clear hz'
    go_enter Try.func119, Try.ntmps119
    go_wp2
    go_ret
    exact ⟨ret_int (unhide HE), rfl⟩
  rw [if_neg h3] at hz'
  by_cases h0 : 4159 < p
  · rw [if_neg (by omega), if_neg (by omega), if_neg (by omega), if_neg (by omega), if_neg (by omega)] at hz'
    have HE := hide hz'
    clear hz'
    go_enter Try.func119, Try.ntmps119
    go_wp2
    go_ret
    exact ⟨ret_int (unhide HE), rfl⟩
  obtain ⟨q, rfl⟩ : ∃ q, p = q + 4096 := ⟨p - 4096, by omega⟩
  have e0 : q + 4096 - 4096 = q := by omega
  have s1 : q + 4096 < 4112 ↔ q < 16 := by omega
  have s2 : q + 4096 < 4128 ↔ q < 32 := by omega
  have s3 : q + 4096 < 4136 ↔ q < 40 := by omega
  have s4 : q + 4096 < 4144 ↔ q < 48 := by omega
  have s5 : q + 4096 < 4152 ↔ q < 56 := by omega
  simp only [s1, s2, s3, s4, s5] at hz'
  clear s1 s2 s3 s4 s5
  have h0' : q + 4096 ≤ 4159 := by omega
  by_cases h4 : q < 16
  · rw [if_pos h4] at hz'
    have HE := hide hz'
    clear hz'
    go_enter Try.func119, Try.ntmps119
    go_wp2
    go_ret
    exact ⟨ret_int (unhide HE), rfl⟩
  rw [if_neg h4] at hz'
  by_cases h5 : q < 32
  · rw [if_pos h5] at hz'
    have HE := hide hz'
    clear hz'
    go_enter Try.func119, Try.ntmps119
    go_wp2
    go_ret
    exact ⟨ret_int (unhide HE), rfl⟩
  rw [if_neg h5] at hz'
  by_cases h6 : q < 40
  · rw [if_pos h6] at hz'
    have HE := hide hz'
    clear hz'
    go_enter Try.func119, Try.ntmps119
    go_wp2
    go_ret
    exact ⟨ret_int (unhide HE), rfl⟩
  rw [if_neg h6] at hz'
  by_cases h7 : q < 48
  · rw [if_pos h7] at hz'
    have HE := hide hz'
    clear hz'
    go_enter Try.func119, Try.ntmps119
    go_wp2
    go_ret
    exact ⟨ret_int (unhide HE), rfl⟩
  rw [if_neg h7] at hz'
  by_cases h8 : q < 56
  · rw [if_pos h8] at hz'
    have HE := hide hz'
    clear hz'
    go_enter Try.func119, Try.ntmps119
    go_wp2
    go_ret
    exact ⟨ret_int (unhide HE), rfl⟩
  rw [if_neg h8] at hz'
  have HE := hide hz'
  clear hz'
  go_enter Try.func119, Try.ntmps119
  go_wp2
  go_ret
  exact ⟨ret_int (unhide HE), rfl⟩
theorem own_seg {w : World} {B0 n g cap : Nat} {X : List Int} (h : w.ownsRow B0 2 1 (.slice (some ⟨g, 0, none⟩) n cap) n (X.map (Value.int .i64))) : ∃ Bq : List Value, Seg w w g [] X Bq ∧ B0 ≤ g ∧ n ≤ cap ∧ cap ≤ maxLen ∧ n = X.length ∧ n + Bq.length = cap := by
  have hn : n = X.length := by have := h.1; simp at this; exact this.symm
  rcases h.2 with ⟨h1, _⟩ | ⟨g', cap', cur, hv, hg, hf, h1, h2, h3, h4⟩
  · cases h1
  · cases hv
    rw [Nat.mul_one] at h3 h4
    refine ⟨cur.toList.drop n, ⟨?_, grown_refl _ _⟩, hg, h1, h2, hn, ?_⟩
    · rw [hf]
      congr 2
      rw [List.nil_append, ← h4, List.take_append_drop]
    · rw [List.length_drop, Array.length_toList]
      omega
theorem seg_own {w0 w : World} {B0 n g cap : Nat} {X : List Int} {Bq : List Value} (S : Seg w0 w g [] X Bq) (hB : B0 ≤ g) (hn : n = X.length) (hc : n + Bq.length = cap) (hm : cap ≤ maxLen) : w.ownsRow B0 2 1 (.slice (some ⟨g, 0, none⟩) n cap) n (X.map (Value.int .i64)) := by
  refine ⟨by simp [hn], .inr ⟨g, cap, _, rfl, hB, S.fu, by omega, hm, ?_, ?_⟩⟩
  · simp; omega
  · simp [hn]
theorem Seg.below {w0 w : World} {g B0 : Nat} {A B : List Value} {X : List Int} (S : Seg w0 w g A X B) (h0 : B0 ≤ w0.heap.size) (hB : B0 ≤ g) : Below B0 w0 w := (Below.refl _ _).grown S.gr h0 (fun m hm => by cases hm; exact hB)
theorem Seg.cell0 {w0 w : World} {g : Nat} {B : List Value} {X : List Int} (h : Seg w0 w g [] X B) (i : Nat) (hi : i < X.length) : w.cell? ⟨g, i, none⟩ = some (.int .i64 (nth X i)) := by simpa using h.cell i hi
theorem Seg.frozen0 {w0 w : World} {g : Nat} {B : List Value} {X : List Int} (h : Seg w0 w g [] X B) (i : Nat) : w.frozen? ⟨g, i, none⟩ = false := by simpa using h.frozen i
theorem Seg.set0 {w0 w : World} {g : Nat} {B : List Value} {X : List Int} (h : Seg w0 w g [] X B) (i : Nat) (hi : i < X.length) (x : Int) : Seg w0 (w.setCell ⟨g, i, none⟩ (.int .i64 x)) g [] (X.set i x) B := by simpa using h.set i hi x
/-- The first i points are in order. -/
def OSs (w0 w : World) (g : Nat) (B : List Value) (L : List Int) (i : Nat) : Prop := Seg w0 w g [] (ordL (L.take i) ++ L.drop i) B
theorem ord_take {L : List Int} {i : Nat} (hi : i < L.length) : L.take (i + 1) = L.take i ++ [nth L i] ∧ L.drop i = nth L i :: L.drop (i + 1) := by
  have e : nth L i = L[i] := by simp [nth, List.getD, hi]
  rw [e]
  exact ⟨List.take_succ_eq_append_getElem hi, List.drop_eq_getElem_cons hi⟩
theorem OSs.cell {w0 w : World} {g : Nat} {B : List Value} {L : List Int} {i : Nat} (h : OSs w0 w g B L i) (hi : i < L.length) : w.cell? ⟨g, i, none⟩ = some (.int .i64 (nth L i)) := by
  unfold OSs at h
  have hl : (ordL (L.take i)).length = i := by rw [ordL_len, List.length_take]; omega
  rw [(ord_take hi).2] at h
  have c := h.cell0 i (by simp [hl])
  rw [nth_at _ _ _ _ hl.symm] at c
  exact c
theorem OSs.zero {w0 w : World} {g : Nat} {B : List Value} {L : List Int} {i : Nat} (h : OSs w0 w g B L i) (hi : i < L.length) (hz : clsZ (nth L i) = 0) : OSs w0 w g B L (i + 1) := by
  unfold OSs at h ⊢
  rw [(ord_take hi).2] at h
  rw [(ord_take hi).1, ord_zero _ hz]
  simpa using h
set_option maxHeartbeats 4000000 in
set_option maxRecDepth 100000 in
theorem orderedS (B0 n g cap : Nat) (L : List Int) (w : World) (ho : w.ownsRow B0 2 1 (.slice (some ⟨g, 0, none⟩) n cap) n (L.map (Value.int .i64))) (hbd : n ≤ 1000000000) :
    Calls Try.prog 109 #[.slice (some ⟨g, 0, none⟩) n cap] w fun e w' => NewRow w w' e (ordL L) := by
  have mixed := mixedO
  obtain ⟨i0, hi, hz0, hz1, hz2⟩ := info_parts info2
  have hn : n = L.length := by have := ho.1; simp at this; exact this.symm
  have HO := hide (ownsRow_below ho (one_below w (.cells #[] 2)))
  have D0 : Hid ((w.alloc (.cells #[] 2)).ownsRow w.heap.size 2 1 (.slice (some ⟨w.heap.size, 0, none⟩) 0 0) 0 []) := hide (World.ownsRow_lit w #[] 0 (Nat.le_refl _) (by unfold maxLen; omega) rfl)
  have HN := hide hn
  clear ho hn
  go_enter Try.func109, Try.ntmps109
  go_wp2_with (at_builtin; refine wpList_append_own _ rfl _ _ 24 rfl w.heap.size 2 i0 (.int .i64 0) 1 8 Try.underlying24 hi hz0 hz1 hz2 rfl (by decide) _ _ _ rfl (unhide D0) ⟨g, 0, none⟩ n cap (L.map (Value.int .i64)) rfl ?c0 ?c1 ?c2 ?c3 ?c4 ?c5 ?_)
  case c0 => simp; exact (unhide HN).symm
  case c1 =>
    intro m x hx
    rw [addr_add, Nat.zero_add]
    have hm : m < L.length := by
      have := (List.getElem?_eq_some_iff.1 hx).1
      simpa using this
    rw [(unhide HO).cellAt m (by have := unhide HN; omega)]
    exact hx
  case c2 =>
    intro x hx
    obtain ⟨z, _, rfl⟩ := List.mem_map.1 hx
    rfl
  case c3 => unfold maxLen; omega
  case c4 => omega
  case c5 => simp
  intro v' w1 hown' hgrow hnone
  have B1 : Hid (Below w.heap.size w w1) := hide ((one_below w (.cells #[] 2)).grown hgrow (by simp) (fun m hm => by cases hm; exact Nat.le_refl _))
  obtain ⟨g1, c1, rfl⟩ : ∃ g1 c1, v' = .slice (some ⟨g1, 0, none⟩) n c1 := by
    rcases hown'.2 with ⟨h1, _⟩ | ⟨g1, c1, _, hv, _⟩
    · exact (hnone h1).elim
    · exact ⟨g1, c1, hv⟩
  obtain ⟨Bq, sg, hg1, hc1, hc2, hc3, hc4⟩ := own_seg hown'
  have I0 : Hid (OSs w1 w1 g1 Bq L 0) := hide sg
  have HF : Hid (∀ W, OSs w1 W g1 Bq L n → NewRow w W (.returned (.slice (some ⟨g1, 0, none⟩) n c1)) (ordL L)) := hide (fun W h => by
    unfold OSs at h
    rw [unhide HN, List.take_length, List.drop_length, List.append_nil] at h
    refine ⟨_, rfl, ?_, (unhide B1).trans (h.below (unhide B1).size hg1)⟩
    rw [ordL_len, ← unhide HN]
    exact seg_own h hg1 (by rw [ordL_len]; exact unhide HN) hc4 hc2)
  clear hown' hgrow hnone sg hc1 hc2 hc3 hc4 HO D0 hg1 B1
  go_wp2
  go_loopw [4] (fun iv wr => ∃ i : Nat, i ≤ n ∧ iv = .int .i64 i ∧ Hid (OSs w1 wr g1 Bq L i)) (fun iv _ => n - (intOf iv).toNat)
  case atStart => exact ⟨0, Nat.zero_le _, rfl, I0⟩
  case round =>
    obtain ⟨i, hin, rfl, I1⟩ := hrel
    clear I0
    by_cases hlt : i < n
    · have hlt' : (i : Int) < (n : Int) := by omega
      have hiL : i < L.length := by have := unhide HN; omega
      have c := (unhide I1).cell hiL
      have CM := hide (fun x W => clsS x W)
      by_cases hz : clsZ (nth L i) = 0
      · have F2 := hide ((unhide I1).zero hiL hz)
        have CM0 := hide (fun W => clsS (nth L i) W)
        rw [hz] at CM0
        clear I1 hz hiL CM
        generalize nth L i = x at *
        go_wp2_with fail
        refine ((unhide CM0) _).mono ?_
        rintro e' w2 ⟨rfl, rfl⟩
        clear CM0 c
        go_wp2
        go_roundw
        case rel => exact ⟨i + 1, by omega, by go_num, F2⟩
        case measure => simp [intOf]; omega
      · have hz' : (clsZ (nth L i) == 0) = false := by rw [beq_eq_false_iff_ne]; exact hz
        have hlo : (ordL (L.take i)).length = i := by rw [ordL_len, List.length_take]; omega
        have J0 : Hid (∃ Z1 Z2 : List Int, Z1.length = i ∧ Z1 ++ Z2 = ordL (L.take i) ∧ (∀ z ∈ Z2, clsLt (nth L i) z = true) ∧ Seg w1 wr g1 [] (Z1 ++ nth L i :: (Z2 ++ L.drop (i + 1))) Bq) := hide ⟨ordL (L.take i), [], hlo, by simp, by simp, by
          have := unhide I1
          unfold OSs at this
          rw [(ord_take hiL).2] at this
          simpa using this⟩
        have HF2 : Hid (∀ W (Z1 Z2 : List Int), Z1 ++ Z2 = ordL (L.take i) → (∀ z ∈ Z2, clsLt (nth L i) z = true) → (Z1 = [] ∨ ∃ Z z, Z1 = Z ++ [z] ∧ clsLt (nth L i) z = false) → Seg w1 W g1 [] (Z1 ++ nth L i :: (Z2 ++ L.drop (i + 1))) Bq → OSs w1 W g1 Bq L (i + 1)) := hide (fun W Z1 Z2 e h2 h1 s => by
          unfold OSs
          rw [(ord_take hiL).1, ordL_snoc, ← e, insO_at hz h2 h1]
          simpa [List.append_assoc] using s)
        have HLen : Hid (∀ Z1 Z2 : List Int, Z1 ++ Z2 = ordL (L.take i) → (Z1 ++ nth L i :: (Z2 ++ L.drop (i + 1))).length = n) := hide (fun Z1 Z2 e => by
          have e1 := congrArg List.length e
          rw [hlo] at e1
          have := unhide HN
          simp only [List.length_append, List.length_cons, List.length_drop] at e1 ⊢
          omega)
        have CM0 := hide (fun W => clsS (nth L i) W)
        have HE : Hid (clsZ (nth L i) = clsZ (nth L i)) := hide rfl
        obtain ⟨zx, hzx⟩ : ∃ zx, clsZ (nth L i) = zx := ⟨_, rfl⟩
        rw [hzx] at CM0 hz'
        have HZ := hide hzx
        clear I1 hz hiL hlo HE hzx
        generalize nth L i = x at *
        generalize L.drop (i + 1) = R at *
        generalize ordL (L.take i) = Z at *
        go_wp2_with fail
        refine ((unhide CM0) _).mono ?_
        rintro e' w2 ⟨rfl, rfl⟩
        clear CM0 c
        go_wp2
        go_loopw [5] (fun kv wr => ∃ q : Nat, q ≤ i ∧ kv = .int .i64 q ∧ Hid (∃ Z1 Z2 : List Int, Z1.length = q ∧ Z1 ++ Z2 = Z ∧ (∀ z ∈ Z2, clsLt x z = true) ∧ Seg w1 wr g1 [] (Z1 ++ x :: (Z2 ++ R)) Bq)) (fun kv _ => (intOf kv).toNat)
        case atStart => exact ⟨i, Nat.le_refl _, rfl, J0⟩
        case round =>
          obtain ⟨q, hq, rfl, HJ⟩ := hrel
          clear J0
          obtain ⟨Z1, Z2, l1, e1, h2, s1⟩ := unhide HJ
          by_cases hq0 : q = 0
          · have z0 : Z1 = [] := List.length_eq_zero_iff.1 (by omega)
            have G2 := hide (fun m => (unhide HF2) (wr.drewN m) Z1 Z2 e1 h2 (.inl z0) (s1.drewN m))
            subst hq0
            clear HJ s1 h2 e1 l1 HF2 HLen
            go_wp2_with fail
            go_quiet (first | (go_at_call 119; refine Calls.quiet_of_same ((unhide CM) _ _)))
            have G3 := hide ((unhide G2) nq)
            clear G2
            generalize wr.drewN nq = w2 at *
            go_wp2
            go_roundw
            case rel => exact ⟨i + 1, by omega, by go_num, G3⟩
            case measure => simp [intOf]; omega
          · obtain ⟨Z1', z, rfl⟩ : ∃ Z1' z, Z1 = Z1' ++ [z] := ⟨Z1.dropLast, Z1.getLast (fun h => hq0 (by rw [← l1, h]; rfl)), (List.dropLast_concat_getLast _).symm⟩
            obtain ⟨r, rfl⟩ : ∃ r : Nat, q = r + 1 := ⟨q - 1, by omega⟩
            have hjd : decide ((r : Int) + 1 > 0) = true := decide_eq_true (by omega)
            have hjz : (0 : Int) < (r : Int) + 1 := by omega
            have hlen := (unhide HLen) _ _ e1
            have l1' : Z1'.length = r := by simpa using l1
            obtain ⟨j, hj⟩ : ∃ j : Nat, j = r + 1 := ⟨_, rfl⟩
            have ej : j = (Z1' ++ [z]).length := by omega
            have e2 : (Z1' ++ [z]) ++ x :: (Z2 ++ R) = Z1' ++ z :: ([] ++ x :: (Z2 ++ R)) := by simp [List.append_assoc]
            have nx : nth ((Z1' ++ [z]) ++ x :: (Z2 ++ R)) j = x := nth_at _ _ _ _ ej
            have nz : nth ((Z1' ++ [z]) ++ x :: (Z2 ++ R)) r = z := by rw [e2]; exact nth_at _ _ _ _ l1'.symm
            have ea : ((r : Int) + 1).toNat = j := by omega
            have pa : (0 : Int) ≤ (r : Int) + 1 := by omega
            have ba : (r : Int) + 1 < (n : Int) := by omega
            have ra : IntKind.i64.wrap ((r : Int) + 1) = (r : Int) + 1 := wrap_in _ (by omega) (by omega)
            have bb : (r : Int) < (n : Int) := by omega
            have rb : IntKind.i64.wrap (r : Int) = (r : Int) := wrap_in _ (by omega) (by omega)
            have cj := s1.cell0 j (by omega)
            have cr := s1.cell0 r (by omega)
            rw [nx] at cj
            rw [nz] at cr
            have HX := unhide HZ
            cases hlt3 : clsLt x z with
            | false =>
              have hcz : ¬ clsZ x < clsZ z := of_decide_eq_false hlt3
              have G2 := hide (fun m => (unhide HF2) (wr.drewN m) _ Z2 e1 h2 (.inr ⟨Z1', z, rfl, hlt3⟩) (s1.drewN m))
              have CX := hide (fun W => clsS x W)
              have CZ := hide (fun W => clsS z W)
              clear HJ s1 h2 e1 l1 HF2 HLen nx nz ej e2 hlen l1' hlt3 hj HZ HX CM
              generalize clsZ x = cx at *
              generalize clsZ z = cz at *
              go_wp2_with fail
              go_quiet (first | (go_at_call_of 119 x; refine Calls.quiet_of_same ((unhide CX) _)) | (go_at_call_of 119 z; refine Calls.quiet_of_same ((unhide CZ) _)))
              have G3 := hide ((unhide G2) nq)
              clear G2 cj cr
              generalize wr.drewN nq = w2 at *
              go_wp2
              go_roundw
              case rel => exact ⟨i + 1, by omega, by go_num, G3⟩
              case measure => simp [intOf]; omega
            | true =>
              have hcz : clsZ x < clsZ z := of_decide_eq_true hlt3
              have h2' : ∀ u ∈ z :: Z2, clsLt x u = true := fun u hu => by
                rcases List.mem_cons.1 hu with rfl | hu
                · exact hlt3
                · exact h2 u hu
              have hsw : (((Z1' ++ [z]) ++ x :: (Z2 ++ R)).set j z).set r x = Z1' ++ x :: ((z :: Z2) ++ R) := by
                have e3 : swapL ((Z1' ++ [z]) ++ x :: (Z2 ++ R)) j r = Z1' ++ x :: ((z :: Z2) ++ R) := by
                  rw [swapL_comm _ _ _ (by omega), e2, swap_app _ _ _ _ _ _ _ l1'.symm (by rw [ej]; simp)]
                  simp
                unfold swapL at e3
                rw [nx, nz] at e3
                exact e3
              have G2 := hide (fun m => s1.drewN m)
              have GJ : Hid (∀ W, Seg w1 W g1 [] (Z1' ++ x :: ((z :: Z2) ++ R)) Bq → ∃ Z1 Z2 : List Int, Z1.length = r ∧ Z1 ++ Z2 = Z ∧ (∀ z ∈ Z2, clsLt x z = true) ∧ Seg w1 W g1 [] (Z1 ++ x :: (Z2 ++ R)) Bq) := hide (fun W s => ⟨Z1', z :: Z2, l1', by rw [← e1]; simp, h2', s⟩)
              rw [← hsw] at GJ
              have hlj : j < ((Z1' ++ [z]) ++ x :: (Z2 ++ R)).length := by omega
              have hlr : r < ((Z1' ++ [z]) ++ x :: (Z2 ++ R)).length := by omega
              have CX := hide (fun W => clsS x W)
              have CZ := hide (fun W => clsS z W)
              clear HJ s1 h2 e1 l1 ej e2 hlen l1' hlt3 h2' hsw HZ HX CM
              generalize (Z1' ++ [z]) ++ x :: (Z2 ++ R) = X at *
              have HNX := hide nx
              have HNZ := hide nz
              have Hlj := hide hlj
              have Hlr := hide hlr
              have hjr : j ≠ r := by omega
              clear nx nz hlj hlr
              generalize hcx : clsZ x = cx at *
              generalize hcz2 : clsZ z = cz at *
              clear hcx hcz2 hj
              go_wp2_with fail
              go_quiet (first | (go_at_call_of 119 x; refine Calls.quiet_of_same ((unhide CX) _)) | (go_at_call_of 119 z; refine Calls.quiet_of_same ((unhide CZ) _)))
              have s2 := (unhide G2) nq
              have cj' : (wr.drewN nq).cell? ⟨g1, j, none⟩ = some (.int .i64 x) := by rw [s2.cell0 j (unhide Hlj), unhide HNX]
              have cr' : (wr.drewN nq).cell? ⟨g1, r, none⟩ = some (.int .i64 z) := by rw [s2.cell0 r (unhide Hlr), unhide HNZ]
              have fj' := s2.frozen0 j
              have fr' := s2.frozen0 r
              have S3 := hide ((unhide GJ) _ ((s2.set0 j (unhide Hlj) z).set0 r (by rw [List.length_set]; exact unhide Hlr) x))
              clear G2 cj cr s2 CX CZ
              generalize wr.drewN nq = w2 at *
              go_wp2_with fail
              go_roundw
              case rel => exact ⟨r, by omega, rfl, S3⟩
              case measure => simp [intOf]
    · obtain rfl : i = n := by omega
      have hlt' : ¬ (i : Int) < (i : Int) := by omega
      go_wp2
      go_ret
      exact (unhide HF) _ (unhide I1)
end Go.Proofs.Ytnfdkcphmolkiaa
