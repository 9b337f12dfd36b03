/- What FnStable draws. -/
import Derived.Test.YtnopgiommgbjnaaDEqv
import Derived.Handy
namespace Go.Proofs.Ytnopgiommgbjnaa.Dr
open Go.RowKit
set_option linter.unusedVariables false
theorem long_stepZ {w wr w3 : World} {g cap : Nat} {v' : Value} {L Z : List Int} (hZ : ∀ x ∈ Z, 0 ≤ x ∧ x < 256) (hz : 0 < Z.length) (hb : Below w.heap.size w wr) (ho : wr.ownsRow w.heap.size 5 1 (.slice (some ⟨g, 0, none⟩) L.length cap) L.length (L.map (Value.int .u8)))
    (ho3 : w3.ownsRow w.heap.size 5 1 v' (L.length + (strOfNums Z).size) (L.map (Value.int .u8) ++ Lib.strCells (strOfNums Z))) (hg : wr.grownBy w3 (some g)) :
    ∃ g' cap', v' = .slice (some ⟨g', 0, none⟩) (L ++ Z).length cap' ∧ (L ++ Z).length ≤ cap' ∧ cap' ≤ maxLen ∧
      w3.ownsRow w.heap.size 5 1 (.slice (some ⟨g', 0, none⟩) (L ++ Z).length cap') (L ++ Z).length ((L ++ Z).map (Value.int .u8)) ∧ Below w.heap.size w w3 := by
  have hb3 : Below w.heap.size w w3 := hb.grown hg hb.size (fun k hk => by simp at hk; subst hk; exact (ho.lt g rfl).1)
  rw [strOfNums_size, strCells_nums Z hZ, ← List.map_append] at ho3
  have e1 : (L ++ Z).length = L.length + Z.length := by simp
  rw [e1]
  rcases ho3.2 with ⟨hv, h0⟩ | ⟨g', cap', cur, hv, hg', hh, hn', hm, hs, ht⟩
  · omega
  · exact ⟨g', cap', hv, by omega, hm, by rw [← hv]; exact ho3, hb3⟩
set_option maxRecDepth 100000 in
set_option maxHeartbeats 2000000 in
theorem longZ_any (w : World) (src : Nat) (N : Nat) (Z : List Int) (hZ : ∀ x ∈ Z, 0 ≤ x ∧ x < 256) (hz : 0 < Z.length) (hz4 : Z.length ≤ 4) (h0 : 0 < N) (hN : N ≤ 100000) :
    Calls Try.prog 12 #[.pointer (some ⟨src, 0, none⟩), .string (strOfNums Z), .int .i64 N] w fun e w' => ∃ s : ByteArray, e = .returned (.string s) ∧ s.size ≤ 100000 ∧ Below w.heap.size w w' := by
  obtain ⟨i0, hi, hz0, hz1, hz2⟩ := info_parts info5
  have HO0 : Hid ((w.alloc (.cells #[] 5)).ownsRow w.heap.size 5 1 (.slice (some ⟨w.heap.size, 0, none⟩) 0 0) ([] : List Int).length (([] : List Int).map (Value.int .u8))) := hide (World.ownsRow_lit w #[] 0 (Nat.le_refl _) (by unfold maxLen; omega) rfl)
  have HB0 : Hid (Below w.heap.size w (w.alloc (.cells #[] 5))) := hide ((Below.refl _ _).alloc (Nat.le_refl _) _)
  have ST := hide (fun wr w3 g cap v' L (hb : Below w.heap.size w wr) ho ho3 hg => long_stepZ (w := w) (wr := wr) (w3 := w3) (g := g) (cap := cap) (v' := v') (L := L) hZ hz hb ho ho3 hg)
  have HS := hide (strOfNums_size Z)
  obtain ⟨X, hX⟩ : ∃ X, X = strOfNums Z := ⟨_, rfl⟩
  rw [← hX] at ST HS ⊢
  clear hX hZ
  go_enter Try.func12, Try.ntmps12
  go_wp2
  go_loopw [7] (fun v wr => ∃ (L : List Int) (g cap : Nat), v = .slice (some ⟨g, 0, none⟩) L.length cap ∧ L.length ≤ N + 3 ∧ L.length ≤ cap ∧ cap ≤ maxLen ∧ Hid (wr.ownsRow w.heap.size 5 1 (.slice (some ⟨g, 0, none⟩) L.length cap) L.length (L.map (Value.int .u8))) ∧ Hid (Below w.heap.size w wr)) (fun v _ => N - lenOf v)
  case atStart => exact ⟨[], w.heap.size, 0, rfl, by simp, by simp, by unfold maxLen; omega, HO0, HB0⟩
  case round =>
    obtain ⟨L, g, cap, rfl, hL, hLc, hcm, HO, HB⟩ := hrel
    clear HO0 HB0
    unfold maxLen at hcm
    by_cases hlt : L.length < N
    · have hsz := (unhide HB).size
      go_wp2_with (at_builtin; refine Lib.wpList_append_own_string _ rfl _ _ 22 9 rfl w.heap.size 5 i0 Try.underlying22 Try.underlying9 hi hz0 hz1 hz2 _ _ _ rfl (unhide HO) _ rfl ?c1 ?c2 ?c3 ?_)
      case c1 => rw [unhide HS]; unfold maxLen; omega
      case c2 => rw [unhide HS]; omega
      case c3 => omega
      intro v' w3 hown' hgrow _
      have R := hide ((unhide ST) _ _ _ _ _ _ (unhide HB) (unhide HO) hown' hgrow)
      clear hown' hgrow
      obtain ⟨g', cap', hv', hc1, hc2, ho3, hb3⟩ := unhide R
      clear R
      have HO3 := hide ho3
      have HB3 := hide hb3
      have HL2 : Hid ((L ++ Z).length = L.length + Z.length) := hide (by simp)
      clear ho3 hb3
      subst hv'
      go_wp2
      go_roundw
      case rel => exact ⟨L ++ Z, g', cap', rfl, by rw [unhide HL2]; omega, hc1, hc2, HO3, HB3⟩
      case measure => simp [lenOf]; omega
    · have hge : N ≤ L.length := by omega
      have hcv := conv_pre wr g (cap) L N hge (unhide HO)
      go_wp2
      go_ret
      exact ⟨_, rfl, by rw [strOfNums_size]; simp; omega, unhide HB⟩
set_option maxHeartbeats 2000000 in
theorem normForm_any (w : World) (src : Nat) (a : Option Addr) (len cap : Nat) (size : Int) (hl : len ≤ 1048576) (h : SrcAt w src a len cap size) :
    Calls Try.prog 9 #[.pointer (some ⟨src, 0, none⟩)] w fun e w' => ∃ f : Int, e = .returned (.int .i64 f) ∧ SrcAt w' src a len cap size ∧ w.grownBy w' (some src) := by
  have CO := hide (one_any w src a len cap size 20 (by omega) (by omega) hl h)
  have NN := hide (fun (most : Int) W (h1 : 0 < most) (h2 : most ≤ 1000000) (q : SrcAt W src a len cap size) => n_nat W src a len cap size most h1 h2 hl q)
  clear h
  go_enter Try.func9, Try.ntmps9
  go_wp2_with fail
  refine (unhide CO).mono ?_
  rintro e w1 ⟨b, rfl, hs1, hg1⟩
  have S1 := hide hs1
  have G1 := hide hg1
  clear hs1 hg1 CO
  cases b with
  | true =>
    go_wp2_with fail
    refine ((unhide NN) _ _ (by omega) (by omega) (unhide S1)).mono ?_
    rintro e w2 ⟨r, rfl, hr, hs2, hg2⟩
    have S2 := hide hs2
    have G2 := hide (grown_trans (unhide G1) hg2)
    clear hs2 hg2
    go_wp2
    go_ret
    exact ⟨_, rfl, unhide S2, unhide G2⟩
  | false =>
    go_wp2_with fail
    refine ((unhide NN) _ _ (by omega) (by omega) (unhide S1)).mono ?_
    rintro e w2 ⟨r, rfl, hr, hs2, hg2⟩
    have S2 := hide hs2
    have G2 := hide (grown_trans (unhide G1) hg2)
    clear hs2 hg2
    go_wp2
    go_ret
    exact ⟨_, rfl, unhide S2, unhide G2⟩
theorem grown_on {w w' : World} {src B : Nat} (h : w.grownBy w' (some src)) (hB : B ≤ src) (hs : src < w.heap.size) : Below B w w' :=
  ⟨h.os, h.tape, h.output, by have := h.size; omega, fun k hk => h.block k (by omega) (fun e => by injection e with e; omega)⟩
theorem enc9216 : Lib.encodeRuneZ 9216 = [226, 144, 128] := by rfl
set_option maxHeartbeats 4000000 in
set_option maxRecDepth 100000 in
theorem drawN_any (w : World) (a : Option Addr) (len cap : Nat) (hl : len ≤ 1048576) (hc : CodeIn w a len) :
    Calls Try.prog 4 #[.slice a len cap] w fun e w' => ∃ (f : Int) (s : ByteArray), e = .returned (.tuple #[.int .i64 f, .string s]) ∧ s.size ≤ 100001 ∧ Below w.heap.size w w' := by
  have CS := hide (source_any w a len cap hl hc)
  clear hc
  go_enter Try.func4, Try.ntmps4
  go_wp2_with fail
  refine (unhide CS).mono ?_
  rintro e w1 ⟨rfl, size, hz0, hz1, hs, hb1, hlt⟩
  have B1 := hide hb1
  have CF := hide (normForm_any w1 w.heap.size a len cap size hl hs)
  clear CS hs hb1
  go_wp2_with fail
  refine (unhide CF).mono ?_
  rintro e w2 ⟨f, rfl, hs2, hg2⟩
  have hlt2 : w.heap.size < w2.heap.size := Nat.lt_of_lt_of_le hlt hg2.size
  have B2 := hide ((unhide B1).trans (grown_on hg2 (Nat.le_refl _) hlt))
  have CP := hide (partsText_any w2 w.heap.size a len cap size hl hz0 hz1 hs2)
  clear CF hs2 hg2 B1
  go_wp2_with fail
  refine (unhide CP).mono ?_
  rintro e w3 ⟨s, rfl, hsz, hs3, hg3⟩
  have hlt3 : w.heap.size < w3.heap.size := Nat.lt_of_lt_of_le hlt2 hg3.size
  have B3 := hide ((unhide B2).trans (grown_on hg3 (Nat.le_refl _) hlt2))
  have CO := hide (one_any w3 w.heap.size a len cap size 100 (by omega) (by omega) hl hs3)
  clear CP hs3 hg3 B2
  go_wp2_with fail
  refine (unhide CO).mono ?_
  rintro e w4 ⟨b, rfl, hs4, hg4⟩
  have hlt4 : w.heap.size < w4.heap.size := Nat.lt_of_lt_of_le hlt3 hg4.size
  have B4 := hide ((unhide B3).trans (grown_on hg4 (Nat.le_refl _) hlt3))
  have S4 := hide hs4
  clear CO hs4 hg4 B3
  cases b with
  | false =>
    go_wp2
    go_returns
    exact ⟨f, s, rfl, hsz, unhide B4⟩
  | true =>
    have CW := hide (write_any 9216 w4)
    go_wp2_with fail
    refine (unhide CW).mono ?_
    rintro e w5 ⟨rfl, hb5⟩
    have hlt5 : w.heap.size < w5.heap.size := Nat.lt_of_lt_of_le hlt4 hb5.size
    have B5 := hide ((unhide B4).trans (hb5.mono (by omega)))
    have S5 : Hid (SrcAt w5 w.heap.size a len cap size) := hide (src_below (unhide S4) hb5)
    have CN := hide (n_nat w5 w.heap.size a len cap size 2 (by omega) (by omega) hl (unhide S5))
    clear CW hb5 S4 B4
    go_wp2_with fail
    refine (unhide CN).mono ?_
    rintro e w6 ⟨r, rfl, hr, hs6, hg6⟩
    have B6 := hide ((unhide B5).trans (grown_on hg6 (Nat.le_refl _) hlt5))
    have hsz6 := hg6.size
    clear CN hs6 hg6 S5 B5
    obtain ⟨N, hN⟩ : ∃ N : Nat, 65533 + r * 3 = N := ⟨_, rfl⟩
    have hN' : (65533 : Int) + (r : Int) * 3 = (N : Int) := by omega
    have CL := hide (longZ_any w6 w.heap.size N [226, 144, 128] (by intro x hx; simp at hx; omega) (by simp) (by simp) (by omega) (by omega))
    rw [enc9216]
    have hrw : IntKind.i64.wrap ((r : Int) * 3) = (r : Int) * 3 := by simp [IntKind.wrap, IntKind.bits, IntKind.signed]; omega
    have hNw : IntKind.i64.wrap (N : Int) = (N : Int) := by simp [IntKind.wrap, IntKind.bits, IntKind.signed]; omega
    go_wp2_with fail
    refine (unhide CL).mono ?_
    rintro e w7 ⟨s7, rfl, hs7, hb7⟩
    have B7 := hide ((unhide B6).trans (hb7.mono (by omega)))
    clear CL hb7 B6
    go_wp2
    go_returns
    exact ⟨f, s7, rfl, by omega, unhide B7⟩
end Go.Proofs.Ytnopgiommgbjnaa.Dr
