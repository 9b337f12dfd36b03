/- Spans that are drawn. -/
import Derived.Test.YtfcabmpklcmbgaaSpsL
import Derived.Test.YtfcabmpklcmbgaaSpnE
import Derived.Test.YtfcabmpklcmbgaaDPoint
import Derived.Test.YtfcabmpklcmbgaaDSource
namespace Go.Proofs.Ytfcabmpklcmbgaa.Dr
open Go.RowKit
set_option linter.unusedVariables false
/-- The numbers of spans are small. -/
def Bd (L : List Sp) : Prop := ∀ r ∈ L, (-1000000 ≤ r.1 ∧ r.1 ≤ 1000000) ∧ (-1000000 ≤ r.2.1 ∧ r.2.1 ≤ 1000000) ∧ -1000000000000 ≤ r.2.2 ∧ r.2.2 ≤ 1000000000000
theorem Bd.snoc {L : List Sp} (h : Bd L) {x y z : Int} (hx : -1000000 ≤ x ∧ x ≤ 1000000) (hy : -1000000 ≤ y ∧ y ≤ 1000000) (hz : -1000000000000 ≤ z ∧ z ≤ 1000000000000) : Bd (L ++ [(x, y, z)]) := fun r hr => by
  rcases List.mem_append.1 hr with e | e
  · exact h r e
  · rw [List.mem_singleton.1 e]; exact ⟨hx, hy, hz⟩
/-- The source and the row of spans so far. -/
structure St (w wr : World) (src : Nat) (a : Option Addr) (len cap : Nat) (size : Int) (v : Value) (L : List Sp) : Prop where
  c : CodeAt w src a len
  s : SrcAt wr src a len cap size
  g : w.grownBy wr (some src)
  o : SpRow wr w.heap.size v L
theorem St.n {w wr w2 : World} {src : Nat} {a : Option Addr} {len cap : Nat} {size : Int} {v : Value} {L : List Sp} (h : St w wr src a len cap size v L) (hsrc : src < w.heap.size) (hs : SrcAt w2 src a len cap size) (hg : wr.grownBy w2 (some src)) : St w w2 src a len cap size v L :=
  ⟨h.c, hs, grown_trans h.g hg, World.ownsRow.kept h.o hg (.inr (fun e => by have := (h.o.lt _ e).1; omega))⟩
theorem St.app {w wr w3 : World} {src : Nat} {a : Option Addr} {len cap : Nat} {size : Int} {v v' : Value} {L : List Sp} {x y z : Int} {o : Obj} (h : St w wr src a len cap size v L) (hsrc : src < w.heap.size)
    (ho : w3.ownsRow w.heap.size 38 3 v' (L.length + 1) (cells L ++ [.int .i64 x, .int .i64 y, .int .i64 z])) (hg : (wr.alloc o).grownBy w3 v.ownBlock) : St w w3 src a len cap size v' (L ++ [(x, y, z)]) := by
  have hsz : wr.heap.size ≤ w3.heap.size := by have := hg.size; simp at this; omega
  have hk : ∀ k, k < w.heap.size → w3.heap[k]? = wr.heap[k]? := by
    intro k hk
    have h1 : k < wr.heap.size := Nat.lt_of_lt_of_le hk h.g.size
    have hne : some k ≠ v.ownBlock := fun e => by have := (h.o.lt k e.symm).1; omega
    rw [hg.block k (by simp; omega) hne, Below.heap_alloc wr o k h1]
  have hG : w.grownBy w3 (some src) := ⟨hg.os.trans h.g.os, hg.tape.trans h.g.tape, hg.output.trans h.g.output, Nat.le_trans h.g.size hsz, fun k hkw hr => (hk k hkw).trans (h.g.block k hkw hr)⟩
  refine ⟨h.c, ?_, hG, ?_⟩
  · obtain ⟨_, p, mix, hp, hwf, hh⟩ := h.s
    exact ⟨code_grown h.c hG, p, mix, hp, hwf, (hk src hsrc).trans hh⟩
  · unfold SpRow
    rw [cells_snoc, List.length_append]
    exact ho
/-- A number out of a literal row, within bounds. -/
theorem n_pick (w : World) (O : Array Value) (src : Nat) (a : Option Addr) (len cap : Nat) (size : Int) (m : Nat) (lo hi : Int) (hm : 0 < m) (hm2 : m ≤ 1000) (hl : len ≤ 1048576) (h : SrcAt w src a len cap size) (hO : ∀ i, i < m → ∃ x : Int, O[i]? = some (.int .i64 x) ∧ lo ≤ x ∧ x ≤ hi) :
    Calls Try.prog 27 #[.pointer (some ⟨src, 0, none⟩), .int .i64 (m : Int)] (w.alloc (.cells O 2)) fun e w' => ∃ (r : Nat) (x : Int), e = .returned (.int .i64 r) ∧ r < m ∧ w'.cell? ⟨w.heap.size, r, none⟩ = some (.int .i64 x) ∧ lo ≤ x ∧ x ≤ hi ∧ SrcAt w' src a len cap size ∧ w.grownBy w' (some src) := by
  refine (n_nat (w.alloc (.cells O 2)) src a len cap size m (by omega) (by omega) hl (src_alloc h _)).mono fun e w' ⟨r, he, r1, hs, hg⟩ => ?_
  obtain ⟨x, hx, hlo, hhi⟩ := hO r (by omega)
  have hlt := src_lt h
  refine ⟨r, x, he, by omega, ?_, hlo, hhi, hs, grown_trans (grown_alloc _ _ _) hg⟩
  rw [World.cell?_of_block (a := ⟨w.heap.size, r, none⟩) (hg.block w.heap.size (by simp) (by simp; omega))]
  simpa using hx
set_option maxHeartbeats 8000000 in
set_option maxRecDepth 100000 in
theorem spans_any (w : World) (src : Nat) (a : Option Addr) (len cap : Nat) (size : Int) (hl : len ≤ 1048576) (hz0 : 0 ≤ size) (hz1 : size ≤ 12) (h : SrcAt w src a len cap size) :
    Calls Try.prog 25 #[.pointer (some ⟨src, 0, none⟩)] w fun e w' => ∃ (v : Value) (L : List Sp), e = .returned v ∧ L.length ≤ 18 ∧ Bd L ∧ St w w' src a len cap size v L := by
  obtain ⟨i0, hi, hy0, hy1, hy2⟩ := info_parts infoSp
  have hsrc := src_lt h
  have NN := hide (fun (most : Int) W (h1 : 0 < most) (h2 : most ≤ 1000000) (q : SrcAt W src a len cap size) => n_nat W src a len cap size most h1 h2 hl q)
  have ON := hide (fun W (q : SrcAt W src a len cap size) => one_any W src a len cap size 40 (by omega) (by omega) hl q)
  have PK := hide (fun (O : Array Value) W (m : Nat) (lo hi : Int) h1 h2 (q : SrcAt W src a len cap size) hO => n_pick W O src a len cap size m lo hi h1 h2 hl q hO)
  have hS0 : St w (w.alloc (.cells #[] 38)) src a len cap size (.slice (some ⟨w.heap.size, 0, none⟩) 0 0) [] := ⟨h.1, src_alloc h _, grown_alloc _ _ _, World.ownsRow_lit w #[] 0 (Nat.le_refl _) (by unfold maxLen; omega) rfl⟩
  have S0 := hide hS0
  obtain ⟨_, p0, mix0, _, _, hh0⟩ := hS0.s
  have k3 := (src_cells hh0).2.2.2.1
  have hw6 : IntKind.i64.wrap (6 + size) = 6 + size := by simp [IntKind.wrap, IntKind.bits, IntKind.signed]; omega
  clear h hS0 hh0
  go_enter Try.func25, Try.ntmps25
  go_wp2_with fail
  refine ((unhide NN) _ _ (by omega) (by omega) (unhide S0).s).mono ?_
  rintro e w1 ⟨k0, rfl, hk0, hs1, hg1⟩
  have S1 := hide ((unhide S0).n hsrc hs1 hg1)
  clear hs1 hg1 S0 k3
  go_wp2
  go_loopw [3, 4, 5] (fun sv av kv wr => ∃ (L : List Sp) (at_ k : Nat), at_ ≤ 32768 ∧ L.length + k ≤ 18 ∧ av = .int .i64 (at_ : Int) ∧ kv = .int .i64 (k : Int) ∧ Hid (Bd L) ∧ Hid (St w wr src a len cap size sv L)) (fun _ _ kv _ => (intOf kv).toNat)
  case atStart => exact ⟨[], 0, k0, by omega, by simp; omega, rfl, rfl, hide (fun r hr => by simp at hr), S1⟩
  case round =>
    obtain ⟨L, at_, k, hat, hLk, rfl, rfl, HBd, HS⟩ := hrel
    clear S1
    by_cases hk : 0 < k
    · have hk' : (0 : Int) < (k : Int) := by omega
      by_cases hat2 : at_ < 32767
      · have hat' : (at_ : Int) < 32767 := by omega
        go_wp2_with fail
        refine ((unhide NN) _ _ (by omega) (by omega) (unhide HS).s).mono ?_
        rintro e w2 ⟨r1, rfl, hr1, hs1, hg1⟩
        have HS := hide ((unhide HS).n hsrc hs1 hg1)
        clear hs1 hg1
        go_wp2_with fail
        refine ((unhide NN) _ _ (by omega) (by omega) (unhide HS).s).mono ?_
        rintro e w3 ⟨r2, rfl, hr2, hs1, hg1⟩
        have HS := hide ((unhide HS).n hsrc hs1 hg1)
        clear hs1 hg1
        go_wp2_with fail
        refine ((unhide NN) _ _ (by omega) (by omega) (unhide HS).s).mono ?_
        rintro e w4 ⟨r3, rfl, hr3, hs1, hg1⟩
        have HS := hide ((unhide HS).n hsrc hs1 hg1)
        clear hs1 hg1
        go_wp2_with fail
        refine ((unhide PK) #[.int .i64 0, .int .i64 (r1 : Int), .int .i64 (r2 : Int), .int .i64 (64 * (r3 : Int))] w4 4 0 200 (by omega) (by omega) (unhide HS).s (fun i hi => by
          rcases i with _ | _ | _ | _ | i
          · exact ⟨_, rfl, by omega, by omega⟩
          · exact ⟨_, rfl, by omega, by omega⟩
          · exact ⟨_, rfl, by omega, by omega⟩
          · exact ⟨_, rfl, by omega, by omega⟩
          · omega)).mono ?_
        rintro e w5 ⟨r4, x1, rfl, hr4, c5, hx0, hx1, hs1, hg1⟩
        have HS := hide ((unhide HS).n hsrc hs1 hg1)
        clear hs1 hg1
        obtain ⟨x1, rfl⟩ := Int.eq_ofNat_of_zero_le hx0
        obtain ⟨f, hf⟩ : ∃ f, at_ + x1 = f := ⟨_, rfl⟩
        have hf' : (at_ : Int) + (x1 : Int) = (f : Int) := by omega
        have hr4' : (r4 : Int) < 4 := by omega
        have hfw : IntKind.i64.wrap (f : Int) = (f : Int) := by simp [IntKind.wrap, IntKind.bits, IntKind.signed]; omega
        go_wp2_with fail
        refine ((unhide NN) _ _ (by omega) (by omega) (unhide HS).s).mono ?_
        rintro e w6 ⟨r5, rfl, hr5, hs1, hg1⟩
        have HS := hide ((unhide HS).n hsrc hs1 hg1)
        clear hs1 hg1
        go_wp2_with fail
        refine ((unhide NN) _ _ (by omega) (by omega) (unhide HS).s).mono ?_
        rintro e w7 ⟨r6, rfl, hr6, hs1, hg1⟩
        have HS := hide ((unhide HS).n hsrc hs1 hg1)
        clear hs1 hg1
        go_wp2_with fail
        refine ((unhide NN) _ _ (by omega) (by omega) (unhide HS).s).mono ?_
        rintro e w8 ⟨r7, rfl, hr7, hs1, hg1⟩
        have HS := hide ((unhide HS).n hsrc hs1 hg1)
        clear hs1 hg1
        go_wp2_with fail
        refine ((unhide PK) #[.int .i64 0, .int .i64 (r5 : Int), .int .i64 (r6 : Int), .int .i64 63, .int .i64 (64 * (r7 : Int))] w8 5 0 2496 (by omega) (by omega) (unhide HS).s (fun i hi => by
          rcases i with _ | _ | _ | _ | _ | i
          · exact ⟨_, rfl, by omega, by omega⟩
          · exact ⟨_, rfl, by omega, by omega⟩
          · exact ⟨_, rfl, by omega, by omega⟩
          · exact ⟨_, rfl, by omega, by omega⟩
          · exact ⟨_, rfl, by omega, by omega⟩
          · omega)).mono ?_
        rintro e w9 ⟨r8, x2, rfl, hr8, c9, hx2, hx3, hs1, hg1⟩
        have HS := hide ((unhide HS).n hsrc hs1 hg1)
        clear hs1 hg1
        obtain ⟨x2, rfl⟩ := Int.eq_ofNat_of_zero_le hx2
        obtain ⟨l, hl2⟩ : ∃ l, f + x2 = l := ⟨_, rfl⟩
        have hl' : (f : Int) + (x2 : Int) = (l : Int) := by omega
        have hr8' : (r8 : Int) < 5 := by omega
        have hlw : IntKind.i64.wrap (l : Int) = (l : Int) := by simp [IntKind.wrap, IntKind.bits, IntKind.signed]; omega
        go_upto_region 8 with fail
        have hbf : f ≤ 40000 ∧ l ≤ 50000 ∧ f ≤ l := by omega
        clear c5 c9 hf hf' hl2 hl' hfw hlw hr1 hr2 hr3 hr4 hr4' hr5 hr6 hr7 hr8 hr8' hx0 hx1 hx2 hx3
        by_cases hbig : 32767 < l
        · have hbig' : (32767 : Int) < (l : Int) := by omega
          by_cases hgo : 32767 < f
          · have hgo' : (32767 : Int) < (f : Int) := by omega
            go_wp2
            go_ret
            first | exact ⟨_, rfl, L, by omega, unhide HBd, unhide HS⟩ | exact ⟨_, L, rfl, by omega, unhide HBd, unhide HS⟩
          · have hgo' : ¬ (32767 : Int) < (f : Int) := by omega
            go_wp2_with fail
            refine ((unhide NN) _ _ (by omega) (by omega) (unhide HS).s).mono ?_
            rintro e w11 ⟨r9, rfl, hr9, hs1, hg1⟩
            have HS := hide ((unhide HS).n hsrc hs1 hg1)
            clear hs1 hg1
            go_wp2_with fail
            refine ((unhide PK) #[.int .i64 1, .int .i64 2, .int .i64 (r9 : Int), .int .i64 (-7), .int .i64 549755813888] w11 5 (-7) 549755813888 (by omega) (by omega) (unhide HS).s (fun i hi => by
              rcases i with _ | _ | _ | _ | _ | i
              · exact ⟨_, rfl, by omega, by omega⟩
              · exact ⟨_, rfl, by omega, by omega⟩
              · exact ⟨_, rfl, by omega, by omega⟩
              · exact ⟨_, rfl, by omega, by omega⟩
              · exact ⟨_, rfl, by omega, by omega⟩
              · omega)).mono ?_
            rintro e w12 ⟨r10, x3, rfl, hr10, c12, hx4, hx5, hs1, hg1⟩
            have HS := hide ((unhide HS).n hsrc hs1 hg1)
            clear hs1 hg1
            have hr10' : (r10 : Int) < 5 := by omega
            have BD2 : Hid (Bd (L ++ [((f : Int), 32767, x3)])) := hide ((unhide HBd).snoc (by omega) (by omega) (by omega))
            have hwz := (unhide HS).g.size
            go_wp2_with (at_builtin; refine wpList_append_own _ rfl _ _ 23 rfl w.heap.size 38 i0 (.agg #[.int .i64 0, .int .i64 0, .int .i64 0]) 3 24 Try.underlying23 hi hy0 hy1 hy2 rfl (by decide) _ _ _ rfl (World.ownsRow.alloc (unhide HS).o _) ⟨w12.heap.size, 0, none⟩ 1 1 [.int .i64 (f : Int), .int .i64 32767, .int .i64 x3] rfl rfl ?c1 ?c2 ?c3 ?c4 ?c5 ?_)
            case c1 => exact three_new _ _ _ _ _
            case c2 => exact three_one _ _ _
            case c3 => unfold maxLen; omega
            case c4 => first | omega | (simp; omega)
            case c5 => simp; omega
            intro v' w13 hown' hgrow _
            have HS2 := hide ((unhide HS).app hsrc hown' hgrow)
            clear hown' hgrow
            go_wp2
            go_roundw
            case rel => exact ⟨L ++ [((f : Int), 32767, x3)], 32767 + 1, k - 1, by omega, by simp; omega, by go_num, by go_num, BD2, HS2⟩
            case measure => simp [intOf]; omega
        · have hbig' : ¬ (32767 : Int) < (l : Int) := by omega
          have HG1 : Hid (¬ (32767 : Int) < (f : Int)) := hide (by omega)
          have HG2 : Hid (¬ (l : Int) < (f : Int)) := hide (by omega)
          go_wp2_with fail
          refine ((unhide ON) _ (unhide HS).s).mono ?_
          rintro e w10 ⟨b, rfl, hs1, hg1⟩
          have HS := hide ((unhide HS).n hsrc hs1 hg1)
          clear hs1 hg1
          cases b
          · have HLM : Hid (l ≤ 32767 ∧ f ≤ l) := hide (by omega)
            go_upto_region 10 with fail
            clear hbig hbig' hbf
            have hgo2 := unhide HG2
            have hgoN : ¬ l < f := by have := (unhide HLM).2; omega
            have hgoD : decide ((l : Int) < (f : Int)) = false := by simp; omega
            clear HG1 HG2
            go_wp2_with fail
            clear hgo2 hgoN hgoD
            have hlm := unhide HLM
            refine ((unhide NN) _ _ (by omega) (by omega) (unhide HS).s).mono ?_
            rintro e w11 ⟨r9, rfl, hr9, hs1, hg1⟩
            have HS := hide ((unhide HS).n hsrc hs1 hg1)
            clear hs1 hg1
            go_wp2_with fail
            refine ((unhide PK) #[.int .i64 1, .int .i64 2, .int .i64 (r9 : Int), .int .i64 (-7), .int .i64 549755813888] w11 5 (-7) 549755813888 (by omega) (by omega) (unhide HS).s (fun i hi => by
              rcases i with _ | _ | _ | _ | _ | i
              · exact ⟨_, rfl, by omega, by omega⟩
              · exact ⟨_, rfl, by omega, by omega⟩
              · exact ⟨_, rfl, by omega, by omega⟩
              · exact ⟨_, rfl, by omega, by omega⟩
              · exact ⟨_, rfl, by omega, by omega⟩
              · omega)).mono ?_
            rintro e w12 ⟨r10, x3, rfl, hr10, c12, hx4, hx5, hs1, hg1⟩
            have HS := hide ((unhide HS).n hsrc hs1 hg1)
            clear hs1 hg1
            have hr10' : (r10 : Int) < 5 := by omega
            have BD2 : Hid (Bd (L ++ [((f : Int), (l : Int), x3)])) := hide ((unhide HBd).snoc (by omega) (by omega) (by omega))
            have hwz := (unhide HS).g.size
            go_wp2_with (at_builtin; refine wpList_append_own _ rfl _ _ 23 rfl w.heap.size 38 i0 (.agg #[.int .i64 0, .int .i64 0, .int .i64 0]) 3 24 Try.underlying23 hi hy0 hy1 hy2 rfl (by decide) _ _ _ rfl (World.ownsRow.alloc (unhide HS).o _) ⟨w12.heap.size, 0, none⟩ 1 1 [.int .i64 (f : Int), .int .i64 (l : Int), .int .i64 x3] rfl rfl ?c1 ?c2 ?c3 ?c4 ?c5 ?_)
            case c1 => exact three_new _ _ _ _ _
            case c2 => exact three_one _ _ _
            case c3 => unfold maxLen; omega
            case c4 => first | omega | (simp; omega)
            case c5 => simp; omega
            intro v' w13 hown' hgrow _
            have HS2 := hide ((unhide HS).app hsrc hown' hgrow)
            clear hown' hgrow
            go_wp2
            go_roundw
            case rel => exact ⟨L ++ [((f : Int), (l : Int), x3)], l + 1, k - 1, by omega, by simp; omega, by go_num, by go_num, BD2, HS2⟩
            case measure => simp [intOf]; omega
          · have HLM : Hid (l ≤ 32767 ∧ f ≤ l) := hide (by omega)
            go_upto_region 10 with fail
            clear hbig hbig' hbf
            have hgo' := unhide HG1
            have hgoN : ¬ 32767 < f := by have := unhide HLM; omega
            have hgoD : decide ((32767 : Int) < (f : Int)) = false := by simp; omega
            clear HG1 HG2
            go_wp2_with fail
            clear hgo' hgoN hgoD
            have hlm := unhide HLM
            refine ((unhide NN) _ _ (by omega) (by omega) (unhide HS).s).mono ?_
            rintro e w11 ⟨r9, rfl, hr9, hs1, hg1⟩
            have HS := hide ((unhide HS).n hsrc hs1 hg1)
            clear hs1 hg1
            go_wp2_with fail
            refine ((unhide PK) #[.int .i64 1, .int .i64 2, .int .i64 (r9 : Int), .int .i64 (-7), .int .i64 549755813888] w11 5 (-7) 549755813888 (by omega) (by omega) (unhide HS).s (fun i hi => by
              rcases i with _ | _ | _ | _ | _ | i
              · exact ⟨_, rfl, by omega, by omega⟩
              · exact ⟨_, rfl, by omega, by omega⟩
              · exact ⟨_, rfl, by omega, by omega⟩
              · exact ⟨_, rfl, by omega, by omega⟩
              · exact ⟨_, rfl, by omega, by omega⟩
              · omega)).mono ?_
            rintro e w12 ⟨r10, x3, rfl, hr10, c12, hx4, hx5, hs1, hg1⟩
            have HS := hide ((unhide HS).n hsrc hs1 hg1)
            clear hs1 hg1
            have hr10' : (r10 : Int) < 5 := by omega
            have BD2 : Hid (Bd (L ++ [((f : Int), 32767, x3)])) := hide ((unhide HBd).snoc (by omega) (by omega) (by omega))
            have hwz := (unhide HS).g.size
            go_wp2_with (at_builtin; refine wpList_append_own _ rfl _ _ 23 rfl w.heap.size 38 i0 (.agg #[.int .i64 0, .int .i64 0, .int .i64 0]) 3 24 Try.underlying23 hi hy0 hy1 hy2 rfl (by decide) _ _ _ rfl (World.ownsRow.alloc (unhide HS).o _) ⟨w12.heap.size, 0, none⟩ 1 1 [.int .i64 (f : Int), .int .i64 32767, .int .i64 x3] rfl rfl ?c1 ?c2 ?c3 ?c4 ?c5 ?_)
            case c1 => exact three_new _ _ _ _ _
            case c2 => exact three_one _ _ _
            case c3 => unfold maxLen; omega
            case c4 => first | omega | (simp; omega)
            case c5 => simp; omega
            intro v' w13 hown' hgrow _
            have HS2 := hide ((unhide HS).app hsrc hown' hgrow)
            clear hown' hgrow
            go_wp2
            go_roundw
            case rel => exact ⟨L ++ [((f : Int), 32767, x3)], 32767 + 1, k - 1, by omega, by simp; omega, by go_num, by go_num, BD2, HS2⟩
            case measure => simp [intOf]; omega
      · have hat' : ¬ (at_ : Int) < 32767 := by omega
        go_wp2
        go_ret
        first | exact ⟨_, rfl, L, by omega, unhide HBd, unhide HS⟩ | exact ⟨_, L, rfl, by omega, unhide HBd, unhide HS⟩
    · have hk' : ¬ (0 : Int) < (k : Int) := by omega
      go_wp2
      go_ret
      first | exact ⟨_, rfl, L, by omega, unhide HBd, unhide HS⟩ | exact ⟨_, L, rfl, by omega, unhide HBd, unhide HS⟩
end Go.Proofs.Ytfcabmpklcmbgaa.Dr
