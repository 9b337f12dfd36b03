/- Several texts in one. -/
import Derived.Test.YtjncfkcpjjnmdaaDoorGF
import Derived.Test.YtjncfkcpjjnmdaaDoorGK
import Derived.Test.YtjncfkcpjjnmdaaDoorGJ
import Derived.Deep.RegionLaw
import Derived.Deep.RegionHeld3
/- What a trie tells of all points, as spans: the program. -/
namespace Go.Proofs.YtjncfkcpjjnmdaaDoor
open Go.RowKit
def fTrie (ix dt : List Int) (p : Int) : Int := atP ix dt p.toNat
set_option maxHeartbeats 4000000 in
set_option maxRecDepth 100000 in
theorem spansBy_trie (vi vd : Value) (ix dt : List Int) (w : World) (hi : DatAt w w.heap.size vi ix) (hd : DatAt w w.heap.size vd dt) (li : ix.length ≤ 1048576) (ld : dt.length ≤ 1048576) (ho : TrieOk ix dt) :
    Calls Tryd.prog 26 #[.func (.func 27) #[.agg #[vi, vd]] #[]] w fun e w' => ∃ (v : Value) (L : List Sp), e = .returned v ∧ RunsR (fTrie ix dt) L.reverse 32768 ∧ L.length ≤ 32768 ∧ SpRow w' w.heap.size v L ∧ Below w.heap.size w w' := by
  obtain ⟨i0, hz, hz0, hz1, hz2⟩ := info_parts infoSp
  have C : Hid (∀ (q : Nat) (W : World), q < 32768 → Below w.heap.size w W → Calls Tryd.prog 27 #[.agg #[vi, vd], .int .i64 q] W fun e w' => e = .returned (.int .i64 (fTrie ix dt q)) ∧ Below W.heap.size W w') := hide (fun q W hq hW => (valueAt_any vi vd ix dt q W (hi.below hW) (hd.below hW) li ld ho hq).mono (fun e w' ⟨he, hb⟩ => ⟨by rw [he]; unfold fTrie; rw [Int.toNat_natCast], hb⟩))
  obtain ⟨ai, ci, rfl, _, _⟩ := hi
  obtain ⟨ad, cd, rfl, _, _⟩ := hd
  clear ho
  go_enter Tryd.func26, Tryd.ntmps26
  go_wp2_with fail
  refine ((unhide C) 0 _ (by omega) (Below.refl _ _)).mono ?_
  rintro e w1 ⟨rfl, hb1⟩
  have HB0 := hide hb1
  have HO0 : Hid (SpRow w1 w.heap.size (.slice none 0 0) []) := hide (World.ownsRow_nil _ _ _ _)
  clear hb1
  generalize hf : fTrie ix dt = F at *
  have HF := hide hf
  clear hf
  go_wp2
  go_loopw [3, 4, 5, 6] (fun sv fv vv pv wr => ∃ (L : List Sp) (x q : Nat) (v : Int), 1 ≤ q ∧ q ≤ 32768 ∧ x < q ∧ L.length ≤ x ∧ pv = .int .i64 q ∧ fv = .int .i64 x ∧ vv = .int .i64 v ∧ Hid (SpRow wr w.heap.size sv L) ∧ Hid (Below w.heap.size w wr) ∧ Hid (RunsR F L.reverse x) ∧ Hid (∀ r : Int, (x : Int) ≤ r → r < (q : Int) → F r = v) ∧ Hid (headNe L.reverse v)) (fun _ _ _ p _ => 32768 - (intOf p).toNat)
  case atStart => exact ⟨[], 0, 1, F ((0 : Nat) : Int), by omega, by omega, by omega, by simp, rfl, rfl, rfl, HO0, HB0, hide rfl, hide (fun r h1 h2 => by rw [show r = ((0 : Nat) : Int) by omega]), hide (headNe_nil _)⟩
  case round =>
    obtain ⟨L, x, q, v, hq1, hq2, hxq, hLx, rfl, rfl, rfl, HO, HB, HR, HC, HN⟩ := hrel
    clear HO0 HB0
    have hBs := (unhide HB).size
    by_cases hlt : q ≤ 32767
    · have hlt' : (q : Int) ≤ 32767 := by omega
      go_wp2_with fail
      refine ((unhide C) q _ (by omega) (unhide HB)).mono ?_
      rintro e w2 ⟨rfl, hb2⟩
      have HO2 := hide ((unhide HO).below hb2)
      have HB2 := hide ((unhide HB).trans (hb2.mono hBs))
      have hB2s := hb2.size
      clear hb2
      cases hv : (F q != v)
      · have hv' : F q = v := by simpa using hv
        have HC' : Hid (∀ r : Int, (x : Int) ≤ r → r < ((q + 1 : Nat) : Int) → F r = v) := hide (fun r h1 h2 => by
          by_cases e : r = (q : Int)
          · rw [e]; exact hv'
          · exact (unhide HC) r h1 (by omega))
        clear hv'
        go_wp2
        go_roundw
        case rel => exact ⟨L, x, q + 1, v, by omega, by omega, by omega, hLx, by go_num, rfl, rfl, HO2, HB2, HR, HC', HN⟩
        case measure => simp [intOf]; omega
      · have hv' : F q ≠ v := by simpa using hv
        have hR' : RunsR F (L ++ [((x : Int), (q : Int) - 1, v)]).reverse q := by
          rw [List.reverse_append]
          have := runs_new (unhide HR) (show (x : Int) ≤ (q : Int) - 1 by omega) (fun r h1 h2 => (unhide HC) r h1 (by omega)) (unhide HN)
          rwa [show (q : Int) - 1 + 1 = q by omega] at this
        have HR' := hide hR'
        have HN' : Hid (headNe (L ++ [((x : Int), (q : Int) - 1, v)]).reverse (F q)) := hide (by rw [List.reverse_append]; exact headNe_cons _ _ _ (Ne.symm hv'))
        have HC' : Hid (∀ r : Int, (q : Int) ≤ r → r < ((q + 1 : Nat) : Int) → F r = F q) := hide (fun r h1 h2 => by rw [show r = (q : Int) by omega])
        clear hR' hv'
        generalize F q = v2 at *
        go_wp2_with (at_builtin; refine wpList_append_own _ rfl _ _ 23 rfl w.heap.size 33 i0 (.agg #[.int .i64 0, .int .i64 0, .int .i64 0]) 3 24 Tryd.underlying23 hz hz0 hz1 hz2 rfl (by decide) _ _ _ rfl (World.ownsRow.alloc (unhide HO2) _) ⟨w2.heap.size, 0, none⟩ 1 1 [.int .i64 x, .int .i64 ((q : Int) - 1), .int .i64 v] rfl rfl ?c1 ?c2 ?c3 ?c4 ?c5 ?_)
        case c1 => exact three_new _ _ _ _ _
        case c2 => exact three_one _ _ _
        case c3 => unfold maxLen; omega
        case c4 => omega
        case c5 => simp; omega
        intro v' w3 hown' hgrow _
        have R := hide (sp_step (unhide HB2) (unhide HO2) hown' hgrow)
        clear hown' hgrow
        go_wp2
        go_roundw
        case rel => exact ⟨L ++ [((x : Int), (q : Int) - 1, v)], q, q + 1, v2, by omega, by omega, by omega, by simp; omega, by go_num, rfl, rfl, hide (unhide R).1, hide (unhide R).2, HR', HC', HN'⟩
        case measure => simp [intOf]; omega
    · obtain rfl : q = 32768 := by omega
      have HR' : Hid (RunsR F (L ++ [((x : Int), 32767, v)]).reverse 32768) := hide (by
        rw [List.reverse_append]
        exact runs_new (unhide HR) (show (x : Int) ≤ 32767 by omega) (fun r h1 h2 => (unhide HC) r h1 (by omega)) (unhide HN))
      go_wp2_with (at_builtin; refine wpList_append_own _ rfl _ _ 23 rfl w.heap.size 33 i0 (.agg #[.int .i64 0, .int .i64 0, .int .i64 0]) 3 24 Tryd.underlying23 hz hz0 hz1 hz2 rfl (by decide) _ _ _ rfl (World.ownsRow.alloc (unhide HO) _) ⟨wr.heap.size, 0, none⟩ 1 1 [.int .i64 x, .int .i64 32767, .int .i64 v] rfl rfl ?c1 ?c2 ?c3 ?c4 ?c5 ?_)
      case c1 => exact three_new _ _ _ _ _
      case c2 => exact three_one _ _ _
      case c3 => unfold maxLen; omega
      case c4 => omega
      case c5 => simp; omega
      intro v' w3 hown' hgrow _
      have R := hide (sp_step (unhide HB) (unhide HO) hown' hgrow)
      clear hown' hgrow
      go_wp2
      go_ret
      exact ⟨_, _, rfl, by rw [unhide HF]; exact unhide HR', by simp; omega, (unhide R).1, (unhide R).2⟩
end Go.Proofs.YtjncfkcpjjnmdaaDoor
/- What a trie tells of all points, as spans: the program's answer and the specification's. -/
namespace Go.Proofs.YtjncfkcpjjnmdaaDoor
open Go.RowKit
def TSOf (ix dt : List Int) (L : List Sp) : Prop := (TrieOk ix dt ∧ RunsR (fTrie ix dt) L.reverse 32768) ∨ (¬ TrieOk ix dt ∧ L = [])
theorem tsOf_one {ix dt : List Int} {L M : List Sp} (h : TSOf ix dt L) (h' : TSOf ix dt M) : L = M := by
  rcases h with ⟨a, h⟩ | ⟨n, h⟩
  · rcases h' with ⟨_, h'⟩ | ⟨n, _⟩
    · have := congrArg List.reverse (runs_one _ _ _ _ h h')
      simpa using this
    · exact absurd a n
  · rcases h' with ⟨a, _⟩ | ⟨_, h'⟩
    · exact absurd a n
    · rw [h, h']
theorem row_base' {w : World} {B B' : Nat} {v : Value} {L : List Sp} (h : SpRow w B v L) (hb : B' ≤ B) : SpRow w B' v L := by
  refine ⟨h.1, ?_⟩
  rcases h.2 with h' | ⟨g, cap, cur, hv, hg, r⟩
  · exact .inl h'
  · exact .inr ⟨g, cap, cur, hv, by omega, r⟩
set_option maxHeartbeats 2000000 in
theorem implTS (vi vd : Value) (ix dt : List Int) (w : World) (hi : DatAt w w.heap.size vi ix) (hd : DatAt w w.heap.size vd dt) (li : ix.length ≤ 1048576) (ld : dt.length ≤ 1048576) :
    Calls Tryd.prog 8 #[.agg #[vi, vd]] w fun e w' => ∃ (v : Value) (L : List Sp), e = .returned v ∧ TSOf ix dt L ∧ L.length ≤ 32768 ∧ SpRow w' w.heap.size v L ∧ Below w.heap.size w w' := by
  have HI := hide hi
  have HD := hide hd
  obtain ⟨ai, ci, rfl, _, _⟩ := hi
  obtain ⟨ad, cd, rfl, _, _⟩ := hd
  have HB1 : Hid (∀ o, Below w.heap.size w (w.alloc o)) := hide (fun o => (Below.refl _ _).alloc (Nat.le_refl _) o)
  by_cases ho : TrieOk ix dt
  · have hf := trieFault_ok ho
    have HO := hide ho
    clear ho
    go_enter Tryd.func8, Tryd.ntmps8
    go_upto_region 1 with fail
    have X1 := hide (Box.new w (.slice ai ix.length ci) (.slice ad dt.length cd) 28)
    have P1 := hide ((unhide HI).alloc (.cells #[.slice ai ix.length ci, .slice ad dt.length cd] 28))
    have Q1 := hide ((unhide HD).alloc (.cells #[.slice ai ix.length ci, .slice ad dt.length cd] 28))
    have W1 := hide (unhide HB1 (.cells #[.slice ai ix.length ci, .slice ad dt.length cd] 28))
    clear HI HD HB1
    generalize w.alloc (.cells #[.slice ai ix.length ci, .slice ad dt.length cd] 28) = w1 at *
    obtain ⟨⟨x0, x1⟩, _, _⟩ := unhide X1
    go_wp2_with fail
    refine (implTF _ _ ix dt _ (unhide P1) (unhide Q1) li ld).mono ?_
    rintro e w2 ⟨rfl, hb⟩
    rw [hf]
    have P2 := hide ((unhide P1).below hb)
    have Q2 := hide ((unhide Q1).below hb)
    have X2 := hide ((unhide X1).below hb)
    have W2 := hide ((unhide W1).trans (hb.mono (unhide W1).size))
    clear hb P1 Q1 X1 W1 x0 x1
    obtain ⟨⟨x0, x1⟩, _, _⟩ := unhide X2
    go_wp2_with fail
    refine (spansBy_trie _ _ ix dt _ (unhide P2) (unhide Q2) li ld (unhide HO)).mono ?_
    rintro e w3 ⟨v, L, rfl, hr, hl, hs, hb⟩
    have R3 := hide (⟨hr, hl, row_base' hs (unhide W2).size, (unhide W2).trans (hb.mono (unhide W2).size)⟩ : _ ∧ _ ∧ _ ∧ _)
    clear hr hl hs hb
    go_wp2
    go_ret
    exact ⟨_, _, rfl, .inl ⟨unhide HO, (unhide R3).1⟩, (unhide R3).2.1, (unhide R3).2.2.1, (unhide R3).2.2.2⟩
  · have hf := trieFault_no ho
    have HO := hide ho
    clear ho
    go_enter Tryd.func8, Tryd.ntmps8
    go_wp2_with fail
    refine (implTF _ _ ix dt _ ((unhide HI).alloc _) ((unhide HD).alloc _) li ld).mono ?_
    rintro e w2 ⟨rfl, hb⟩
    rw [hf]
    have W2 := hide ((unhide HB1 _).trans (hb.mono (unhide HB1 _).size))
    clear hb
    go_wp2
    go_ret
    exact ⟨_, [], rfl, .inr ⟨unhide HO, rfl⟩, by simp, World.ownsRow_nil _ _ _ _, unhide W2⟩
/-- What the trie tells, one point after the other. -/
def told (ix dt : List Int) (n : Nat) : List Int := tabF n (fun p => atP ix dt p)
theorem told_len (ix dt : List Int) (n : Nat) : (told ix dt n).length = n := tabF_len _ _
theorem told_step {ix dt : List Int} (h : TrieOk ix dt) (k : Nat) (hk : k < 512) : told ix dt (k * 64) ++ blk dt (nth ix k).toNat = told ix dt ((k + 1) * 64) := by
  obtain ⟨h1, h2, h3, _, h5⟩ := h
  have hb := (turns_bd ix 0 _ h5).2 k (by omega)
  have hn : nth ix k = ix.getD k 0 := rfl
  have hl : dt.length = dt.length / 64 * 64 := by omega
  have hbl := blk_len dt (nth ix k).toNat (dt.length / 64) hl (by rw [hn]; omega)
  apply List.ext_getElem
  · rw [List.length_append, told_len, told_len, hbl]; omega
  · intro i h1 h2
    rw [told_len] at h2
    have e : (told ix dt ((k + 1) * 64))[i] = atP ix dt i := by simp [told, tabF]
    rw [e]
    by_cases hi : i < k * 64
    · rw [List.getElem_append_left (by rw [told_len]; exact hi)]
      simp [told, tabF]
    · rw [List.getElem_append_right (by rw [told_len]; omega)]
      have hj : i - (told ix dt (k * 64)).length = i - k * 64 := by rw [told_len]
      have e2 : (blk dt (nth ix k).toNat)[i - (told ix dt (k * 64)).length]'(by rw [told_len, hbl]; omega) = (blk dt (nth ix k).toNat).getD (i - k * 64) 0 := by
        rw [List.getD_eq_getElem?_getD, List.getElem?_eq_getElem (by rw [hbl]; omega)]
        simp [told_len]
      rw [e2, blk_nth dt _ _ (by omega)]
      unfold atP
      have q1 : i / 64 = k := by omega
      have q2 : i % 64 = i - k * 64 := by omega
      rw [q1, q2]
      rfl
theorem told_runs {ix dt : List Int} {L : List Sp} (h : RunsR (fnum (told ix dt 32768)) L.reverse 32768) : RunsR (fTrie ix dt) L.reverse 32768 :=
  runs_ext h fun p h0 h1 => by
    unfold fnum nth told
    rw [tabF_at _ _ _ (by omega)]
    rfl
theorem ix_at {ix dt : List Int} (h : TrieOk ix dt) (k : Nat) (hk : k < 512) : ∃ x : Nat, nth ix k = (x : Int) ∧ x < 512 ∧ (x + 1) * 64 ≤ dt.length := by
  obtain ⟨h1, h2, h3, _, h5⟩ := h
  have hb := (turns_bd ix 0 _ h5).2 k (by omega)
  have hn : nth ix k = ix.getD k 0 := rfl
  rw [← hn] at hb
  exact ⟨(nth ix k).toNat, by omega, by omega, by omega⟩
end Go.Proofs.YtjncfkcpjjnmdaaDoor
/- What a trie tells of all points, as spans: the specification walked. -/
namespace Go.Proofs.YtjncfkcpjjnmdaaDoor
open Go.RowKit
theorem own_drewT {w : World} {B : Nat} {e : TypeId} {s : Nat} {v : Value} {n : Nat} {xs : List Value} (h : w.ownsRow B e s v n xs) : w.drew.ownsRow B e s v n xs := h
theorem grown_drT {a b : World} {r : Option Nat} (h : a.drew.grownBy b r) : a.grownBy b r := ⟨h.os, h.tape, h.output, h.size, h.block⟩
theorem blk_news {w : World} {b off : Nat} {l : List Int} (hc : ∀ i, i < l.length → w.cell? ⟨b, off + i, none⟩ = some (.int .i64 (nth l i))) (x : Nat) (hx : (x + 1) * 64 ≤ l.length) : ∀ j u, ((blk l x).map (Value.int .i64))[j]? = some u → w.cell? ((⟨b, off + x * 64, none⟩ : Addr).add j) = some u := by
  intro j u hj
  rw [List.getElem?_map] at hj
  have hl : (blk l x).length = 64 := by unfold blk; rw [List.length_take, List.length_drop]; omega
  by_cases h : j < 64
  · have h2 : (blk l x)[j]? = some (nth (blk l x) j) := by simp [nth, List.getD, hl, h]
    rw [h2] at hj
    simp at hj
    rw [addr_add, Nat.add_assoc, hc (x * 64 + j) (by omega), ← hj]
    unfold nth
    rw [blk_nth l x j h]
  · rw [List.getElem?_eq_none (by omega)] at hj
    simp at hj
theorem ints_one (l : List Int) : ∀ u ∈ l.map (Value.int .i64), u.oneCell' = true := by
  intro u hu
  obtain ⟨x, _, rfl⟩ := List.mem_map.1 hu
  rfl
theorem told_below {w2 wr w3 : World} {v : Value} {n : Nat} {xs : List Value} (hb : Below w2.heap.size w2 wr) (h : wr.ownsRow w2.heap.size 2 1 v n xs) (hg : wr.drew.grownBy w3 v.ownBlock) : Below w2.heap.size w2 w3 :=
  hb.grown (grown_drT hg) hb.size (fun k hk => (h.lt k hk).1)
theorem told_row {w3 : World} {B k x : Nat} {v : Value} {l m : List Int} {xs : List Int} (ht : l ++ xs = m) (he : (x + 1) * 64 - x * 64 = 64) (h : w3.ownsRow B 2 1 v (k * 64 + ((x + 1) * 64 - x * 64)) (l.map (Value.int .i64) ++ xs.map (Value.int .i64))) : w3.ownsRow B 2 1 v ((k + 1) * 64) (m.map (Value.int .i64)) := by
  rw [← ht, List.map_append, show (k + 1) * 64 = k * 64 + ((x + 1) * 64 - x * 64) by omega]
  exact h
set_option maxHeartbeats 2000000 in
set_option maxRecDepth 100000 in
theorem specTS (vi vd : Value) (ix dt : List Int) (w : World) (hi : DatAt w w.heap.size vi ix) (hd : DatAt w w.heap.size vd dt) (li : ix.length ≤ 1048576) (ld : dt.length ≤ 1048576) :
    Calls Tryd.prog 14 #[.agg #[vi, vd]] w fun e w' => ∃ (v : Value) (L : List Sp), e = .returned v ∧ TSOf ix dt L ∧ L.length ≤ 32768 ∧ SpRow w' w.heap.size v L ∧ Below w.heap.size w w' := by
  obtain ⟨i0, hz, hz0, hz1, hz2⟩ := info_parts info2
  have HI := hide hi
  have HD := hide hd
  obtain ⟨ai, ci, rfl, _, _⟩ := hi
  obtain ⟨ad, cd, rfl, hcap, _⟩ := hd
  have HB1 : Hid (∀ o, Below w.heap.size w (w.alloc o)) := hide (fun o => (Below.refl _ _).alloc (Nat.le_refl _) o)
  by_cases ho : TrieOk ix dt
  · have hf := trieFault_ok ho
    have HO := hide ho
    have HH := hide ho.1
    clear ho
    go_enter Tryd.func14, Tryd.ntmps14
    go_upto_region 1 with fail
    have X1 := hide (Box.new w (.slice ai ix.length ci) (.slice ad dt.length cd) 28)
    have P1 := hide ((unhide HI).alloc (.cells #[.slice ai ix.length ci, .slice ad dt.length cd] 28))
    have Q1 := hide ((unhide HD).alloc (.cells #[.slice ai ix.length ci, .slice ad dt.length cd] 28))
    have W1 := hide (unhide HB1 (.cells #[.slice ai ix.length ci, .slice ad dt.length cd] 28))
    clear HI HD HB1
    generalize w.alloc (.cells #[.slice ai ix.length ci, .slice ad dt.length cd] 28) = w1 at *
    obtain ⟨⟨x0, x1⟩, _, _⟩ := unhide X1
    go_wp2_with fail
    refine (specTF _ _ ix dt _ (unhide P1) (unhide Q1) li ld).mono ?_
    rintro e w2 ⟨rfl, hb⟩
    rw [hf]
    have P2 := hide ((unhide P1).below hb)
    have Q2 := hide ((unhide Q1).below hb)
    have X2 := hide ((unhide X1).below hb)
    have W2 := hide ((unhide W1).trans (hb.mono (unhide W1).size))
    clear hb P1 Q1 X1 W1 x0 x1 hf
    go_upto_region 4 with fail
    have O3 : Hid ((w2.alloc (.cells #[] 2)).ownsRow w2.heap.size 2 1 (.slice (some ⟨w2.heap.size, 0, none⟩) 0 0) (0 * 64) ((told ix dt (0 * 64)).map (Value.int .i64))) := hide (World.ownsRow_lit w2 #[] 0 (Nat.le_refl _) (by unfold maxLen; omega) rfl)
    have W3 : Hid (Below w2.heap.size w2 (w2.alloc (.cells #[] 2))) := hide ((Below.refl _ _).alloc (Nat.le_refl _) _)
    go_wp2
    go_loopw [3, 4] (fun sv iv wr => ∃ k : Nat, k ≤ 512 ∧ iv = .int .i64 k ∧ Hid (wr.ownsRow w2.heap.size 2 1 sv (k * 64) ((told ix dt (k * 64)).map (Value.int .i64))) ∧ Hid (Below w2.heap.size w2 wr)) (fun _ i _ => 512 - (intOf i).toNat)
    case atStart => exact ⟨0, Nat.zero_le _, rfl, O3, W3⟩
    case round =>
      obtain ⟨k, hk, rfl, HR, HB⟩ := hrel
      clear O3 W3
      obtain ⟨⟨x0, x1⟩, _, _⟩ := (unhide X2).below (unhide HB)
      by_cases hlt : k < 512
      · obtain ⟨x, hx, hx5, hxl⟩ := ix_at (unhide HO) k hlt
        have hkl : k < ix.length := by have := unhide HH; omega
        have hki : (k : Int) < (ix.length : Int) := by omega
        obtain ⟨b1, o1, e1, k1⟩ := (unhide P2).at (by omega)
        obtain ⟨b2, o2, e2, k2⟩ := ((unhide Q2).below (unhide HB)).at (by omega)
        subst e1 e2
        have d0 := k1 k hkl
        rw [hx] at d0
        have hbl1 : b1 < w2.heap.size := block_lt_of_cell (a := ⟨b1, o1 + k, none⟩) d0
        have d1 := ((unhide HB).cell (p := ⟨b1, o1 + k, none⟩) hbl1).trans d0
        have HD1 := hide d0
        clear d0
        have HT := hide (told_step (unhide HO) k hlt)
        rw [hx] at HT
        simp only [Int.toNat_natCast] at HT
        have HNw := hide (blk_news k2 x hxl)
        have hbl : (blk dt x).length = 64 := by unfold blk; rw [List.length_take, List.length_drop]; omega
        have em : (x + 1) * 64 - x * 64 = 64 := by omega
        have HL64 := hide hbl
        have HEM := hide em
        obtain ⟨sa, sc, hsv⟩ := own_form (unhide HR)
        subst hsv
        have hBs := (unhide HB).size
        have wk1 : IntKind.i64.wrap ((x : Int) * 64) = (x : Int) * 64 := wrap_in _ (by omega) (by omega)
        have wk2 : IntKind.i64.wrap ((x : Int) + 1) = (x : Int) + 1 := wrap_in _ (by omega) (by omega)
        have wk3 : IntKind.i64.wrap (((x : Int) + 1) * 64) = ((x : Int) + 1) * 64 := wrap_in _ (by omega) (by omega)
        have s1 : (0 : Int) ≤ (x : Int) * 64 := by omega
        have s2 : (x : Int) * 64 ≤ ((x : Int) + 1) * 64 := by omega
        have s3 : ((x : Int) + 1) * 64 ≤ (cd : Int) := by omega
        have s4 : ((x : Int) * 64).toNat = x * 64 := by omega
        have s5 : (((x : Int) + 1) * 64).toNat = (x + 1) * 64 := by omega
        have s6 : (0 : Int) ≤ ((x : Int) + 1) * 64 := by omega
        have s7 : (x : Int) ≤ (x : Int) + 1 := by omega
        have s8 : ¬ cd = x * 64 := by omega
        clear hx k1 k2 hbl em
        have HKP : Hid (∀ w3 : World, Below w2.heap.size w2 w3 → w3.cell? ⟨w.heap.size, 0, none⟩ = some (.slice (some ⟨b1, o1, none⟩) ix.length ci) ∧ w3.cell? ⟨w.heap.size, 1, none⟩ = some (.slice (some ⟨b2, o2, none⟩) dt.length cd) ∧ w3.cell? ⟨b1, o1 + k, none⟩ = some (.int .i64 x)) := hide (fun w3 hb3 => ⟨((unhide X2).below hb3).1.1, ((unhide X2).below hb3).1.2, (hb3.cell (p := ⟨b1, o1 + k, none⟩) hbl1).trans (unhide HD1)⟩)
        go_upto_region 7 with fail
        go_region_held3 (fun w' => w'.cell? ⟨w.heap.size, 0, none⟩ = some (.slice (some ⟨b1, o1, none⟩) ix.length ci) ∧ w'.cell? ⟨w.heap.size, 1, none⟩ = some (.slice (some ⟨b2, o2, none⟩) dt.length cd) ∧ w'.cell? ⟨b1, o1 + k, none⟩ = some (.int .i64 x)) (first | go_keep | exact K3) ((refine step_append_own (by rfl) (.tmp 17) (.tmp 33) 26 (by rfl) w2.heap.size 2 i0 (.int .i64 0) 1 8 Tryd.underlying26 hz hz0 hz1 hz2 (by rfl) (by decide) (.slice sa (k * 64) sc) (k * 64) ((told ix dt (k * 64)).map (Value.int .i64)) (by simp [Act.eval]) (by first | exact unhide HR | exact own_drewT (unhide HR) | exact own_drewT (own_drewT (unhide HR))) ⟨b2, o2 + x * 64, none⟩ ((x + 1) * 64 - x * 64) (cd - x * 64) ((blk dt x).map (Value.int .i64)) (by simp [Act.eval]) (by rw [List.length_map, unhide HL64, unhide HEM]) (unhide HNw) (ints_one _) (by rw [unhide HEM]; unfold maxLen; omega) (by rw [unhide HEM]; omega) (by first | exact hBs | (simp; exact hBs)) ?_; intro v' w3 hown' hgrow; have R := hide (⟨hown', told_below (unhide HB) (unhide HR) hgrow⟩ : _ ∧ _); have K3 := (unhide HKP) w3 (unhide R).2; clear hown' hgrow))
        all_goals
          go_wp2
          go_roundw
          case rel => exact ⟨k + 1, by omega, by go_num, hide (told_row (unhide HT) (unhide HEM) (unhide R).1), hide (unhide R).2⟩
          case measure => simp [intOf]; omega
      · obtain rfl : k = 512 := by omega
        have hge : ¬ ((512 : Nat) : Int) < (ix.length : Int) := by have := unhide HH; omega
        have HR' : Hid (wr.ownsRow w2.heap.size 2 1 u3 32768 ((told ix dt 32768).map (Value.int .i64))) := HR
        clear HR
        go_wp2_with fail
        refine (l04Spans_any _ (told ix dt 32768) _ (DatAt.owned (unhide HR')) (by rw [told_len]; omega)).mono ?_
        rintro e w5 ⟨sv5, L5, rfl, hruns, hl5, hs5, hb⟩
        rw [told_len] at hruns hl5
        have hz5 := (unhide HB).size
        have hz6 := (unhide W2).size
        have R := hide (⟨told_runs hruns, hl5, row_base' hs5 (show w.heap.size ≤ wr.heap.size by omega), (unhide W2).trans (((unhide HB).mono hz6).trans (hb.mono (by omega)))⟩ : _ ∧ _ ∧ _ ∧ _)
        clear hruns hl5 hs5 hb
        go_wp2
        go_ret
        exact ⟨_, _, rfl, .inl ⟨unhide HO, (unhide R).1⟩, (unhide R).2.1, (unhide R).2.2.1, (unhide R).2.2.2⟩
  · have hf := trieFault_no ho
    have HO := hide ho
    clear ho
    go_enter Tryd.func14, Tryd.ntmps14
    go_wp2_with fail
    refine (specTF _ _ ix dt _ ((unhide HI).alloc _) ((unhide HD).alloc _) li ld).mono ?_
    rintro e w2 ⟨rfl, hb⟩
    rw [hf]
    have W2 := hide ((unhide HB1 _).trans (hb.mono (unhide HB1 _).size))
    clear hb
    have hsz := (unhide W2).size
    go_wp2
    go_ret
    exact ⟨_, [], rfl, .inr ⟨unhide HO, rfl⟩, by simp, World.ownsRow_lit w2 #[] 0 hsz (by unfold maxLen; omega) rfl, (unhide W2).alloc hsz _⟩
end Go.Proofs.YtjncfkcpjjnmdaaDoor
