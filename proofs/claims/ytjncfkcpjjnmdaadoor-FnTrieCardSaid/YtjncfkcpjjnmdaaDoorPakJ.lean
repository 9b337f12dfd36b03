/- PackTrie of the program, and the law. -/
import Derived.Test.YtjncfkcpjjnmdaaDoorPakI
import Derived.OpenShut
namespace Go.Proofs.YtjncfkcpjjnmdaaDoor
open Go.ChangeShapes Go.WideShapes Go.ChangeAt Go.RowKit Go.Deep
theorem dat_to {w W : World} {B : Nat} {v : Value} {l : List Int} (h : DatAt w B v l) (hb : Below B w W) : ∃ a cap, v = .slice a l.length cap ∧ (l = [] ∨ ∃ b off, a = some ⟨b, off, none⟩ ∧ b < B ∧ ∀ i, i < l.length → W.cell? ⟨b, off + i, none⟩ = some (.int .i64 (nth l i))) := by
  obtain ⟨a, cap, e, _, h⟩ := h
  refine ⟨a, cap, e, h.imp_right ?_⟩
  rintro ⟨b, off, e2, hlt, hc⟩
  exact ⟨b, off, e2, hlt, fun i hi => (hb.cell (p := ⟨b, off + i, none⟩) hlt).trans (hc i hi)⟩
theorem own_nil5 (w : World) (B : Nat) : w.ownsRow B 5 1 (.slice none 0 0) ([] : List Int).length (([] : List Int).map (Value.int .u8)) := ⟨rfl, .inl ⟨rfl, rfl⟩⟩
theorem form_own5 {w : World} {B n : Nat} {v : Value} {xs : List Value} (h : w.ownsRow B 5 1 v n xs) : ∃ a cap, v = .slice a n cap := by
  rcases h.2 with ⟨rfl, rfl⟩ | ⟨g, cap, cur, rfl, _⟩
  · exact ⟨_, _, rfl⟩
  · exact ⟨_, _, rfl⟩
theorem box_kept {W W' : World} {g : Nat} {c : Array Value} (h : W.heap[g]? = some (.cells c 28 (0, 0))) (hk : Lib.OthersKept 5 none W W') : W'.heap[g]? = some (.cells c 28 (0, 0)) :=
  hk g _ h (by simp) (fun c fz e => by injection e with _ e _; exact absurd e (by decide))
theorem two_cells {W : World} {g : Nat} {x y : Value} {T : TypeId} (h : W.heap[g]? = some (.cells #[x, y] T (0, 0))) : W.cell? ⟨g, 0, none⟩ = some x ∧ W.cell? ⟨g, 1, none⟩ = some y := by
  simp [World.cell?, h]
theorem tab_up {w W : World} (h : Lib.TabBelow Tryd.prog w.heap.size w "internal/strconv.uint64pow10" .u64 Lib.pow10Tab) (hb : Below w.heap.size w W) : Lib.TabBelow Tryd.prog W.heap.size W "internal/strconv.uint64pow10" .u64 Lib.pow10Tab :=
  fun w' h' => h w' (hb.trans (h'.mono hb.size))
set_option maxHeartbeats 4000000 in
set_option maxRecDepth 100000 in
theorem implPack (vi vd : Value) (ix dt : List Int) (w : World) (hi : DatAt w w.heap.size vi ix) (hd : DatAt w w.heap.size vd dt) (li : ix.length ≤ 1048576) (ld : dt.length ≤ 1048576) (xi : In64 ix) (xd : In64 dt)
    (hT : Lib.TabBelow Tryd.prog w.heap.size w "internal/strconv.uint64pow10" .u64 Lib.pow10Tab) :
    Calls Tryd.prog 10 #[.agg #[vi, vd]] w fun e w' => e = .returned (.string (strOfNums (pakOut ix dt))) ∧ Below w.heap.size w w' := by
  obtain ⟨i0, hi0, hz0, hz1, hz2⟩ := info_parts info5
  have P1 := hide (hi.alloc (.cells #[vi, vd] 28))
  have Q1 := hide (hd.alloc (.cells #[vi, vd] 28))
  have CT := hide (implTF vi vd ix dt _ (unhide P1) (unhide Q1) li ld)
  have HI := hide hi
  have HD := hide hd
  have HT := hide hT
  clear hi hd hT P1 Q1
  rcases tf_cases ix dt with ⟨h0, n1, n2⟩ | h1
  · have hl1 := pkRuns_len n1 xi
    have hl2 := pkRuns_len n2 xd
    have HE : Hid (pakOut ix dt = smallP (pkRuns ix ++ [59] ++ pkRuns dt)) := hide (by unfold pakOut; rw [if_pos h0])
    rw [h0] at CT
    have L1 := hide (fun (W : World) (hb : Below w.heap.size w W) => layI w.heap.size (.slice none 0 0) vi [] ix W (own_nil5 _ _) (dat_to (unhide HI) hb) n1 (by simp) xi hb.size ((unhide HT).on hb))
    have L2 := hide (fun (W : World) (v : Value) (T0 : List Int) (ho : W.ownsRow w.heap.size 5 1 v T0.length (T0.map (Value.int .u8))) (ht : T0.length ≤ 2000000) (hb : Below w.heap.size w W) => layI w.heap.size v vd T0 dt W ho (dat_to (unhide HD) hb) n2 ht xd hb.size ((unhide HT).on hb))
    clear h0 xi xd li ld n1 n2 HI HD HT
    generalize pkRuns ix = A at *
    generalize pkRuns dt = B at *
    generalize pakOut ix dt = Z at *
    go_enter Tryd.func10, Tryd.ntmps10
    go_wp2_with fail
    refine (unhide CT).mono ?_
    rintro e w2 ⟨rfl, hb2⟩
    have B2 := hide ((one_belowD w (.cells #[vi, vd] 28)).trans (hb2.mono (by simp)))
    have X2 : Hid (w2.heap[w.heap.size]? = some (.cells #[vi, vd] 28 (0, 0))) := hide ((hb2.block w.heap.size (by simp)).trans (heap_alloc_new w _))
    obtain ⟨x0, _⟩ := two_cells (unhide X2)
    clear hb2 CT
    go_wp2_with fail
    refine ((unhide L1) _ (unhide B2)).mono ?_
    rintro e w3 ⟨v3, rfl, ho3, hb3, hk3⟩
    have O3 : Hid (w3.ownsRow w.heap.size 5 1 v3 A.length (A.map (Value.int .u8))) := hide (by simpa using ho3)
    have B3 := hide ((unhide B2).trans hb3)
    have X3 := hide (box_kept (unhide X2) hk3)
    have hs3 := (unhide B3).size
    clear ho3 hb3 hk3 x0 X2 B2 L1
    go_wp2_with (at_builtin; refine wpList_append_own _ rfl _ _ 22 rfl w.heap.size 5 i0 (.int .u8 0) 1 1 Tryd.underlying22 hi0 hz0 hz1 hz2 rfl (by decide) _ _ _ rfl ((unhide O3).alloc _) ⟨w3.heap.size, 0, none⟩ 1 1 [.int .u8 59] rfl rfl (cell_one_new _ _ _) (by simp [Value.oneCell']) (by unfold maxLen; omega) (by omega) (by simp; omega) ?_)
    intro v4 w4 hown hgrow _
    have O4 := hide (row_byte hown)
    have B4 := hide (below_appB (unhide B3) (unhide O3) hgrow hs3)
    have X4 := hide (box_kept (unhide X3) (kept_app (Lib.OthersKept.refl 5 none w3) (unhide O3) hgrow))
    have hl4 : (A ++ [59]).length ≤ 2000000 := by simp; omega
    obtain ⟨_, x1⟩ := two_cells (unhide X4)
    clear hown hgrow O3 B3 X3 hs3
    have HEq : Hid (Z = smallP (A ++ [59] ++ B)) := HE
    clear HE
    generalize A ++ [59] = C at *
    go_wp2_with fail
    refine ((unhide L2) _ _ C (unhide O4) hl4 (unhide B4)).mono ?_
    rintro e w5 ⟨v5, rfl, ho5, hb5, _⟩
    have B5 := hide ((unhide B4).trans hb5)
    have hcv := conv_owned w5 w.heap.size v5 _ (C ++ B) ho5
    obtain ⟨a, cap, hv⟩ := form_own5 ho5
    have hlen : (C ++ B).length ≤ 4000000 := by rw [List.length_append]; omega
    clear ho5 hb5 B4 X4 x1 L2 O4 hl1 hl2 hl4
    by_cases hb : 65536 < (C ++ B).length
    · have HE2 : Hid (strOfNums Z = { data := #[] }) := hide (by rw [unhide HEq]; unfold smallP; rw [if_pos hb]; rfl)
      have hb' : (65536 : Int) < ((C ++ B).length : Int) := by omega
      generalize (C ++ B).length = n at *
      subst hv
      clear HEq hcv
      go_wp2
      go_ret
      exact ⟨by rw [unhide HE2]; rfl, unhide B5⟩
    · have HE2 : Hid (strOfNums Z = strOfNums (C ++ B)) := hide (by rw [unhide HEq]; unfold smallP; rw [if_neg hb])
      have hb' : ((C ++ B).length : Int) ≤ 65536 := by omega
      generalize strOfNums (C ++ B) = S at *
      generalize (C ++ B).length = n at *
      subst hv
      clear HEq
      go_wp2
      go_ret
      exact ⟨by rw [unhide HE2]; rfl, unhide B5⟩
  · have HE : Hid (strOfNums (pakOut ix dt) = { data := #[] }) := hide (by unfold pakOut; rw [if_neg (by rw [h1]; decide)]; rfl)
    rw [h1] at CT
    clear h1 xi xd
    generalize strOfNums (pakOut ix dt) = Z at *
    go_enter Tryd.func10, Tryd.ntmps10
    go_wp2_with fail
    refine (unhide CT).mono ?_
    rintro e w2 ⟨rfl, hb2⟩
    have B2 := hide ((one_belowD w (.cells #[vi, vd] 28)).trans (hb2.mono (by simp)))
    clear hb2 CT
    go_wp2
    go_ret
    exact ⟨by rw [unhide HE]; rfl, unhide B2⟩
section

theorem ints_of_trodW {H : Type} {enc : TypeId × Value → H} {w : World} {held : Bool} {base fuel : Nat} {v : Value} {y : DataW H × List MemPlace} (hf : DataW.trod enc Tryd.prog w base (fun _ => true) held fuel 26 [v] = some y) : ∃ l, IntsAt w v l ∧ l.length ≤ maxLen ∧ In64 l := by
  rcases open_ints Tryd.underlying26 Tryd.underlying2 int_cells hf with ⟨hcs, _⟩ | ⟨x, len, cap, zs, hcs, _, hl, hm, hz, _, hcell, hwz⟩
  · simp at hcs
    subst hcs
    exact ⟨[], ⟨none, 0, rfl, .inl rfl⟩, by simp, fun j hj => absurd hj (by simp)⟩
  · simp at hcs
    subst hcs
    have hz' : zs.length = cap := by simpa using hz
    have hlen : (zs.take len).length = len := by simp; omega
    refine ⟨zs.take len, ⟨some x, cap, by rw [hlen], ?_⟩, by rw [hlen]; omega, fun j hj => ?_⟩
    · by_cases h0 : len = 0
      · exact .inl (List.length_eq_zero_iff.1 (by omega))
      · obtain ⟨b, off, rfl⟩ := add_spot (hcell 0 (by omega))
        have hb := block_lt_of_cell (hcell 0 (by omega))
        rw [addr_add] at hb
        refine .inr ⟨b, off, rfl, hb, fun i hi => ?_⟩
        have := hcell i (by omega)
        rw [addr_add] at this
        rw [this]
        have e : nth (zs.take len) i = zs.getD i 0 := by simp [nth, List.getD, show i < len by omega]
        rw [e]
    · have hj' : j < zs.length := by omega
      have e : nth (zs.take len) j = zs[j] := by simp [nth, List.getD, show j < len by omega, hj']
      rw [e]
      exact bounds_i64 (hwz _ (List.getElem_mem hj'))
end
end Go.Proofs.YtjncfkcpjjnmdaaDoor
