/- Rows of texts that came in: their size, and a copy of them. -/
import Derived.Test.YtnmlfgnnhhaeoaaDoorStrB
namespace Go.Proofs.YtnmlfgnnhhaeoaaDoor
open Go.RowKit
theorem strs_rd {w : World} {v : Value} {L : List ByteArray} (h : StrsAt w v L) (hl : 0 < L.length) : ∃ b off cap, v = .slice (some ⟨b, off, none⟩) L.length cap ∧ b < w.heap.size ∧ ∀ i, i < L.length → w.cell? ⟨b, off + i, none⟩ = some (.string (nthS L i)) := by
  obtain ⟨a, cap, rfl, h⟩ := h
  rcases h with h | ⟨b, off, rfl, hbs, hc⟩
  · rw [h] at hl; simp at hl
  · exact ⟨b, off, cap, rfl, hbs, hc⟩
theorem mem_of_nthS {L : List ByteArray} {x : ByteArray} (h : x ∈ L) : ∃ k, k < L.length ∧ nthS L k = x := by
  obtain ⟨k, hk, e⟩ := List.getElem_of_mem h
  exact ⟨k, hk, by simp [nthS, List.getD, hk, e]⟩
set_option maxRecDepth 100000 in
set_option maxHeartbeats 2000000 in
theorem szStrs_any (v : Value) (l : List ByteArray) (m : Nat) (w : World) (hv : StrsAt w v l) (hl : l.length ≤ 9223372036854775807) (hs : ∀ i, i < l.length → (nthS l i).size ≤ 9223372036854775807) (hm : m ≤ 1048576) :
    Calls Tryd.prog 4 #[v, .int .i64 (m : Int)] w fun e w' => ∃ r : Int, e = .returned (.int .i64 r) ∧ w' = w ∧ (r < 0 ∨ (0 ≤ r ∧ r ≤ (m : Int) ∧ l.length ≤ 1048576 ∧ ∀ i, i < l.length → (nthS l i).size ≤ 1048576)) := by
  have HV := hide hv
  have HS := hide hs
  obtain ⟨a, cap, rfl, _⟩ := hv
  clear hs
  by_cases h0 : (m : Int) - (l.length : Int) < 0
  · go_enter Tryd.func4, Tryd.ntmps4
    go_wp2
    go_ret
    exact ⟨-1, rfl, rfl, .inl (by omega)⟩
  · go_enter Tryd.func4, Tryd.ntmps4
    go_wp2
    go_loopw [1, 5] (fun y x wr => ∃ (k : Nat) (q : Int), x = .int .i64 (k : Int) ∧ y = .int .i64 q ∧ 0 ≤ q ∧ q ≤ (m : Int) ∧ k ≤ l.length ∧ wr = w ∧ Hid (∀ i, i < k → (nthS l i).size ≤ 1048576)) (fun _ x _ => l.length - (intOf x).toNat)
    case atStart => exact ⟨0, (m : Int) - (l.length : Int), rfl, by go_num, by omega, by omega, by omega, rfl, hide (fun i hi => by omega)⟩
    case round =>
      obtain ⟨k, q, rfl, rfl, hq0, hq1, hk, rfl, HK⟩ := hrel
      by_cases hlt : k < l.length
      · obtain ⟨b, off, cp, he, hbw, hc⟩ := strs_rd (unhide HV) (by omega)
        cases he
        have kc := hc k hlt
        have h1 := (unhide HS) k hlt
        obtain ⟨y, hy⟩ : ∃ y, nthS l k = y := ⟨_, rfl⟩
        rw [hy] at kc h1
        have HY := hide hy
        clear hc hy
        by_cases hn : q - (y.size : Int) < 0
        · go_wp2
          go_ret
          exact ⟨-1, rfl, rfl, .inl (by omega)⟩
        · have HK2 : Hid (∀ i, i < k + 1 → (nthS l i).size ≤ 1048576) := hide (fun i hi => by
            by_cases e : i = k
            · subst e; rw [unhide HY]; omega
            · exact (unhide HK) i (by omega))
          go_wp2
          go_roundw
          case rel => exact ⟨k + 1, q - (y.size : Int), by go_num, by go_num, by omega, by omega, by omega, by first | exact rfl | trivial, HK2⟩
          case measure => simp [intOf]; omega
      · obtain rfl : k = l.length := by omega
        go_wp2
        go_ret
        exact ⟨q, rfl, rfl, .inr ⟨hq0, hq1, by omega, unhide HK⟩⟩
def fillX (l : List ByteArray) (k : Nat) : List ByteArray := l.take k ++ List.replicate (l.length - k) ⟨#[]⟩
theorem fillX_zero (l : List ByteArray) : fillX l 0 = List.replicate l.length ⟨#[]⟩ := by simp [fillX]
theorem fillX_all (l : List ByteArray) : fillX l l.length = l := by simp [fillX]
theorem fillX_set (l : List ByteArray) (k : Nat) (h : k < l.length) (f : ByteArray → Value) : ((fillX l k).map f).set k (f (nthS l k)) = (fillX l (k + 1)).map f := by
  rw [← List.map_set]
  congr 1
  unfold fillX
  have hk : (l.take k).length = k := by simp; omega
  have e1 : l.length - k = (l.length - (k + 1)) + 1 := by omega
  rw [e1, List.replicate_succ, List.set_append_right _ _ (by omega), hk, Nat.sub_self, List.set_cons_zero, List.take_succ_eq_append_getElem h]
  have e2 : nthS l k = l[k] := by simp [nthS, List.getD, h]
  rw [e2, List.append_assoc]
  rfl
theorem fillX_length (l : List ByteArray) (k : Nat) (h : k ≤ l.length) : (fillX l k).length = l.length := by simp [fillX]; omega
theorem madeX {w1 : World} {B : Nat} {v : Value} {l : List ByteArray} (h : w1.ownsRow B 9 1 v l.length (madeCells #[Value.string ⟨#[]⟩] l.length).toList) : w1.ownsRow B 9 1 v l.length ((fillX l 0).map Value.string) := by
  have e : (madeCells #[Value.string ⟨#[]⟩] l.length).toList = (fillX l 0).map Value.string := by
    rw [fillX_zero, List.map_replicate]
    exact toList_madeCells_one _ _
  rw [← e]; exact h
set_option maxRecDepth 100000 in
set_option maxHeartbeats 2000000 in
theorem toStrs_any (v : Value) (l : List ByteArray) (w : World) (hv : StrsAt w v l) (hl : l.length ≤ 1048576) :
    Calls Tryd.prog 6 #[v] w fun e w' => e = .returned (.slice (some ⟨w.heap.size, 0, none⟩) l.length l.length) ∧
      w'.ownsRow w.heap.size 9 1 (.slice (some ⟨w.heap.size, 0, none⟩) l.length l.length) l.length (l.map Value.string) ∧ Below w.heap.size w w' := by
  obtain ⟨i0, hi, hz0, hz1, hz2⟩ := info_parts info9
  have HV := hide hv
  obtain ⟨a, cap, rfl, _⟩ := hv
  go_enter Tryd.func6, Tryd.ntmps6
  go_wp2_with (at_make; refine wpList_make_full _ rfl _ _ 22 rfl w.heap.size 9 i0 (.string ⟨#[]⟩) 1 Tryd.underlying22 hi hz0 hz1 .i64 .i64 _ _ l.length rfl rfl rfl rfl (by rw [hz2]; omega) (by unfold maxLen; omega) (by omega) ?_)
  intro w1 hown hgrow
  have H1 := hide (madeX hown)
  have hb1 := hide (made_below hgrow)
  clear hown hgrow
  go_wp2
  go_loopw [4] (fun i wr => ∃ k : Nat, k ≤ l.length ∧ i = .int .i64 k ∧ Hid (wr.ownsRow w.heap.size 9 1 (.slice (some ⟨w.heap.size, 0, none⟩) l.length l.length) l.length ((fillX l k).map Value.string)) ∧ Hid (Below w.heap.size w wr)) (fun i _ => l.length - (intOf i).toNat)
  case atStart => exact ⟨0, Nat.zero_le _, rfl, H1, hb1⟩
  case round =>
    obtain ⟨k, hk, rfl, HO, HB⟩ := hrel
    by_cases hlt : k < l.length
    · obtain ⟨b, off, cp, he, hbs, hc⟩ := strs_rd (unhide HV) (by omega)
      cases he
      have c1 := ((unhide HB).cell (p := ⟨b, off + k, none⟩) hbs).trans (hc k hlt)
      have c2 := (unhide HO).cellAt k (by omega)
      rw [List.getElem?_eq_getElem (by simp [fillX_length l k hk]; omega)] at c2
      have c3 := (unhide HO).frozenAt k
      have hst := (unhide HO).stored k (.string (nthS l k))
      rw [fillX_set l k hlt] at hst
      have HO' := hide hst.1
      have HB' := hide ((unhide HB).setCell (p := ⟨w.heap.size, k, none⟩) (Nat.le_refl _) (.string (nthS l k)))
      clear hst hc
      go_wp2
      go_roundw
      case rel => exact ⟨k + 1, by omega, by go_num, HO', HB'⟩
      case measure => simp [intOf]; omega
    · obtain rfl : k = l.length := by omega
      go_wp2
      go_ret
      have ho := unhide HO
      rw [fillX_all] at ho
      exact ⟨rfl, ho, unhide HB⟩
end Go.Proofs.YtnmlfgnnhhaeoaaDoor
