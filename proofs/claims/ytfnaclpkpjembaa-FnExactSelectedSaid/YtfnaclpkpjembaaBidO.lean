/- The order of levels, as the program tells it. -/
import Derived.Test.YtfnaclpkpjembaaBidJ
namespace Go.Proofs.Ytfnaclpkpjembaa.Bd
open Go.RowKit
set_option linter.unusedVariables false
theorem own_base {w : World} {B' B : Nat} {e : TypeId} {s : Nat} {v : Value} {n : Nat} {xs : List Value} (h : w.ownsRow B' e s v n xs) (hB : B ≤ B') : w.ownsRow B e s v n xs := by
  refine ⟨h.1, ?_⟩
  rcases h.2 with hn | ⟨g, cap, cur, rfl, hb, rest⟩
  · exact .inl hn
  · exact .inr ⟨g, cap, cur, rfl, Nat.le_trans hB hb, rest⟩
/-- Two rows lie in two blocks. -/
def Apart (vi vd : Value) : Prop := ∀ k, vi.ownBlock = some k → vd.ownBlock = some k → False
theorem ord0_at (L : List Int) (k : Nat) (hk : k < L.length) : nth (ordK L 0) k = (k : Int) := nth_map _ _ _ hk
set_option maxHeartbeats 1000000 in
set_option maxRecDepth 100000 in
theorem implOrder (v : Value) (L : List Int) (w : World) (h : IntsAt w v L) (hl : L.length ≤ 1048576) :
    Calls Try.prog 9 #[v] w fun e w' => ∃ sv, e = .returned sv ∧ w'.ownsRow w.heap.size 2 1 sv (ordA L).length ((ordA L).map (Value.int .i64)) ∧ Below w.heap.size w w' := by
  have AL := hide (areLevels_any v L w h hl)
  have HV : Hid (∀ wr, Below w.heap.size w wr → IntsAt wr v L) := hide (fun wr hb => h.below hb)
  obtain ⟨va, vc, rfl, _⟩ := h
  cases hok : okL L
  · have R : Hid (ordA L = []) := hide (by unfold ordA; rw [hok]; rfl)
    go_enter Try.func9, Try.ntmps9
    go_wp2_with fail
    refine (unhide AL).mono ?_
    rintro e w1 ⟨rfl, hb⟩
    rw [hok]
    have HB := hide hb
    clear hb
    go_wp2
    go_ret
    refine ⟨_, rfl, ?_, unhide HB⟩
    rw [unhide R]
    exact World.ownsRow_nil _ _ _ _
  have R : Hid (ordA L = ordK L 20) := hide (by unfold ordA; rw [hok]; rfl)
  have hs : L.length ≤ 1000 := ((okL_iff L).1 hok).1
  obtain ⟨i0, hi, hz0, hz1, hz2⟩ := info_parts info2
  go_enter Try.func9, Try.ntmps9
  go_wp2_with fail
  refine (unhide AL).mono ?_
  rintro e w0 ⟨rfl, hb⟩
  rw [hok]
  have HB0 := hide hb
  clear hb AL
  go_wp2_with (at_make; refine wpList_make_full _ rfl _ _ 22 rfl w0.heap.size 2 i0 (.int .i64 0) 1 Try.underlying22 hi hz0 hz1 .i64 .i64 _ _ L.length rfl rfl rfl rfl ?b2 ?b3 ?b4 ?_)
  case b2 => rw [hz2]; omega
  case b3 => unfold maxLen; omega
  case b4 => omega
  intro w1 hown hgrow
  have hlen : (ordK L 0).length = L.length := ordK_len L 0
  have H1 : Hid (Rw w1 w1 w0.heap.size w0.heap.size L.length L.length (fill (ordK L 0) 0)) := hide (by
    have := made_owned (l := ordK L 0) (w1 := w1) (B := w0.heap.size) (v := .slice (some ⟨w0.heap.size, 0, none⟩) L.length L.length) (by rw [hlen]; exact hown)
    rw [hlen] at this
    exact ⟨this, grown_refl _ _⟩)
  have HB1 : Hid (Below w.heap.size w w1) := hide ((unhide HB0).trans ((made_below hgrow).mono (unhide HB0).size))
  have z0 := (unhide HB0).size
  have z1 : w.heap.size ≤ w1.heap.size := (unhide HB1).size
  have HLEN := hide hlen
  clear hown hgrow hlen hi hz0 hz1 hz2 HB0
  generalize w0.heap.size = g at *
  go_wp2
  go_loopw [14] (fun i wr => ∃ k : Nat, k ≤ L.length ∧ i = .int .i64 k ∧ Hid (Rw w1 wr g g L.length L.length (fill (ordK L 0) k))) (fun i _ => L.length - (intOf i).toNat)
  case atStart => exact ⟨0, Nat.zero_le _, rfl, H1⟩
  case round =>
    obtain ⟨k, hk, rfl, HO⟩ := hrel
    clear H1
    by_cases hlt : k < L.length
    · have hlt' : (k : Int) < (L.length : Int) := by omega
      have c1 := (unhide HO).cell k hlt
      have c2 := (unhide HO).frozen k
      have HO' : Hid (Rw w1 (wr.setCell ⟨g, k, none⟩ (.int .i64 k)) g g L.length L.length (fill (ordK L 0) (k + 1))) := hide (by
        have e := fill_set (ordK L 0) k (by rw [unhide HLEN]; exact hlt) (Value.int .i64)
        rw [ord0_at L k hlt] at e
        refine ⟨?_, grown_set (unhide HO).gr⟩
        rw [← e]
        exact ((unhide HO).ow.stored k (.int .i64 k)).1)
      generalize nth (fill (ordK L 0) k) k = x at *
      clear HO
      go_wp2
      go_roundw
      case rel => exact ⟨k + 1, by omega, by go_num, HO'⟩
      case measure => simp [intOf]; omega
    · obtain rfl : k = L.length := by omega
      have H2 : Hid (Rw w1 wr g g L.length L.length (ordK L 0)) := hide (by
        have := unhide HO
        rw [← unhide HLEN, fill_all, unhide HLEN] at this
        exact this)
      clear HO
      go_wp2
      go_loopw [5] (fun i wq => ∃ j : Nat, j ≤ 20 ∧ i = .int .i64 (20 - (j : Int)) ∧ Hid (Rw w1 wq g g L.length L.length (ordK L j))) (fun i _ => (intOf i).toNat)
      case atStart => exact ⟨0, Nat.zero_le _, rfl, H2⟩
      case round =>
        obtain ⟨j, hj, rfl, HO⟩ := hrel
        clear H2
        by_cases hlt2 : j < 20
        · have hp : (0 : Int) < 20 - (j : Int) := by omega
          go_wp2_with fail
          refine (turnRows_any w1 _ w.heap.size g g L.length L.length (.slice va L.length vc) L (ordK L j) (20 - (j : Int)) rfl hl z0 z1 (fun wx hb => unhide HV wx ((unhide HB1).trans hb)) (unhide HO)).mono ?_
          rintro e w5 ⟨rfl, hR⟩
          have HO' : Hid (Rw w1 w5 g g L.length L.length (ordK L (j + 1))) := hide hR
          clear hR HO
          go_wp2
          go_roundw
          case rel => exact ⟨j + 1, by omega, by go_num, HO'⟩
          case measure => simp [intOf]; omega
        · obtain rfl : j = 20 := by omega
          go_wp2
          go_ret
          refine ⟨_, rfl, ?_, (unhide HB1).trans (grown_below (unhide HO).gr z0 z1)⟩
          rw [unhide R, ordK_len]
          have := (unhide HO).ow
          exact own_base this z0
end Go.Proofs.Ytfnaclpkpjembaa.Bd
