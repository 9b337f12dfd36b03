/- Levels that can be; a row turned round in its place; the order, as the program tells it. -/
import Derived.Test.YtfnaclpkpjembaaBidP
import Derived.Test.YtfnaclpkpjembaaMrkI
import Derived.Shelf.RegionOpenPlain
namespace Go.Proofs.Ytfnaclpkpjembaa.Bd
open Go.RowKit
set_option linter.unusedVariables false
set_option maxHeartbeats 1000000 in
theorem l09Right_any (v : Value) (L : List Int) (w : World) (h : IntsAt w v L) (hl : L.length ≤ 1048576) :
    Calls Try.prog 22 #[v] w fun e w' => e = .returned (.bool (okL L)) ∧ Below w.heap.size w w' := by
  obtain ⟨a, cap, rfl, h⟩ := h
  have HC : Hid (∀ k, k < L.length → ∃ b off, a = some ⟨b, off, none⟩ ∧ b < w.heap.size ∧ w.cell? ⟨b, off + k, none⟩ = some (.int .i64 (nth L k))) := hide (fun k hk => by
    rcases h with rfl | ⟨b, off, rfl, hb, hc⟩
    · simp at hk
    · exact ⟨b, off, rfl, hb, hc k hk⟩)
  clear h
  go_enter Try.func22, Try.ntmps22
  go_wp2
  go_loopw [3] (fun i wr => ∃ k : Nat, k ≤ L.length ∧ i = .int .i64 k ∧ Hid (∀ j, j < k → ¬ (nth L j < 0) ∧ ¬ (20 < nth L j)) ∧ Hid (Below w.heap.size w wr)) (fun i _ => L.length - (intOf i).toNat)
  case atStart => exact ⟨0, Nat.zero_le _, rfl, hide (fun j hj => by omega), hide (Below.refl _ _)⟩
  case round =>
    obtain ⟨k, hk, rfl, HG, HB⟩ := hrel
    by_cases hlt : k < L.length
    · obtain ⟨b, off, rfl, hb, hc⟩ := unhide HC k hlt
      have c1 := ((unhide HB).cell (p := ⟨b, off + k, none⟩) hb).trans hc
      clear hc
      have hlt' : (k : Int) < (L.length : Int) := by omega
      by_cases t1 : nth L k < 0
      · have R := hide (okL_bad hlt (.inl t1))
        go_wp2
        go_ret
        rw [unhide R]
        exact ⟨rfl, unhide HB⟩
      · by_cases t2 : 20 < nth L k
        · have R := hide (okL_bad hlt (.inr t2))
          go_wp2
          go_ret
          rw [unhide R]
          exact ⟨rfl, unhide HB⟩
        · have HG' : Hid (∀ j, j < k + 1 → ¬ (nth L j < 0) ∧ ¬ (20 < nth L j)) := hide (fun j hj => by
            by_cases e : j = k
            · subst e; exact ⟨t1, t2⟩
            · exact unhide HG j (by omega))
          go_wp2
          go_roundw
          case rel => exact ⟨k + 1, by omega, by go_num, HG', HB⟩
          case measure => simp [intOf]; omega
    · obtain rfl : k = L.length := by omega
      by_cases hs : L.length ≤ 1000
      · have R := hide (okL_good hs (unhide HG))
        have hs' : (L.length : Int) ≤ 1000 := by omega
        go_wp2
        go_ret
        rw [unhide R]
        exact ⟨rfl, unhide HB⟩
      · have R := hide (okL_long (L := L) (by omega))
        have hs' : ¬ (L.length : Int) ≤ 1000 := by omega
        go_wp2
        go_ret
        rw [unhide R]
        exact ⟨rfl, unhide HB⟩
set_option maxHeartbeats 1000000 in
theorem areLevels_any (v : Value) (L : List Int) (w : World) (h : IntsAt w v L) (hl : L.length ≤ 1048576) :
    Calls Try.prog 24 #[v] w fun e w' => e = .returned (.bool (okL L)) ∧ Below w.heap.size w w' := by
  obtain ⟨a, cap, rfl, h⟩ := h
  have HC : Hid (∀ k, k < L.length → ∃ b off, a = some ⟨b, off, none⟩ ∧ b < w.heap.size ∧ w.cell? ⟨b, off + k, none⟩ = some (.int .i64 (nth L k))) := hide (fun k hk => by
    rcases h with rfl | ⟨b, off, rfl, hb, hc⟩
    · simp at hk
    · exact ⟨b, off, rfl, hb, hc k hk⟩)
  clear h
  by_cases hs : 1000 < L.length
  · have R := hide (okL_long hs)
    have hs' : (1000 : Int) < (L.length : Int) := by omega
    go_enter Try.func24, Try.ntmps24
    go_wp2
    go_ret
    rw [unhide R]
    exact ⟨rfl, Below.refl _ _⟩
  have hs' : ¬ (1000 : Int) < (L.length : Int) := by omega
  go_enter Try.func24, Try.ntmps24
  go_wp2
  go_loopw [10] (fun i wr => ∃ k : Nat, k ≤ L.length ∧ i = .int .i64 k ∧ Hid (∀ j, j < k → ¬ (nth L j < 0) ∧ ¬ (20 < nth L j)) ∧ Hid (Below w.heap.size w wr)) (fun i _ => L.length - (intOf i).toNat)
  case atStart => exact ⟨0, Nat.zero_le _, rfl, hide (fun j hj => by omega), hide (Below.refl _ _)⟩
  case round =>
    obtain ⟨k, hk, rfl, HG, HB⟩ := hrel
    by_cases hlt : k < L.length
    · obtain ⟨b, off, rfl, hb, hc⟩ := unhide HC k hlt
      have c1 := ((unhide HB).cell (p := ⟨b, off + k, none⟩) hb).trans hc
      clear hc
      have hlt' : (k : Int) < (L.length : Int) := by omega
      by_cases t1 : nth L k < 0
      · have R := hide (okL_bad hlt (.inl t1))
        go_wp2
        go_ret
        rw [unhide R]
        exact ⟨rfl, unhide HB⟩
      · by_cases t2 : 20 < nth L k
        · have R := hide (okL_bad hlt (.inr t2))
          go_wp2
          go_ret
          rw [unhide R]
          exact ⟨rfl, unhide HB⟩
        · have HG' : Hid (∀ j, j < k + 1 → ¬ (nth L j < 0) ∧ ¬ (20 < nth L j)) := hide (fun j hj => by
            by_cases e : j = k
            · subst e; exact ⟨t1, t2⟩
            · exact unhide HG j (by omega))
          go_wp2
          go_roundw
          case rel => exact ⟨k + 1, by omega, by go_num, HG', HB⟩
          case measure => simp [intOf]; omega
    · obtain rfl : k = L.length := by omega
      have R := hide (okL_good (by omega) (unhide HG))
      go_wp2
      go_ret
      rw [unhide R]
      exact ⟨rfl, unhide HB⟩
/-- A row of numbers of the call's own at the block g; nothing else has changed. -/
structure Rw (w0 w : World) (B g n cap : Nat) (O : List Int) : Prop where
  ow : w.ownsRow B 2 1 (.slice (some ⟨g, 0, none⟩) n cap) n (O.map (Value.int .i64))
  gr : w0.grownBy w (some g)
theorem Rw.len {w0 w : World} {B g n cap : Nat} {O : List Int} (h : Rw w0 w B g n cap O) : O.length = n := by have := h.ow.1; simpa using this
theorem Rw.cell {w0 w : World} {B g n cap : Nat} {O : List Int} (h : Rw w0 w B g n cap O) (i : Nat) (hi : i < n) : w.cell? ⟨g, i, none⟩ = some (.int .i64 (nth O i)) := by
  have c := h.ow.cellAt i (by omega)
  have e := h.len
  rw [c, List.getElem?_map]
  simp [nth, List.getD, e, hi]
theorem Rw.frozen {w0 w : World} {B g n cap : Nat} {O : List Int} (h : Rw w0 w B g n cap O) (i : Nat) : w.frozen? ⟨g, i, none⟩ = false := h.ow.frozenAt i
theorem Rw.set {w0 w : World} {B g n cap : Nat} {O : List Int} (h : Rw w0 w B g n cap O) (i : Nat) (x : Int) : Rw w0 (w.setCell ⟨g, i, none⟩ (.int .i64 x)) B g n cap (O.set i x) := by
  refine ⟨?_, grown_set h.gr⟩
  rw [List.map_set]
  exact (h.ow.stored i (.int .i64 x)).1
theorem Rw.drew {w0 w : World} {B g n cap : Nat} {O : List Int} (h : Rw w0 w B g n cap O) : Rw w0 w.drew B g n cap O :=
  ⟨ownsRow_at h.ow (fun _ _ => rfl), h.gr.trans ⟨rfl, rfl, rfl, Nat.le_refl _, fun _ _ _ => rfl⟩⟩
theorem Rw.self {w0 w : World} {B g n cap : Nat} {O : List Int} (h : Rw w0 w B g n cap O) : Rw w w B g n cap O := ⟨h.ow, grown_refl _ _⟩
theorem Rw.trans {w0 w w' : World} {B g n cap : Nat} {O P : List Int} (h : Rw w0 w B g n cap O) (k : Rw w w' B g n cap P) : Rw w0 w' B g n cap P := ⟨k.ow, h.gr.trans k.gr⟩
theorem mixedB : Try.prog.follows Departure.mixedOrders = true := by kernel_rfl
set_option maxHeartbeats 2000000 in
set_option maxRecDepth 100000 in
theorem reverse_any (w0 w : World) (B g n cap c' a b m : Nat) (O : List Int) (hab : a + m = b) (hb : b ≤ n) (hn : n ≤ 1048576) (h : Rw w0 w B g n cap O) :
    Calls Try.prog 32 #[.slice (some ⟨g, a, none⟩) m c'] w fun e w' => e = .returned (.tuple #[]) ∧ Rw w0 w' B g n cap (rv O a b) := by
  have H0 : Hid (Rw w0 w B g n cap (rvp O a b 0)) := hide (by rw [rvp_zero]; exact h)
  have HL : Hid (O.length = n) := hide h.len
  clear h
  go_enter Try.func32, Try.ntmps32
  go_wp2
  go_loopw [2, 3] (fun iv jv wr => ∃ s : Nat, (s + s ≤ m ∨ s = 0) ∧ iv = .int .i64 s ∧ jv = .int .i64 ((m : Int) - 1 - s) ∧ Hid (Rw w0 wr B g n cap (rvp O a b s))) (fun iv _ _ => m - (intOf iv).toNat)
  case atStart => exact ⟨0, .inr rfl, rfl, by go_num, H0⟩
  case round =>
    obtain ⟨s, hs, rfl, rfl, SI⟩ := hrel
    clear H0
    by_cases hlt : a + s + s + 1 < b
    · have hlt' : (s : Int) < (m : Int) - 1 - s := by omega
      have hL := unhide HL
      obtain ⟨p, hp⟩ : ∃ p : Nat, p = a + s := ⟨_, rfl⟩
      obtain ⟨q, hq⟩ : ∃ q : Nat, q = b - 1 - s := ⟨_, rfl⟩
      have ca := (unhide SI).cell p (by omega)
      have cb := (unhide SI).cell q (by omega)
      rw [hp, rvp_lo _ _ _ _ hlt (by omega), ← hp] at ca
      rw [hq, rvp_hi _ _ _ _ hlt (by omega), ← hq] at cb
      have fa := (unhide SI).frozen p
      have fb := (unhide SI).frozen q
      have s1 := (unhide SI).set p (nth O q)
      have cc := s1.cell q (by omega)
      have s2 := (s1.set q (nth O p)).drew
      rw [hp, hq, rvp_step _ _ _ _ hlt (by omega), ← hp, ← hq] at s2
      have S2 := hide s2
      clear s1 s2 SI
      generalize nth (List.set (rvp O a b s) p (nth O q)) q = u at *
      generalize nth O p = x at *
      generalize nth O q = y at *
      have pb : (0 : Int) ≤ (m : Int) - 1 - s := by omega
      have bb : (m : Int) - 1 - s < (m : Int) := by omega
      have ba : (s : Int) < (m : Int) := by omega
      subst hp
      obtain rfl : q = a + (m - 1 - s) := by omega
      clear hq
      have mixed := mixedB
      go_wp2_with fail
      go_big_region_o
      clear mixed
      clear ca cb cc fa fb
      go_wp2
      go_roundw
      case rel => exact ⟨s + 1, by omega, by go_num, by go_num, S2⟩
      case measure => simp [intOf]; omega
    · have hge : ¬ (s : Int) < (m : Int) - 1 - s := by omega
      go_wp2
      go_end0
      have R := unhide SI
      rw [rvp_done _ _ _ _ hlt (by omega)] at R
      exact ⟨rfl, R⟩
end Go.Proofs.Ytfnaclpkpjembaa.Bd
