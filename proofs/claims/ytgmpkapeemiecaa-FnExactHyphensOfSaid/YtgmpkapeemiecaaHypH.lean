/- A tree of patterns, as the program makes it; whether they are right. -/
import Derived.Test.YtgmpkapeemiecaaHypA
import Derived.Test.YtgmpkapeemiecaaHypF
import Derived.Test.YtgmpkapeemiecaaHypI
namespace Go.Proofs.Ytgmpkapeemiecaa
namespace Hyp
open Go.RowKit
set_option linter.unusedVariables false
set_option linter.unusedSimpArgs false
theorem tr_root (w : World) : Tr w.heap.size (w.alloc (.cells zN 56)) (fun p => if p = [] then some (w.heap.size, none) else none) := by
  refine ⟨fun p k c => ?_, fun p x c => ?_, fun p b g L c => ?_, fun p q x y c1 c2 _ => ?_, fun p q b b' g L L' c1 c2 => ?_⟩
  · rw [if_neg (by simp)] at c
    exact absurd rfl c
  · by_cases e : p = []
    · rw [if_pos e] at c
      obtain rfl := Option.some.inj c
      refine ⟨Nat.le_refl _, (zN_new w).val fun k hk => ?_⟩
      unfold chV
      simp only [List.append_eq_nil_iff, List.cons_ne_self, and_false, if_false, reduceCtorEq, Option.map_none]
    · rw [if_neg e] at c
      cases c
  · by_cases e : p = []
    · rw [if_pos e] at c
      injection c with c
      injection c with _ c
      cases c
    · rw [if_neg e] at c
      cases c
  · have f : ∀ (q : List Nat) (z : Nd), (if q = [] then some ((w.heap.size, none) : Nd) else none) = some z → q = [] := fun q z c => by
      by_cases e : q = []
      · exact e
      · rw [if_neg e] at c; cases c
    rw [f p x c1, f q y c2]
  · have f : ∀ (q : List Nat) (z : Nd), (if q = [] then some ((w.heap.size, none) : Nd) else none) = some z → q = [] := fun q z c => by
      by_cases e : q = []
      · exact e
      · rw [if_neg e] at c; cases c
    rw [f p _ c1, f q _ c2]
theorem own_cells {w : World} {B h n c : Nat} {L : List Int} (ho : w.ownsRow B 5 1 (.slice (some ⟨h, 0, none⟩) n c) n (u8s L)) (j : Nat) (hj : j < L.length) : w.cell? ⟨h, 0 + j, none⟩ = some (.int .u8 (L.getD j 0)) := by
  have h1 : (u8s L).length = L.length := by simp [u8s]
  have h2 : (u8s L).length = n := by simpa using ho.1
  have := ho.cellAt j (by omega)
  rw [Nat.zero_add, this]
  simp [u8s, List.getD_eq_getElem?_getD, hj]
/-- The digits of the first i patterns, by their letters. -/
def dgs (P : List ByteArray) : Nat → List Nat → Option (List Int)
  | 0 => fun _ => none
  | i + 1 => match pat (nthS P i) with
    | some s => put (dgs P i) (s.L.map kd) (s.D ++ [s.d])
    | none => dgs P i
theorem dgs_next {P : List ByteArray} {i : Nat} {s : St} (h : pat (nthS P i) = some s) : dgs P (i + 1) = put (dgs P i) (s.L.map kd) (s.D ++ [s.d]) := by
  rw [dgs, h]
theorem dgs_root (b : Nat) : dgA (fun p => if p = [] then some ((b, none) : Nd) else none) = fun _ => none := by
  funext q
  unfold dgA
  by_cases e : q = []
  · simp [e]
  · simp [e]
set_option maxRecDepth 100000 in
set_option maxHeartbeats 1000000 in
theorem treeI_at (b off cap : Nat) (P : List ByteArray) (w : World) (hb : b < w.heap.size) (hc : ∀ i, i < P.length → w.cell? ⟨b, off + i, none⟩ = some (.string (nthS P i))) (hz : ∀ i, i < P.length → (nthS P i).size ≤ 1048576) (hP : P.length ≤ 1000) :
    Calls Try.prog 23 #[.slice (some ⟨b, off, none⟩) P.length cap] w fun e w' => (∃ p, e = .returned (.tuple #[.pointer p, .bool (gd P P.length)]) ∧ (gd P P.length = true → ∃ b0 A d, p = some ⟨b0, 0, none⟩ ∧ Tr w.heap.size w' A ∧ A [] = some (b0, d) ∧ dgA A = dgs P P.length)) ∧ Below w.heap.size w w' := by
  have hPI : ¬ (1000 : Int) < (P.length : Int) := by omega
  have HC := hide hc
  have CP := hide (fun i (hi : i < P.length) W => patI (nthS P i) (hz i hi) W)
  have HBAD := hide (fun k (hk : k < P.length) => gd_bad (P := P) hk)
  clear hc hz
  have NO : Hid (∀ W, gd P P.length = false → Below w.heap.size w W → (∃ p, Ending.returned (.tuple #[.pointer none, .bool false]) = .returned (.tuple #[.pointer p, .bool (gd P P.length)]) ∧ (gd P P.length = true → ∃ b0 A d, p = some ⟨b0, 0, none⟩ ∧ Tr w.heap.size W A ∧ A [] = some (b0, d) ∧ dgA A = dgs P P.length)) ∧ Below w.heap.size w W) := hide (fun W h hb => ⟨⟨none, by rw [h], fun h2 => by rw [h] at h2; cases h2⟩, hb⟩)
  have T0 := hide (tr_root w)
  have B0 : Hid (Below w.heap.size w (w.alloc (.cells zN 56))) := hide ((Below.refl _ _).alloc (Nat.le_refl _) _)
  unfold zN at T0 B0
  go_enter Try.func23, Try.ntmps23
  go_wp2_with fail
  go_loopw [2, 15] (fun v2 v15 wr => ∃ (i : Nat) (A : Mp) (d : Option (Nat × List Int)), i ≤ P.length ∧ v2 = .pointer (some ⟨w.heap.size, 0, none⟩) ∧ v15 = .int .i64 (i : Int) ∧ Hid (gd P i = true) ∧ Hid (Tr w.heap.size wr A) ∧ Hid (A [] = some (w.heap.size, d)) ∧ Hid (Below w.heap.size w wr) ∧ Hid (dgA A = dgs P i)) (fun _ x _ => P.length - (intOf x).toNat)
  case atStart => exact ⟨0, _, none, by omega, rfl, rfl, hide rfl, T0, hide (if_pos rfl), B0, hide (dgs_root _)⟩
  case round =>
    obtain ⟨i, A, d, hi, rfl, rfl, HG, HT, HA, HB, HDG⟩ := hrel
    by_cases hlt : i < P.length
    · have hI : (i : Int) < (P.length : Int) := by omega
      have c1 := ((unhide HB).cell (p := ⟨b, off + i, none⟩) hb).trans ((unhide HC) i hlt)
      have CPi := hide (fun W => (unhide CP) i hlt W)
      have hbz := (unhide HB).size
      have HNX := hide (fun h => gd_next (P := P) (unhide HG) h)
      have HBD := hide ((unhide HBAD) i hlt)
      have HC0 := hide (fun (h0 : i ≠ 0) => ((unhide HB).cell (p := ⟨b, off + (i - 1), none⟩) hb).trans ((unhide HC) (i - 1) (by omega)))
      have HDN := hide (fun (s : St) (h : pat (nthS P i) = some s) => (dgs_next h).trans (by rw [← unhide HDG]))
      generalize hX : nthS P i = X at *
      go_upto_region 8 with (go_at_call 32; refine ((unhide CPi) _).mono ?_; rintro e w2 ⟨⟨Xs, va, vn, vc, rfl, hpt⟩, hb2⟩; have B2 := hide hb2; have PT := hide hpt; clear hb2 hpt)
      obtain ⟨w3, hw3⟩ : ∃ w3, w3 = w2.alloc (.cells #[.string Xs, .slice va vn vc] 58) := ⟨_, rfl⟩
      have P3 : Hid (PBox w3 w2.heap.size Xs (.slice va vn vc)) := hide (by rw [hw3]; exact heap_alloc_new _ _)
      have b23 : Below w2.heap.size w2 w3 := by rw [hw3]; exact (Below.refl _ _).alloc (Nat.le_refl _) _
      have brs := (unhide B2).size
      have br3 : Hid (Below wr.heap.size wr w3) := hide ((unhide B2).trans (b23.mono brs))
      have bw3 : Hid (Below w.heap.size w w3) := hide ((unhide HB).trans ((unhide br3).mono hbz))
      have T3 := hide ((unhide HT).below (unhide br3))
      try rw [← hw3]
      clear hw3
      obtain ⟨g0, g1, gf⟩ := (unhide P3).cells
      cases hr : right X
      · have HR : Hid (gd P P.length = false) := hide ((unhide HBD) (by rw [hr]; rfl))
        clear HBD HNX
        go_wp2_with fail
        go_ret2
        exact (unhide NO) _ (unhide HR) (unhide bw3)
      · by_cases h0 : i = 0
        · have h0I : ¬ (0 : Int) < (i : Int) := by omega
          have h0d : decide (0 < i) = false := by simp; omega
          have HN := hide ((unhide HNX) (by rw [h0, hr]; rfl))
          clear HBD HNX h0 HC0
          obtain ⟨s, hs⟩ : ∃ s, pat X = some s := Option.isSome_iff_exists.1 (show (pat X).isSome = true from hr)
          have HPS := hs
          obtain ⟨hXs, ho⟩ := (unhide PT) hr s hs
          obtain ⟨hpr, hok⟩ := pat_pr hs
          have o := pr_ok hpr
          obtain ⟨a9, c9, e9, hb9⟩ := row_frm ho
          injection e9 with e9 e10 e11
          obtain ⟨h, eh, hBh⟩ := hb9 (by omega)
          subst e9
          subst eh
          subst e10
          subst e11
          subst hXs
          have hDl : (s.D ++ [s.d]).length = s.L.length + 1 := by simp [o.len]
          have hDn : (s.D ++ [s.d]).length = s.D.length + 1 := by simp
          have hhl : h < w2.heap.size := (ho.lt h rfl).2
          have hL20 : s.L.length ≤ 20 := by
            unfold okP at hok
            simp only [Bool.and_eq_true, decide_eq_true_eq] at hok
            exact hok.2.2.1
          have hNb : Nb A h := fun p y e => by
            have hl1 := ((unhide HT).node p y e).2.lt
            refine ⟨by omega, fun g L e2 => ?_⟩
            obtain ⟨yb, yd⟩ := y
            simp only at e2
            subst e2
            have := (unhide HT).dlt e
            omega
          have CA := hide (addH A w.heap.size w.heap.size d w3 (unhide T3) (unhide HA) (by have := (unhide bw3).size; omega) s.L (s.D ++ [s.d]) o.lt hDl hL20 h vc (by have := b23.size; omega) (fun j hj => (b23.cell (p := ⟨h, 0 + j, none⟩) hhl).trans (own_cells ho j hj)) hNb (by omega))
          rw [hDn] at CA
          have HN2 := HN
          clear ho hpr hok o hDl hDn hNb PT hs
          go_wp2_with (go_at_call 33; refine (unhide CA).mono ?_; rintro e w4 ⟨⟨v, rfl⟩, ⟨A', d', hT', hA', hD'⟩, hb4⟩)
          go_round
          case rel => exact ⟨i + 1, A', d', by omega, rfl, by go_num, HN2, hide hT', hide hA', hide ((unhide bw3).trans hb4), hide (hD'.trans ((unhide HDN) s HPS).symm)⟩
          case measure => simp [intOf]; omega
        · have h0I : (0 : Int) < (i : Int) := by omega
          have h0d : decide (0 < i) = true := by simp; omega
          have h0b : (i == 0) = false := by simpa using h0
          have hm1 : (i : Int) - 1 = ((i - 1 : Nat) : Int) := by omega
          have hm2 : ((i - 1 : Nat) : Int) < (P.length : Int) := by omega
          have hwi : IntKind.i64.wrap ((i - 1 : Nat) : Int) = ((i - 1 : Nat) : Int) := by simp [IntKind.wrap, IntKind.bits, IntKind.signed]; omega
          have d0 := ((unhide br3).cell (p := ⟨b, off + (i - 1), none⟩) (by show b < _; omega)).trans ((unhide HC0) h0)
          rw [h0b, hr] at HNX HBD
          clear HC0
          generalize nthS P (i - 1) = Z at *
          cases hq : Op.bytesLess Z.toList X.toList
          · have HR : Hid (gd P P.length = false) := hide ((unhide HBD) (by rw [hq]; rfl))
            clear HBD HNX
            go_wp2_with fail
            go_ret2
            exact (unhide NO) _ (unhide HR) (unhide bw3)
          · have HN := hide ((unhide HNX) (by rw [hq]; rfl))
            clear HBD HNX
            obtain ⟨s, hs⟩ : ∃ s, pat X = some s := Option.isSome_iff_exists.1 (show (pat X).isSome = true from hr)
            have HPS := hs
            obtain ⟨hXs, ho⟩ := (unhide PT) hr s hs
            obtain ⟨hpr, hok⟩ := pat_pr hs
            have o := pr_ok hpr
            obtain ⟨a9, c9, e9, hb9⟩ := row_frm ho
            injection e9 with e9 e10 e11
            obtain ⟨h, eh, hBh⟩ := hb9 (by omega)
            subst e9
            subst eh
            subst e10
            subst e11
            subst hXs
            have hDl : (s.D ++ [s.d]).length = s.L.length + 1 := by simp [o.len]
            have hDn : (s.D ++ [s.d]).length = s.D.length + 1 := by simp
            have hhl : h < w2.heap.size := (ho.lt h rfl).2
            have hL20 : s.L.length ≤ 20 := by
              unfold okP at hok
              simp only [Bool.and_eq_true, decide_eq_true_eq] at hok
              exact hok.2.2.1
            have hNb : Nb A h := fun p y e => by
              have hl1 := ((unhide HT).node p y e).2.lt
              refine ⟨by omega, fun g L e2 => ?_⟩
              obtain ⟨yb, yd⟩ := y
              simp only at e2
              subst e2
              have := (unhide HT).dlt e
              omega
            have CA := hide (addH A w.heap.size w.heap.size d w3 (unhide T3) (unhide HA) (by have := (unhide bw3).size; omega) s.L (s.D ++ [s.d]) o.lt hDl hL20 h vc (by have := b23.size; omega) (fun j hj => (b23.cell (p := ⟨h, 0 + j, none⟩) hhl).trans (own_cells ho j hj)) hNb (by omega))
            rw [hDn] at CA
            have HN2 := HN
            clear ho hpr hok o hDl hDn hNb PT hs
            go_wp2_with (go_at_call 33; refine (unhide CA).mono ?_; rintro e w4 ⟨⟨v, rfl⟩, ⟨A', d', hT', hA', hD'⟩, hb4⟩)
            go_round
            case rel => exact ⟨i + 1, A', d', by omega, rfl, by go_num, HN2, hide hT', hide hA', hide ((unhide bw3).trans hb4), hide (hD'.trans ((unhide HDN) s HPS).symm)⟩
            case measure => simp [intOf]; omega
    · obtain rfl : i = P.length := by omega
      have HR : Hid (gd P P.length = true) := hide (unhide HG)
      go_wp2_with fail
      go_ret2
      exact ⟨⟨some ⟨w.heap.size, 0, none⟩, by rw [unhide HR]; rfl, fun _ => ⟨_, A, d, rfl, unhide HT, unhide HA, unhide HDG⟩⟩, unhide HB⟩
theorem treeI (v : Value) (P : List ByteArray) (w : World) (hv : StrsAt w v P) (hz : ∀ i, i < P.length → (nthS P i).size ≤ 1048576) (hl : P.length ≤ 1048576) :
    Calls Try.prog 23 #[v] w fun e w' => (∃ p, e = .returned (.tuple #[.pointer p, .bool (pf P == 0)]) ∧ (pf P = 0 → ∃ b0 A d, p = some ⟨b0, 0, none⟩ ∧ Tr w.heap.size w' A ∧ A [] = some (b0, d) ∧ dgA A = dgs P P.length)) ∧ Below w.heap.size w w' := by
  by_cases hP : 1000 < P.length
  · have hgt : (1000 : Int) < (P.length : Int) := by omega
    have HR : Hid (pf P = 1) := hide (by unfold pf; rw [if_pos hP])
    obtain ⟨a, cap, rfl, _⟩ := hv
    go_enter Try.func23, Try.ntmps23
    go_wp2
    go_ret2
    exact ⟨⟨none, by rw [unhide HR]; rfl, fun h => by rw [unhide HR] at h; cases h⟩, Below.refl _ _⟩
  · have hpf : pf P = if gd P P.length = true then 0 else 1 := by unfold pf; rw [if_neg hP]
    obtain ⟨a, cap, rfl, h | ⟨b, off, rfl, hb, hc⟩⟩ := hv
    · subst h
      have HR : Hid (pf [] = 0) := hide rfl
      have T0 := hide (tr_root w)
      unfold zN at T0
      go_enter Try.func23, Try.ntmps23
      go_wp2
      refine wp_loop_rounds 1 ?_
      rw [rounds_succ]
      go_wp2
      go_ret2
      exact ⟨⟨some ⟨w.heap.size, 0, none⟩, by rw [unhide HR]; rfl, fun _ => ⟨_, _, none, rfl, unhide T0, if_pos rfl, dgs_root _⟩⟩, (Below.refl _ _).alloc (Nat.le_refl _) _⟩
    · refine (treeI_at b off cap P w hb hc hz (by omega)).mono ?_
      rintro e w' ⟨⟨p, rfl, h2⟩, hb2⟩
      rw [hpf]
      cases h : gd P P.length
      · exact ⟨⟨p, by rfl, fun c => by simp at c⟩, hb2⟩
      · exact ⟨⟨p, by rfl, fun _ => h2 h⟩, hb2⟩
theorem faultI (v : Value) (P : List ByteArray) (w : World) (hv : StrsAt w v P) (hz : ∀ i, i < P.length → (nthS P i).size ≤ 1048576) (hl : P.length ≤ 1048576) :
    Calls Try.prog 9 #[v] w fun e w' => e = .returned (.int .i64 (pf P)) ∧ Below w.heap.size w w' := by
  have CT := hide (treeI v P w hv hz hl)
  have hp : pf P = 0 ∨ pf P = 1 := by
    unfold pf
    split
    · exact .inr rfl
    · split
      · exact .inl rfl
      · exact .inr rfl
  clear hv hz
  generalize pf P = r at *
  rcases hp with rfl | rfl
  · go_enter Try.func9, Try.ntmps9
    go_wp2_with (go_at_call 23; refine (unhide CT).mono ?_; rintro e w2 ⟨⟨p, rfl, _⟩, hb2⟩)
    go_ret
    exact ⟨rfl, hb2⟩
  · go_enter Try.func9, Try.ntmps9
    go_wp2_with (go_at_call 23; refine (unhide CT).mono ?_; rintro e w2 ⟨⟨p, rfl, _⟩, hb2⟩)
    go_ret
    exact ⟨rfl, hb2⟩
end Hyp
end Go.Proofs.Ytgmpkapeemiecaa
