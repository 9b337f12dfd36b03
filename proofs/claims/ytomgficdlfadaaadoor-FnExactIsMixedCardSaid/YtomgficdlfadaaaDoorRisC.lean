/- slices.Compact of a row of the call's own, of any number of items. -/
import Derived.Test.YtomgficdlfadaaaDoorRisP
import Derived.Test.YtomgficdlfadaaaDoorBase
import Derived.WalkKit
import Derived.BigQuiet
import Derived.Deep.QuietTactic
import Derived.Shelf.RegionOpenPlain
import Derived.Lib.SliceRun
namespace Go.Proofs.YtomgficdlfadaaaDoor.Ris
open Go.RowKit
set_option linter.unusedVariables false
abbrev nthC (l : List Int) (i : Nat) : Int := l.getD i 0
theorem ownsRow_atC {w w' : World} {B : Nat} {e : TypeId} {s : Nat} {v : Value} {n : Nat} {xs : List Value} (h : w.ownsRow B e s v n xs) (hs : ∀ k, v.ownBlock = some k → w'.heap[k]? = w.heap[k]?) : w'.ownsRow B e s v n xs := by
  refine ⟨h.1, ?_⟩
  rcases h.2 with h' | ⟨g, cap, cur, rfl, r1, r2, r3⟩
  · exact .inl h'
  · exact .inr ⟨g, cap, cur, rfl, r1, (hs g rfl).trans r2, r3⟩
theorem grown_reflC (w : World) (r : Option Nat) : w.grownBy w r := ⟨rfl, rfl, rfl, Nat.le_refl _, fun _ _ _ => rfl⟩
theorem grown_setC {w w' : World} {g j : Nat} {u : Value} (h : w.grownBy w' (some g)) : w.grownBy (w'.setCell ⟨g, j, none⟩ u) (some g) :=
  ⟨h.os, h.tape, h.output, by simp; exact h.size, fun k hk hne => (heap_setCell_other w' ⟨g, j, none⟩ k u (fun e => hne (by rw [e]))).trans (h.block k hk hne)⟩
/-- A row of numbers of the call's own at the block g; nothing else has changed. -/
structure Rw (w0 w : World) (B g n cap : Nat) (O : List Int) : Prop where
  ow : w.ownsRow B 2 1 (.slice (some ⟨g, 0, none⟩) n cap) n (O.map (Value.int .i64))
  gr : w0.grownBy w (some g)
theorem Rw.len {w0 w : World} {B g n cap : Nat} {O : List Int} (h : Rw w0 w B g n cap O) : O.length = n := by have := h.ow.1; simpa using this
theorem Rw.cell {w0 w : World} {B g n cap : Nat} {O : List Int} (h : Rw w0 w B g n cap O) (i : Nat) (hi : i < n) : w.cell? ⟨g, i, none⟩ = some (.int .i64 (nthC O i)) := by
  have c := h.ow.cellAt i (by omega)
  have e := h.len
  rw [c, List.getElem?_map]
  simp [nthC, List.getD, e, hi]
theorem Rw.frozen {w0 w : World} {B g n cap : Nat} {O : List Int} (h : Rw w0 w B g n cap O) (i : Nat) : w.frozen? ⟨g, i, none⟩ = false := h.ow.frozenAt i
theorem Rw.set {w0 w : World} {B g n cap : Nat} {O : List Int} (h : Rw w0 w B g n cap O) (i : Nat) (x : Int) : Rw w0 (w.setCell ⟨g, i, none⟩ (.int .i64 x)) B g n cap (O.set i x) := by
  refine ⟨?_, grown_setC h.gr⟩
  rw [List.map_set]
  exact (h.ow.stored i (.int .i64 x)).1
theorem Rw.drewN {w0 w : World} {B g n cap : Nat} {O : List Int} (h : Rw w0 w B g n cap O) (m : Nat) : Rw w0 (w.drewN m) B g n cap O :=
  ⟨ownsRow_atC h.ow (fun _ _ => rfl), h.gr.trans ⟨rfl, rfl, rfl, Nat.le_refl _, fun _ _ _ => rfl⟩⟩
theorem Rw.drew {w0 w : World} {B g n cap : Nat} {O : List Int} (h : Rw w0 w B g n cap O) : Rw w0 w.drew B g n cap O :=
  ⟨ownsRow_atC h.ow (fun _ _ => rfl), h.gr.trans ⟨rfl, rfl, rfl, Nat.le_refl _, fun _ _ _ => rfl⟩⟩
theorem nthC_app (P Q : List Int) (x : Int) (i : Nat) (h : i = P.length) : nthC (P ++ x :: Q) i = x := by
  subst h
  simp [nthC, List.getD]
theorem wrapC (x : Int) (h0 : -9223372036854775808 ≤ x) (h1 : x ≤ 9223372036854775807) : IntKind.i64.wrap x = x := by
  simp [IntKind.wrap, IntKind.signed, IntKind.bits]; omega
theorem mixedC : Tryd.prog.follows Departure.mixedOrders = true := by kernel_rfl
/-- The first k of a row without what comes twice side by side. -/
def cmk (L : List Int) : Nat → List Int
  | 0 => []
  | k + 1 => if 0 < k ∧ L.getD k 0 = L.getD (k - 1) 0 then cmk L k else cmk L k ++ [L.getD k 0]
theorem cmk_dup {L : List Int} {k : Nat} (h0 : 0 < k) (h : L.getD k 0 = L.getD (k - 1) 0) : cmk L (k + 1) = cmk L k := if_pos ⟨h0, h⟩
theorem cmk_new {L : List Int} {k : Nat} (h : L.getD k 0 ≠ L.getD (k - 1) 0) : cmk L (k + 1) = cmk L k ++ [L.getD k 0] := if_neg (fun e => h e.2)
theorem cmk_one (L : List Int) : cmk L 1 = [L.getD 0 0] := by simp [cmk]
theorem cmk_le (L : List Int) : ∀ k, (cmk L k).length ≤ k
  | 0 => Nat.le_refl _
  | k + 1 => by
    have ih := cmk_le L k
    unfold cmk
    split
    · omega
    · simp; omega
theorem take_snoc (L : List Int) (k : Nat) (h : k < L.length) : L.take (k + 1) = L.take k ++ [L.getD k 0] := by
  rw [List.take_add_one]
  simp [List.getD, h]
theorem cmk_ok {L : List Int} (hs : L.Pairwise (· ≤ ·)) : ∀ k, k ≤ L.length → (cmk L k).Pairwise (· < ·) ∧ ∀ y, y ∈ cmk L k ↔ y ∈ L.take k
  | 0, _ => ⟨List.Pairwise.nil, fun y => by simp [cmk]⟩
  | k + 1, hk => by
    obtain ⟨h1, h2⟩ := cmk_ok hs k (by omega)
    have hup : ∀ y ∈ L.take k, y ≤ L.getD k 0 ∧ (0 < k → y ≤ L.getD (k - 1) 0) := fun y hy => by
      obtain ⟨i, hi, rfl⟩ := List.mem_iff_getElem.1 hy
      simp only [List.length_take] at hi
      rw [List.getElem_take]
      refine ⟨?_, fun hk0 => ?_⟩
      · have := List.pairwise_iff_getElem.1 hs i k (by omega) (by omega) (by omega)
        simpa [List.getD, show k < L.length by omega] using this
      · by_cases e : i = k - 1
        · subst e
          simp [List.getD, show k - 1 < L.length by omega]
        · have := List.pairwise_iff_getElem.1 hs i (k - 1) (by omega) (by omega) (by omega)
          simpa [List.getD, show k - 1 < L.length by omega] using this
    rw [take_snoc L k (by omega)]
    by_cases h : 0 < k ∧ L.getD k 0 = L.getD (k - 1) 0
    · rw [cmk_dup h.1 h.2]
      refine ⟨h1, fun y => ?_⟩
      rw [h2, List.mem_append, List.mem_singleton]
      constructor
      · exact fun h => .inl h
      · rintro (h' | rfl)
        · exact h'
        · rw [h.2]
          have e : L.take k = L.take (k - 1) ++ [L.getD (k - 1) 0] := by
            have := take_snoc L (k - 1) (by omega)
            rwa [show k - 1 + 1 = k by omega] at this
          rw [e]
          simp
    · have e : cmk L (k + 1) = cmk L k ++ [L.getD k 0] := if_neg h
      rw [e]
      refine ⟨?_, fun y => ?_⟩
      · rw [List.pairwise_append]
        refine ⟨h1, by simp, fun a ha b hb => ?_⟩
        rw [List.mem_singleton] at hb
        subst hb
        have ha' := (h2 a).1 ha
        obtain ⟨u1, u2⟩ := hup a ha'
        have hk0 : 0 < k := by
          cases k with
          | zero => simp at ha'
          | succ k => omega
        have u3 := u2 hk0
        have hne : L.getD k 0 ≠ L.getD (k - 1) 0 := fun e => h ⟨hk0, e⟩
        have u4 : L.getD (k - 1) 0 ≤ L.getD k 0 := (hup (L.getD (k - 1) 0) (by
          have e : L.take k = L.take (k - 1) ++ [L.getD (k - 1) 0] := by
            have := take_snoc L (k - 1) (by omega)
            rwa [show k - 1 + 1 = k by omega] at this
          rw [e]; simp)).1
        omega
      · rw [List.mem_append, List.mem_append, h2]
theorem cmk_cmp {L : List Int} (hs : L.Pairwise (· ≤ ·)) : cmk L L.length = cmp L := by
  obtain ⟨h1, h2⟩ := cmk_ok hs L.length (Nat.le_refl _)
  obtain ⟨c1, c2⟩ := cmp_ok L hs
  refine rise_one h1 c1 fun y => ?_
  rw [h2, c2, List.take_length]
theorem Rw.capLe {w0 w : World} {B g n cap : Nat} {O : List Int} (h : Rw w0 w B g n cap O) : n ≤ cap ∧ cap ≤ maxLen := by
  rcases h.ow.2 with ⟨h', _⟩ | ⟨g', cap', cur, e, _, _, h1, h2, _⟩
  · cases h'
  · cases e
    exact ⟨h1, h2⟩
theorem Rw.pre {w0 w : World} {B g n cap m : Nat} {O : List Int} (h : Rw w0 w B g n cap O) (hm : m ≤ n) : Rw w0 w B g m cap (O.take m) := by
  have hl := h.len
  refine ⟨⟨by simp; omega, ?_⟩, h.gr⟩
  rcases h.ow.2 with ⟨h', _⟩ | ⟨g', cap', cur, e, h0, hh, h1, h2, h3, h4⟩
  · cases h'
  · cases e
    refine .inr ⟨g, cap, cur, rfl, h0, hh, by omega, h2, h3, ?_⟩
    rw [List.map_take, ← h4, List.take_take]
    congr 1
    omega
theorem Rw.clr {w0 : World} {B g n cap m : Nat} : ∀ (r : Nat) (w : World) (O : List Int) (k : Nat), m ≤ k → Rw w0 w B g n cap O → ∃ O', O'.take m = O.take m ∧ Rw w0 (w.setCells g k (List.replicate r (.int .i64 0))) B g n cap O'
  | 0, w, O, k, _, h => ⟨O, rfl, h⟩
  | r + 1, w, O, k, hk, h => by
    obtain ⟨O', e, h'⟩ := Rw.clr (m := m) r _ (O.set k 0) (k + 1) (by omega) (h.set k 0)
    refine ⟨O', ?_, h'⟩
    rw [e, List.take_set_of_le hk]
theorem nthC_set_ne (O : List Int) (i j : Nat) (x : Int) (h : i ≠ j) : nthC (O.set i x) j = nthC O j := by
  simp [nthC, List.getD, List.getElem?_set_ne h]
set_option maxRecDepth 100000 in
set_option maxHeartbeats 8000000 in
theorem compactC (w0 w : World) (B g n cap : Nat) (L : List Int) (hn : 2 ≤ n) (hn2 : n ≤ 1048576) (h : Rw w0 w B g n cap L) :
    Calls Tryd.prog 26 #[.slice (some ⟨g, 0, none⟩) n cap] w fun e w' => e = .returned (.slice (some ⟨g, 0, none⟩) (cmk L n).length cap) ∧ Rw w0 w' B g (cmk L n).length cap (cmk L n) := by
  have hL := h.len
  obtain ⟨hc1, hc2⟩ := h.capLe
  have hn' : ¬ (n : Int) < 2 := by omega
  have H0 := hide h
  have HL := hide hL
  have E0 : Hid (cmk L 1 = L.take 1) := hide (by
    rw [cmk_one]
    match L, hL with
    | x :: l, _ => simp
    | [], hL => simp at hL; omega)
  clear h hL
  go_enter Tryd.func26, Tryd.ntmps26
  go_wp2
  go_loopw [3] (fun kv wr => ∃ k : Nat, 1 ≤ k ∧ k ≤ n ∧ kv = .int .i64 k ∧ Hid (cmk L k = L.take k) ∧ Hid (Rw w0 wr B g n cap L)) (fun kv _ => n - (intOf kv).toNat)
  case atStart => exact ⟨1, Nat.le_refl _, by omega, rfl, E0, H0⟩
  case round =>
    obtain ⟨k, hk1, hkn, rfl, HE, HR⟩ := hrel
    clear H0 E0
    by_cases hlt : k < n
    · have hlt' : (k : Int) < (n : Int) := by omega
      obtain ⟨r, rfl⟩ : ∃ r : Nat, k = r + 1 := ⟨k - 1, by omega⟩
      have hcast : ((r + 1 : Nat) : Int) = (r : Int) + 1 := by omega
      rw [hcast] at hlt' ⊢
      have c1 := (unhide HR).cell (r + 1) (by omega)
      have c0 := (unhide HR).cell r (by omega)
      have pa : (0 : Int) ≤ (r : Int) + 1 := by omega
      have bb : (r : Int) < (n : Int) := by omega
      have ea : ((r : Int) + 1).toNat = r + 1 := by omega
      have ra : IntKind.i64.wrap ((r : Int) + 1) = (r : Int) + 1 := wrapC _ (by omega) (by omega)
      have rb : IntKind.i64.wrap (r : Int) = (r : Int) := wrapC _ (by omega) (by omega)
      have G2 := hide (fun m => (unhide HR).drewN m)
      by_cases hd : nthC L (r + 1) = nthC L r
      · have hd' : (nthC L (r + 1) == nthC L r) = true := by simpa using hd
        have HE2 : Hid (cmk L (r + 1 + 1) = L.take (r + 1)) := hide (by rw [cmk_dup (by omega) (by simpa using hd), unhide HE])
        have hll := unhide HL
        obtain ⟨q, rfl⟩ : ∃ q, n = r + 1 + q := ⟨n - (r + 1), by omega⟩
        have J0 : Hid (∀ m, ∃ M : List Int, M.take (r + 1) = cmk L (r + 1 + 1) ∧ (cmk L (r + 1 + 1)).length = r + 1 ∧ (∀ i, r + 1 ≤ i → nthC M i = nthC L i) ∧ Rw w0 (wr.drewN m) B g (r + 1 + q) cap M) := hide (fun m => ⟨L, (unhide HE2).symm, by rw [unhide HE2]; simp; omega, fun _ _ => rfl, (unhide HR).drewN m⟩)
        clear HE hd hcast HR HE2 G2 HL hll
        generalize nthC L (r + 1) = x at c1 hd'
        generalize nthC L r = y at c0 hd'
        go_wp2_with fail
        go_quiet (fail)
        have J1 := hide ((unhide J0) nq)
        clear J0 c0 c1 hd'
        generalize wr.drewN nq = w2 at *
        go_wp2
        go_loopw [3, 5] (fun kv jv wr => ∃ m j : Nat, 1 ≤ j ∧ j ≤ q ∧ m ≤ r + j ∧ kv = .int .i64 m ∧ jv = .int .i64 j ∧ Hid (∃ M : List Int, M.take m = cmk L (r + 1 + j) ∧ (cmk L (r + 1 + j)).length = m ∧ (∀ i, r + j ≤ i → nthC M i = nthC L i) ∧ Rw w0 wr B g (r + 1 + q) cap M)) (fun _ jv _ => q - (intOf jv).toNat)
        case atStart => exact ⟨r + 1, 1, Nat.le_refl _, by omega, by omega, by go_num, rfl, J1⟩
        case round =>
          obtain ⟨m, j, hj1, hjq, hmj, rfl, rfl, HM⟩ := hrel
          clear J1
          by_cases hjl : j < q
          · have hjl' : (j : Int) < (q : Int) := by omega
            obtain ⟨M, e1, e2, e3, s1⟩ := unhide HM
            obtain ⟨t, rfl⟩ : ∃ t : Nat, j = t + 1 := ⟨j - 1, by omega⟩
            have hcast : ((t + 1 : Nat) : Int) = (t : Int) + 1 := by omega
            rw [hcast] at hjl' ⊢
            have c1 := s1.cell (r + 1 + (t + 1)) (by omega)
            have c0 := s1.cell (r + 1 + t) (by omega)
            have hlM := s1.len
            rw [e3 _ (by omega)] at c1 c0
            have pa : (0 : Int) ≤ (t : Int) + 1 := by omega
            have bb : (t : Int) < (q : Int) := by omega
            have ea : ((t : Int) + 1).toNat = t + 1 := by omega
            have ra : IntKind.i64.wrap ((t : Int) + 1) = (t : Int) + 1 := wrapC _ (by omega) (by omega)
            have rb : IntKind.i64.wrap (t : Int) = (t : Int) := wrapC _ (by omega) (by omega)
            by_cases hd : nthC L (r + 1 + (t + 1)) = nthC L (r + 1 + t)
            · have hd' : (nthC L (r + 1 + (t + 1)) != nthC L (r + 1 + t)) = false := by simpa using hd
              have J2 : Hid (∀ n, ∃ M : List Int, M.take m = cmk L (r + 1 + (t + 1 + 1)) ∧ (cmk L (r + 1 + (t + 1 + 1))).length = m ∧ (∀ i, r + (t + 1 + 1) ≤ i → nthC M i = nthC L i) ∧ Rw w0 (wr.drewN n) B g (r + 1 + q) cap M) := hide (fun n => by
                have e : cmk L (r + 1 + (t + 1 + 1)) = cmk L (r + 1 + (t + 1)) := cmk_dup (k := r + 1 + (t + 1)) (by omega) (by simpa using hd)
                exact ⟨M, by rw [e, e1], by rw [e, e2], fun i hi => e3 i (by omega), s1.drewN n⟩)
              clear HM e1 e2 e3 s1 hd hcast hlM
              generalize nthC L (r + 1 + (t + 1)) = x at c1 hd'
              generalize nthC L (r + 1 + t) = y at c0 hd'
              go_wp2_with fail
              go_quiet (fail)
              have J3 := hide ((unhide J2) nq)
              clear J2 c0 c1 hd'
              generalize wr.drewN nq = w3 at *
              go_wp2
              go_roundw
              case rel => exact ⟨m, t + 1 + 1, by omega, by omega, by omega, rfl, by go_num, J3⟩
              case measure => simp [intOf]; omega
            · have hd' : (nthC L (r + 1 + (t + 1)) != nthC L (r + 1 + t)) = true := by simpa using hd
              have J2 : Hid (∀ n, (wr.drewN n).cell? ⟨g, r + 1 + (t + 1), none⟩ = some (.int .i64 (nthC L (r + 1 + (t + 1)))) ∧ (∃ u, (wr.drewN n).cell? ⟨g, m, none⟩ = some u) ∧ (wr.drewN n).frozen? ⟨g, m, none⟩ = false ∧ ∃ M : List Int, M.take (m + 1) = cmk L (r + 1 + (t + 1 + 1)) ∧ (cmk L (r + 1 + (t + 1 + 1))).length = m + 1 ∧ (∀ i, r + (t + 1 + 1) ≤ i → nthC M i = nthC L i) ∧ Rw w0 ((wr.drewN n).setCell ⟨g, m, none⟩ (.int .i64 (nthC L (r + 1 + (t + 1))))) B g (r + 1 + q) cap M) := hide (fun n => by
                have e : cmk L (r + 1 + (t + 1 + 1)) = cmk L (r + 1 + (t + 1)) ++ [nthC L (r + 1 + (t + 1))] := cmk_new (k := r + 1 + (t + 1)) (by simpa using hd)
                have s2 := s1.drewN n
                refine ⟨c1, ⟨_, s2.cell m (by omega)⟩, s2.frozen m, M.set m (nthC L (r + 1 + (t + 1))), ?_, by rw [e]; simp [e2], fun i hi => ?_, s2.set m _⟩
                · rw [take_snoc _ m (by simp; omega), List.take_set_of_le (Nat.le_refl _), e1, e]
                  simp [List.getD, show m < M.length by omega]
                · rw [nthC_set_ne _ _ _ _ (by omega)]
                  exact e3 i (by omega))
              clear HM e1 e2 e3 s1 hd hcast hlM
              generalize nthC L (r + 1 + (t + 1)) = x at *
              generalize nthC L (r + 1 + t) = y at c0 hd'
              go_wp2_with fail
              go_quiet (fail)
              obtain ⟨d1, ⟨u, d2⟩, d3, j3⟩ := (unhide J2) nq
              have J3 := hide j3
              clear J2 c0 c1 hd' j3
              generalize wr.drewN nq = w3 at *
              go_wp2
              generalize w3.setCell ⟨g, m, none⟩ (.int .i64 x) = w4 at *
              go_roundw
              case rel => exact ⟨m + 1, t + 1 + 1, by omega, by omega, by omega, by go_num, by go_num, J3⟩
              case measure => simp [intOf]; omega
          · obtain rfl : j = q := by omega
            have hjl' : ¬ (j : Int) < (j : Int) := by omega
            obtain ⟨M, e1, e2, e3, s1⟩ := unhide HM
            have hcl : ∀ ty, (Builtin.clear_ #[22] ty #[.slice (some ⟨g, m, none⟩) (r + 1 + j - m) (cap - m)]).run Tryd.prog wr = .ok (.tuple #[]) (wr.setCells g m (List.replicate (r + 1 + j - m) (.int .i64 0))) :=
              fun ty => Lib.run_clear_slice wr _ 2 ty (.int .i64 0) Tryd.underlying22 (fun _ => by kernel_rfl) rfl rfl g m _ _ (by omega) (fun i hi => by rw [s1.cell (m + i) (by omega)]; rfl) (fun i hi => s1.frozen (m + i))
            obtain ⟨M', f1, s2⟩ := Rw.clr (m := m) (r + 1 + j - m) wr M m (Nat.le_refl _) s1
            have R := hide (show Rw w0 (wr.setCells g m (List.replicate (r + 1 + j - m) (.int .i64 0))) B g (cmk L (r + 1 + j)).length cap (cmk L (r + 1 + j)) by
              have s3 := s2.pre (m := m) (by omega)
              rw [f1, e1] at s3
              rw [e2]
              exact s3)
            have EL := hide e2
            clear HM e1 e2 e3 s1 s2 f1
            go_wp2
            go_ret
            exact ⟨by rw [unhide EL]; rfl, unhide R⟩
      · have hd' : (nthC L (r + 1) == nthC L r) = false := by simpa using hd
        have HE2 : Hid (cmk L (r + 1 + 1) = L.take (r + 1 + 1)) := hide (by
          rw [cmk_new (by simpa using hd), unhide HE, take_snoc L (r + 1) (by rw [unhide HL]; omega)])
        clear HE hd hcast HR
        generalize nthC L (r + 1) = x at *
        generalize nthC L r = y at *
        go_wp2_with fail
        go_quiet (fail)
        have R3 := hide ((unhide G2) nq)
        clear G2 c0 c1
        generalize wr.drewN nq = w2 at *
        go_wp2
        go_roundw
        case rel => exact ⟨r + 1 + 1, by omega, by omega, by go_num, HE2, R3⟩
        case measure => simp [intOf]; omega
    · obtain rfl : k = n := by omega
      have hlt' : ¬ (k : Int) < (k : Int) := by omega
      have e : cmk L k = L := by rw [unhide HE]; exact List.take_of_length_le (by rw [unhide HL]; exact Nat.le_refl _)
      have el : (cmk L k).length = k := by rw [e, unhide HL]
      have R := hide (show Rw w0 wr B g (cmk L k).length cap (cmk L k) by rw [el, e]; exact unhide HR)
      have EL := hide el
      clear e el
      go_wp2
      go_ret
      exact ⟨by rw [unhide EL]; rfl, unhide R⟩
end Go.Proofs.YtomgficdlfadaaaDoor.Ris
