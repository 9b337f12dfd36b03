/- A row of few numbers put in order in its place: slices.Sort. -/
import Derived.Test.YtecbbifepbgmlaaDoorRows
import Derived.Test.YtecbbifepbgmlaaDoorCsoP
import Derived.Test.YtecbbifepbgmlaaDoorMA
import Derived.WalkKit
import Derived.BigQuiet
import Derived.Deep.QuietTactic
import Derived.Shelf.RegionOpenPlain
namespace Go.Proofs.YtecbbifepbgmlaaDoor.Cas
open Go.RowKit
set_option linter.unusedVariables false
abbrev nthC (l : List Int) (i : Nat) : Int := l.getD i 0
theorem ownsRow_atC {w w' : World} {B : Nat} {e : TypeId} {s : Nat} {v : Value} {n : Nat} {xs : List Value} (h : w.ownsRow B e s v n xs) (hs : ∀ k, v.ownBlock = some k → w'.heap[k]? = w.heap[k]?) : w'.ownsRow B e s v n xs := by
  refine ⟨h.1, ?_⟩
  rcases h.2 with h' | ⟨g, cap, cur, rfl, r1, r2, r3⟩
  · exact .inl h'
  · exact .inr ⟨g, cap, cur, rfl, r1, (hs g rfl).trans r2, r3⟩
theorem grown_reflC (w : World) (r : Option Nat) : w.grownBy w r := ⟨rfl, rfl, rfl, Nat.le_refl _, fun _ _ _ => rfl⟩
theorem grown_setC {w w' : World} {g j : Nat} {u : Value} (h : w.grownBy w' (some g)) : w.grownBy (w'.setCell ⟨g, j, none⟩ u) (some g) :=
  ⟨h.os, h.tape, h.output, by simp; exact h.size, fun k hk hne => (heap_setCell_other w' ⟨g, j, none⟩ k u (fun e => hne (by rw [e]))).trans (h.block k hk hne)⟩
/-- A row of numbers of the call's own at the block g; nothing else has changed. -/
structure Rw (w0 w : World) (B g n cap : Nat) (O : List Int) : Prop where
  ow : w.ownsRow B 2 1 (.slice (some ⟨g, 0, none⟩) n cap) n (O.map (Value.int .i64))
  gr : w0.grownBy w (some g)
theorem Rw.len {w0 w : World} {B g n cap : Nat} {O : List Int} (h : Rw w0 w B g n cap O) : O.length = n := by have := h.ow.1; simpa using this
theorem Rw.cell {w0 w : World} {B g n cap : Nat} {O : List Int} (h : Rw w0 w B g n cap O) (i : Nat) (hi : i < n) : w.cell? ⟨g, i, none⟩ = some (.int .i64 (nthC O i)) := by
  have c := h.ow.cellAt i (by omega)
  have e := h.len
  rw [c, List.getElem?_map]
  simp [nthC, List.getD, e, hi]
theorem Rw.frozen {w0 w : World} {B g n cap : Nat} {O : List Int} (h : Rw w0 w B g n cap O) (i : Nat) : w.frozen? ⟨g, i, none⟩ = false := h.ow.frozenAt i
theorem Rw.set {w0 w : World} {B g n cap : Nat} {O : List Int} (h : Rw w0 w B g n cap O) (i : Nat) (x : Int) : Rw w0 (w.setCell ⟨g, i, none⟩ (.int .i64 x)) B g n cap (O.set i x) := by
  refine ⟨?_, grown_setC h.gr⟩
  rw [List.map_set]
  exact (h.ow.stored i (.int .i64 x)).1
theorem Rw.drewN {w0 w : World} {B g n cap : Nat} {O : List Int} (h : Rw w0 w B g n cap O) (m : Nat) : Rw w0 (w.drewN m) B g n cap O :=
  ⟨ownsRow_atC h.ow (fun _ _ => rfl), h.gr.trans ⟨rfl, rfl, rfl, Nat.le_refl _, fun _ _ _ => rfl⟩⟩
theorem Rw.drew {w0 w : World} {B g n cap : Nat} {O : List Int} (h : Rw w0 w B g n cap O) : Rw w0 w.drew B g n cap O :=
  ⟨ownsRow_atC h.ow (fun _ _ => rfl), h.gr.trans ⟨rfl, rfl, rfl, Nat.le_refl _, fun _ _ _ => rfl⟩⟩
theorem nthC_app (P Q : List Int) (x : Int) (i : Nat) (h : i = P.length) : nthC (P ++ x :: Q) i = x := by
  subst h
  simp [nthC, List.getD]
/-- Two neighbours changed. -/
theorem Rw.swp {w0 w : World} {B g n cap r : Nat} {P Q : List Int} {x y : Int} (h : Rw w0 w B g n cap (P ++ y :: x :: Q)) (hr : r = P.length) :
    w.cell? ⟨g, r, none⟩ = some (.int .i64 y) ∧ w.cell? ⟨g, r + 1, none⟩ = some (.int .i64 x) ∧ w.frozen? ⟨g, r, none⟩ = false ∧ w.frozen? ⟨g, r + 1, none⟩ = false ∧
    (∃ u, (w.setCell ⟨g, r + 1, none⟩ (.int .i64 y)).cell? ⟨g, r, none⟩ = some u) ∧ Rw w0 ((w.setCell ⟨g, r + 1, none⟩ (.int .i64 y)).setCell ⟨g, r, none⟩ (.int .i64 x)).drew B g n cap (P ++ x :: y :: Q) := by
  have hl := h.len
  have h1 := h.cell r (by simp at hl; omega)
  have h2 := h.cell (r + 1) (by simp at hl; omega)
  rw [nthC_app P (x :: Q) y r hr] at h1
  rw [show P ++ y :: x :: Q = (P ++ [y]) ++ x :: Q by simp, nthC_app (P ++ [y]) Q x (r + 1) (by simp; omega)] at h2
  have s1 := h.set (r + 1) y
  have h3 := s1.cell r (by simp at hl; omega)
  have s2 := (s1.set r x).drew
  have e : ((P ++ y :: x :: Q).set (r + 1) y).set r x = P ++ x :: y :: Q := by
    subst hr
    rw [List.set_append_right _ _ (by omega), List.set_append_right _ _ (by omega)]
    simp
  rw [e] at s2
  exact ⟨h1, h2, h.frozen r, h.frozen (r + 1), ⟨_, h3⟩, s2⟩
theorem wrapC (x : Int) (h0 : -9223372036854775808 ≤ x) (h1 : x ≤ 9223372036854775807) : IntKind.i64.wrap x = x := by
  simp [IntKind.wrap, IntKind.signed, IntKind.bits]; omega
theorem nanC (x : Int) (w : World) : Calls Tryd.prog 63 #[.int .i64 x] w fun e w' => e = .returned (.bool false) ∧ w' = w := by
  have h : (x != x) = false := by simp
  go_enter Tryd.func63, Tryd.ntmps63
  go_wp2
  go_ret
  exact ⟨rfl, rfl⟩
theorem lessC (x y : Int) (w : World) : Calls Tryd.prog 48 #[.int .i64 x, .int .i64 y] w fun e w' => e = .returned (.bool (decide (x < y))) ∧ w' = w := by
  by_cases h1 : x < y
  · have HE : Hid (decide (x < y) = true) := hide (decide_eq_true h1)
    go_enter Tryd.func48, Tryd.ntmps48
    go_wp2_with (go_at_call 63; refine (nanC _ _).mono ?_; rintro e w' ⟨rfl, rfl⟩)
    go_ret
    exact ⟨by rw [unhide HE]; rfl, rfl⟩
  · have HE : Hid (decide (x < y) = false) := hide (decide_eq_false h1)
    go_enter Tryd.func48, Tryd.ntmps48
    go_wp2_with (go_at_call 63; refine (nanC _ _).mono ?_; rintro e w' ⟨rfl, rfl⟩)
    go_ret
    exact ⟨by rw [unhide HE]; rfl, rfl⟩
theorem srB_snoc (x : Int) : ∀ (L acc : List Int), srB acc (L ++ [x]) = inB x (srB acc L)
  | [], acc => rfl
  | y :: L, acc => srB_snoc x L (inB y acc)
theorem inB_split {x : Int} : ∀ (A1 A2 : List Int), (∀ a ∈ A1, x < a) → (A2 = [] ∨ ∃ y l, A2 = y :: l ∧ ¬ x < y) → inB x (A1 ++ A2) = A1 ++ x :: A2
  | [], A2, _, h => by
    rcases h with rfl | ⟨y, l, rfl, h⟩
    · rfl
    · show (if x < y then _ else _) = _
      rw [if_neg h]
      rfl
  | a :: A1, A2, h1, h2 => by
    show (if x < a then a :: inB x (A1 ++ A2) else x :: a :: (A1 ++ A2)) = _
    rw [if_pos (h1 a (by simp)), inB_split A1 A2 (fun b hb => h1 b (by simp [hb])) h2]
    rfl
/-- What the row holds when the first k are in order. -/
def srK (O : List Int) (k : Nat) : List Int := (srB [] (O.take k)).reverse ++ O.drop k
theorem srB_len (O : List Int) (k : Nat) (h : k ≤ O.length) : (srB [] (O.take k)).length = k := by
  have := (srB_ok (O.take k) [] List.Pairwise.nil).2.1
  rw [this]
  simp
  omega
theorem srK_in {O : List Int} {k : Nat} (h : k < O.length) : srK O k = (srB [] (O.take k)).reverse ++ O.getD k 0 :: ([] ++ O.drop (k + 1)) := by
  unfold srK
  rw [List.drop_eq_getElem_cons h]
  simp [List.getD, h]
theorem srK_out {O A1 A2 : List Int} {k : Nat} (h : k < O.length) (e : A1 ++ A2 = srB [] (O.take k)) (h1 : ∀ a ∈ A1, O.getD k 0 < a) (h2 : A2 = [] ∨ ∃ y l, A2 = y :: l ∧ ¬ O.getD k 0 < y) : A2.reverse ++ O.getD k 0 :: (A1.reverse ++ O.drop (k + 1)) = srK O (k + 1) := by
  unfold srK
  have e1 : O.take (k + 1) = O.take k ++ [O.getD k 0] := by
    rw [List.take_add_one]
    simp [List.getD, h]
  rw [e1, srB_snoc, ← e, inB_split A1 A2 h1 h2]
  simp
theorem mixedC : Tryd.prog.follows Departure.mixedOrders = true := by kernel_rfl
set_option maxHeartbeats 4000000 in
set_option maxRecDepth 100000 in
theorem insC (w0 w : World) (B g n cap : Nat) (O : List Int) (hn : n ≤ 12) (hn1 : 1 ≤ n) (h : Rw w0 w B g n cap O) :
    Calls Tryd.prog 42 #[.slice (some ⟨g, 0, none⟩) n cap, .int .i64 0, .int .i64 n] w fun e w' => e = .returned (.tuple #[]) ∧ Rw w0 w' B g n cap (srt O) := by
  have mixed := mixedC
  have hO := h.len
  have HO : Hid (O.length = n) := hide hO
  have H0 : Hid (Rw w0 w B g n cap (srK O 1)) := hide (by
    have e : srK O 1 = O := by
      match O, hO with
      | x :: l, _ => simp [srK, srB, inB]
      | [], hO => simp at hO; omega
    rw [e]
    exact h)
  have HE : Hid (srK O n = srt O) := hide (by unfold srK srt; rw [← hO]; simp)
  clear h hO
  go_enter Tryd.func42, Tryd.ntmps42
  go_wp2
  go_loopw [6] (fun iv wr => ∃ k : Nat, 1 ≤ k ∧ k ≤ n ∧ iv = .int .i64 k ∧ Hid (Rw w0 wr B g n cap (srK O k))) (fun iv _ => n - (intOf iv).toNat)
  case atStart => exact ⟨1, Nat.le_refl _, hn1, rfl, H0⟩
  case round =>
    obtain ⟨k, hk1, hkn, rfl, HI⟩ := hrel
    clear H0
    by_cases hlt : k < n
    · have hlt' : (k : Int) < (n : Int) := by omega
      have hkO : k < O.length := by rw [unhide HO]; exact hlt
      have hl := srB_len O k (by omega)
      have J0 : Hid (∃ A1 A2 : List Int, A2.length = k ∧ A1 ++ A2 = srB [] (O.take k) ∧ (∀ a ∈ A1, O.getD k 0 < a) ∧ Rw w0 wr B g n cap (A2.reverse ++ O.getD k 0 :: (A1.reverse ++ O.drop (k + 1)))) := hide ⟨[], srB [] (O.take k), hl, rfl, by simp, by have := unhide HI; rwa [srK_in hkO] at this⟩
      have HF : Hid (∀ W (A1 A2 : List Int), A1 ++ A2 = srB [] (O.take k) → (∀ a ∈ A1, O.getD k 0 < a) → (A2 = [] ∨ ∃ y l, A2 = y :: l ∧ ¬ O.getD k 0 < y) → Rw w0 W B g n cap (A2.reverse ++ O.getD k 0 :: (A1.reverse ++ O.drop (k + 1))) → Rw w0 W B g n cap (srK O (k + 1))) := hide (fun W A1 A2 e h1 h2 s => by rwa [srK_out hkO e h1 h2] at s)
      clear HI hl hkO
      generalize O.getD k 0 = x at *
      generalize O.drop (k + 1) = R at *
      generalize srB [] (O.take k) = Z at *
      go_wp2
      go_loopw [7] (fun jv wr2 => ∃ q : Nat, q ≤ k ∧ jv = .int .i64 q ∧ Hid (∃ A1 A2 : List Int, A2.length = q ∧ A1 ++ A2 = Z ∧ (∀ a ∈ A1, x < a) ∧ Rw w0 wr2 B g n cap (A2.reverse ++ x :: (A1.reverse ++ R)))) (fun jv _ => (intOf jv).toNat)
      case atStart => exact ⟨k, Nat.le_refl _, rfl, J0⟩
      case round =>
        obtain ⟨q, hq, rfl, HJ⟩ := hrel
        clear J0
        obtain ⟨A1, A2, l1, e1, h1, s1⟩ := unhide HJ
        match A2, l1 with
        | [], l1 =>
          obtain rfl : q = 0 := by simpa using l1.symm
          have G2 := hide ((unhide HF) wr.drew A1 [] e1 h1 (.inl rfl) s1.drew)
          clear HJ s1 h1 e1 l1 HF
          rw [show ((0 : Nat) : Int) = 0 from rfl]
          go_wp2_with fail
          go_big_region_o
          generalize wr.drew = w2 at *
          go_wp2
          go_roundw
          case rel => exact ⟨k + 1, by omega, by omega, by go_num, G2⟩
          case measure => simp [intOf]; omega
        | y :: A2', l1 =>
          obtain ⟨r, rfl⟩ : ∃ r : Nat, q = r + 1 := ⟨q - 1, by simp at l1; omega⟩
          have er : r = (A2'.reverse).length := by simp at l1 ⊢; omega
          have hcast : ((r + 1 : Nat) : Int) = (r : Int) + 1 := by omega
          rw [hcast]
          have hja : decide ((r : Int) + 1 > 0) = true := decide_eq_true (by omega)
          have hjz : (0 : Int) < (r : Int) + 1 := by omega
          have pa : (0 : Int) ≤ (r : Int) + 1 := by omega
          have ba : (r : Int) + 1 < (n : Int) := by omega
          have bb : (r : Int) < (n : Int) := by omega
          have ea : ((r : Int) + 1).toNat = r + 1 := by omega
          have e2 : (y :: A2').reverse ++ x :: (A1.reverse ++ R) = A2'.reverse ++ y :: x :: (A1.reverse ++ R) := by simp
          rw [e2] at s1
          have LC := hide (fun W => lessC x y W)
          have G2 := hide (fun m => (s1.drewN m).swp er)
          obtain ⟨cr, cj, _, _, _, _⟩ := s1.swp er
          have ra : IntKind.i64.wrap ((r : Int) + 1) = (r : Int) + 1 := wrapC _ (by omega) (by omega)
          have rb : IntKind.i64.wrap (r : Int) = (r : Int) := wrapC _ (by omega) (by omega)
          clear er hcast
          by_cases hxy : x < y
          · rw [decide_eq_true hxy] at LC
            have GJ : Hid (∀ W, Rw w0 W B g n cap (A2'.reverse ++ x :: y :: (A1.reverse ++ R)) → ∃ A1 A2 : List Int, A2.length = r ∧ A1 ++ A2 = Z ∧ (∀ a ∈ A1, x < a) ∧ Rw w0 W B g n cap (A2.reverse ++ x :: (A1.reverse ++ R))) := hide (fun W s => ⟨A1 ++ [y], A2', by simp at l1; omega, by rw [← e1]; simp, fun b hb => by
              rcases List.mem_append.1 hb with hb | hb
              · exact h1 b hb
              · rw [List.mem_singleton] at hb; rw [hb]; exact hxy, by simpa using s⟩)
            clear HJ s1 h1 e1 l1 e2 HF hxy
            go_wp2_with fail
            go_quiet (first | (go_at_call 48; refine Calls.quiet_of_same ((unhide LC) _)))
            obtain ⟨ca, cb, fa, fb, ⟨u, cc⟩, s2⟩ := (unhide G2) nq
            have S2 := hide ((unhide GJ) _ s2)
            clear G2 cj cr s2 GJ
            generalize wr.drewN nq = w2 at *
            go_wp2_with fail
            go_big_region_o
            clear ca cb cc fa fb
            generalize ((w2.setCell ⟨g, r + 1, none⟩ (.int .i64 y)).setCell ⟨g, r, none⟩ (.int .i64 x)).drew = w3 at *
            clear ea
            go_wp2
            go_roundw
            case rel => exact ⟨r, by omega, by go_num, S2⟩
            case measure => simp [intOf]
          · rw [decide_eq_false hxy] at LC
            have G3' := hide (fun m => (unhide HF) (wr.drewN m) A1 (y :: A2') e1 h1 (.inr ⟨y, A2', rfl, by omega⟩) (by rw [e2]; exact s1.drewN m))
            clear HJ s1 h1 e1 l1 e2 HF hxy G2
            go_wp2_with fail
            go_quiet (first | (go_at_call 48; refine Calls.quiet_of_same ((unhide LC) _)))
            have G3 := hide ((unhide G3') nq)
            clear G3' cj cr
            generalize wr.drewN nq = w2 at *
            go_wp2
            go_roundw
            case rel => exact ⟨k + 1, by omega, by omega, by go_num, G3⟩
            case measure => simp [intOf]; omega
    · obtain rfl : k = n := by omega
      have hlt' : ¬ (k : Int) < (k : Int) := by omega
      go_wp2
      go_end0
      have R := unhide HI
      rw [unhide HE] at R
      exact ⟨rfl, R⟩
end Go.Proofs.YtecbbifepbgmlaaDoor.Cas
