/- Kerns in order, as the program tells it. -/
import Derived.Test.YtccnjjkechdknaaKrnB
import Derived.Test.YtccnjjkechdknaaFntA
import Derived.Test.YtccnjjkechdknaaFrlB
import Derived.Deep.RegionWith
import Derived.Deep.RegionHeld3
import Derived.Deep.Cut
import Derived.Deep.CutRange
namespace Go.Proofs.Ytccnjjkechdknaa.Fnt
open Go.RowKit
set_option linter.unusedVariables false
/-- Take number i first; its temporary is told. -/
theorem tkF {P : Program} {ops : Array Oper} {Q : Exit → Act → World → Prop} {md : Region.Mode} {S : World → Prop} {i : Nat} {oi : Oper} {d : Option Tmp} {v : Value} {fuel : Nat} {listed : Array Bool} {a : Act} {w : World} (hi : ops[i]? = some oi) (hd : oi.dst = d)
    (hs : Region.noSelect ops = true) (hf : Region.free md ops listed i = true) (hr : (Region.ready md ops listed).contains i = true)
    (hQ : ∀ c a w, Q (.panic c) (a.put d v) w → Q (.panic c) a w) (hy : YieldsIf P ops S oi v a) (hS : S w)
    (h : wpAnyH P md ops Q S fuel (listed.setIfInBounds i true) (a.put d v) w) : wpAnyH P md ops Q S (fuel + 1) listed a w := by
  subst hd
  exact wpAnyH_take hi hs hf hr hQ hy hS h
def cmpF (x y : Int) : Int := if x < y then -1 else if y < x then 1 else 0
theorem nanF (x : Int) (w : World) : Calls Try.prog 63 #[.int .i64 x] w fun e w' => e = .returned (.bool false) ∧ w' = w := by
  have h : (x != x) = false := by simp
  go_enter Try.func63, Try.ntmps63
  go_wp2
  go_ret
  exact ⟨rfl, rfl⟩
theorem compareF (x y : Int) (w : World) : Calls Try.prog 59 #[.int .i64 x, .int .i64 y] w fun e w' => e = .returned (.int .i64 (cmpF x y)) ∧ w' = w := by
  by_cases h1 : x < y
  · have HE : Hid (cmpF x y = -1) := hide (if_pos h1)
    go_enter Try.func59, Try.ntmps59
    go_wp2_with (go_at_call 63; refine (nanF _ _).mono ?_; rintro e w' ⟨rfl, rfl⟩)
    go_ret
    exact ⟨ret_int (unhide HE).symm, rfl⟩
  by_cases h2 : y < x
  · have HE : Hid (cmpF x y = 1) := hide (by unfold cmpF; rw [if_neg h1, if_pos h2])
    go_enter Try.func59, Try.ntmps59
    go_wp2_with (go_at_call 63; refine (nanF _ _).mono ?_; rintro e w' ⟨rfl, rfl⟩)
    go_ret
    exact ⟨ret_int (unhide HE).symm, rfl⟩
  have HE : Hid (cmpF x y = 0) := hide (by unfold cmpF; rw [if_neg h1, if_neg h2])
  go_enter Try.func59, Try.ntmps59
  go_wp2_with (go_at_call 63; refine (nanF _ _).mono ?_; rintro e w' ⟨rfl, rfl⟩)
  go_ret
  exact ⟨ret_int (unhide HE).symm, rfl⟩
def orF (p q : Int) : Int := if p = 0 then q else p
set_option maxRecDepth 100000 in
set_option maxHeartbeats 2000000 in
theorem or_any (g : Nat) (p q : Int) (w : World) (h0 : w.cell? ⟨g, 0, none⟩ = some (.int .i64 p)) (h1 : w.cell? ⟨g, 1, none⟩ = some (.int .i64 q)) :
    Calls Try.prog 58 #[.slice (some ⟨g, 0, none⟩) 2 2] w fun e w' => e = .returned (.int .i64 (orF p q)) ∧ w' = w := by
  have HP : Hid (p ≠ 0 → orF p q = p) := hide (fun h => if_neg h)
  have HQ : Hid (p = 0 → orF p q = q) := hide (fun h => if_pos h)
  have C0 := hide h0
  have C1 := hide h1
  generalize orF p q = Z at *
  clear h0 h1
  go_enter Try.func58, Try.ntmps58
  go_wp2
  go_loopw [8] (fun i wr => ∃ k : Nat, k ≤ 2 ∧ i = .int .i64 k ∧ Hid (0 < k → p = 0) ∧ Hid (1 < k → q = 0) ∧ wr = w) (fun i _ => 2 - (intOf i).toNat)
  case atStart => exact ⟨0, by omega, rfl, hide (fun h => by omega), hide (fun h => by omega), rfl⟩
  case round =>
    obtain ⟨k, hk, rfl, H1, H2, rfl⟩ := hrel
    have hk3 : k = 0 ∨ k = 1 ∨ k = 2 := by omega
    rcases hk3 with rfl | rfl | rfl
    · have c0 := unhide C0
      by_cases e : p = 0
      · have e1 : (p != 0) = false := by simp [e]
        have H3 : Hid (0 < 0 + 1 → p = 0) := hide (fun _ => e)
        clear e
        go_wp2
        go_roundw
        case rel => exact ⟨0 + 1, by omega, by go_num, H3, hide (fun h => by omega), trivial⟩
        case measure => simp [intOf]
      · have e1 : (p != 0) = true := by simp [e]
        have HZ := hide ((unhide HP) e)
        clear e
        go_wp2
        go_ret
        exact ⟨by rw [unhide HZ]; rfl, rfl⟩
    · have c1 := unhide C1
      have ep := (unhide H1) (by omega)
      have HZ := hide ((unhide HQ) ep)
      by_cases e : q = 0
      · have e1 : (q != 0) = false := by simp [e]
        have H3 : Hid (0 < 1 + 1 → p = 0) := hide (fun _ => ep)
        have H4 : Hid (1 < 1 + 1 → q = 0) := hide (fun _ => e)
        clear e ep
        go_wp2
        go_roundw
        case rel => exact ⟨1 + 1, by omega, by go_num, H3, H4, trivial⟩
        case measure => simp [intOf]
      · have e1 : (q != 0) = true := by simp [e]
        clear e ep
        go_wp2
        go_ret
        exact ⟨by rw [unhide HZ]; rfl, rfl⟩
    · have ep := (unhide H1) (by omega)
      have eq := (unhide H2) (by omega)
      have HZ : Hid (Z = 0) := hide (by rw [(unhide HQ) ep, eq])
      clear ep eq
      go_wp2
      go_ret
      exact ⟨by rw [unhide HZ]; rfl, rfl⟩
/-- One kern stands ahead of another one. -/
def klt (a b : Sp) : Bool := decide (a.1 < b.1) || (decide (a.1 = b.1) && decide (a.2.1 < b.2.1))
theorem klt_or (a b : Sp) : decide (0 ≤ orF (cmpF a.1 b.1) (cmpF a.2.1 b.2.1)) = !klt a b := by
  unfold orF cmpF klt
  by_cases h1 : a.1 < b.1
  · simp [h1]
  · by_cases h2 : b.1 < a.1
    · have h3 : ¬ a.1 = b.1 := by omega
      simp [h1, h2, h3]
    · have h3 : a.1 = b.1 := by omega
      by_cases h4 : a.2.1 < b.2.1
      · simp [h3, h4]
      · by_cases h5 : b.2.1 < a.2.1
        · simp [h3, h4, h5]
        · simp [h3, h4, h5]
theorem three_q {w : World} {g : Nat} {a b c : Value} {T : TypeId} (h : w.heap[g]? = some (.cells #[a, b, c] T (0, 0))) : w.cell? ⟨g, 0, none⟩ = some a ∧ w.cell? ⟨g, 1, none⟩ = some b ∧ w.cell? ⟨g, 2, none⟩ = some c := by
  simp [World.cell?, h]
set_option maxRecDepth 100000 in
set_option maxHeartbeats 8000000 in
theorem compareK (x0 x1 x2 y0 y1 y2 : Int) (w : World) :
    Calls Try.prog 48 #[.agg #[.int .i64 x0, .int .i64 x1, .int .i64 x2], .agg #[.int .i64 y0, .int .i64 y1, .int .i64 y2]] w fun e w' => ∃ c : Int, e = .returned (.int .i64 c) ∧ decide (0 ≤ c) = !klt (x0, x1, x2) (y0, y1, y2) ∧ Below w.heap.size w w' := by
  have HK := hide (klt_or (x0, x1, x2) (y0, y1, y2))
  have CA := hide (fun W => compareF x0 y0 W)
  have CB := hide (fun W => compareF x1 y1 W)
  have hw2 : w.heap.size ≤ ((w.alloc (.cells #[.int .i64 x0, .int .i64 x1, .int .i64 x2] 54)).alloc (.cells #[.int .i64 y0, .int .i64 y1, .int .i64 y2] 54)).heap.size := by simp; omega
  have B0 := hide (((Below.refl w.heap.size w).alloc (Nat.le_refl _) (.cells #[.int .i64 x0, .int .i64 x1, .int .i64 x2] 54)).alloc (by simp) (.cells #[.int .i64 y0, .int .i64 y1, .int .i64 y2] 54))
  have kx := three_q (show ((w.alloc (.cells #[.int .i64 x0, .int .i64 x1, .int .i64 x2] 54)).alloc (.cells #[.int .i64 y0, .int .i64 y1, .int .i64 y2] 54)).heap[w.heap.size]? = some (.cells #[.int .i64 x0, .int .i64 x1, .int .i64 x2] 54 (0, 0)) by rw [Below.heap_alloc _ _ _ (by simp)]; exact Frl.heap_new w _)
  have ky := three_q (show ((w.alloc (.cells #[.int .i64 x0, .int .i64 x1, .int .i64 x2] 54)).alloc (.cells #[.int .i64 y0, .int .i64 y1, .int .i64 y2] 54)).heap[w.heap.size + 1]? = some (.cells #[.int .i64 y0, .int .i64 y1, .int .i64 y2] 54 (0, 0)) by have := Frl.heap_new (w.alloc (.cells #[.int .i64 x0, .int .i64 x1, .int .i64 x2] 54)) (.cells #[.int .i64 y0, .int .i64 y1, .int .i64 y2] 54); simpa using this)
  have hn : (((w.alloc (.cells #[.int .i64 x0, .int .i64 x1, .int .i64 x2] 54)).alloc (.cells #[.int .i64 y0, .int .i64 y1, .int .i64 y2] 54)).alloc (.cells #[.int .i64 (cmpF x0 y0), .int .i64 (cmpF x1 y1)] 3)).heap[w.heap.size + 1 + 1]? = some (.cells #[.int .i64 (cmpF x0 y0), .int .i64 (cmpF x1 y1)] 3 (0, 0)) := by
    have := Frl.heap_new ((w.alloc (.cells #[.int .i64 x0, .int .i64 x1, .int .i64 x2] 54)).alloc (.cells #[.int .i64 y0, .int .i64 y1, .int .i64 y2] 54)) (.cells #[.int .i64 (cmpF x0 y0), .int .i64 (cmpF x1 y1)] 3)
    simpa using this
  have HC0 : Hid ((((w.alloc (.cells #[.int .i64 x0, .int .i64 x1, .int .i64 x2] 54)).alloc (.cells #[.int .i64 y0, .int .i64 y1, .int .i64 y2] 54)).alloc (.cells #[.int .i64 (cmpF x0 y0), .int .i64 (cmpF x1 y1)] 3)).drew.cell? ⟨w.heap.size + 1 + 1, 0, none⟩ = some (.int .i64 (cmpF x0 y0))) := hide (by show (((w.alloc (.cells #[.int .i64 x0, .int .i64 x1, .int .i64 x2] 54)).alloc (.cells #[.int .i64 y0, .int .i64 y1, .int .i64 y2] 54)).alloc (.cells #[.int .i64 (cmpF x0 y0), .int .i64 (cmpF x1 y1)] 3)).cell? ⟨w.heap.size + 1 + 1, 0, none⟩ = _; unfold World.cell?; rw [hn]; rfl)
  have HC1 : Hid ((((w.alloc (.cells #[.int .i64 x0, .int .i64 x1, .int .i64 x2] 54)).alloc (.cells #[.int .i64 y0, .int .i64 y1, .int .i64 y2] 54)).alloc (.cells #[.int .i64 (cmpF x0 y0), .int .i64 (cmpF x1 y1)] 3)).drew.cell? ⟨w.heap.size + 1 + 1, 1, none⟩ = some (.int .i64 (cmpF x1 y1))) := hide (by show (((w.alloc (.cells #[.int .i64 x0, .int .i64 x1, .int .i64 x2] 54)).alloc (.cells #[.int .i64 y0, .int .i64 y1, .int .i64 y2] 54)).alloc (.cells #[.int .i64 (cmpF x0 y0), .int .i64 (cmpF x1 y1)] 3)).cell? ⟨w.heap.size + 1 + 1, 1, none⟩ = _; unfold World.cell?; rw [hn]; rfl)
  have BF := hide (((unhide B0).alloc hw2 (.cells #[.int .i64 (cmpF x0 y0), .int .i64 (cmpF x1 y1)] 3)).trans ((drew_below (((w.alloc (.cells #[.int .i64 x0, .int .i64 x1, .int .i64 x2] 54)).alloc (.cells #[.int .i64 y0, .int .i64 y1, .int .i64 y2] 54)).alloc (.cells #[.int .i64 (cmpF x0 y0), .int .i64 (cmpF x1 y1)] 3))).mono (by simp; omega)))
  clear hn hw2 CA CB B0
  go_enter Try.func48, Try.ntmps48
  go_upto_region 1 with fail
  have KS := (show (fun w' => w'.cell? ⟨w.heap.size, 0, none⟩ = some (.int .i64 x0) ∧ w'.cell? ⟨w.heap.size, 1, none⟩ = some (.int .i64 x1) ∧ w'.cell? ⟨w.heap.size + 1, 0, none⟩ = some (.int .i64 y0) ∧ w'.cell? ⟨w.heap.size + 1, 1, none⟩ = some (.int .i64 y1)) ((w.alloc (.cells #[.int .i64 x0, .int .i64 x1, .int .i64 x2] 54)).alloc (.cells #[.int .i64 y0, .int .i64 y1, .int .i64 y2] 54)) from ⟨kx.1, kx.2.1, ky.1, ky.2.1⟩)
  have KS2 := (show (fun w' => w'.cell? ⟨w.heap.size, 0, none⟩ = some (.int .i64 x0) ∧ w'.cell? ⟨w.heap.size, 1, none⟩ = some (.int .i64 x1) ∧ w'.cell? ⟨w.heap.size + 1, 0, none⟩ = some (.int .i64 y0) ∧ w'.cell? ⟨w.heap.size + 1, 1, none⟩ = some (.int .i64 y1)) (((w.alloc (.cells #[.int .i64 x0, .int .i64 x1, .int .i64 x2] 54)).alloc (.cells #[.int .i64 y0, .int .i64 y1, .int .i64 y2] 54)).alloc (.cells #[.int .i64 (cmpF x0 y0), .int .i64 (cmpF x1 y1)] 3)) from ⟨cell_alloc kx.1 _, cell_alloc kx.2.1 _, cell_alloc ky.1 _, cell_alloc ky.2.1 _⟩)
  refine wp_region_held_drew (S := fun w' => w'.cell? ⟨w.heap.size, 0, none⟩ = some (.int .i64 x0) ∧ w'.cell? ⟨w.heap.size, 1, none⟩ = some (.int .i64 x1) ∧ w'.cell? ⟨w.heap.size + 1, 0, none⟩ = some (.int .i64 y0) ∧ w'.cell? ⟨w.heap.size + 1, 1, none⟩ = some (.int .i64 y1)) (by kernel_rfl) (by first | go_keep | exact KS) (fun hHeld => ?_)
  refine tkF (i := 0) (d := some 5) (v := ?_) rfl rfl (by kernel_rfl) (by kernel_rfl) (by kernel_rfl) (fun _ _ _ h => h) (Or.inl ⟨by rfl, ?_⟩) (by assumption) ?_
  rotate_left
  · intro w hSw; (try dsimp only at hSw); go_simp; try with_reducible rfl
  try simp only [Act.put, List.setIfInBounds_toArray, List.set_cons_zero, List.set_cons_succ]
  refine tkF (i := 1) (d := some 6) (v := ?_) rfl rfl (by kernel_rfl) (by kernel_rfl) (by kernel_rfl) (fun _ _ _ h => h) (Or.inl ⟨by rfl, ?_⟩) (by assumption) ?_
  rotate_left
  · intro w hSw; (try dsimp only at hSw); go_simp; try with_reducible rfl
  try simp only [Act.put, List.setIfInBounds_toArray, List.set_cons_zero, List.set_cons_succ]
  refine tkF (i := 2) (d := some 7) (v := ?_) rfl rfl (by kernel_rfl) (by kernel_rfl) (by kernel_rfl) (fun _ _ _ h => h) (Or.inl ⟨by rfl, ?_⟩) (by assumption) ?_
  rotate_left
  · intro w hSw; (try dsimp only at hSw); go_simp; try with_reducible rfl
  try simp only [Act.put, List.setIfInBounds_toArray, List.set_cons_zero, List.set_cons_succ]
  refine tkF (i := 3) (d := some 8) (v := ?_) rfl rfl (by kernel_rfl) (by kernel_rfl) (by kernel_rfl) (fun _ _ _ h => h) (Or.inl ⟨by rfl, ?_⟩) (by assumption) ?_
  rotate_left
  · intro w hSw; (try dsimp only at hSw); go_simp; try with_reducible rfl
  try simp only [Act.put, List.setIfInBounds_toArray, List.set_cons_zero, List.set_cons_succ]
  refine tkF (i := 5) (d := some 10) (v := ?_) rfl rfl (by kernel_rfl) (by kernel_rfl) (by kernel_rfl) (fun _ _ _ h => h) (Or.inl ⟨by rfl, ?_⟩) (by assumption) ?_
  rotate_left
  · intro w hSw; (try dsimp only at hSw); go_simp; try with_reducible rfl
  try simp only [Act.put, List.setIfInBounds_toArray, List.set_cons_zero, List.set_cons_succ]
  refine tkF (i := 6) (d := some 11) (v := ?_) rfl rfl (by kernel_rfl) (by kernel_rfl) (by kernel_rfl) (fun _ _ _ h => h) (Or.inl ⟨by rfl, ?_⟩) (by assumption) ?_
  rotate_left
  · intro w hSw; (try dsimp only at hSw); go_simp; try with_reducible rfl
  try simp only [Act.put, List.setIfInBounds_toArray, List.set_cons_zero, List.set_cons_succ]
  refine tkF (i := 7) (d := some 12) (v := ?_) rfl rfl (by kernel_rfl) (by kernel_rfl) (by kernel_rfl) (fun _ _ _ h => h) (Or.inl ⟨by rfl, ?_⟩) (by assumption) ?_
  rotate_left
  · intro w hSw; (try dsimp only at hSw); go_simp; try with_reducible rfl
  try simp only [Act.put, List.setIfInBounds_toArray, List.set_cons_zero, List.set_cons_succ]
  refine tkF (i := 8) (d := some 13) (v := ?_) rfl rfl (by kernel_rfl) (by kernel_rfl) (by kernel_rfl) (fun _ _ _ h => h) (Or.inl ⟨by rfl, ?_⟩) (by assumption) ?_
  rotate_left
  · intro w hSw; (try dsimp only at hSw); go_simp; try with_reducible rfl
  try simp only [Act.put, List.setIfInBounds_toArray, List.set_cons_zero, List.set_cons_succ]
  refine wpAnyH_ready (rs := [4]) (by kernel_rfl) (by simp) (AllReadyH.cons rfl (fun K hK => ?_) AllReadyH.nil)
  go_simp
  go_at_call 59
  refine (compareF _ _ _).mono ?_
  rintro e w3 ⟨rfl, e3⟩
  have f3 := e3.symm
  subst f3
  clear e3
  try go_wp2_with fail
  refine hK.out _ _ KS (fun hHeld3 => ?_)
  clear hK K
  try simp only [Act.put, List.setIfInBounds_toArray, List.set_cons_zero, List.set_cons_succ]
  refine wpAnyH_ready (rs := [9]) (by kernel_rfl) (by simp) (AllReadyH.cons rfl (fun K hK => ?_) AllReadyH.nil)
  go_simp
  go_at_call 59
  refine (compareF _ _ _).mono ?_
  rintro e w6 ⟨rfl, e6⟩
  have f6 := e6.symm
  subst f6
  clear e6
  try go_wp2_with fail
  refine hK.out _ _ KS (fun hHeld6 => ?_)
  clear hK K
  try simp only [Act.put, List.setIfInBounds_toArray, List.set_cons_zero, List.set_cons_succ]
  refine wpAnyH_ready (rs := [10]) (by kernel_rfl) (by simp) (AllReadyH.cons rfl (fun K hK => ?_) AllReadyH.nil)
  go_simp
  try go_wp2_with fail
  refine hK.out _ _ KS2 (fun hHeld7 => ?_)
  clear hK K
  try simp only [Act.put, List.setIfInBounds_toArray, List.set_cons_zero, List.set_cons_succ]
  refine wpAnyH_ready (rs := [11]) (by kernel_rfl) (by simp) (AllReadyH.cons rfl (fun K hK => ?_) AllReadyH.nil)
  go_simp
  go_at_call 58
  refine (or_any _ (cmpF x0 y0) (cmpF x1 y1) _ (unhide HC0) (unhide HC1)).mono ?_
  rintro e w8 ⟨rfl, e8⟩
  have f8 := e8.symm
  subst f8
  clear e8
  try go_wp2_with fail
  refine hK.out _ _ KS2 (fun hHeld8 => ?_)
  clear hK K
  try simp only [Act.put, List.setIfInBounds_toArray, List.set_cons_zero, List.set_cons_succ]
  refine tkF (i := 12) (d := some 4) (v := ?_) rfl rfl (by kernel_rfl) (by kernel_rfl) (by kernel_rfl) (fun _ _ _ h => h) (Or.inl ⟨by rfl, ?_⟩) (by assumption) ?_
  rotate_left
  · intro w hSw; (try dsimp only at hSw); go_simp; try with_reducible rfl
  try simp only [Act.put, List.setIfInBounds_toArray, List.set_cons_zero, List.set_cons_succ]
  refine wpAnyH_done (by kernel_rfl) ?_ _
  go_wp2
  go_ret
  exact ⟨_, rfl, unhide HK, unhide BF⟩
/-- The first k kerns are right and in order. -/
def krk (L : List Sp) : Nat → Bool
  | 0 => true
  | k + 1 => krk L k && (decide (-1000 ≤ (gx L k).2.2) && decide ((gx L k).2.2 ≤ 1000) && (decide (k = 0) || klt (gx L (k - 1)) (gx L k)))
def krn (L : List Sp) : Bool := decide (L.length ≤ 200) && krk L L.length
theorem krk_bad {L : List Sp} {k n : Nat} (h : k < n) (hb : (decide (-1000 ≤ (gx L k).2.2) && decide ((gx L k).2.2 ≤ 1000) && (decide (k = 0) || klt (gx L (k - 1)) (gx L k))) = false) : krk L n = false := by
  induction n with
  | zero => omega
  | succ n ih =>
    unfold krk
    by_cases e : k = n
    · subst e; rw [hb, Bool.and_false]
    · rw [ih (by omega), Bool.false_and]
theorem krn_long {L : List Sp} (h : 200 < L.length) : krn L = false := by unfold krn; rw [decide_eq_false (by omega), Bool.false_and]
theorem krn_bad {L : List Sp} {k : Nat} (h : k < L.length) (hb : (decide (-1000 ≤ (gx L k).2.2) && decide ((gx L k).2.2 ≤ 1000) && (decide (k = 0) || klt (gx L (k - 1)) (gx L k))) = false) : krn L = false := by unfold krn; rw [krk_bad h hb, Bool.and_false]
theorem krn_ok {L : List Sp} (h : L.length ≤ 200) (hb : krk L L.length = true) : krn L = true := by unfold krn; rw [decide_eq_true h, hb]; rfl
set_option maxRecDepth 100000 in
set_option maxHeartbeats 8000000 in
theorem areKerns_any (v : Value) (L : List Sp) (B : Nat) (w : World) (h : Krn.SpRow w B v L) (hl : L.length ≤ 1048576) :
    Calls Try.prog 30 #[v] w fun e w' => e = .returned (.bool (krn L)) ∧ Below w.heap.size w w' := by
  obtain ⟨a, c, rfl, hg⟩ := h.form
  have H := hide h
  have G := hide hg
  have hU : undef = Value.tuple #[] := rfl
  clear h hg
  by_cases t : 200 < L.length
  · have t' : (200 : Int) < (L.length : Int) := by omega
    have HZ := hide (krn_long t)
    generalize krn L = Z at *
    go_enter Try.func30, Try.ntmps30
    go_wp2
    go_ret
    exact ⟨by rw [unhide HZ]; rfl, Below.refl _ _⟩
  have t' : ¬ (200 : Int) < (L.length : Int) := by omega
  have HBad := hide (fun k hk hb => krn_bad (L := L) (k := k) hk hb)
  have HOk := hide (fun hb => krn_ok (L := L) (by omega) hb)
  generalize krn L = Z at *
  go_enter Try.func30, Try.ntmps30
  go_wp2
  go_loopw [10] (fun i wr => ∃ k : Nat, k ≤ L.length ∧ i = .int .i64 k ∧ Hid (krk L k = true) ∧ Hid (Below w.heap.size w wr)) (fun i _ => L.length - (intOf i).toNat)
  case atStart => exact ⟨0, Nat.zero_le _, rfl, hide rfl, hide (Below.refl _ _)⟩
  case round =>
    obtain ⟨k, hk, rfl, HK, HB⟩ := hrel
    by_cases hlt : k < L.length
    · have hlt' : (k : Int) < (L.length : Int) := by omega
      obtain ⟨g, rfl, _, hgs⟩ := (unhide G) (by omega)
      obtain ⟨x0, x1, x2⟩ := ((unhide H).below (unhide HB)).read k hlt
      have hB := (unhide HBad) k hlt
      have HB2 := hide hB
      have hK : Hid ((decide (-1000 ≤ (gx L k).2.2) && decide ((gx L k).2.2 ≤ 1000) && (decide (k = 0) || klt (gx L (k - 1)) (gx L k))) = true → krk L (k + 1) = true) := hide (fun e => by
        unfold krk
        rw [unhide HK, e]; rfl)
      have CW := hide (fun W => Frl.within_any (gx L k).2.2 (-1000) 1000 W)
      have B2 := hide ((unhide HB).alloc (unhide HB).size (.cells #[.int .i64 (gx L k).1, .int .i64 (gx L k).2.1, .int .i64 (gx L k).2.2] 54))
      have hgr : g < wr.heap.size := Nat.lt_of_lt_of_le hgs (unhide HB).size
      have HP : Hid (∀ m, k = m + 1 → (wr.cell? ⟨g, m * 3, none⟩ = some (.int .i64 (gx L m).1) ∧ wr.cell? ⟨g, m * 3 + 1, none⟩ = some (.int .i64 (gx L m).2.1) ∧ wr.cell? ⟨g, m * 3 + 2, none⟩ = some (.int .i64 (gx L m).2.2))) := hide (fun m hm => ((unhide H).below (unhide HB)).read m (by omega))
      have hq := Frl.heap_new wr (.cells #[.int .i64 (gx L k).1, .int .i64 (gx L k).2.1, .int .i64 (gx L k).2.2] 54)
      have hqa : wr.heap.size < (wr.alloc (.cells #[.int .i64 (gx L k).1, .int .i64 (gx L k).2.1, .int .i64 (gx L k).2.2] 54)).heap.size := by simp
      have hga : g < (wr.alloc (.cells #[.int .i64 (gx L k).1, .int .i64 (gx L k).2.1, .int .i64 (gx L k).2.2] 54)).heap.size := by simp; omega
      clear hB
      cases o : (decide (-1000 ≤ (gx L k).2.2) && decide ((gx L k).2.2 ≤ 1000))
      · have HZ := hide ((unhide HB2) (by rw [o, Bool.false_and]))
        rw [o] at CW
        clear o hK HB2 HP
        generalize gx L k = r at *
        go_wp2_with fail
        refine ((unhide CW) _).mono ?_
        rintro e w2 ⟨rfl, e2⟩
        have e3 := e2.symm
        subst e3
        clear e2
        go_wp2
        go_ret
        exact ⟨by rw [unhide HZ]; rfl, unhide B2⟩
      · rw [o] at CW
        cases k with
        | zero =>
          have HK2 := hide ((unhide hK) (by rw [o]; rfl))
          clear o hK HB2 HP
          rw [show ((0 : Nat) : Int) = 0 from rfl]
          generalize gx L 0 = r at *
          go_wp2_with fail
          refine ((unhide CW) _).mono ?_
          rintro e w2 ⟨rfl, e2⟩
          have e3 := e2.symm
          subst e3
          clear e2
          go_upto_region 8 with fail
          generalize wr.alloc (.cells #[.int .i64 r.1, .int .i64 r.2.1, .int .i64 r.2.2] 54) = wa at *
          refine wp_region_held_drew (S := fun _ => True) (by kernel_rfl) (by first | go_keep | exact trivial) (fun hHeld => ?_)
          have KS : True := trivial
          refine tkF (i := 0) (d := some 19) (v := ?_) rfl rfl (by kernel_rfl) (by kernel_rfl) (by kernel_rfl) (fun _ _ _ h => h) (Or.inl ⟨by rfl, ?_⟩) (by assumption) ?_
          rotate_left
          · intro w hSw; (try dsimp only at hSw); go_simp; try with_reducible rfl
          try simp only [Act.put, List.setIfInBounds_toArray, List.set_cons_zero, List.set_cons_succ]
          refine tkF (i := 1) (d := some 20) (v := ?_) rfl rfl (by kernel_rfl) (by kernel_rfl) (by kernel_rfl) (fun _ _ _ h => h) (Or.inl ⟨by rfl, ?_⟩) (by assumption) ?_
          rotate_left
          · intro w hSw; (try dsimp only at hSw); go_simp; try with_reducible rfl
          try simp only [Act.put, List.setIfInBounds_toArray, List.set_cons_zero, List.set_cons_succ]
          refine tkF (i := 2) (d := some 21) (v := ?_) rfl rfl (by kernel_rfl) (by kernel_rfl) (by kernel_rfl) (fun _ _ _ h => h) (Or.inl ⟨by rfl, ?_⟩) (by assumption) ?_
          rotate_left
          · intro w hSw; (try dsimp only at hSw); go_simp; try with_reducible rfl
          try simp only [Act.put, List.setIfInBounds_toArray, List.set_cons_zero, List.set_cons_succ]
          refine tkF (i := 3) (d := some 22) (v := undef) rfl rfl (by kernel_rfl) (by kernel_rfl) (by kernel_rfl) (fun _ _ _ h => h) (Or.inr ⟨by rfl, rfl⟩) (by assumption) ?_
          try simp only [Act.put, List.setIfInBounds_toArray, List.set_cons_zero, List.set_cons_succ]
          refine tkF (i := 4) (d := some 23) (v := undef) rfl rfl (by kernel_rfl) (by kernel_rfl) (by kernel_rfl) (fun _ _ _ h => h) (Or.inr ⟨by rfl, rfl⟩) (by assumption) ?_
          try simp only [Act.put, List.setIfInBounds_toArray, List.set_cons_zero, List.set_cons_succ]
          refine tkF (i := 5) (d := some 24) (v := undef) rfl rfl (by kernel_rfl) (by kernel_rfl) (by kernel_rfl) (fun _ _ _ h => h) (Or.inr ⟨by rfl, rfl⟩) (by assumption) ?_
          try simp only [Act.put, List.setIfInBounds_toArray, List.set_cons_zero, List.set_cons_succ]
          refine tkF (i := 6) (d := some 25) (v := undef) rfl rfl (by kernel_rfl) (by kernel_rfl) (by kernel_rfl) (fun _ _ _ h => h) (Or.inr ⟨by rfl, rfl⟩) (by assumption) ?_
          try simp only [Act.put, List.setIfInBounds_toArray, List.set_cons_zero, List.set_cons_succ]
          refine tkF (i := 7) (d := some 26) (v := undef) rfl rfl (by kernel_rfl) (by kernel_rfl) (by kernel_rfl) (fun _ _ _ h => h) (Or.inr ⟨by rfl, rfl⟩) (by assumption) ?_
          try simp only [Act.put, List.setIfInBounds_toArray, List.set_cons_zero, List.set_cons_succ]
          refine tkF (i := 8) (d := some 27) (v := undef) rfl rfl (by kernel_rfl) (by kernel_rfl) (by kernel_rfl) (fun _ _ _ h => h) (Or.inr ⟨by rfl, rfl⟩) (by assumption) ?_
          try simp only [Act.put, List.setIfInBounds_toArray, List.set_cons_zero, List.set_cons_succ]
          refine tkF (i := 9) (d := some 28) (v := undef) rfl rfl (by kernel_rfl) (by kernel_rfl) (by kernel_rfl) (fun _ _ _ h => h) (Or.inr ⟨by rfl, rfl⟩) (by assumption) ?_
          try simp only [Act.put, List.setIfInBounds_toArray, List.set_cons_zero, List.set_cons_succ]
          refine tkF (i := 10) (d := some 29) (v := undef) rfl rfl (by kernel_rfl) (by kernel_rfl) (by kernel_rfl) (fun _ _ _ h => h) (Or.inr ⟨by rfl, rfl⟩) (by assumption) ?_
          try simp only [Act.put, List.setIfInBounds_toArray, List.set_cons_zero, List.set_cons_succ]
          refine tkF (i := 11) (d := some 30) (v := ?_) rfl rfl (by kernel_rfl) (by kernel_rfl) (by kernel_rfl) (fun _ _ _ h => h) (Or.inl ⟨by rfl, ?_⟩) (by assumption) ?_
          rotate_left
          · intro w hSw; (try dsimp only at hSw); go_simp; try with_reducible rfl
          try simp only [Act.put, List.setIfInBounds_toArray, List.set_cons_zero, List.set_cons_succ]
          refine wpAnyH_done (by kernel_rfl) ?_ _
          have B5 := hide ((unhide B2).trans ((drew_below wa).mono (unhide B2).size))
          go_wp2
          go_roundw
          case rel => exact ⟨0 + 1, by omega, by go_num, HK2, B5⟩
          case measure => simp [intOf]; omega
        | succ m =>
          obtain ⟨p0, p1, p2⟩ := (unhide HP) m rfl
          have hcast : ((m + 1 : Nat) : Int) = (m : Int) + 1 := by omega
          have hm2 : (m : Int) + 1 - 1 = (m : Int) := by omega
          have pa : (0 : Int) < (m : Int) + 1 := by omega
          have pd : decide ((0 : Int) < (m : Int) + 1) = true := decide_eq_true pa
          have pn : (0 : Int) ≤ (m : Int) := by omega
          have pb : (m : Int) < (L.length : Int) := by omega
          have ra : IntKind.i64.wrap (m : Int) = (m : Int) := wrap_in _ (by omega) (by omega)
          obtain ⟨kl, hkl⟩ : ∃ kl, klt (gx L m) (gx L (m + 1)) = kl := ⟨_, rfl⟩
          have CK := hide (fun W => compareK (gx L m).1 (gx L m).2.1 (gx L m).2.2 (gx L (m + 1)).1 (gx L (m + 1)).2.1 (gx L (m + 1)).2.2 W)
          have hkl2 : klt ((gx L m).1, (gx L m).2.1, (gx L m).2.2) ((gx L (m + 1)).1, (gx L (m + 1)).2.1, (gx L (m + 1)).2.2) = kl := hkl
          have HFull : Hid ((decide (-1000 ≤ (gx L (m + 1)).2.2) && decide ((gx L (m + 1)).2.2 ≤ 1000) && (decide (m + 1 = 0) || klt (gx L (m + 1 - 1)) (gx L (m + 1)))) = kl) := hide (by rw [o, show m + 1 - 1 = m by omega, hkl, decide_eq_false (by omega)]; rfl)
          rw [unhide HFull] at HB2 hK
          rw [hcast] at hlt' ⊢
          clear o HP HFull hkl hcast
          have hkl := hkl2
          clear hkl2
          generalize gx L (m + 1) = r at *
          generalize gx L m = a at *
          cases kl
          · have HZ := hide ((unhide HB2) rfl)
            go_wp2_with fail
            refine ((unhide CW) _).mono ?_
            rintro e w2 ⟨rfl, e2⟩
            have e3 := e2.symm
            subst e3
            clear e2
            go_upto_region 8 with fail
            have p0 := cell_alloc p0 (.cells #[.int .i64 r.1, .int .i64 r.2.1, .int .i64 r.2.2] 54)
            have p1 := cell_alloc p1 (.cells #[.int .i64 r.1, .int .i64 r.2.1, .int .i64 r.2.2] 54)
            have p2 := cell_alloc p2 (.cells #[.int .i64 r.1, .int .i64 r.2.1, .int .i64 r.2.2] 54)
            obtain ⟨q0, q1, q2⟩ := three_q hq
            generalize wr.alloc (.cells #[.int .i64 r.1, .int .i64 r.2.1, .int .i64 r.2.2] 54) = wa at *
            obtain ⟨q, hqq⟩ : ∃ q, q = wr.heap.size := ⟨_, rfl⟩
            rw [← hqq] at q0 q1 q2 hqa ⊢
            clear hqq hq
            have KS := (show (fun w' => w'.cell? ⟨g, m * 3, none⟩ = some (.int .i64 a.1) ∧ w'.cell? ⟨g, m * 3 + 1, none⟩ = some (.int .i64 a.2.1) ∧ w'.cell? ⟨g, m * 3 + 2, none⟩ = some (.int .i64 a.2.2) ∧ w'.cell? ⟨q, 0, none⟩ = some (.int .i64 r.1) ∧ w'.cell? ⟨q, 1, none⟩ = some (.int .i64 r.2.1) ∧ w'.cell? ⟨q, 2, none⟩ = some (.int .i64 r.2.2)) wa from ⟨p0, p1, p2, q0, q1, q2⟩)
            refine wp_region_held_drew (S := fun w' => w'.cell? ⟨g, m * 3, none⟩ = some (.int .i64 a.1) ∧ w'.cell? ⟨g, m * 3 + 1, none⟩ = some (.int .i64 a.2.1) ∧ w'.cell? ⟨g, m * 3 + 2, none⟩ = some (.int .i64 a.2.2) ∧ w'.cell? ⟨q, 0, none⟩ = some (.int .i64 r.1) ∧ w'.cell? ⟨q, 1, none⟩ = some (.int .i64 r.2.1) ∧ w'.cell? ⟨q, 2, none⟩ = some (.int .i64 r.2.2)) (by kernel_rfl) (by first | go_keep | exact KS) (fun hHeld => ?_)
            refine tkF (i := 0) (d := some 19) (v := ?_) rfl rfl (by kernel_rfl) (by kernel_rfl) (by kernel_rfl) (fun _ _ _ h => h) (Or.inl ⟨by rfl, ?_⟩) (by assumption) ?_
            rotate_left
            · intro w hSw; (try dsimp only at hSw); go_simp; try with_reducible rfl
            try simp only [Act.put, List.setIfInBounds_toArray, List.set_cons_zero, List.set_cons_succ]
            refine tkF (i := 1) (d := some 20) (v := ?_) rfl rfl (by kernel_rfl) (by kernel_rfl) (by kernel_rfl) (fun _ _ _ h => h) (Or.inl ⟨by rfl, ?_⟩) (by assumption) ?_
            rotate_left
            · intro w hSw; (try dsimp only at hSw); go_simp; try with_reducible rfl
            try simp only [Act.put, List.setIfInBounds_toArray, List.set_cons_zero, List.set_cons_succ]
            refine tkF (i := 2) (d := some 21) (v := ?_) rfl rfl (by kernel_rfl) (by kernel_rfl) (by kernel_rfl) (fun _ _ _ h => h) (Or.inl ⟨by rfl, ?_⟩) (by assumption) ?_
            rotate_left
            · intro w hSw; (try dsimp only at hSw); go_simp; try with_reducible rfl
            try simp only [Act.put, List.setIfInBounds_toArray, List.set_cons_zero, List.set_cons_succ]
            refine tkF (i := 3) (d := some 22) (v := ?_) rfl rfl (by kernel_rfl) (by kernel_rfl) (by kernel_rfl) (fun _ _ _ h => h) (Or.inl ⟨by rfl, ?_⟩) (by assumption) ?_
            rotate_left
            · intro w hSw; (try dsimp only at hSw); go_simp; try with_reducible rfl
            try simp only [Act.put, List.setIfInBounds_toArray, List.set_cons_zero, List.set_cons_succ]
            refine tkF (i := 4) (d := some 23) (v := ?_) rfl rfl (by kernel_rfl) (by kernel_rfl) (by kernel_rfl) (fun _ _ _ h => h) (Or.inl ⟨by rfl, ?_⟩) (by assumption) ?_
            rotate_left
            · intro w hSw; (try dsimp only at hSw); go_simp; try with_reducible rfl
            try simp only [Act.put, List.setIfInBounds_toArray, List.set_cons_zero, List.set_cons_succ]
            refine tkF (i := 5) (d := some 24) (v := ?_) rfl rfl (by kernel_rfl) (by kernel_rfl) (by kernel_rfl) (fun _ _ _ h => h) (Or.inl ⟨by rfl, ?_⟩) (by assumption) ?_
            rotate_left
            · intro w hSw; (try dsimp only at hSw); go_simp; try with_reducible rfl
            try simp only [Act.put, List.setIfInBounds_toArray, List.set_cons_zero, List.set_cons_succ]
            refine tkF (i := 6) (d := some 25) (v := ?_) rfl rfl (by kernel_rfl) (by kernel_rfl) (by kernel_rfl) (fun _ _ _ h => h) (Or.inl ⟨by rfl, ?_⟩) (by assumption) ?_
            rotate_left
            · intro w hSw; (try dsimp only at hSw); go_simp; try with_reducible rfl
            try simp only [Act.put, List.setIfInBounds_toArray, List.set_cons_zero, List.set_cons_succ]
            refine tkF (i := 7) (d := some 26) (v := ?_) rfl rfl (by kernel_rfl) (by kernel_rfl) (by kernel_rfl) (fun _ _ _ h => h) (Or.inl ⟨by rfl, ?_⟩) (by assumption) ?_
            rotate_left
            · intro w hSw; (try dsimp only at hSw); go_simp; try with_reducible rfl
            try simp only [Act.put, List.setIfInBounds_toArray, List.set_cons_zero, List.set_cons_succ]
            refine tkF (i := 8) (d := some 27) (v := ?_) rfl rfl (by kernel_rfl) (by kernel_rfl) (by kernel_rfl) (fun _ _ _ h => h) (Or.inl ⟨by rfl, ?_⟩) (by assumption) ?_
            rotate_left
            · intro w hSw; (try dsimp only at hSw); go_simp; try with_reducible rfl
            try simp only [Act.put, List.setIfInBounds_toArray, List.set_cons_zero, List.set_cons_succ]
            refine wpAnyH_ready (rs := [9]) (by kernel_rfl) (by simp) (AllReadyH.cons rfl (fun K hK => ?_) AllReadyH.nil)
            go_simp
            go_at_call 48
            refine ((unhide CK) _).mono ?_
            rintro e w5 ⟨cz, rfl, hcz, hb5⟩
            have KS5 : (fun w' => w'.cell? ⟨g, m * 3, none⟩ = some (.int .i64 a.1) ∧ w'.cell? ⟨g, m * 3 + 1, none⟩ = some (.int .i64 a.2.1) ∧ w'.cell? ⟨g, m * 3 + 2, none⟩ = some (.int .i64 a.2.2) ∧ w'.cell? ⟨q, 0, none⟩ = some (.int .i64 r.1) ∧ w'.cell? ⟨q, 1, none⟩ = some (.int .i64 r.2.1) ∧ w'.cell? ⟨q, 2, none⟩ = some (.int .i64 r.2.2)) w5 := ⟨(((drew_below wa).trans hb5).cell (p := ⟨g, m * 3, none⟩) hga).trans p0, (((drew_below wa).trans hb5).cell (p := ⟨g, m * 3 + 1, none⟩) hga).trans p1, (((drew_below wa).trans hb5).cell (p := ⟨g, m * 3 + 2, none⟩) hga).trans p2, (((drew_below wa).trans hb5).cell (p := ⟨q, 0, none⟩) hqa).trans q0, (((drew_below wa).trans hb5).cell (p := ⟨q, 1, none⟩) hqa).trans q1, (((drew_below wa).trans hb5).cell (p := ⟨q, 2, none⟩) hqa).trans q2⟩
            have B5 := hide ((unhide B2).trans (((drew_below wa).trans hb5).mono (unhide B2).size))
            rw [hkl] at hcz
            have hcz2 : (0 : Int) ≤ cz := by simpa using hcz
            clear hb5
            try go_wp2_with fail
            refine hK.out _ _ KS5 (fun hHeld5 => ?_)
            clear hK K hHeld
            try simp only [Act.put, List.setIfInBounds_toArray, List.set_cons_zero, List.set_cons_succ]
            refine tkF (i := 10) (d := some 29) (v := ?_) rfl rfl (by kernel_rfl) (by kernel_rfl) (by kernel_rfl) (fun _ _ _ h => h) (Or.inl ⟨by rfl, ?_⟩) (by assumption) ?_
            rotate_left
            · intro w hSw; (try dsimp only at hSw); go_simp; try with_reducible rfl
            try simp only [Act.put, List.setIfInBounds_toArray, List.set_cons_zero, List.set_cons_succ]
            refine tkF (i := 11) (d := some 30) (v := ?_) rfl rfl (by kernel_rfl) (by kernel_rfl) (by kernel_rfl) (fun _ _ _ h => h) (Or.inl ⟨by rfl, ?_⟩) (by assumption) ?_
            rotate_left
            · intro w hSw; (try dsimp only at hSw); go_simp; try with_reducible rfl
            try simp only [Act.put, List.setIfInBounds_toArray, List.set_cons_zero, List.set_cons_succ]
            refine wpAnyH_done (by kernel_rfl) ?_ _
            go_wp2
            go_ret
            exact ⟨by rw [unhide HZ]; rfl, unhide B5⟩
          · have HK2 := hide ((unhide hK) rfl)
            go_wp2_with fail
            refine ((unhide CW) _).mono ?_
            rintro e w2 ⟨rfl, e2⟩
            have e3 := e2.symm
            subst e3
            clear e2
            go_upto_region 8 with fail
            have p0 := cell_alloc p0 (.cells #[.int .i64 r.1, .int .i64 r.2.1, .int .i64 r.2.2] 54)
            have p1 := cell_alloc p1 (.cells #[.int .i64 r.1, .int .i64 r.2.1, .int .i64 r.2.2] 54)
            have p2 := cell_alloc p2 (.cells #[.int .i64 r.1, .int .i64 r.2.1, .int .i64 r.2.2] 54)
            obtain ⟨q0, q1, q2⟩ := three_q hq
            generalize wr.alloc (.cells #[.int .i64 r.1, .int .i64 r.2.1, .int .i64 r.2.2] 54) = wa at *
            obtain ⟨q, hqq⟩ : ∃ q, q = wr.heap.size := ⟨_, rfl⟩
            rw [← hqq] at q0 q1 q2 hqa ⊢
            clear hqq hq
            have KS := (show (fun w' => w'.cell? ⟨g, m * 3, none⟩ = some (.int .i64 a.1) ∧ w'.cell? ⟨g, m * 3 + 1, none⟩ = some (.int .i64 a.2.1) ∧ w'.cell? ⟨g, m * 3 + 2, none⟩ = some (.int .i64 a.2.2) ∧ w'.cell? ⟨q, 0, none⟩ = some (.int .i64 r.1) ∧ w'.cell? ⟨q, 1, none⟩ = some (.int .i64 r.2.1) ∧ w'.cell? ⟨q, 2, none⟩ = some (.int .i64 r.2.2)) wa from ⟨p0, p1, p2, q0, q1, q2⟩)
            refine wp_region_held_drew (S := fun w' => w'.cell? ⟨g, m * 3, none⟩ = some (.int .i64 a.1) ∧ w'.cell? ⟨g, m * 3 + 1, none⟩ = some (.int .i64 a.2.1) ∧ w'.cell? ⟨g, m * 3 + 2, none⟩ = some (.int .i64 a.2.2) ∧ w'.cell? ⟨q, 0, none⟩ = some (.int .i64 r.1) ∧ w'.cell? ⟨q, 1, none⟩ = some (.int .i64 r.2.1) ∧ w'.cell? ⟨q, 2, none⟩ = some (.int .i64 r.2.2)) (by kernel_rfl) (by first | go_keep | exact KS) (fun hHeld => ?_)
            refine tkF (i := 0) (d := some 19) (v := ?_) rfl rfl (by kernel_rfl) (by kernel_rfl) (by kernel_rfl) (fun _ _ _ h => h) (Or.inl ⟨by rfl, ?_⟩) (by assumption) ?_
            rotate_left
            · intro w hSw; (try dsimp only at hSw); go_simp; try with_reducible rfl
            try simp only [Act.put, List.setIfInBounds_toArray, List.set_cons_zero, List.set_cons_succ]
            refine tkF (i := 1) (d := some 20) (v := ?_) rfl rfl (by kernel_rfl) (by kernel_rfl) (by kernel_rfl) (fun _ _ _ h => h) (Or.inl ⟨by rfl, ?_⟩) (by assumption) ?_
            rotate_left
            · intro w hSw; (try dsimp only at hSw); go_simp; try with_reducible rfl
            try simp only [Act.put, List.setIfInBounds_toArray, List.set_cons_zero, List.set_cons_succ]
            refine tkF (i := 2) (d := some 21) (v := ?_) rfl rfl (by kernel_rfl) (by kernel_rfl) (by kernel_rfl) (fun _ _ _ h => h) (Or.inl ⟨by rfl, ?_⟩) (by assumption) ?_
            rotate_left
            · intro w hSw; (try dsimp only at hSw); go_simp; try with_reducible rfl
            try simp only [Act.put, List.setIfInBounds_toArray, List.set_cons_zero, List.set_cons_succ]
            refine tkF (i := 3) (d := some 22) (v := ?_) rfl rfl (by kernel_rfl) (by kernel_rfl) (by kernel_rfl) (fun _ _ _ h => h) (Or.inl ⟨by rfl, ?_⟩) (by assumption) ?_
            rotate_left
            · intro w hSw; (try dsimp only at hSw); go_simp; try with_reducible rfl
            try simp only [Act.put, List.setIfInBounds_toArray, List.set_cons_zero, List.set_cons_succ]
            refine tkF (i := 4) (d := some 23) (v := ?_) rfl rfl (by kernel_rfl) (by kernel_rfl) (by kernel_rfl) (fun _ _ _ h => h) (Or.inl ⟨by rfl, ?_⟩) (by assumption) ?_
            rotate_left
            · intro w hSw; (try dsimp only at hSw); go_simp; try with_reducible rfl
            try simp only [Act.put, List.setIfInBounds_toArray, List.set_cons_zero, List.set_cons_succ]
            refine tkF (i := 5) (d := some 24) (v := ?_) rfl rfl (by kernel_rfl) (by kernel_rfl) (by kernel_rfl) (fun _ _ _ h => h) (Or.inl ⟨by rfl, ?_⟩) (by assumption) ?_
            rotate_left
            · intro w hSw; (try dsimp only at hSw); go_simp; try with_reducible rfl
            try simp only [Act.put, List.setIfInBounds_toArray, List.set_cons_zero, List.set_cons_succ]
            refine tkF (i := 6) (d := some 25) (v := ?_) rfl rfl (by kernel_rfl) (by kernel_rfl) (by kernel_rfl) (fun _ _ _ h => h) (Or.inl ⟨by rfl, ?_⟩) (by assumption) ?_
            rotate_left
            · intro w hSw; (try dsimp only at hSw); go_simp; try with_reducible rfl
            try simp only [Act.put, List.setIfInBounds_toArray, List.set_cons_zero, List.set_cons_succ]
            refine tkF (i := 7) (d := some 26) (v := ?_) rfl rfl (by kernel_rfl) (by kernel_rfl) (by kernel_rfl) (fun _ _ _ h => h) (Or.inl ⟨by rfl, ?_⟩) (by assumption) ?_
            rotate_left
            · intro w hSw; (try dsimp only at hSw); go_simp; try with_reducible rfl
            try simp only [Act.put, List.setIfInBounds_toArray, List.set_cons_zero, List.set_cons_succ]
            refine tkF (i := 8) (d := some 27) (v := ?_) rfl rfl (by kernel_rfl) (by kernel_rfl) (by kernel_rfl) (fun _ _ _ h => h) (Or.inl ⟨by rfl, ?_⟩) (by assumption) ?_
            rotate_left
            · intro w hSw; (try dsimp only at hSw); go_simp; try with_reducible rfl
            try simp only [Act.put, List.setIfInBounds_toArray, List.set_cons_zero, List.set_cons_succ]
            refine wpAnyH_ready (rs := [9]) (by kernel_rfl) (by simp) (AllReadyH.cons rfl (fun K hK => ?_) AllReadyH.nil)
            go_simp
            go_at_call 48
            refine ((unhide CK) _).mono ?_
            rintro e w5 ⟨cz, rfl, hcz, hb5⟩
            have KS5 : (fun w' => w'.cell? ⟨g, m * 3, none⟩ = some (.int .i64 a.1) ∧ w'.cell? ⟨g, m * 3 + 1, none⟩ = some (.int .i64 a.2.1) ∧ w'.cell? ⟨g, m * 3 + 2, none⟩ = some (.int .i64 a.2.2) ∧ w'.cell? ⟨q, 0, none⟩ = some (.int .i64 r.1) ∧ w'.cell? ⟨q, 1, none⟩ = some (.int .i64 r.2.1) ∧ w'.cell? ⟨q, 2, none⟩ = some (.int .i64 r.2.2)) w5 := ⟨(((drew_below wa).trans hb5).cell (p := ⟨g, m * 3, none⟩) hga).trans p0, (((drew_below wa).trans hb5).cell (p := ⟨g, m * 3 + 1, none⟩) hga).trans p1, (((drew_below wa).trans hb5).cell (p := ⟨g, m * 3 + 2, none⟩) hga).trans p2, (((drew_below wa).trans hb5).cell (p := ⟨q, 0, none⟩) hqa).trans q0, (((drew_below wa).trans hb5).cell (p := ⟨q, 1, none⟩) hqa).trans q1, (((drew_below wa).trans hb5).cell (p := ⟨q, 2, none⟩) hqa).trans q2⟩
            have B5 := hide ((unhide B2).trans (((drew_below wa).trans hb5).mono (unhide B2).size))
            rw [hkl] at hcz
            have hcz2 : ¬ (0 : Int) ≤ cz := by simpa using hcz
            clear hb5
            try go_wp2_with fail
            refine hK.out _ _ KS5 (fun hHeld5 => ?_)
            clear hK K hHeld
            try simp only [Act.put, List.setIfInBounds_toArray, List.set_cons_zero, List.set_cons_succ]
            refine tkF (i := 10) (d := some 29) (v := ?_) rfl rfl (by kernel_rfl) (by kernel_rfl) (by kernel_rfl) (fun _ _ _ h => h) (Or.inl ⟨by rfl, ?_⟩) (by assumption) ?_
            rotate_left
            · intro w hSw; (try dsimp only at hSw); go_simp; try with_reducible rfl
            try simp only [Act.put, List.setIfInBounds_toArray, List.set_cons_zero, List.set_cons_succ]
            refine tkF (i := 11) (d := some 30) (v := ?_) rfl rfl (by kernel_rfl) (by kernel_rfl) (by kernel_rfl) (fun _ _ _ h => h) (Or.inl ⟨by rfl, ?_⟩) (by assumption) ?_
            rotate_left
            · intro w hSw; (try dsimp only at hSw); go_simp; try with_reducible rfl
            try simp only [Act.put, List.setIfInBounds_toArray, List.set_cons_zero, List.set_cons_succ]
            refine wpAnyH_done (by kernel_rfl) ?_ _
            go_wp2
            go_roundw
            case rel => exact ⟨m + 1 + 1, by omega, by go_num, HK2, B5⟩
            case measure => simp [intOf]; omega
    · obtain rfl : k = L.length := by omega
      have HZ := hide ((unhide HOk) (unhide HK))
      go_wp2
      go_ret
      exact ⟨by rw [unhide HZ]; rfl, unhide HB⟩
end Go.Proofs.Ytccnjjkechdknaa.Fnt
