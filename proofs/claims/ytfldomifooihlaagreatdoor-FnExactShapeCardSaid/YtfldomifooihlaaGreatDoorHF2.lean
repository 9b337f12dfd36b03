/- Several texts in one. -/
import Derived.Test.YtfldomifooihlaaGreatDoorHA
import Derived.Test.YtfldomifooihlaaGreatDoorHF1
import Derived.Deep.RegionWith
import Derived.Deep.RegionHeld3
import Derived.Deep.Cut
import Derived.Deep.CutRange
/- Measures: spans whose values are within bounds. -/
namespace Go.Proofs.YtfldomifooihlaaGreatDoor.Fnt
open Go.RowKit
set_option linter.unusedVariables false
/-- The first k values are within bounds. -/
def mk (lo : Int) (L : List Sp) : Nat → Bool
  | 0 => true
  | k + 1 => mk lo L k && (decide (lo ≤ (gx L k).2.2) && decide ((gx L k).2.2 ≤ 1000))
def msr (lo : Int) (L : List Sp) : Bool := (faultOf L == 0) && mk lo L L.length
theorem mk_bad {lo : Int} {L : List Sp} {k n : Nat} (h : k < n) (hb : (decide (lo ≤ (gx L k).2.2) && decide ((gx L k).2.2 ≤ 1000)) = false) : mk lo L n = false := by
  induction n with
  | zero => omega
  | succ n ih =>
    unfold mk
    by_cases e : k = n
    · subst e; rw [hb, Bool.and_false]
    · rw [ih (by omega), Bool.false_and]
theorem msr_fault {lo : Int} {L : List Sp} (h : faultOf L = 1) : msr lo L = false := by unfold msr; rw [h]; rfl
theorem msr_bad {lo : Int} {L : List Sp} {k : Nat} (h : k < L.length) (hb : (decide (lo ≤ (gx L k).2.2) && decide ((gx L k).2.2 ≤ 1000)) = false) : msr lo L = false := by unfold msr; rw [mk_bad h hb, Bool.and_false]
theorem msr_ok {lo : Int} {L : List Sp} (h : faultOf L = 0) (hb : mk lo L L.length = true) : msr lo L = true := by unfold msr; rw [h, hb]; rfl
theorem fault_is (L : List Sp) : faultOf L = 0 ∨ faultOf L = 1 := by
  unfold faultOf
  split
  · exact .inl rfl
  · exact .inr rfl
set_option maxRecDepth 100000 in
set_option maxHeartbeats 4000000 in
theorem areM_any (v : Value) (L : List Sp) (lo : Int) (B : Nat) (w : World) (h : SpRow w B v L) (hl : L.length ≤ 1048576) :
    Calls Tryz.prog 51 #[v, .int .i64 lo] w fun e w' => e = .returned (.bool (msr lo L)) ∧ Below w.heap.size w w' := by
  have CF := hide (implFault v L B w h hl)
  obtain ⟨a, c, rfl, hg⟩ := h.form
  have H := hide h
  have G := hide hg
  clear h hg
  rcases fault_is L with hf | hf
  · rw [hf] at CF
    have HBad := hide (fun k hk hb => msr_bad (lo := lo) (L := L) (k := k) hk hb)
    have HOk := hide (fun hb => msr_ok (lo := lo) (L := L) hf hb)
    generalize msr lo L = Z at *
    clear hf
    go_enter Tryz.func51, Tryz.ntmps51
    go_wp2_with fail
    refine (unhide CF).mono ?_
    rintro e w1 ⟨rfl, hb1⟩
    have B1 := hide hb1
    clear hb1 CF
    go_wp2
    go_loopw [12] (fun i wr => ∃ k : Nat, k ≤ L.length ∧ i = .int .i64 k ∧ Hid (mk lo L k = true) ∧ Hid (Below w.heap.size w wr)) (fun i _ => L.length - (intOf i).toNat)
    case atStart => exact ⟨0, Nat.zero_le _, rfl, hide rfl, B1⟩
    case round =>
      obtain ⟨k, hk, rfl, HK, HB⟩ := hrel
      clear B1
      by_cases hlt : k < L.length
      · have hlt' : (k : Int) < (L.length : Int) := by omega
        obtain ⟨g, rfl, _, hgs⟩ := (unhide G) (by omega)
        obtain ⟨x0, x1, x2⟩ := ((unhide H).below (unhide HB)).read k hlt
        have CW := hide (fun W => Frl.within_any (gx L k).2.2 lo 1000 W)
        have hB := (unhide HBad) k hlt
        have hK : Hid ((decide (lo ≤ (gx L k).2.2) && decide ((gx L k).2.2 ≤ 1000)) = true → mk lo L (k + 1) = true) := hide (fun e => by
          unfold mk
          rw [unhide HK, e]; rfl)
        have HB2 := hide hB
        have B2 := hide ((unhide HB).alloc (unhide HB).size (.cells #[.int .i64 (gx L k).1, .int .i64 (gx L k).2.1, .int .i64 (gx L k).2.2] 86))
        clear hB
        generalize (decide (lo ≤ (gx L k).2.2) && decide ((gx L k).2.2 ≤ 1000)) = o at *
        generalize gx L k = r at *
        cases o
        · have HZ := hide ((unhide HB2) rfl)
          go_wp2_with fail
          refine ((unhide CW) _).mono ?_
          rintro e w2 ⟨rfl, e2⟩
          have e3 := e2.symm
          subst e3
          clear e2
          go_wp2
          go_ret
          exact ⟨by rw [unhide HZ]; rfl, unhide B2⟩
        · have HK2 := hide ((unhide hK) rfl)
          go_wp2_with fail
          refine ((unhide CW) _).mono ?_
          rintro e w2 ⟨rfl, e2⟩
          have e3 := e2.symm
          subst e3
          clear e2
          go_wp2
          go_roundw
          case rel => exact ⟨k + 1, by omega, by go_num, HK2, B2⟩
          case measure => simp [intOf]; omega
      · obtain rfl : k = L.length := by omega
        have HZ := hide ((unhide HOk) (unhide HK))
        go_wp2
        go_ret
        exact ⟨by rw [unhide HZ]; rfl, unhide HB⟩
  · rw [hf] at CF
    have HZ := hide (msr_fault (lo := lo) hf)
    generalize msr lo L = Z at *
    clear hf
    go_enter Tryz.func51, Tryz.ntmps51
    go_wp2_with fail
    refine (unhide CF).mono ?_
    rintro e w1 ⟨rfl, hb1⟩
    have B1 := hide hb1
    clear hb1 CF
    go_wp2
    go_ret
    exact ⟨by rw [unhide HZ]; rfl, unhide B1⟩
set_option maxRecDepth 100000 in
set_option maxHeartbeats 4000000 in
theorem l10Sp_any (v : Value) (L : List Sp) (lo : Int) (B : Nat) (w : World) (h : SpRow w B v L) (hl : L.length ≤ 1048576) :
    Calls Tryz.prog 39 #[v, .int .i64 lo, .int .i64 1000] w fun e w' => e = .returned (.bool (msr lo L)) ∧ Below w.heap.size w w' := by
  have CF := hide (specFault v L B w h hl)
  obtain ⟨a, c, rfl, hg⟩ := h.form
  have H := hide h
  have G := hide hg
  have HBad := hide (fun k hk hb => msr_bad (lo := lo) (L := L) (k := k) hk hb)
  have HOk := hide (fun hf hb => msr_ok (lo := lo) (L := L) hf hb)
  have HNo := hide (fun hf => msr_fault (lo := lo) (L := L) hf)
  have HF := hide (fault_is L)
  generalize faultOf L = F at *
  generalize msr lo L = Z at *
  clear h hg
  go_enter Tryz.func39, Tryz.ntmps39
  go_wp2
  go_loopw [7] (fun i wr => ∃ k : Nat, k ≤ L.length ∧ i = .int .i64 k ∧ Hid (mk lo L k = true) ∧ wr = w) (fun i _ => L.length - (intOf i).toNat)
  case atStart => exact ⟨0, Nat.zero_le _, rfl, hide rfl, rfl⟩
  case round =>
    obtain ⟨k, hk, rfl, HK, rfl⟩ := hrel
    by_cases hlt : k < L.length
    · have hlt' : (k : Int) < (L.length : Int) := by omega
      obtain ⟨g, rfl, _, hgs⟩ := (unhide G) (by omega)
      obtain ⟨x0, x1, x2⟩ := (unhide H).read k hlt
      have hB := (unhide HBad) k hlt
      have hK : Hid ((decide (lo ≤ (gx L k).2.2) && decide ((gx L k).2.2 ≤ 1000)) = true → mk lo L (k + 1) = true) := hide (fun e => by
        unfold mk
        rw [unhide HK, e]; rfl)
      have HB2 := hide hB
      clear hB x0 x1
      generalize (gx L k).2.2 = z at *
      by_cases t1 : z < lo
      · have HZ := hide ((unhide HB2) (by rw [decide_eq_false (by omega), Bool.false_and]))
        go_wp2
        go_ret
        exact ⟨by rw [unhide HZ]; rfl, Below.refl _ _⟩
      by_cases t2 : 1000 < z
      · have HZ := hide ((unhide HB2) (by rw [decide_eq_false (by omega : ¬ z ≤ 1000), Bool.and_false]))
        go_wp2
        go_ret
        exact ⟨by rw [unhide HZ]; rfl, Below.refl _ _⟩
      · have HK2 := hide ((unhide hK) (by rw [decide_eq_true (by omega), decide_eq_true (by omega)]; rfl))
        go_wp2
        go_roundw
        case rel => exact ⟨k + 1, by omega, by go_num, HK2, trivial⟩
        case measure => simp [intOf]; omega
    · obtain rfl : k = L.length := by omega
      rcases unhide HF with hf | hf
      · have HZ := hide ((unhide HOk) hf (unhide HK))
        rw [hf] at CF
        clear hf
        go_wp2_with fail
        refine (unhide CF).mono ?_
        rintro e w1 ⟨rfl, hb1⟩
        have B1 := hide hb1
        clear hb1 CF
        go_wp2
        go_ret
        exact ⟨by rw [unhide HZ]; rfl, unhide B1⟩
      · have HZ := hide ((unhide HNo) hf)
        rw [hf] at CF
        clear hf
        go_wp2_with fail
        refine (unhide CF).mono ?_
        rintro e w1 ⟨rfl, hb1⟩
        have B1 := hide hb1
        clear hb1 CF
        go_wp2
        go_ret
        exact ⟨by rw [unhide HZ]; rfl, unhide B1⟩
end Go.Proofs.YtfldomifooihlaaGreatDoor.Fnt
/- Kerns in order, as the program tells it. -/
namespace Go.Proofs.YtfldomifooihlaaGreatDoor.Fnt
open Go.RowKit
set_option linter.unusedVariables false
/-- Take number i first; its temporary is told. -/
theorem tkF {P : Program} {ops : Array Oper} {Q : Exit → Act → World → Prop} {md : Region.Mode} {S : World → Prop} {i : Nat} {oi : Oper} {d : Option Tmp} {v : Value} {fuel : Nat} {listed : Array Bool} {a : Act} {w : World} (hi : ops[i]? = some oi) (hd : oi.dst = d)
    (hs : Region.noSelect ops = true) (hf : Region.free md ops listed i = true) (hr : (Region.ready md ops listed).contains i = true)
    (hQ : ∀ c a w, Q (.panic c) (a.put d v) w → Q (.panic c) a w) (hy : YieldsIf P ops S oi v a) (hS : S w)
    (h : wpAnyH P md ops Q S fuel (listed.setIfInBounds i true) (a.put d v) w) : wpAnyH P md ops Q S (fuel + 1) listed a w := by
  subst hd
  exact wpAnyH_take hi hs hf hr hQ hy hS h
def cmpF (x y : Int) : Int := if x < y then -1 else if y < x then 1 else 0
theorem nanF (x : Int) (w : World) : Calls Tryz.prog 116 #[.int .i64 x] w fun e w' => e = .returned (.bool false) ∧ w' = w := by
  have h : (x != x) = false := by simp
  go_enter Tryz.func116, Tryz.ntmps116
  go_wp2
  go_ret
  exact ⟨rfl, rfl⟩
theorem compareF (x y : Int) (w : World) : Calls Tryz.prog 107 #[.int .i64 x, .int .i64 y] w fun e w' => e = .returned (.int .i64 (cmpF x y)) ∧ w' = w := by
  by_cases h1 : x < y
  · have HE : Hid (cmpF x y = -1) := hide (if_pos h1)
    go_enter Tryz.func107, Tryz.ntmps107
    go_wp2_with (go_at_call 116; refine (nanF _ _).mono ?_; rintro e w' ⟨rfl, rfl⟩)
    go_ret
    exact ⟨ret_int (unhide HE).symm, rfl⟩
  by_cases h2 : y < x
  · have HE : Hid (cmpF x y = 1) := hide (by unfold cmpF; rw [if_neg h1, if_pos h2])
    go_enter Tryz.func107, Tryz.ntmps107
    go_wp2_with (go_at_call 116; refine (nanF _ _).mono ?_; rintro e w' ⟨rfl, rfl⟩)
    go_ret
    exact ⟨ret_int (unhide HE).symm, rfl⟩
  have HE : Hid (cmpF x y = 0) := hide (by unfold cmpF; rw [if_neg h1, if_neg h2])
  go_enter Tryz.func107, Tryz.ntmps107
  go_wp2_with (go_at_call 116; refine (nanF _ _).mono ?_; rintro e w' ⟨rfl, rfl⟩)
  go_ret
  exact ⟨ret_int (unhide HE).symm, rfl⟩
def orF (p q : Int) : Int := if p = 0 then q else p
set_option maxRecDepth 100000 in
set_option maxHeartbeats 2000000 in
theorem or_any (g : Nat) (p q : Int) (w : World) (h0 : w.cell? ⟨g, 0, none⟩ = some (.int .i64 p)) (h1 : w.cell? ⟨g, 1, none⟩ = some (.int .i64 q)) :
    Calls Tryz.prog 106 #[.slice (some ⟨g, 0, none⟩) 2 2] w fun e w' => e = .returned (.int .i64 (orF p q)) ∧ w' = w := by
  have HP : Hid (p ≠ 0 → orF p q = p) := hide (fun h => if_neg h)
  have HQ : Hid (p = 0 → orF p q = q) := hide (fun h => if_pos h)
  have C0 := hide h0
  have C1 := hide h1
  generalize orF p q = Z at *
  clear h0 h1
  go_enter Tryz.func106, Tryz.ntmps106
  go_wp2
  go_loopw [8] (fun i wr => ∃ k : Nat, k ≤ 2 ∧ i = .int .i64 k ∧ Hid (0 < k → p = 0) ∧ Hid (1 < k → q = 0) ∧ wr = w) (fun i _ => 2 - (intOf i).toNat)
  case atStart => exact ⟨0, by omega, rfl, hide (fun h => by omega), hide (fun h => by omega), rfl⟩
  case round =>
    obtain ⟨k, hk, rfl, H1, H2, rfl⟩ := hrel
    have hk3 : k = 0 ∨ k = 1 ∨ k = 2 := by omega
    rcases hk3 with rfl | rfl | rfl
    · have c0 := unhide C0
      by_cases e : p = 0
      · have e1 : (p != 0) = false := by simp [e]
        have H3 : Hid (0 < 0 + 1 → p = 0) := hide (fun _ => e)
        clear e
        go_wp2
        go_roundw
        case rel => exact ⟨0 + 1, by omega, by go_num, H3, hide (fun h => by omega), trivial⟩
        case measure => simp [intOf]
      · have e1 : (p != 0) = true := by simp [e]
        have HZ := hide ((unhide HP) e)
        clear e
        go_wp2
        go_ret
        exact ⟨by rw [unhide HZ]; rfl, rfl⟩
    · have c1 := unhide C1
      have ep := (unhide H1) (by omega)
      have HZ := hide ((unhide HQ) ep)
      by_cases e : q = 0
      · have e1 : (q != 0) = false := by simp [e]
        have H3 : Hid (0 < 1 + 1 → p = 0) := hide (fun _ => ep)
        have H4 : Hid (1 < 1 + 1 → q = 0) := hide (fun _ => e)
        clear e ep
        go_wp2
        go_roundw
        case rel => exact ⟨1 + 1, by omega, by go_num, H3, H4, trivial⟩
        case measure => simp [intOf]
      · have e1 : (q != 0) = true := by simp [e]
        clear e ep
        go_wp2
        go_ret
        exact ⟨by rw [unhide HZ]; rfl, rfl⟩
    · have ep := (unhide H1) (by omega)
      have eq := (unhide H2) (by omega)
      have HZ : Hid (Z = 0) := hide (by rw [(unhide HQ) ep, eq])
      clear ep eq
      go_wp2
      go_ret
      exact ⟨by rw [unhide HZ]; rfl, rfl⟩
/-- One kern stands ahead of another one. -/
def klt (a b : Sp) : Bool := decide (a.1 < b.1) || (decide (a.1 = b.1) && decide (a.2.1 < b.2.1))
theorem klt_or (a b : Sp) : decide (0 ≤ orF (cmpF a.1 b.1) (cmpF a.2.1 b.2.1)) = !klt a b := by
  unfold orF cmpF klt
  by_cases h1 : a.1 < b.1
  · simp [h1]
  · by_cases h2 : b.1 < a.1
    · have h3 : ¬ a.1 = b.1 := by omega
      simp [h1, h2, h3]
    · have h3 : a.1 = b.1 := by omega
      by_cases h4 : a.2.1 < b.2.1
      · simp [h3, h4]
      · by_cases h5 : b.2.1 < a.2.1
        · simp [h3, h4, h5]
        · simp [h3, h4, h5]
theorem three_q {w : World} {g : Nat} {a b c : Value} {T : TypeId} (h : w.heap[g]? = some (.cells #[a, b, c] T (0, 0))) : w.cell? ⟨g, 0, none⟩ = some a ∧ w.cell? ⟨g, 1, none⟩ = some b ∧ w.cell? ⟨g, 2, none⟩ = some c := by
  simp [World.cell?, h]
set_option maxRecDepth 100000 in
set_option maxHeartbeats 8000000 in
theorem compareKx (x0 x1 x2 y0 y1 y2 : Int) (w : World) :
    Calls Tryz.prog 81 #[.agg #[.int .i64 x0, .int .i64 x1, .int .i64 x2], .agg #[.int .i64 y0, .int .i64 y1, .int .i64 y2]] w fun e w' => e = .returned (.int .i64 (orF (cmpF x0 y0) (cmpF x1 y1))) ∧ Below w.heap.size w w' := by
  have CA := hide (fun W => compareF x0 y0 W)
  have CB := hide (fun W => compareF x1 y1 W)
  have hw2 : w.heap.size ≤ ((w.alloc (.cells #[.int .i64 x0, .int .i64 x1, .int .i64 x2] 75)).alloc (.cells #[.int .i64 y0, .int .i64 y1, .int .i64 y2] 75)).heap.size := by simp; omega
  have B0 := hide (((Below.refl w.heap.size w).alloc (Nat.le_refl _) (.cells #[.int .i64 x0, .int .i64 x1, .int .i64 x2] 75)).alloc (by simp) (.cells #[.int .i64 y0, .int .i64 y1, .int .i64 y2] 75))
  have kx := three_q (show ((w.alloc (.cells #[.int .i64 x0, .int .i64 x1, .int .i64 x2] 75)).alloc (.cells #[.int .i64 y0, .int .i64 y1, .int .i64 y2] 75)).heap[w.heap.size]? = some (.cells #[.int .i64 x0, .int .i64 x1, .int .i64 x2] 75 (0, 0)) by rw [Below.heap_alloc _ _ _ (by simp)]; exact Frl.heap_new w _)
  have ky := three_q (show ((w.alloc (.cells #[.int .i64 x0, .int .i64 x1, .int .i64 x2] 75)).alloc (.cells #[.int .i64 y0, .int .i64 y1, .int .i64 y2] 75)).heap[w.heap.size + 1]? = some (.cells #[.int .i64 y0, .int .i64 y1, .int .i64 y2] 75 (0, 0)) by have := Frl.heap_new (w.alloc (.cells #[.int .i64 x0, .int .i64 x1, .int .i64 x2] 75)) (.cells #[.int .i64 y0, .int .i64 y1, .int .i64 y2] 75); simpa using this)
  have hn : (((w.alloc (.cells #[.int .i64 x0, .int .i64 x1, .int .i64 x2] 75)).alloc (.cells #[.int .i64 y0, .int .i64 y1, .int .i64 y2] 75)).alloc (.cells #[.int .i64 (cmpF x0 y0), .int .i64 (cmpF x1 y1)] 3)).heap[w.heap.size + 1 + 1]? = some (.cells #[.int .i64 (cmpF x0 y0), .int .i64 (cmpF x1 y1)] 3 (0, 0)) := by
    have := Frl.heap_new ((w.alloc (.cells #[.int .i64 x0, .int .i64 x1, .int .i64 x2] 75)).alloc (.cells #[.int .i64 y0, .int .i64 y1, .int .i64 y2] 75)) (.cells #[.int .i64 (cmpF x0 y0), .int .i64 (cmpF x1 y1)] 3)
    simpa using this
  have HC0 : Hid ((((w.alloc (.cells #[.int .i64 x0, .int .i64 x1, .int .i64 x2] 75)).alloc (.cells #[.int .i64 y0, .int .i64 y1, .int .i64 y2] 75)).alloc (.cells #[.int .i64 (cmpF x0 y0), .int .i64 (cmpF x1 y1)] 3)).drew.cell? ⟨w.heap.size + 1 + 1, 0, none⟩ = some (.int .i64 (cmpF x0 y0))) := hide (by show (((w.alloc (.cells #[.int .i64 x0, .int .i64 x1, .int .i64 x2] 75)).alloc (.cells #[.int .i64 y0, .int .i64 y1, .int .i64 y2] 75)).alloc (.cells #[.int .i64 (cmpF x0 y0), .int .i64 (cmpF x1 y1)] 3)).cell? ⟨w.heap.size + 1 + 1, 0, none⟩ = _; unfold World.cell?; rw [hn]; rfl)
  have HC1 : Hid ((((w.alloc (.cells #[.int .i64 x0, .int .i64 x1, .int .i64 x2] 75)).alloc (.cells #[.int .i64 y0, .int .i64 y1, .int .i64 y2] 75)).alloc (.cells #[.int .i64 (cmpF x0 y0), .int .i64 (cmpF x1 y1)] 3)).drew.cell? ⟨w.heap.size + 1 + 1, 1, none⟩ = some (.int .i64 (cmpF x1 y1))) := hide (by show (((w.alloc (.cells #[.int .i64 x0, .int .i64 x1, .int .i64 x2] 75)).alloc (.cells #[.int .i64 y0, .int .i64 y1, .int .i64 y2] 75)).alloc (.cells #[.int .i64 (cmpF x0 y0), .int .i64 (cmpF x1 y1)] 3)).cell? ⟨w.heap.size + 1 + 1, 1, none⟩ = _; unfold World.cell?; rw [hn]; rfl)
  have BF := hide (((unhide B0).alloc hw2 (.cells #[.int .i64 (cmpF x0 y0), .int .i64 (cmpF x1 y1)] 3)).trans ((drew_below (((w.alloc (.cells #[.int .i64 x0, .int .i64 x1, .int .i64 x2] 75)).alloc (.cells #[.int .i64 y0, .int .i64 y1, .int .i64 y2] 75)).alloc (.cells #[.int .i64 (cmpF x0 y0), .int .i64 (cmpF x1 y1)] 3))).mono (by simp; omega)))
  clear hn hw2 CA CB B0
  go_enter Tryz.func81, Tryz.ntmps81
  go_upto_region 1 with fail
  have KS := (show (fun w' => w'.cell? ⟨w.heap.size, 0, none⟩ = some (.int .i64 x0) ∧ w'.cell? ⟨w.heap.size, 1, none⟩ = some (.int .i64 x1) ∧ w'.cell? ⟨w.heap.size + 1, 0, none⟩ = some (.int .i64 y0) ∧ w'.cell? ⟨w.heap.size + 1, 1, none⟩ = some (.int .i64 y1)) ((w.alloc (.cells #[.int .i64 x0, .int .i64 x1, .int .i64 x2] 75)).alloc (.cells #[.int .i64 y0, .int .i64 y1, .int .i64 y2] 75)) from ⟨kx.1, kx.2.1, ky.1, ky.2.1⟩)
  have KS2 := (show (fun w' => w'.cell? ⟨w.heap.size, 0, none⟩ = some (.int .i64 x0) ∧ w'.cell? ⟨w.heap.size, 1, none⟩ = some (.int .i64 x1) ∧ w'.cell? ⟨w.heap.size + 1, 0, none⟩ = some (.int .i64 y0) ∧ w'.cell? ⟨w.heap.size + 1, 1, none⟩ = some (.int .i64 y1)) (((w.alloc (.cells #[.int .i64 x0, .int .i64 x1, .int .i64 x2] 75)).alloc (.cells #[.int .i64 y0, .int .i64 y1, .int .i64 y2] 75)).alloc (.cells #[.int .i64 (cmpF x0 y0), .int .i64 (cmpF x1 y1)] 3)) from ⟨cell_alloc kx.1 _, cell_alloc kx.2.1 _, cell_alloc ky.1 _, cell_alloc ky.2.1 _⟩)
  refine wp_region_held_drew (S := fun w' => w'.cell? ⟨w.heap.size, 0, none⟩ = some (.int .i64 x0) ∧ w'.cell? ⟨w.heap.size, 1, none⟩ = some (.int .i64 x1) ∧ w'.cell? ⟨w.heap.size + 1, 0, none⟩ = some (.int .i64 y0) ∧ w'.cell? ⟨w.heap.size + 1, 1, none⟩ = some (.int .i64 y1)) (by kernel_rfl) (by first | go_keep | exact KS) (fun hHeld => ?_)
  refine tkF (i := 0) (d := some 5) (v := ?_) rfl rfl (by kernel_rfl) (by kernel_rfl) (by kernel_rfl) (fun _ _ _ h => h) (Or.inl ⟨by rfl, ?_⟩) (by assumption) ?_
  rotate_left
  · intro w hSw; (try dsimp only at hSw); go_simp; try with_reducible rfl
  try simp only [Act.put, List.setIfInBounds_toArray, List.set_cons_zero, List.set_cons_succ]
  refine tkF (i := 1) (d := some 6) (v := ?_) rfl rfl (by kernel_rfl) (by kernel_rfl) (by kernel_rfl) (fun _ _ _ h => h) (Or.inl ⟨by rfl, ?_⟩) (by assumption) ?_
  rotate_left
  · intro w hSw; (try dsimp only at hSw); go_simp; try with_reducible rfl
  try simp only [Act.put, List.setIfInBounds_toArray, List.set_cons_zero, List.set_cons_succ]
  refine tkF (i := 2) (d := some 7) (v := ?_) rfl rfl (by kernel_rfl) (by kernel_rfl) (by kernel_rfl) (fun _ _ _ h => h) (Or.inl ⟨by rfl, ?_⟩) (by assumption) ?_
  rotate_left
  · intro w hSw; (try dsimp only at hSw); go_simp; try with_reducible rfl
  try simp only [Act.put, List.setIfInBounds_toArray, List.set_cons_zero, List.set_cons_succ]
  refine tkF (i := 3) (d := some 8) (v := ?_) rfl rfl (by kernel_rfl) (by kernel_rfl) (by kernel_rfl) (fun _ _ _ h => h) (Or.inl ⟨by rfl, ?_⟩) (by assumption) ?_
  rotate_left
  · intro w hSw; (try dsimp only at hSw); go_simp; try with_reducible rfl
  try simp only [Act.put, List.setIfInBounds_toArray, List.set_cons_zero, List.set_cons_succ]
  refine tkF (i := 5) (d := some 10) (v := ?_) rfl rfl (by kernel_rfl) (by kernel_rfl) (by kernel_rfl) (fun _ _ _ h => h) (Or.inl ⟨by rfl, ?_⟩) (by assumption) ?_
  rotate_left
  · intro w hSw; (try dsimp only at hSw); go_simp; try with_reducible rfl
  try simp only [Act.put, List.setIfInBounds_toArray, List.set_cons_zero, List.set_cons_succ]
  refine tkF (i := 6) (d := some 11) (v := ?_) rfl rfl (by kernel_rfl) (by kernel_rfl) (by kernel_rfl) (fun _ _ _ h => h) (Or.inl ⟨by rfl, ?_⟩) (by assumption) ?_
  rotate_left
  · intro w hSw; (try dsimp only at hSw); go_simp; try with_reducible rfl
  try simp only [Act.put, List.setIfInBounds_toArray, List.set_cons_zero, List.set_cons_succ]
  refine tkF (i := 7) (d := some 12) (v := ?_) rfl rfl (by kernel_rfl) (by kernel_rfl) (by kernel_rfl) (fun _ _ _ h => h) (Or.inl ⟨by rfl, ?_⟩) (by assumption) ?_
  rotate_left
  · intro w hSw; (try dsimp only at hSw); go_simp; try with_reducible rfl
  try simp only [Act.put, List.setIfInBounds_toArray, List.set_cons_zero, List.set_cons_succ]
  refine tkF (i := 8) (d := some 13) (v := ?_) rfl rfl (by kernel_rfl) (by kernel_rfl) (by kernel_rfl) (fun _ _ _ h => h) (Or.inl ⟨by rfl, ?_⟩) (by assumption) ?_
  rotate_left
  · intro w hSw; (try dsimp only at hSw); go_simp; try with_reducible rfl
  try simp only [Act.put, List.setIfInBounds_toArray, List.set_cons_zero, List.set_cons_succ]
  refine wpAnyH_ready (rs := [4]) (by kernel_rfl) (by simp) (AllReadyH.cons rfl (fun K hK => ?_) AllReadyH.nil)
  go_simp
  go_at_call 107
  refine (compareF _ _ _).mono ?_
  rintro e w3 ⟨rfl, e3⟩
  have f3 := e3.symm
  subst f3
  clear e3
  try go_wp2_with fail
  refine hK.out _ _ KS (fun hHeld3 => ?_)
  clear hK K
  try simp only [Act.put, List.setIfInBounds_toArray, List.set_cons_zero, List.set_cons_succ]
  refine wpAnyH_ready (rs := [9]) (by kernel_rfl) (by simp) (AllReadyH.cons rfl (fun K hK => ?_) AllReadyH.nil)
  go_simp
  go_at_call 107
  refine (compareF _ _ _).mono ?_
  rintro e w6 ⟨rfl, e6⟩
  have f6 := e6.symm
  subst f6
  clear e6
  try go_wp2_with fail
  refine hK.out _ _ KS (fun hHeld6 => ?_)
  clear hK K
  try simp only [Act.put, List.setIfInBounds_toArray, List.set_cons_zero, List.set_cons_succ]
  refine wpAnyH_ready (rs := [10]) (by kernel_rfl) (by simp) (AllReadyH.cons rfl (fun K hK => ?_) AllReadyH.nil)
  go_simp
  try go_wp2_with fail
  refine hK.out _ _ KS2 (fun hHeld7 => ?_)
  clear hK K
  try simp only [Act.put, List.setIfInBounds_toArray, List.set_cons_zero, List.set_cons_succ]
  refine wpAnyH_ready (rs := [11]) (by kernel_rfl) (by simp) (AllReadyH.cons rfl (fun K hK => ?_) AllReadyH.nil)
  go_simp
  go_at_call 106
  refine (or_any _ (cmpF x0 y0) (cmpF x1 y1) _ (unhide HC0) (unhide HC1)).mono ?_
  rintro e w8 ⟨rfl, e8⟩
  have f8 := e8.symm
  subst f8
  clear e8
  try go_wp2_with fail
  refine hK.out _ _ KS2 (fun hHeld8 => ?_)
  clear hK K
  try simp only [Act.put, List.setIfInBounds_toArray, List.set_cons_zero, List.set_cons_succ]
  refine tkF (i := 12) (d := some 4) (v := ?_) rfl rfl (by kernel_rfl) (by kernel_rfl) (by kernel_rfl) (fun _ _ _ h => h) (Or.inl ⟨by rfl, ?_⟩) (by assumption) ?_
  rotate_left
  · intro w hSw; (try dsimp only at hSw); go_simp; try with_reducible rfl
  try simp only [Act.put, List.setIfInBounds_toArray, List.set_cons_zero, List.set_cons_succ]
  refine wpAnyH_done (by kernel_rfl) ?_ _
  go_wp2
  go_ret
  exact ⟨rfl, unhide BF⟩
theorem compareK (x0 x1 x2 y0 y1 y2 : Int) (w : World) :
    Calls Tryz.prog 81 #[.agg #[.int .i64 x0, .int .i64 x1, .int .i64 x2], .agg #[.int .i64 y0, .int .i64 y1, .int .i64 y2]] w fun e w' => ∃ c : Int, e = .returned (.int .i64 c) ∧ decide (0 ≤ c) = !klt (x0, x1, x2) (y0, y1, y2) ∧ Below w.heap.size w w' := by
  refine (compareKx x0 x1 x2 y0 y1 y2 w).mono ?_
  rintro e w' ⟨rfl, hb⟩
  exact ⟨_, rfl, klt_or (x0, x1, x2) (y0, y1, y2), hb⟩
/-- The first k kerns are right and in order. -/
def krk (L : List Sp) : Nat → Bool
  | 0 => true
  | k + 1 => krk L k && (decide (-1000 ≤ (gx L k).2.2) && decide ((gx L k).2.2 ≤ 1000) && (decide (k = 0) || klt (gx L (k - 1)) (gx L k)))
def krn (L : List Sp) : Bool := decide (L.length ≤ 200) && krk L L.length
theorem krk_bad {L : List Sp} {k n : Nat} (h : k < n) (hb : (decide (-1000 ≤ (gx L k).2.2) && decide ((gx L k).2.2 ≤ 1000) && (decide (k = 0) || klt (gx L (k - 1)) (gx L k))) = false) : krk L n = false := by
  induction n with
  | zero => omega
  | succ n ih =>
    unfold krk
    by_cases e : k = n
    · subst e; rw [hb, Bool.and_false]
    · rw [ih (by omega), Bool.false_and]
theorem krn_long {L : List Sp} (h : 200 < L.length) : krn L = false := by unfold krn; rw [decide_eq_false (by omega), Bool.false_and]
theorem krn_bad {L : List Sp} {k : Nat} (h : k < L.length) (hb : (decide (-1000 ≤ (gx L k).2.2) && decide ((gx L k).2.2 ≤ 1000) && (decide (k = 0) || klt (gx L (k - 1)) (gx L k))) = false) : krn L = false := by unfold krn; rw [krk_bad h hb, Bool.and_false]
theorem krn_ok {L : List Sp} (h : L.length ≤ 200) (hb : krk L L.length = true) : krn L = true := by unfold krn; rw [decide_eq_true h, hb]; rfl
set_option maxRecDepth 100000 in
set_option maxHeartbeats 8000000 in
theorem areKerns_any (v : Value) (L : List Sp) (B : Nat) (w : World) (h : Krn.SpRow w B v L) (hl : L.length ≤ 1048576) :
    Calls Tryz.prog 53 #[v] w fun e w' => e = .returned (.bool (krn L)) ∧ Below w.heap.size w w' := by
  obtain ⟨a, c, rfl, hg⟩ := h.form
  have H := hide h
  have G := hide hg
  have hU : undef = Value.tuple #[] := rfl
  clear h hg
  by_cases t : 200 < L.length
  · have t' : (200 : Int) < (L.length : Int) := by omega
    have HZ := hide (krn_long t)
    generalize krn L = Z at *
    go_enter Tryz.func53, Tryz.ntmps53
    go_wp2
    go_ret
    exact ⟨by rw [unhide HZ]; rfl, Below.refl _ _⟩
  have t' : ¬ (200 : Int) < (L.length : Int) := by omega
  have HBad := hide (fun k hk hb => krn_bad (L := L) (k := k) hk hb)
  have HOk := hide (fun hb => krn_ok (L := L) (by omega) hb)
  generalize krn L = Z at *
  go_enter Tryz.func53, Tryz.ntmps53
  go_wp2
  go_loopw [10] (fun i wr => ∃ k : Nat, k ≤ L.length ∧ i = .int .i64 k ∧ Hid (krk L k = true) ∧ Hid (Below w.heap.size w wr)) (fun i _ => L.length - (intOf i).toNat)
  case atStart => exact ⟨0, Nat.zero_le _, rfl, hide rfl, hide (Below.refl _ _)⟩
  case round =>
    obtain ⟨k, hk, rfl, HK, HB⟩ := hrel
    by_cases hlt : k < L.length
    · have hlt' : (k : Int) < (L.length : Int) := by omega
      obtain ⟨g, rfl, _, hgs⟩ := (unhide G) (by omega)
      obtain ⟨x0, x1, x2⟩ := ((unhide H).below (unhide HB)).read k hlt
      have hB := (unhide HBad) k hlt
      have HB2 := hide hB
      have hK : Hid ((decide (-1000 ≤ (gx L k).2.2) && decide ((gx L k).2.2 ≤ 1000) && (decide (k = 0) || klt (gx L (k - 1)) (gx L k))) = true → krk L (k + 1) = true) := hide (fun e => by
        unfold krk
        rw [unhide HK, e]; rfl)
      have CW := hide (fun W => Frl.within_any (gx L k).2.2 (-1000) 1000 W)
      have B2 := hide ((unhide HB).alloc (unhide HB).size (.cells #[.int .i64 (gx L k).1, .int .i64 (gx L k).2.1, .int .i64 (gx L k).2.2] 75))
      have hgr : g < wr.heap.size := Nat.lt_of_lt_of_le hgs (unhide HB).size
      have HP : Hid (∀ m, k = m + 1 → (wr.cell? ⟨g, m * 3, none⟩ = some (.int .i64 (gx L m).1) ∧ wr.cell? ⟨g, m * 3 + 1, none⟩ = some (.int .i64 (gx L m).2.1) ∧ wr.cell? ⟨g, m * 3 + 2, none⟩ = some (.int .i64 (gx L m).2.2))) := hide (fun m hm => ((unhide H).below (unhide HB)).read m (by omega))
      have hq := Frl.heap_new wr (.cells #[.int .i64 (gx L k).1, .int .i64 (gx L k).2.1, .int .i64 (gx L k).2.2] 75)
      have hqa : wr.heap.size < (wr.alloc (.cells #[.int .i64 (gx L k).1, .int .i64 (gx L k).2.1, .int .i64 (gx L k).2.2] 75)).heap.size := by simp
      have hga : g < (wr.alloc (.cells #[.int .i64 (gx L k).1, .int .i64 (gx L k).2.1, .int .i64 (gx L k).2.2] 75)).heap.size := by simp; omega
      clear hB
      cases o : (decide (-1000 ≤ (gx L k).2.2) && decide ((gx L k).2.2 ≤ 1000))
      · have HZ := hide ((unhide HB2) (by rw [o, Bool.false_and]))
        rw [o] at CW
        clear o hK HB2 HP
        generalize gx L k = r at *
        go_wp2_with fail
        refine ((unhide CW) _).mono ?_
        rintro e w2 ⟨rfl, e2⟩
        have e3 := e2.symm
        subst e3
        clear e2
        go_wp2
        go_ret
        exact ⟨by rw [unhide HZ]; rfl, unhide B2⟩
      · rw [o] at CW
        cases k with
        | zero =>
          have HK2 := hide ((unhide hK) (by rw [o]; rfl))
          clear o hK HB2 HP
          rw [show ((0 : Nat) : Int) = 0 from rfl]
          generalize gx L 0 = r at *
          go_wp2_with fail
          refine ((unhide CW) _).mono ?_
          rintro e w2 ⟨rfl, e2⟩
          have e3 := e2.symm
          subst e3
          clear e2
          go_upto_region 8 with fail
          generalize wr.alloc (.cells #[.int .i64 r.1, .int .i64 r.2.1, .int .i64 r.2.2] 75) = wa at *
          refine wp_region_held_drew (S := fun _ => True) (by kernel_rfl) (by first | go_keep | exact trivial) (fun hHeld => ?_)
          have KS : True := trivial
          refine tkF (i := 0) (d := some 19) (v := ?_) rfl rfl (by kernel_rfl) (by kernel_rfl) (by kernel_rfl) (fun _ _ _ h => h) (Or.inl ⟨by rfl, ?_⟩) (by assumption) ?_
          rotate_left
          · intro w hSw; (try dsimp only at hSw); go_simp; try with_reducible rfl
          try simp only [Act.put, List.setIfInBounds_toArray, List.set_cons_zero, List.set_cons_succ]
          refine tkF (i := 1) (d := some 20) (v := ?_) rfl rfl (by kernel_rfl) (by kernel_rfl) (by kernel_rfl) (fun _ _ _ h => h) (Or.inl ⟨by rfl, ?_⟩) (by assumption) ?_
          rotate_left
          · intro w hSw; (try dsimp only at hSw); go_simp; try with_reducible rfl
          try simp only [Act.put, List.setIfInBounds_toArray, List.set_cons_zero, List.set_cons_succ]
          refine tkF (i := 2) (d := some 21) (v := ?_) rfl rfl (by kernel_rfl) (by kernel_rfl) (by kernel_rfl) (fun _ _ _ h => h) (Or.inl ⟨by rfl, ?_⟩) (by assumption) ?_
          rotate_left
          · intro w hSw; (try dsimp only at hSw); go_simp; try with_reducible rfl
          try simp only [Act.put, List.setIfInBounds_toArray, List.set_cons_zero, List.set_cons_succ]
          refine tkF (i := 3) (d := some 22) (v := undef) rfl rfl (by kernel_rfl) (by kernel_rfl) (by kernel_rfl) (fun _ _ _ h => h) (Or.inr ⟨by rfl, rfl⟩) (by assumption) ?_
          try simp only [Act.put, List.setIfInBounds_toArray, List.set_cons_zero, List.set_cons_succ]
          refine tkF (i := 4) (d := some 23) (v := undef) rfl rfl (by kernel_rfl) (by kernel_rfl) (by kernel_rfl) (fun _ _ _ h => h) (Or.inr ⟨by rfl, rfl⟩) (by assumption) ?_
          try simp only [Act.put, List.setIfInBounds_toArray, List.set_cons_zero, List.set_cons_succ]
          refine tkF (i := 5) (d := some 24) (v := undef) rfl rfl (by kernel_rfl) (by kernel_rfl) (by kernel_rfl) (fun _ _ _ h => h) (Or.inr ⟨by rfl, rfl⟩) (by assumption) ?_
          try simp only [Act.put, List.setIfInBounds_toArray, List.set_cons_zero, List.set_cons_succ]
          refine tkF (i := 6) (d := some 25) (v := undef) rfl rfl (by kernel_rfl) (by kernel_rfl) (by kernel_rfl) (fun _ _ _ h => h) (Or.inr ⟨by rfl, rfl⟩) (by assumption) ?_
          try simp only [Act.put, List.setIfInBounds_toArray, List.set_cons_zero, List.set_cons_succ]
          refine tkF (i := 7) (d := some 26) (v := undef) rfl rfl (by kernel_rfl) (by kernel_rfl) (by kernel_rfl) (fun _ _ _ h => h) (Or.inr ⟨by rfl, rfl⟩) (by assumption) ?_
          try simp only [Act.put, List.setIfInBounds_toArray, List.set_cons_zero, List.set_cons_succ]
          refine tkF (i := 8) (d := some 27) (v := undef) rfl rfl (by kernel_rfl) (by kernel_rfl) (by kernel_rfl) (fun _ _ _ h => h) (Or.inr ⟨by rfl, rfl⟩) (by assumption) ?_
          try simp only [Act.put, List.setIfInBounds_toArray, List.set_cons_zero, List.set_cons_succ]
          refine tkF (i := 9) (d := some 28) (v := undef) rfl rfl (by kernel_rfl) (by kernel_rfl) (by kernel_rfl) (fun _ _ _ h => h) (Or.inr ⟨by rfl, rfl⟩) (by assumption) ?_
          try simp only [Act.put, List.setIfInBounds_toArray, List.set_cons_zero, List.set_cons_succ]
          refine tkF (i := 10) (d := some 29) (v := undef) rfl rfl (by kernel_rfl) (by kernel_rfl) (by kernel_rfl) (fun _ _ _ h => h) (Or.inr ⟨by rfl, rfl⟩) (by assumption) ?_
          try simp only [Act.put, List.setIfInBounds_toArray, List.set_cons_zero, List.set_cons_succ]
          refine tkF (i := 11) (d := some 30) (v := ?_) rfl rfl (by kernel_rfl) (by kernel_rfl) (by kernel_rfl) (fun _ _ _ h => h) (Or.inl ⟨by rfl, ?_⟩) (by assumption) ?_
          rotate_left
          · intro w hSw; (try dsimp only at hSw); go_simp; try with_reducible rfl
          try simp only [Act.put, List.setIfInBounds_toArray, List.set_cons_zero, List.set_cons_succ]
          refine wpAnyH_done (by kernel_rfl) ?_ _
          have B5 := hide ((unhide B2).trans ((drew_below wa).mono (unhide B2).size))
          go_wp2
          go_roundw
          case rel => exact ⟨0 + 1, by omega, by go_num, HK2, B5⟩
          case measure => simp [intOf]; omega
        | succ m =>
          obtain ⟨p0, p1, p2⟩ := (unhide HP) m rfl
          have hcast : ((m + 1 : Nat) : Int) = (m : Int) + 1 := by omega
          have hm2 : (m : Int) + 1 - 1 = (m : Int) := by omega
          have pa : (0 : Int) < (m : Int) + 1 := by omega
          have pd : decide ((0 : Int) < (m : Int) + 1) = true := decide_eq_true pa
          have pn : (0 : Int) ≤ (m : Int) := by omega
          have pb : (m : Int) < (L.length : Int) := by omega
          have ra : IntKind.i64.wrap (m : Int) = (m : Int) := wrap_in _ (by omega) (by omega)
          obtain ⟨kl, hkl⟩ : ∃ kl, klt (gx L m) (gx L (m + 1)) = kl := ⟨_, rfl⟩
          have CK := hide (fun W => compareK (gx L m).1 (gx L m).2.1 (gx L m).2.2 (gx L (m + 1)).1 (gx L (m + 1)).2.1 (gx L (m + 1)).2.2 W)
          have hkl2 : klt ((gx L m).1, (gx L m).2.1, (gx L m).2.2) ((gx L (m + 1)).1, (gx L (m + 1)).2.1, (gx L (m + 1)).2.2) = kl := hkl
          have HFull : Hid ((decide (-1000 ≤ (gx L (m + 1)).2.2) && decide ((gx L (m + 1)).2.2 ≤ 1000) && (decide (m + 1 = 0) || klt (gx L (m + 1 - 1)) (gx L (m + 1)))) = kl) := hide (by rw [o, show m + 1 - 1 = m by omega, hkl, decide_eq_false (by omega)]; rfl)
          rw [unhide HFull] at HB2 hK
          rw [hcast] at hlt' ⊢
          clear o HP HFull hkl hcast
          have hkl := hkl2
          clear hkl2
          generalize gx L (m + 1) = r at *
          generalize gx L m = a at *
          cases kl
          · have HZ := hide ((unhide HB2) rfl)
            go_wp2_with fail
            refine ((unhide CW) _).mono ?_
            rintro e w2 ⟨rfl, e2⟩
            have e3 := e2.symm
            subst e3
            clear e2
            go_upto_region 8 with fail
            have p0 := cell_alloc p0 (.cells #[.int .i64 r.1, .int .i64 r.2.1, .int .i64 r.2.2] 75)
            have p1 := cell_alloc p1 (.cells #[.int .i64 r.1, .int .i64 r.2.1, .int .i64 r.2.2] 75)
            have p2 := cell_alloc p2 (.cells #[.int .i64 r.1, .int .i64 r.2.1, .int .i64 r.2.2] 75)
            obtain ⟨q0, q1, q2⟩ := three_q hq
            generalize wr.alloc (.cells #[.int .i64 r.1, .int .i64 r.2.1, .int .i64 r.2.2] 75) = wa at *
            obtain ⟨q, hqq⟩ : ∃ q, q = wr.heap.size := ⟨_, rfl⟩
            rw [← hqq] at q0 q1 q2 hqa ⊢
            clear hqq hq
            have KS := (show (fun w' => w'.cell? ⟨g, m * 3, none⟩ = some (.int .i64 a.1) ∧ w'.cell? ⟨g, m * 3 + 1, none⟩ = some (.int .i64 a.2.1) ∧ w'.cell? ⟨g, m * 3 + 2, none⟩ = some (.int .i64 a.2.2) ∧ w'.cell? ⟨q, 0, none⟩ = some (.int .i64 r.1) ∧ w'.cell? ⟨q, 1, none⟩ = some (.int .i64 r.2.1) ∧ w'.cell? ⟨q, 2, none⟩ = some (.int .i64 r.2.2)) wa from ⟨p0, p1, p2, q0, q1, q2⟩)
            refine wp_region_held_drew (S := fun w' => w'.cell? ⟨g, m * 3, none⟩ = some (.int .i64 a.1) ∧ w'.cell? ⟨g, m * 3 + 1, none⟩ = some (.int .i64 a.2.1) ∧ w'.cell? ⟨g, m * 3 + 2, none⟩ = some (.int .i64 a.2.2) ∧ w'.cell? ⟨q, 0, none⟩ = some (.int .i64 r.1) ∧ w'.cell? ⟨q, 1, none⟩ = some (.int .i64 r.2.1) ∧ w'.cell? ⟨q, 2, none⟩ = some (.int .i64 r.2.2)) (by kernel_rfl) (by first | go_keep | exact KS) (fun hHeld => ?_)
            refine tkF (i := 0) (d := some 19) (v := ?_) rfl rfl (by kernel_rfl) (by kernel_rfl) (by kernel_rfl) (fun _ _ _ h => h) (Or.inl ⟨by rfl, ?_⟩) (by assumption) ?_
            rotate_left
            · intro w hSw; (try dsimp only at hSw); go_simp; try with_reducible rfl
            try simp only [Act.put, List.setIfInBounds_toArray, List.set_cons_zero, List.set_cons_succ]
            refine tkF (i := 1) (d := some 20) (v := ?_) rfl rfl (by kernel_rfl) (by kernel_rfl) (by kernel_rfl) (fun _ _ _ h => h) (Or.inl ⟨by rfl, ?_⟩) (by assumption) ?_
            rotate_left
            · intro w hSw; (try dsimp only at hSw); go_simp; try with_reducible rfl
            try simp only [Act.put, List.setIfInBounds_toArray, List.set_cons_zero, List.set_cons_succ]
            refine tkF (i := 2) (d := some 21) (v := ?_) rfl rfl (by kernel_rfl) (by kernel_rfl) (by kernel_rfl) (fun _ _ _ h => h) (Or.inl ⟨by rfl, ?_⟩) (by assumption) ?_
            rotate_left
            · intro w hSw; (try dsimp only at hSw); go_simp; try with_reducible rfl
            try simp only [Act.put, List.setIfInBounds_toArray, List.set_cons_zero, List.set_cons_succ]
            refine tkF (i := 3) (d := some 22) (v := ?_) rfl rfl (by kernel_rfl) (by kernel_rfl) (by kernel_rfl) (fun _ _ _ h => h) (Or.inl ⟨by rfl, ?_⟩) (by assumption) ?_
            rotate_left
            · intro w hSw; (try dsimp only at hSw); go_simp; try with_reducible rfl
            try simp only [Act.put, List.setIfInBounds_toArray, List.set_cons_zero, List.set_cons_succ]
            refine tkF (i := 4) (d := some 23) (v := ?_) rfl rfl (by kernel_rfl) (by kernel_rfl) (by kernel_rfl) (fun _ _ _ h => h) (Or.inl ⟨by rfl, ?_⟩) (by assumption) ?_
            rotate_left
            · intro w hSw; (try dsimp only at hSw); go_simp; try with_reducible rfl
            try simp only [Act.put, List.setIfInBounds_toArray, List.set_cons_zero, List.set_cons_succ]
            refine tkF (i := 5) (d := some 24) (v := ?_) rfl rfl (by kernel_rfl) (by kernel_rfl) (by kernel_rfl) (fun _ _ _ h => h) (Or.inl ⟨by rfl, ?_⟩) (by assumption) ?_
            rotate_left
            · intro w hSw; (try dsimp only at hSw); go_simp; try with_reducible rfl
            try simp only [Act.put, List.setIfInBounds_toArray, List.set_cons_zero, List.set_cons_succ]
            refine tkF (i := 6) (d := some 25) (v := ?_) rfl rfl (by kernel_rfl) (by kernel_rfl) (by kernel_rfl) (fun _ _ _ h => h) (Or.inl ⟨by rfl, ?_⟩) (by assumption) ?_
            rotate_left
            · intro w hSw; (try dsimp only at hSw); go_simp; try with_reducible rfl
            try simp only [Act.put, List.setIfInBounds_toArray, List.set_cons_zero, List.set_cons_succ]
            refine tkF (i := 7) (d := some 26) (v := ?_) rfl rfl (by kernel_rfl) (by kernel_rfl) (by kernel_rfl) (fun _ _ _ h => h) (Or.inl ⟨by rfl, ?_⟩) (by assumption) ?_
            rotate_left
            · intro w hSw; (try dsimp only at hSw); go_simp; try with_reducible rfl
            try simp only [Act.put, List.setIfInBounds_toArray, List.set_cons_zero, List.set_cons_succ]
            refine tkF (i := 8) (d := some 27) (v := ?_) rfl rfl (by kernel_rfl) (by kernel_rfl) (by kernel_rfl) (fun _ _ _ h => h) (Or.inl ⟨by rfl, ?_⟩) (by assumption) ?_
            rotate_left
            · intro w hSw; (try dsimp only at hSw); go_simp; try with_reducible rfl
            try simp only [Act.put, List.setIfInBounds_toArray, List.set_cons_zero, List.set_cons_succ]
            refine wpAnyH_ready (rs := [9]) (by kernel_rfl) (by simp) (AllReadyH.cons rfl (fun K hK => ?_) AllReadyH.nil)
            go_simp
            go_at_call 81
            refine ((unhide CK) _).mono ?_
            rintro e w5 ⟨cz, rfl, hcz, hb5⟩
            have KS5 : (fun w' => w'.cell? ⟨g, m * 3, none⟩ = some (.int .i64 a.1) ∧ w'.cell? ⟨g, m * 3 + 1, none⟩ = some (.int .i64 a.2.1) ∧ w'.cell? ⟨g, m * 3 + 2, none⟩ = some (.int .i64 a.2.2) ∧ w'.cell? ⟨q, 0, none⟩ = some (.int .i64 r.1) ∧ w'.cell? ⟨q, 1, none⟩ = some (.int .i64 r.2.1) ∧ w'.cell? ⟨q, 2, none⟩ = some (.int .i64 r.2.2)) w5 := ⟨(((drew_below wa).trans hb5).cell (p := ⟨g, m * 3, none⟩) hga).trans p0, (((drew_below wa).trans hb5).cell (p := ⟨g, m * 3 + 1, none⟩) hga).trans p1, (((drew_below wa).trans hb5).cell (p := ⟨g, m * 3 + 2, none⟩) hga).trans p2, (((drew_below wa).trans hb5).cell (p := ⟨q, 0, none⟩) hqa).trans q0, (((drew_below wa).trans hb5).cell (p := ⟨q, 1, none⟩) hqa).trans q1, (((drew_below wa).trans hb5).cell (p := ⟨q, 2, none⟩) hqa).trans q2⟩
            have B5 := hide ((unhide B2).trans (((drew_below wa).trans hb5).mono (unhide B2).size))
            rw [hkl] at hcz
            have hcz2 : (0 : Int) ≤ cz := by simpa using hcz
            clear hb5
            try go_wp2_with fail
            refine hK.out _ _ KS5 (fun hHeld5 => ?_)
            clear hK K hHeld
            try simp only [Act.put, List.setIfInBounds_toArray, List.set_cons_zero, List.set_cons_succ]
            refine tkF (i := 10) (d := some 29) (v := ?_) rfl rfl (by kernel_rfl) (by kernel_rfl) (by kernel_rfl) (fun _ _ _ h => h) (Or.inl ⟨by rfl, ?_⟩) (by assumption) ?_
            rotate_left
            · intro w hSw; (try dsimp only at hSw); go_simp; try with_reducible rfl
            try simp only [Act.put, List.setIfInBounds_toArray, List.set_cons_zero, List.set_cons_succ]
            refine tkF (i := 11) (d := some 30) (v := ?_) rfl rfl (by kernel_rfl) (by kernel_rfl) (by kernel_rfl) (fun _ _ _ h => h) (Or.inl ⟨by rfl, ?_⟩) (by assumption) ?_
            rotate_left
            · intro w hSw; (try dsimp only at hSw); go_simp; try with_reducible rfl
            try simp only [Act.put, List.setIfInBounds_toArray, List.set_cons_zero, List.set_cons_succ]
            refine wpAnyH_done (by kernel_rfl) ?_ _
            go_wp2
            go_ret
            exact ⟨by rw [unhide HZ]; rfl, unhide B5⟩
          · have HK2 := hide ((unhide hK) rfl)
            go_wp2_with fail
            refine ((unhide CW) _).mono ?_
            rintro e w2 ⟨rfl, e2⟩
            have e3 := e2.symm
            subst e3
            clear e2
            go_upto_region 8 with fail
            have p0 := cell_alloc p0 (.cells #[.int .i64 r.1, .int .i64 r.2.1, .int .i64 r.2.2] 75)
            have p1 := cell_alloc p1 (.cells #[.int .i64 r.1, .int .i64 r.2.1, .int .i64 r.2.2] 75)
            have p2 := cell_alloc p2 (.cells #[.int .i64 r.1, .int .i64 r.2.1, .int .i64 r.2.2] 75)
            obtain ⟨q0, q1, q2⟩ := three_q hq
            generalize wr.alloc (.cells #[.int .i64 r.1, .int .i64 r.2.1, .int .i64 r.2.2] 75) = wa at *
            obtain ⟨q, hqq⟩ : ∃ q, q = wr.heap.size := ⟨_, rfl⟩
            rw [← hqq] at q0 q1 q2 hqa ⊢
            clear hqq hq
            have KS := (show (fun w' => w'.cell? ⟨g, m * 3, none⟩ = some (.int .i64 a.1) ∧ w'.cell? ⟨g, m * 3 + 1, none⟩ = some (.int .i64 a.2.1) ∧ w'.cell? ⟨g, m * 3 + 2, none⟩ = some (.int .i64 a.2.2) ∧ w'.cell? ⟨q, 0, none⟩ = some (.int .i64 r.1) ∧ w'.cell? ⟨q, 1, none⟩ = some (.int .i64 r.2.1) ∧ w'.cell? ⟨q, 2, none⟩ = some (.int .i64 r.2.2)) wa from ⟨p0, p1, p2, q0, q1, q2⟩)
            refine wp_region_held_drew (S := fun w' => w'.cell? ⟨g, m * 3, none⟩ = some (.int .i64 a.1) ∧ w'.cell? ⟨g, m * 3 + 1, none⟩ = some (.int .i64 a.2.1) ∧ w'.cell? ⟨g, m * 3 + 2, none⟩ = some (.int .i64 a.2.2) ∧ w'.cell? ⟨q, 0, none⟩ = some (.int .i64 r.1) ∧ w'.cell? ⟨q, 1, none⟩ = some (.int .i64 r.2.1) ∧ w'.cell? ⟨q, 2, none⟩ = some (.int .i64 r.2.2)) (by kernel_rfl) (by first | go_keep | exact KS) (fun hHeld => ?_)
            refine tkF (i := 0) (d := some 19) (v := ?_) rfl rfl (by kernel_rfl) (by kernel_rfl) (by kernel_rfl) (fun _ _ _ h => h) (Or.inl ⟨by rfl, ?_⟩) (by assumption) ?_
            rotate_left
            · intro w hSw; (try dsimp only at hSw); go_simp; try with_reducible rfl
            try simp only [Act.put, List.setIfInBounds_toArray, List.set_cons_zero, List.set_cons_succ]
            refine tkF (i := 1) (d := some 20) (v := ?_) rfl rfl (by kernel_rfl) (by kernel_rfl) (by kernel_rfl) (fun _ _ _ h => h) (Or.inl ⟨by rfl, ?_⟩) (by assumption) ?_
            rotate_left
            · intro w hSw; (try dsimp only at hSw); go_simp; try with_reducible rfl
            try simp only [Act.put, List.setIfInBounds_toArray, List.set_cons_zero, List.set_cons_succ]
            refine tkF (i := 2) (d := some 21) (v := ?_) rfl rfl (by kernel_rfl) (by kernel_rfl) (by kernel_rfl) (fun _ _ _ h => h) (Or.inl ⟨by rfl, ?_⟩) (by assumption) ?_
            rotate_left
            · intro w hSw; (try dsimp only at hSw); go_simp; try with_reducible rfl
            try simp only [Act.put, List.setIfInBounds_toArray, List.set_cons_zero, List.set_cons_succ]
            refine tkF (i := 3) (d := some 22) (v := ?_) rfl rfl (by kernel_rfl) (by kernel_rfl) (by kernel_rfl) (fun _ _ _ h => h) (Or.inl ⟨by rfl, ?_⟩) (by assumption) ?_
            rotate_left
            · intro w hSw; (try dsimp only at hSw); go_simp; try with_reducible rfl
            try simp only [Act.put, List.setIfInBounds_toArray, List.set_cons_zero, List.set_cons_succ]
            refine tkF (i := 4) (d := some 23) (v := ?_) rfl rfl (by kernel_rfl) (by kernel_rfl) (by kernel_rfl) (fun _ _ _ h => h) (Or.inl ⟨by rfl, ?_⟩) (by assumption) ?_
            rotate_left
            · intro w hSw; (try dsimp only at hSw); go_simp; try with_reducible rfl
            try simp only [Act.put, List.setIfInBounds_toArray, List.set_cons_zero, List.set_cons_succ]
            refine tkF (i := 5) (d := some 24) (v := ?_) rfl rfl (by kernel_rfl) (by kernel_rfl) (by kernel_rfl) (fun _ _ _ h => h) (Or.inl ⟨by rfl, ?_⟩) (by assumption) ?_
            rotate_left
            · intro w hSw; (try dsimp only at hSw); go_simp; try with_reducible rfl
            try simp only [Act.put, List.setIfInBounds_toArray, List.set_cons_zero, List.set_cons_succ]
            refine tkF (i := 6) (d := some 25) (v := ?_) rfl rfl (by kernel_rfl) (by kernel_rfl) (by kernel_rfl) (fun _ _ _ h => h) (Or.inl ⟨by rfl, ?_⟩) (by assumption) ?_
            rotate_left
            · intro w hSw; (try dsimp only at hSw); go_simp; try with_reducible rfl
            try simp only [Act.put, List.setIfInBounds_toArray, List.set_cons_zero, List.set_cons_succ]
            refine tkF (i := 7) (d := some 26) (v := ?_) rfl rfl (by kernel_rfl) (by kernel_rfl) (by kernel_rfl) (fun _ _ _ h => h) (Or.inl ⟨by rfl, ?_⟩) (by assumption) ?_
            rotate_left
            · intro w hSw; (try dsimp only at hSw); go_simp; try with_reducible rfl
            try simp only [Act.put, List.setIfInBounds_toArray, List.set_cons_zero, List.set_cons_succ]
            refine tkF (i := 8) (d := some 27) (v := ?_) rfl rfl (by kernel_rfl) (by kernel_rfl) (by kernel_rfl) (fun _ _ _ h => h) (Or.inl ⟨by rfl, ?_⟩) (by assumption) ?_
            rotate_left
            · intro w hSw; (try dsimp only at hSw); go_simp; try with_reducible rfl
            try simp only [Act.put, List.setIfInBounds_toArray, List.set_cons_zero, List.set_cons_succ]
            refine wpAnyH_ready (rs := [9]) (by kernel_rfl) (by simp) (AllReadyH.cons rfl (fun K hK => ?_) AllReadyH.nil)
            go_simp
            go_at_call 81
            refine ((unhide CK) _).mono ?_
            rintro e w5 ⟨cz, rfl, hcz, hb5⟩
            have KS5 : (fun w' => w'.cell? ⟨g, m * 3, none⟩ = some (.int .i64 a.1) ∧ w'.cell? ⟨g, m * 3 + 1, none⟩ = some (.int .i64 a.2.1) ∧ w'.cell? ⟨g, m * 3 + 2, none⟩ = some (.int .i64 a.2.2) ∧ w'.cell? ⟨q, 0, none⟩ = some (.int .i64 r.1) ∧ w'.cell? ⟨q, 1, none⟩ = some (.int .i64 r.2.1) ∧ w'.cell? ⟨q, 2, none⟩ = some (.int .i64 r.2.2)) w5 := ⟨(((drew_below wa).trans hb5).cell (p := ⟨g, m * 3, none⟩) hga).trans p0, (((drew_below wa).trans hb5).cell (p := ⟨g, m * 3 + 1, none⟩) hga).trans p1, (((drew_below wa).trans hb5).cell (p := ⟨g, m * 3 + 2, none⟩) hga).trans p2, (((drew_below wa).trans hb5).cell (p := ⟨q, 0, none⟩) hqa).trans q0, (((drew_below wa).trans hb5).cell (p := ⟨q, 1, none⟩) hqa).trans q1, (((drew_below wa).trans hb5).cell (p := ⟨q, 2, none⟩) hqa).trans q2⟩
            have B5 := hide ((unhide B2).trans (((drew_below wa).trans hb5).mono (unhide B2).size))
            rw [hkl] at hcz
            have hcz2 : ¬ (0 : Int) ≤ cz := by simpa using hcz
            clear hb5
            try go_wp2_with fail
            refine hK.out _ _ KS5 (fun hHeld5 => ?_)
            clear hK K hHeld
            try simp only [Act.put, List.setIfInBounds_toArray, List.set_cons_zero, List.set_cons_succ]
            refine tkF (i := 10) (d := some 29) (v := ?_) rfl rfl (by kernel_rfl) (by kernel_rfl) (by kernel_rfl) (fun _ _ _ h => h) (Or.inl ⟨by rfl, ?_⟩) (by assumption) ?_
            rotate_left
            · intro w hSw; (try dsimp only at hSw); go_simp; try with_reducible rfl
            try simp only [Act.put, List.setIfInBounds_toArray, List.set_cons_zero, List.set_cons_succ]
            refine tkF (i := 11) (d := some 30) (v := ?_) rfl rfl (by kernel_rfl) (by kernel_rfl) (by kernel_rfl) (fun _ _ _ h => h) (Or.inl ⟨by rfl, ?_⟩) (by assumption) ?_
            rotate_left
            · intro w hSw; (try dsimp only at hSw); go_simp; try with_reducible rfl
            try simp only [Act.put, List.setIfInBounds_toArray, List.set_cons_zero, List.set_cons_succ]
            refine wpAnyH_done (by kernel_rfl) ?_ _
            go_wp2
            go_roundw
            case rel => exact ⟨m + 1 + 1, by omega, by go_num, HK2, B5⟩
            case measure => simp [intOf]; omega
    · obtain rfl : k = L.length := by omega
      have HZ := hide ((unhide HOk) (unhide HK))
      go_wp2
      go_ret
      exact ⟨by rw [unhide HZ]; rfl, unhide HB⟩
end Go.Proofs.YtfldomifooihlaaGreatDoor.Fnt
/- A copy of a font. -/
namespace Go.Proofs.YtfldomifooihlaaGreatDoor.Fnt
open Go.RowKit
set_option linter.unusedVariables false
theorem five_cellsF {w : World} {g : Nat} {a b c d e : Value} {T : TypeId} (h : w.heap[g]? = some (.cells #[a, b, c, d, e] T (0, 0))) : (w.cell? ⟨g, 0, none⟩ = some a ∧ w.cell? ⟨g, 1, none⟩ = some b ∧ w.cell? ⟨g, 2, none⟩ = some c ∧ w.cell? ⟨g, 3, none⟩ = some d ∧ w.cell? ⟨g, 4, none⟩ = some e) ∧ ∀ i, w.frozen? ⟨g, i, none⟩ = false := by
  simp [World.cell?, World.frozen?, h]
/-- Rows that lie above the block b stay where b alone changes. -/
theorem sp_put {w : World} {B g j : Nat} {v x : Value} {L : List Sp} (h : SpRow w B v L) (hg : g < B) : SpRow (w.setCell ⟨g, j, none⟩ x) B v L := Frl.own_at h (fun k hk => heap_setCell_other w ⟨g, j, none⟩ k x (by have := (World.ownsRow.lt h k hk).1; show k ≠ g; omega))
theorem kr_put {w : World} {B g j : Nat} {v x : Value} {L : List Sp} (h : Krn.SpRow w B v L) (hg : g < B) : Krn.SpRow (w.setCell ⟨g, j, none⟩ x) B v L := Frl.own_at h (fun k hk => heap_setCell_other w ⟨g, j, none⟩ k x (by have := (World.ownsRow.lt h k hk).1; show k ≠ g; omega))
theorem ru_put {w : World} {g j b m : Nat} {x : Value} {Q : List (List Int)} {blk : Nat → Nat} (h : Frl.RuC w b Q blk m) (hg : g < b) : Frl.RuC (w.setCell ⟨g, j, none⟩ x) b Q blk m :=
  ⟨fun k hk => (World.cell?_of_block (a := ⟨b, k, none⟩) (heap_setCell_other w ⟨g, j, none⟩ b x (by show b ≠ g; omega))).trans (h.cell k hk), fun k hk => (h.row k hk).put (by have := (h.row k hk).lt; omega), h.mono, by simp; exact h.here⟩
theorem sp_down {w : World} {B B2 : Nat} {v : Value} {L : List Sp} (h : SpRow w B2 v L) (hb : B ≤ B2) : SpRow w B v L := by
  refine ⟨h.1, ?_⟩
  rcases h.2 with h' | ⟨g, cap, cur, hv, hg, r⟩
  · exact .inl h'
  · exact .inr ⟨g, cap, cur, hv, by omega, r⟩
theorem kr_down {w : World} {B B2 : Nat} {v : Value} {L : List Sp} (h : Krn.SpRow w B2 v L) (hb : B ≤ B2) : Krn.SpRow w B v L := by
  refine ⟨h.1, ?_⟩
  rcases h.2 with h' | ⟨g, cap, cur, hv, hg, r⟩
  · exact .inl h'
  · exact .inr ⟨g, cap, cur, hv, by omega, r⟩
/-- A font that can be read: its width, spans, rules, kerns and anchors. -/
structure FA (w : World) (v : Value) (wd : Int) (LW : List Sp) (n : Nat) (Q : List (List Int)) (LK LA : List Sp) : Prop where
  form : ∃ a1 a2 a3 a4 c1 c2 c3 c4, v = .agg #[.int .i64 wd, .slice a1 LW.length c1, .slice a2 n c2, .slice a3 LK.length c3, .slice a4 LA.length c4] ∧ (∃ B, SpRow w B (.slice a1 LW.length c1) LW) ∧ Frl.RuI w (.slice a2 n c2) n Q ∧ (∃ B, Krn.SpRow w B (.slice a3 LK.length c3) LK) ∧ ∃ B, SpRow w B (.slice a4 LA.length c4) LA
theorem FA.below {w w' : World} {v : Value} {wd : Int} {LW : List Sp} {n : Nat} {Q : List (List Int)} {LK LA : List Sp} (h : FA w v wd LW n Q LK LA) (hb : Below w.heap.size w w') : FA w' v wd LW n Q LK LA := by
  obtain ⟨a1, a2, a3, a4, c1, c2, c3, c4, e, ⟨B1, h1⟩, h2, ⟨B3, h3⟩, B4, h4⟩ := h.form
  exact ⟨a1, a2, a3, a4, c1, c2, c3, c4, e, ⟨B1, h1.below hb⟩, h2.below hb, ⟨B3, h3.below hb⟩, B4, h4.below hb⟩
set_option maxRecDepth 100000 in
set_option maxHeartbeats 8000000 in
theorem toFont_any (wd : Int) (u1 u2 u3 u4 : Value) (LW : List Sp) (n : Nat) (Q : List (List Int)) (LK LA : List Sp) (w : World) (h1 : SpsAt w u1 LW) (h2 : Frl.RuI w u2 n Q) (h3 : Krn.SpsAt w u3 LK) (h4 : SpsAt w u4 LA) (l1 : LW.length ≤ 1048576) (l2 : n ≤ 1048576) (l5 : Frl.AllB Q 1048576) (l3 : LK.length ≤ 1048576) (l4 : LA.length ≤ 1048576) :
    Calls Tryz.prog 6 #[.agg #[.int .i64 wd, u1, u2, u3, u4]] w fun e w' => ∃ v, e = .returned v ∧ FA w' v wd LW n Q LK LA ∧ Below w.heap.size w w' := by
  have C1 := hide (fun W h => toSpans u1 LW W h l1)
  have C2 := hide (fun W h => Frl.toRules_any u2 n Q W h l2 l5)
  have C3 := hide (fun W h => Krn.toSpans u3 LK W h l3)
  have C4 := hide (fun W h => toSpans u4 LA W h l4)
  have H1 := hide h1
  have H2 := hide h2
  have H3 := hide h3
  have H4 := hide h4
  have HQ := hide h2.1
  clear h1 h2 h3 h4 l1 l2 l3 l4 l5
  go_enter Tryz.func6, Tryz.ntmps6
  go_wp2_with fail
  have hb3 : Below w.heap.size w (((w.alloc (.cells #[.int .i64 wd, u1, u2, u3, u4] 26)).alloc (.cells #[.int .i64 0, .slice none 0 0, .slice none 0 0, .slice none 0 0, .slice none 0 0] 36)).alloc (.cells #[.int .i64 wd, .slice none 0 0, .slice none 0 0, .slice none 0 0, .slice none 0 0] 36)) := ((((Below.refl _ _).alloc (Nat.le_refl _) _).alloc (by simp) _).alloc (by simp; omega) _)
  have hz3 : w.heap.size + 3 ≤ (((w.alloc (.cells #[.int .i64 wd, u1, u2, u3, u4] 26)).alloc (.cells #[.int .i64 0, .slice none 0 0, .slice none 0 0, .slice none 0 0, .slice none 0 0] 36)).alloc (.cells #[.int .i64 wd, .slice none 0 0, .slice none 0 0, .slice none 0 0, .slice none 0 0] 36)).heap.size := by simp
  have k0 : (((w.alloc (.cells #[.int .i64 wd, u1, u2, u3, u4] 26)).alloc (.cells #[.int .i64 0, .slice none 0 0, .slice none 0 0, .slice none 0 0, .slice none 0 0] 36)).alloc (.cells #[.int .i64 wd, .slice none 0 0, .slice none 0 0, .slice none 0 0, .slice none 0 0] 36)).heap[w.heap.size]? = some (.cells #[.int .i64 wd, u1, u2, u3, u4] 26 (0, 0)) := by
    rw [Below.heap_alloc _ _ _ (by simp; omega), Below.heap_alloc _ _ _ (by simp)]
    exact Frl.heap_new w _
  have k1 : (((w.alloc (.cells #[.int .i64 wd, u1, u2, u3, u4] 26)).alloc (.cells #[.int .i64 0, .slice none 0 0, .slice none 0 0, .slice none 0 0, .slice none 0 0] 36)).alloc (.cells #[.int .i64 wd, .slice none 0 0, .slice none 0 0, .slice none 0 0, .slice none 0 0] 36)).heap[w.heap.size + 1]? = some (.cells #[.int .i64 0, .slice none 0 0, .slice none 0 0, .slice none 0 0, .slice none 0 0] 36 (0, 0)) := by
    rw [Below.heap_alloc _ _ _ (by simp)]
    have := Frl.heap_new (w.alloc (.cells #[.int .i64 wd, u1, u2, u3, u4] 26)) (.cells #[.int .i64 0, .slice none 0 0, .slice none 0 0, .slice none 0 0, .slice none 0 0] 36)
    simpa using this
  have k2 : (((w.alloc (.cells #[.int .i64 wd, u1, u2, u3, u4] 26)).alloc (.cells #[.int .i64 0, .slice none 0 0, .slice none 0 0, .slice none 0 0, .slice none 0 0] 36)).alloc (.cells #[.int .i64 wd, .slice none 0 0, .slice none 0 0, .slice none 0 0, .slice none 0 0] 36)).heap[w.heap.size + 1 + 1]? = some (.cells #[.int .i64 wd, .slice none 0 0, .slice none 0 0, .slice none 0 0, .slice none 0 0] 36 (0, 0)) := by
    have := Frl.heap_new ((w.alloc (.cells #[.int .i64 wd, u1, u2, u3, u4] 26)).alloc (.cells #[.int .i64 0, .slice none 0 0, .slice none 0 0, .slice none 0 0, .slice none 0 0] 36)) (.cells #[.int .i64 wd, .slice none 0 0, .slice none 0 0, .slice none 0 0, .slice none 0 0] 36)
    simpa using this
  have B3 := hide hb3
  generalize (((w.alloc (.cells #[.int .i64 wd, u1, u2, u3, u4] 26)).alloc (.cells #[.int .i64 0, .slice none 0 0, .slice none 0 0, .slice none 0 0, .slice none 0 0] 36)).alloc (.cells #[.int .i64 wd, .slice none 0 0, .slice none 0 0, .slice none 0 0, .slice none 0 0] 36)) = wa at *
  clear hb3
  refine ((unhide C1) _ ((unhide H1).below (unhide B3))).mono ?_
  rintro e wb1 ⟨rfl, ho1, hb⟩
  have k0' := (hb.block w.heap.size (by omega)).trans k0
  have k1' := (hb.block (w.heap.size + 1) (by omega)).trans k1
  have k2' := (hb.block (w.heap.size + 1 + 1) (by omega)).trans k2
  obtain ⟨q1, hq1⟩ : ∃ q, q = wa.heap.size := ⟨_, rfl⟩
  rw [← hq1] at ho1 ⊢
  have hp1 : wa.heap.size ≤ q1 := by omega
  have R1' := hide (sp_down (B := w.heap.size + 3) ho1 (by omega))
  clear hq1
  have B3' := hide ((unhide B3).trans (hb.mono (unhide B3).size))
  have hs1 : wa.heap.size ≤ wb1.heap.size := hb.size
  obtain ⟨⟨a0, a1, a2, a3, a4⟩, _⟩ := five_cellsF k0'
  obtain ⟨⟨b0, b1, b2, b3, b4⟩, b6⟩ := five_cellsF k2'
  have b5 := b6 1
  clear b6
  have m0 := (heap_setCell_other wb1 ⟨w.heap.size + 1 + 1, 1, none⟩ w.heap.size (.slice (some ⟨q1, 0, none⟩) LW.length LW.length) (by show w.heap.size ≠ w.heap.size + 1 + 1; omega)).trans k0'
  have m1 := (heap_setCell_other wb1 ⟨w.heap.size + 1 + 1, 1, none⟩ (w.heap.size + 1) (.slice (some ⟨q1, 0, none⟩) LW.length LW.length) (by simp)).trans k1'
  have m2 := heap_setCell_same wb1 (w.heap.size + 1 + 1) 1 _ 36 (.slice (some ⟨q1, 0, none⟩) LW.length LW.length) k2'
  have R1 := hide (sp_put (g := w.heap.size + 1 + 1) (j := 1) (x := (.slice (some ⟨q1, 0, none⟩) LW.length LW.length)) (unhide R1') (by omega))
  have B4 := hide ((unhide B3').setCell (p := ⟨w.heap.size + 1 + 1, 1, none⟩) (by show w.heap.size ≤ w.heap.size + 1 + 1; omega) (.slice (some ⟨q1, 0, none⟩) LW.length LW.length))
  have hz51 : wb1.heap.size ≤ (wb1.setCell ⟨w.heap.size + 1 + 1, 1, none⟩ (.slice (some ⟨q1, 0, none⟩) LW.length LW.length)).heap.size := by simp
  obtain ⟨⟨d0, d1, d2, d3, d4⟩, _⟩ := five_cellsF m0
  clear R1'
  clear k0 k1 k2 k0' k1' k2' hb B3 B3' ho1 C1 H1
  go_wp2_with fail
  have k0 := m0
  have k1 := m1
  have k2 := m2
  have B3 := B4
  generalize wb1.setCell ⟨w.heap.size + 1 + 1, 1, none⟩ (.slice (some ⟨q1, 0, none⟩) LW.length LW.length) = wc1 at *
  clear m0 m1 m2 B4 a0 a1 a2 a3 a4 b0 b1 b2 b3 b4 b5 d0 d1 d2 d3 d4
  refine ((unhide C2) _ ((unhide H2).below (unhide B3))).mono ?_
  rintro e wb2 ⟨rfl, ⟨blk, ho2⟩, hb⟩
  have k0' := (hb.block w.heap.size (by omega)).trans k0
  have k1' := (hb.block (w.heap.size + 1) (by omega)).trans k1
  have k2' := (hb.block (w.heap.size + 1 + 1) (by omega)).trans k2
  have R1' := hide ((unhide R1).below hb)
  clear R1
  obtain ⟨q2, hq2⟩ : ∃ q, q = wc1.heap.size := ⟨_, rfl⟩
  rw [← hq2] at ho2 ⊢
  have hp2 : wc1.heap.size ≤ q2 := by omega
  have R2' := hide ho2
  clear hq2
  have B3' := hide ((unhide B3).trans (hb.mono (unhide B3).size))
  have hs2 : wc1.heap.size ≤ wb2.heap.size := hb.size
  obtain ⟨⟨a0, a1, a2, a3, a4⟩, _⟩ := five_cellsF k0'
  obtain ⟨⟨b0, b1, b2, b3, b4⟩, b6⟩ := five_cellsF k2'
  have b5 := b6 2
  clear b6
  have m0 := (heap_setCell_other wb2 ⟨w.heap.size + 1 + 1, 2, none⟩ w.heap.size (.slice (some ⟨q2, 0, none⟩) n n) (by show w.heap.size ≠ w.heap.size + 1 + 1; omega)).trans k0'
  have m1 := (heap_setCell_other wb2 ⟨w.heap.size + 1 + 1, 2, none⟩ (w.heap.size + 1) (.slice (some ⟨q2, 0, none⟩) n n) (by simp)).trans k1'
  have m2 := heap_setCell_same wb2 (w.heap.size + 1 + 1) 2 _ 36 (.slice (some ⟨q2, 0, none⟩) n n) k2'
  have R1 := hide (sp_put (g := w.heap.size + 1 + 1) (j := 2) (x := (.slice (some ⟨q2, 0, none⟩) n n)) (unhide R1') (by omega))
  have R2 := hide (ru_put (g := w.heap.size + 1 + 1) (j := 2) (x := (.slice (some ⟨q2, 0, none⟩) n n)) (unhide R2') (by omega))
  have B4 := hide ((unhide B3').setCell (p := ⟨w.heap.size + 1 + 1, 2, none⟩) (by show w.heap.size ≤ w.heap.size + 1 + 1; omega) (.slice (some ⟨q2, 0, none⟩) n n))
  have hz52 : wb2.heap.size ≤ (wb2.setCell ⟨w.heap.size + 1 + 1, 2, none⟩ (.slice (some ⟨q2, 0, none⟩) n n)).heap.size := by simp
  obtain ⟨⟨d0, d1, d2, d3, d4⟩, _⟩ := five_cellsF m0
  clear R1'
  clear R2'
  clear k0 k1 k2 k0' k1' k2' hb B3 B3' ho2 C2 H2
  go_wp2_with fail
  have k0 := m0
  have k1 := m1
  have k2 := m2
  have B3 := B4
  generalize wb2.setCell ⟨w.heap.size + 1 + 1, 2, none⟩ (.slice (some ⟨q2, 0, none⟩) n n) = wc2 at *
  clear m0 m1 m2 B4 a0 a1 a2 a3 a4 b0 b1 b2 b3 b4 b5 d0 d1 d2 d3 d4
  refine ((unhide C3) _ ((unhide H3).below (unhide B3))).mono ?_
  rintro e wb3 ⟨rfl, ho3, hb⟩
  have k0' := (hb.block w.heap.size (by omega)).trans k0
  have k1' := (hb.block (w.heap.size + 1) (by omega)).trans k1
  have k2' := (hb.block (w.heap.size + 1 + 1) (by omega)).trans k2
  have R1' := hide ((unhide R1).below hb)
  clear R1
  have R2' := hide ((unhide R2).below hb)
  clear R2
  obtain ⟨q3, hq3⟩ : ∃ q, q = wc2.heap.size := ⟨_, rfl⟩
  rw [← hq3] at ho3 ⊢
  have hp3 : wc2.heap.size ≤ q3 := by omega
  have R3' := hide (kr_down (B := w.heap.size + 3) ho3 (by omega))
  clear hq3
  have B3' := hide ((unhide B3).trans (hb.mono (unhide B3).size))
  have hs3 : wc2.heap.size ≤ wb3.heap.size := hb.size
  obtain ⟨⟨a0, a1, a2, a3, a4⟩, _⟩ := five_cellsF k0'
  obtain ⟨⟨b0, b1, b2, b3, b4⟩, b6⟩ := five_cellsF k2'
  have b5 := b6 3
  clear b6
  have m0 := (heap_setCell_other wb3 ⟨w.heap.size + 1 + 1, 3, none⟩ w.heap.size (.slice (some ⟨q3, 0, none⟩) LK.length LK.length) (by show w.heap.size ≠ w.heap.size + 1 + 1; omega)).trans k0'
  have m1 := (heap_setCell_other wb3 ⟨w.heap.size + 1 + 1, 3, none⟩ (w.heap.size + 1) (.slice (some ⟨q3, 0, none⟩) LK.length LK.length) (by simp)).trans k1'
  have m2 := heap_setCell_same wb3 (w.heap.size + 1 + 1) 3 _ 36 (.slice (some ⟨q3, 0, none⟩) LK.length LK.length) k2'
  have R1 := hide (sp_put (g := w.heap.size + 1 + 1) (j := 3) (x := (.slice (some ⟨q3, 0, none⟩) LK.length LK.length)) (unhide R1') (by omega))
  have R2 := hide (ru_put (g := w.heap.size + 1 + 1) (j := 3) (x := (.slice (some ⟨q3, 0, none⟩) LK.length LK.length)) (unhide R2') (by omega))
  have R3 := hide (kr_put (g := w.heap.size + 1 + 1) (j := 3) (x := (.slice (some ⟨q3, 0, none⟩) LK.length LK.length)) (unhide R3') (by omega))
  have B4 := hide ((unhide B3').setCell (p := ⟨w.heap.size + 1 + 1, 3, none⟩) (by show w.heap.size ≤ w.heap.size + 1 + 1; omega) (.slice (some ⟨q3, 0, none⟩) LK.length LK.length))
  have hz53 : wb3.heap.size ≤ (wb3.setCell ⟨w.heap.size + 1 + 1, 3, none⟩ (.slice (some ⟨q3, 0, none⟩) LK.length LK.length)).heap.size := by simp
  obtain ⟨⟨d0, d1, d2, d3, d4⟩, _⟩ := five_cellsF m0
  clear R1'
  clear R2'
  clear R3'
  clear k0 k1 k2 k0' k1' k2' hb B3 B3' ho3 C3 H3
  go_wp2_with fail
  have k0 := m0
  have k1 := m1
  have k2 := m2
  have B3 := B4
  generalize wb3.setCell ⟨w.heap.size + 1 + 1, 3, none⟩ (.slice (some ⟨q3, 0, none⟩) LK.length LK.length) = wc3 at *
  clear m0 m1 m2 B4 a0 a1 a2 a3 a4 b0 b1 b2 b3 b4 b5 d0 d1 d2 d3 d4
  refine ((unhide C4) _ ((unhide H4).below (unhide B3))).mono ?_
  rintro e wb4 ⟨rfl, ho4, hb⟩
  have k0' := (hb.block w.heap.size (by omega)).trans k0
  have k1' := (hb.block (w.heap.size + 1) (by omega)).trans k1
  have k2' := (hb.block (w.heap.size + 1 + 1) (by omega)).trans k2
  have R1' := hide ((unhide R1).below hb)
  clear R1
  have R2' := hide ((unhide R2).below hb)
  clear R2
  have R3' := hide ((unhide R3).below hb)
  clear R3
  obtain ⟨q4, hq4⟩ : ∃ q, q = wc3.heap.size := ⟨_, rfl⟩
  rw [← hq4] at ho4 ⊢
  have hp4 : wc3.heap.size ≤ q4 := by omega
  have R4' := hide (sp_down (B := w.heap.size + 3) ho4 (by omega))
  clear hq4
  have B3' := hide ((unhide B3).trans (hb.mono (unhide B3).size))
  have hs4 : wc3.heap.size ≤ wb4.heap.size := hb.size
  obtain ⟨⟨a0, a1, a2, a3, a4⟩, _⟩ := five_cellsF k0'
  obtain ⟨⟨b0, b1, b2, b3, b4⟩, b6⟩ := five_cellsF k2'
  have b5 := b6 4
  clear b6
  have m0 := (heap_setCell_other wb4 ⟨w.heap.size + 1 + 1, 4, none⟩ w.heap.size (.slice (some ⟨q4, 0, none⟩) LA.length LA.length) (by show w.heap.size ≠ w.heap.size + 1 + 1; omega)).trans k0'
  have m1 := (heap_setCell_other wb4 ⟨w.heap.size + 1 + 1, 4, none⟩ (w.heap.size + 1) (.slice (some ⟨q4, 0, none⟩) LA.length LA.length) (by simp)).trans k1'
  have m2 := heap_setCell_same wb4 (w.heap.size + 1 + 1) 4 _ 36 (.slice (some ⟨q4, 0, none⟩) LA.length LA.length) k2'
  have R1 := hide (sp_put (g := w.heap.size + 1 + 1) (j := 4) (x := (.slice (some ⟨q4, 0, none⟩) LA.length LA.length)) (unhide R1') (by omega))
  have R2 := hide (ru_put (g := w.heap.size + 1 + 1) (j := 4) (x := (.slice (some ⟨q4, 0, none⟩) LA.length LA.length)) (unhide R2') (by omega))
  have R3 := hide (kr_put (g := w.heap.size + 1 + 1) (j := 4) (x := (.slice (some ⟨q4, 0, none⟩) LA.length LA.length)) (unhide R3') (by omega))
  have R4 := hide (sp_put (g := w.heap.size + 1 + 1) (j := 4) (x := (.slice (some ⟨q4, 0, none⟩) LA.length LA.length)) (unhide R4') (by omega))
  have B4 := hide ((unhide B3').setCell (p := ⟨w.heap.size + 1 + 1, 4, none⟩) (by show w.heap.size ≤ w.heap.size + 1 + 1; omega) (.slice (some ⟨q4, 0, none⟩) LA.length LA.length))
  have hz54 : wb4.heap.size ≤ (wb4.setCell ⟨w.heap.size + 1 + 1, 4, none⟩ (.slice (some ⟨q4, 0, none⟩) LA.length LA.length)).heap.size := by simp
  obtain ⟨⟨d0, d1, d2, d3, d4⟩, _⟩ := five_cellsF m2
  obtain ⟨_, f4⟩ := five_cellsF m1
  clear R1'
  clear R2'
  clear R3'
  clear R4'
  clear k0 k1 k2 k0' k1' k2' hb B3 B3' ho4 C4 H4
  have n0 := heap_setCell_same (wb4.setCell ⟨w.heap.size + 1 + 1, 4, none⟩ (.slice (some ⟨q4, 0, none⟩) LA.length LA.length)) (w.heap.size + 1) 0 _ 36 (.int .i64 wd) m1
  obtain ⟨⟨g00, g01, g02, g03, g04⟩, g05⟩ := five_cellsF n0
  have S01 := hide (sp_put (g := w.heap.size + 1) (j := 0) (x := (.int .i64 wd)) (unhide R1) (by omega))
  have S02 := hide (ru_put (g := w.heap.size + 1) (j := 0) (x := (.int .i64 wd)) (unhide R2) (by omega))
  have S03 := hide (kr_put (g := w.heap.size + 1) (j := 0) (x := (.int .i64 wd)) (unhide R3) (by omega))
  have S04 := hide (sp_put (g := w.heap.size + 1) (j := 0) (x := (.int .i64 wd)) (unhide R4) (by omega))
  have D0 := hide ((unhide B4).setCell (p := ⟨w.heap.size + 1, 0, none⟩) (by simp) (.int .i64 wd))
  have n1 := heap_setCell_same ((wb4.setCell ⟨w.heap.size + 1 + 1, 4, none⟩ (.slice (some ⟨q4, 0, none⟩) LA.length LA.length)).setCell ⟨w.heap.size + 1, 0, none⟩ (.int .i64 wd)) (w.heap.size + 1) 1 _ 36 (.slice (some ⟨q1, 0, none⟩) LW.length LW.length) n0
  obtain ⟨⟨g10, g11, g12, g13, g14⟩, g15⟩ := five_cellsF n1
  have S11 := hide (sp_put (g := w.heap.size + 1) (j := 1) (x := (.slice (some ⟨q1, 0, none⟩) LW.length LW.length)) (unhide S01) (by omega))
  have S12 := hide (ru_put (g := w.heap.size + 1) (j := 1) (x := (.slice (some ⟨q1, 0, none⟩) LW.length LW.length)) (unhide S02) (by omega))
  have S13 := hide (kr_put (g := w.heap.size + 1) (j := 1) (x := (.slice (some ⟨q1, 0, none⟩) LW.length LW.length)) (unhide S03) (by omega))
  have S14 := hide (sp_put (g := w.heap.size + 1) (j := 1) (x := (.slice (some ⟨q1, 0, none⟩) LW.length LW.length)) (unhide S04) (by omega))
  have D1 := hide ((unhide D0).setCell (p := ⟨w.heap.size + 1, 1, none⟩) (by simp) (.slice (some ⟨q1, 0, none⟩) LW.length LW.length))
  have n2 := heap_setCell_same (((wb4.setCell ⟨w.heap.size + 1 + 1, 4, none⟩ (.slice (some ⟨q4, 0, none⟩) LA.length LA.length)).setCell ⟨w.heap.size + 1, 0, none⟩ (.int .i64 wd)).setCell ⟨w.heap.size + 1, 1, none⟩ (.slice (some ⟨q1, 0, none⟩) LW.length LW.length)) (w.heap.size + 1) 2 _ 36 (.slice (some ⟨q2, 0, none⟩) n n) n1
  obtain ⟨⟨g20, g21, g22, g23, g24⟩, g25⟩ := five_cellsF n2
  have S21 := hide (sp_put (g := w.heap.size + 1) (j := 2) (x := (.slice (some ⟨q2, 0, none⟩) n n)) (unhide S11) (by omega))
  have S22 := hide (ru_put (g := w.heap.size + 1) (j := 2) (x := (.slice (some ⟨q2, 0, none⟩) n n)) (unhide S12) (by omega))
  have S23 := hide (kr_put (g := w.heap.size + 1) (j := 2) (x := (.slice (some ⟨q2, 0, none⟩) n n)) (unhide S13) (by omega))
  have S24 := hide (sp_put (g := w.heap.size + 1) (j := 2) (x := (.slice (some ⟨q2, 0, none⟩) n n)) (unhide S14) (by omega))
  have D2 := hide ((unhide D1).setCell (p := ⟨w.heap.size + 1, 2, none⟩) (by simp) (.slice (some ⟨q2, 0, none⟩) n n))
  have n3 := heap_setCell_same ((((wb4.setCell ⟨w.heap.size + 1 + 1, 4, none⟩ (.slice (some ⟨q4, 0, none⟩) LA.length LA.length)).setCell ⟨w.heap.size + 1, 0, none⟩ (.int .i64 wd)).setCell ⟨w.heap.size + 1, 1, none⟩ (.slice (some ⟨q1, 0, none⟩) LW.length LW.length)).setCell ⟨w.heap.size + 1, 2, none⟩ (.slice (some ⟨q2, 0, none⟩) n n)) (w.heap.size + 1) 3 _ 36 (.slice (some ⟨q3, 0, none⟩) LK.length LK.length) n2
  obtain ⟨⟨g30, g31, g32, g33, g34⟩, g35⟩ := five_cellsF n3
  have S31 := hide (sp_put (g := w.heap.size + 1) (j := 3) (x := (.slice (some ⟨q3, 0, none⟩) LK.length LK.length)) (unhide S21) (by omega))
  have S32 := hide (ru_put (g := w.heap.size + 1) (j := 3) (x := (.slice (some ⟨q3, 0, none⟩) LK.length LK.length)) (unhide S22) (by omega))
  have S33 := hide (kr_put (g := w.heap.size + 1) (j := 3) (x := (.slice (some ⟨q3, 0, none⟩) LK.length LK.length)) (unhide S23) (by omega))
  have S34 := hide (sp_put (g := w.heap.size + 1) (j := 3) (x := (.slice (some ⟨q3, 0, none⟩) LK.length LK.length)) (unhide S24) (by omega))
  have D3 := hide ((unhide D2).setCell (p := ⟨w.heap.size + 1, 3, none⟩) (by simp) (.slice (some ⟨q3, 0, none⟩) LK.length LK.length))
  have n4 := heap_setCell_same (((((wb4.setCell ⟨w.heap.size + 1 + 1, 4, none⟩ (.slice (some ⟨q4, 0, none⟩) LA.length LA.length)).setCell ⟨w.heap.size + 1, 0, none⟩ (.int .i64 wd)).setCell ⟨w.heap.size + 1, 1, none⟩ (.slice (some ⟨q1, 0, none⟩) LW.length LW.length)).setCell ⟨w.heap.size + 1, 2, none⟩ (.slice (some ⟨q2, 0, none⟩) n n)).setCell ⟨w.heap.size + 1, 3, none⟩ (.slice (some ⟨q3, 0, none⟩) LK.length LK.length)) (w.heap.size + 1) 4 _ 36 (.slice (some ⟨q4, 0, none⟩) LA.length LA.length) n3
  obtain ⟨⟨g40, g41, g42, g43, g44⟩, g45⟩ := five_cellsF n4
  have S41 := hide (sp_put (g := w.heap.size + 1) (j := 4) (x := (.slice (some ⟨q4, 0, none⟩) LA.length LA.length)) (unhide S31) (by omega))
  have S42 := hide (ru_put (g := w.heap.size + 1) (j := 4) (x := (.slice (some ⟨q4, 0, none⟩) LA.length LA.length)) (unhide S32) (by omega))
  have S43 := hide (kr_put (g := w.heap.size + 1) (j := 4) (x := (.slice (some ⟨q4, 0, none⟩) LA.length LA.length)) (unhide S33) (by omega))
  have S44 := hide (sp_put (g := w.heap.size + 1) (j := 4) (x := (.slice (some ⟨q4, 0, none⟩) LA.length LA.length)) (unhide S34) (by omega))
  have D4 := hide ((unhide D3).setCell (p := ⟨w.heap.size + 1, 4, none⟩) (by simp) (.slice (some ⟨q4, 0, none⟩) LA.length LA.length))
  have f40 := f4 0
  have y0 := g05 1
  have y1 := g15 2
  have y2 := g25 3
  have y3 := g35 4
  clear n0 n1 n2 n3 n4 m0 m1 m2 f4 g05 g15 g25 g35 g45
  clear R1 R2 R3 R4 S01 S02 S03 S04 S11 S12 S13 S14 S21 S22 S23 S24 S31 S32 S33 S34 D0 D1 D2 D3 B4
  go_wp2
  refine bodyPost_ret (v := .agg #[(.int .i64 wd), (.slice (some ⟨q1, 0, none⟩) LW.length LW.length), (.slice (some ⟨q2, 0, none⟩) n n), (.slice (some ⟨q3, 0, none⟩) LK.length LK.length), (.slice (some ⟨q4, 0, none⟩) LA.length LA.length)]) (by simp [results, Tryz.results6, go_sem, g40, g41, g42, g43, g44]; try rfl) rfl ?_
  exact ⟨_, rfl, ⟨_, _, _, _, _, _, _, _, rfl, ⟨_, unhide S41⟩, (unhide S42).ints (unhide HQ) _, ⟨_, unhide S43⟩, _, unhide S44⟩, unhide D4⟩
end Go.Proofs.YtfldomifooihlaaGreatDoor.Fnt
/- How large a font is; fonts that are alike. -/
namespace Go.Proofs.YtfldomifooihlaaGreatDoor.Fnt
open Go.RowKit
set_option linter.unusedVariables false
theorem allB_of {n : Nat} {Q : List (List Int)} (hl : Q.length = n * 4) (h : Frl.szk Q n ≤ 1048576) : Frl.AllB Q 1048576 := by
  intro k
  by_cases hk : k < n * 4
  · have h1 := Frl.szk_up Q (k / 4) n (by omega)
    unfold Frl.sz4 at h1
    have h2 : k = k / 4 * 4 ∨ k = k / 4 * 4 + 1 ∨ k = k / 4 * 4 + 2 ∨ k = k / 4 * 4 + 3 := by omega
    rcases h2 with e | e | e | e <;> rw [e] <;> omega
  · have : Frl.qn Q k = [] := by unfold Frl.qn; rw [List.getD_eq_getElem?_getD, List.getElem?_eq_none (by omega)]; rfl
    rw [this]; simp
/-- What is within the bounds of the law. -/
def Fit (LW : List Sp) (n : Nat) (Q : List (List Int)) (LK LA : List Sp) : Prop := LW.length ≤ 1048576 ∧ n ≤ 1048576 ∧ Frl.AllB Q 1048576 ∧ LK.length ≤ 1048576 ∧ LA.length ≤ 1048576
set_option maxRecDepth 100000 in
set_option maxHeartbeats 8000000 in
theorem szFont_any (wd : Int) (a1 a2 a3 a4 : Option Addr) (c1 c2 c3 c4 : Nat) (LW : List Sp) (n : Nat) (Q : List (List Int)) (LK LA : List Sp) (w : World) (h2 : Frl.RuI w (.slice a2 n c2) n Q) (b1 : LW.length ≤ 9223372036854775807) (b2 : n ≤ 9223372036854775807) (b5 : Frl.AllB Q 9223372036854775807) (b3 : LK.length ≤ 9223372036854775807) (b4 : LA.length ≤ 9223372036854775807) :
    Calls Tryz.prog 4 #[.agg #[.int .i64 wd, .slice a1 LW.length c1, .slice a2 n c2, .slice a3 LK.length c3, .slice a4 LA.length c4], .int .i64 1048576] w fun e w' => ∃ S : Int, e = .returned (.int .i64 S) ∧ (0 ≤ S → Fit LW n Q LK LA) ∧ Below w.heap.size w w' := by
  have B1 := hide ((Below.refl w.heap.size w).alloc (Nat.le_refl _) (.cells #[.int .i64 wd, .slice a1 LW.length c1, .slice a2 n c2, .slice a3 LK.length c3, .slice a4 LA.length c4] 26))
  have hQ := h2.1
  have hq := Frl.heap_new w (.cells #[.int .i64 wd, .slice a1 LW.length c1, .slice a2 n c2, .slice a3 LK.length c3, .slice a4 LA.length c4] 26)
  have hqs : w.heap.size < (w.alloc (.cells #[.int .i64 wd, .slice a1 LW.length c1, .slice a2 n c2, .slice a3 LK.length c3, .slice a4 LA.length c4] 26)).heap.size := by simp
  have C1 := hide (fun W => szSpans_any a1 LW.length c1 1048576 (by omega) W b1)
  have HF : Hid (LW.length ≤ 1048576 → n ≤ 1048576 → Frl.szk Q n ≤ 1048576 → LK.length ≤ 1048576 → LA.length ≤ 1048576 → Fit LW n Q LK LA) := hide (fun x1 x2 x3 x4 x5 => ⟨x1, x2, allB_of hQ x3, x4, x5⟩)
  by_cases t1 : (1048576 : Int) - (LW.length : Int) < 0
  · rw [if_pos t1] at C1
    clear h2 hq
    go_enter Tryz.func4, Tryz.ntmps4
    go_wp2_with fail
    refine ((unhide C1) _).mono ?_
    rintro e w9 ⟨rfl, e9⟩
    have f9 := e9.symm
    subst f9
    clear e9
    go_wp2
    go_ret
    exact ⟨-1, rfl, fun h => by omega, unhide B1⟩
  rw [if_neg t1] at C1
  obtain ⟨s1, hs1⟩ : ∃ s1 : Int, 1048576 - (LW.length : Int) = s1 := ⟨_, rfl⟩
  rw [hs1] at C1 t1
  have C2 := hide (Frl.szRules_any s1 (by omega) (.slice a2 n c2) n Q _ (h2.below (unhide B1)) b2 b5)
  by_cases t2 : s1 - ((n + Frl.szk Q n : Nat) : Int) < 0
  · rw [Frl.lf_neg t2] at C2
    clear h2 hs1
    go_enter Tryz.func4, Tryz.ntmps4
    go_wp2_with fail
    refine ((unhide C1) _).mono ?_
    rintro e w9 ⟨rfl, e9⟩
    have f9 := e9.symm
    subst f9
    clear e9
    go_wp2_with fail
    generalize w.alloc (.cells #[.int .i64 wd, .slice a1 LW.length c1, .slice a2 n c2, .slice a3 LK.length c3, .slice a4 LA.length c4] 26) = wa at *
    refine (unhide C2).mono ?_
    rintro e w2 ⟨rfl, hb2⟩
    have B2 := hide ((unhide B1).trans (hb2.mono (unhide B1).size))
    have hq2 := (hb2.block w.heap.size hqs).trans hq
    obtain ⟨⟨x0, x1, x2, x3, x4⟩, _⟩ := five_cellsF hq2
    clear hb2 C2
    go_wp2
    go_ret
    exact ⟨-1, rfl, fun h => by omega, unhide B2⟩
  rw [Frl.lf_pos t2] at C2
  obtain ⟨s2, hs2⟩ : ∃ s2 : Int, s1 - ((n + Frl.szk Q n : Nat) : Int) = s2 := ⟨_, rfl⟩
  rw [hs2] at C2 t2
  have C3 := hide (fun W => Krn.szSpans_any a3 LK.length c3 s2 (by omega) W b3)
  by_cases t3 : s2 - (LK.length : Int) < 0
  · rw [if_pos t3] at C3
    clear h2 hs1 hs2
    go_enter Tryz.func4, Tryz.ntmps4
    go_wp2_with fail
    refine ((unhide C1) _).mono ?_
    rintro e w9 ⟨rfl, e9⟩
    have f9 := e9.symm
    subst f9
    clear e9
    go_wp2_with fail
    generalize w.alloc (.cells #[.int .i64 wd, .slice a1 LW.length c1, .slice a2 n c2, .slice a3 LK.length c3, .slice a4 LA.length c4] 26) = wa at *
    refine (unhide C2).mono ?_
    rintro e w2 ⟨rfl, hb2⟩
    have B2 := hide ((unhide B1).trans (hb2.mono (unhide B1).size))
    have hq2 := (hb2.block w.heap.size hqs).trans hq
    obtain ⟨⟨x0, x1, x2, x3, x4⟩, _⟩ := five_cellsF hq2
    clear hb2 C2
    go_wp2_with fail
    refine ((unhide C3) _).mono ?_
    rintro e w9 ⟨rfl, e9⟩
    have f9 := e9.symm
    subst f9
    clear e9
    go_wp2
    go_ret
    exact ⟨-1, rfl, fun h => by omega, unhide B2⟩
  rw [if_neg t3] at C3
  obtain ⟨s3, hs3⟩ : ∃ s3 : Int, s2 - (LK.length : Int) = s3 := ⟨_, rfl⟩
  rw [hs3] at C3 t3
  have C4 := hide (fun W => szSpans_any a4 LA.length c4 s3 (by omega) W b4)
  by_cases t4 : s3 - (LA.length : Int) < 0
  · rw [if_pos t4] at C4
    clear h2 hs1 hs2 hs3
    go_enter Tryz.func4, Tryz.ntmps4
    go_wp2_with fail
    refine ((unhide C1) _).mono ?_
    rintro e w9 ⟨rfl, e9⟩
    have f9 := e9.symm
    subst f9
    clear e9
    go_wp2_with fail
    generalize w.alloc (.cells #[.int .i64 wd, .slice a1 LW.length c1, .slice a2 n c2, .slice a3 LK.length c3, .slice a4 LA.length c4] 26) = wa at *
    refine (unhide C2).mono ?_
    rintro e w2 ⟨rfl, hb2⟩
    have B2 := hide ((unhide B1).trans (hb2.mono (unhide B1).size))
    have hq2 := (hb2.block w.heap.size hqs).trans hq
    obtain ⟨⟨x0, x1, x2, x3, x4⟩, _⟩ := five_cellsF hq2
    clear hb2 C2
    go_wp2_with fail
    refine ((unhide C3) _).mono ?_
    rintro e w9 ⟨rfl, e9⟩
    have f9 := e9.symm
    subst f9
    clear e9
    go_wp2_with fail
    refine ((unhide C4) _).mono ?_
    rintro e w9 ⟨rfl, e9⟩
    have f9 := e9.symm
    subst f9
    clear e9
    go_wp2
    go_ret
    exact ⟨-1, rfl, fun h => by omega, unhide B2⟩
  rw [if_neg t4] at C4
  have HH := hide ((unhide HF) (by omega) (by omega) (by omega) (by omega) (by omega))
  obtain ⟨s4, hs4⟩ : ∃ s4 : Int, s3 - (LA.length : Int) = s4 := ⟨_, rfl⟩
  rw [hs4] at C4 t4
  clear h2 hs1 hs2 hs3 hs4
  go_enter Tryz.func4, Tryz.ntmps4
  go_wp2_with fail
  refine ((unhide C1) _).mono ?_
  rintro e w9 ⟨rfl, e9⟩
  have f9 := e9.symm
  subst f9
  clear e9
  go_wp2_with fail
  generalize w.alloc (.cells #[.int .i64 wd, .slice a1 LW.length c1, .slice a2 n c2, .slice a3 LK.length c3, .slice a4 LA.length c4] 26) = wa at *
  refine (unhide C2).mono ?_
  rintro e w2 ⟨rfl, hb2⟩
  have B2 := hide ((unhide B1).trans (hb2.mono (unhide B1).size))
  have hq2 := (hb2.block w.heap.size hqs).trans hq
  obtain ⟨⟨x0, x1, x2, x3, x4⟩, _⟩ := five_cellsF hq2
  clear hb2 C2
  go_wp2_with fail
  refine ((unhide C3) _).mono ?_
  rintro e w9 ⟨rfl, e9⟩
  have f9 := e9.symm
  subst f9
  clear e9
  go_wp2_with fail
  refine ((unhide C4) _).mono ?_
  rintro e w9 ⟨rfl, e9⟩
  have f9 := e9.symm
  subst f9
  clear e9
  go_wp2
  go_ret
  exact ⟨_, rfl, fun _ => unhide HH, unhide B2⟩
set_option maxRecDepth 100000 in
set_option maxHeartbeats 8000000 in
theorem eqFont_any (v1 v2 : Value) (wd : Int) (LW : List Sp) (n : Nat) (Q : List (List Int)) (LK LA : List Sp) (w : World) (h1 : FA w v1 wd LW n Q LK LA) (h2 : FA w v2 wd LW n Q LK LA) (hf : Fit LW n Q LK LA) :
    Calls Tryz.prog 9 #[v1, v2] w fun e w' => e = .returned (.bool true) ∧ Below w.heap.size w w' := by
  obtain ⟨a1, a2, a3, a4, c1, c2, c3, c4, rfl, ⟨B1, f1⟩, f2, ⟨B3, f3⟩, B4, f4⟩ := h1.form
  obtain ⟨d1, d2, d3, d4, e1, e2, e3, e4, rfl, ⟨D1, g1⟩, g2, ⟨D3, g3⟩, D4, g4⟩ := h2.form
  obtain ⟨l1, l2, l5, l3, l4⟩ := hf
  have C1 := hide (fun W (hb : Below w.heap.size w W) => eqSpans _ _ LW B1 D1 W (f1.below hb) (g1.below hb) l1)
  have C2 := hide (fun W (hb : Below w.heap.size w W) => Frl.eqRules_any _ _ n Q W (f2.below hb) (g2.below hb) l2 l5)
  have C3 := hide (fun W (hb : Below w.heap.size w W) => Krn.eqSpans _ _ LK B3 D3 W (f3.below hb) (g3.below hb) l3)
  have C4 := hide (fun W (hb : Below w.heap.size w W) => eqSpans _ _ LA B4 D4 W (f4.below hb) (g4.below hb) l4)
  have hne : (wd != wd) = false := by simp
  have BB := hide (((Below.refl w.heap.size w).alloc (Nat.le_refl _) (.cells #[.int .i64 wd, .slice a1 LW.length c1, .slice a2 n c2, .slice a3 LK.length c3, .slice a4 LA.length c4] 36)).alloc (by simp) (.cells #[.int .i64 wd, .slice d1 LW.length e1, .slice d2 n e2, .slice d3 LK.length e3, .slice d4 LA.length e4] 36))
  have k0 : ((w.alloc (.cells #[.int .i64 wd, .slice a1 LW.length c1, .slice a2 n c2, .slice a3 LK.length c3, .slice a4 LA.length c4] 36)).alloc (.cells #[.int .i64 wd, .slice d1 LW.length e1, .slice d2 n e2, .slice d3 LK.length e3, .slice d4 LA.length e4] 36)).heap[w.heap.size]? = some (.cells #[.int .i64 wd, .slice a1 LW.length c1, .slice a2 n c2, .slice a3 LK.length c3, .slice a4 LA.length c4] 36 (0, 0)) := by
    rw [Below.heap_alloc _ _ _ (by simp)]
    exact Frl.heap_new w _
  have k1 : ((w.alloc (.cells #[.int .i64 wd, .slice a1 LW.length c1, .slice a2 n c2, .slice a3 LK.length c3, .slice a4 LA.length c4] 36)).alloc (.cells #[.int .i64 wd, .slice d1 LW.length e1, .slice d2 n e2, .slice d3 LK.length e3, .slice d4 LA.length e4] 36)).heap[w.heap.size + 1]? = some (.cells #[.int .i64 wd, .slice d1 LW.length e1, .slice d2 n e2, .slice d3 LK.length e3, .slice d4 LA.length e4] 36 (0, 0)) := by
    have := Frl.heap_new (w.alloc (.cells #[.int .i64 wd, .slice a1 LW.length c1, .slice a2 n c2, .slice a3 LK.length c3, .slice a4 LA.length c4] 36)) (.cells #[.int .i64 wd, .slice d1 LW.length e1, .slice d2 n e2, .slice d3 LK.length e3, .slice d4 LA.length e4] 36)
    simpa using this
  have hz : w.heap.size + 2 ≤ ((w.alloc (.cells #[.int .i64 wd, .slice a1 LW.length c1, .slice a2 n c2, .slice a3 LK.length c3, .slice a4 LA.length c4] 36)).alloc (.cells #[.int .i64 wd, .slice d1 LW.length e1, .slice d2 n e2, .slice d3 LK.length e3, .slice d4 LA.length e4] 36)).heap.size := by simp
  clear h1 h2 f1 f2 f3 f4 g1 g2 g3 g4 l1 l2 l3 l4 l5
  go_enter Tryz.func9, Tryz.ntmps9
  go_wp2_with fail
  generalize (w.alloc (.cells #[.int .i64 wd, .slice a1 LW.length c1, .slice a2 n c2, .slice a3 LK.length c3, .slice a4 LA.length c4] 36)).alloc (.cells #[.int .i64 wd, .slice d1 LW.length e1, .slice d2 n e2, .slice d3 LK.length e3, .slice d4 LA.length e4] 36) = wa at *
  refine ((unhide C1) _ (unhide BB)).mono ?_
  rintro e wb1 ⟨rfl, hb⟩
  have k0' := (hb.block w.heap.size (by omega)).trans k0
  have k1' := (hb.block (w.heap.size + 1) (by omega)).trans k1
  have hz' : w.heap.size + 2 ≤ wb1.heap.size := by have := hb.size; omega
  have BB1 := hide ((unhide BB).trans (hb.mono (unhide BB).size))
  obtain ⟨⟨x0, x1, x2, x3, x4⟩, _⟩ := five_cellsF k0'
  obtain ⟨⟨y0, y1, y2, y3, y4⟩, _⟩ := five_cellsF k1'
  clear k0 k1 hz hb BB C1
  go_wp2_with fail
  clear x0 x1 x2 x3 x4 y0 y1 y2 y3 y4
  have k0 := k0'
  have k1 := k1'
  have hz := hz'
  clear k0' k1' hz'
  refine ((unhide C2) _ (unhide BB1)).mono ?_
  rintro e wb2 ⟨rfl, hb⟩
  have k0' := (hb.block w.heap.size (by omega)).trans k0
  have k1' := (hb.block (w.heap.size + 1) (by omega)).trans k1
  have hz' : w.heap.size + 2 ≤ wb2.heap.size := by have := hb.size; omega
  have BB2 := hide ((unhide BB1).trans (hb.mono (unhide BB1).size))
  obtain ⟨⟨x0, x1, x2, x3, x4⟩, _⟩ := five_cellsF k0'
  obtain ⟨⟨y0, y1, y2, y3, y4⟩, _⟩ := five_cellsF k1'
  clear k0 k1 hz hb BB1 C2
  go_wp2_with fail
  clear x0 x1 x2 x3 x4 y0 y1 y2 y3 y4
  have k0 := k0'
  have k1 := k1'
  have hz := hz'
  clear k0' k1' hz'
  refine ((unhide C3) _ (unhide BB2)).mono ?_
  rintro e wb3 ⟨rfl, hb⟩
  have k0' := (hb.block w.heap.size (by omega)).trans k0
  have k1' := (hb.block (w.heap.size + 1) (by omega)).trans k1
  have hz' : w.heap.size + 2 ≤ wb3.heap.size := by have := hb.size; omega
  have BB3 := hide ((unhide BB2).trans (hb.mono (unhide BB2).size))
  obtain ⟨⟨x0, x1, x2, x3, x4⟩, _⟩ := five_cellsF k0'
  obtain ⟨⟨y0, y1, y2, y3, y4⟩, _⟩ := five_cellsF k1'
  clear k0 k1 hz hb BB2 C3
  go_wp2_with fail
  clear x0 x1 x2 x3 x4 y0 y1 y2 y3 y4
  have k0 := k0'
  have k1 := k1'
  have hz := hz'
  clear k0' k1' hz'
  refine ((unhide C4) _ (unhide BB3)).mono ?_
  rintro e wb4 ⟨rfl, hb⟩
  have k0' := (hb.block w.heap.size (by omega)).trans k0
  have k1' := (hb.block (w.heap.size + 1) (by omega)).trans k1
  have hz' : w.heap.size + 2 ≤ wb4.heap.size := by have := hb.size; omega
  have BB4 := hide ((unhide BB3).trans (hb.mono (unhide BB3).size))
  obtain ⟨⟨x0, x1, x2, x3, x4⟩, _⟩ := five_cellsF k0'
  obtain ⟨⟨y0, y1, y2, y3, y4⟩, _⟩ := five_cellsF k1'
  clear k0 k1 hz hb BB3 C4
  go_wp2
  go_ret
  exact ⟨rfl, unhide BB4⟩
end Go.Proofs.YtfldomifooihlaaGreatDoor.Fnt
