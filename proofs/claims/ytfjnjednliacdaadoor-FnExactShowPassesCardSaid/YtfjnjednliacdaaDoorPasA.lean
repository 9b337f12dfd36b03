/- Rows of rules of writing over, and of passes: how they lie in memory, and how large they are. -/
import Derived.Test.YtfjnjednliacdaaDoorSpnB
namespace Go.Proofs.YtfjnjednliacdaaDoor.Pas
open Go.RowKit
set_option linter.unusedVariables false
/-- A rule: Ahead, Input, Behind, Output, Again. -/
abbrev Ru := ByteArray × ByteArray × ByteArray × ByteArray × Int
/-- A pass: its rules, Norm. -/
abbrev Pa := List Ru × Int
def zr : Ru := (⟨#[]⟩, ⟨#[]⟩, ⟨#[]⟩, ⟨#[]⟩, 0)
def gr (L : List Ru) (i : Nat) : Ru := L.getD i zr
def gp (P : List Pa) (i : Nat) : Pa := P.getD i ([], 0)
/-- The value of a rule. -/
def rv (r : Ru) : Value := .agg #[.string r.1, .string r.2.1, .string r.2.2.1, .string r.2.2.2.1, .int .i64 r.2.2.2.2]
/-- Five cells that hold a rule. -/
def Five (w : World) (b o : Nat) (r : Ru) : Prop :=
  w.cell? ⟨b, o, none⟩ = some (.string r.1) ∧ w.cell? ⟨b, o + 1, none⟩ = some (.string r.2.1) ∧ w.cell? ⟨b, o + 2, none⟩ = some (.string r.2.2.1) ∧ w.cell? ⟨b, o + 3, none⟩ = some (.string r.2.2.2.1) ∧ w.cell? ⟨b, o + 4, none⟩ = some (.int .i64 r.2.2.2.2)
theorem Five.block {w w' : World} {b o : Nat} {r : Ru} (h : Five w b o r) (hb : w'.heap[b]? = w.heap[b]?) : Five w' b o r :=
  ⟨(World.cell?_of_block (a := ⟨b, o, none⟩) hb).trans h.1, (World.cell?_of_block (a := ⟨b, o + 1, none⟩) hb).trans h.2.1, (World.cell?_of_block (a := ⟨b, o + 2, none⟩) hb).trans h.2.2.1, (World.cell?_of_block (a := ⟨b, o + 3, none⟩) hb).trans h.2.2.2.1, (World.cell?_of_block (a := ⟨b, o + 4, none⟩) hb).trans h.2.2.2.2⟩
/-- A slice value that holds just the rules L, in a block from B on. -/
def RuAt (B : Nat) (w : World) (v : Value) (L : List Ru) : Prop :=
  ∃ a cap, v = .slice a L.length cap ∧ (L = [] ∨ ∃ b off, a = some ⟨b, off, none⟩ ∧ B ≤ b ∧ b < w.heap.size ∧ ∀ i, i < L.length → Five w b (off + i * 5) (gr L i))
theorem RuAt.at {B : Nat} {w w' : World} {v : Value} {L : List Ru} (h : RuAt B w v L) (hs : w.heap.size ≤ w'.heap.size) (hb : ∀ b, B ≤ b → b < w.heap.size → w'.heap[b]? = w.heap[b]?) : RuAt B w' v L := by
  obtain ⟨a, cap, rfl, h⟩ := h
  refine ⟨a, cap, rfl, ?_⟩
  rcases h with h | ⟨b, off, rfl, hB, hbs, hc⟩
  · exact .inl h
  · exact .inr ⟨b, off, rfl, hB, by omega, fun i hi => (hc i hi).block (hb b hB hbs)⟩
theorem RuAt.below {B : Nat} {w w' : World} {v : Value} {L : List Ru} (h : RuAt B w v L) (hb : Below w.heap.size w w') : RuAt B w' v L :=
  h.at hb.size fun b _ hlt => hb.block b hlt
theorem RuAt.down {B B' : Nat} {w : World} {v : Value} {L : List Ru} (h : RuAt B w v L) (hB : B' ≤ B) : RuAt B' w v L := by
  obtain ⟨a, cap, rfl, h⟩ := h
  refine ⟨a, cap, rfl, ?_⟩
  rcases h with h | ⟨b, off, rfl, hB2, hbs, hc⟩
  · exact .inl h
  · exact .inr ⟨b, off, rfl, by omega, hbs, hc⟩
theorem RuAt.form {B : Nat} {w : World} {v : Value} {L : List Ru} (h : RuAt B w v L) : ∃ a cap, v = .slice a L.length cap := by
  obtain ⟨a, cap, e, _⟩ := h
  exact ⟨a, cap, e⟩
/-- A slice value that holds just the passes P, all of it from B on. -/
def PaAt (B : Nat) (w : World) (v : Value) (P : List Pa) : Prop :=
  ∃ a cap, v = .slice a P.length cap ∧ (P = [] ∨ ∃ b off, a = some ⟨b, off, none⟩ ∧ B ≤ b ∧ b < w.heap.size ∧ ∀ i, i < P.length → ∃ u, w.cell? ⟨b, off + i * 2, none⟩ = some u ∧ RuAt B w u (gp P i).1 ∧ w.cell? ⟨b, off + i * 2 + 1, none⟩ = some (.int .i64 (gp P i).2))
theorem PaAt.at {B : Nat} {w w' : World} {v : Value} {P : List Pa} (h : PaAt B w v P) (hs : w.heap.size ≤ w'.heap.size) (hb : ∀ b, B ≤ b → b < w.heap.size → w'.heap[b]? = w.heap[b]?) : PaAt B w' v P := by
  obtain ⟨a, cap, rfl, h⟩ := h
  refine ⟨a, cap, rfl, ?_⟩
  rcases h with h | ⟨b, off, rfl, hB, hbs, hc⟩
  · exact .inl h
  · refine .inr ⟨b, off, rfl, hB, by omega, fun i hi => ?_⟩
    obtain ⟨u, c1, hu, c2⟩ := hc i hi
    exact ⟨u, (World.cell?_of_block (a := ⟨b, off + i * 2, none⟩) (hb b hB hbs)).trans c1, hu.at hs hb, (World.cell?_of_block (a := ⟨b, off + i * 2 + 1, none⟩) (hb b hB hbs)).trans c2⟩
theorem PaAt.below {B : Nat} {w w' : World} {v : Value} {P : List Pa} (h : PaAt B w v P) (hb : Below w.heap.size w w') : PaAt B w' v P :=
  h.at hb.size fun b _ hlt => hb.block b hlt
theorem PaAt.down {B B' : Nat} {w : World} {v : Value} {P : List Pa} (h : PaAt B w v P) (hB : B' ≤ B) : PaAt B' w v P := by
  obtain ⟨a, cap, rfl, h⟩ := h
  refine ⟨a, cap, rfl, ?_⟩
  rcases h with h | ⟨b, off, rfl, hB2, hbs, hc⟩
  · exact .inl h
  · refine .inr ⟨b, off, rfl, by omega, hbs, fun i hi => ?_⟩
    obtain ⟨u, c1, hu, c2⟩ := hc i hi
    exact ⟨u, c1, hu.down hB, c2⟩
theorem PaAt.form {B : Nat} {w : World} {v : Value} {P : List Pa} (h : PaAt B w v P) : ∃ a cap, v = .slice a P.length cap := by
  obtain ⟨a, cap, e, _⟩ := h
  exact ⟨a, cap, e⟩
theorem heap_new (w : World) (o : Obj) : (w.alloc o).heap[w.heap.size]? = some o := by unfold World.alloc; exact Array.getElem?_push_size
theorem two_cells {w : World} {g : Nat} {a b : Value} {T : TypeId} (h : w.heap[g]? = some (.cells #[a, b] T (0, 0))) : w.cell? ⟨g, 0, none⟩ = some a ∧ w.cell? ⟨g, 1, none⟩ = some b ∧ w.frozen? ⟨g, 0, none⟩ = false ∧ w.frozen? ⟨g, 1, none⟩ = false := by
  simp [World.cell?, World.frozen?, h]
theorem five_cells {w : World} {g : Nat} {a b c d e : Value} {T : TypeId} (h : w.heap[g]? = some (.cells #[a, b, c, d, e] T (0, 0))) : w.cell? ⟨g, 0, none⟩ = some a ∧ w.cell? ⟨g, 1, none⟩ = some b ∧ w.cell? ⟨g, 2, none⟩ = some c ∧ w.cell? ⟨g, 3, none⟩ = some d ∧ w.cell? ⟨g, 4, none⟩ = some e := by
  simp [World.cell?, h]
/-- How large rules are. -/
def sz1 (r : Ru) : Nat := r.1.size + r.2.1.size + r.2.2.1.size + r.2.2.2.1.size
def szk (L : List Ru) : Nat → Nat
  | 0 => 0
  | k + 1 => szk L k + sz1 (gr L k)
def szR (L : List Ru) : Nat := L.length + szk L L.length
def szq (P : List Pa) : Nat → Nat
  | 0 => 0
  | k + 1 => szq P k + szR (gp P k).1
def szP (P : List Pa) : Nat := P.length + szq P P.length
theorem szk_mono (L : List Ru) (i k : Nat) (h : i ≤ k) : szk L i ≤ szk L k := by
  induction k with
  | zero => obtain rfl : i = 0 := by omega
            exact Nat.le_refl _
  | succ k ih =>
    by_cases e : i = k + 1
    · subst e; exact Nat.le_refl _
    · have := ih (by omega)
      have e2 : szk L (k + 1) = szk L k + sz1 (gr L k) := rfl
      omega
theorem szq_mono (P : List Pa) (i k : Nat) (h : i ≤ k) : szq P i ≤ szq P k := by
  induction k with
  | zero => obtain rfl : i = 0 := by omega
            exact Nat.le_refl _
  | succ k ih =>
    by_cases e : i = k + 1
    · subst e; exact Nat.le_refl _
    · have := ih (by omega)
      have e2 : szq P (k + 1) = szq P k + szR (gp P k).1 := rfl
      omega
theorem szk_up (L : List Ru) (i k : Nat) (h : i < k) : sz1 (gr L i) ≤ szk L k := by
  have e2 : szk L (i + 1) = szk L i + sz1 (gr L i) := rfl
  have := szk_mono L (i + 1) k h
  omega
theorem szq_up (P : List Pa) (i k : Nat) (h : i < k) : szR (gp P i).1 ≤ szq P k := by
  have e2 : szq P (i + 1) = szq P i + szR (gp P i).1 := rfl
  have := szq_mono P (i + 1) k h
  omega
/-- Texts that can be in memory. -/
def Fit1 (r : Ru) : Prop := r.1.size ≤ 9223372036854775807 ∧ r.2.1.size ≤ 9223372036854775807 ∧ r.2.2.1.size ≤ 9223372036854775807 ∧ r.2.2.2.1.size ≤ 9223372036854775807
def FitR (L : List Ru) : Prop := L.length ≤ 9223372036854775807 ∧ ∀ i, i < L.length → Fit1 (gr L i)
def FitP (P : List Pa) : Prop := P.length ≤ 9223372036854775807 ∧ ∀ i, i < P.length → FitR (gp P i).1
/-- What is left of m, or -1. -/
def lf (m : Int) (n : Nat) : Int := if m - (n : Int) < 0 then -1 else m - (n : Int)
theorem lf_no {m : Int} {n : Nat} (h : m - (n : Int) < 0) : lf m n = -1 := if_pos h
theorem lf_ok {m : Int} {n : Nat} (h : ¬ m - (n : Int) < 0) : lf m n = m - (n : Int) := if_neg h
set_option maxRecDepth 100000 in
set_option maxHeartbeats 2000000 in
theorem szWr_any (r : Ru) (m : Int) (w : World) (hm : 0 ≤ m ∧ m ≤ 1048576) (hf : Fit1 r) :
    Calls Tryd.prog 29 #[rv r, .int .i64 m] w fun e w' => e = .returned (.int .i64 (lf m (sz1 r))) ∧ Below w.heap.size w w' := by
  obtain ⟨a, b, c, d, g⟩ := r
  obtain ⟨f1, f2, f3, f4⟩ := hf
  unfold rv
  simp only at *
  have B1 := hide ((Below.refl w.heap.size w).alloc (Nat.le_refl _) (.cells #[.string a, .string b, .string c, .string d, .int .i64 g] 61))
  have hs : sz1 (a, b, c, d, g) = a.size + b.size + c.size + d.size := rfl
  rw [hs]
  clear hs
  by_cases h1 : m - (a.size : Int) < 0
  · have HE : Hid (lf m (a.size + b.size + c.size + d.size) = -1) := hide (lf_no (by omega))
    generalize lf m (a.size + b.size + c.size + d.size) = Q at *
    go_enter Tryd.func29, Tryd.ntmps29
    go_wp2
    go_ret
    exact ⟨by rw [unhide HE]; rfl, unhide B1⟩
  by_cases h2 : m - (a.size : Int) - (b.size : Int) < 0
  · have HE : Hid (lf m (a.size + b.size + c.size + d.size) = -1) := hide (lf_no (by omega))
    generalize lf m (a.size + b.size + c.size + d.size) = Q at *
    go_enter Tryd.func29, Tryd.ntmps29
    go_wp2
    go_ret
    exact ⟨by rw [unhide HE]; rfl, unhide B1⟩
  by_cases h3 : m - (a.size : Int) - (b.size : Int) - (c.size : Int) < 0
  · have HE : Hid (lf m (a.size + b.size + c.size + d.size) = -1) := hide (lf_no (by omega))
    generalize lf m (a.size + b.size + c.size + d.size) = Q at *
    go_enter Tryd.func29, Tryd.ntmps29
    go_wp2
    go_ret
    exact ⟨by rw [unhide HE]; rfl, unhide B1⟩
  by_cases h4 : m - (a.size : Int) - (b.size : Int) - (c.size : Int) - (d.size : Int) < 0
  · have HE : Hid (lf m (a.size + b.size + c.size + d.size) = -1) := hide (lf_no (by omega))
    generalize lf m (a.size + b.size + c.size + d.size) = Q at *
    go_enter Tryd.func29, Tryd.ntmps29
    go_wp2
    go_ret
    exact ⟨by rw [unhide HE]; rfl, unhide B1⟩
  · have HE : Hid (lf m (a.size + b.size + c.size + d.size) = m - (a.size : Int) - (b.size : Int) - (c.size : Int) - (d.size : Int)) := hide (by rw [lf_ok (by omega)]; omega)
    generalize lf m (a.size + b.size + c.size + d.size) = Q at *
    go_enter Tryd.func29, Tryd.ntmps29
    go_wp2
    go_ret
    exact ⟨by rw [unhide HE]; rfl, unhide B1⟩
set_option maxRecDepth 100000 in
set_option maxHeartbeats 2000000 in
theorem szWrs_any (v : Value) (L : List Ru) (m : Int) (B : Nat) (w : World) (hv : RuAt B w v L) (hm : 0 ≤ m ∧ m ≤ 1048576) (hf : FitR L) :
    Calls Tryd.prog 18 #[v, .int .i64 m] w fun e w' => e = .returned (.int .i64 (lf m (szR L))) ∧ Below w.heap.size w w' := by
  obtain ⟨a, cap, rfl, hv⟩ := hv
  obtain ⟨hfl, hf⟩ := hf
  have HV := hide hv
  have HF := hide hf
  clear hv hf
  have HS : Hid (szR L = L.length + szk L L.length) := hide rfl
  generalize szR L = S at *
  by_cases h0 : m - (L.length : Int) < 0
  · have HE : Hid (lf m S = -1) := hide (lf_no (by have := unhide HS; omega))
    generalize lf m S = Q at *
    go_enter Tryd.func18, Tryd.ntmps18
    go_wp2
    go_ret
    exact ⟨by rw [unhide HE]; rfl, Below.refl _ _⟩
  · have HM := hide (fun i h => szk_mono L i L.length h)
    have HU := hide (fun k => (show szk L (k + 1) = szk L k + sz1 (gr L k) from rfl))
    go_enter Tryd.func18, Tryd.ntmps18
    go_wp2
    go_loopw [1, 5] (fun lv iv wr => ∃ k : Nat, k ≤ L.length ∧ iv = .int .i64 k ∧ lv = .int .i64 (m - (L.length : Int) - (szk L k : Int)) ∧ (szk L k : Int) ≤ m - (L.length : Int) ∧ Hid (Below w.heap.size w wr)) (fun _ iv _ => L.length - (intOf iv).toNat)
    case atStart => exact ⟨0, Nat.zero_le _, rfl, by simp [szk], by simp [szk]; omega, hide (Below.refl _ _)⟩
    case round =>
      obtain ⟨k, hk, rfl, rfl, hle, HB⟩ := hrel
      by_cases hlt : k < L.length
      · have hlt' : (k : Int) < (L.length : Int) := by omega
        rcases unhide HV with h' | ⟨b, off, rfl, _, hbs, hc⟩
        · rw [h'] at hlt; simp at hlt
        obtain ⟨d0, d1, d2, d3, d4⟩ := (hc k hlt).block ((unhide HB).block b hbs)
        have C := hide (fun W => szWr_any (gr L k) (m - (L.length : Int) - (szk L k : Int)) W (by omega) ((unhide HF) k hlt))
        have hs := (unhide HU) k
        have hm := (unhide HM) (k + 1) (by omega)
        have hBs := (unhide HB).size
        have hS := unhide HS
        clear hc
        generalize gr L k = r at *
        obtain ⟨ta, tb, tc, td, tg⟩ := r
        unfold rv at C
        simp only at d0 d1 d2 d3 d4 C
        by_cases hq : m - (L.length : Int) - (szk L k : Int) - ((sz1 (ta, tb, tc, td, tg) : Nat) : Int) < 0
        · rw [lf_no hq] at C
          have HE2 : Hid (lf m S = -1) := hide (lf_no (by omega))
          generalize sz1 (ta, tb, tc, td, tg) = Z at *
          clear hS
          go_wp2_with (go_at_call 29; refine ((unhide C) _).mono ?_; rintro e w1 ⟨rfl, hb1⟩; have B1 := hide ((unhide HB).trans (hb1.mono hBs)); clear hb1)
          go_ret
          exact ⟨by rw [unhide HE2]; rfl, unhide B1⟩
        · rw [lf_ok hq] at C
          generalize sz1 (ta, tb, tc, td, tg) = Z at *
          have es : m - (L.length : Int) - (szk L k : Int) - (Z : Int) = m - (L.length : Int) - (szk L (k + 1) : Int) := by omega
          rw [es] at C hq
          have hle2 : (szk L (k + 1) : Int) ≤ m - (L.length : Int) := by omega
          clear es hs hm hS
          go_wp2_with (go_at_call 29; refine ((unhide C) _).mono ?_; rintro e w1 ⟨rfl, hb1⟩; have B1 := hide ((unhide HB).trans (hb1.mono hBs)); clear hb1)
          go_roundw
          case rel => exact ⟨k + 1, by omega, by go_num, rfl, hle2, B1⟩
          case measure => simp [intOf]; omega
      · obtain rfl : k = L.length := by omega
        have HE2 : Hid (lf m S = m - (L.length : Int) - (szk L L.length : Int)) := hide (by have := unhide HS; rw [lf_ok (by omega)]; omega)
        go_wp2
        go_ret
        exact ⟨by rw [unhide HE2]; rfl, unhide HB⟩
set_option maxRecDepth 100000 in
set_option maxHeartbeats 2000000 in
theorem szPass_any (v : Value) (L : List Ru) (g m : Int) (B : Nat) (w : World) (hv : RuAt B w v L) (hm : 0 ≤ m ∧ m ≤ 1048576) (hf : FitR L) :
    Calls Tryd.prog 9 #[.agg #[v, .int .i64 g], .int .i64 m] w fun e w' => e = .returned (.int .i64 (lf m (szR L))) ∧ Below w.heap.size w w' := by
  have C := hide (fun W h => szWrs_any v L m B W h hm hf)
  have HV := hide hv
  obtain ⟨a, cap, rfl⟩ := hv.form
  clear hv hf
  have B1 := hide ((Below.refl w.heap.size w).alloc (Nat.le_refl _) (.cells #[.slice a L.length cap, .int .i64 g] 32))
  by_cases h : m - (szR L : Int) < 0
  · rw [lf_no h] at *
    clear h
    go_enter Tryd.func9, Tryd.ntmps9
    go_wp2_with (go_at_call 18; refine ((unhide C) _ ((unhide HV).below (unhide B1))).mono ?_; rintro e w1 ⟨rfl, hb1⟩; have B2 := hide ((unhide B1).trans (hb1.mono (unhide B1).size)); clear hb1)
    go_ret
    exact ⟨rfl, unhide B2⟩
  · rw [lf_ok h] at *
    go_enter Tryd.func9, Tryd.ntmps9
    go_wp2_with (go_at_call 18; refine ((unhide C) _ ((unhide HV).below (unhide B1))).mono ?_; rintro e w1 ⟨rfl, hb1⟩; have B2 := hide ((unhide B1).trans (hb1.mono (unhide B1).size)); clear hb1)
    go_ret
    exact ⟨rfl, unhide B2⟩
set_option maxRecDepth 100000 in
set_option maxHeartbeats 2000000 in
theorem szPasses_any (v : Value) (P : List Pa) (B : Nat) (w : World) (hv : PaAt B w v P) (hf : FitP P) :
    Calls Tryd.prog 4 #[v, .int .i64 1048576] w fun e w' => e = .returned (.int .i64 (lf 1048576 (szP P))) ∧ Below w.heap.size w w' := by
  obtain ⟨a, cap, rfl, hv⟩ := hv
  obtain ⟨hfl, hf⟩ := hf
  have HV := hide hv
  have HF := hide hf
  clear hv hf
  have HS : Hid (szP P = P.length + szq P P.length) := hide rfl
  generalize szP P = S at *
  by_cases h0 : (1048576 : Int) - (P.length : Int) < 0
  · have HE : Hid (lf 1048576 S = -1) := hide (lf_no (by have := unhide HS; omega))
    generalize lf 1048576 S = Q at *
    go_enter Tryd.func4, Tryd.ntmps4
    go_wp2
    go_ret
    exact ⟨by rw [unhide HE]; rfl, Below.refl _ _⟩
  · have HM := hide (fun i h => szq_mono P i P.length h)
    have HU := hide (fun k => (show szq P (k + 1) = szq P k + szR (gp P k).1 from rfl))
    go_enter Tryd.func4, Tryd.ntmps4
    go_wp2
    go_loopw [1, 5] (fun lv iv wr => ∃ k : Nat, k ≤ P.length ∧ iv = .int .i64 k ∧ lv = .int .i64 (1048576 - (P.length : Int) - (szq P k : Int)) ∧ (szq P k : Int) ≤ 1048576 - (P.length : Int) ∧ Hid (Below w.heap.size w wr)) (fun _ iv _ => P.length - (intOf iv).toNat)
    case atStart => exact ⟨0, Nat.zero_le _, rfl, by simp [szq], by simp [szq]; omega, hide (Below.refl _ _)⟩
    case round =>
      obtain ⟨k, hk, rfl, rfl, hle, HB⟩ := hrel
      by_cases hlt : k < P.length
      · have hlt' : (k : Int) < (P.length : Int) := by omega
        rcases unhide HV with h' | ⟨b, off, rfl, _, hbs, hc⟩
        · rw [h'] at hlt; simp at hlt
        obtain ⟨u, c1, hu, c2⟩ := hc k hlt
        have d1 := ((unhide HB).cell (p := ⟨b, off + k * 2, none⟩) hbs).trans c1
        have d2 := ((unhide HB).cell (p := ⟨b, off + k * 2 + 1, none⟩) hbs).trans c2
        have C := hide (fun W h => szPass_any u (gp P k).1 (gp P k).2 (1048576 - (P.length : Int) - (szq P k : Int)) B W h (by omega) ((unhide HF) k hlt))
        have I := hide (hu.below (unhide HB))
        have hs := (unhide HU) k
        have hm := (unhide HM) (k + 1) (by omega)
        have hBs := (unhide HB).size
        have hS := unhide HS
        clear c1 c2 hu hc
        generalize (gp P k).1 = L at *
        generalize (gp P k).2 = g at *
        by_cases hq : 1048576 - (P.length : Int) - (szq P k : Int) - (szR L : Int) < 0
        · rw [lf_no hq] at C
          have HE2 : Hid (lf 1048576 S = -1) := hide (lf_no (by omega))
          generalize szR L = Z at *
          clear hS
          go_wp2_with (go_at_call 9; refine ((unhide C) _ (unhide I)).mono ?_; rintro e w1 ⟨rfl, hb1⟩; have B1 := hide ((unhide HB).trans (hb1.mono hBs)); clear hb1)
          go_ret
          exact ⟨by rw [unhide HE2]; rfl, unhide B1⟩
        · rw [lf_ok hq] at C
          generalize szR L = Z at *
          have es : 1048576 - (P.length : Int) - (szq P k : Int) - (Z : Int) = 1048576 - (P.length : Int) - (szq P (k + 1) : Int) := by omega
          rw [es] at C hq
          have hle2 : (szq P (k + 1) : Int) ≤ 1048576 - (P.length : Int) := by omega
          clear es hs hm hS
          go_wp2_with (go_at_call 9; refine ((unhide C) _ (unhide I)).mono ?_; rintro e w1 ⟨rfl, hb1⟩; have B1 := hide ((unhide HB).trans (hb1.mono hBs)); clear hb1)
          go_roundw
          case rel => exact ⟨k + 1, by omega, by go_num, rfl, hle2, B1⟩
          case measure => simp [intOf]; omega
      · obtain rfl : k = P.length := by omega
        have HE2 : Hid (lf 1048576 S = 1048576 - (P.length : Int) - (szq P P.length : Int)) := hide (by have := unhide HS; rw [lf_ok (by omega)]; omega)
        go_wp2
        go_ret
        exact ⟨by rw [unhide HE2]; rfl, unhide HB⟩
/-- What fits in all. -/
theorem fits {P : List Pa} (h : ¬ lf 1048576 (szP P) < 0) : P.length ≤ 1048576 ∧ ∀ i, i < P.length → (gp P i).1.length ≤ 1048576 ∧ ∀ j, j < (gp P i).1.length → sz1 (gr (gp P i).1 j) ≤ 1048576 := by
  by_cases c : (1048576 : Int) - (szP P : Int) < 0
  · rw [lf_no c] at h; omega
  · have e : szP P = P.length + szq P P.length := rfl
    refine ⟨by omega, fun i hi => ?_⟩
    have h1 := szq_up P i P.length hi
    have e1 : szR (gp P i).1 = (gp P i).1.length + szk (gp P i).1 (gp P i).1.length := rfl
    refine ⟨by omega, fun j hj => ?_⟩
    have h2 := szk_up (gp P i).1 j (gp P i).1.length hj
    omega
end Go.Proofs.YtfjnjednliacdaaDoor.Pas
