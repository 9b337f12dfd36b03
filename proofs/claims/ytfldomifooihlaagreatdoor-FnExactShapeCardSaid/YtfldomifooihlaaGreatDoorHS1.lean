/- Several texts in one. -/
import Derived.Test.YtfldomifooihlaaGreatDoorHF2
import Derived.Deep.Cut
/- What spans and kerns tell of a number, looked for from the left or by halves (pure). -/
namespace Go.Proofs.YtfldomifooihlaaGreatDoor
namespace Sha
open Fnt
set_option linter.unusedVariables false
/-- The value of the first span that has a number. -/
def valS : List Sp → Int → Int → Int
  | [], _, o => o
  | s :: t, n, o => if s.1 ≤ n ∧ n ≤ s.2.1 then s.2.2 else valS t n o
def kerS : List Sp → Int → Int → Int
  | [], _, _ => 0
  | s :: t, a, b => if s.1 = a ∧ s.2.1 = b then s.2.2 else kerS t a b
theorem valS_drop (L : List Sp) (n o : Int) (k : Nat) (h : k < L.length) : valS (L.drop k) n o = if (gx L k).1 ≤ n ∧ n ≤ (gx L k).2.1 then (gx L k).2.2 else valS (L.drop (k + 1)) n o := by
  rw [drop_gx L k h]
  rfl
theorem kerS_drop (L : List Sp) (a b : Int) (k : Nat) (h : k < L.length) : kerS (L.drop k) a b = if (gx L k).1 = a ∧ (gx L k).2.1 = b then (gx L k).2.2 else kerS (L.drop (k + 1)) a b := by
  rw [drop_gx L k h]
  rfl
theorem valS_end (L : List Sp) (n o : Int) (k : Nat) (h : L.length ≤ k) : valS (L.drop k) n o = o := by
  rw [List.drop_eq_nil_of_le h]
  rfl
theorem kerS_end (L : List Sp) (a b : Int) (k : Nat) (h : L.length ≤ k) : kerS (L.drop k) a b = 0 := by
  rw [List.drop_eq_nil_of_le h]
  rfl
/-- Where what holds ends. -/
theorem split_at (n : Nat) (P : Nat → Bool) (h : ∀ i j, i ≤ j → j < n → P j = true → P i = true) : ∃ m, m ≤ n ∧ (∀ i, i < m → P i = true) ∧ ∀ i, m ≤ i → i < n → P i = false := by
  induction n with
  | zero => exact ⟨0, Nat.le_refl _, fun i hi => by omega, fun i _ hi => by omega⟩
  | succ n ih =>
    obtain ⟨m, h1, h2, h3⟩ := ih (fun i j a b c => h i j a (by omega) c)
    by_cases hm : m = n
    · cases hp : P n with
      | true => exact ⟨n + 1, Nat.le_refl _, fun i hi => h i n (by omega) (by omega) hp, fun i a b => by omega⟩
      | false =>
        refine ⟨n, by omega, fun i hi => h2 i (by omega), fun i a b => ?_⟩
        obtain rfl : i = n := by omega
        exact hp
    · refine ⟨m, by omega, h2, fun i a b => ?_⟩
      by_cases e : i = n
      · subst e
        cases hp : P i with
        | false => rfl
        | true =>
          have := h m i (by omega) (by omega) hp
          rw [h3 m (Nat.le_refl _) (by omega)] at this
          cases this
      · exact h3 i a (by omega)
theorem ok_all {L : List Sp} (h : okAt L 0 = true) : ∀ k, k < L.length → okAt L k = true := by
  intro k
  induction k with
  | zero => intro _; exact h
  | succ k ih =>
    intro hk
    have := ih (by omega)
    rw [okAt_step L k (by omega)] at this
    simp only [Bool.and_eq_true] at this
    exact this.2
theorem ok_one {L : List Sp} (h : okAt L 0 = true) (k : Nat) (hk : k < L.length) : endAt L k < (gx L k).1 ∧ (gx L k).1 ≤ (gx L k).2.1 := by
  have := ok_all h k hk
  rw [okAt_step L k hk] at this
  simp only [Bool.and_eq_true, decide_eq_true_eq] at this
  exact ⟨this.1.1.1, this.1.1.2⟩
theorem ok_up {L : List Sp} (h : okAt L 0 = true) (i d : Nat) (hd : i + 1 + d < L.length) : (gx L i).2.1 < (gx L (i + 1 + d)).1 := by
  induction d with
  | zero => exact (ok_one h (i + 1) hd).1
  | succ d ih =>
    have h1 := ih (by omega)
    have h2 := ok_one h (i + 1 + d) (by omega)
    have h3 := (ok_one h (i + 1 + d + 1) hd).1
    have h4 : endAt L (i + 1 + d + 1) = (gx L (i + 1 + d)).2.1 := rfl
    rw [h4] at h3
    have : i + 1 + (d + 1) = i + 1 + d + 1 := by omega
    rw [this]
    omega
/-- Spans by halves: where the first one stands that does not end ahead of a number, and what that tells. -/
theorem val_at {L : List Sp} (h : okAt L 0 = true) (n o : Int) : ∃ m, m ≤ L.length ∧ (∀ i, i < m → (gx L i).2.1 < n) ∧ (∀ i, m ≤ i → i < L.length → n ≤ (gx L i).2.1) ∧ valS L n o = (if m < L.length ∧ (gx L m).1 ≤ n then (gx L m).2.2 else o) := by
  obtain ⟨m, h1, h2, h3⟩ := split_at L.length (fun i => decide ((gx L i).2.1 < n)) (fun i j hij hj hp => by
    rcases Nat.eq_or_lt_of_le hij with e | e
    · rw [e]; exact hp
    · have := ok_up h i (j - i - 1) (by omega)
      rw [show i + 1 + (j - i - 1) = j by omega] at this
      have h5 := (ok_one h j hj).2
      simp only [decide_eq_true_eq] at hp ⊢
      omega)
  simp only [decide_eq_true_eq, decide_eq_false_iff_not] at h2 h3
  refine ⟨m, h1, h2, fun i a b => by have := h3 i a b; omega, ?_⟩
  have e1 : ∀ k, k ≤ m → valS L n o = valS (L.drop k) n o := by
    intro k
    induction k with
    | zero => intro _; rfl
    | succ k ih =>
      intro hk
      rw [ih (by omega), valS_drop L n o k (by omega), if_neg (fun e => by have := h2 k (by omega); omega)]
  rw [e1 m (Nat.le_refl _)]
  by_cases hm : m < L.length
  · have hb := h3 m (Nat.le_refl _) hm
    by_cases hf : (gx L m).1 ≤ n
    · rw [valS_drop L n o m hm, if_pos ⟨hf, by omega⟩, if_pos ⟨hm, hf⟩]
    · rw [if_neg (fun e => hf e.2)]
      have e2 : ∀ d, m + d ≤ L.length → valS (L.drop m) n o = valS (L.drop (m + d)) n o := by
        intro d
        induction d with
        | zero => intro _; rfl
        | succ d ih =>
          intro hd
          rw [ih (by omega), valS_drop L n o (m + d) (by omega), if_neg, Nat.add_assoc]
          rintro ⟨h8, _⟩
          rcases Nat.eq_zero_or_pos d with e | e
          · subst e; exact hf h8
          · have h6 := ok_up h m (d - 1) (by omega)
            rw [show m + 1 + (d - 1) = m + d by omega] at h6
            have h7 := (ok_one h m hm).2
            omega
      rw [e2 (L.length - m) (by omega), show m + (L.length - m) = L.length by omega, valS_end L n o _ (Nat.le_refl _)]
  · rw [if_neg (fun e => hm e.1), valS_end L n o m (by omega)]
/-- Kerns in order. -/
def Kup (L : List Sp) : Prop := ∀ k, k + 1 < L.length → klt (gx L k) (gx L (k + 1)) = true
theorem klt_iff (a b : Sp) : klt a b = true ↔ a.1 < b.1 ∨ (a.1 = b.1 ∧ a.2.1 < b.2.1) := by simp [klt]
theorem kup_up {L : List Sp} (h : Kup L) (i d : Nat) (hd : i + 1 + d < L.length) : klt (gx L i) (gx L (i + 1 + d)) = true := by
  induction d with
  | zero => exact h i hd
  | succ d ih =>
    have h1 := (klt_iff _ _).1 (ih (by omega))
    have h2 := (klt_iff _ _).1 (h (i + 1 + d) (by omega))
    rw [show i + 1 + (d + 1) = i + 1 + d + 1 by omega]
    rw [klt_iff]
    omega
theorem krk_kup {L : List Sp} {n : Nat} (h : krk L n = true) : ∀ k, k + 1 < n → klt (gx L k) (gx L (k + 1)) = true := by
  induction n with
  | zero => intro k hk; omega
  | succ n ih =>
    unfold krk at h
    simp only [Bool.and_eq_true] at h
    intro k hk
    by_cases e : k + 1 = n
    · have := h.2.2
      rw [← e] at this
      simp at this
      exact this
    · exact ih h.1 k (by omega)
theorem ker_at {L : List Sp} (h : Kup L) (a b : Int) : ∃ m, m ≤ L.length ∧ (∀ i, i < m → klt (gx L i) (a, b, 0) = true) ∧ (∀ i, m ≤ i → i < L.length → klt (gx L i) (a, b, 0) = false) ∧ kerS L a b = (if m < L.length ∧ ((gx L m).1 = a ∧ (gx L m).2.1 = b) then (gx L m).2.2 else 0) := by
  obtain ⟨m, h1, h2, h3⟩ := split_at L.length (fun i => klt (gx L i) (a, b, 0)) (fun i j hij hj hp => by
    rcases Nat.eq_or_lt_of_le hij with e | e
    · rw [e]; exact hp
    · have := kup_up h i (j - i - 1) (by omega)
      rw [show i + 1 + (j - i - 1) = j by omega] at this
      rw [klt_iff] at this hp ⊢
      dsimp only at *
      omega)
  refine ⟨m, h1, h2, h3, ?_⟩
  have e1 : ∀ k, k ≤ m → kerS L a b = kerS (L.drop k) a b := by
    intro k
    induction k with
    | zero => intro _; rfl
    | succ k ih =>
      intro hk
      rw [ih (by omega), kerS_drop L a b k (by omega), if_neg]
      intro e
      have := (klt_iff _ _).1 (h2 k (by omega))
      dsimp only at this
      omega
  rw [e1 m (Nat.le_refl _)]
  by_cases hm : m < L.length
  · by_cases hf : (gx L m).1 = a ∧ (gx L m).2.1 = b
    · rw [kerS_drop L a b m hm, if_pos hf, if_pos ⟨hm, hf⟩]
    · rw [if_neg (fun e => hf e.2)]
      have e2 : ∀ d, m + d ≤ L.length → kerS (L.drop m) a b = kerS (L.drop (m + d)) a b := by
        intro d
        induction d with
        | zero => intro _; rfl
        | succ d ih =>
          intro hd
          rw [ih (by omega), kerS_drop L a b (m + d) (by omega), if_neg, Nat.add_assoc]
          intro h8
          rcases Nat.eq_zero_or_pos d with e | e
          · subst e; exact hf h8
          · have h6 := (klt_iff _ _).1 (kup_up h m (d - 1) (by omega))
            rw [show m + 1 + (d - 1) = m + d by omega] at h6
            have h7 : ¬ klt (gx L m) (a, b, 0) = true := by rw [h3 m (Nat.le_refl _) hm]; simp
            rw [klt_iff] at h7
            dsimp only at h7
            omega
      rw [e2 (L.length - m) (by omega), show m + (L.length - m) = L.length by omega, kerS_end L a b _ (Nat.le_refl _)]
  · rw [if_neg (fun e => hm e.1), kerS_end L a b m (by omega)]
end Sha
end Go.Proofs.YtfldomifooihlaaGreatDoor
/- What spans and kerns tell of a number, as the program looks for it: by halves. -/
namespace Go.Proofs.YtfldomifooihlaaGreatDoor
namespace Sha
open Go.RowKit Fnt
set_option linter.unusedVariables false
set_option linter.unusedSimpArgs false
def cs (s : Sp) (n : Int) : Int := if s.2.1 < n then -1 else if n < s.1 then 1 else 0
theorem cs_any (s : Sp) (n : Int) (w : World) : Calls Tryz.prog 94 #[.agg #[.int .i64 s.1, .int .i64 s.2.1, .int .i64 s.2.2], .int .i64 n] w fun e w' => e = .returned (.int .i64 (cs s n)) ∧ Below w.heap.size w w' := by
  obtain ⟨f, l, v⟩ := s
  have hb : Below w.heap.size w (w.alloc (.cells #[.int .i64 f, .int .i64 l, .int .i64 v] 86)) := (Below.refl _ _).alloc (Nat.le_refl _) _
  have HB := hide hb
  clear hb
  by_cases h1 : l < n
  · have HE : Hid (cs (f, l, v) n = -1) := hide (if_pos h1)
    go_enter Tryz.func94, Tryz.ntmps94
    go_wp2
    go_ret
    exact ⟨by rw [unhide HE]; rfl, unhide HB⟩
  · by_cases h2 : n < f
    · have HE : Hid (cs (f, l, v) n = 1) := hide (by unfold cs; rw [if_neg h1, if_pos h2])
      go_enter Tryz.func94, Tryz.ntmps94
      go_wp2
      go_ret
      exact ⟨by rw [unhide HE]; rfl, unhide HB⟩
    · have HE : Hid (cs (f, l, v) n = 0) := hide (by unfold cs; rw [if_neg h1, if_neg h2])
      go_enter Tryz.func94, Tryz.ntmps94
      go_wp2
      go_ret
      exact ⟨by rw [unhide HE]; rfl, unhide HB⟩
theorem wrapI (k : Nat) (h : k ≤ 9223372036854775807) : IntKind.i64.wrap (k : Int) = (k : Int) := by
  simp [IntKind.wrap, IntKind.bits, IntKind.signed]
  omega
set_option maxRecDepth 100000 in
set_option maxHeartbeats 4000000 in
theorem bs_any (v : Value) (L : List Sp) (n : Int) (B : Nat) (w : World) (h : SpRow w B v L) (hl : L.length ≤ 1048576) (m : Nat) (hm : m ≤ L.length) (h1 : ∀ i, i < m → (gx L i).2.1 < n) (h2 : ∀ i, m ≤ i → i < L.length → n ≤ (gx L i).2.1) :
    Calls Tryz.prog 93 #[v, .int .i64 n, .func (.func 94) #[] #[]] w fun e w' => e = .returned (.tuple #[.int .i64 (m : Int), .bool (decide (m < L.length ∧ (gx L m).1 ≤ n))]) ∧ Below w.heap.size w w' := by
  obtain ⟨a, c, rfl, hf⟩ := h.form
  have HV := hide h
  have H1 := hide h1
  have H2 := hide h2
  have HF := hide hf
  clear h h1 h2 hf
  go_enter Tryz.func93, Tryz.ntmps93
  go_wp2
  go_loopw [9, 10] (fun x1 x2 wr => ∃ i j : Nat, x1 = .int .i64 (i : Int) ∧ x2 = .int .i64 (j : Int) ∧ i ≤ m ∧ m ≤ j ∧ j ≤ L.length ∧ Hid (Below w.heap.size w wr)) (fun x1 x2 _ => (intOf x2).toNat - (intOf x1).toNat)
  case atStart => exact ⟨0, L.length, rfl, rfl, by omega, by omega, by omega, hide (Below.refl _ _)⟩
  case round =>
    obtain ⟨i, j, rfl, rfl, him, hmj, hjl, HB⟩ := hrel
    have hzz := (unhide HB).size
    by_cases hlt : i < j
    · obtain ⟨g, rfl, hBg, hgw⟩ := (unhide HF) (by omega)
      have hlt' : (i : Int) < (j : Int) := by omega
      obtain ⟨q, hq⟩ : ∃ q, (i + j) / 2 = q := ⟨_, rfl⟩
      have hql : q < L.length := by omega
      obtain ⟨r0, r1, r2⟩ := ((unhide HV).below (unhide HB)).read q hql
      have CC := hide (fun W => cs_any (gx L q) n W)
      have HC : Hid (cs (gx L q) n < 0 ↔ q < m) := hide (by
        unfold cs
        constructor
        · intro h
          rcases Nat.lt_or_ge q m with e | e
          · exact e
          · have := (unhide H2) q e hql
            rw [if_neg (by omega)] at h
            split at h <;> omega
        · intro e
          rw [if_pos ((unhide H1) q e)]
          omega)
      have hw1 : IntKind.i64.wrap ((i : Int) + (j : Int)) = (i : Int) + (j : Int) := by rw [show (i : Int) + (j : Int) = ((i + j : Nat) : Int) by omega]; exact wrapI (i + j) (by omega)
      have hw2 : IntKind.u64.wrap ((i : Int) + (j : Int)) = (i : Int) + (j : Int) := by simp [IntKind.wrap, IntKind.bits, IntKind.signed]; omega
      have hsh : ((i : Int) + (j : Int)) / 2 = (q : Int) := by omega
      have hw3 : IntKind.i64.wrap (q : Int) = (q : Int) := wrapI q (by omega)
      have hw4 : IntKind.u64.wrap (q : Int) = (q : Int) := by simp [IntKind.wrap, IntKind.bits, IntKind.signed]; omega
      have hm0 : (0 : Int) ≤ (q : Int) := by omega
      have hmj' : (q : Int) < (L.length : Int) := by omega
      obtain ⟨⟨f, l, u⟩, hs⟩ : ∃ s, gx L q = s := ⟨_, rfl⟩
      rw [hs] at r0 r1 r2 CC HC
      simp only at r0 r1 r2 CC
      generalize cs (f, l, u) n = z at *
      clear hs
      by_cases hz : z < 0
      · have hqm := (unhide HC).1 hz
        go_wp2_with (go_at_call 94; refine ((unhide CC) _).mono ?_; rintro e w2 ⟨rfl, hb2⟩; have B2 := hide ((unhide HB).trans (hb2.mono hzz)); clear hb2)
        go_roundw
        case rel => exact ⟨q + 1, j, by go_num, rfl, by omega, by omega, by omega, B2⟩
        case measure => simp [intOf]; omega
      · have hqm : ¬ q < m := fun e => hz ((unhide HC).2 e)
        go_wp2_with (go_at_call 94; refine ((unhide CC) _).mono ?_; rintro e w2 ⟨rfl, hb2⟩; have B2 := hide ((unhide HB).trans (hb2.mono hzz)); clear hb2)
        go_roundw
        case rel => exact ⟨i, q, rfl, by first | rfl | go_num, by omega, by omega, by omega, B2⟩
        case measure => simp [intOf]; omega
    · obtain rfl : i = m := by omega
      obtain rfl : j = i := by omega
      have hge : ¬ (j : Int) < (j : Int) := by omega
      clear hlt
      have hU : undef = Value.tuple #[] := rfl
      by_cases hil : j < L.length
      · obtain ⟨g, rfl, hBg, hgw⟩ := (unhide HF) (by omega)
        obtain ⟨r0, r1, r2⟩ := ((unhide HV).below (unhide HB)).read j hil
        have CC := hide (fun W => cs_any (gx L j) n W)
        have hil' : (j : Int) < (L.length : Int) := by omega
        have hln := (unhide H2) j (Nat.le_refl _) hil
        obtain ⟨⟨f, l, u⟩, hs⟩ : ∃ s, gx L j = s := ⟨_, rfl⟩
        have HS := hide hs
        rw [hs] at r0 r1 r2 CC hln
        simp only at r0 r1 r2 CC hln
        by_cases hfn : f ≤ n
        · have HE : Hid (cs (f, l, u) n = 0) := hide (by unfold cs; dsimp only; rw [if_neg (by omega), if_neg (by omega)])
          rw [unhide HE] at CC
          have HD : Hid (decide (j < L.length ∧ (gx L j).1 ≤ n) = true) := hide (decide_eq_true ⟨hil, by rw [hs]; exact hfn⟩)
          clear hs hln HE
          go_wp2_with (go_at_call 94; refine ((unhide CC) _).mono ?_; rintro e w2 ⟨rfl, hb2⟩; have B2 := hide ((unhide HB).trans (hb2.mono hzz)); clear hb2)
          refine bodyPost_ret (v := .tuple #[.int .i64 (j : Int), .bool true]) (by kernel_rfl) rfl ?_
          exact ⟨by first | rfl | rw [unhide HD], unhide B2⟩
        · have HE : Hid (cs (f, l, u) n = 1) := hide (by unfold cs; dsimp only; rw [if_neg (by omega), if_pos (by omega)])
          rw [unhide HE] at CC
          have HD : Hid (decide (j < L.length ∧ (gx L j).1 ≤ n) = false) := hide (decide_eq_false (fun e => hfn (by have := e.2; rw [hs] at this; exact this)))
          clear hs hln HE
          go_wp2_with (go_at_call 94; refine ((unhide CC) _).mono ?_; rintro e w2 ⟨rfl, hb2⟩; have B2 := hide ((unhide HB).trans (hb2.mono hzz)); clear hb2)
          refine bodyPost_ret (v := .tuple #[.int .i64 (j : Int), .bool false]) (by kernel_rfl) rfl ?_
          exact ⟨by first | rfl | rw [unhide HD], unhide B2⟩
      · have hil' : ¬ (j : Int) < (L.length : Int) := by omega
        have HD : Hid (decide (j < L.length ∧ (gx L j).1 ≤ n) = false) := hide (decide_eq_false (fun e => hil e.1))
        go_wp2
        refine bodyPost_ret (v := .tuple #[.int .i64 (j : Int), .bool false]) (by kernel_rfl) rfl ?_
        exact ⟨by first | rfl | rw [unhide HD], unhide HB⟩
set_option maxRecDepth 100000 in
theorem value_any (v : Value) (L : List Sp) (n o : Int) (B : Nat) (w : World) (h : SpRow w B v L) (hl : L.length ≤ 1048576) (hok : okAt L 0 = true) :
    Calls Tryz.prog 62 #[v, .int .i64 n, .int .i64 o] w fun e w' => e = .returned (.int .i64 (valS L n o)) ∧ Below w.heap.size w w' := by
  obtain ⟨m, hm, h1, h2, h3⟩ := val_at hok n o
  have CB := hide (bs_any v L n B w h hl m hm h1 h2)
  obtain ⟨a, c, rfl, hf⟩ := h.form
  have HV := hide h
  clear h h1 h2
  by_cases hc : m < L.length ∧ (gx L m).1 ≤ n
  · rw [decide_eq_true hc] at CB
    rw [h3, if_pos hc]
    obtain ⟨g, rfl, hBg, hgw⟩ := hf (by omega)
    have hml : (m : Int) < (L.length : Int) := by omega
    have hm0 : (0 : Int) ≤ (m : Int) := by omega
    have hmL := hc.1
    clear hc h3
    go_enter Tryz.func62, Tryz.ntmps62
    go_wp2_with (go_at_call 93; refine (unhide CB).mono ?_; rintro e w2 ⟨rfl, hb2⟩; obtain ⟨r0, r1, r2⟩ := ((unhide HV).below hb2).read m hmL; have B2 := hide hb2; clear hb2)
    go_ret
    exact ⟨rfl, unhide B2⟩
  · rw [decide_eq_false hc] at CB
    rw [h3, if_neg hc]
    clear hc h3
    go_enter Tryz.func62, Tryz.ntmps62
    go_wp2_with (go_at_call 93; refine (unhide CB).mono ?_; rintro e w2 ⟨rfl, hb2⟩; have B2 := hide hb2; clear hb2)
    go_ret
    exact ⟨rfl, unhide B2⟩
end Sha
end Go.Proofs.YtfldomifooihlaaGreatDoor
/- What kerns tell of two numbers, as the program looks for it: by halves. -/
namespace Go.Proofs.YtfldomifooihlaaGreatDoor
namespace Sha
open Go.RowKit Fnt
set_option linter.unusedVariables false
set_option linter.unusedSimpArgs false
def kc (s : Sp) (a b : Int) : Int := orF (cmpF s.1 a) (cmpF s.2.1 b)
theorem kc_lt (s : Sp) (a b : Int) : kc s a b < 0 ↔ klt s (a, b, 0) = true := by
  have h := klt_or s (a, b, 0)
  unfold kc
  dsimp only at h
  generalize orF (cmpF s.1 a) (cmpF s.2.1 b) = c at *
  cases e : klt s (a, b, 0) with
  | true => rw [e] at h; simp at h; simpa using h
  | false => rw [e] at h; simp at h; simp; omega
theorem kc_zero (s : Sp) (a b : Int) : kc s a b = 0 ↔ s.1 = a ∧ s.2.1 = b := by
  unfold kc orF cmpF
  by_cases h1 : s.1 < a
  · have : ¬ s.1 = a := by omega
    simp [h1, this]
  · by_cases h2 : a < s.1
    · have : ¬ s.1 = a := by omega
      simp [h1, h2, this]
    · have h3 : s.1 = a := by omega
      by_cases h4 : s.2.1 < b
      · have : ¬ s.2.1 = b := by omega
        simp [h1, h2, h4, this]
      · by_cases h5 : b < s.2.1
        · have : ¬ s.2.1 = b := by omega
          simp [h1, h2, h4, h5, this]
        · have : s.2.1 = b := by omega
          simp [h1, h2, h4, h5, this, h3]
set_option maxRecDepth 100000 in
set_option maxHeartbeats 4000000 in
theorem bsK_any (v : Value) (L : List Sp) (ka kb : Int) (B : Nat) (w : World) (h : Krn.SpRow w B v L) (hl : L.length ≤ 1048576) (m : Nat) (hm : m ≤ L.length) (h1 : ∀ i, i < m → klt (gx L i) (ka, kb, 0) = true) (h2 : ∀ i, m ≤ i → i < L.length → klt (gx L i) (ka, kb, 0) = false) :
    Calls Tryz.prog 92 #[v, .agg #[.int .i64 ka, .int .i64 kb, .int .i64 0], .func (.func 81) #[] #[]] w fun e w' => e = .returned (.tuple #[.int .i64 (m : Int), .bool (decide (m < L.length ∧ ((gx L m).1 = ka ∧ (gx L m).2.1 = kb)))]) ∧ Below w.heap.size w w' := by
  obtain ⟨a, c, rfl, hf⟩ := h.form
  have HV := hide h
  have H1 := hide h1
  have H2 := hide h2
  have HF := hide hf
  clear h h1 h2 hf
  obtain ⟨W0, hW0⟩ : ∃ W0, W0 = w.alloc (.cells #[.int .i64 ka, .int .i64 kb, .int .i64 0] 75) := ⟨_, rfl⟩
  have hx : W0.heap[w.heap.size]? = some (.cells #[.int .i64 ka, .int .i64 kb, .int .i64 0] 75 (0, 0)) := by rw [hW0]; exact Frl.heap_new w _
  have hz0 : W0.heap.size = w.heap.size + 1 := by rw [hW0]; simp
  have HX := hide (three_q hx)
  have HB0 : Hid (Below w.heap.size w W0) := hide (by rw [hW0]; exact (Below.refl _ _).alloc (Nat.le_refl _) _)
  clear hx
  go_enter Tryz.func92, Tryz.ntmps92
  go_wp2
  rw [← hW0]
  clear hW0
  go_loopw [9, 10] (fun x1 x2 wr => ∃ i j : Nat, x1 = .int .i64 (i : Int) ∧ x2 = .int .i64 (j : Int) ∧ i ≤ m ∧ m ≤ j ∧ j ≤ L.length ∧ Hid (Below W0.heap.size W0 wr)) (fun x1 x2 _ => (intOf x2).toNat - (intOf x1).toNat)
  case atStart => exact ⟨0, L.length, rfl, rfl, by omega, by omega, by omega, hide (Below.refl _ _)⟩
  case round =>
    obtain ⟨i, j, rfl, rfl, him, hmj, hjl, HB⟩ := hrel
    have hzz := (unhide HB).size
    obtain ⟨y0, y1, y2⟩ := unhide HX
    have k0 := ((unhide HB).cell (p := ⟨w.heap.size, 0, none⟩) (by show w.heap.size < _; omega)).trans y0
    have k1 := ((unhide HB).cell (p := ⟨w.heap.size, 1, none⟩) (by show w.heap.size < _; omega)).trans y1
    have k2 := ((unhide HB).cell (p := ⟨w.heap.size, 2, none⟩) (by show w.heap.size < _; omega)).trans y2
    clear y0 y1 y2
    by_cases hlt : i < j
    · obtain ⟨g, rfl, hBg, hgw⟩ := (unhide HF) (by omega)
      have hlt' : (i : Int) < (j : Int) := by omega
      obtain ⟨q, hq⟩ : ∃ q, (i + j) / 2 = q := ⟨_, rfl⟩
      have hql : q < L.length := by omega
      obtain ⟨r0, r1, r2⟩ := (((unhide HV).below (unhide HB0)).below (unhide HB)).read q hql
      have CC := hide (fun W => compareKx (gx L q).1 (gx L q).2.1 (gx L q).2.2 ka kb 0 W)
      have HC : Hid (kc (gx L q) ka kb < 0 ↔ q < m) := hide (by
        rw [kc_lt]
        constructor
        · intro h
          rcases Nat.lt_or_ge q m with e | e
          · exact e
          · rw [(unhide H2) q e hql] at h; cases h
        · intro e
          exact (unhide H1) q e)
      have hw1 : IntKind.i64.wrap ((i : Int) + (j : Int)) = (i : Int) + (j : Int) := by rw [show (i : Int) + (j : Int) = ((i + j : Nat) : Int) by omega]; exact wrapI (i + j) (by omega)
      have hw2 : IntKind.u64.wrap ((i : Int) + (j : Int)) = (i : Int) + (j : Int) := by simp [IntKind.wrap, IntKind.bits, IntKind.signed]; omega
      have hsh : ((i : Int) + (j : Int)) / 2 = (q : Int) := by omega
      have hw3 : IntKind.i64.wrap (q : Int) = (q : Int) := wrapI q (by omega)
      have hw4 : IntKind.u64.wrap (q : Int) = (q : Int) := by simp [IntKind.wrap, IntKind.bits, IntKind.signed]; omega
      have hm0 : (0 : Int) ≤ (q : Int) := by omega
      have hmj' : (q : Int) < (L.length : Int) := by omega
      obtain ⟨⟨f, l, u⟩, hs⟩ : ∃ s, gx L q = s := ⟨_, rfl⟩
      rw [hs] at r0 r1 r2 CC HC
      unfold kc at HC
      simp only at r0 r1 r2 CC HC
      generalize orF (cmpF f ka) (cmpF l kb) = z at *
      clear hs
      by_cases hz : z < 0
      · have hqm := (unhide HC).1 hz
        go_wp2_with (first | (go_region_with (go_at_call 81; refine ((unhide CC) _).mono ?_; rintro e w2 ⟨rfl, hb2⟩; have B2 := hide ((unhide HB).trans (((drew_below wr).trans hb2).mono hzz)); clear hb2)) | fail)
        all_goals
          go_roundw
          case rel => exact ⟨q + 1, j, by go_num, rfl, by omega, by omega, by omega, B2⟩
          case measure => simp [intOf]; omega
      · have hqm : ¬ q < m := fun e => hz ((unhide HC).2 e)
        go_wp2_with (first | (go_region_with (go_at_call 81; refine ((unhide CC) _).mono ?_; rintro e w2 ⟨rfl, hb2⟩; have B2 := hide ((unhide HB).trans (((drew_below wr).trans hb2).mono hzz)); clear hb2)) | fail)
        all_goals
          go_roundw
          case rel => exact ⟨i, q, rfl, by first | rfl | go_num, by omega, by omega, by omega, B2⟩
          case measure => simp [intOf]; omega
    · obtain rfl : i = m := by omega
      obtain rfl : j = i := by omega
      have hge : ¬ (j : Int) < (j : Int) := by omega
      clear hlt
      have hU : undef = Value.tuple #[] := rfl
      have HBB := hide ((unhide HB0).trans ((unhide HB).mono (by omega)))
      by_cases hil : j < L.length
      · obtain ⟨g, rfl, hBg, hgw⟩ := (unhide HF) (by omega)
        obtain ⟨r0, r1, r2⟩ := (((unhide HV).below (unhide HB0)).below (unhide HB)).read j hil
        have CC := hide (fun W => compareKx (gx L j).1 (gx L j).2.1 (gx L j).2.2 ka kb 0 W)
        have hil' : (j : Int) < (L.length : Int) := by omega
        have hj0 : (0 : Int) ≤ (j : Int) := by omega
        obtain ⟨⟨f, l, u⟩, hs⟩ : ∃ s, gx L j = s := ⟨_, rfl⟩
        have HZ : Hid (orF (cmpF f ka) (cmpF l kb) = 0 ↔ f = ka ∧ l = kb) := hide (kc_zero (f, l, u) ka kb)
        rw [hs] at r0 r1 r2 CC
        simp only at r0 r1 r2 CC
        by_cases hfn : f = ka ∧ l = kb
        · have HE := (unhide HZ).2 hfn
          rw [HE] at CC
          have HD : Hid (decide (j < L.length ∧ ((gx L j).1 = ka ∧ (gx L j).2.1 = kb)) = true) := hide (decide_eq_true ⟨hil, by rw [hs]; exact hfn⟩)
          clear hs HE HZ hfn
          have KS := (show (fun w' => w'.cell? ⟨g, j * 3, none⟩ = some (.int .i64 f) ∧ w'.cell? ⟨g, j * 3 + 1, none⟩ = some (.int .i64 l) ∧ w'.cell? ⟨g, j * 3 + 2, none⟩ = some (.int .i64 u) ∧ w'.cell? ⟨w.heap.size, 0, none⟩ = some (.int .i64 ka) ∧ w'.cell? ⟨w.heap.size, 1, none⟩ = some (.int .i64 kb) ∧ w'.cell? ⟨w.heap.size, 2, none⟩ = some (.int .i64 0)) wr from ⟨r0, r1, r2, k0, k1, k2⟩)
          go_upto_region 8 with fail
          refine wp_region_held_drew (S := fun w' => w'.cell? ⟨g, j * 3, none⟩ = some (.int .i64 f) ∧ w'.cell? ⟨g, j * 3 + 1, none⟩ = some (.int .i64 l) ∧ w'.cell? ⟨g, j * 3 + 2, none⟩ = some (.int .i64 u) ∧ w'.cell? ⟨w.heap.size, 0, none⟩ = some (.int .i64 ka) ∧ w'.cell? ⟨w.heap.size, 1, none⟩ = some (.int .i64 kb) ∧ w'.cell? ⟨w.heap.size, 2, none⟩ = some (.int .i64 0)) (by kernel_rfl) (by first | go_keep | exact KS) (fun hHeld => ?_)
          refine tkF (i := 0) (d := some 35) (v := ?_) rfl rfl (by kernel_rfl) (by kernel_rfl) (by kernel_rfl) (fun _ _ _ h => h) (Or.inl ⟨by rfl, ?_⟩) (by assumption) ?_
          rotate_left
          · intro w hSw; (try dsimp only at hSw); go_simp; try with_reducible rfl
          try simp only [Act.put, List.setIfInBounds_toArray, List.set_cons_zero, List.set_cons_succ]
          refine tkF (i := 1) (d := some 36) (v := ?_) rfl rfl (by kernel_rfl) (by kernel_rfl) (by kernel_rfl) (fun _ _ _ h => h) (Or.inl ⟨by rfl, ?_⟩) (by assumption) ?_
          rotate_left
          · intro w hSw; (try dsimp only at hSw); go_simp; try with_reducible rfl
          try simp only [Act.put, List.setIfInBounds_toArray, List.set_cons_zero, List.set_cons_succ]
          refine tkF (i := 2) (d := some 37) (v := ?_) rfl rfl (by kernel_rfl) (by kernel_rfl) (by kernel_rfl) (fun _ _ _ h => h) (Or.inl ⟨by rfl, ?_⟩) (by assumption) ?_
          rotate_left
          · intro w hSw; (try dsimp only at hSw); go_simp; try with_reducible rfl
          try simp only [Act.put, List.setIfInBounds_toArray, List.set_cons_zero, List.set_cons_succ]
          refine tkF (i := 3) (d := some 38) (v := ?_) rfl rfl (by kernel_rfl) (by kernel_rfl) (by kernel_rfl) (fun _ _ _ h => h) (Or.inl ⟨by rfl, ?_⟩) (by assumption) ?_
          rotate_left
          · intro w hSw; (try dsimp only at hSw); go_simp; try with_reducible rfl
          try simp only [Act.put, List.setIfInBounds_toArray, List.set_cons_zero, List.set_cons_succ]
          refine tkF (i := 4) (d := some 39) (v := ?_) rfl rfl (by kernel_rfl) (by kernel_rfl) (by kernel_rfl) (fun _ _ _ h => h) (Or.inl ⟨by rfl, ?_⟩) (by assumption) ?_
          rotate_left
          · intro w hSw; (try dsimp only at hSw); go_simp; try with_reducible rfl
          try simp only [Act.put, List.setIfInBounds_toArray, List.set_cons_zero, List.set_cons_succ]
          refine tkF (i := 5) (d := some 40) (v := ?_) rfl rfl (by kernel_rfl) (by kernel_rfl) (by kernel_rfl) (fun _ _ _ h => h) (Or.inl ⟨by rfl, ?_⟩) (by assumption) ?_
          rotate_left
          · intro w hSw; (try dsimp only at hSw); go_simp; try with_reducible rfl
          try simp only [Act.put, List.setIfInBounds_toArray, List.set_cons_zero, List.set_cons_succ]
          refine tkF (i := 6) (d := some 41) (v := ?_) rfl rfl (by kernel_rfl) (by kernel_rfl) (by kernel_rfl) (fun _ _ _ h => h) (Or.inl ⟨by rfl, ?_⟩) (by assumption) ?_
          rotate_left
          · intro w hSw; (try dsimp only at hSw); go_simp; try with_reducible rfl
          try simp only [Act.put, List.setIfInBounds_toArray, List.set_cons_zero, List.set_cons_succ]
          refine tkF (i := 7) (d := some 42) (v := ?_) rfl rfl (by kernel_rfl) (by kernel_rfl) (by kernel_rfl) (fun _ _ _ h => h) (Or.inl ⟨by rfl, ?_⟩) (by assumption) ?_
          rotate_left
          · intro w hSw; (try dsimp only at hSw); go_simp; try with_reducible rfl
          try simp only [Act.put, List.setIfInBounds_toArray, List.set_cons_zero, List.set_cons_succ]
          refine tkF (i := 8) (d := some 43) (v := ?_) rfl rfl (by kernel_rfl) (by kernel_rfl) (by kernel_rfl) (fun _ _ _ h => h) (Or.inl ⟨by rfl, ?_⟩) (by assumption) ?_
          rotate_left
          · intro w hSw; (try dsimp only at hSw); go_simp; try with_reducible rfl
          try simp only [Act.put, List.setIfInBounds_toArray, List.set_cons_zero, List.set_cons_succ]
          refine tkF (i := 9) (d := some 44) (v := ?_) rfl rfl (by kernel_rfl) (by kernel_rfl) (by kernel_rfl) (fun _ _ _ h => h) (Or.inl ⟨by rfl, ?_⟩) (by assumption) ?_
          rotate_left
          · intro w hSw; (try dsimp only at hSw); go_simp; try with_reducible rfl
          try simp only [Act.put, List.setIfInBounds_toArray, List.set_cons_zero, List.set_cons_succ]
          refine tkF (i := 10) (d := some 45) (v := ?_) rfl rfl (by kernel_rfl) (by kernel_rfl) (by kernel_rfl) (fun _ _ _ h => h) (Or.inl ⟨by rfl, ?_⟩) (by assumption) ?_
          rotate_left
          · intro w hSw; (try dsimp only at hSw); go_simp; try with_reducible rfl
          try simp only [Act.put, List.setIfInBounds_toArray, List.set_cons_zero, List.set_cons_succ]
          refine wpAnyH_ready (rs := [11]) (by kernel_rfl) (by simp) (AllReadyH.cons rfl (fun K hK => ?_) AllReadyH.nil)
          go_simp
          go_at_call 81
          refine ((unhide CC) _).mono ?_
          rintro e w2 ⟨rfl, hb2⟩
          have hB2 := (drew_below wr).trans hb2
          have KS2 : (fun w' => w'.cell? ⟨g, j * 3, none⟩ = some (.int .i64 f) ∧ w'.cell? ⟨g, j * 3 + 1, none⟩ = some (.int .i64 l) ∧ w'.cell? ⟨g, j * 3 + 2, none⟩ = some (.int .i64 u) ∧ w'.cell? ⟨w.heap.size, 0, none⟩ = some (.int .i64 ka) ∧ w'.cell? ⟨w.heap.size, 1, none⟩ = some (.int .i64 kb) ∧ w'.cell? ⟨w.heap.size, 2, none⟩ = some (.int .i64 0)) w2 := ⟨(hB2.cell (p := ⟨g, j * 3, none⟩) (by show g < wr.heap.size; omega)).trans r0, (hB2.cell (p := ⟨g, j * 3 + 1, none⟩) (by show g < wr.heap.size; omega)).trans r1, (hB2.cell (p := ⟨g, j * 3 + 2, none⟩) (by show g < wr.heap.size; omega)).trans r2, (hB2.cell (p := ⟨w.heap.size, 0, none⟩) (by show w.heap.size < wr.heap.size; omega)).trans k0, (hB2.cell (p := ⟨w.heap.size, 1, none⟩) (by show w.heap.size < wr.heap.size; omega)).trans k1, (hB2.cell (p := ⟨w.heap.size, 2, none⟩) (by show w.heap.size < wr.heap.size; omega)).trans k2⟩
          have B2 := hide ((unhide HBB).trans (hB2.mono (by omega)))
          clear hb2 hB2
          try go_wp2_with fail
          refine hK.out _ _ KS2 (fun hHeld5 => ?_)
          clear hK K hHeld
          try simp only [Act.put, List.setIfInBounds_toArray, List.set_cons_zero, List.set_cons_succ]
          refine tkF (i := 12) (d := some 47) (v := ?_) rfl rfl (by kernel_rfl) (by kernel_rfl) (by kernel_rfl) (fun _ _ _ h => h) (Or.inl ⟨by rfl, ?_⟩) (by assumption) ?_
          rotate_left
          · intro w hSw; (try dsimp only at hSw); go_simp; try with_reducible rfl
          try simp only [Act.put, List.setIfInBounds_toArray, List.set_cons_zero, List.set_cons_succ]
          refine tkF (i := 13) (d := some 48) (v := ?_) rfl rfl (by kernel_rfl) (by kernel_rfl) (by kernel_rfl) (fun _ _ _ h => h) (Or.inl ⟨by rfl, ?_⟩) (by assumption) ?_
          rotate_left
          · intro w hSw; (try dsimp only at hSw); go_simp; try with_reducible rfl
          try simp only [Act.put, List.setIfInBounds_toArray, List.set_cons_zero, List.set_cons_succ]
          refine tkF (i := 14) (d := some 6) (v := ?_) rfl rfl (by kernel_rfl) (by kernel_rfl) (by kernel_rfl) (fun _ _ _ h => h) (Or.inl ⟨by rfl, ?_⟩) (by assumption) ?_
          rotate_left
          · intro w hSw; (try dsimp only at hSw); go_simp; try with_reducible rfl
          try simp only [Act.put, List.setIfInBounds_toArray, List.set_cons_zero, List.set_cons_succ]
          refine tkF (i := 15) (d := some 7) (v := ?_) rfl rfl (by kernel_rfl) (by kernel_rfl) (by kernel_rfl) (fun _ _ _ h => h) (Or.inl ⟨by rfl, ?_⟩) (by assumption) ?_
          rotate_left
          · intro w hSw; (try dsimp only at hSw); go_simp; try with_reducible rfl
          try simp only [Act.put, List.setIfInBounds_toArray, List.set_cons_zero, List.set_cons_succ]
          refine wpAnyH_done (by kernel_rfl) ?_ _
          go_wp2
          refine bodyPost_ret (v := .tuple #[.int .i64 (j : Int), .bool true]) (by kernel_rfl) rfl ?_
          exact ⟨by first | rfl | rw [unhide HD], unhide B2⟩
        · obtain ⟨z, hz⟩ : ∃ z, orF (cmpF f ka) (cmpF l kb) = z := ⟨_, rfl⟩
          have HE : (z == 0) = false := by rw [beq_eq_false_iff_ne]; intro e; exact hfn ((unhide HZ).1 (by rw [hz]; exact e))
          rw [hz] at CC
          have HD : Hid (decide (j < L.length ∧ ((gx L j).1 = ka ∧ (gx L j).2.1 = kb)) = false) := hide (decide_eq_false (fun e => hfn (by have := e.2; rw [hs] at this; exact this)))
          clear hs HZ hfn hz
          have KS := (show (fun w' => w'.cell? ⟨g, j * 3, none⟩ = some (.int .i64 f) ∧ w'.cell? ⟨g, j * 3 + 1, none⟩ = some (.int .i64 l) ∧ w'.cell? ⟨g, j * 3 + 2, none⟩ = some (.int .i64 u) ∧ w'.cell? ⟨w.heap.size, 0, none⟩ = some (.int .i64 ka) ∧ w'.cell? ⟨w.heap.size, 1, none⟩ = some (.int .i64 kb) ∧ w'.cell? ⟨w.heap.size, 2, none⟩ = some (.int .i64 0)) wr from ⟨r0, r1, r2, k0, k1, k2⟩)
          go_upto_region 8 with fail
          refine wp_region_held_drew (S := fun w' => w'.cell? ⟨g, j * 3, none⟩ = some (.int .i64 f) ∧ w'.cell? ⟨g, j * 3 + 1, none⟩ = some (.int .i64 l) ∧ w'.cell? ⟨g, j * 3 + 2, none⟩ = some (.int .i64 u) ∧ w'.cell? ⟨w.heap.size, 0, none⟩ = some (.int .i64 ka) ∧ w'.cell? ⟨w.heap.size, 1, none⟩ = some (.int .i64 kb) ∧ w'.cell? ⟨w.heap.size, 2, none⟩ = some (.int .i64 0)) (by kernel_rfl) (by first | go_keep | exact KS) (fun hHeld => ?_)
          refine tkF (i := 0) (d := some 35) (v := ?_) rfl rfl (by kernel_rfl) (by kernel_rfl) (by kernel_rfl) (fun _ _ _ h => h) (Or.inl ⟨by rfl, ?_⟩) (by assumption) ?_
          rotate_left
          · intro w hSw; (try dsimp only at hSw); go_simp; try with_reducible rfl
          try simp only [Act.put, List.setIfInBounds_toArray, List.set_cons_zero, List.set_cons_succ]
          refine tkF (i := 1) (d := some 36) (v := ?_) rfl rfl (by kernel_rfl) (by kernel_rfl) (by kernel_rfl) (fun _ _ _ h => h) (Or.inl ⟨by rfl, ?_⟩) (by assumption) ?_
          rotate_left
          · intro w hSw; (try dsimp only at hSw); go_simp; try with_reducible rfl
          try simp only [Act.put, List.setIfInBounds_toArray, List.set_cons_zero, List.set_cons_succ]
          refine tkF (i := 2) (d := some 37) (v := ?_) rfl rfl (by kernel_rfl) (by kernel_rfl) (by kernel_rfl) (fun _ _ _ h => h) (Or.inl ⟨by rfl, ?_⟩) (by assumption) ?_
          rotate_left
          · intro w hSw; (try dsimp only at hSw); go_simp; try with_reducible rfl
          try simp only [Act.put, List.setIfInBounds_toArray, List.set_cons_zero, List.set_cons_succ]
          refine tkF (i := 3) (d := some 38) (v := ?_) rfl rfl (by kernel_rfl) (by kernel_rfl) (by kernel_rfl) (fun _ _ _ h => h) (Or.inl ⟨by rfl, ?_⟩) (by assumption) ?_
          rotate_left
          · intro w hSw; (try dsimp only at hSw); go_simp; try with_reducible rfl
          try simp only [Act.put, List.setIfInBounds_toArray, List.set_cons_zero, List.set_cons_succ]
          refine tkF (i := 4) (d := some 39) (v := ?_) rfl rfl (by kernel_rfl) (by kernel_rfl) (by kernel_rfl) (fun _ _ _ h => h) (Or.inl ⟨by rfl, ?_⟩) (by assumption) ?_
          rotate_left
          · intro w hSw; (try dsimp only at hSw); go_simp; try with_reducible rfl
          try simp only [Act.put, List.setIfInBounds_toArray, List.set_cons_zero, List.set_cons_succ]
          refine tkF (i := 5) (d := some 40) (v := ?_) rfl rfl (by kernel_rfl) (by kernel_rfl) (by kernel_rfl) (fun _ _ _ h => h) (Or.inl ⟨by rfl, ?_⟩) (by assumption) ?_
          rotate_left
          · intro w hSw; (try dsimp only at hSw); go_simp; try with_reducible rfl
          try simp only [Act.put, List.setIfInBounds_toArray, List.set_cons_zero, List.set_cons_succ]
          refine tkF (i := 6) (d := some 41) (v := ?_) rfl rfl (by kernel_rfl) (by kernel_rfl) (by kernel_rfl) (fun _ _ _ h => h) (Or.inl ⟨by rfl, ?_⟩) (by assumption) ?_
          rotate_left
          · intro w hSw; (try dsimp only at hSw); go_simp; try with_reducible rfl
          try simp only [Act.put, List.setIfInBounds_toArray, List.set_cons_zero, List.set_cons_succ]
          refine tkF (i := 7) (d := some 42) (v := ?_) rfl rfl (by kernel_rfl) (by kernel_rfl) (by kernel_rfl) (fun _ _ _ h => h) (Or.inl ⟨by rfl, ?_⟩) (by assumption) ?_
          rotate_left
          · intro w hSw; (try dsimp only at hSw); go_simp; try with_reducible rfl
          try simp only [Act.put, List.setIfInBounds_toArray, List.set_cons_zero, List.set_cons_succ]
          refine tkF (i := 8) (d := some 43) (v := ?_) rfl rfl (by kernel_rfl) (by kernel_rfl) (by kernel_rfl) (fun _ _ _ h => h) (Or.inl ⟨by rfl, ?_⟩) (by assumption) ?_
          rotate_left
          · intro w hSw; (try dsimp only at hSw); go_simp; try with_reducible rfl
          try simp only [Act.put, List.setIfInBounds_toArray, List.set_cons_zero, List.set_cons_succ]
          refine tkF (i := 9) (d := some 44) (v := ?_) rfl rfl (by kernel_rfl) (by kernel_rfl) (by kernel_rfl) (fun _ _ _ h => h) (Or.inl ⟨by rfl, ?_⟩) (by assumption) ?_
          rotate_left
          · intro w hSw; (try dsimp only at hSw); go_simp; try with_reducible rfl
          try simp only [Act.put, List.setIfInBounds_toArray, List.set_cons_zero, List.set_cons_succ]
          refine tkF (i := 10) (d := some 45) (v := ?_) rfl rfl (by kernel_rfl) (by kernel_rfl) (by kernel_rfl) (fun _ _ _ h => h) (Or.inl ⟨by rfl, ?_⟩) (by assumption) ?_
          rotate_left
          · intro w hSw; (try dsimp only at hSw); go_simp; try with_reducible rfl
          try simp only [Act.put, List.setIfInBounds_toArray, List.set_cons_zero, List.set_cons_succ]
          refine wpAnyH_ready (rs := [11]) (by kernel_rfl) (by simp) (AllReadyH.cons rfl (fun K hK => ?_) AllReadyH.nil)
          go_simp
          go_at_call 81
          refine ((unhide CC) _).mono ?_
          rintro e w2 ⟨rfl, hb2⟩
          have hB2 := (drew_below wr).trans hb2
          have KS2 : (fun w' => w'.cell? ⟨g, j * 3, none⟩ = some (.int .i64 f) ∧ w'.cell? ⟨g, j * 3 + 1, none⟩ = some (.int .i64 l) ∧ w'.cell? ⟨g, j * 3 + 2, none⟩ = some (.int .i64 u) ∧ w'.cell? ⟨w.heap.size, 0, none⟩ = some (.int .i64 ka) ∧ w'.cell? ⟨w.heap.size, 1, none⟩ = some (.int .i64 kb) ∧ w'.cell? ⟨w.heap.size, 2, none⟩ = some (.int .i64 0)) w2 := ⟨(hB2.cell (p := ⟨g, j * 3, none⟩) (by show g < wr.heap.size; omega)).trans r0, (hB2.cell (p := ⟨g, j * 3 + 1, none⟩) (by show g < wr.heap.size; omega)).trans r1, (hB2.cell (p := ⟨g, j * 3 + 2, none⟩) (by show g < wr.heap.size; omega)).trans r2, (hB2.cell (p := ⟨w.heap.size, 0, none⟩) (by show w.heap.size < wr.heap.size; omega)).trans k0, (hB2.cell (p := ⟨w.heap.size, 1, none⟩) (by show w.heap.size < wr.heap.size; omega)).trans k1, (hB2.cell (p := ⟨w.heap.size, 2, none⟩) (by show w.heap.size < wr.heap.size; omega)).trans k2⟩
          have B2 := hide ((unhide HBB).trans (hB2.mono (by omega)))
          clear hb2 hB2
          try go_wp2_with fail
          refine hK.out _ _ KS2 (fun hHeld5 => ?_)
          clear hK K hHeld
          try simp only [Act.put, List.setIfInBounds_toArray, List.set_cons_zero, List.set_cons_succ]
          refine tkF (i := 12) (d := some 47) (v := ?_) rfl rfl (by kernel_rfl) (by kernel_rfl) (by kernel_rfl) (fun _ _ _ h => h) (Or.inl ⟨by rfl, ?_⟩) (by assumption) ?_
          rotate_left
          · intro w hSw; (try dsimp only at hSw); go_simp; try with_reducible rfl
          try simp only [Act.put, List.setIfInBounds_toArray, List.set_cons_zero, List.set_cons_succ]
          refine tkF (i := 13) (d := some 48) (v := ?_) rfl rfl (by kernel_rfl) (by kernel_rfl) (by kernel_rfl) (fun _ _ _ h => h) (Or.inl ⟨by rfl, ?_⟩) (by assumption) ?_
          rotate_left
          · intro w hSw; (try dsimp only at hSw); go_simp; try with_reducible rfl
          try simp only [Act.put, List.setIfInBounds_toArray, List.set_cons_zero, List.set_cons_succ]
          refine tkF (i := 14) (d := some 6) (v := ?_) rfl rfl (by kernel_rfl) (by kernel_rfl) (by kernel_rfl) (fun _ _ _ h => h) (Or.inl ⟨by rfl, ?_⟩) (by assumption) ?_
          rotate_left
          · intro w hSw; (try dsimp only at hSw); go_simp; try with_reducible rfl
          try simp only [Act.put, List.setIfInBounds_toArray, List.set_cons_zero, List.set_cons_succ]
          refine tkF (i := 15) (d := some 7) (v := ?_) rfl rfl (by kernel_rfl) (by kernel_rfl) (by kernel_rfl) (fun _ _ _ h => h) (Or.inl ⟨by rfl, ?_⟩) (by assumption) ?_
          rotate_left
          · intro w hSw; (try dsimp only at hSw); go_simp; try with_reducible rfl
          try simp only [Act.put, List.setIfInBounds_toArray, List.set_cons_zero, List.set_cons_succ]
          refine wpAnyH_done (by kernel_rfl) ?_ _
          go_wp2
          refine bodyPost_ret (v := .tuple #[.int .i64 (j : Int), .bool false]) (by kernel_rfl) rfl ?_
          exact ⟨by first | rfl | rw [unhide HD], unhide B2⟩
      · have hil' : ¬ (j : Int) < (L.length : Int) := by omega
        have HD : Hid (decide (j < L.length ∧ ((gx L j).1 = ka ∧ (gx L j).2.1 = kb)) = false) := hide (decide_eq_false (fun e => hil e.1))
        go_wp2_with fail
        try go_quiet (fail)
        try go_wp2
        refine bodyPost_ret (v := .tuple #[.int .i64 (j : Int), .bool false]) (by kernel_rfl) rfl ?_
        exact ⟨by first | rfl | rw [unhide HD], by first | exact unhide HBB | exact bdrew (unhide HBB) _⟩
end Sha
end Go.Proofs.YtfldomifooihlaaGreatDoor
/- A font's kerns and anchors, as the program asks for them; both as the specification asks. -/
namespace Go.Proofs.YtfldomifooihlaaGreatDoor
namespace Sha
open Go.RowKit Fnt
set_option linter.unusedVariables false
set_option linter.unusedSimpArgs false
set_option maxRecDepth 100000 in
set_option maxHeartbeats 4000000 in
theorem kern_any (wd : Int) (a1 a2 a3 a4 : Option Addr) (n1 n2 n4 c1 c2 c3 c4 : Nat) (L : List Sp) (ka kb : Int) (B : Nat) (w : World) (h : Krn.SpRow w B (.slice a3 L.length c3) L) (hl : L.length ≤ 1048576) (hok : Kup L) :
    Calls Tryz.prog 61 #[.agg #[.int .i64 wd, .slice a1 n1 c1, .slice a2 n2 c2, .slice a3 L.length c3, .slice a4 n4 c4], .int .i64 ka, .int .i64 kb] w fun e w' => e = .returned (.int .i64 (kerS L ka kb)) ∧ Below w.heap.size w w' := by
  obtain ⟨m, hm, h1, h2, h3⟩ := ker_at hok ka kb
  obtain ⟨W0, hW0⟩ : ∃ W0, W0 = w.alloc (.cells #[.int .i64 wd, .slice a1 n1 c1, .slice a2 n2 c2, .slice a3 L.length c3, .slice a4 n4 c4] 36) := ⟨_, rfl⟩
  have hx : W0.heap[w.heap.size]? = some (.cells #[.int .i64 wd, .slice a1 n1 c1, .slice a2 n2 c2, .slice a3 L.length c3, .slice a4 n4 c4] 36 (0, 0)) := by rw [hW0]; exact Frl.heap_new w _
  have hz0 : W0.heap.size = w.heap.size + 1 := by rw [hW0]; simp
  have HB0 : Hid (Below w.heap.size w W0) := hide (by rw [hW0]; exact (Below.refl _ _).alloc (Nat.le_refl _) _)
  have q3 : W0.cell? ⟨w.heap.size, 3, none⟩ = some (.slice a3 L.length c3) := by simp [World.cell?, hx]
  have HV := hide (h.below (unhide HB0))
  have CB := hide (bsK_any (.slice a3 L.length c3) L ka kb B W0 (unhide HV) hl m hm h1 h2)
  obtain ⟨a, c, he, hf⟩ := h.form
  cases he
  clear h h1 h2 hx
  by_cases hc : m < L.length ∧ ((gx L m).1 = ka ∧ (gx L m).2.1 = kb)
  · rw [decide_eq_true hc] at CB
    rw [h3, if_pos hc]
    obtain ⟨g, rfl, hBg, hgw⟩ := hf (by omega)
    have hml : (m : Int) < (L.length : Int) := by omega
    have hm0 : (0 : Int) ≤ (m : Int) := by omega
    have hmL := hc.1
    clear hc h3
    go_enter Tryz.func61, Tryz.ntmps61
    go_upto_region 1 with fail
    rw [← hW0]
    clear hW0
    go_wp2_with (go_at_call 92; refine (unhide CB).mono ?_; rintro e w2 ⟨rfl, hb2⟩; obtain ⟨r0, r1, r2⟩ := ((unhide HV).below hb2).read m hmL; have q3' := (hb2.cell (p := ⟨w.heap.size, 3, none⟩) (by show w.heap.size < _; omega)).trans q3; have B2 := hide ((unhide HB0).trans (hb2.mono (by omega))); clear hb2)
    go_ret
    exact ⟨rfl, unhide B2⟩
  · rw [decide_eq_false hc] at CB
    rw [h3, if_neg hc]
    clear hc h3
    go_enter Tryz.func61, Tryz.ntmps61
    go_upto_region 1 with fail
    rw [← hW0]
    clear hW0
    go_wp2_with (go_at_call 92; refine (unhide CB).mono ?_; rintro e w2 ⟨rfl, hb2⟩; have B2 := hide ((unhide HB0).trans (hb2.mono (by omega))); clear hb2)
    go_ret
    exact ⟨rfl, unhide B2⟩
set_option maxRecDepth 100000 in
set_option maxHeartbeats 4000000 in
theorem anch_nil (wd : Int) (a1 a2 a3 a4 : Option Addr) (n1 n2 n3 c1 c2 c3 c4 : Nat) (L : List Sp) (id : Int) (B : Nat) (w : World) (h : SpRow w B (.slice a4 L.length c4) L) (hl : L.length ≤ 1048576) (hok : okAt L 0 = true) :
    Calls Tryz.prog 60 #[.agg #[.int .i64 wd, .slice a1 n1 c1, .slice a2 n2 c2, .slice a3 n3 c3, .slice a4 L.length c4], .pointer none, .int .i64 id] w fun e w' => e = .returned (.int .i64 (valS L id 0)) ∧ Below w.heap.size w w' := by
  obtain ⟨W0, hW0⟩ : ∃ W0, W0 = w.alloc (.cells #[.int .i64 wd, .slice a1 n1 c1, .slice a2 n2 c2, .slice a3 n3 c3, .slice a4 L.length c4] 36) := ⟨_, rfl⟩
  have hx : W0.heap[w.heap.size]? = some (.cells #[.int .i64 wd, .slice a1 n1 c1, .slice a2 n2 c2, .slice a3 n3 c3, .slice a4 L.length c4] 36 (0, 0)) := by rw [hW0]; exact Frl.heap_new w _
  have hz0 : W0.heap.size = w.heap.size + 1 := by rw [hW0]; simp
  have HB0 : Hid (Below w.heap.size w W0) := hide (by rw [hW0]; exact (Below.refl _ _).alloc (Nat.le_refl _) _)
  have q4 : W0.cell? ⟨w.heap.size, 4, none⟩ = some (.slice a4 L.length c4) := by simp [World.cell?, hx]
  have CV := hide (value_any (.slice a4 L.length c4) L id 0 B W0 (h.below (unhide HB0)) hl hok)
  clear h hx
  generalize valS L id 0 = z at *
  go_enter Tryz.func60, Tryz.ntmps60
  go_upto_region 1 with fail
  rw [← hW0]
  clear hW0
  go_wp2_with (go_at_call 62; refine (unhide CV).mono ?_; rintro e w2 ⟨rfl, hb2⟩; have B2 := hide ((unhide HB0).trans (hb2.mono (by omega))); clear hb2)
  go_ret
  exact ⟨rfl, unhide B2⟩
set_option maxRecDepth 100000 in
set_option maxHeartbeats 4000000 in
theorem anch_some (wd : Int) (a1 a2 a3 a4 : Option Addr) (n1 n2 n3 c1 c2 c3 c4 : Nat) (L : List Sp) (id X : Int) (B g o : Nat) (w : World) (h : SpRow w B (.slice a4 L.length c4) L) (hl : L.length ≤ 1048576) (hok : okAt L 0 = true) (hg : g < w.heap.size) (hX : w.cell? ⟨g, o + 3, none⟩ = some (.int .i64 X)) :
    Calls Tryz.prog 60 #[.agg #[.int .i64 wd, .slice a1 n1 c1, .slice a2 n2 c2, .slice a3 n3 c3, .slice a4 L.length c4], .pointer (some ⟨g, o, none⟩), .int .i64 id] w fun e w' => e = .returned (.int .i64 (wrap64 (X + valS L id 0))) ∧ Below w.heap.size w w' := by
  obtain ⟨W0, hW0⟩ : ∃ W0, W0 = w.alloc (.cells #[.int .i64 wd, .slice a1 n1 c1, .slice a2 n2 c2, .slice a3 n3 c3, .slice a4 L.length c4] 36) := ⟨_, rfl⟩
  have hx : W0.heap[w.heap.size]? = some (.cells #[.int .i64 wd, .slice a1 n1 c1, .slice a2 n2 c2, .slice a3 n3 c3, .slice a4 L.length c4] 36 (0, 0)) := by rw [hW0]; exact Frl.heap_new w _
  have hz0 : W0.heap.size = w.heap.size + 1 := by rw [hW0]; simp
  have HB0 : Hid (Below w.heap.size w W0) := hide (by rw [hW0]; exact (Below.refl _ _).alloc (Nat.le_refl _) _)
  have q4 : W0.cell? ⟨w.heap.size, 4, none⟩ = some (.slice a4 L.length c4) := by simp [World.cell?, hx]
  have CV := hide (value_any (.slice a4 L.length c4) L id 0 B W0 (h.below (unhide HB0)) hl hok)
  clear h hx
  generalize valS L id 0 = z at *
  go_enter Tryz.func60, Tryz.ntmps60
  go_upto_region 1 with fail
  rw [← hW0]
  clear hW0
  go_wp2_with (go_at_call 62; refine (unhide CV).mono ?_; rintro e w2 ⟨rfl, hb2⟩; have hB2 := (unhide HB0).trans (hb2.mono (by omega)); have hX2 := (hB2.cell (p := ⟨g, o + 3, none⟩) hg).trans hX; have B2 := hide hB2; clear hb2 hB2)
  go_ret
  exact ⟨rfl, unhide B2⟩
end Sha
end Go.Proofs.YtfldomifooihlaaGreatDoor
/- What spans and kerns tell of a number, as the specification looks for it: from the left. -/
namespace Go.Proofs.YtfldomifooihlaaGreatDoor
namespace Sha
open Go.RowKit Fnt
set_option linter.unusedVariables false
set_option linter.unusedSimpArgs false
set_option maxRecDepth 100000 in
set_option maxHeartbeats 4000000 in
theorem l10Value_any (v : Value) (L : List Sp) (n o : Int) (B : Nat) (w : World) (h : SpRow w B v L) (hl : L.length ≤ 1048576) :
    Calls Tryz.prog 20 #[v, .int .i64 n, .int .i64 o] w fun e w' => e = .returned (.int .i64 (valS L n o)) ∧ w' = w := by
  obtain ⟨a, c, rfl, hf⟩ := h.form
  have HV := hide h
  have HF := hide hf
  clear h hf
  go_enter Tryz.func20, Tryz.ntmps20
  go_wp2
  go_loopw [7] (fun x wr => ∃ k : Nat, x = .int .i64 (k : Int) ∧ k ≤ L.length ∧ Hid (valS L n o = valS (L.drop k) n o) ∧ wr = w) (fun x _ => L.length - (intOf x).toNat)
  case atStart => exact ⟨0, rfl, by omega, hide rfl, rfl⟩
  case round =>
    obtain ⟨k, rfl, hk, HS, rfl⟩ := hrel
    by_cases hlt : k < L.length
    · obtain ⟨g, rfl, hBg, hgw⟩ := (unhide HF) (by omega)
      obtain ⟨r0, r1, r2⟩ := (unhide HV).read k hlt
      have HD := hide (valS_drop L n o k hlt)
      obtain ⟨⟨f, l, u⟩, hs⟩ : ∃ s, gx L k = s := ⟨_, rfl⟩
      rw [hs] at r0 r1 r2 HD
      simp only at r0 r1 r2 HD
      clear hs
      by_cases h1 : f ≤ n
      · by_cases h2 : n ≤ l
        · have HE : Hid (valS L n o = u) := hide (by rw [unhide HS, unhide HD, if_pos ⟨h1, h2⟩])
          go_wp2
          go_ret
          exact ⟨by rw [unhide HE]; rfl, rfl⟩
        · have HE : Hid (valS L n o = valS (L.drop (k + 1)) n o) := hide (by rw [unhide HS, unhide HD, if_neg (fun e => h2 e.2)])
          go_wp2
          go_roundw
          case rel => exact ⟨k + 1, by go_num, by omega, HE, by first | trivial | rfl⟩
          case measure => simp [intOf]; omega
      · have HE : Hid (valS L n o = valS (L.drop (k + 1)) n o) := hide (by rw [unhide HS, unhide HD, if_neg (fun e => h1 e.1)])
        go_wp2
        go_roundw
        case rel => exact ⟨k + 1, by go_num, by omega, HE, by first | trivial | rfl⟩
        case measure => simp [intOf]; omega
    · have HE : Hid (valS L n o = o) := hide (by rw [unhide HS, valS_end L n o k (by omega)])
      have hge : ¬ (k : Int) < (L.length : Int) := by omega
      go_wp2
      go_ret
      exact ⟨by rw [unhide HE]; rfl, rfl⟩
set_option maxRecDepth 100000 in
set_option maxHeartbeats 4000000 in
theorem l10Kern_any (v : Value) (L : List Sp) (ka kb : Int) (B : Nat) (w : World) (h : Krn.SpRow w B v L) (hl : L.length ≤ 1048576) :
    Calls Tryz.prog 21 #[v, .int .i64 ka, .int .i64 kb] w fun e w' => e = .returned (.int .i64 (kerS L ka kb)) ∧ w' = w := by
  obtain ⟨a, c, rfl, hf⟩ := h.form
  have HV := hide h
  have HF := hide hf
  clear h hf
  go_enter Tryz.func21, Tryz.ntmps21
  go_wp2
  go_loopw [7] (fun x wr => ∃ k : Nat, x = .int .i64 (k : Int) ∧ k ≤ L.length ∧ Hid (kerS L ka kb = kerS (L.drop k) ka kb) ∧ wr = w) (fun x _ => L.length - (intOf x).toNat)
  case atStart => exact ⟨0, rfl, by omega, hide rfl, rfl⟩
  case round =>
    obtain ⟨k, rfl, hk, HS, rfl⟩ := hrel
    by_cases hlt : k < L.length
    · obtain ⟨g, rfl, hBg, hgw⟩ := (unhide HF) (by omega)
      obtain ⟨r0, r1, r2⟩ := (unhide HV).read k hlt
      have HD := hide (kerS_drop L ka kb k hlt)
      obtain ⟨⟨f, l, u⟩, hs⟩ : ∃ s, gx L k = s := ⟨_, rfl⟩
      rw [hs] at r0 r1 r2 HD
      simp only at r0 r1 r2 HD
      clear hs
      by_cases h1 : f = ka
      · have t1 : (f == ka) = true := by simpa using h1
        by_cases h2 : l = kb
        · have t2 : (l == kb) = true := by simpa using h2
          have HE : Hid (kerS L ka kb = u) := hide (by rw [unhide HS, unhide HD, if_pos ⟨h1, h2⟩])
          clear h1 h2
          go_wp2
          go_ret
          exact ⟨by rw [unhide HE]; rfl, rfl⟩
        · have t2 : (l == kb) = false := by simpa using h2
          have HE : Hid (kerS L ka kb = kerS (L.drop (k + 1)) ka kb) := hide (by rw [unhide HS, unhide HD, if_neg (fun e => h2 e.2)])
          clear h1 h2
          go_wp2
          go_roundw
          case rel => exact ⟨k + 1, by go_num, by omega, HE, by first | trivial | rfl⟩
          case measure => simp [intOf]; omega
      · have t1 : (f == ka) = false := by simpa using h1
        have HE : Hid (kerS L ka kb = kerS (L.drop (k + 1)) ka kb) := hide (by rw [unhide HS, unhide HD, if_neg (fun e => h1 e.1)])
        clear h1
        go_wp2
        go_roundw
        case rel => exact ⟨k + 1, by go_num, by omega, HE, by first | trivial | rfl⟩
        case measure => simp [intOf]; omega
    · have HE : Hid (kerS L ka kb = 0) := hide (by rw [unhide HS, kerS_end L ka kb k (by omega)])
      have hge : ¬ (k : Int) < (L.length : Int) := by omega
      go_wp2
      go_ret
      exact ⟨by rw [unhide HE]; rfl, rfl⟩
end Sha
end Go.Proofs.YtfldomifooihlaaGreatDoor
