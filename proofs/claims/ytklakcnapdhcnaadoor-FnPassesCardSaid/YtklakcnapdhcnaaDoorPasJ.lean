/- A rule that is wrong, rules, and PassesFault, as the program tells them. -/
import Derived.Test.YtklakcnapdhcnaaDoorPasI
namespace Go.Proofs.YtklakcnapdhcnaaDoor.Pas
open Go.RowKit
set_option linter.unusedVariables false
theorem okR_1 {a b c d : ByteArray} {g : Int} (h : okT a = false) : okR (a, b, c, d, g) = false := by unfold okR; simp [h]
theorem okR_2 {a b c d : ByteArray} {g : Int} (h : okT b = false) : okR (a, b, c, d, g) = false := by unfold okR; simp [h]
theorem okR_3 {a b c d : ByteArray} {g : Int} (h : okT c = false) : okR (a, b, c, d, g) = false := by unfold okR; simp [h]
theorem okR_4 {a b c d : ByteArray} {g : Int} (h : okT d = false) : okR (a, b, c, d, g) = false := by unfold okR; simp [h]
theorem okR_5 {a b c d : ByteArray} {g : Int} (h : b.size = 0) : okR (a, b, c, d, g) = false := by unfold okR; simp [h]
theorem okR_6 {a b c d : ByteArray} {g : Int} (h1 : okT a = true) (h2 : okT b = true) (h3 : okT c = true) (h4 : okT d = true) (h5 : ¬ b.size = 0) : okR (a, b, c, d, g) = decide (0 ≤ g ∧ g ≤ ((pts d).length : Int)) := by
  have e : okG (a, b, c, d, g) = decide (0 ≤ g ∧ g ≤ ((pts d).length : Int)) := rfl
  unfold okR
  simp only [h1, h2, h3, h4, e, decide_eq_true h5, Bool.true_and]
/-- The first k of four texts are right. -/
def four (a b c d : ByteArray) (k : Nat) : Prop := (1 ≤ k → okT a = true) ∧ (2 ≤ k → okT b = true) ∧ (3 ≤ k → okT c = true) ∧ (4 ≤ k → okT d = true)
theorem empty_iff {b : ByteArray} (h : b.size = 0) : b = ⟨#[]⟩ := by
  obtain ⟨d⟩ := b
  have : d.size = 0 := h
  rw [Array.eq_empty_of_size_eq_zero this]
set_option maxRecDepth 100000 in
set_option maxHeartbeats 8000000 in
theorem wrong_any (r : Ru) (w : World) (hm : Fit1 r) (hT : Tabs w) : Calls Tryd.prog 27 #[rv r] w fun e w' => e = .returned (.bool (!okR r)) ∧ Below w.heap.size w w' := by
  obtain ⟨a, b, c, d, g⟩ := r
  obtain ⟨f1, f2, f3, f4⟩ := hm
  unfold rv
  simp only at f1 f2 f3 f4 ⊢
  have B0 := hide ((Below.refl w.heap.size w).alloc (Nat.le_refl _) (.cells #[.string a, .string b, .string c, .string d, .int .i64 g] 40))
  have Z0 := hide (heap_new w (.cells #[.string a, .string b, .string c, .string d, .int .i64 g] 40))
  have CA := hide (fun W (h : Below w.heap.size w W) => isRT_any a W f1 (Utf8Tabs_below hT h))
  have CB := hide (fun W (h : Below w.heap.size w W) => isRT_any b W f2 (Utf8Tabs_below hT h))
  have CC := hide (fun W (h : Below w.heap.size w W) => isRT_any c W f3 (Utf8Tabs_below hT h))
  have CD := hide (fun W (h : Below w.heap.size w W) => isRT_any d W f4 (Utf8Tabs_below hT h))
  clear hT
  go_enter Tryd.func27, Tryd.ntmps27
  go_upto_region 2 with fail
  go_loopw [14] (fun iv wr => ∃ k : Int, (k = 0 ∨ k = 1 ∨ k = 2 ∨ k = 3 ∨ k = 4) ∧ iv = .int .i64 k ∧ Hid (four a b c d k.toNat) ∧ Hid (wr.heap[w.heap.size]? = some (.cells #[.string a, .string b, .string c, .string d, .int .i64 g] 40 (0, 0))) ∧ Hid (Below w.heap.size w wr)) (fun iv _ => 4 - (intOf iv).toNat)
  case atStart => exact ⟨0, .inl rfl, rfl, hide (show four a b c d 0 from ⟨fun h => by omega, fun h => by omega, fun h => by omega, fun h => by omega⟩), Z0, B0⟩
  case round =>
    obtain ⟨k, hk5, rfl, HF, HZ, HB⟩ := hrel
    clear Z0 B0
    have hwl : w.heap.size < wr.heap.size := (Array.getElem?_eq_some_iff.1 (unhide HZ)).1
    obtain ⟨z0, z1, z2, z3, z4⟩ := five_cells (unhide HZ)
    rcases hk5 with rfl | rfl | rfl | rfl | rfl
    · have ix : ∀ w, (Instr.index 81 (.agg #[Value.string a, Value.string b, Value.string c, Value.string d]) (.int .i64 0)).run Tryd.prog w = .ok (.string a) w := fun _ => by kernel_rfl
      have HX := hide (fun h => okR_1 (a := a) (b := b) (c := c) (d := d) (g := g) h)
      have HY := hide (fun (h : okT a = true) => (show four a b c d (0 + 1) from ⟨fun _ => h, fun h => by omega, fun h => by omega, fun h => by omega⟩))
      cases hq : okT a with
      | false =>
        have HR := hide ((unhide HX) hq)
        rw [hq] at CA
        clear hq HX HY
        go_wp2_with (go_at_call 42; refine ((unhide CA) _ (unhide HB)).mono ?_; rintro e w2 ⟨rfl, hb2⟩; have B2 := hide ((unhide HB).trans (hb2.mono (unhide HB).size)); clear hb2)
        go_ret
        exact ⟨by rw [unhide HR]; rfl, unhide B2⟩
      | true =>
        have HF2 := hide ((unhide HY) hq)
        rw [hq] at CA
        clear hq HX HY
        go_wp2_with (go_at_call 42; refine ((unhide CA) _ (unhide HB)).mono ?_; rintro e w2 ⟨rfl, hb2⟩; have B2 := hide ((unhide HB).trans (hb2.mono (unhide HB).size)); have Z2 := hide ((hb2.block w.heap.size hwl).trans (unhide HZ)); clear hb2)
        go_roundw
        case rel => exact ⟨1, by omega, rfl, HF2, Z2, B2⟩
        case measure => simp [intOf]
    · have ix : ∀ w, (Instr.index 81 (.agg #[Value.string a, Value.string b, Value.string c, Value.string d]) (.int .i64 1)).run Tryd.prog w = .ok (.string b) w := fun _ => by kernel_rfl
      have HX := hide (fun h => okR_2 (a := a) (b := b) (c := c) (d := d) (g := g) h)
      have HY := hide (fun (h : okT b = true) => (show four a b c d (1 + 1) from ⟨fun _ => (unhide HF).1 (by decide), fun _ => h, fun h => by omega, fun h => by omega⟩))
      cases hq : okT b with
      | false =>
        have HR := hide ((unhide HX) hq)
        rw [hq] at CB
        clear hq HX HY
        go_wp2_with (go_at_call 42; refine ((unhide CB) _ (unhide HB)).mono ?_; rintro e w2 ⟨rfl, hb2⟩; have B2 := hide ((unhide HB).trans (hb2.mono (unhide HB).size)); clear hb2)
        go_ret
        exact ⟨by rw [unhide HR]; rfl, unhide B2⟩
      | true =>
        have HF2 := hide ((unhide HY) hq)
        rw [hq] at CB
        clear hq HX HY
        go_wp2_with (go_at_call 42; refine ((unhide CB) _ (unhide HB)).mono ?_; rintro e w2 ⟨rfl, hb2⟩; have B2 := hide ((unhide HB).trans (hb2.mono (unhide HB).size)); have Z2 := hide ((hb2.block w.heap.size hwl).trans (unhide HZ)); clear hb2)
        go_roundw
        case rel => exact ⟨2, by omega, rfl, HF2, Z2, B2⟩
        case measure => simp [intOf]
    · have ix : ∀ w, (Instr.index 81 (.agg #[Value.string a, Value.string b, Value.string c, Value.string d]) (.int .i64 2)).run Tryd.prog w = .ok (.string c) w := fun _ => by kernel_rfl
      have HX := hide (fun h => okR_3 (a := a) (b := b) (c := c) (d := d) (g := g) h)
      have HY := hide (fun (h : okT c = true) => (show four a b c d (2 + 1) from ⟨fun _ => (unhide HF).1 (by decide), fun _ => (unhide HF).2.1 (by decide), fun _ => h, fun h => by omega⟩))
      cases hq : okT c with
      | false =>
        have HR := hide ((unhide HX) hq)
        rw [hq] at CC
        clear hq HX HY
        go_wp2_with (go_at_call 42; refine ((unhide CC) _ (unhide HB)).mono ?_; rintro e w2 ⟨rfl, hb2⟩; have B2 := hide ((unhide HB).trans (hb2.mono (unhide HB).size)); clear hb2)
        go_ret
        exact ⟨by rw [unhide HR]; rfl, unhide B2⟩
      | true =>
        have HF2 := hide ((unhide HY) hq)
        rw [hq] at CC
        clear hq HX HY
        go_wp2_with (go_at_call 42; refine ((unhide CC) _ (unhide HB)).mono ?_; rintro e w2 ⟨rfl, hb2⟩; have B2 := hide ((unhide HB).trans (hb2.mono (unhide HB).size)); have Z2 := hide ((hb2.block w.heap.size hwl).trans (unhide HZ)); clear hb2)
        go_roundw
        case rel => exact ⟨3, by omega, rfl, HF2, Z2, B2⟩
        case measure => simp [intOf]
    · have ix : ∀ w, (Instr.index 81 (.agg #[Value.string a, Value.string b, Value.string c, Value.string d]) (.int .i64 3)).run Tryd.prog w = .ok (.string d) w := fun _ => by kernel_rfl
      have HX := hide (fun h => okR_4 (a := a) (b := b) (c := c) (d := d) (g := g) h)
      have HY := hide (fun (h : okT d = true) => (show four a b c d (3 + 1) from ⟨fun _ => (unhide HF).1 (by decide), fun _ => (unhide HF).2.1 (by decide), fun _ => (unhide HF).2.2.1 (by decide), fun _ => h⟩))
      cases hq : okT d with
      | false =>
        have HR := hide ((unhide HX) hq)
        rw [hq] at CD
        clear hq HX HY
        go_wp2_with (go_at_call 42; refine ((unhide CD) _ (unhide HB)).mono ?_; rintro e w2 ⟨rfl, hb2⟩; have B2 := hide ((unhide HB).trans (hb2.mono (unhide HB).size)); clear hb2)
        go_ret
        exact ⟨by rw [unhide HR]; rfl, unhide B2⟩
      | true =>
        have HF2 := hide ((unhide HY) hq)
        rw [hq] at CD
        clear hq HX HY
        go_wp2_with (go_at_call 42; refine ((unhide CD) _ (unhide HB)).mono ?_; rintro e w2 ⟨rfl, hb2⟩; have B2 := hide ((unhide HB).trans (hb2.mono (unhide HB).size)); have Z2 := hide ((hb2.block w.heap.size hwl).trans (unhide HZ)); clear hb2)
        go_roundw
        case rel => exact ⟨4, by omega, rfl, HF2, Z2, B2⟩
        case measure => simp [intOf]
    · obtain ⟨q1, q2, q3, q4⟩ := unhide HF
      have q1 := q1 (by decide)
      have q2 := q2 (by decide)
      have q3 := q3 (by decide)
      have q4 := q4 (by decide)
      have KS : (fun w' => w'.cell? ⟨w.heap.size, 0, none⟩ = some (.string a) ∧ w'.cell? ⟨w.heap.size, 1, none⟩ = some (.string b) ∧ w'.cell? ⟨w.heap.size, 2, none⟩ = some (.string c) ∧ w'.cell? ⟨w.heap.size, 3, none⟩ = some (.string d) ∧ w'.cell? ⟨w.heap.size, 4, none⟩ = some (.int .i64 g)) wr := ⟨z0, z1, z2, z3, z4⟩
      have hd80 : d.size ≤ 80 := by
        by_cases h : 80 < d.size
        · rw [okT_big h] at q4; cases q4
        · omega
      by_cases he : b.size = 0
      · have HR := hide (okR_5 (a := a) (c := c) (d := d) (g := g) he)
        have hb : (b.toList == ([] : List UInt8)) = true := by rw [empty_iff he, Go.ByteArray.toList_eq]; rfl
        clear q1 q2 q3 q4 he CA CB CC CD HF
        go_wp2_with fail
        refine wp_region_held_drew (S := fun w' => w'.cell? ⟨w.heap.size, 0, none⟩ = some (.string a) ∧ w'.cell? ⟨w.heap.size, 1, none⟩ = some (.string b) ∧ w'.cell? ⟨w.heap.size, 2, none⟩ = some (.string c) ∧ w'.cell? ⟨w.heap.size, 3, none⟩ = some (.string d) ∧ w'.cell? ⟨w.heap.size, 4, none⟩ = some (.int .i64 g)) (by kernel_rfl) (by first | go_keep | exact KS) (fun hHeld => ?_)
        refine tkP (i := 0) (d := some 21) (v := ?_) rfl rfl (by kernel_rfl) (by kernel_rfl) (by kernel_rfl) (fun _ _ _ h => h) (Or.inl ⟨by rfl, ?_⟩) (by assumption) ?_
        rotate_left
        · intro w hSw; (try dsimp only at hSw); go_simp; try with_reducible rfl
        try simp only [Act.put, List.setIfInBounds_toArray, List.set_cons_zero, List.set_cons_succ]
        refine tkP (i := 1) (d := some 22) (v := ?_) rfl rfl (by kernel_rfl) (by kernel_rfl) (by kernel_rfl) (fun _ _ _ h => h) (Or.inl ⟨by rfl, ?_⟩) (by assumption) ?_
        rotate_left
        · intro w hSw; (try dsimp only at hSw); go_simp; try with_reducible rfl
        try simp only [Act.put, List.setIfInBounds_toArray, List.set_cons_zero, List.set_cons_succ]
        refine tkP (i := 2) (d := some 23) (v := ?_) rfl rfl (by kernel_rfl) (by kernel_rfl) (by kernel_rfl) (fun _ _ _ h => h) (Or.inl ⟨by rfl, ?_⟩) (by assumption) ?_
        rotate_left
        · intro w hSw; (try dsimp only at hSw); go_simp; try with_reducible rfl
        try simp only [Act.put, List.setIfInBounds_toArray, List.set_cons_zero, List.set_cons_succ]
        refine tkP (i := 3) (d := some 24) (v := ?_) rfl rfl (by kernel_rfl) (by kernel_rfl) (by kernel_rfl) (fun _ _ _ h => h) (Or.inl ⟨by rfl, ?_⟩) (by assumption) ?_
        rotate_left
        · intro w hSw; (try dsimp only at hSw); go_simp; try with_reducible rfl
        try simp only [Act.put, List.setIfInBounds_toArray, List.set_cons_zero, List.set_cons_succ]
        refine tkP (i := 4) (d := some 25) (v := undef) rfl rfl (by kernel_rfl) (by kernel_rfl) (by kernel_rfl) (fun _ _ _ h => h) (Or.inr ⟨by rfl, rfl⟩) (by assumption) ?_
        try simp only [Act.put, List.setIfInBounds_toArray, List.set_cons_zero, List.set_cons_succ]
        refine tkP (i := 5) (d := some 26) (v := undef) rfl rfl (by kernel_rfl) (by kernel_rfl) (by kernel_rfl) (fun _ _ _ h => h) (Or.inr ⟨by rfl, rfl⟩) (by assumption) ?_
        try simp only [Act.put, List.setIfInBounds_toArray, List.set_cons_zero, List.set_cons_succ]
        refine tkP (i := 6) (d := some 27) (v := undef) rfl rfl (by kernel_rfl) (by kernel_rfl) (by kernel_rfl) (fun _ _ _ h => h) (Or.inr ⟨by rfl, rfl⟩) (by assumption) ?_
        try simp only [Act.put, List.setIfInBounds_toArray, List.set_cons_zero, List.set_cons_succ]
        refine tkP (i := 7) (d := some 28) (v := undef) rfl rfl (by kernel_rfl) (by kernel_rfl) (by kernel_rfl) (fun _ _ _ h => h) (Or.inr ⟨by rfl, rfl⟩) (by assumption) ?_
        try simp only [Act.put, List.setIfInBounds_toArray, List.set_cons_zero, List.set_cons_succ]
        refine tkP (i := 8) (d := some 29) (v := undef) rfl rfl (by kernel_rfl) (by kernel_rfl) (by kernel_rfl) (fun _ _ _ h => h) (Or.inr ⟨by rfl, rfl⟩) (by assumption) ?_
        try simp only [Act.put, List.setIfInBounds_toArray, List.set_cons_zero, List.set_cons_succ]
        refine tkP (i := 9) (d := some 30) (v := undef) rfl rfl (by kernel_rfl) (by kernel_rfl) (by kernel_rfl) (fun _ _ _ h => h) (Or.inr ⟨by rfl, rfl⟩) (by assumption) ?_
        try simp only [Act.put, List.setIfInBounds_toArray, List.set_cons_zero, List.set_cons_succ]
        refine tkP (i := 10) (d := some 31) (v := undef) rfl rfl (by kernel_rfl) (by kernel_rfl) (by kernel_rfl) (fun _ _ _ h => h) (Or.inr ⟨by rfl, rfl⟩) (by assumption) ?_
        try simp only [Act.put, List.setIfInBounds_toArray, List.set_cons_zero, List.set_cons_succ]
        refine tkP (i := 11) (d := some 32) (v := ?_) rfl rfl (by kernel_rfl) (by kernel_rfl) (by kernel_rfl) (fun _ _ _ h => h) (Or.inl ⟨by rfl, ?_⟩) (by assumption) ?_
        rotate_left
        · intro w hSw; (try dsimp only at hSw); go_simp; try with_reducible rfl
        try simp only [Act.put, List.setIfInBounds_toArray, List.set_cons_zero, List.set_cons_succ]
        refine tkP (i := 12) (d := some 2) (v := ?_) rfl rfl (by kernel_rfl) (by kernel_rfl) (by kernel_rfl) (fun _ _ _ h => h) (Or.inl ⟨by rfl, ?_⟩) (by assumption) ?_
        rotate_left
        · intro w hSw; (try dsimp only at hSw); go_simp; try with_reducible rfl
        try simp only [Act.put, List.setIfInBounds_toArray, List.set_cons_zero, List.set_cons_succ]
        refine wpAnyH_done (by kernel_rfl) ?_ _
        go_wp2
        go_ret
        exact ⟨by rw [unhide HR]; rfl, bdrew (unhide HB) 1⟩
      · have HR := hide (okR_6 (g := g) q1 q2 q3 q4 he)
        obtain ⟨z, hz⟩ : ∃ z, decide (0 ≤ g ∧ g ≤ ((pts d).length : Int)) = z := ⟨_, rfl⟩
        rw [hz] at HR
        have CR := hide (fun W => count_any d W (by omega))
        have CI := hide (fun W => in_any g 0 ((pts d).length : Int) W z hz)
        have hb : (b.toList == ([] : List UInt8)) = false := by
          rw [beq_eq_false_iff_ne]
          intro e
          apply he
          rw [Go.ByteArray.toList_eq] at e
          have := congrArg List.length e
          show b.data.size = 0
          simpa using this
        clear q1 q2 q3 q4 CA CB CC CD HF he hz
        generalize (pts d).length = n at *
        go_wp2_with fail
        refine wp_region_held_drew (S := fun w' => w'.cell? ⟨w.heap.size, 0, none⟩ = some (.string a) ∧ w'.cell? ⟨w.heap.size, 1, none⟩ = some (.string b) ∧ w'.cell? ⟨w.heap.size, 2, none⟩ = some (.string c) ∧ w'.cell? ⟨w.heap.size, 3, none⟩ = some (.string d) ∧ w'.cell? ⟨w.heap.size, 4, none⟩ = some (.int .i64 g)) (by kernel_rfl) (by first | go_keep | exact KS) (fun hHeld => ?_)
        refine tkP (i := 0) (d := some 21) (v := ?_) rfl rfl (by kernel_rfl) (by kernel_rfl) (by kernel_rfl) (fun _ _ _ h => h) (Or.inl ⟨by rfl, ?_⟩) (by assumption) ?_
        rotate_left
        · intro w hSw; (try dsimp only at hSw); go_simp; try with_reducible rfl
        try simp only [Act.put, List.setIfInBounds_toArray, List.set_cons_zero, List.set_cons_succ]
        refine tkP (i := 1) (d := some 22) (v := ?_) rfl rfl (by kernel_rfl) (by kernel_rfl) (by kernel_rfl) (fun _ _ _ h => h) (Or.inl ⟨by rfl, ?_⟩) (by assumption) ?_
        rotate_left
        · intro w hSw; (try dsimp only at hSw); go_simp; try with_reducible rfl
        try simp only [Act.put, List.setIfInBounds_toArray, List.set_cons_zero, List.set_cons_succ]
        refine tkP (i := 2) (d := some 23) (v := ?_) rfl rfl (by kernel_rfl) (by kernel_rfl) (by kernel_rfl) (fun _ _ _ h => h) (Or.inl ⟨by rfl, ?_⟩) (by assumption) ?_
        rotate_left
        · intro w hSw; (try dsimp only at hSw); go_simp; try with_reducible rfl
        try simp only [Act.put, List.setIfInBounds_toArray, List.set_cons_zero, List.set_cons_succ]
        refine tkP (i := 3) (d := some 24) (v := ?_) rfl rfl (by kernel_rfl) (by kernel_rfl) (by kernel_rfl) (fun _ _ _ h => h) (Or.inl ⟨by rfl, ?_⟩) (by assumption) ?_
        rotate_left
        · intro w hSw; (try dsimp only at hSw); go_simp; try with_reducible rfl
        try simp only [Act.put, List.setIfInBounds_toArray, List.set_cons_zero, List.set_cons_succ]
        refine tkP (i := 4) (d := some 25) (v := ?_) rfl rfl (by kernel_rfl) (by kernel_rfl) (by kernel_rfl) (fun _ _ _ h => h) (Or.inl ⟨by rfl, ?_⟩) (by assumption) ?_
        rotate_left
        · intro w hSw; (try dsimp only at hSw); go_simp; try with_reducible rfl
        try simp only [Act.put, List.setIfInBounds_toArray, List.set_cons_zero, List.set_cons_succ]
        refine tkP (i := 5) (d := some 26) (v := ?_) rfl rfl (by kernel_rfl) (by kernel_rfl) (by kernel_rfl) (fun _ _ _ h => h) (Or.inl ⟨by rfl, ?_⟩) (by assumption) ?_
        rotate_left
        · intro w hSw; (try dsimp only at hSw); go_simp; try with_reducible rfl
        try simp only [Act.put, List.setIfInBounds_toArray, List.set_cons_zero, List.set_cons_succ]
        refine tkP (i := 6) (d := some 27) (v := ?_) rfl rfl (by kernel_rfl) (by kernel_rfl) (by kernel_rfl) (fun _ _ _ h => h) (Or.inl ⟨by rfl, ?_⟩) (by assumption) ?_
        rotate_left
        · intro w hSw; (try dsimp only at hSw); go_simp; try with_reducible rfl
        try simp only [Act.put, List.setIfInBounds_toArray, List.set_cons_zero, List.set_cons_succ]
        refine tkP (i := 7) (d := some 28) (v := ?_) rfl rfl (by kernel_rfl) (by kernel_rfl) (by kernel_rfl) (fun _ _ _ h => h) (Or.inl ⟨by rfl, ?_⟩) (by assumption) ?_
        rotate_left
        · intro w hSw; (try dsimp only at hSw); go_simp; try with_reducible rfl
        try simp only [Act.put, List.setIfInBounds_toArray, List.set_cons_zero, List.set_cons_succ]
        refine wpAnyH_ready (rs := [8]) (by kernel_rfl) (by simp) (AllReadyH.cons rfl (fun K hK => ?_) AllReadyH.nil)
        go_simp
        go_at_call 43
        refine ((unhide CR) _).mono ?_
        rintro e w5 ⟨rfl, hb5⟩
        have B5 := hide ((unhide HB).trans (((drewB wr).trans hb5).mono (unhide HB).size))
        have k5 := (((drewB wr).trans hb5).block w.heap.size hwl).trans (unhide HZ)
        have KS5 : (fun w' => w'.cell? ⟨w.heap.size, 0, none⟩ = some (.string a) ∧ w'.cell? ⟨w.heap.size, 1, none⟩ = some (.string b) ∧ w'.cell? ⟨w.heap.size, 2, none⟩ = some (.string c) ∧ w'.cell? ⟨w.heap.size, 3, none⟩ = some (.string d) ∧ w'.cell? ⟨w.heap.size, 4, none⟩ = some (.int .i64 g)) w5 := five_cells k5
        clear hb5 k5
        try go_wp2_with fail
        refine hK.out _ _ KS5 (fun hHeld5 => ?_)
        clear hK K
        try simp only [Act.put, List.setIfInBounds_toArray, List.set_cons_zero, List.set_cons_succ]
        refine wpAnyH_ready (rs := [9]) (by kernel_rfl) (by simp) (AllReadyH.cons rfl (fun K hK => ?_) AllReadyH.nil)
        go_simp
        go_at_call 25
        refine ((unhide CI) _).mono ?_
        rintro e w6 ⟨rfl, e6⟩
        have f6 := e6.symm
        subst f6
        clear e6
        try go_wp2_with fail
        refine hK.out _ _ KS5 (fun hHeld6 => ?_)
        clear hK K
        try simp only [Act.put, List.setIfInBounds_toArray, List.set_cons_zero, List.set_cons_succ]
        refine tkP (i := 10) (d := some 31) (v := ?_) rfl rfl (by kernel_rfl) (by kernel_rfl) (by kernel_rfl) (fun _ _ _ h => h) (Or.inl ⟨by rfl, ?_⟩) (by assumption) ?_
        rotate_left
        · intro w hSw; (try dsimp only at hSw); go_simp; try with_reducible rfl
        try simp only [Act.put, List.setIfInBounds_toArray, List.set_cons_zero, List.set_cons_succ]
        refine tkP (i := 11) (d := some 32) (v := ?_) rfl rfl (by kernel_rfl) (by kernel_rfl) (by kernel_rfl) (fun _ _ _ h => h) (Or.inl ⟨by rfl, ?_⟩) (by assumption) ?_
        rotate_left
        · intro w hSw; (try dsimp only at hSw); go_simp; try with_reducible rfl
        try simp only [Act.put, List.setIfInBounds_toArray, List.set_cons_zero, List.set_cons_succ]
        refine tkP (i := 12) (d := some 2) (v := ?_) rfl rfl (by kernel_rfl) (by kernel_rfl) (by kernel_rfl) (fun _ _ _ h => h) (Or.inl ⟨by rfl, ?_⟩) (by assumption) ?_
        rotate_left
        · intro w hSw; (try dsimp only at hSw); go_simp; try with_reducible rfl
        try simp only [Act.put, List.setIfInBounds_toArray, List.set_cons_zero, List.set_cons_succ]
        refine wpAnyH_done (by kernel_rfl) ?_ _
        go_wp2
        go_ret
        exact ⟨by rw [unhide HR]; cases z <;> rfl, unhide B5⟩
end Go.Proofs.YtklakcnapdhcnaaDoor.Pas
