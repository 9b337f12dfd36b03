/- The rules of characters asked in their order, as the program does. -/
import Derived.Test.YtbaedapnikhdgaaGreatDoorChrR
import Derived.Deep.WholeRow
import Derived.Laws.EntriesVeiled
namespace Go.Proofs.YtbaedapnikhdgaaGreatDoor
namespace Chr
open Go.RowKit
def ruleC : Array Value := #[.func (.func 66) #[] #[], .bool false, .func (.func 67) #[] #[], .bool true, .func (.func 68) #[] #[], .bool false, .func (.func 69) #[] #[], .bool false, .func (.func 70) #[] #[], .bool false, .func (.func 71) #[] #[], .bool false, .func (.func 72) #[] #[], .bool false]
set_option maxRecDepth 100000 in
theorem rules_any (w : World) : Calls Tryz.prog 44 #[] w fun e w' => e = .returned (.slice (some ⟨w.heap.size, 0, none⟩) 7 7) ∧ w' = w.alloc (.cells ruleC 99) := by
  go_enter Tryz.func44, Tryz.ntmps44
  go_wp2
  go_ret
  exact ⟨rfl, rfl⟩
/-- The rules lie in a block. -/
def RulAt (w : World) (g : Nat) : Prop := g < w.heap.size ∧ ∀ j : Nat, j < 14 → w.cell? ⟨g, j, none⟩ = ruleC[j]?
theorem RulAt.below {w w' : World} {g : Nat} (h : RulAt w g) (hb : Below w.heap.size w w') : RulAt w' g :=
  ⟨Nat.lt_of_lt_of_le h.1 hb.size, fun j hj => by rw [hb.cell (p := ⟨g, j, none⟩) h.1]; exact h.2 j hj⟩
theorem rul_new (w : World) : RulAt (w.alloc (.cells ruleC 99)) w.heap.size := by
  refine ⟨by simp, fun j hj => ?_⟩
  simp
theorem pl_cells {w : World} {g : Nat} {l r b : Int} {f : Nat} {d : Bool} {T : TypeId} (h : w.heap[g]? = some (.cells #[.int .i64 l, .int .i64 r, .int .i64 b, .int .i64 (f : Int), .bool d] T (0, 0))) :
    w.cell? ⟨g, 0, none⟩ = some (.int .i64 l) ∧ w.cell? ⟨g, 1, none⟩ = some (.int .i64 r) ∧ w.cell? ⟨g, 2, none⟩ = some (.int .i64 b) ∧ w.cell? ⟨g, 3, none⟩ = some (.int .i64 (f : Int)) ∧ w.cell? ⟨g, 4, none⟩ = some (.bool d) := by
  simp [World.cell?, h]
/-- A round behind which the rule kept silent. -/
theorem dglue {w wr w2 : World} {o ob : Obj} (hB : Below w.heap.size w wr) (hE : wr.heap[w.heap.size]? = some ob) (h2 : Below (wr.alloc o).heap.size (wr.alloc o) w2) : Hid (Below w.heap.size w w2) ∧ Hid (w2.heap[w.heap.size]? = some ob) := by
  have hl : w.heap.size < wr.heap.size := (Array.getElem?_eq_some_iff.1 hE).1
  have h3 : Below wr.heap.size wr w2 := ((Below.refl _ _).alloc (Nat.le_refl _) o).trans (h2.mono (by simp))
  exact ⟨hB.trans (h3.mono (Nat.le_of_lt hl)), by show w2.heap[w.heap.size]? = _; rw [h3.block _ hl]; exact hE⟩
set_option maxRecDepth 100000 in
set_option maxHeartbeats 8000000 in
theorem decide_any (x : Pl) (g : Nat) (w : World) (ht : TabAt w) (hr : RulAt w g) (hf : x.f ≤ 100000) : Calls Tryz.prog 46 #[.slice (some ⟨g, 0, none⟩) 7 7, plV x] w fun e w' => e = .returned (.bool (decI x)) ∧ Below w.heap.size w w' := by
  have HT := hide ht
  have HR := hide hr
  have hg := hr.1
  clear ht hr
  have C0 := hide (fun W (_ : TabAt W) => rl0 x W)
  have C1 := hide (fun W (h : TabAt W) => rl1 x W h)
  have C2 := hide (fun W (_ : TabAt W) => rl2 x W)
  have C3 := hide (fun W (h : TabAt W) => rl3 x W h)
  have C4 := hide (fun W (_ : TabAt W) => rl4 x W)
  have C5 := hide (fun W (_ : TabAt W) => rl5 x W)
  have C6 := hide (fun W (_ : TabAt W) => rl6 x W hf)
  have DH := hide (fun k (hk : k < 7) (h : Silent k x) => dec_hit hk h)
  have DN := hide (fun (h : Silent 7 x) => dec_none h)
  have DS := hide (fun k (h : Silent k x) => h.succ)
  have S0 : Hid (Silent 0 x) := hide (fun j hj => by omega)
  obtain ⟨rf, hrf⟩ : ∃ rf : Nat → Bool, ∀ k, rl k x = rf k := ⟨fun k => rl k x, fun _ => rfl⟩
  simp only [hrf] at C0 C1 C2 C3 C4 C5 C6 DH DS
  obtain ⟨sl, hsl⟩ : ∃ sl : Nat → Prop, ∀ k, Silent k x = sl k := ⟨fun k => Silent k x, fun _ => rfl⟩
  simp only [hsl] at DH DN DS S0
  clear hrf hsl
  generalize decI x = D at *
  obtain ⟨l, r, b, f, d⟩ := x
  simp only at hf
  unfold plV at *
  simp only at *
  clear hf
  have HE0 : Hid ((w.alloc (.cells #[.int .i64 l, .int .i64 r, .int .i64 b, .int .i64 (f : Int), .bool d] 73)).heap[w.heap.size]? = some (.cells #[.int .i64 l, .int .i64 r, .int .i64 b, .int .i64 (f : Int), .bool d] 73 (0, 0))) := hide (heap_alloc_last w _)
  have HB0 : Hid (Below w.heap.size w (w.alloc (.cells #[.int .i64 l, .int .i64 r, .int .i64 b, .int .i64 (f : Int), .bool d] 73))) := hide (bel1 _ _)
  go_enter Tryz.func46, Tryz.ntmps46
  go_wp2
  go_loopw [9] (fun v wr => ∃ i : Nat, v = .int .i64 i ∧ i ≤ 7 ∧ Hid (sl i) ∧ Hid (Below w.heap.size w wr) ∧ Hid (wr.heap[w.heap.size]? = some (.cells #[.int .i64 l, .int .i64 r, .int .i64 b, .int .i64 (f : Int), .bool d] 73 (0, 0)))) (fun v _ => 7 - (intOf v).toNat)
  case atStart => exact ⟨0, rfl, by omega, S0, HB0, HE0⟩
  case round =>
    obtain ⟨i, rfl, hi7, HS, HB, HE⟩ := hrel
    clear HB0 HE0 S0
    obtain ⟨b0, b1, b2, b3, b4⟩ := pl_cells (unhide HE)
    have hl : w.heap.size < wr.heap.size := (Array.getElem?_eq_some_iff.1 (unhide HE)).1
    have hgr : g < wr.heap.size := by omega
    have HT2 := hide (fun o => ((unhide HT).below (unhide HB)).alloc o)
    have HR2 := hide ((unhide HR).below (unhide HB))
    have hi : i = 0 ∨ i = 1 ∨ i = 2 ∨ i = 3 ∨ i = 4 ∨ i = 5 ∨ i = 6 ∨ i = 7 := by omega
    rcases hi with rfl | rfl | rfl | rfl | rfl | rfl | rfl | rfl
    · have k0 : wr.cell? ⟨g, 0, none⟩ = some (.func (.func 66) #[] #[]) := (unhide HR2).2 0 (by decide)
      have k1 : wr.cell? ⟨g, 1, none⟩ = some (.bool false) := (unhide HR2).2 1 (by decide)
      cases hh : rf 0
      · have HN := hide ((unhide DS) 0 (unhide HS) hh)
        rw [hh] at C0
        go_wp2_with (go_at_call 66; refine ((unhide C0) _ ((unhide HT2) _)).mono ?_; rintro e w2 ⟨rfl, hb2⟩; have G := dglue (unhide HB) (unhide HE) hb2; clear hb2)
        go_roundw
        case rel => exact ⟨1, by go_num, by omega, HN, G⟩
        case measure => simp [intOf]
      · have HD := hide ((unhide DH) 0 (by decide) (unhide HS) hh)
        rw [hh] at C0
        go_wp2_with (go_at_call 66; refine ((unhide C0) _ ((unhide HT2) _)).mono ?_; rintro e w2 ⟨rfl, hb2⟩; have q1 := hb2.cell (p := ⟨wr.heap.size, 1, none⟩) (by simp); simp at q1; have G := dglue (unhide HB) (unhide HE) hb2; clear hb2)
        go_ret
        exact ⟨by rw [unhide HD]; rfl, unhide G.1⟩
    · have k0 : wr.cell? ⟨g, 2, none⟩ = some (.func (.func 67) #[] #[]) := (unhide HR2).2 2 (by decide)
      have k1 : wr.cell? ⟨g, 3, none⟩ = some (.bool true) := (unhide HR2).2 3 (by decide)
      cases hh : rf 1
      · have HN := hide ((unhide DS) 1 (unhide HS) hh)
        rw [hh] at C1
        go_wp2_with (go_at_call 67; refine ((unhide C1) _ ((unhide HT2) _)).mono ?_; rintro e w2 ⟨rfl, hb2⟩; have G := dglue (unhide HB) (unhide HE) hb2; clear hb2)
        go_roundw
        case rel => exact ⟨2, by go_num, by omega, HN, G⟩
        case measure => simp [intOf]
      · have HD := hide ((unhide DH) 1 (by decide) (unhide HS) hh)
        rw [hh] at C1
        go_wp2_with (go_at_call 67; refine ((unhide C1) _ ((unhide HT2) _)).mono ?_; rintro e w2 ⟨rfl, hb2⟩; have q1 := hb2.cell (p := ⟨wr.heap.size, 1, none⟩) (by simp); simp at q1; have G := dglue (unhide HB) (unhide HE) hb2; clear hb2)
        go_ret
        exact ⟨by rw [unhide HD]; rfl, unhide G.1⟩
    · have k0 : wr.cell? ⟨g, 4, none⟩ = some (.func (.func 68) #[] #[]) := (unhide HR2).2 4 (by decide)
      have k1 : wr.cell? ⟨g, 5, none⟩ = some (.bool false) := (unhide HR2).2 5 (by decide)
      cases hh : rf 2
      · have HN := hide ((unhide DS) 2 (unhide HS) hh)
        rw [hh] at C2
        go_wp2_with (go_at_call 68; refine ((unhide C2) _ ((unhide HT2) _)).mono ?_; rintro e w2 ⟨rfl, hb2⟩; have G := dglue (unhide HB) (unhide HE) hb2; clear hb2)
        go_roundw
        case rel => exact ⟨3, by go_num, by omega, HN, G⟩
        case measure => simp [intOf]
      · have HD := hide ((unhide DH) 2 (by decide) (unhide HS) hh)
        rw [hh] at C2
        go_wp2_with (go_at_call 68; refine ((unhide C2) _ ((unhide HT2) _)).mono ?_; rintro e w2 ⟨rfl, hb2⟩; have q1 := hb2.cell (p := ⟨wr.heap.size, 1, none⟩) (by simp); simp at q1; have G := dglue (unhide HB) (unhide HE) hb2; clear hb2)
        go_ret
        exact ⟨by rw [unhide HD]; rfl, unhide G.1⟩
    · have k0 : wr.cell? ⟨g, 6, none⟩ = some (.func (.func 69) #[] #[]) := (unhide HR2).2 6 (by decide)
      have k1 : wr.cell? ⟨g, 7, none⟩ = some (.bool false) := (unhide HR2).2 7 (by decide)
      cases hh : rf 3
      · have HN := hide ((unhide DS) 3 (unhide HS) hh)
        rw [hh] at C3
        go_wp2_with (go_at_call 69; refine ((unhide C3) _ ((unhide HT2) _)).mono ?_; rintro e w2 ⟨rfl, hb2⟩; have G := dglue (unhide HB) (unhide HE) hb2; clear hb2)
        go_roundw
        case rel => exact ⟨4, by go_num, by omega, HN, G⟩
        case measure => simp [intOf]
      · have HD := hide ((unhide DH) 3 (by decide) (unhide HS) hh)
        rw [hh] at C3
        go_wp2_with (go_at_call 69; refine ((unhide C3) _ ((unhide HT2) _)).mono ?_; rintro e w2 ⟨rfl, hb2⟩; have q1 := hb2.cell (p := ⟨wr.heap.size, 1, none⟩) (by simp); simp at q1; have G := dglue (unhide HB) (unhide HE) hb2; clear hb2)
        go_ret
        exact ⟨by rw [unhide HD]; rfl, unhide G.1⟩
    · have k0 : wr.cell? ⟨g, 8, none⟩ = some (.func (.func 70) #[] #[]) := (unhide HR2).2 8 (by decide)
      have k1 : wr.cell? ⟨g, 9, none⟩ = some (.bool false) := (unhide HR2).2 9 (by decide)
      cases hh : rf 4
      · have HN := hide ((unhide DS) 4 (unhide HS) hh)
        rw [hh] at C4
        go_wp2_with (go_at_call 70; refine ((unhide C4) _ ((unhide HT2) _)).mono ?_; rintro e w2 ⟨rfl, hb2⟩; have G := dglue (unhide HB) (unhide HE) hb2; clear hb2)
        go_roundw
        case rel => exact ⟨5, by go_num, by omega, HN, G⟩
        case measure => simp [intOf]
      · have HD := hide ((unhide DH) 4 (by decide) (unhide HS) hh)
        rw [hh] at C4
        go_wp2_with (go_at_call 70; refine ((unhide C4) _ ((unhide HT2) _)).mono ?_; rintro e w2 ⟨rfl, hb2⟩; have q1 := hb2.cell (p := ⟨wr.heap.size, 1, none⟩) (by simp); simp at q1; have G := dglue (unhide HB) (unhide HE) hb2; clear hb2)
        go_ret
        exact ⟨by rw [unhide HD]; rfl, unhide G.1⟩
    · have k0 : wr.cell? ⟨g, 10, none⟩ = some (.func (.func 71) #[] #[]) := (unhide HR2).2 10 (by decide)
      have k1 : wr.cell? ⟨g, 11, none⟩ = some (.bool false) := (unhide HR2).2 11 (by decide)
      cases hh : rf 5
      · have HN := hide ((unhide DS) 5 (unhide HS) hh)
        rw [hh] at C5
        go_wp2_with (go_at_call 71; refine ((unhide C5) _ ((unhide HT2) _)).mono ?_; rintro e w2 ⟨rfl, hb2⟩; have G := dglue (unhide HB) (unhide HE) hb2; clear hb2)
        go_roundw
        case rel => exact ⟨6, by go_num, by omega, HN, G⟩
        case measure => simp [intOf]
      · have HD := hide ((unhide DH) 5 (by decide) (unhide HS) hh)
        rw [hh] at C5
        go_wp2_with (go_at_call 71; refine ((unhide C5) _ ((unhide HT2) _)).mono ?_; rintro e w2 ⟨rfl, hb2⟩; have q1 := hb2.cell (p := ⟨wr.heap.size, 1, none⟩) (by simp); simp at q1; have G := dglue (unhide HB) (unhide HE) hb2; clear hb2)
        go_ret
        exact ⟨by rw [unhide HD]; rfl, unhide G.1⟩
    · have k0 : wr.cell? ⟨g, 12, none⟩ = some (.func (.func 72) #[] #[]) := (unhide HR2).2 12 (by decide)
      have k1 : wr.cell? ⟨g, 13, none⟩ = some (.bool false) := (unhide HR2).2 13 (by decide)
      cases hh : rf 6
      · have HN := hide ((unhide DS) 6 (unhide HS) hh)
        rw [hh] at C6
        go_wp2_with (go_at_call 72; refine ((unhide C6) _ ((unhide HT2) _)).mono ?_; rintro e w2 ⟨rfl, hb2⟩; have G := dglue (unhide HB) (unhide HE) hb2; clear hb2)
        go_roundw
        case rel => exact ⟨7, by go_num, by omega, HN, G⟩
        case measure => simp [intOf]
      · have HD := hide ((unhide DH) 6 (by decide) (unhide HS) hh)
        rw [hh] at C6
        go_wp2_with (go_at_call 72; refine ((unhide C6) _ ((unhide HT2) _)).mono ?_; rintro e w2 ⟨rfl, hb2⟩; have q1 := hb2.cell (p := ⟨wr.heap.size, 1, none⟩) (by simp); simp at q1; have G := dglue (unhide HB) (unhide HE) hb2; clear hb2)
        go_ret
        exact ⟨by rw [unhide HD]; rfl, unhide G.1⟩
    · have HD := hide ((unhide DN) (unhide HS))
      go_wp2
      go_ret
      exact ⟨by rw [unhide HD]; rfl, unhide HB⟩
end Chr
end Go.Proofs.YtbaedapnikhdgaaGreatDoor
