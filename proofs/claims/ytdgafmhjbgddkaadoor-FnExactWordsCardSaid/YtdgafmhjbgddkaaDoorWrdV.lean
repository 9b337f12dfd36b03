/- Tailors: rows of them in memory; which one has a say at a place; the program's cutsWords. -/
import Derived.Test.YtdgafmhjbgddkaaDoorWrdD
namespace Go.Proofs.YtdgafmhjbgddkaaDoor
namespace Wrd
open Go.RowKit
open Chr (bel1 dglue)
/-- A tailor: left, right, whether it cuts. -/
def Tl : Type := Int × Int × Bool
def tlx (L : List Tl) (i : Nat) : Tl := L.getD i (0, 0, false)
def hit (t : Tl) (l r : Int) : Bool := t.1 == l && t.2.1 == r
/-- What the first tailor for a pair says. -/
def tlk : List Tl → Int → Int → Option Bool
  | [], _, _ => none
  | t :: ts, l, r => if hit t l r then some t.2.2 else tlk ts l r
def cutW (L : List Tl) (x : WPl) : Bool := match tlk L x.l x.r with
  | some c => c
  | none => decI x
theorem tlk_hit {L : List Tl} {k : Nat} {l r : Int} (hk : k < L.length) (hs : ∀ i, i < k → hit (tlx L i) l r = false) (hh : hit (tlx L k) l r = true) : tlk L l r = some (tlx L k).2.2 := by
  induction L generalizing k with
  | nil => simp at hk
  | cons t ts ih =>
    unfold tlk
    cases k with
    | zero =>
      have : hit t l r = true := hh
      rw [if_pos this]
      rfl
    | succ m =>
      have h0 : hit t l r = false := hs 0 (by omega)
      rw [if_neg (by rw [h0]; exact Bool.false_ne_true)]
      exact ih (k := m) (by simpa using hk) (fun i hi => hs (i + 1) (by omega)) hh
theorem tlk_none {L : List Tl} {l r : Int} (hs : ∀ i, i < L.length → hit (tlx L i) l r = false) : tlk L l r = none := by
  induction L with
  | nil => rfl
  | cons t ts ih =>
    unfold tlk
    have h0 : hit t l r = false := hs 0 (by simp)
    rw [if_neg (by rw [h0]; exact Bool.false_ne_true)]
    exact ih (fun i hi => hs (i + 1) (by simpa using hi))
theorem cut_hit {L : List Tl} {k : Nat} {x : WPl} (hk : k < L.length) (hs : ∀ i, i < k → hit (tlx L i) x.l x.r = false) (hh : hit (tlx L k) x.l x.r = true) : cutW L x = (tlx L k).2.2 := by
  unfold cutW
  rw [tlk_hit hk hs hh]
theorem cut_none {L : List Tl} {x : WPl} (hs : ∀ i, i < L.length → hit (tlx L i) x.l x.r = false) : cutW L x = decI x := by
  unfold cutW
  rw [tlk_none hs]
/-- A row of tailors that can be read. -/
def TlAt (w : World) (v : Value) (L : List Tl) : Prop :=
  ∃ a cap, v = .slice a L.length cap ∧ (L = [] ∨ ∃ b off, a = some ⟨b, off, none⟩ ∧ b < w.heap.size ∧ ∀ i, i < L.length → w.cell? ⟨b, off + i * 3, none⟩ = some (.int .i64 (tlx L i).1) ∧ w.cell? ⟨b, off + i * 3 + 1, none⟩ = some (.int .i64 (tlx L i).2.1) ∧ w.cell? ⟨b, off + i * 3 + 2, none⟩ = some (.bool (tlx L i).2.2))
theorem TlAt.below {w w' : World} {v : Value} {L : List Tl} (h : TlAt w v L) (hb : Below w.heap.size w w') : TlAt w' v L := by
  obtain ⟨a, cap, rfl, h⟩ := h
  refine ⟨a, cap, rfl, ?_⟩
  rcases h with h | ⟨b, off, rfl, hbs, hc⟩
  · exact .inl h
  · refine .inr ⟨b, off, rfl, Nat.lt_of_lt_of_le hbs hb.size, fun i hi => ?_⟩
    obtain ⟨c0, c1, c2⟩ := hc i hi
    exact ⟨(hb.cell (p := ⟨b, off + i * 3, none⟩) hbs).trans c0, (hb.cell (p := ⟨b, off + i * 3 + 1, none⟩) hbs).trans c1, (hb.cell (p := ⟨b, off + i * 3 + 2, none⟩) hbs).trans c2⟩
theorem tl_rd {w : World} {v : Value} {L : List Tl} (h : TlAt w v L) (hl : 0 < L.length) : ∃ b off cap, v = .slice (some ⟨b, off, none⟩) L.length cap ∧ b < w.heap.size ∧ ∀ i, i < L.length → w.cell? ⟨b, off + i * 3, none⟩ = some (.int .i64 (tlx L i).1) ∧ w.cell? ⟨b, off + i * 3 + 1, none⟩ = some (.int .i64 (tlx L i).2.1) ∧ w.cell? ⟨b, off + i * 3 + 2, none⟩ = some (.bool (tlx L i).2.2) := by
  obtain ⟨a, cap, rfl, h⟩ := h
  rcases h with h | ⟨b, off, rfl, hbs, hc⟩
  · rw [h] at hl; simp at hl
  · exact ⟨b, off, cap, rfl, hbs, hc⟩
set_option maxRecDepth 100000 in
set_option maxHeartbeats 8000000 in
theorem cutsB (x : WPl) (g : Nat) (v : Value) (L : List Tl) (w : World) (ht : TabAt w) (hr : RulAt w g) (hv : TlAt w v L) (hL : L.length ≤ 1048576) :
    Calls Tryd.prog 40 #[.slice (some ⟨g, 0, none⟩) 7 7, v, wpV x] w fun e w' => e = .returned (.bool (cutW L x)) ∧ Below w.heap.size w w' := by
  have HT := hide ht
  have HR := hide hr
  have HV := hide hv
  have HH : Hid (∀ k, k < L.length → (∀ i, i < k → hit (tlx L i) x.l x.r = false) → hit (tlx L k) x.l x.r = true → cutW L x = (tlx L k).2.2) := hide (fun k hk hs hh => cut_hit hk hs hh)
  have HN : Hid ((∀ i, i < L.length → hit (tlx L i) x.l x.r = false) → cutW L x = decI x) := hide cut_none
  have CD := hide (fun W h1 h2 => decide_any x g W h1 h2)
  obtain ⟨a, cap, rfl, _⟩ := hv
  clear ht hr
  generalize cutW L x = D at *
  generalize decI x = E at *
  obtain ⟨b, l, r, h, n⟩ := x
  unfold wpV at *
  simp only at *
  have HE0 : Hid ((w.alloc (.cells #[.int .i64 b, .int .i64 l, .int .i64 r, .int .i64 h, .bool n] 62)).heap[w.heap.size]? = some (.cells #[.int .i64 b, .int .i64 l, .int .i64 r, .int .i64 h, .bool n] 62 (0, 0))) := hide (heap_alloc_last w _)
  have HB0 : Hid (Below w.heap.size w (w.alloc (.cells #[.int .i64 b, .int .i64 l, .int .i64 r, .int .i64 h, .bool n] 62))) := hide (bel1 _ _)
  go_enter Tryd.func40, Tryd.ntmps40
  go_wp2
  go_loopw [11] (fun v wr => ∃ i : Nat, v = .int .i64 i ∧ i ≤ L.length ∧ Hid (∀ j, j < i → hit (tlx L j) l r = false) ∧ Hid (Below w.heap.size w wr) ∧ Hid (wr.heap[w.heap.size]? = some (.cells #[.int .i64 b, .int .i64 l, .int .i64 r, .int .i64 h, .bool n] 62 (0, 0)))) (fun v _ => L.length - (intOf v).toNat)
  case atStart => exact ⟨0, rfl, by omega, hide (fun j hj => by omega), HB0, HE0⟩
  case round =>
    obtain ⟨i, rfl, hi, HS, HB, HE⟩ := hrel
    clear HB0 HE0
    obtain ⟨b0, b1, b2, b3, b4⟩ := pl_cells (unhide HE)
    have hl : w.heap.size < wr.heap.size := (Array.getElem?_eq_some_iff.1 (unhide HE)).1
    by_cases hlt : i < L.length
    · obtain ⟨gb, go, gc, he, hbs, hc⟩ := tl_rd (unhide HV) (by omega)
      cases he
      obtain ⟨c0, c1, c2⟩ := hc i hlt
      replace c0 := ((unhide HB).cell (p := ⟨gb, go + i * 3, none⟩) hbs).trans c0
      replace c1 := ((unhide HB).cell (p := ⟨gb, go + i * 3 + 1, none⟩) hbs).trans c1
      replace c2 := ((unhide HB).cell (p := ⟨gb, go + i * 3 + 2, none⟩) hbs).trans c2
      have hgr : gb < wr.heap.size := by omega
      have HSN : Hid (hit (tlx L i) l r = false → ∀ j, j < i + 1 → hit (tlx L j) l r = false) := hide (fun h j hj => by
        by_cases e : j = i
        · rw [e]; exact h
        · exact (unhide HS) j (by omega))
      have HSY : Hid (hit (tlx L i) l r = true → D = (tlx L i).2.2) := hide (fun h => (unhide HH) i hlt (unhide HS) h)
      clear hc
      have HHI : Hid (hit (tlx L i) l r = ((tlx L i).1 == l && (tlx L i).2.1 == r)) := hide rfl
      generalize hit (tlx L i) l r = q at *
      obtain ⟨⟨tx, ty, tc⟩, ht⟩ : ∃ t, tlx L i = t := ⟨_, rfl⟩
      rw [ht] at c0 c1 c2 HHI HSY
      simp only at c0 c1 c2 HHI HSY
      clear ht
      have G := fun o => dglue (w2 := wr.alloc o) (unhide HB) (unhide HE) (Below.refl _ _)
      have HG := hide G
      clear G
      cases h1 : (tx == l) <;> cases h2 : (ty == r)
      case true.true =>
        have HD := hide ((unhide HSY) (by rw [unhide HHI, h1, h2]; rfl))
        clear HSN HSY HHI
        go_wp2
        go_ret
        exact ⟨by rw [unhide HD]; rfl, unhide ((unhide HG) _).1⟩
      all_goals
        have HS2 := hide ((unhide HSN) (by rw [unhide HHI, h1, h2]; rfl))
        clear HSN HSY HHI
        go_wp2
        go_roundw
        case rel => exact ⟨i + 1, by go_num, by omega, HS2, (unhide HG) _⟩
        case measure => simp [intOf]; omega
    · obtain rfl : i = L.length := by omega
      have HD := hide ((unhide HN) (unhide HS))
      go_wp2_with (go_at_call 69; refine ((unhide CD) _ ((unhide HT).below (unhide HB)) ((unhide HR).below (unhide HB))).mono ?_; rintro e w2 ⟨rfl, hb2⟩; have B2 := hide (jn (unhide HB) hb2); clear hb2)
      go_ret
      exact ⟨by rw [unhide HD]; rfl, unhide B2⟩
end Wrd
end Go.Proofs.YtdgafmhjbgddkaaDoor
