/- Sets joined, met, taken away: the program. -/
import Derived.Test.YtfcabmpklcmbgaaSetS
namespace Go.Proofs.Ytfcabmpklcmbgaa
open Go.RowKit
/-- Where the edges of a set stand: the spans, and how many edges are behind. -/
def odd (i : Nat) : Bool := decide (i % 2 = 1)
set_option maxHeartbeats 1000000 in
theorem inside_any (a : Option Addr) (n c i : Nat) (w : World) (hi : i ≤ 4000000) :
    Calls Try.prog 29 #[.agg #[.slice a n c, .int .i64 i]] w fun e w' => e = .returned (.bool (odd i)) ∧ w' = w.alloc (.cells #[.slice a n c, .int .i64 i] 46) := by
  obtain ⟨r, hr⟩ : ∃ r : Nat, i % 2 = r := ⟨_, rfl⟩
  have er : (i : Int).tmod 2 = (r : Int) := by rw [Int.tmod_eq_emod_of_nonneg (by omega)]; omega
  have hw : IntKind.i64.wrap (r : Int) = (r : Int) := wrap_in _ (by omega) (by omega)
  have HO : Hid (odd i = decide (r = 1)) := hide (by unfold odd; rw [hr])
  by_cases h1 : r = 1
  · subst h1
    clear hr
    have HN : Hid (odd i = true) := hide (by rw [unhide HO]; rfl)
    go_enter Try.func29, Try.ntmps29
    go_wp2
    go_ret
    exact ⟨ret_bool (unhide HN).symm, rfl⟩
  · have h0 : r = 0 := by omega
    subst h0
    clear hr h1
    have HN : Hid (odd i = false) := hide (by rw [unhide HO]; rfl)
    go_enter Try.func29, Try.ntmps29
    go_wp2
    go_ret
    exact ⟨ret_bool (unhide HN).symm, rfl⟩
set_option maxHeartbeats 2000000 in
theorem next_any (v : Value) (L : List Sp) (i B : Nat) (w : World) (h : SpRow w B v L) (hr : right L = true) (hi : i ≤ 2 * L.length) :
    Calls Try.prog 28 #[.agg #[v, .int .i64 i]] w fun e w' => e = .returned (.int .i64 (edge L i)) ∧ Below w.heap.size w w' := by
  have HB1 : Hid (∀ o, Below w.heap.size w (w.alloc o)) := hide (fun o => (Below.refl _ _).alloc (Nat.le_refl _) o)
  have HB3 : Hid (∀ o o' o2, Below w.heap.size w (((w.alloc o).alloc o').alloc o2)) := hide (fun o o' o2 => (((Below.refl _ _).alloc (Nat.le_refl _) o).alloc (by simp) o').alloc (by simp; omega) o2)
  have hlen := (right_ok hr).1
  obtain ⟨a, c, rfl, hg⟩ := h.form
  have H := hide h
  clear h
  have HR := hide hr
  clear hr
  have hm : IntKind.i64.wrap (2 * (L.length : Int)) = 2 * (L.length : Int) := wrap_in _ (by omega) (by omega)
  by_cases he : i = 2 * L.length
  · have HN : Hid (edge L i = 32769) := hide (by rw [he]; exact edge_end L)
    have he' : ((i : Int) == 2 * (L.length : Int)) = true := by simp; omega
    clear he hg
    go_enter Try.func28, Try.ntmps28
    go_wp2
    go_ret
    exact ⟨ret_int (unhide HN).symm, unhide HB1 _⟩
  · have he' : ((i : Int) == 2 * (L.length : Int)) = false := by simp; omega
    obtain ⟨g, rfl, _, _⟩ := hg (by omega)
    obtain ⟨q, hq⟩ : ∃ q : Nat, i / 2 = q := ⟨_, rfl⟩
    have eq : (i : Int).tdiv 2 = (q : Int) := by rw [Int.tdiv_eq_ediv_of_nonneg (by omega)]; omega
    have hw : IntKind.i64.wrap (q : Int) = (q : Int) := wrap_in _ (by omega) (by omega)
    have hql : q < L.length := by omega
    have hqi : (q : Int) < (L.length : Int) := by omega
    obtain ⟨x0, x1, x2⟩ := (unhide H).read q hql
    have hall := right_all (unhide HR) q hql
    have HE1 := hide (edge_odd L i (by omega))
    have HE2 := hide (edge_even L i (by omega))
    rw [hq] at HE1 HE2
    obtain ⟨⟨x, y, z⟩, hrr⟩ : ∃ r, gx L q = r := ⟨_, rfl⟩
    rw [hrr] at x0 x1 x2 hall HE1 HE2
    simp only at x0 x1 x2 hall HE1 HE2
    have y0 := cell_alloc x0
    have y1 := cell_alloc x1
    have y2 := cell_alloc x2
    have hii : i ≤ 4000000 := by omega
    clear hrr hq he hg
    by_cases ho : i % 2 = 1
    · have HN : Hid (edge L i = y + 1) := hide ((unhide HE1) ho)
      have hod : odd i = true := by unfold odd; exact decide_eq_true ho
      clear ho HE1 HE2
      go_enter Try.func28, Try.ntmps28
      go_wp2_with fail
      refine (inside_any _ _ _ i _ hii).mono ?_
      rintro e w2 ⟨rfl, rfl⟩
      rw [hod]
      go_wp2
      go_ret
      exact ⟨ret_int (unhide HN).symm, unhide HB3 _ _ _⟩
    · have HN : Hid (edge L i = x) := hide ((unhide HE2) ho)
      have hod : odd i = false := by unfold odd; exact decide_eq_false ho
      clear ho HE1 HE2
      go_enter Try.func28, Try.ntmps28
      go_wp2_with fail
      refine (inside_any _ _ _ i _ hii).mono ?_
      rintro e w2 ⟨rfl, rfl⟩
      rw [hod]
      go_wp2
      go_ret
      exact ⟨ret_int (unhide HN).symm, unhide HB3 _ _ _⟩
/-- A stretch put behind a set: as one span with the last one, if it begins right behind it. -/
def lay (M : List Sp) (x y : Int) : List Sp := match M.reverse with
  | (a, b, u) :: t => if b + 1 = x then ((a, y, u) :: t).reverse else M ++ [(x, y, 1)]
  | [] => [(x, y, 1)]
theorem lay_nil (x y : Int) : lay [] x y = [] ++ [(x, y, 1)] := rfl
theorem lay_on (M : List Sp) (a b u x y : Int) (h : b + 1 = x) : lay (M ++ [(a, b, u)]) x y = M ++ [(a, y, u)] := by
  unfold lay
  rw [List.reverse_append]
  simp [h]
theorem lay_new (M : List Sp) (a b u x y : Int) (h : ¬ b + 1 = x) : lay (M ++ [(a, b, u)]) x y = (M ++ [(a, b, u)]) ++ [(x, y, 1)] := by
  unfold lay
  rw [List.reverse_append]
  simp [h]
theorem lay_len (M : List Sp) (x y : Int) : (lay M x y).length ≤ M.length + 1 := by
  rcases List.eq_nil_or_concat M with rfl | ⟨M', ⟨a, b, u⟩, rfl⟩
  · simp [lay]
  · rw [List.concat_eq_append]
    by_cases h : b + 1 = x
    · rw [lay_on _ _ _ _ _ _ h]; simp
    · rw [lay_new _ _ _ _ _ _ h]; simp
/-- What the set is behind it. -/
theorem lay_sets {f : Int → Bool} {M : List Sp} {x y : Int} (h : SetsR f M.reverse x) (hxy : x ≤ y) (hf : ∀ p, x ≤ p → p ≤ y → f p = true) : SetsR f (lay M x y).reverse (y + 1) := by
  rcases List.eq_nil_or_concat M with rfl | ⟨M', ⟨a, b, u⟩, rfl⟩
  · rw [lay_nil]
    exact sets_new h hxy hf (fun hx => sets_before h (fun r hr => by simp at hr) hx)
  · rw [List.concat_eq_append] at h ⊢
    by_cases e : b + 1 = x
    · rw [lay_on _ _ _ _ _ _ e]
      rw [List.reverse_append] at h ⊢
      exact sets_on h e hxy hf
    · rw [lay_new _ _ _ _ _ _ e, List.reverse_append]
      refine sets_new h hxy hf (fun hx => sets_before h (fun r hr => ?_) hx)
      rw [List.reverse_append] at hr
      simp at hr
      rw [← hr]
      exact e
theorem sp_stepB {wr w3 : World} {B : Nat} {v v' : Value} {L : List Sp} {x y z : Int} {o : Obj} (hB : B ≤ wr.heap.size) (h : SpRow wr B v L)
    (ho : w3.ownsRow B 38 3 v' (L.length + 1) (cells L ++ [.int .i64 x, .int .i64 y, .int .i64 z])) (hg : (wr.alloc o).grownBy w3 v.ownBlock) :
    SpRow w3 B v' (L ++ [(x, y, z)]) ∧ Below B wr w3 := by
  refine ⟨?_, ((Below.refl B wr).alloc hB o).grown hg (by simp; omega) (fun j hj => (h.lt j hj).1)⟩
  unfold SpRow
  rw [cells_snoc, List.length_append]
  exact ho
theorem sp_updB {wr : World} {B g c : Nat} {L : List Sp} {x y u : Int} (h : SpRow wr B (.slice (some ⟨g, 0, none⟩) (L.length + 1) c) (L ++ [(x, y, u)])) (hg : B ≤ g) (z : Int) :
    SpRow (wr.setCell ⟨g, L.length * 3 + 1, none⟩ (.int .i64 z)) B (.slice (some ⟨g, 0, none⟩) (L.length + 1) c) (L ++ [(x, z, u)]) ∧ Below B wr (wr.setCell ⟨g, L.length * 3 + 1, none⟩ (.int .i64 z)) := by
  have hl : ∀ r : Sp, (L ++ [r]).length = L.length + 1 := fun r => by simp
  refine ⟨?_, (Below.refl _ _).setCell (p := ⟨g, L.length * 3 + 1, none⟩) hg _⟩
  have h1 := h
  unfold SpRow at h1
  rw [hl] at h1
  have hst := (World.ownsRow.stored h1 (L.length * 3 + 1) (.int .i64 z)).1
  rw [cells_upd] at hst
  unfold SpRow
  rw [hl]
  exact hst
set_option maxHeartbeats 2000000 in
theorem layStretch_any (v : Value) (M : List Sp) (x y : Int) (B : Nat) (w : World) (h : SpRow w B v M) (hBs : B ≤ w.heap.size) (hl : M.length ≤ 1048576) (hM : ∀ r ∈ M, -9223372036854775808 ≤ r.2.1 ∧ r.2.1 ≤ 1048576) :
    Calls Try.prog 30 #[v, .int .i64 x, .int .i64 y] w fun e w' => ∃ v', e = .returned v' ∧ SpRow w' B v' (lay M x y) ∧ Below B w w' := by
  obtain ⟨i0, hi, hz0, hz1, hz2⟩ := info_parts infoSp
  have H := hide h
  rcases List.eq_nil_or_concat M with rfl | ⟨L', ⟨a, b, u⟩, rfl⟩
  · obtain ⟨sa, sc, hsv, _⟩ := h.form
    have hll : ([] : List Sp).length = 0 := rfl
    rw [hll] at hsv
    subst hsv
    clear h hM hll
    go_enter Try.func30, Try.ntmps30
    go_wp2_with (at_builtin; refine wpList_append_own _ rfl _ _ 23 rfl B 38 i0 (.agg #[.int .i64 0, .int .i64 0, .int .i64 0]) 3 24 Try.underlying23 hi hz0 hz1 hz2 rfl (by decide) _ _ _ rfl (World.ownsRow.alloc (unhide H) _) ⟨w.heap.size, 0, none⟩ 1 1 [.int .i64 x, .int .i64 y, .int .i64 1] rfl rfl ?c1 ?c2 ?c3 ?c4 ?c5 ?_)
    case c1 => exact three_new _ _ _ _ _
    case c2 => exact three_one _ _ _
    case c3 => unfold maxLen; simp
    case c4 => simp
    case c5 => simp; omega
    intro v' w3 hown' hgrow _
    have R := hide (sp_stepB hBs (unhide H) hown' hgrow)
    clear hown' hgrow
    go_wp2
    go_ret
    exact ⟨_, rfl, (unhide R).1, (unhide R).2⟩
  · rw [List.concat_eq_append] at *
    obtain ⟨sa, sc, hsv, hg⟩ := h.form
    obtain ⟨g, rfl, hgB, hgl⟩ := hg (by simp)
    have hll : (L' ++ [(a, b, u)]).length = L'.length + 1 := by simp
    rw [hll] at hsv hl
    subst hsv
    have hMb : -9223372036854775808 ≤ b ∧ b ≤ 1048576 := hM (a, b, u) (by simp)
    obtain ⟨c1, f1⟩ := sp_cell h 1 (by omega)
    simp only [List.getElem?_cons_succ, List.getElem?_cons_zero] at c1
    have hM0 : (0 : Int) ≤ (L'.length : Int) := by omega
    have hMw : IntKind.i64.wrap (L'.length : Int) = (L'.length : Int) := wrap_in _ (by omega) (by omega)
    have hMi : (L'.length : Int) < (L'.length : Int) + 1 := by omega
    have hbw : IntKind.i64.wrap (b + 1) = b + 1 := wrap_in _ (by omega) (by omega)
    clear h hM hg
    by_cases e : b + 1 = x
    · have HL := hide (lay_on L' a b u x y e)
      have HS := hide (sp_updB (unhide H) hgB y)
      have e' : (b + 1 == x) = true := by simpa using e
      clear e
      go_enter Try.func30, Try.ntmps30
      go_wp2
      go_ret
      refine ⟨_, rfl, ?_, (unhide HS).2⟩
      rw [unhide HL]
      exact (unhide HS).1
    · have HL := hide (lay_new L' a b u x y e)
      have e' : (b + 1 == x) = false := by simpa using e
      clear e
      go_enter Try.func30, Try.ntmps30
      go_wp2_with (at_builtin; refine wpList_append_own _ rfl _ _ 23 rfl B 38 i0 (.agg #[.int .i64 0, .int .i64 0, .int .i64 0]) 3 24 Try.underlying23 hi hz0 hz1 hz2 rfl (by decide) _ _ _ rfl (World.ownsRow.alloc (unhide H) _) ⟨w.heap.size, 0, none⟩ 1 1 [.int .i64 x, .int .i64 y, .int .i64 1] rfl rfl ?c1 ?c2 ?c3 ?c4 ?c5 ?_)
      case c1 => exact three_new _ _ _ _ _
      case c2 => exact three_one _ _ _
      case c3 => unfold maxLen; simp; omega
      case c4 => simp; omega
      case c5 => simp; omega
      intro v' w3 hown' hgrow _
      rw [← hll] at hown'
      have R := hide (sp_stepB hBs (unhide H) hown' hgrow)
      clear hown' hgrow
      go_wp2
      go_ret
      refine ⟨_, rfl, ?_, (unhide R).2⟩
      rw [unhide HL]
      exact (unhide R).1
end Go.Proofs.Ytfcabmpklcmbgaa
