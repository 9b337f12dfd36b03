/- The nodes of a text's tree, as the specification lays them. -/
import Derived.Test.YtaipnmmlfbfcnaaDoorRopO
import Derived.Test.YtaipnmmlfbfcnaaDoorRopS
import Derived.Laws.OwnMore
namespace Go.Proofs.YtaipnmmlfbfcnaaDoor.Rop
open Go.RowKit
set_option linter.unusedVariables false
theorem empty_of {t : ByteArray} (h : t.size = 0) : t = ⟨#[]⟩ := ByteArray.size_eq_zero_iff.1 h
theorem flat_set (L R : List Nd) (x y : Nd) (j : Nat) (u : Value) (hj : j < 5) (hy : (cl5 x).set j u = cl5 y) : (flat (L ++ x :: R)).set (L.length * 5 + j) u = flat (L ++ y :: R) := by
  have e : ∀ z : Nd, flat (L ++ z :: R) = flat L ++ (cl5 z ++ flat R) := fun z => by simp [flat]
  rw [e x, e y, List.set_append_right _ _ (by rw [flat_len]; omega), flat_len, Nat.add_sub_cancel_left, List.set_append_left _ _ (by show j < 5; exact hj), hy]
theorem Ny.set {B g cap : Nat} {w : World} {L R : List Nd} {x y : Nd} {j : Nat} {u : Value} {n : Nat} (h : Ny B w (.slice (some ⟨g, 0, none⟩) n cap) (L ++ x :: R)) (hj : j < 5) (hy : (cl5 x).set j u = cl5 y) :
    Ny B (w.setCell ⟨g, L.length * 5 + j, none⟩ u) (.slice (some ⟨g, 0, none⟩) n cap) (L ++ y :: R) ∧ Below B w (w.setCell ⟨g, L.length * 5 + j, none⟩ u) ∧ w.frozen? ⟨g, L.length * 5 + j, none⟩ = false ∧ ∃ o, w.cell? ⟨g, L.length * 5 + j, none⟩ = some o := by
  have hn : (L ++ x :: R).length = n := by
    obtain ⟨a, c, e⟩ := own_formN h
    injection e with _ e _
    exact e.symm
  have hn2 : (L ++ y :: R).length = n := by rw [← hn]; simp
  have hlt := (World.ownsRow.lt h g rfl)
  unfold Ny at h ⊢
  rw [hn] at h
  rw [hn2, ← flat_set L R x y j u hj hy]
  have s := World.ownsRow.stored h (L.length * 5 + j) u
  have hl : L.length * 5 + j < (flat (L ++ x :: R)).length := by rw [flat_len]; simp; omega
  have hl2 : L.length * 5 + j < n * 5 := by rw [← hn]; simp; omega
  have hc := h.cellAt (L.length * 5 + j) (by omega)
  refine ⟨s.1, (Below.refl B w).setCell (p := ⟨g, L.length * 5 + j, none⟩) hlt.1 u, World.ownsRow.frozenAt h _, (flat (L ++ x :: R))[L.length * 5 + j]'hl, ?_⟩
  rw [hc, List.getElem?_eq_getElem hl]
theorem cells_new6 (w : World) (o : Obj) (a b c d e : Value) (T : TypeId) : ∀ j u, [a, b, c, d, e][j]? = some u → ((w.alloc o).alloc (.cells #[a, b, c, d, e] T)).cell? ((⟨w.heap.size + 1, 0, none⟩ : Addr).add j) = some u := by
  have := cells_new5 (w.alloc o) a b c d e T
  rw [World.size_alloc] at this
  exact this
theorem app_end {B : Nat} {w w' : World} {v v' : Value} {L : List Nd} {x : Nd} {o1 o2 : Obj} (hO : Ny B w v L) (hB : B ≤ w.heap.size) (ho : w'.ownsRow B 45 5 v' (L.length + 1) (flat L ++ cl5 x)) (hg : ((w.alloc o1).alloc o2).grownBy w' v.ownBlock) : Ny B w' v' (L ++ [x]) ∧ Below B w w' := by
  constructor
  · unfold Ny
    rw [flat_snoc, List.length_append]
    exact ho
  · exact ((((Below.refl B w).alloc hB o1).alloc (by simp; omega) o2).grown hg (by simp; omega) (fun j hj => (World.ownsRow.lt hO j hj).1))
set_option maxRecDepth 100000 in
set_option maxHeartbeats 4000000 in
theorem buildS {t : ByteArray} {T : RT} (h : IsTr t T) : ∀ (B : Nat) (v : Value) (L : List Nd) (w : World), Ny B w v L → B ≤ w.heap.size → L.length + T.count ≤ 200000 → t.size ≤ 65536 →
    Calls Tryd.prog 24 #[v, .string t] w fun e w' => ∃ v', e = .returned v' ∧ Ny B w' v' (L ++ nds T L.length) ∧ Below B w w' := by
  obtain ⟨i0, hi0, hz0, hz1, hz2⟩ := info_parts infoN
  induction h with
  | nil h0 =>
    intro B v L w hO hB hn hs
    obtain rfl := empty_of h0
    obtain ⟨a, c, rfl⟩ := own_formN hO
    go_enter Tryd.func24, Tryd.ntmps24
    go_wp2
    go_ret
    exact ⟨_, rfl, by simpa [nds] using hO, Below.refl _ _⟩
  | @leaf t h0 h1 =>
    intro B v L w hO hB hn hs
    have he := ne_empty h0
    have C := hide (endsS t w (by omega))
    have hle : (t.size : Int) ≤ 64 := by omega
    obtain ⟨a, c, rfl⟩ := own_formN hO
    have HO := hide hO
    have hn' : L.length + 1 ≤ 200000 := hn
    clear hO
    go_enter Tryd.func24, Tryd.ntmps24
    go_wp2_with (first
      | (go_at_call 33; refine (unhide C).mono ?_; rintro e w' ⟨rfl, hw⟩; obtain rfl := hw.symm; clear hw)
      | (at_builtin; refine wpList_append_own _ rfl _ _ 28 rfl B 45 i0 (.agg #[.string ⟨#[]⟩, .int .i64 0, .int .i64 0, .int .i64 0, .int .i64 0]) 5 48 Tryd.underlying28 hi0 hz0 hz1 hz2 rfl (by decide) _ _ _ rfl (World.ownsRow.alloc (World.ownsRow.alloc (unhide HO) _) _) ⟨w.heap.size + 1, 0, none⟩ 1 1 (cl5 ⟨t, -1, -1, t.size, ends t⟩) rfl rfl ?c2 (by simp [cl5, Value.oneCell']) ?c3 ?c4 ?c5 ?_))
    case c2 => exact cells_new6 _ _ _ _ _ _ _ _
    case c3 => unfold maxLen; omega
    case c4 => omega
    case c5 => simp; omega
    intro v' w' ho hg _
    obtain ⟨P1, P2⟩ := app_end (unhide HO) hB ho hg
    obtain ⟨g', cap', rfl⟩ := ownsRow_succ ho
    have Q1 := hide P1
    have Q2 := hide P2
    clear P1 P2 ho hg
    go_wp2
    go_ret
    exact ⟨_, rfl, unhide Q1, unhide Q2⟩
  | @node t l r h64 hl hr il ir =>
    intro B v L w hO hB hn hs
    have he := ne_empty (t := t) (by omega)
    have hc := cut_bd h64
    have hz := size_cut h64
    have hle : ¬ (t.size : Int) ≤ 64 := by omega
    have C := hide (endsS t w (by omega))
    have CC := hide (fun W => cutS t W h64 hs)
    have hcnt : L.length + l.count + r.count + 1 ≤ 200000 := by have : (RT.node t l r).count = l.count + r.count + 1 := rfl; omega
    have CL := hide (fun v (M : List Nd) W (h : Ny B W v M) (hb : B ≤ W.heap.size) (hm : M.length = L.length + 1) => il B v M W h hb (by omega) (by omega))
    have CR := hide (fun v (M : List Nd) W (h : Ny B W v M) (hb : B ≤ W.heap.size) (hm : M.length = L.length + 1 + l.count) => ir B v M W h hb (by omega) (by omega))
    obtain ⟨a, c0, rfl⟩ := own_formN hO
    have HO := hide hO
    clear hO il ir hn
    have hcs : cut t ≤ t.size := by omega
    generalize hct : cut t = c at *
    go_enter Tryd.func24, Tryd.ntmps24
    have BW := hide (World.size_alloc w)
    go_wp2_with (first
      | (go_at_call 33; refine (unhide C).mono ?_; rintro e w' ⟨rfl, hw⟩; obtain rfl := hw.symm; clear hw)
      | (go_at_call 39; refine ((unhide CC) _).mono ?_; rintro e w1 ⟨rfl, hb1⟩; have n1 : w1.heap[w.heap.size]? = some (.cells #[.string ⟨#[]⟩, .int .i64 (-1), .int .i64 (-1), .int .i64 (t.size : Int), .int .i64 (ends t : Int)] 45 (0, 0)) := (hb1.block _ (by simp)).trans (heap_alloc_new _ _); obtain ⟨k0, k1, k2, k3, k4, _⟩ := cells5 n1; have O1 := hide (show Ny B w1 _ L from ownsRow_below (World.ownsRow.alloc (unhide HO) _) hb1); have B1 := hide (((Below.refl B w).alloc hB _).trans (hb1.mono (by simp; omega))); clear hb1 n1)
      | (at_builtin; refine wpList_append_own _ rfl _ _ 28 rfl B 45 i0 (.agg #[.string ⟨#[]⟩, .int .i64 0, .int .i64 0, .int .i64 0, .int .i64 0]) 5 48 Tryd.underlying28 hi0 hz0 hz1 hz2 rfl (by decide) _ _ _ rfl (World.ownsRow.alloc (unhide O1) _) ⟨w1.heap.size, 0, none⟩ 1 1 (cl5 ⟨⟨#[]⟩, -1, -1, t.size, ends t⟩) rfl rfl (cells_new5 w1 _ _ _ _ _ _) (by simp [cl5, Value.oneCell']) ?c3 ?c4 ?c5 ?_))
    case c3 => unfold maxLen; omega
    case c4 => omega
    case c5 => have := (unhide B1).size; simp; omega
    intro v2 w2 ho hg _
    obtain ⟨g, cap, rfl⟩ := ownsRow_succ ho
    have O2 := hide (show Ny B w2 _ (L ++ ⟨⟨#[]⟩, -1, -1, t.size, ends t⟩ :: []) from by unfold Ny; rw [flat_snoc, List.length_append]; exact ho)
    have B2 := hide (show Below B w w2 from ((unhide B1).alloc (by have := (unhide B1).size; omega) _).grown hg (by have := (unhide B1).size; simp; omega) (fun j hj => (World.ownsRow.lt (unhide O1) j hj).1))
    clear ho hg k0 k1 k2 k3 k4
    have S2 := hide ((unhide O2).set (y := ⟨⟨#[]⟩, (L.length : Int) + 1, -1, t.size, ends t⟩) (j := 1) (u := .int .i64 ((L.length : Int) + 1)) (by omega) rfl)
    obtain ⟨o2, p2⟩ := (unhide S2).2.2.2
    have p2f := (unhide S2).2.2.1
    go_wp2_with fail
    have O3 := hide (unhide S2).1
    have B3 := hide ((unhide B2).trans (unhide S2).2.1)
    clear S2 p2 p2f
    generalize w2.setCell ⟨g, L.length * 5 + 1, none⟩ (.int .i64 ((L.length : Int) + 1)) = w3 at *
    refine ((unhide CL) _ _ w3 (unhide O3) (Nat.le_trans hB (unhide B3).size) (by simp)).mono ?_
    rintro e w4 ⟨v4, rfl, ho4, hb4⟩
    have hM : (L ++ (⟨⟨#[]⟩, (L.length : Int) + 1, -1, t.size, ends t⟩ : Nd) :: []) ++ nds l ((L ++ (⟨⟨#[]⟩, (L.length : Int) + 1, -1, t.size, ends t⟩ : Nd) :: []).length : Nat) = L ++ (⟨⟨#[]⟩, (L.length : Int) + 1, -1, t.size, ends t⟩ : Nd) :: nds l ((L.length : Int) + 1) := by simp
    rw [hM] at ho4
    have hML : (L ++ (⟨⟨#[]⟩, (L.length : Int) + 1, -1, t.size, ends t⟩ : Nd) :: nds l ((L.length : Int) + 1)).length = L.length + l.count + 1 := by simp [nds_len]; omega
    obtain ⟨g4, cap4, hv4⟩ : ∃ g cap, v4 = .slice (some ⟨g, 0, none⟩) (L.length + l.count + 1) cap := by
      have := ho4
      unfold Ny at this
      rw [hML] at this
      obtain ⟨g4, cap4, e⟩ := ownsRow_succ this
      exact ⟨g4, cap4, e⟩
    subst hv4
    have B4 := hide ((unhide B3).trans hb4)
    have S4 := hide (ho4.set (y := ⟨⟨#[]⟩, (L.length : Int) + 1, (L.length : Int) + (l.count : Int) + 1, t.size, ends t⟩) (j := 2) (u := .int .i64 ((L.length : Int) + (l.count : Int) + 1)) (by omega) rfl)
    obtain ⟨o4, p4⟩ := (unhide S4).2.2.2
    have p4f := (unhide S4).2.2.1
    clear hb4 ho4 hM hML O3 B3 O2 B2 O1 B1
    go_wp2_with fail
    have O5 := hide (unhide S4).1
    have B5 := hide ((unhide B4).trans (unhide S4).2.1)
    clear S4 p4 p4f B4
    generalize w4.setCell ⟨g4, L.length * 5 + 2, none⟩ (.int .i64 ((L.length : Int) + (l.count : Int) + 1)) = w5 at *
    refine ((unhide CR) _ _ w5 (unhide O5) (Nat.le_trans hB (unhide B5).size) (by simp [nds_len]; omega)).mono ?_
    rintro e w6 ⟨v6, rfl, ho6, hb6⟩
    have hE : (L ++ (⟨⟨#[]⟩, (L.length : Int) + 1, (L.length : Int) + (l.count : Int) + 1, t.size, ends t⟩ : Nd) :: nds l ((L.length : Int) + 1)) ++ nds r ((L ++ (⟨⟨#[]⟩, (L.length : Int) + 1, (L.length : Int) + (l.count : Int) + 1, t.size, ends t⟩ : Nd) :: nds l ((L.length : Int) + 1)).length : Nat) = L ++ nds (.node t l r) L.length := by
      have e1 : (((L ++ (⟨⟨#[]⟩, (L.length : Int) + 1, (L.length : Int) + (l.count : Int) + 1, t.size, ends t⟩ : Nd) :: nds l ((L.length : Int) + 1)).length : Nat) : Int) = (L.length : Int) + 1 + (l.count : Int) := by simp [nds_len]; omega
      rw [e1, List.append_assoc, List.cons_append, show (L.length : Int) + (l.count : Int) + 1 = (L.length : Int) + 1 + (l.count : Int) by omega]
      rfl
    rw [hE] at ho6
    obtain ⟨a6, c6, rfl⟩ := own_formN ho6
    have O6 := hide ho6
    have B6 := hide ((unhide B5).trans hb6)
    clear ho6 hb6 hE O5 B5 CL CR CC C HO
    generalize (L ++ nds (.node t l r) L.length).length = n6 at *
    go_wp2
    go_ret
    exact ⟨_, rfl, unhide O6, unhide B6⟩
end Go.Proofs.YtaipnmmlfbfcnaaDoor.Rop
