/- Rows of nodes written over by marks, and the marks asked for. -/
import Derived.Test.YtjhmkiecpefniaaDoorRopM
import Derived.Test.YtjhmkiecpefniaaDoorStrA
namespace Go.Proofs.YtjhmkiecpefniaaDoor.Rop
open Go.RowKit
set_option linter.unusedVariables false
def mkN (k : Nat) : Nd := ⟨mtx k, (k : Int) + 1, (k : Int) + 1 + 1, (k : Int) + 1 + 1 + 1, (k : Int) + 1 + 1 + 1 + 1⟩
/-- n marks from k on. -/
def mkL (k : Nat) : Nat → List Nd
  | 0 => []
  | n + 1 => mkL k n ++ [mkN (k + 5 * n)]
theorem mkL_len (k : Nat) : ∀ n, (mkL k n).length = n
  | 0 => rfl
  | n + 1 => by show (mkL k n ++ [mkN (k + 5 * n)]).length = _; rw [List.length_append, mkL_len k n]; rfl
theorem mkL_get (k : Nat) : ∀ n i, i < n → nthN (mkL k n) i = mkN (k + 5 * i)
  | 0, i, h => by omega
  | n + 1, i, h => by
    show (mkL k n ++ [mkN (k + 5 * n)]).getD i nd0 = _
    rw [List.getD_eq_getElem?_getD]
    by_cases c : i < n
    · rw [List.getElem?_append_left (by rw [mkL_len]; exact c), ← List.getD_eq_getElem?_getD]
      exact mkL_get k n i c
    · have e : i = n := by omega
      subst e
      rw [List.getElem?_append_right (by rw [mkL_len]; exact Nat.le_refl _), mkL_len, Nat.sub_self]
      rfl
theorem gn_some {V V' : World} {g : Option Nat} (h : V.grownBy V' none) : V.grownBy V' g := ⟨h.os, h.tape, h.output, h.size, fun k hk _ => h.block k hk (fun e => by cases e)⟩
theorem drop_ndN (L : List Nd) (i : Nat) (h : i < L.length) : L.drop i = nthN L i :: L.drop (i + 1) := by
  rw [List.drop_eq_getElem_cons h]
  unfold nthN
  rw [List.getD_eq_getElem?_getD, List.getElem?_eq_getElem h]
  rfl
theorem Ny.put {B g cap n : Nat} {w : World} {L R : List Nd} {x y : Nd} {j o : Nat} {u : Value} (h : Ny B w (.slice (some ⟨g, 0, none⟩) n cap) (L ++ x :: R)) (ho : o = L.length * 5 + j) (hj : j < 5) (hy : (cl5 x).set j u = cl5 y) :
    Ny B (w.setCell ⟨g, o, none⟩ u) (.slice (some ⟨g, 0, none⟩) n cap) (L ++ y :: R) ∧ w.grownBy (w.setCell ⟨g, o, none⟩ u) (some g) ∧ w.frozen? ⟨g, o, none⟩ = false ∧ ∃ z, w.cell? ⟨g, o, none⟩ = some z := by
  subst ho
  obtain ⟨a, _, c, d⟩ := Ny.set h hj hy
  exact ⟨a, ⟨rfl, rfl, rfl, by simp, fun k _ hk => heap_setCell_other w ⟨g, L.length * 5 + j, none⟩ k u (fun e => hk (by simp [e]))⟩, c, d⟩
/-- One node marked: five stores. -/
theorem mark_chain {B g cap n i : Nat} {w2 : World} {L R : List Nd} {x : Nd} (hm : L.length = i) (h : Ny B w2 (.slice (some ⟨g, 0, none⟩) n cap) (L ++ x :: R)) (k : Nat) :
    ∃ V1 V2 V3 V4 V5 z0 z1 z2 z3 z4, w2.setCell ⟨g, i * 5, none⟩ (.string (mtx k)) = V1 ∧ V1.setCell ⟨g, i * 5 + 1, none⟩ (.int .i64 ((k : Int) + 1)) = V2 ∧ V2.setCell ⟨g, i * 5 + 2, none⟩ (.int .i64 ((k : Int) + 1 + 1)) = V3 ∧ V3.setCell ⟨g, i * 5 + 3, none⟩ (.int .i64 ((k : Int) + 1 + 1 + 1)) = V4 ∧ V4.setCell ⟨g, i * 5 + 4, none⟩ (.int .i64 ((k : Int) + 1 + 1 + 1 + 1)) = V5 ∧
      (w2.frozen? ⟨g, i * 5, none⟩ = false ∧ w2.cell? ⟨g, i * 5, none⟩ = some z0) ∧ (V1.frozen? ⟨g, i * 5 + 1, none⟩ = false ∧ V1.cell? ⟨g, i * 5 + 1, none⟩ = some z1) ∧ (V2.frozen? ⟨g, i * 5 + 2, none⟩ = false ∧ V2.cell? ⟨g, i * 5 + 2, none⟩ = some z2) ∧ (V3.frozen? ⟨g, i * 5 + 3, none⟩ = false ∧ V3.cell? ⟨g, i * 5 + 3, none⟩ = some z3) ∧ (V4.frozen? ⟨g, i * 5 + 4, none⟩ = false ∧ V4.cell? ⟨g, i * 5 + 4, none⟩ = some z4) ∧
      Hid (Ny B V5 (.slice (some ⟨g, 0, none⟩) n cap) (L ++ mkN k :: R) ∧ w2.grownBy V5 (some g)) := by
  obtain ⟨xt, xa, xb, xc, xd⟩ := x
  obtain ⟨a1, b1, c1, z0, d1⟩ := h.put (o := i * 5) (j := 0) (u := .string (mtx k)) (y := ⟨mtx k, xa, xb, xc, xd⟩) (by rw [hm]; rfl) (by omega) rfl
  obtain ⟨a2, b2, c2, z1, d2⟩ := a1.put (o := i * 5 + 1) (j := 1) (u := .int .i64 ((k : Int) + 1)) (y := ⟨mtx k, (k : Int) + 1, xb, xc, xd⟩) (by rw [hm]) (by omega) rfl
  obtain ⟨a3, b3, c3, z2, d3⟩ := a2.put (o := i * 5 + 2) (j := 2) (u := .int .i64 ((k : Int) + 1 + 1)) (y := ⟨mtx k, (k : Int) + 1, (k : Int) + 1 + 1, xc, xd⟩) (by rw [hm]) (by omega) rfl
  obtain ⟨a4, b4, c4, z3, d4⟩ := a3.put (o := i * 5 + 3) (j := 3) (u := .int .i64 ((k : Int) + 1 + 1 + 1)) (y := ⟨mtx k, (k : Int) + 1, (k : Int) + 1 + 1, (k : Int) + 1 + 1 + 1, xd⟩) (by rw [hm]) (by omega) rfl
  obtain ⟨a5, b5, c5, z4, d5⟩ := a4.put (o := i * 5 + 4) (j := 4) (u := .int .i64 ((k : Int) + 1 + 1 + 1 + 1)) (y := mkN k) (by rw [hm]) (by omega) rfl
  exact ⟨_, _, _, _, _, z0, z1, z2, z3, z4, rfl, rfl, rfl, rfl, rfl, ⟨c1, d1⟩, ⟨c2, d2⟩, ⟨c3, d3⟩, ⟨c4, d4⟩, ⟨c5, d5⟩, hide ⟨a5, (((b1.trans b2).trans b3).trans b4).trans b5⟩⟩
set_option maxRecDepth 100000 in
set_option maxHeartbeats 4000000 in
theorem markNodesI (B k0 : Nat) (v : Value) (L : List Nd) (w : World) (h : Ny B w v L) (hL : L.length ≤ 200000) (hk1 : 1 ≤ k0) (hk : k0 ≤ 10) :
    Calls Tryd.prog 32 #[v, .int .i64 (k0 : Int)] w fun e w' => e = .returned (.int .i64 ((k0 + 5 * L.length : Nat) : Int)) ∧ Ny B w' v (mkL k0 L.length) ∧ w.grownBy w' v.ownBlock := by
  obtain ⟨a, c, rfl⟩ := own_formN h
  have H := hide h
  clear h
  go_enter Tryd.func32, Tryd.ntmps32
  go_wp2
  go_loopw [1, 5] (fun kv iv wr => ∃ i : Nat, i ≤ L.length ∧ kv = .int .i64 ((k0 + 5 * i : Nat) : Int) ∧ iv = .int .i64 (i : Int) ∧ Hid (Ny B wr (.slice a L.length c) (mkL k0 i ++ L.drop i)) ∧ Hid (w.grownBy wr (Value.slice a L.length c).ownBlock)) (fun _ iv _ => (L.length - intOf iv).toNat)
  case atStart => exact ⟨0, by omega, by simp, rfl, hide (by simpa [mkL] using unhide H), hide (gn_some (grown_of (Below.refl _ _)))⟩
  case round =>
    obtain ⟨i, hi, rfl, rfl, HO, HG⟩ := hrel
    by_cases h : i < L.length
    · obtain ⟨g, d, e⟩ := Ny.head (n := 0) (unhide H) (by omega)
      injection e with e _ e'
      subst e e'
      have hd := drop_ndN L i h
      rw [hd] at HO
      have hm : (mkL k0 i).length = i := mkL_len k0 i
      have HG' : Hid (w.grownBy wr (some g)) := HG
      generalize nthN L i = x at *
      obtain ⟨xt, xa, xb, xc, xd⟩ := x
      have CM := hide (markText_any (k0 + 5 * i) wr (by omega) (by omega))
      generalize hK : k0 + 5 * i = K at *
      have hK2 : K ≤ 2000000 := by omega
      clear hd HG
      go_wp2_with (go_at_call 55; refine (unhide CM).mono ?_; rintro e w2 ⟨rfl, hb2⟩; have O2 := hide (show Ny B w2 _ _ from ownsRow_below (unhide HO) hb2); have G2 := hide ((unhide HG').trans (gn_some (g := some g) (grown_of hb2))); clear hb2; obtain ⟨V1, V2, V3, V4, V5, z0, z1, z2, z3, z4, s0, s1, s2, s3, s4, ⟨f0, p0⟩, ⟨f1, p1⟩, ⟨f2, p2⟩, ⟨f3, p3⟩, ⟨f4, p4⟩, HE⟩ := mark_chain hm (unhide O2) K)
      have HN := hide (unhide HE).1
      have HGN := hide ((unhide G2).trans (unhide HE).2)
      clear HE O2 G2 s0 s1 s2 s3 s4 f0 f1 f2 f3 f4 p0 p1 p2 p3 p4 CM HO HG'
      go_roundw
      case rel =>
        refine ⟨i + 1, by omega, by rw [← hK]; go_num, by go_num, hide ?_, HGN⟩
        have e : mkL k0 (i + 1) = mkL k0 i ++ [mkN K] := by rw [← hK]; rfl
        rw [e, List.append_assoc]
        exact unhide HN
      case measure => simp [intOf]; omega
    · obtain rfl : i = L.length := by omega
      have HO' : Hid (Ny B wr (.slice a L.length c) (mkL k0 L.length)) := hide (by have := unhide HO; rw [List.drop_length, List.append_nil] at this; exact this)
      clear HO
      go_wp2
      go_ret
      exact ⟨rfl, unhide HO', unhide HG⟩
end Go.Proofs.YtjhmkiecpefniaaDoor.Rop
