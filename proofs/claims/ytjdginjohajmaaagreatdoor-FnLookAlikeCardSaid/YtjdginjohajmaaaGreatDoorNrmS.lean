/- The specification's normal form of points. -/
import Derived.Test.YtjdginjohajmaaaGreatDoorCmaS
import Derived.Test.YtjdginjohajmaaaGreatDoorDecL
import Derived.Deep.CutRange
import Derived.Test.YtjdginjohajmaaaGreatDoorStpC
import Derived.Test.YtjdginjohajmaaaGreatDoorAppG
namespace Go.Proofs.YtjdginjohajmaaaGreatDoor
open Go.RowKit
def nrmA (k : Bool) (l : List Int) : List Int := l.flatMap (allF k 2)
def isC (f : Int) : Bool := decide (f = 2 ∨ f = 4)
/-- Points in a form. -/
def nrmL (f : Int) (l : List Int) : List Int := if isC f = true then (cmpQ (ordL (nrmA (isK f) l))).1 else ordL (nrmA (isK f) l)
theorem nrmA_len (k : Bool) : ∀ (l : List Int), (nrmA k l).length ≤ 4 * l.length
  | [] => by simp [nrmA]
  | x :: l => by
    have h1 := nrmA_len k l
    have h2 := (allF_len k 2 x).2
    have h3 : nrmA k (x :: l) = allF k 2 x ++ nrmA k l := by simp [nrmA]
    rw [h3, List.length_append, List.length_cons]
    omega
theorem isCS (f : Int) (w : World) (h : isF f = true) : Calls Tryz.prog 67 #[.int .i64 f] w fun e w' => e = .returned (.bool (isC f)) ∧ w' = w := by
  have hf := of_decide_eq_true h
  obtain rfl | rfl | rfl | rfl : f = 1 ∨ f = 2 ∨ f = 3 ∨ f = 4 := by omega
  all_goals
    go_enter Tryz.func67, Tryz.ntmps67
    go_wp2
    go_ret
    exact ⟨rfl, rfl⟩
theorem nums_oneN (l : List Int) : ∀ u ∈ l.map (Value.int .i64), u.oneCell' = true := fun u hu => by
  obtain ⟨z, _, rfl⟩ := List.mem_map.1 hu
  rfl
theorem row_src {w : World} {B g n cap : Nat} {L : List Int} (h : w.ownsRow B 2 1 (.slice (some ⟨g, 0, none⟩) n cap) n (L.map (Value.int .i64))) : ∀ j u, (L.map (Value.int .i64))[j]? = some u → w.cell? ((⟨g, 0, none⟩ : Addr).add j) = some u := fun j u hj => by
  have hl : n = L.length := by have := h.1; simp at this; exact this.symm
  have hm : j < L.length := by
    have := (List.getElem?_eq_some_iff.1 hj).1
    simpa using this
  rw [addr_add, Nat.zero_add, h.cellAt j (by omega)]
  exact hj
theorem row_down {w : World} {B B' n : Nat} {v : Value} {xs : List Value} (h : w.ownsRow B 2 1 v n xs) (hb : B' ≤ B) : w.ownsRow B' 2 1 v n xs := by
  refine ⟨h.1, ?_⟩
  rcases h.2 with h' | ⟨g, cap, cur, hv, hg, r⟩
  · exact .inl h'
  · exact .inr ⟨g, cap, cur, hv, Nat.le_trans hb hg, r⟩
theorem composedNone (a : Option Addr) (cap : Nat) (w : World) : Calls Tryz.prog 68 #[.slice a 0 cap] w fun e w' => NewRow w w' e [] := by
  have O0 : Hid (NewRow w (w.alloc (.cells #[] 2)) (.returned (.slice (some ⟨w.heap.size, 0, none⟩) 0 0)) []) := hide ⟨_, rfl, World.ownsRow_lit w #[] 0 (Nat.le_refl _) (by unfold maxLen; omega) rfl, one_below _ _⟩
  go_enter Tryz.func68, Tryz.ntmps68
  go_wp2
  go_loopw [3, 4, 5] (fun sv tv iv wr => sv = .slice (some ⟨w.heap.size, 0, none⟩) 0 0 ∧ tv = .int .i64 (-1) ∧ iv = .int .i64 0 ∧ wr = w.alloc (.cells #[] 2)) (fun _ _ _ _ => 0)
  case atStart => exact ⟨rfl, rfl, rfl, rfl⟩
  case round =>
    obtain ⟨rfl, rfl, rfl, rfl⟩ := hrel
    go_wp2
    go_ret
    exact unhide O0
theorem composedRow (B0 n : Nat) (a : Option Addr) (cap : Nat) (L : List Int) (w : World) (ho : w.ownsRow B0 2 1 (.slice a n cap) n (L.map (Value.int .i64))) (hbd : n ≤ 1000000000) :
    Calls Tryz.prog 68 #[.slice a n cap] w fun e w' => NewRow w w' e (cmpQ L).1 := by
  have hn : n = L.length := by have := ho.1; simp at this; exact this.symm
  by_cases h0 : n = 0
  · obtain rfl : L = [] := List.length_eq_zero_iff.1 (by omega)
    subst h0
    exact composedNone a cap w
  · obtain ⟨g, c, hv⟩ := own_pos ho (by omega)
    injection hv with hv1 _ hv3
    subst hv1 hv3
    exact composedS B0 n g cap L w ho hbd
set_option maxHeartbeats 4000000 in
set_option maxRecDepth 100000 in
theorem normS (form : Int) (B0 n : Nat) (v : Value) (L : List Int) (w : World) (ho : w.ownsRow B0 2 1 v n (L.map (Value.int .i64))) (hp : ∀ p ∈ L, 0 ≤ p ∧ p ≤ 1114111) (hf : isF form = true) (hbd : n ≤ 131072) :
    Calls Tryz.prog 41 #[.int .i64 form, v] w fun e w' => NewRow w w' e (nrmL form L) := by
  have mixed := mixedO
  obtain ⟨i0, hi, hz0, hz1, hz2⟩ := info_parts info2
  have hn : n = L.length := by have := ho.1; simp at this; exact this.symm
  obtain ⟨a, cap, rfl⟩ := form_ownI ho
  obtain ⟨k, hk⟩ : ∃ k, k = isK form := ⟨_, rfl⟩
  have CK : Hid (∀ W, Calls Tryz.prog 65 #[.int .i64 form] W fun e w' => e = .returned (.bool k) ∧ w' = W) := hide (fun W => by rw [hk]; exact isKS form W hf)
  have CC := hide (fun W => isCS form W hf)
  have HO := hide ho
  have HN := hide hn
  have HK := hide hk
  have HPt : Hid (∀ j, j < n → 0 ≤ nth L j ∧ nth L j ≤ 1114111) := hide (fun j hj => by
    have e : nth L j = L[j]'(by omega) := by simp [nth, List.getD, show j < L.length by omega]
    rw [e]
    exact hp _ (List.getElem_mem _))
  have O0 : Hid ((w.alloc (.cells #[] 2)).ownsRow w.heap.size 2 1 (.slice (some ⟨w.heap.size, 0, none⟩) 0 0) 0 ((nrmA k (L.take 0)).map (Value.int .i64))) := hide (World.ownsRow_lit w #[] 0 (Nat.le_refl _) (by unfold maxLen; omega) rfl)
  have W0 : Hid (Below w.heap.size w (w.alloc (.cells #[] 2))) := hide (one_below _ _)
  clear ho hn hp hf hk
  go_enter Tryz.func41, Tryz.ntmps41
  go_wp2
  go_loopw [5, 6] (fun sv iv wr => ∃ (i d g2 c2 : Nat), i ≤ n ∧ d ≤ 4 * i ∧ sv = .slice (some ⟨g2, 0, none⟩) d c2 ∧ iv = .int .i64 i ∧ Hid (wr.ownsRow w.heap.size 2 1 (.slice (some ⟨g2, 0, none⟩) d c2) d ((nrmA k (L.take i)).map (Value.int .i64))) ∧ Hid (Below w.heap.size w wr)) (fun _ iv _ => n - (intOf iv).toNat)
  case atStart => exact ⟨0, 0, w.heap.size, 0, Nat.zero_le _, Nat.le_refl _, rfl, rfl, O0, W0⟩
  case round =>
    obtain ⟨i, d, g2, c2, hin, hd4, rfl, rfl, HR, HB⟩ := hrel
    clear O0 W0
    by_cases hlt : i < n
    · have hlt' : (i : Int) < (n : Int) := by omega
      obtain ⟨g, c1, hv⟩ := own_pos (unhide HO) (by omega)
      injection hv with hv1 _ hv3
      subst hv1 hv3
      have hgl := ((unhide HO).lt g rfl).2
      have c0 := ((unhide HB).cell (p := ⟨g, i, none⟩) hgl).trans (cell_at (unhide HO) i hlt)
      have CA := hide (fun W => allS k 2 (Nat.le_refl _) (nth L i) W (all_deep k _) ((unhide HPt) i hlt))
      have HT : Hid (nrmA k (L.take (i + 1)) = nrmA k (L.take i) ++ allF k 2 (nth L i)) := hide (flat_take k 2 L i (by have := unhide HN; omega))
      have hxl := allF_len k 2 (nth L i)
      have hx1 := hxl.1
      have hx2 : (allF k 2 (nth L i)).length ≤ 4 := hxl.2
      have hbs := (unhide HB).size
      clear hxl
      generalize allF k 2 (nth L i) = xs at *
      generalize nth L i = y at *
      generalize nrmA k (L.take i) = ys at *
      go_upto_region 5 with fail
      go_region_law (first
        | (refine step_call rfl 65 #[.tmp 19] #[2] rfl #[.int .i64 form] (by simp [Act.eval, Act.put]) (by kernel_rfl) (((unhide CK) _).mono ?_); rintro e w2 ⟨rfl, rfl⟩; refine ⟨_, rfl, ?_⟩)
        | (refine step_call rfl 64 #[.tmp 18, .tmp 20] #[2, 4] rfl #[.int .i64 y, .bool k] (by simp [Act.eval]) (by kernel_rfl) (((unhide CA) _).mono ?_); rintro e w2 ⟨u, rfl, ho2, hb2⟩; obtain ⟨g3, c3, hu⟩ := own_pos ho2 hx1; subst hu; have HO3 := hide ho2; have HR3 := hide (ownsRow_below (own_drewN (unhide HR) 1) hb2); have HB3 := hide ((bdrew (unhide HB) 1).trans (hb2.mono hbs)); have hs3 : wr.heap.size ≤ w2.heap.size := hb2.size; clear ho2 hb2; refine ⟨_, rfl, ?_⟩)
        | (refine step_append_own rfl (.tmp 14) (.tmp 21) 28 rfl w.heap.size 2 i0 (.int .i64 0) 1 8 Tryz.underlying28 hi hz0 hz1 hz2 rfl (by decide) (.slice (some ⟨g2, 0, none⟩) d c2) d (ys.map (Value.int .i64)) (by simp [Act.eval]) (unhide HR3) ⟨g3, 0, none⟩ xs.length c3 (xs.map (Value.int .i64)) (by simp [Act.eval]) (by simp) (row_src (unhide HO3)) (nums_oneN _) (by unfold maxLen; omega) (by omega) (by omega) ?_; intro v' w3 hown' hgrow))
      all_goals
        obtain ⟨g4, c4, hv'⟩ := own_pos hown' (by omega)
        subst hv'
        have R4 : Hid (w3.ownsRow w.heap.size 2 1 (.slice (some ⟨g4, 0, none⟩) (d + xs.length) c4) (d + xs.length) ((nrmA k (L.take (i + 1))).map (Value.int .i64))) := hide (by rw [unhide HT, List.map_append]; exact hown')
        have B4 : Hid (Below w.heap.size w w3) := hide ((unhide HB3).grown hgrow (by omega) (fun m hm => ((unhide HR3).lt m hm).1))
        clear hown' hgrow HR3 HB3 HO3
        go_wp2
        go_roundw
        case rel => exact ⟨i + 1, d + xs.length, g4, c4, by omega, by omega, rfl, by go_num, R4, B4⟩
        case measure => simp [intOf]; omega
    · obtain rfl : i = n := by omega
      have hlt' : ¬ (i : Int) < (i : Int) := by omega
      have HR1 := unhide HR
      rw [show L.take i = L from by rw [unhide HN, List.take_length]] at HR1
      have CO := hide (orderedS w.heap.size d g2 c2 (nrmA k L) wr HR1 (by omega))
      have hdl : (ordL (nrmA k L)).length ≤ 600000 := by
        rw [ordL_len]
        have := nrmA_len k L
        have := unhide HN
        omega
      have HE1 : Hid (isC form = true → (cmpQ (ordL (nrmA k L))).1 = nrmL form L) := hide (fun h => by rw [nrmL, if_pos h, unhide HK])
      have HE2 : Hid (isC form = false → ordL (nrmA k L) = nrmL form L) := hide (fun h => by rw [nrmL, if_neg (by rw [h]; simp), unhide HK])
      clear HR HR1 HPt CK
      generalize ordL (nrmA k L) = Z at *
      go_wp2_with fail
      refine (unhide CO).mono ?_
      rintro e w2 ⟨u, rfl, ho2, hb2⟩
      obtain ⟨a2, cap2, rfl⟩ := form_ownI ho2
      have HO2 := hide ho2
      have B2 := hide ((unhide HB).trans (hb2.mono (unhide HB).size))
      have CP := hide (composedRow wr.heap.size Z.length a2 cap2 Z w2 ho2 (by omega))
      have hbw := (unhide HB).size
      clear ho2 hb2 CO HB
      cases hc : isC form with
      | false =>
        have F : Hid (NewRow w w2 (.returned (.slice a2 Z.length cap2)) (nrmL form L)) := hide (by
          rw [← (unhide HE2) hc]
          exact ⟨_, rfl, row_down (unhide HO2) hbw, unhide B2⟩)
        rw [hc] at CC
        clear HE1 HE2 HO2 B2 CP hc
        generalize Z.length = zl at *
        go_wp2_with (go_at_call 67; refine ((unhide CC) _).mono ?_; rintro e w3 ⟨rfl, rfl⟩)
        go_ret
        exact unhide F
      | true =>
        have F : Hid (∀ e w', NewRow w2 w' e (cmpQ Z).1 → NewRow w w' e (nrmL form L)) := hide (fun e w' h => by
          rw [← (unhide HE1) hc]
          exact newRow_from h (unhide B2))
        rw [hc] at CC
        clear HE1 HE2 HO2 B2 hc
        generalize Z.length = zl at *
        generalize (cmpQ Z).1 = Y at *
        go_wp2_with (first | (go_at_call 67; refine ((unhide CC) _).mono ?_; rintro e w3 ⟨rfl, rfl⟩) | (go_at_call 68; refine (unhide CP).mono ?_; rintro e w4 ⟨v4, rfl, hn4⟩))
        go_ret
        exact (unhide F) _ _ ⟨_, rfl, hn4⟩
end Go.Proofs.YtjdginjohajmaaaGreatDoor
