/- A pattern put into the tree. -/
import Derived.Test.YtgmpkapeemiecaaHypE
import Derived.Lib.ConvBytes
import Derived.Deep.Cut
namespace Go.Proofs.Ytgmpkapeemiecaa
namespace Hyp
open Go.RowKit
set_option linter.unusedVariables false
set_option linter.unusedSimpArgs false
theorem mixedA : Try.prog.follows Departure.mixedOrders = true := by kernel_rfl
theorem bwA (w : World) (e : TypeId) (s : ByteArray) : Below w.heap.size w (Lib.bytesWorld w e s) := ⟨rfl, rfl, rfl, by rw [Lib.bytesWorld_size]; omega, fun k hk => Lib.bytesWorld_at_old w e s k hk⟩
theorem byte_at {Ls : List Int} (hl : ∀ x ∈ Ls, ltr x) (i : Nat) (h : i < Ls.length) : ((((strOfNums Ls).data.toList.getD i 0).toNat : Nat) : Int) = Ls.getD i 0 := by
  rw [strOfNums_data, List.getD_eq_getElem?_getD, List.getD_eq_getElem?_getD, List.getElem?_map, List.getElem?_eq_getElem h]
  have := hl _ (List.getElem_mem h)
  unfold ltr at this
  simp only [Option.map_some, Option.getD_some]
  rw [UInt8.toNat_ofNat_of_lt' (by show (Ls[i]).toNat < 256; omega)]
  omega
theorem own_full {w : World} {B g n : Nat} {xs : List Value} (h : w.ownsRow B 5 1 (.slice (some ⟨g, 0, none⟩) n n) n xs) : B ≤ g ∧ w.heap[g]? = some (.cells xs.toArray 5 (0, 0)) := by
  rcases h.2 with ⟨h', _⟩ | ⟨g', cap, cur, hv, hb, hh, hn, hm, hs, ht⟩
  · simp at h'
  · simp only [Value.slice.injEq, Option.some.injEq, Addr.mk.injEq, and_true, true_and] at hv
    obtain ⟨rfl, rfl⟩ := hv
    have e : cur.toList = xs := by
      rw [← ht, Nat.mul_one, List.take_of_length_le (by rw [Array.length_toList, hs]; omega)]
    refine ⟨hb, ?_⟩
    rw [hh, ← e]
/-- What the call leaves alone: blocks that were there and are not the tree's. -/
def Kp (A' A : Mp) (w w' : World) (Q : Nat → Prop) : Prop := ∀ x, Q x → w'.heap[x]? = w.heap[x]? ∧ Nb A' x
theorem Nb.upd {A : Mp} {x : Nat} (h : Nb A x) {p : List Nat} {y : Nd} (h1 : y.1 ≠ x) (h2 : ∀ g L, y.2 = some (g, L) → g ≠ x) : Nb (upd A p y) x := by
  intro q z c
  by_cases e : q = p
  · subst e
    rw [upd_at] at c
    obtain rfl := Option.some.inj c
    exact ⟨h1, h2⟩
  · rw [upd_ne e] at c
    exact h q z c
def zN : Array Value := #[.pointer none, .pointer none, .pointer none, .pointer none, .pointer none, .pointer none, .pointer none, .pointer none, .pointer none, .pointer none, .pointer none, .pointer none, .pointer none, .pointer none, .pointer none, .pointer none, .pointer none, .pointer none, .pointer none, .pointer none, .pointer none, .pointer none, .pointer none, .pointer none, .pointer none, .pointer none, .pointer none, .slice none 0 0]
theorem zN_new (w : World) : Nde (w.alloc (.cells zN 56)) w.heap.size (fun _ => .pointer none) (.slice none 0 0) := by
  refine ⟨zN, heap_alloc_new _ _, rfl, fun k hk => ?_, rfl⟩
  rcases (by omega : k = 0 ∨ k = 1 ∨ k = 2 ∨ k = 3 ∨ k = 4 ∨ k = 5 ∨ k = 6 ∨ k = 7 ∨ k = 8 ∨ k = 9 ∨ k = 10 ∨ k = 11 ∨ k = 12 ∨ k = 13 ∨ k = 14 ∨ k = 15 ∨ k = 16 ∨ k = 17 ∨ k = 18 ∨ k = 19 ∨ k = 20 ∨ k = 21 ∨ k = 22 ∨ k = 23 ∨ k = 24 ∨ k = 25 ∨ k = 26) with rfl | rfl | rfl | rfl | rfl | rfl | rfl | rfl | rfl | rfl | rfl | rfl | rfl | rfl | rfl | rfl | rfl | rfl | rfl | rfl | rfl | rfl | rfl | rfl | rfl | rfl | rfl <;> rfl
theorem made8 (m : Nat) : (madeCells #[Value.int .u8 0] m).toList = u8s (List.replicate m 0) := by
  unfold u8s
  rw [List.map_replicate]
  exact toList_madeCells_one _ _
theorem upd_root {A : Mp} {p : List Nat} {b b0 : Nat} {dg dg' d : Option (Nat × List Int)} (e : A p = some (b, dg)) (h : A [] = some (b0, d)) : ∃ d', upd A p (b, dg') [] = some (b0, d') := by
  by_cases c : ([] : List Nat) = p
  · subst c
    rw [e] at h
    injection h with h
    injection h with h1 h2
    exact ⟨dg', by rw [upd_at, h1]⟩
  · exact ⟨d, by rw [upd_ne c]; exact h⟩
/-- The digits that lie at a path. -/
def dgA (A : Mp) (p : List Nat) : Option (List Int) := (A p).bind fun x => x.2.map fun y => y.2
theorem dgA_some {A : Mp} {p : List Nat} {b g : Nat} {L : List Int} (h : A p = some (b, some (g, L))) : dgA A p = some L := by unfold dgA; rw [h]; rfl
theorem dgA_none {A : Mp} {p : List Nat} {b : Nat} (h : A p = some (b, none)) : dgA A p = none := by unfold dgA; rw [h]; rfl
theorem dgA_upd (A : Mp) (p : List Nat) (b g : Nat) (L : List Int) (q : List Nat) : dgA (upd A p (b, some (g, L))) q = if q = p then some L else dgA A q := by
  by_cases e : q = p
  · subst e
    rw [if_pos rfl, dgA_some (upd_at _ _ _)]
  · rw [if_neg e]
    unfold dgA
    rw [upd_ne e]
theorem dgA_new {A : Mp} {p : List Nat} {b : Nat} (h : A p = none) : dgA (upd A p (b, none)) = dgA A := by
  funext q
  by_cases e : q = p
  · subst e
    rw [dgA_none (upd_at _ _ _)]
    unfold dgA
    rw [h]
    rfl
  · unfold dgA
    rw [upd_ne e]
/-- Digits put at a path: the greater ones, where there are some. -/
def put (D : List Nat → Option (List Int)) (p : List Nat) (O : List Int) (q : List Nat) : Option (List Int) := if q = p then some (rsk ((D p).getD (List.replicate O.length 0)) 0 O O.length) else D q
/-- Behind raise: a tree still. -/
theorem tree_raised {B b0 y1 g : Nat} {w W5 : World} {A : Mp} {p : List Nat} {L O : List Int} (hB : B ≤ w.heap.size) (hT : Tr B W5 A) (hY : A p = some (y1, some (g, L))) (h0 : ∃ d, A [] = some (b0, d)) (hb : Below B w W5) (D : List Nat → Option (List Int)) (hD : ∀ q, D q = if q = p then some (rsk L 0 O O.length) else dgA A q) :
    ∀ W', W'.heap[g]? = some (.cells (u8s (rsk L 0 O O.length)).toArray 5 (0, 0)) → W5.grownBy W' (some g) → (∃ A' d', Tr B W' A' ∧ A' [] = some (b0, d') ∧ dgA A' = D) ∧ Below B w W' := by
  intro W' h1 h2
  have ndk := hT.node _ _ hY
  have hne : y1 ≠ g := hT.ndg hY hY
  obtain ⟨d, hd⟩ := h0
  obtain ⟨d', hd'⟩ := upd_root (dg' := some (g, rsk L 0 O O.length)) hY hd
  have hdg := hT.dig _ _ _ _ hY
  refine ⟨⟨_, d', hT.digits hY g (rsk L 0 O O.length) hdg.1 (fun q y e => hT.ndg e hY) (fun q b' L' e c => e (hT.dinj _ _ _ _ _ _ _ c hY)) (by rw [rsk_len]; exact hdg.2.2) ?_ h1 (fun k hk _ hk2 => h2.block k hk (fun c => hk2 (by injection c with c))), hd', funext fun q => by rw [dgA_upd, hD q]⟩, ?_⟩
  · have n2 := ndk.2.kept (h2.block _ ndk.2.lt (fun c => hne (by injection c)))
    have : dgV (some (g, rsk L 0 O O.length)) = dgV (some (g, L)) := by unfold dgV; simp only [rsk_len]
    rw [this]
    exact n2
  · exact hb.grown h2 (by have := hb.size; omega) (fun k e => by injection e with e; rw [← e]; exact hdg.1)
set_option maxRecDepth 100000 in
set_option maxHeartbeats 1500000 in
theorem addH (A : Mp) (B b0 : Nat) (d0 : Option (Nat × List Int)) (w : World) (hT : Tr B w A) (h0 : A [] = some (b0, d0)) (hB : B ≤ w.heap.size) (Ls Dg : List Int) (hl : ∀ x ∈ Ls, ltr x) (hd : Dg.length = Ls.length + 1) (hlen : Ls.length ≤ 20)
    (h oc : Nat) (hh : h < w.heap.size) (hc : ∀ i, i < Dg.length → w.cell? ⟨h, 0 + i, none⟩ = some (.int .u8 (Dg.getD i 0))) (hNb : Nb A h) (hBh : B ≤ h) :
    Calls Try.prog 33 #[.pointer (some ⟨b0, 0, none⟩), .agg #[.string (strOfNums Ls), .slice (some ⟨h, 0, none⟩) Dg.length oc]] w fun e w' => (∃ v, e = .returned v) ∧ (∃ A' d', Tr B w' A' ∧ A' [] = some (b0, d') ∧ dgA A' = put (dgA A) (Ls.map kd) Dg) ∧ Below B w w' := by
  obtain ⟨i0, hi, hz0, hz1, hz2⟩ := info_parts info5h
  have hmx := mixedA
  have hcv : ∀ W : World, (convert 9 53 (.string (strOfNums Ls))).run Try.prog W = .ok (.slice (some ⟨W.heap.size, 0, none⟩) (strOfNums Ls).size (grownCap W (strOfNums Ls).size 0 5)) (Lib.bytesWorld W 5 (strOfNums Ls)) := fun W => Lib.run_convert_string_bytes W 9 53 5 (strOfNums Ls) Try.underlying9 Try.underlying53 Try.underlying5
  have CK := hide (fun i (hi : i < Ls.length) W => kindH (Ls.getD i 0) (hl _ (by rw [List.getD_eq_getElem?_getD, List.getElem?_eq_getElem hi]; exact List.getElem_mem hi)) W)
  have HK := hide (fun i (hi : i < Ls.length) => kd_lt (hl (Ls.getD i 0) (by rw [List.getD_eq_getElem?_getD, List.getElem?_eq_getElem hi]; exact List.getElem_mem hi)))
  have hby := hide (fun i (h : i < Ls.length) => byte_at hl i h)
  have hsz : (strOfNums Ls).size = Ls.length := strOfNums_size Ls
  have HT := hide hT
  have HNB := hide hNb
  have HCD := hide hc
  obtain ⟨x, hx⟩ : ∃ x, strOfNums Ls = x := ⟨_, rfl⟩
  rw [hx] at hcv hby hsz ⊢
  obtain ⟨m, hm⟩ : ∃ m, Dg.length = m := ⟨_, rfl⟩
  have HM : Hid (m = Ls.length + 1) := hide (hm ▸ hd)
  have HMD := hide hm
  rw [hm] at HCD ⊢
  have hm21 : m ≤ 21 := by have := unhide HM; omega
  clear hT hNb hc hl hx hm hd
  go_enter Try.func33, Try.ntmps33
  go_wp2_with fail
  obtain ⟨w1, hw1⟩ : ∃ w1, w1 = w.alloc (.cells #[.string x, .slice (some ⟨h, 0, none⟩) m oc] 58) := ⟨_, rfl⟩
  rw [← hw1]
  obtain ⟨w2, hw2⟩ : ∃ w2, w2 = Lib.bytesWorld w1 5 x := ⟨_, rfl⟩
  rw [← hw2]
  have z1 : w1.heap.size = w.heap.size + 1 := by rw [hw1]; simp
  have z2 : w2.heap.size = w.heap.size + 2 := by rw [hw2, Lib.bytesWorld_size, z1]
  have b1 : Below w.heap.size w w1 := by rw [hw1]; exact (Below.refl _ _).alloc (Nat.le_refl _) _
  have b2 : Below w1.heap.size w1 w2 := by rw [hw2]; exact bwA _ _ _
  have b12 : Below w.heap.size w w2 := b1.trans (b2.mono (by omega))
  have p1 : w2.heap[w.heap.size]? = some (.cells #[.string x, .slice (some ⟨h, 0, none⟩) m oc] 58 (0, 0)) := (b2.block _ (by omega)).trans (by rw [hw1]; exact heap_alloc_new _ _)
  have HC : Hid (∀ i, i < Ls.length → w2.cell? ⟨w.heap.size + 1, i, none⟩ = some (.int .u8 (Ls.getD i 0))) := hide (fun i hi => by
    rw [hw2, ← z1, Lib.bytesWorld_cell w1 5 x i (by omega), (unhide hby) i hi])
  have T2 : Hid (Tr B w2 A) := hide ((unhide HT).below b12)
  have N0 : Hid (Nb A w.heap.size ∧ Nb A (w.heap.size + 1)) := hide (by
    have f : ∀ q, w.heap.size ≤ q → Nb A q := fun q hq p y e => by
      have hlt := ((unhide HT).node p y e).2.lt
      refine ⟨by omega, fun g L e2 => ?_⟩
      obtain ⟨yb, yd⟩ := y
      simp only at e2
      subst e2
      have := (unhide HT).dlt e
      omega
    exact ⟨f _ (Nat.le_refl _), f _ (by omega)⟩)
  have B12 := hide b12
  have P1 := hide p1
  have hcD : Hid (∀ i, i < m → w2.cell? ⟨h, 0 + i, none⟩ = some (.int .u8 (Dg.getD i 0))) := hide (fun i hi => (b12.cell (p := ⟨h, 0 + i, none⟩) hh).trans ((unhide HCD) i hi))
  generalize grownCap w1 Ls.length 0 5 = cp
  clear hw1 hw2 b1 b2 b12 p1 z1 hcv HT HCD hby
  go_loopw [0, 11] (fun v0 v11 wr => ∃ (i : Nat) (A' : Mp) (y : Nd), i ≤ Ls.length ∧ v11 = .int .i64 (i : Int) ∧ v0 = .pointer (some ⟨y.1, 0, none⟩) ∧ Hid (Tr B wr A') ∧ Hid (A' ((Ls.map kd).take i) = some y) ∧ Hid (∃ d, A' [] = some (b0, d)) ∧ Hid (∀ q, (q = w.heap.size ∨ q = w.heap.size + 1 ∨ q = h) → wr.heap[q]? = w2.heap[q]? ∧ Nb A' q) ∧ Hid (Below B w2 wr) ∧ Hid (dgA A' = dgA A)) (fun _ v _ => Ls.length - (intOf v).toNat)
  case atStart => exact ⟨0, A, (b0, d0), by omega, rfl, rfl, T2, hide (by simpa using h0), hide ⟨d0, h0⟩, hide (fun q hq => ⟨rfl, by rcases hq with rfl | rfl | rfl; exact (unhide N0).1; exact (unhide N0).2; exact unhide HNB⟩), hide (Below.refl _ _), hide rfl⟩
  case round =>
    obtain ⟨i, A', y, hi2, rfl, rfl, HT', HY, H0, HQ, HBw, HDG⟩ := hrel
    have ny := (unhide HT').node _ _ (unhide HY)
    by_cases hlt : i < Ls.length
    · have hI : (i : Int) < (Ls.length : Int) := by omega
      have cI := (cell_same ((unhide HQ) (w.heap.size + 1) (.inr (.inl rfl))).1 i).trans ((unhide HC) i hlt)
      have CKi := hide (fun W => (unhide CK) i hlt W)
      have hk27 := (unhide HK) i hlt
      have hk27I : ((kd (Ls.getD i 0) : Nat) : Int) < 27 := by omega
      have hk0I : (0 : Int) ≤ ((kd (Ls.getD i 0) : Nat) : Int) := by omega
      have cc := ny.2.cell.1 _ hk27
      have cf := ny.2.cell.2.2 (kd (Ls.getD i 0))
      have hpk : Hid ((Ls.map kd).take (i + 1) = (Ls.map kd).take i ++ [kd (Ls.getD i 0)]) := hide (by
        rw [List.take_add_one, List.getElem?_map, List.getElem?_eq_getElem hlt, List.getD_eq_getElem?_getD, List.getElem?_eq_getElem hlt]
        rfl)
      generalize hcc : Ls.getD i 0 = c at *
      generalize hkk : kd c = k at *
      clear hcc hkk
      cases hch : A' ((Ls.map kd).take i ++ [k]) with
      | some z =>
        have ce : chV A' ((Ls.map kd).take i) k = .pointer (some ⟨z.1, 0, none⟩) := by unfold chV; rw [hch]; rfl
        rw [ce] at cc
        clear ce
        have HZ := hide (show A' ((Ls.map kd).take (i + 1)) = some z by rw [unhide hpk]; exact hch)
        clear hch
        go_wp2_with (go_at_call 39; refine ((unhide CKi) _).mono ?_; rintro e w' ⟨rfl, hw⟩; obtain rfl := hw.symm; clear hw)
        go_roundw
        case rel => exact ⟨i + 1, A', z, by omega, by go_num, rfl, HT', HZ, H0, HQ, HBw, HDG⟩
        case measure => simp [intOf]; omega
      | none =>
        have ce : chV A' ((Ls.map kd).take i) k = .pointer none := by unfold chV; rw [hch]; rfl
        rw [ce] at cc
        clear ce
        have hb3 : Below wr.heap.size wr (wr.alloc (.cells zN 56)) := (Below.refl _ _).alloc (Nat.le_refl _) _
        have n3 := zN_new wr
        have cA : (wr.alloc (.cells zN 56)).cell? ⟨y.1, k, none⟩ = some (.pointer none) := (hb3.cell (p := ⟨y.1, k, none⟩) ny.2.lt).trans cc
        have cB : (wr.alloc (.cells zN 56)).frozen? ⟨y.1, k, none⟩ = false := (ny.2.kept (hb3.block _ ny.2.lt)).cell.2.2 k
        have hsB := (unhide HBw).size
        have HDG3 := hide ((dgA_new (b := wr.heap.size) hch).trans (unhide HDG))
        have T3 := hide ((unhide HT').child (unhide HY) hk27 hch (by omega) hb3 n3)
        have HY3 := hide (show upd A' ((Ls.map kd).take i ++ [k]) (wr.heap.size, none) ((Ls.map kd).take (i + 1)) = some (wr.heap.size, none) by rw [unhide hpk]; exact upd_at _ _ _)
        have H03 : Hid (∃ d, upd A' ((Ls.map kd).take i ++ [k]) (wr.heap.size, none) [] = some (b0, d)) := hide (by
          obtain ⟨d, hd⟩ := unhide H0
          exact ⟨d, by rw [upd_ne (fun c => by simp at c)]; exact hd⟩)
        have B3 : Hid (Below B w2 ((wr.alloc (.cells zN 56)).setCell ⟨y.1, k, none⟩ (.pointer (some ⟨wr.heap.size, 0, none⟩)))) := hide (((unhide HBw).trans (hb3.mono (by omega))).setCell (p := ⟨y.1, k, none⟩) ny.1 _)
        have Q3 : Hid (∀ q, (q = w.heap.size ∨ q = w.heap.size + 1 ∨ q = h) → ((wr.alloc (.cells zN 56)).setCell ⟨y.1, k, none⟩ (.pointer (some ⟨wr.heap.size, 0, none⟩))).heap[q]? = w2.heap[q]? ∧ Nb (upd A' ((Ls.map kd).take i ++ [k]) (wr.heap.size, none)) q) := hide (fun q hq => by
          obtain ⟨a1, a2⟩ := (unhide HQ) q hq
          have hql : q < wr.heap.size := by rcases hq with rfl | rfl | rfl <;> omega
          refine ⟨((Below.heap_setCell _ _ _ _ (fun c => (a2 _ _ (unhide HY)).1 c.symm)).trans (hb3.block q hql)).trans a1, a2.upd (by show wr.heap.size ≠ q; omega) (fun g L c => by cases c)⟩)
        unfold zN at cA cB T3 B3 Q3
        clear n3 hb3 hch
        go_wp2_with (go_at_call 39; refine ((unhide CKi) _).mono ?_; rintro e w' ⟨rfl, hw⟩; obtain rfl := hw.symm; clear hw)
        go_roundw
        case rel => exact ⟨i + 1, _, (wr.heap.size, none), by omega, by go_num, rfl, T3, HY3, H03, Q3, B3, HDG3⟩
        case measure => simp [intOf]; omega
    · obtain rfl : i = Ls.length := by omega
      have c27 := ny.2.cell.2.1
      have f27 := ny.2.cell.2.2 27
      have pb := ((unhide HQ) w.heap.size (.inl rfl)).1.trans (unhide P1)
      have pc : wr.cell? ⟨w.heap.size, 1, none⟩ = some (.slice (some ⟨h, 0, none⟩) m oc) := by simp [World.cell?, pb]
      have HKT : Hid ((Ls.map kd).take Ls.length = Ls.map kd) := hide (by rw [List.take_of_length_le (by simp)])
      rw [unhide HKT] at HY ny
      clear HKT pb
      obtain ⟨y1, y2⟩ := y
      have hgB := (unhide HBw).size
      have HDN : Hid (Dg.length = Ls.length + 1) := hide ((unhide HMD).trans (unhide HM))
      have bww : Below B w wr := ((unhide B12).mono hB).trans (unhide HBw)
      cases y2 with
      | some gl =>
        obtain ⟨g, L⟩ := gl
        have c27' : wr.cell? ⟨y1, 27, none⟩ = some (.slice (some ⟨g, 0, none⟩) L.length L.length) := c27
        have dg := hide ((unhide HT').dig _ _ _ _ (unhide HY))
        have HLN : Hid (L.length = Ls.length + 1) := hide (by have := (unhide dg).2.2; simpa using this)
        have hcDw : ∀ j, j < Dg.length → wr.cell? ⟨h, 0 + j, none⟩ = some (.int .u8 (Dg.getD j 0)) := fun j hj => (cell_same ((unhide HQ) h (.inr (.inr rfl))).1 _).trans ((unhide hcD) j (by have := unhide HMD; omega))
        have hgh : h ≠ g := fun c => by have := ((unhide HQ) h (.inr (.inr rfl))).2 _ _ (unhide HY); exact this.2 g L rfl c.symm
        have CR := hide (fun W (hW : Below wr.heap.size wr W) => raiseH g 0 L.length L.length h 0 oc L Dg W ((hW.block _ (lt_of_block (unhide dg).2.1)).trans (unhide dg).2.1) (fun j hj => (hW.cell (p := ⟨h, 0 + j, none⟩) (by show h < _; omega)).trans (hcDw j hj)) hgh (by have := hW.size; omega) (by omega) (by have := unhide HLN; have := unhide HDN; omega) (by have := unhide HLN; omega))
        have FIN := hide (tree_raised hB (unhide HT') (unhide HY) (unhide H0) bww (O := Dg) (put (dgA A) (Ls.map kd) Dg) (fun q => by unfold put; rw [← unhide HDG, dgA_some (unhide HY)]; rfl))
        rw [unhide HMD] at CR FIN
        clear hcDw c27
        generalize L.length = n at *
        have hq := nil_no ⟨g, 0, none⟩ n n
        go_wp2_with fail
        go_region_with (go_at_call 40; refine ((unhide CR) _ (bdrew (Below.refl _ _) 1)).mono ?_; rintro e w9 ⟨⟨v, rfl⟩, hr9, hg9⟩)
        all_goals
          refine bodyPost_end (v := .tuple #[]) (by simp [results, Try.f33, go_sem]; try rfl) rfl ⟨⟨_, rfl⟩, ?_⟩
          exact (unhide FIN) w9 hr9 ⟨hg9.os, hg9.tape, hg9.output, hg9.size, hg9.block⟩
      | none =>
        have c27' : wr.cell? ⟨y1, 27, none⟩ = some (.slice none 0 0) := c27
        clear c27
        have hq := nil_yes
        go_wp2_with (at_make; refine wpList_make_full _ rfl _ _ 53 rfl wr.heap.size 5 i0 (.int .u8 0) 1 Try.underlying53 hi hz0 hz1 .i64 .i64 _ _ m rfl rfl rfl rfl (by first | (rw [hz2]; omega) | (unfold maxLen; omega) | omega) (by first | (rw [hz2]; omega) | (unfold maxLen; omega) | omega) (by first | (rw [hz2]; omega) | (unfold maxLen; omega) | omega) ?_)
        intro w5 hown hgrow
        obtain ⟨g, hg⟩ : ∃ g, g = wr.heap.size := ⟨_, rfl⟩
        have hrow := (own_full hown).2
        rw [made8, ← hg] at hrow
        have hbm : Below wr.heap.size wr w5 := ⟨hgrow.os, hgrow.tape, hgrow.output, hgrow.size, fun k hk => hgrow.block k hk (fun c => by cases c)⟩
        have hgl : g < w5.heap.size := lt_of_block hrow
        have hy1 : y1 < wr.heap.size := ny.2.lt
        have n5 := ny.2.kept (hbm.block _ hy1)
        have k27 : w5.cell? ⟨y1, 27, none⟩ = some (.slice none 0 0) := n5.cell.2.1
        have kf27 : w5.frozen? ⟨y1, 27, none⟩ = false := n5.cell.2.2 27
        have hyg : y1 ≠ g := by omega
        obtain ⟨w6, hw6⟩ : ∃ w6, w6 = w5.setCell ⟨y1, 27, none⟩ (.slice (some ⟨g, 0, none⟩) m m) := ⟨_, rfl⟩
        have r6 : w6.heap[g]? = some (.cells (u8s (List.replicate m 0)).toArray 5 (0, 0)) := by rw [hw6]; exact (Below.heap_setCell _ _ _ _ (Ne.symm hyg)).trans hrow
        have o6 : ∀ k, k < wr.heap.size → k ≠ y1 → w6.heap[k]? = wr.heap[k]? := fun k hk h1 => by rw [hw6]; exact (Below.heap_setCell _ _ _ _ h1).trans (hbm.block k hk)
        have d6 : Nde w6 y1 (chV A' (Ls.map kd)) (dgV (some (g, List.replicate m 0))) := by
          rw [hw6]
          have : dgV (some (g, List.replicate m (0 : Int))) = .slice (some ⟨g, 0, none⟩) m m := by unfold dgV; simp only [List.length_replicate]
          rw [this]
          exact n5.setD _
        have hlt' : ∀ q z, A' q = some z → z.1 ≠ g := fun q z c => by have := ((unhide HT').node q z c).2.lt; omega
        have T6 := (unhide HT').digits (unhide HY) g (List.replicate m 0) (by omega) hlt' (fun q b' L' _ c => by have := (unhide HT').dlt c; omega) (by have := unhide HM; simp; exact this) d6 r6 (fun k hk h1 _ => o6 k hk h1)
        have Y6 : upd A' (Ls.map kd) (y1, some (g, List.replicate m 0)) (Ls.map kd) = some (y1, some (g, List.replicate m 0)) := upd_at _ _ _
        have b6 : Below B w w6 := by rw [hw6]; exact (bww.trans (hbm.mono (by omega))).setCell (p := ⟨y1, 27, none⟩) ny.1 _
        have H6 : ∃ d, upd A' (Ls.map kd) (y1, some (g, List.replicate m 0)) [] = some (b0, d) := by
          obtain ⟨d, hd⟩ := unhide H0
          exact upd_root (unhide HY) hd
        have hln6 : (List.replicate m (0 : Int)).length = m := List.length_replicate
        have FIN := hide (tree_raised hB T6 Y6 H6 b6 (O := Dg) (put (dgA A) (Ls.map kd) Dg) (fun q => by unfold put; rw [dgA_upd, ← unhide HDG, dgA_none (unhide HY), unhide HMD]; by_cases e : q = Ls.map kd <;> simp [e]))
        have hq := (unhide HQ) h (.inr (.inr rfl))
        have hh6 : h < wr.heap.size := by omega
        have hny1 : h ≠ y1 := fun c => (hq.2 _ _ (unhide HY)).1 c.symm
        have e6 : w6.heap[h]? = w2.heap[h]? := (o6 h hh6 hny1).trans hq.1
        have z6 : wr.heap.size ≤ w6.heap.size := by rw [hw6]; have := hbm.size; simpa using this
        have CR := hide (fun W (hW : Below w6.heap.size w6 W) => raiseH g 0 m m h 0 oc (List.replicate m 0) Dg W ((hW.block _ (lt_of_block r6)).trans r6) (fun j hj => (hW.cell (p := ⟨h, 0 + j, none⟩) (by show h < _; omega)).trans ((cell_same e6 _).trans ((unhide hcD) j (by have := unhide HMD; omega)))) (by omega) (by have := hW.size; omega) (by omega) (by have := unhide HMD; omega) (by omega))
        have x27 : w6.cell? ⟨y1, 27, none⟩ = some (.slice (some ⟨g, 0, none⟩) m m) := by
          have := d6.cell.2.1
          unfold dgV at this
          simp only [List.length_replicate] at this
          exact this
        have hnp : w.heap.size ≠ y1 := fun c => (((unhide HQ) w.heap.size (.inl rfl)).2 _ _ (unhide HY)).1 c.symm
        have x1 : w6.cell? ⟨w.heap.size, 1, none⟩ = some (.slice (some ⟨h, 0, none⟩) m oc) := (cell_same (o6 w.heap.size (by omega) hnp) 1).trans pc
        rw [unhide HMD] at CR FIN
        clear T6 Y6 b6 H6 d6 r6 o6 hlt' hown hgrow hrow hbm n5 hq e6
        go_upto_region 11 with fail
        rw [← hg, ← hw6]
        clear hw6 hg
        go_region_with (go_at_call 40; refine ((unhide CR) _ (bdrew (Below.refl _ _) 1)).mono ?_; rintro e w9 ⟨⟨v, rfl⟩, hr9, hg9⟩)
        all_goals
          refine bodyPost_end (v := .tuple #[]) (by simp [results, Try.f33, go_sem]; try rfl) rfl ⟨⟨_, rfl⟩, ?_⟩
          exact (unhide FIN) w9 hr9 ⟨hg9.os, hg9.tape, hg9.output, hg9.size, hg9.block⟩
end Hyp
end Go.Proofs.Ytgmpkapeemiecaa
