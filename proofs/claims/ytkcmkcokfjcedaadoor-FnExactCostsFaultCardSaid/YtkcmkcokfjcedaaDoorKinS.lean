/- CostsFault of the specification. -/
import Derived.Test.YtkcmkcokfjcedaaDoorKinM
import Derived.Test.YtkcmkcokfjcedaaDoorAppG
import Derived.Deep.RegionHeld3
namespace Go.Proofs.YtkcmkcokfjcedaaDoor.Kin
open Go.RowKit
set_option linter.unusedVariables false
theorem tkN {P : Program} {ops : Array Oper} {Q : Exit → Act → World → Prop} {md : Region.Mode} {S : World → Prop} {i : Nat} {oi : Oper} {d : Option Tmp} {v : Value} {fuel : Nat} {listed : Array Bool} {a : Act} {w : World} (hi : ops[i]? = some oi) (hd : oi.dst = d)
    (hs : Region.noSelect ops = true) (hf : Region.free md ops listed i = true) (hr : (Region.ready md ops listed).contains i = true)
    (hQ : ∀ c a w, Q (.panic c) (a.put d v) w → Q (.panic c) a w) (hy : YieldsIf P ops S oi v a) (hS : S w)
    (h : wpAnyH P md ops Q S fuel (listed.setIfInBounds i true) (a.put d v) w) : wpAnyH P md ops Q S (fuel + 1) listed a w := by
  subst hd
  exact wpAnyH_take hi hs hf hr hQ hy hS h
def inb (n : Int) : Bool := decide (0 ≤ n ∧ n ≤ 1000)
theorem inb_any (n : Int) (w : World) : Calls Tryd.prog 10 #[.int .i64 n] w fun e w' => e = .returned (.bool (inb n)) ∧ w' = w := cost_any n w _ rfl
theorem inb_of {n : Int} (h : inb n = true) : 0 ≤ n ∧ n ≤ 1000 := of_decide_eq_true h
theorem inb_no {n : Int} (h : inb n = false) : ¬ (0 ≤ n ∧ n ≤ 1000) := of_decide_eq_false h
theorem rgt_no {p d c k t : Int} {K : List ByteArray} (h : bnd p d c k t = false) : cft p d c k t K = 1 := by
  unfold cft rgt
  rw [h]
  rfl
theorem bytes_eq {a b : ByteArray} (h : a.toList = b.toList) : a = b := by
  rw [Go.ByteArray.toList_eq, Go.ByteArray.toList_eq] at h
  exact Go.WideShapes.bytes_inj h
theorem drew_below (w : World) : Below w.heap.size w w.drew := ⟨rfl, rfl, rfl, Nat.le_refl _, fun _ _ => rfl⟩
/-- Two rows of numbers: S grows, L is read. -/
structure Sp (w1 wr : World) (sv lv : Value) (S L : List Int) : Prop where
  own : wr.ownsRow w1.heap.size 2 1 sv S.length (S.map (Value.int .i64))
  rd : ∃ B, wr.ownsRow B 2 1 lv L.length (L.map (Value.int .i64))
  ne : ∀ k, sv.ownBlock = some k → lv.ownBlock ≠ some k
  bel : Below w1.heap.size w1 wr
theorem Sp.put {w1 wr w2 : World} {sv sv' lv : Value} {S L : List Int} {p : Int} {o : Obj} (h : Sp w1 wr sv lv S L)
    (ho : w2.ownsRow w1.heap.size 2 1 sv' (S.length + 1) (S.map (Value.int .i64) ++ [.int .i64 p])) (hg : (wr.alloc o).grownBy w2 sv.ownBlock) (hb : ∀ k, sv'.ownBlock = some k → sv.ownBlock = some k ∨ (wr.alloc o).heap.size ≤ k) : Sp w1 w2 sv' lv (S ++ [p]) L := by
  obtain ⟨B, hB⟩ := h.rd
  refine ⟨by simpa using ho, ⟨B, (hB.alloc o).kept hg ?_⟩, fun k hk e => ?_, (h.bel.alloc h.bel.size o).grown hg (by simp; have := h.bel.size; omega) (fun j hj => (h.own.lt j hj).1)⟩
  · cases hl : lv.ownBlock with
    | none => exact .inl rfl
    | some j => exact .inr (fun e => h.ne j e.symm hl)
  · rcases hb k hk with e2 | e2
    · exact h.ne k e2 e
    · have := (hB.lt k e).2
      simp at e2
      omega
theorem Sp.rdAt {w1 wr : World} {sv lv : Value} {S L : List Int} (h : Sp w1 wr sv lv S L) : IntsAt wr lv L := by
  obtain ⟨B, hB⟩ := h.rd
  exact IntsAt.owned hB
theorem Sp.drew {w1 wr : World} {sv lv : Value} {S L : List Int} {n : Nat} (h : Sp w1 wr sv lv S L) : Sp w1 (wr.drewN n) sv lv S L := by
  obtain ⟨B, hB⟩ := h.rd
  exact ⟨h.own, ⟨B, hB⟩, h.ne, bdrew h.bel n⟩
theorem ints_rdK {w : World} {v : Value} {l : List Int} (h : IntsAt w v l) (hl : 0 < l.length) : ∃ b off cap, v = .slice (some ⟨b, off, none⟩) l.length cap ∧ b < w.heap.size ∧ ∀ i, i < l.length → w.cell? ⟨b, off + i, none⟩ = some (.int .i64 (nth l i)) := by
  obtain ⟨a, cap, rfl, h⟩ := h
  rcases h with h | ⟨b, off, rfl, hb, hc⟩
  · rw [h] at hl; simp at hl
  · exact ⟨b, off, cap, rfl, hb, hc⟩
theorem nth_in {L : List Int} {j : Nat} (h : j < L.length) : nth L j ∈ L := by
  unfold nth
  rw [List.getD_eq_getElem?_getD, List.getElem?_eq_getElem h]
  exact List.getElem_mem h
theorem in_nth {L : List Int} {p : Int} (h : p ∈ L) : ∃ j, j < L.length ∧ nth L j = p := by
  obtain ⟨j, hj, e⟩ := List.getElem_of_mem h
  exact ⟨j, hj, by simp [nth, List.getD, hj, e]⟩
theorem take_nth {L : List Int} {j : Nat} (h : j < L.length) : L.take (j + 1) = L.take j ++ [nth L j] := by
  rw [List.take_add_one, List.getElem?_eq_getElem h]
  simp [nth, List.getD, h]

theorem Sp.onto {w1 wr w2 : World} {sv lv : Value} {S L : List Int} (h : Sp w1 wr sv lv S L) (hb : Below wr.heap.size wr w2) : Sp w1 w2 sv lv S L := by
  obtain ⟨B, hB⟩ := h.rd
  exact ⟨ownsRow_below h.own hb, ⟨B, ownsRow_below hB hb⟩, h.ne, h.bel.trans (hb.mono h.bel.size)⟩
set_option maxRecDepth 100000 in
set_option maxHeartbeats 40000000 in
theorem specOk (p d c k t : Int) (v : Value) (K : List ByteArray) (w : World) (hv : StrsAt w v K) (hl : K.length ≤ 1048576) (hs : ∀ i, i < K.length → (nthS K i).size ≤ 1048576)
    (hp : inb p = true) (hd : inb d = true) (hc : inb c = true) (hk : inb k = true) (ht : inb t = true) (z1 : ¬ p = 0) (z2 : ¬ d = 0) (z3 : ¬ c < k) (z4 : ¬ p + d < c) (z5 : ¬ 50 < K.length) :
    Calls Tryd.prog 5 #[.agg #[.int .i64 p, .int .i64 d, .int .i64 c, .int .i64 k, .int .i64 t, v]] w fun e w' => e = .returned (.int .i64 (cft p d c k t K)) ∧ Below w.heap.size w w' := by
  obtain ⟨i0, hi, hz0, hz1, hz2⟩ := info_parts info2
  have hbt : bnd p d c k t = true := decide_eq_true ⟨inb_of hp, inb_of hd, inb_of hc, inb_of hk, inb_of ht, z1, z2, by omega, by omega⟩
  have HR1 : Hid (okq K K.length = false → cft p d c k t K = 1) := hide (fun h => by unfold cft rgt; rw [h]; simp)
  have HR0 : Hid (okq K K.length = true → cft p d c k t K = 0) := hide (fun h => by unfold cft rgt; rw [h, hbt, decide_eq_true (show K.length ≤ 50 by omega)]; rfl)
  obtain ⟨u1, u2⟩ := inb_of hp
  obtain ⟨u3, u4⟩ := inb_of hd
  have z1' : (p == 0) = false := by simpa using z1
  have z2' : (d == 0) = false := by simpa using z2
  have z5' : ¬ (50 : Int) < (K.length : Int) := by omega
  have HV := hide hv
  have HS := hide hs
  obtain ⟨a, cap, rfl, _⟩ := hv
  have B1 := hide ((Below.refl w.heap.size w).alloc (Nat.le_refl _) (.cells #[.int .i64 p, .int .i64 d, .int .i64 c, .int .i64 k, .int .i64 t, .slice a K.length cap] 27))
  have hbx : (w.alloc (.cells #[.int .i64 p, .int .i64 d, .int .i64 c, .int .i64 k, .int .i64 t, .slice a K.length cap] 27)).heap[w.heap.size]? = some (.cells #[.int .i64 p, .int .i64 d, .int .i64 c, .int .i64 k, .int .i64 t, .slice a K.length cap] 27 (0, 0)) := heap_newM w _
  have hsz : w.heap.size < (w.alloc (.cells #[.int .i64 p, .int .i64 d, .int .i64 c, .int .i64 k, .int .i64 t, .slice a K.length cap] 27)).heap.size := by simp
  have HX := hide hbx
  clear hs hbt hbx
  generalize cft p d c k t K = R at *
  go_enter Tryd.func5, Tryd.ntmps5
  go_upto_region 3 with (go_at_call 10; refine (inb_any _ _).mono ?_; rintro e w4 ⟨rfl, e4⟩; have e5 := e4.symm; subst e5; clear e4)
  generalize w.alloc (.cells #[.int .i64 p, .int .i64 d, .int .i64 c, .int .i64 k, .int .i64 t, .slice a K.length cap] 27) = w1 at *
  have HO0 : Hid ((w1.alloc (.cells #[] 2)).ownsRow w1.heap.size 2 1 (.slice (some ⟨w1.heap.size, 0, none⟩) 0 0) (sn K 0).length ((sn K 0).map (Value.int .i64))) := hide (World.ownsRow_lit w1 #[] 0 (Nat.le_refl _) (by unfold maxLen; omega) rfl)
  have HB0 : Hid (Below w1.heap.size w1 (w1.alloc (.cells #[] 2))) := hide ((Below.refl _ _).alloc (Nat.le_refl _) _)
  clear hp hd hc hk ht z1 z2 z3 z4 u1 u2 u3 u4 z1' z2'
  go_wp2
  go_loopw [3, 4] (fun sv x wr => ∃ i : Nat, x = .int .i64 (i : Int) ∧ i ≤ K.length ∧ Hid (okq K i = true) ∧ Hid (wr.ownsRow w1.heap.size 2 1 sv (sn K i).length ((sn K i).map (Value.int .i64))) ∧ Hid (Below w1.heap.size w1 wr)) (fun _ x _ => K.length - (intOf x).toNat)
  case atStart => exact ⟨0, rfl, by omega, hide (okq_zero K), HO0, HB0⟩
  case round =>
    obtain ⟨i, rfl, hi2, HQ, HO, HB⟩ := hrel
    clear HO0 HB0
    have hBs := (unhide HB).size
    have x5 := ((unhide HB).block w.heap.size hsz).trans (unhide HX)
    have q5 := (six_cells x5).1.2.2.2.2.2
    clear x5
    by_cases hlt : i < K.length
    · obtain ⟨b, off, cp, he, hbw, hcs⟩ := strs_rd (unhide HV) (by omega)
      cases he
      have hb1 : b < w1.heap.size := by omega
      have qs := ((unhide HB).cell (p := ⟨b, off + i, none⟩) hb1).trans (((unhide B1).cell (p := ⟨b, off + i, none⟩) hbw).trans (hcs i hlt))
      have hsi := (unhide HS) i hlt
      have XB := hide (fun h => (unhide HR1) (okq_bad hlt h))
      have XD := hide (fun (L : List Int) hp hd => (unhide HR1) (okq_dup (K := K) (k := i) (L := L) hlt hp hd))
      have XS := hide (fun h2 h3 => okq_succ hlt (unhide HQ) h2 h3)
      have XN := hide (sn_succ hlt)
      have nd0 : Hid ((sn K i ++ (pts (nthS K i)).take 0).Nodup) := hide (by rw [List.take_zero, List.append_nil]; exact okq_nodup (unhide HQ))
      have hsl := hide (sn_len (unhide HQ) hi2)
      have XW := hide (wel_iff (nthS K i))
      have XO : Hid (okk (nthS K i) = (vB (nthS K i) && decide (2 ≤ (pts (nthS K i)).length ∧ (pts (nthS K i)).length ≤ 10))) := hide rfl
      have CP := hide (fun W => l01PointsB (nthS K i) W hsi)
      generalize nthS K i = s at *
      clear hcs HQ hsi
      go_upto_region 8 with (go_at_call 11; refine ((unhide CP) _).mono ?_; rintro e w3 ⟨lv, rfl, hlv, hb3⟩; have LV := hide hlv; have B3 := hide hb3; clear hlv hb3)
      have SP : Hid (Sp w1 w3 _ lv (sn K i) (pts s)) := hide ⟨ownsRow_below (unhide HO) (unhide B3), ⟨_, unhide LV⟩, fun k hk e => by have h1 := ((unhide HO).lt k hk).2; have h2 := ((unhide LV).lt k e).1; omega, (unhide HB).trans ((unhide B3).mono hBs)⟩
      replace q5 := ((unhide B3).cell (p := ⟨w.heap.size, 5, none⟩) (by show w.heap.size < _; omega)).trans q5
      replace qs := ((unhide B3).cell (p := ⟨b, off + i, none⟩) (by show b < _; omega)).trans qs
      have y1 : w.heap.size < w3.heap.size := by have := (unhide B3).size; omega
      have y2 : b < w3.heap.size := by have := (unhide B3).size; omega
      have BW : Hid (Below w1.heap.size w1 w3) := hide (unhide SP).bel
      clear HO HB B3 LV CP
      obtain ⟨la, lc, hlv, _⟩ := (unhide SP).rdAt
      subst hlv
      have LN : Hid (pts s = pts s) := hide rfl
      obtain ⟨n, hn⟩ : ∃ n, (pts s).length = n := ⟨_, rfl⟩
      by_cases c1 : n < 2
      · have HE := hide ((unhide XB) (by rw [unhide XO, decide_eq_false (by omega)]; simp))
        have hU : undef = Value.tuple #[] := rfl
        have c1' : ((pts s).length : Int) < 2 := by omega
        clear hn
        generalize (pts s).length = n' at *
        go_quiet (fail)
        go_wp2
        go_ret
        exact ⟨by rw [unhide HE]; rfl, (unhide B1).trans ((bdrew (unhide BW) _).mono (by omega))⟩
      · by_cases c2 : 10 < n
        · have HE := hide ((unhide XB) (by rw [unhide XO, decide_eq_false (by omega)]; simp))
          have hU : undef = Value.tuple #[] := rfl
          have c1' : ¬ ((pts s).length : Int) < 2 := by omega
          have c2' : (10 : Int) < ((pts s).length : Int) := by omega
          clear hn
          generalize (pts s).length = n' at *
          go_quiet (fail)
          go_wp2
          go_ret
          exact ⟨by rw [unhide HE]; rfl, (unhide B1).trans ((bdrew (unhide BW) _).mono (by omega))⟩
        · have c1' : ¬ ((pts s).length : Int) < 2 := by omega
          have c2' : ¬ (10 : Int) < ((pts s).length : Int) := by omega
          have CX := hide (fun W h => l01Text (.slice la (pts s).length lc) (pts s) W h (by omega))
          by_cases hw : strOfNums (textL (pts s)) = s
          · have hok := hide (show okk s = true by rw [unhide XO, (unhide XW).1 hw, decide_eq_true (by omega)]; rfl)
            rw [hw] at CX
            have XS2 := hide ((unhide XS) (unhide hok))
            clear XB XS XO XW hw
            have nl : Hid ((pts s).length ≤ 10) := hide (by omega)
            clear hn c1 c2
            generalize pts s = L at *
            have KS := (show (fun w' => w'.cell? ⟨w.heap.size, 5, none⟩ = some (.slice (some ⟨b, off, none⟩) K.length cap) ∧ w'.cell? ⟨b, off + i, none⟩ = some (.string s)) w3 from ⟨q5, qs⟩)
            refine wp_region_held_drew (S := fun w' => w'.cell? ⟨w.heap.size, 5, none⟩ = some (.slice (some ⟨b, off, none⟩) K.length cap) ∧ w'.cell? ⟨b, off + i, none⟩ = some (.string s)) (by kernel_rfl) (by first | go_keep | exact KS) (fun hHeld => ?_)
            refine tkN (i := 0) (d := some 83) (v := ?_) rfl rfl (by kernel_rfl) (by kernel_rfl) (by kernel_rfl) (fun _ _ _ h => h) (Or.inl ⟨by rfl, ?_⟩) (by assumption) ?_
            rotate_left
            · intro w hSw; (try dsimp only at hSw); go_simp; try with_reducible rfl
            try simp only [Act.put, List.setIfInBounds_toArray, List.set_cons_zero, List.set_cons_succ]
            refine tkN (i := 1) (d := some 84) (v := ?_) rfl rfl (by kernel_rfl) (by kernel_rfl) (by kernel_rfl) (fun _ _ _ h => h) (Or.inl ⟨by rfl, ?_⟩) (by assumption) ?_
            rotate_left
            · intro w hSw; (try dsimp only at hSw); go_simp; try with_reducible rfl
            try simp only [Act.put, List.setIfInBounds_toArray, List.set_cons_zero, List.set_cons_succ]
            refine tkN (i := 2) (d := some 85) (v := ?_) rfl rfl (by kernel_rfl) (by kernel_rfl) (by kernel_rfl) (fun _ _ _ h => h) (Or.inl ⟨by rfl, ?_⟩) (by assumption) ?_
            rotate_left
            · intro w hSw; (try dsimp only at hSw); go_simp; try with_reducible rfl
            try simp only [Act.put, List.setIfInBounds_toArray, List.set_cons_zero, List.set_cons_succ]
            refine tkN (i := 3) (d := some 86) (v := ?_) rfl rfl (by kernel_rfl) (by kernel_rfl) (by kernel_rfl) (fun _ _ _ h => h) (Or.inl ⟨by rfl, ?_⟩) (by assumption) ?_
            rotate_left
            · intro w hSw; (try dsimp only at hSw); go_simp; try with_reducible rfl
            try simp only [Act.put, List.setIfInBounds_toArray, List.set_cons_zero, List.set_cons_succ]
            refine tkN (i := 4) (d := some 87) (v := ?_) rfl rfl (by kernel_rfl) (by kernel_rfl) (by kernel_rfl) (fun _ _ _ h => h) (Or.inl ⟨by rfl, ?_⟩) (by assumption) ?_
            rotate_left
            · intro w hSw; (try dsimp only at hSw); go_simp; try with_reducible rfl
            try simp only [Act.put, List.setIfInBounds_toArray, List.set_cons_zero, List.set_cons_succ]
            refine tkN (i := 5) (d := some 88) (v := ?_) rfl rfl (by kernel_rfl) (by kernel_rfl) (by kernel_rfl) (fun _ _ _ h => h) (Or.inl ⟨by rfl, ?_⟩) (by assumption) ?_
            rotate_left
            · intro w hSw; (try dsimp only at hSw); go_simp; try with_reducible rfl
            try simp only [Act.put, List.setIfInBounds_toArray, List.set_cons_zero, List.set_cons_succ]
            refine tkN (i := 6) (d := some 89) (v := ?_) rfl rfl (by kernel_rfl) (by kernel_rfl) (by kernel_rfl) (fun _ _ _ h => h) (Or.inl ⟨by rfl, ?_⟩) (by assumption) ?_
            rotate_left
            · intro w hSw; (try dsimp only at hSw); go_simp; try with_reducible rfl
            try simp only [Act.put, List.setIfInBounds_toArray, List.set_cons_zero, List.set_cons_succ]
            refine tkN (i := 7) (d := some 90) (v := ?_) rfl rfl (by kernel_rfl) (by kernel_rfl) (by kernel_rfl) (fun _ _ _ h => h) (Or.inl ⟨by rfl, ?_⟩) (by assumption) ?_
            rotate_left
            · intro w hSw; (try dsimp only at hSw); go_simp; try with_reducible rfl
            try simp only [Act.put, List.setIfInBounds_toArray, List.set_cons_zero, List.set_cons_succ]
            refine tkN (i := 8) (d := some 91) (v := ?_) rfl rfl (by kernel_rfl) (by kernel_rfl) (by kernel_rfl) (fun _ _ _ h => h) (Or.inl ⟨by rfl, ?_⟩) (by assumption) ?_
            rotate_left
            · intro w hSw; (try dsimp only at hSw); go_simp; try with_reducible rfl
            try simp only [Act.put, List.setIfInBounds_toArray, List.set_cons_zero, List.set_cons_succ]
            refine tkN (i := 9) (d := some 92) (v := ?_) rfl rfl (by kernel_rfl) (by kernel_rfl) (by kernel_rfl) (fun _ _ _ h => h) (Or.inl ⟨by rfl, ?_⟩) (by assumption) ?_
            rotate_left
            · intro w hSw; (try dsimp only at hSw); go_simp; try with_reducible rfl
            try simp only [Act.put, List.setIfInBounds_toArray, List.set_cons_zero, List.set_cons_succ]
            refine tkN (i := 11) (d := some 94) (v := ?_) rfl rfl (by kernel_rfl) (by kernel_rfl) (by kernel_rfl) (fun _ _ _ h => h) (Or.inl ⟨by rfl, ?_⟩) (by assumption) ?_
            rotate_left
            · intro w hSw; (try dsimp only at hSw); go_simp; try with_reducible rfl
            try simp only [Act.put, List.setIfInBounds_toArray, List.set_cons_zero, List.set_cons_succ]
            refine tkN (i := 12) (d := some 95) (v := ?_) rfl rfl (by kernel_rfl) (by kernel_rfl) (by kernel_rfl) (fun _ _ _ h => h) (Or.inl ⟨by rfl, ?_⟩) (by assumption) ?_
            rotate_left
            · intro w hSw; (try dsimp only at hSw); go_simp; try with_reducible rfl
            try simp only [Act.put, List.setIfInBounds_toArray, List.set_cons_zero, List.set_cons_succ]
            refine tkN (i := 13) (d := some 96) (v := ?_) rfl rfl (by kernel_rfl) (by kernel_rfl) (by kernel_rfl) (fun _ _ _ h => h) (Or.inl ⟨by rfl, ?_⟩) (by assumption) ?_
            rotate_left
            · intro w hSw; (try dsimp only at hSw); go_simp; try with_reducible rfl
            try simp only [Act.put, List.setIfInBounds_toArray, List.set_cons_zero, List.set_cons_succ]
            refine tkN (i := 14) (d := some 97) (v := ?_) rfl rfl (by kernel_rfl) (by kernel_rfl) (by kernel_rfl) (fun _ _ _ h => h) (Or.inl ⟨by rfl, ?_⟩) (by assumption) ?_
            rotate_left
            · intro w hSw; (try dsimp only at hSw); go_simp; try with_reducible rfl
            try simp only [Act.put, List.setIfInBounds_toArray, List.set_cons_zero, List.set_cons_succ]
            refine tkN (i := 15) (d := some 98) (v := ?_) rfl rfl (by kernel_rfl) (by kernel_rfl) (by kernel_rfl) (fun _ _ _ h => h) (Or.inl ⟨by rfl, ?_⟩) (by assumption) ?_
            rotate_left
            · intro w hSw; (try dsimp only at hSw); go_simp; try with_reducible rfl
            try simp only [Act.put, List.setIfInBounds_toArray, List.set_cons_zero, List.set_cons_succ]
            refine wpAnyH_ready (rs := [10]) (by kernel_rfl) (by simp) (AllReadyH.cons rfl (fun Kq hK => ?_) AllReadyH.nil)
            go_simp
            go_at_call 12
            refine ((unhide CX) _ ((unhide SP).rdAt.below (drew_below _))).mono ?_
            rintro e w4 ⟨rfl, hb4⟩
            have SP4 := hide ((unhide SP).onto ((drew_below _).trans hb4))
            have q5' := (hb4.cell (p := ⟨w.heap.size, 5, none⟩) y1).trans q5
            have qs' := (hb4.cell (p := ⟨b, off + i, none⟩) y2).trans qs
            have KS4 : (fun w' => w'.cell? ⟨w.heap.size, 5, none⟩ = some (.slice (some ⟨b, off, none⟩) K.length cap) ∧ w'.cell? ⟨b, off + i, none⟩ = some (.string s)) w4 := ⟨q5', qs'⟩
            clear hb4
            try go_wp2_with fail
            refine hK.out _ _ KS4 (fun hHeld3 => ?_)
            clear hK Kq
            try simp only [Act.put, List.setIfInBounds_toArray, List.set_cons_zero, List.set_cons_succ]
            refine tkN (i := 16) (d := some 99) (v := ?_) rfl rfl (by kernel_rfl) (by kernel_rfl) (by kernel_rfl) (fun _ _ _ h => h) (Or.inl ⟨by rfl, ?_⟩) (by assumption) ?_
            rotate_left
            · intro w hSw; (try dsimp only at hSw); go_simp; try with_reducible rfl
            try simp only [Act.put, List.setIfInBounds_toArray, List.set_cons_zero, List.set_cons_succ]
            refine tkN (i := 17) (d := some 100) (v := ?_) rfl rfl (by kernel_rfl) (by kernel_rfl) (by kernel_rfl) (fun _ _ _ h => h) (Or.inl ⟨by rfl, ?_⟩) (by assumption) ?_
            rotate_left
            · intro w hSw; (try dsimp only at hSw); go_simp; try with_reducible rfl
            try simp only [Act.put, List.setIfInBounds_toArray, List.set_cons_zero, List.set_cons_succ]
            refine wpAnyH_done (by kernel_rfl) ?_ _
            clear KS KS4 q5 qs q5' qs' y1 y2 CX SP BW hHeld hHeld3 c1' c2'
            obtain ⟨wo, rfl⟩ : ∃ wo : World, wo = wr := ⟨wr, rfl⟩
            go_wp2
            go_loopw [3, 6] (fun sv x wr => ∃ j : Nat, x = .int .i64 (j : Int) ∧ j ≤ L.length ∧ Hid (Sp w1 wr sv (.slice la L.length lc) (sn K i ++ L.take j) L) ∧ Hid ((sn K i ++ L.take j).Nodup)) (fun _ x _ => L.length - (intOf x).toNat)
            case atStart => exact ⟨0, rfl, by omega, hide (by rw [List.take_zero, List.append_nil]; exact unhide SP4), nd0⟩
            case round =>
              obtain ⟨j, rfl, hj, HP, HN⟩ := hrel
              clear SP4 nd0
              by_cases hjl : j < L.length
              · have XT := hide (take_nth hjl)
                have XE := hide (fun (h : nth L j ∈ sn K i ++ L.take j) => (unhide XD) (L.take (j + 1)) (List.take_prefix _ _) (by rw [unhide XT, ← List.append_assoc]; exact dup_snoc h))
                have hSl : Hid ((sn K i ++ L.take j).length ≤ 10 * i + j) := hide (by rw [List.length_append, List.length_take]; have := unhide hsl; omega)
                have HT : Hid (sn K i ++ L.take (j + 1) = (sn K i ++ L.take j) ++ [nth L j]) := hide (by rw [unhide XT, List.append_assoc])
                obtain ⟨S, hS⟩ : ∃ S, sn K i ++ L.take j = S := ⟨_, rfl⟩
                rw [hS] at HP HN XE hSl HT
                obtain ⟨wq, rfl⟩ : ∃ wq : World, wq = wr := ⟨wr, rfl⟩
                obtain ⟨sa, sc, hsv, _⟩ := IntsAt.owned (unhide HP).own
                subst hsv
                have hS6 : S.length ≤ 600 := by have := unhide hSl; have := unhide nl; omega
                clear hS XT
                go_wp2
                go_loopw [7] (fun y wr => ∃ m : Nat, y = .int .i64 (m : Int) ∧ m ≤ S.length ∧ Hid (∀ x, x < m → ¬ nth S x = nth L j) ∧ Hid (Sp w1 wr (.slice sa S.length sc) (.slice la L.length lc) S L)) (fun y _ => S.length - (intOf y).toNat)
                case atStart => exact ⟨0, rfl, by omega, hide (fun x hx => by omega), HP⟩
                case round =>
                  obtain ⟨m, rfl, hm, HX2, HP2⟩ := hrel
                  clear HP
                  by_cases hml : m < S.length
                  · obtain ⟨b1, o1, c1, e1, k1, g1⟩ := ints_rdK (IntsAt.owned (unhide HP2).own) (by omega)
                    obtain ⟨b2, o2, c2, e2, k2, g2⟩ := ints_rdK (unhide HP2).rdAt (by omega)
                    injection e1 with e1 _ e1c
                    injection e2 with e2 _ e2c
                    subst e1
                    subst e2
                    clear e1c e2c
                    have r1 := g1 m hml
                    have r2 := g2 j hjl
                    clear g1 g2
                    by_cases heq : nth S m = nth L j
                    · have HE := hide ((unhide XE) (by rw [← heq]; exact nth_in hml))
                      rw [heq] at r1
                      generalize nth L j = P at *
                      clear heq
                      go_upto_region 16 with fail
                      go_quiet (fail)
                      go_wp2
                      go_ret
                      exact ⟨by rw [unhide HE]; rfl, (unhide B1).trans ((bdrew (unhide HP2).bel _).mono (by omega))⟩
                    · have HX3 : Hid (∀ x, x < m + 1 → ¬ nth S x = nth L j) := hide (fun x hx => by
                        by_cases e : x = m
                        · subst e; exact heq
                        · exact (unhide HX2) x (by omega))
                      generalize nth S m = Z at *
                      generalize nth L j = P at *
                      have heq' : (Z == P) = false := by simpa using heq
                      go_upto_region 16 with fail
                      go_quiet (fail)
                      go_wp2
                      go_roundw
                      case rel => exact ⟨m + 1, by go_num, by omega, HX3, hide ((unhide HP2).drew)⟩
                      case measure => simp [intOf]; omega
                  · obtain rfl : m = S.length := by omega
                    have HN2 := hide (nodup_snoc (unhide HN) (fun h => by obtain ⟨x, hx, e⟩ := in_nth h; exact (unhide HX2) x hx e))
                    obtain ⟨b2, o2, c2, e2, k2, g2⟩ := ints_rdK (unhide HP2).rdAt (by omega)
                    injection e2 with e2 _ e2c
                    subst e2
                    clear e2c
                    have r2 := g2 j hjl
                    clear g2
                    rw [← unhide HT] at HN2
                    have hSm := unhide hSl
                    have j10 := unhide nl
                    generalize nth L j = P at *
                    go_wp2_with (at_builtin; refine wpList_appG _ rfl _ _ 33 rfl w1.heap.size 2 i0 (.int .i64 0) 1 8 Tryd.underlying33 hi hz0 hz1 hz2 rfl (by decide) _ _ _ rfl (owned_alloc (unhide HP2).own _) ⟨wr.heap.size, 0, none⟩ 1 1 [.int .i64 P] rfl rfl (cell_one_new _ _ _) (by intro u hu; simp at hu; subst hu; rfl) (by unfold maxLen; omega) (by omega) (by simp; have := (unhide HP2).bel.size; omega) ?_; intro v' w5 ho5 hg5 hk5; have SP5 := hide ((unhide HP2).put ho5 hg5 hk5); clear ho5 hg5 hk5)
                    rw [← unhide HT] at SP5
                    go_roundw
                    case rel => exact ⟨j + 1, by go_num, by omega, SP5, HN2⟩
                    case measure => simp [intOf]; omega
              · obtain rfl : j = L.length := by omega
                rw [List.take_length] at HP HN
                have Q2 := hide ((unhide XS2) (unhide HN))
                rw [← unhide XN] at HP
                go_wp2
                go_roundw
                case rel => exact ⟨i + 1, by go_num, by omega, Q2, hide (unhide HP).own, hide (unhide HP).bel⟩
                case measure => simp [intOf]; omega
          · have HE := hide ((unhide XB) (by rw [unhide XO]; cases hv : vB s with | false => rfl | true => exact absurd ((unhide XW).2 hv) hw))
            have hxl : ¬ (strOfNums (textL (pts s))).toList = s.toList := fun h => hw (bytes_eq h)
            generalize strOfNums (textL (pts s)) = X at *
            have hxl2 : (X.toList == s.toList) = false := by simpa using hxl
            have hxl3 : (X.toList != s.toList) = true := by simp [hxl]
            clear XB XS XO XW hw hn c1 c2
            generalize pts s = L at *
            generalize L.length = n' at *
            have KS := (show (fun w' => w'.cell? ⟨w.heap.size, 5, none⟩ = some (.slice (some ⟨b, off, none⟩) K.length cap) ∧ w'.cell? ⟨b, off + i, none⟩ = some (.string s)) w3 from ⟨q5, qs⟩)
            refine wp_region_held_drew (S := fun w' => w'.cell? ⟨w.heap.size, 5, none⟩ = some (.slice (some ⟨b, off, none⟩) K.length cap) ∧ w'.cell? ⟨b, off + i, none⟩ = some (.string s)) (by kernel_rfl) (by first | go_keep | exact KS) (fun hHeld => ?_)
            refine tkN (i := 0) (d := some 83) (v := ?_) rfl rfl (by kernel_rfl) (by kernel_rfl) (by kernel_rfl) (fun _ _ _ h => h) (Or.inl ⟨by rfl, ?_⟩) (by assumption) ?_
            rotate_left
            · intro w hSw; (try dsimp only at hSw); go_simp; try with_reducible rfl
            try simp only [Act.put, List.setIfInBounds_toArray, List.set_cons_zero, List.set_cons_succ]
            refine tkN (i := 1) (d := some 84) (v := ?_) rfl rfl (by kernel_rfl) (by kernel_rfl) (by kernel_rfl) (fun _ _ _ h => h) (Or.inl ⟨by rfl, ?_⟩) (by assumption) ?_
            rotate_left
            · intro w hSw; (try dsimp only at hSw); go_simp; try with_reducible rfl
            try simp only [Act.put, List.setIfInBounds_toArray, List.set_cons_zero, List.set_cons_succ]
            refine tkN (i := 2) (d := some 85) (v := ?_) rfl rfl (by kernel_rfl) (by kernel_rfl) (by kernel_rfl) (fun _ _ _ h => h) (Or.inl ⟨by rfl, ?_⟩) (by assumption) ?_
            rotate_left
            · intro w hSw; (try dsimp only at hSw); go_simp; try with_reducible rfl
            try simp only [Act.put, List.setIfInBounds_toArray, List.set_cons_zero, List.set_cons_succ]
            refine tkN (i := 3) (d := some 86) (v := ?_) rfl rfl (by kernel_rfl) (by kernel_rfl) (by kernel_rfl) (fun _ _ _ h => h) (Or.inl ⟨by rfl, ?_⟩) (by assumption) ?_
            rotate_left
            · intro w hSw; (try dsimp only at hSw); go_simp; try with_reducible rfl
            try simp only [Act.put, List.setIfInBounds_toArray, List.set_cons_zero, List.set_cons_succ]
            refine tkN (i := 4) (d := some 87) (v := ?_) rfl rfl (by kernel_rfl) (by kernel_rfl) (by kernel_rfl) (fun _ _ _ h => h) (Or.inl ⟨by rfl, ?_⟩) (by assumption) ?_
            rotate_left
            · intro w hSw; (try dsimp only at hSw); go_simp; try with_reducible rfl
            try simp only [Act.put, List.setIfInBounds_toArray, List.set_cons_zero, List.set_cons_succ]
            refine tkN (i := 5) (d := some 88) (v := ?_) rfl rfl (by kernel_rfl) (by kernel_rfl) (by kernel_rfl) (fun _ _ _ h => h) (Or.inl ⟨by rfl, ?_⟩) (by assumption) ?_
            rotate_left
            · intro w hSw; (try dsimp only at hSw); go_simp; try with_reducible rfl
            try simp only [Act.put, List.setIfInBounds_toArray, List.set_cons_zero, List.set_cons_succ]
            refine tkN (i := 6) (d := some 89) (v := ?_) rfl rfl (by kernel_rfl) (by kernel_rfl) (by kernel_rfl) (fun _ _ _ h => h) (Or.inl ⟨by rfl, ?_⟩) (by assumption) ?_
            rotate_left
            · intro w hSw; (try dsimp only at hSw); go_simp; try with_reducible rfl
            try simp only [Act.put, List.setIfInBounds_toArray, List.set_cons_zero, List.set_cons_succ]
            refine tkN (i := 7) (d := some 90) (v := ?_) rfl rfl (by kernel_rfl) (by kernel_rfl) (by kernel_rfl) (fun _ _ _ h => h) (Or.inl ⟨by rfl, ?_⟩) (by assumption) ?_
            rotate_left
            · intro w hSw; (try dsimp only at hSw); go_simp; try with_reducible rfl
            try simp only [Act.put, List.setIfInBounds_toArray, List.set_cons_zero, List.set_cons_succ]
            refine tkN (i := 8) (d := some 91) (v := ?_) rfl rfl (by kernel_rfl) (by kernel_rfl) (by kernel_rfl) (fun _ _ _ h => h) (Or.inl ⟨by rfl, ?_⟩) (by assumption) ?_
            rotate_left
            · intro w hSw; (try dsimp only at hSw); go_simp; try with_reducible rfl
            try simp only [Act.put, List.setIfInBounds_toArray, List.set_cons_zero, List.set_cons_succ]
            refine tkN (i := 9) (d := some 92) (v := ?_) rfl rfl (by kernel_rfl) (by kernel_rfl) (by kernel_rfl) (fun _ _ _ h => h) (Or.inl ⟨by rfl, ?_⟩) (by assumption) ?_
            rotate_left
            · intro w hSw; (try dsimp only at hSw); go_simp; try with_reducible rfl
            try simp only [Act.put, List.setIfInBounds_toArray, List.set_cons_zero, List.set_cons_succ]
            refine tkN (i := 11) (d := some 94) (v := ?_) rfl rfl (by kernel_rfl) (by kernel_rfl) (by kernel_rfl) (fun _ _ _ h => h) (Or.inl ⟨by rfl, ?_⟩) (by assumption) ?_
            rotate_left
            · intro w hSw; (try dsimp only at hSw); go_simp; try with_reducible rfl
            try simp only [Act.put, List.setIfInBounds_toArray, List.set_cons_zero, List.set_cons_succ]
            refine tkN (i := 12) (d := some 95) (v := ?_) rfl rfl (by kernel_rfl) (by kernel_rfl) (by kernel_rfl) (fun _ _ _ h => h) (Or.inl ⟨by rfl, ?_⟩) (by assumption) ?_
            rotate_left
            · intro w hSw; (try dsimp only at hSw); go_simp; try with_reducible rfl
            try simp only [Act.put, List.setIfInBounds_toArray, List.set_cons_zero, List.set_cons_succ]
            refine tkN (i := 13) (d := some 96) (v := ?_) rfl rfl (by kernel_rfl) (by kernel_rfl) (by kernel_rfl) (fun _ _ _ h => h) (Or.inl ⟨by rfl, ?_⟩) (by assumption) ?_
            rotate_left
            · intro w hSw; (try dsimp only at hSw); go_simp; try with_reducible rfl
            try simp only [Act.put, List.setIfInBounds_toArray, List.set_cons_zero, List.set_cons_succ]
            refine tkN (i := 14) (d := some 97) (v := ?_) rfl rfl (by kernel_rfl) (by kernel_rfl) (by kernel_rfl) (fun _ _ _ h => h) (Or.inl ⟨by rfl, ?_⟩) (by assumption) ?_
            rotate_left
            · intro w hSw; (try dsimp only at hSw); go_simp; try with_reducible rfl
            try simp only [Act.put, List.setIfInBounds_toArray, List.set_cons_zero, List.set_cons_succ]
            refine tkN (i := 15) (d := some 98) (v := ?_) rfl rfl (by kernel_rfl) (by kernel_rfl) (by kernel_rfl) (fun _ _ _ h => h) (Or.inl ⟨by rfl, ?_⟩) (by assumption) ?_
            rotate_left
            · intro w hSw; (try dsimp only at hSw); go_simp; try with_reducible rfl
            try simp only [Act.put, List.setIfInBounds_toArray, List.set_cons_zero, List.set_cons_succ]
            refine wpAnyH_ready (rs := [10]) (by kernel_rfl) (by simp) (AllReadyH.cons rfl (fun Kq hK => ?_) AllReadyH.nil)
            go_simp
            go_at_call 12
            refine ((unhide CX) _ ((unhide SP).rdAt.below (drew_below _))).mono ?_
            rintro e w4 ⟨rfl, hb4⟩
            have SP4 := hide ((unhide SP).onto ((drew_below _).trans hb4))
            have q5' := (hb4.cell (p := ⟨w.heap.size, 5, none⟩) y1).trans q5
            have qs' := (hb4.cell (p := ⟨b, off + i, none⟩) y2).trans qs
            have KS4 : (fun w' => w'.cell? ⟨w.heap.size, 5, none⟩ = some (.slice (some ⟨b, off, none⟩) K.length cap) ∧ w'.cell? ⟨b, off + i, none⟩ = some (.string s)) w4 := ⟨q5', qs'⟩
            clear hb4
            try go_wp2_with fail
            refine hK.out _ _ KS4 (fun hHeld3 => ?_)
            clear hK Kq
            try simp only [Act.put, List.setIfInBounds_toArray, List.set_cons_zero, List.set_cons_succ]
            refine tkN (i := 16) (d := some 99) (v := ?_) rfl rfl (by kernel_rfl) (by kernel_rfl) (by kernel_rfl) (fun _ _ _ h => h) (Or.inl ⟨by rfl, ?_⟩) (by assumption) ?_
            rotate_left
            · intro w hSw; (try dsimp only at hSw); go_simp; try with_reducible rfl
            try simp only [Act.put, List.setIfInBounds_toArray, List.set_cons_zero, List.set_cons_succ]
            refine tkN (i := 17) (d := some 100) (v := ?_) rfl rfl (by kernel_rfl) (by kernel_rfl) (by kernel_rfl) (fun _ _ _ h => h) (Or.inl ⟨by rfl, ?_⟩) (by assumption) ?_
            rotate_left
            · intro w hSw; (try dsimp only at hSw); go_simp; try with_reducible rfl
            try simp only [Act.put, List.setIfInBounds_toArray, List.set_cons_zero, List.set_cons_succ]
            refine wpAnyH_done (by kernel_rfl) ?_ _
            go_wp2
            go_ret
            exact ⟨by rw [unhide HE]; rfl, (unhide B1).trans ((unhide SP4).bel.mono (by omega))⟩
    · obtain rfl : i = K.length := by omega
      have HE := hide ((unhide HR0) (unhide HQ))
      go_wp2
      go_ret
      exact ⟨by rw [unhide HE]; rfl, (unhide B1).trans ((unhide HB).mono (by omega))⟩
end Go.Proofs.YtkcmkcokfjcedaaDoor.Kin
