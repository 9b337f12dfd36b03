/- slices.Insert of one number into a row of numbers where there is no room. -/
import Derived.Test.YthjjojkabbepdaaDoorLabQ
import Derived.Laws.CopyOwn
namespace Go.Proofs.YthjjojkabbepdaaDoor.Lab
open Go.RowKit
set_option linter.unusedVariables false
theorem alloc_blockL (w : World) (o : Obj) {k : Nat} (h : k < w.heap.size) : (w.alloc o).heap[k]? = w.heap[k]? := ((Below.refl w.heap.size w).alloc (Nat.le_refl _) o).block k h
theorem put_new (Z : List Value) (F : List Int) (x : Int) (i n : Nat) (hn : F.length = n) (hi : i < n) (hZ : n + 1 - i ≤ Z.length) :
    ((((F.map (Value.int .i64)).take i ++ Z).take i ++ [Value.int .i64 x] ++ ((F.map (Value.int .i64)).take i ++ Z).drop (i + 1)).take (i + 1) ++ (F.map (Value.int .i64)).drop i ++ (((F.map (Value.int .i64)).take i ++ Z).take i ++ [Value.int .i64 x] ++ ((F.map (Value.int .i64)).take i ++ Z).drop (i + 1)).drop (i + 1 + (n - i))).take (n + 1) = (F.insertIdx i x).map (Value.int .i64) := by
  have hl : ((F.map (Value.int .i64)).take i).length = i := by simp [hn]; omega
  have e1 : ((F.map (Value.int .i64)).take i ++ Z).take i = (F.map (Value.int .i64)).take i := List.take_left' hl
  have e2 : (((F.map (Value.int .i64)).take i ++ Z).take i ++ [Value.int .i64 x] ++ ((F.map (Value.int .i64)).take i ++ Z).drop (i + 1)).take (i + 1) = (F.map (Value.int .i64)).take i ++ [Value.int .i64 x] := by
    rw [e1]
    exact List.take_left' (by rw [List.length_append, hl]; rfl)
  have e3 : F.insertIdx i x = F.take i ++ x :: F.drop i := by
    have := insert_mid (F.take i) (F.drop i) x
    rw [List.take_append_drop, List.length_take, show min i F.length = i by omega] at this
    exact this
  rw [e2, e3, List.map_append, List.map_cons, ← List.map_take, ← List.map_drop]
  have e4 : (F.take i).map (Value.int .i64) ++ [Value.int .i64 x] ++ (F.drop i).map (Value.int .i64) = (F.take i).map (Value.int .i64) ++ Value.int .i64 x :: (F.drop i).map (Value.int .i64) := by simp
  rw [e4]
  exact List.take_left' (by simp; omega)
set_option maxRecDepth 100000 in
set_option maxHeartbeats 400000 in
theorem ins_grow (g cap vb i : Nat) (cur : Array Value) (F : List Int) (x : Int) (w : World) (hg : w.heap[g]? = some (.cells cur 2 (0, 0))) (hv : w.heap[vb]? = some (.cells #[.int .i64 x] 2 (0, 0)))
    (hcs : cur.size = cap) (htk : cur.toList.take F.length = F.map (Value.int .i64)) (hi : i < F.length) (hno : cap < F.length + 1) (hle : F.length ≤ cap) (hcap : cap ≤ 1000000) :
    Calls Tryd.prog 59 #[.slice (some ⟨g, 0, none⟩) F.length cap, .int .i64 (i : Int), .slice (some ⟨vb, 0, none⟩) 1 1] w fun e w' => ∃ v', e = .returned v' ∧ w'.ownsRow w.heap.size 2 1 v' (F.length + 1) ((F.insertIdx i x).map (Value.int .i64)) ∧ Below w.heap.size w w' := by
  obtain ⟨i0, hi0, hz0, hz1, hz2⟩ := info_parts info2
  have hsz : (Tryd.prog.info? 2).map (·.size) = some 1 := by rw [hi0]; simp [hz1]
  generalize hn : F.length = n at *
  obtain ⟨Hs, hHs⟩ : ∃ Hs, w.heap.size = Hs := ⟨_, rfl⟩
  have hgl : g < w.heap.size := (Array.getElem?_eq_some_iff.1 hg).1
  have hvl : vb < w.heap.size := (Array.getElem?_eq_some_iff.1 hv).1
  have hcell : ∀ j v, (F.map (Value.int .i64))[j]? = some v → w.cell? ⟨g, j, none⟩ = some v := fun j v hj => by
    rw [← htk, List.getElem?_take] at hj
    split at hj
    · rw [World.cell?]
      simp only [hg]
      simpa using hj
    · cases hj
  have hik : i + (n + 1 - i) = n + 1 := by omega
  have hkk : (n : Int) + 1 - (i : Int) = ((n + 1 - i : Nat) : Int) := by omega
  have hol : ((F.map (Value.int .i64)).take i).length = i := by simp [hn]; omega
  have hold : (Builtin.firstCells i0.size i (.slice (some ⟨g, 0, none⟩) i cap)).run Tryd.prog w.drew = .ok ((F.map (Value.int .i64)).take i).toArray w.drew := by
    rw [hz1]
    exact run_firstCells_some w.drew 1 i ⟨g, 0, none⟩ i cap ((F.map (Value.int .i64)).take i) (by rw [hol]; omega) (fun j v hj => by
      rw [Addr.add_lit, Nat.zero_add]
      rw [List.getElem?_take] at hj
      split at hj
      · exact hcell j v hj
      · cases hj)
  obtain ⟨G, hG⟩ : ∃ G, G = grownCap w (n + 1) cap 2 := ⟨_, rfl⟩
  have hGn : n + 1 ≤ G := by rw [hG]; exact grownCap_ge w _ _ _
  have hGm : G ≤ maxLen := by rw [hG]; exact grownCap_le_maxLen w (n + 1) cap 2 (by unfold maxLen; omega)
  obtain ⟨Z, hZ⟩ : ∃ Z : Array Value, Z = Builtin.zeroCells (Value.int .i64 0).cells (n + 1 - i) ++ Builtin.zeroCells (Value.int .i64 0).cells (G - (n + 1)) := ⟨_, rfl⟩
  have hZl : Z.size = G - i := by rw [hZ]; simp [Builtin.zeroCells, Value.cells]; omega
  obtain ⟨c0, hc0⟩ : ∃ c0, c0 = ((F.map (Value.int .i64)).take i).toArray ++ Z := ⟨_, rfl⟩
  have hl0 : c0.size = G := by rw [hc0, Array.size_append, hZl, List.size_toArray, hol]; omega
  have hrz : ∀ ty, (Builtin.append_ #[36, 3] ty #[.slice (some ⟨g, 0, none⟩) i cap, .int .i64 ((n : Int) + 1 - (i : Int))]).run Tryd.prog w = .ok (.slice (some ⟨w.heap.size, 0, none⟩) (n + 1) G) (w.drew.alloc (.cells c0 2)) := fun ty => by
    have h := Lib.run_append_grow_zeros w 36 3 ty 2 i0 (.int .i64 0) .i64 .i64 Tryd.underlying36 Tryd.underlying3 hi0 hz0 (some ⟨g, 0, none⟩) i cap _ hold (n + 1 - i) (by omega) (by omega) (by omega) (by omega) (by rw [hz2]; omega) (by rw [hz2, hik]; exact growslice_fits (by omega) (by omega))
    rw [hik, ← hG] at h
    rw [hkk, hc0, hZ, ← Array.append_assoc]
    exact h
  have hg0 : (w.drew.alloc (.cells c0 2)).heap[w.heap.size]? = some (.cells c0 2 (0, 0)) := heap_alloc_new w.drew _
  obtain ⟨c1, hc1⟩ : ∃ c1, c1 = (c0.toList.take i ++ [Value.int .i64 x] ++ c0.toList.drop (i + 1)).toArray := ⟨_, rfl⟩
  have hl1 : c1.size = G := by rw [hc1]; simp [hl0]; omega
  have hrA : ∀ (W : World) ty, W.heap = (w.drew.alloc (.cells c0 2)).heap → (Builtin.copy_ #[36, 36] ty #[.slice (some ⟨w.heap.size, i, none⟩) (n + 1 - i) (G - i), .slice (some ⟨vb, 0, none⟩) 1 1]).run Tryd.prog W = .ok (goInt 1) (W.setRow w.heap.size c1) := fun W ty hW => by
    have h1 : W.heap[w.heap.size]? = some (.cells c0 2 (0, 0)) := by rw [hW]; exact hg0
    have h2 : W.heap[vb]? = some (.cells #[.int .i64 x] 2 (0, 0)) := by rw [hW]; exact (alloc_blockL w.drew _ hvl).trans hv
    have := run_copy_row (P := Tryd.prog) W 36 36 ty 2 w.heap.size i (n + 1 - i) (G - i) ⟨vb, 0, none⟩ 1 1 c0 2 [Value.int .i64 x] Tryd.underlying36 hsz h1 (by show 1 = min 1 (n + 1 - i); omega)
      (fun j v hj => by
        rw [Addr.add_lit]
        cases j with
        | zero => simp at hj; subst hj; simp [World.cell?, h2]
        | succ j => simp at hj)
      (by simp [hl0]; omega) (fun u hu => by simp at hu; subst hu; rfl)
    rw [hc1]
    exact this
  obtain ⟨c2, hc2⟩ : ∃ c2, c2 = (c1.toList.take (i + 1) ++ (F.map (Value.int .i64)).drop i ++ c1.toList.drop (i + 1 + (n - i))).toArray := ⟨_, rfl⟩
  have hl2 : c2.size = G := by rw [hc2]; simp [hn, hl1]; omega
  have hld : ((F.map (Value.int .i64)).drop i).length = n - i := by simp [hn]
  have hrB : ∀ (W : World) ty, W.heap = ((w.drew.alloc (.cells c0 2)).setRow w.heap.size c1).heap → (Builtin.copy_ #[36, 36] ty #[.slice (some ⟨w.heap.size, i + 1, none⟩) (n - i) (G - (i + 1)), .slice (some ⟨g, i, none⟩) (n - i) (cap - i)]).run Tryd.prog W = .ok (goInt (n - i : Nat)) (W.setRow w.heap.size c2) := fun W ty hW => by
    have h1 : W.heap[w.heap.size]? = some (.cells c1 2 (0, 0)) := by rw [hW]; exact setRow_heap _ _ c0 c1 2 (0, 0) hg0
    have h2 : W.heap[g]? = some (.cells cur 2 (0, 0)) := by rw [hW, setRow_other _ _ _ _ (by omega)]; exact (alloc_blockL w.drew _ hgl).trans hg
    have := run_copy_row (P := Tryd.prog) W 36 36 ty 2 w.heap.size (i + 1) (n - i) (G - (i + 1)) ⟨g, i, none⟩ (n - i) (cap - i) c1 2 ((F.map (Value.int .i64)).drop i) Tryd.underlying36 hsz h1 (by rw [hld]; show n - i = min (n - i) (n - i); omega)
      (fun j v hj => by
        rw [Addr.add_lit]
        rw [List.getElem?_drop] at hj
        have := hcell (i + j) v hj
        rw [World.cell?] at this ⊢
        simp only [hg] at this
        simp only [h2]
        exact this)
      (by rw [hld, hl1]; omega) (fun u hu => ints_oneL F u (List.mem_of_mem_drop hu))
    rw [hld, ← hc2] at this
    exact this
  have hfin : c2.toList.take (n + 1) = (F.insertIdx i x).map (Value.int .i64) := by
    have e0 : c0.toList = (F.map (Value.int .i64)).take i ++ Z.toList := by rw [hc0]; simp
    rw [hc2, hc1]
    show ((c0.toList.take i ++ [Value.int .i64 x] ++ c0.toList.drop (i + 1)).take (i + 1) ++ (F.map (Value.int .i64)).drop i ++ (c0.toList.take i ++ [Value.int .i64 x] ++ c0.toList.drop (i + 1)).drop (i + 1 + (n - i))).take (n + 1) = _
    rw [e0]
    exact put_new Z.toList F x i n hn (by omega) (by simp [hZl]; omega)
  have HB : Hid (∀ (W : World), Below w.heap.size w W → Below w.heap.size w (W.setRow w.heap.size c2)) := hide (fun W h => below_setRow h (Nat.le_refl _) c2)
  have HB1 : Hid (Below w.heap.size w ((w.drew.alloc (.cells c0 2)).setRow w.heap.size c1)) := hide (below_setRow ((bdrew (Below.refl _ _) 1).alloc (Nat.le_refl _) _) (Nat.le_refl _) c1)
  have HG1 : Hid (((w.drew.alloc (.cells c0 2)).setRow w.heap.size c1).heap[w.heap.size]? = some (.cells c1 2 (0, 0))) := hide (setRow_heap _ _ c0 c1 2 (0, 0) hg0)
  have HRZ := hide hrz
  have HRA := hide hrA
  have HRB := hide hrB
  have HF := hide hfin
  have hml : F.length + 1 = n + 1 := by omega
  have HIL : Hid (((F.insertIdx i x).map (Value.int .i64)).length = n + 1) := hide (by rw [List.length_map, List.length_insertIdx]; split <;> omega)
  clear hc0 hc1 hc2 hg hv hg0 hrz hrA hrB hfin htk hcell hold hld hol hik hkk hZ hZl hsz hG hml hgl hvl hHs hi0 hz0 hz1 hz2
  have hw1 : IntKind.i64.wrap ((i : Int) + 1) = (i : Int) + 1 := by rw [IntKind.wrap_i64]; omega
  have hb1 : (0 : Int) ≤ (i : Int) + 1 := by omega
  have hin : i ≤ n := by omega
  have htn : ((i : Int) + 1).toNat = i + 1 := by omega
  have hb3 : (i : Int) ≤ (n : Int) := by omega
  have hci : ¬ (cap = i) := by omega
  have hGi : ¬ (G = i) := by omega
  have hGim : ¬ (G = i + 1) := by omega
  have h1 : (i : Int) < (n : Int) := by omega
  have h2 : ¬ (i : Int) = (n : Int) := by omega
  have h3 : (cap : Int) < (n : Int) + 1 := by omega
  go_enter Tryd.func59, Tryd.ntmps59
  go_wp2_with (at_builtin; refine Lib.wpList_append_run _ rfl _ _ _ _ rfl _ _ rfl rfl _ _ ((unhide HRZ) _) ?_)
  rw [(unhide HRA) ((w.alloc (.cells c0 2)).drew) _ rfl]
  simp only [Result.andThen]
  rw [Oper.upon_value]
  go_wp2_with fail
  go_region_law (refine step_copy_runI rfl _ _ 36 36 rfl (.slice (some ⟨w.heap.size, i + 1, none⟩) (n - i) (G - (i + 1))) (.slice (some ⟨g, i, none⟩) (n - i) (cap - i)) (by simp [Act.eval, Act.put]) (by simp [Act.eval, Act.put]) ((unhide HRB) _ _ rfl) ?_)
  go_wp2
  go_ret
  refine ⟨_, rfl, ⟨by rw [unhide HIL]; omega, .inr ⟨w.heap.size, G, c2, rfl, Nat.le_refl _, setRow_heap _ _ c1 c2 2 (0, 0) (unhide HG1), hGn, hGm, by rw [hl2]; omega, by rw [Nat.mul_one]; exact unhide HF⟩⟩, (unhide HB) _ (bdrew (unhide HB1) 1)⟩
/-- slices.Insert of one number. -/
theorem insI (B vb i : Nat) (v : Value) (F : List Int) (x : Int) (w : World) (ho : w.ownsRow B 2 1 v F.length (F.map (Value.int .i64))) (hB : B ≤ w.heap.size) (hF : F.length ≤ 100000) (hi : i ≤ F.length)
    (hv : w.heap[vb]? = some (.cells #[.int .i64 x] 2 (0, 0))) (hne : v.ownBlock ≠ some vb) :
    Calls Tryd.prog 59 #[v, .int .i64 (i : Int), .slice (some ⟨vb, 0, none⟩) 1 1] w fun e w' => ∃ v', e = .returned v' ∧ w'.ownsRow B 2 1 v' (F.length + 1) ((F.insertIdx i x).map (Value.int .i64)) ∧ w.grownBy w' v.ownBlock := by
  by_cases h1 : i = F.length
  · subst h1
    exact ins_end B vb v F x w ho hB hF (by simp [World.cell?, hv])
  · rcases ho.2 with ⟨rfl, h0⟩ | ⟨g, cap, cur, rfl, hbg, hgg, hnc, hcm, hcs, htake⟩
    · omega
    · have hgv : vb ≠ g := fun e => hne (by rw [e]; rfl)
      have hcs' : cur.size = cap := by rw [hcs, Nat.mul_one]
      have htk : cur.toList.take F.length = F.map (Value.int .i64) := by rw [Nat.mul_one] at htake; exact htake
      by_cases h2 : F.length + 1 ≤ cap
      · refine (ins_room g cap vb i cur F x w hgg hv hgv hcs' htk (by omega) h2 hcm).mono ?_
        rintro e w' ⟨c2, rfl, a1, a2, a3, a4, a5, a6, a7, a8⟩
        refine ⟨_, rfl, ⟨by rw [List.length_map, List.length_insertIdx]; split <;> omega, .inr ⟨g, cap, c2, rfl, hbg, a1, h2, hcm, by rw [a2]; omega, by rw [Nat.mul_one]; exact a3⟩⟩, ⟨a6, a7, a8, by omega, fun k _ hk => a4 k (fun e => hk (by rw [e]; rfl))⟩⟩
      · refine (ins_grow g cap vb i cur F x w hgg hv hcs' htk (by omega) (by omega) hnc (by omega)).mono ?_
        rintro e w' ⟨v', rfl, a1, a2⟩
        refine ⟨_, rfl, ⟨a1.1, ?_⟩, ⟨a2.os, a2.tape, a2.output, a2.size, fun k hk _ => a2.block k hk⟩⟩
        rcases a1.2 with b | ⟨g', c', u', b1, b2, b3⟩
        · exact .inl b
        · exact .inr ⟨g', c', u', b1, by omega, b3⟩
end Go.Proofs.YthjjojkabbepdaaDoor.Lab
