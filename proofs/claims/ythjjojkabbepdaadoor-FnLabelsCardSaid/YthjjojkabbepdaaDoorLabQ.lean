/- slices.Insert of one number into a row of numbers. -/
import Derived.Test.YthjjojkabbepdaaDoorLabH
import Derived.Test.YthjjojkabbepdaaDoorAppG
import Derived.Shelf.Spec.SlicesInsertGrow
namespace Go.Proofs.YthjjojkabbepdaaDoor.Lab
open Go.RowKit
set_option linter.unusedVariables false
theorem ins_last (F : List Int) (x : Int) : (F.insertIdx F.length x) = F ++ [x] := by
  induction F with
  | nil => rfl
  | cons a F ih => simp [ih]
theorem own_formL {w : World} {B : Nat} {e : TypeId} {s : Nat} {v : Value} {n : Nat} {xs : List Value} (h : w.ownsRow B e s v n xs) : ∃ a c, v = .slice a n c := by
  rcases h.2 with ⟨rfl, rfl⟩ | ⟨g, cap, cur, rfl, _⟩
  · exact ⟨_, _, rfl⟩
  · exact ⟨_, _, rfl⟩
set_option maxRecDepth 100000 in
set_option maxHeartbeats 2000000 in
theorem ins_end (B vb : Nat) (v : Value) (F : List Int) (x : Int) (w : World) (ho : w.ownsRow B 2 1 v F.length (F.map (Value.int .i64))) (hB : B ≤ w.heap.size) (hF : F.length ≤ 100000)
    (hx : w.cell? ⟨vb, 0, none⟩ = some (.int .i64 x)) :
    Calls Tryd.prog 59 #[v, .int .i64 (F.length : Int), .slice (some ⟨vb, 0, none⟩) 1 1] w fun e w' => ∃ v', e = .returned v' ∧ w'.ownsRow B 2 1 v' (F.length + 1) ((F.insertIdx F.length x).map (Value.int .i64)) ∧ w.grownBy w' v.ownBlock := by
  rw [ins_last]
  obtain ⟨va, vc, rfl⟩ := own_formL ho
  obtain ⟨i0, hi, hz0, hz1, hz2⟩ := info_parts info2
  have HO := hide ho
  have hcap : F.length ≤ vc := by
    rcases ho.2 with ⟨h, h2⟩ | ⟨g, cap, cur, h, _, _, h2, _⟩
    · omega
    · injection h with _ _ h3; omega
  have HX : Hid (∀ j u, [Value.int .i64 x][j]? = some u → w.cell? ((⟨vb, 0, none⟩ : Addr).add j) = some u) := hide (fun j u h => by
    cases j with
    | zero => simp at h; subst h; rw [Addr.add_lit]; exact hx
    | succ j => simp at h)
  clear ho hx
  generalize hn : F.length = n at *
  by_cases hvc : vc = n
  · subst hvc
    go_enter Tryd.func59, Tryd.ntmps59
    go_wp2_with (at_builtin; refine wpList_appG _ rfl _ _ 36 rfl B 2 i0 (.int .i64 0) 1 8 Tryd.underlying36 hi hz0 hz1 hz2 rfl (by decide) _ _ _ rfl (unhide HO) ⟨vb, 0, none⟩ 1 1 [.int .i64 x] rfl rfl (unhide HX) (by simp [Value.oneCell']) (by unfold maxLen; omega) (by omega) hB ?_)
    intro v' w3 hown hgrow _
    go_wp2
    go_ret
    exact ⟨v', rfl, by rw [List.map_append]; exact hown, hgrow⟩
  · have hlt : (n : Int) < (vc : Int) := by omega
    have hvc2 : ¬ (vc : Int) = (n : Int) := by omega
    go_enter Tryd.func59, Tryd.ntmps59
    go_wp2_with (at_builtin; refine wpList_appG _ rfl _ _ 36 rfl B 2 i0 (.int .i64 0) 1 8 Tryd.underlying36 hi hz0 hz1 hz2 rfl (by decide) _ _ _ rfl (unhide HO) ⟨vb, 0, none⟩ 1 1 [.int .i64 x] rfl rfl (unhide HX) (by simp [Value.oneCell']) (by unfold maxLen; omega) (by omega) hB ?_)
    intro v' w3 hown hgrow _
    go_wp2
    go_ret
    exact ⟨v', rfl, by rw [List.map_append]; exact hown, hgrow⟩
theorem put_mid (C : List Value) (F : List Int) (x : Int) (i n : Nat) (hn : F.length = n) (hi : i < n) (hC : n + 1 ≤ C.length) (htk : C.take n = F.map (Value.int .i64)) :
    ((C.take (i + 1) ++ (F.map (Value.int .i64)).drop i ++ C.drop (i + 1 + (n - i))).take i ++ [Value.int .i64 x] ++ (C.take (i + 1) ++ (F.map (Value.int .i64)).drop i ++ C.drop (i + 1 + (n - i))).drop (i + 1)).take (n + 1) = (F.insertIdx i x).map (Value.int .i64) := by
  have e1 : (C.take (i + 1) ++ (F.map (Value.int .i64)).drop i ++ C.drop (i + 1 + (n - i))).take i = (F.take i).map (Value.int .i64) := by
    rw [List.append_assoc, List.take_append_of_le_length (by rw [List.length_take]; omega), List.take_take, show min i (i + 1) = i by omega, List.map_take, ← htk, List.take_take, show min i n = i by omega]
  have e2 : (C.take (i + 1) ++ (F.map (Value.int .i64)).drop i ++ C.drop (i + 1 + (n - i))).drop (i + 1) = (F.drop i).map (Value.int .i64) ++ C.drop (i + 1 + (n - i)) := by
    rw [List.append_assoc, List.drop_left' (by rw [List.length_take]; omega), List.map_drop]
  have e3 : F.insertIdx i x = F.take i ++ x :: F.drop i := by
    have := insert_mid (F.take i) (F.drop i) x
    rw [List.take_append_drop, List.length_take, show min i F.length = i by omega] at this
    exact this
  rw [e1, e2, e3, List.map_append, List.map_cons, List.append_assoc, List.singleton_append]
  have e4 : ((F.take i).map (Value.int .i64) ++ Value.int .i64 x :: ((F.drop i).map (Value.int .i64) ++ C.drop (i + 1 + (n - i)))) = ((F.take i).map (Value.int .i64) ++ Value.int .i64 x :: (F.drop i).map (Value.int .i64)) ++ C.drop (i + 1 + (n - i)) := by simp
  rw [e4]
  exact List.take_left' (by simp; omega)
theorem ints_oneL (L : List Int) : ∀ u ∈ L.map (Value.int .i64), u.oneCell' = true := by
  intro u hu
  obtain ⟨x, _, rfl⟩ := List.mem_map.1 hu
  rfl
set_option maxRecDepth 100000 in
set_option maxHeartbeats 400000 in
theorem ins_room (g cap vb i : Nat) (cur : Array Value) (F : List Int) (x : Int) (w : World) (hg : w.heap[g]? = some (.cells cur 2 (0, 0))) (hv : w.heap[vb]? = some (.cells #[.int .i64 x] 2 (0, 0))) (hne : vb ≠ g)
    (hcs : cur.size = cap) (htk : cur.toList.take F.length = F.map (Value.int .i64)) (hi : i < F.length) (hroom : F.length + 1 ≤ cap) (hcap : cap ≤ maxLen) :
    Calls Tryd.prog 59 #[.slice (some ⟨g, 0, none⟩) F.length cap, .int .i64 (i : Int), .slice (some ⟨vb, 0, none⟩) 1 1] w fun e w' => ∃ cur', e = .returned (.slice (some ⟨g, 0, none⟩) (F.length + 1) cap) ∧ w'.heap[g]? = some (.cells cur' 2 (0, 0)) ∧ cur'.size = cap ∧ cur'.toList.take (F.length + 1) = (F.insertIdx i x).map (Value.int .i64) ∧ (∀ k, k ≠ g → w'.heap[k]? = w.heap[k]?) ∧ w'.heap.size = w.heap.size ∧ w'.os = w.os ∧ w'.tape = w.tape ∧ w'.output = w.output := by
  unfold maxLen at hcap
  obtain ⟨i0, hi0, hz0, hz1, hz2⟩ := info_parts info2
  have hsz : (Tryd.prog.info? 2).map (·.size) = some 1 := by rw [hi0]; simp [hz1]
  generalize hn : F.length = n at *
  have hlc : cur.toList.length = cap := by simp [hcs]
  have hld : ((F.map (Value.int .i64)).drop i).length = n - i := by simp [hn]
  obtain ⟨c1, hc1⟩ : ∃ c1, c1 = (cur.toList.take (i + 1) ++ (F.map (Value.int .i64)).drop i ++ cur.toList.drop (i + 1 + (n - i))).toArray := ⟨_, rfl⟩
  have hl1 : c1.size = cap := by rw [hc1]; simp [hn]; omega
  have hr1 : ∀ ty, (Builtin.copy_ #[36, 36] ty #[.slice (some ⟨g, i + 1, none⟩) (n - i) (cap - (i + 1)), .slice (some ⟨g, i, none⟩) (n + 1 - i) (cap - i)]).run Tryd.prog w.drew = .ok (goInt (n - i : Nat)) (w.drew.setRow g c1) := fun ty => by
    have := run_copy_row (P := Tryd.prog) w.drew 36 36 ty 2 g (i + 1) (n - i) (cap - (i + 1)) ⟨g, i, none⟩ (n + 1 - i) (cap - i) cur 2 ((F.map (Value.int .i64)).drop i) Tryd.underlying36 hsz hg (by rw [hld]; show n - i = min (n + 1 - i) (n - i); omega)
      (fun j v hj => by
        rw [Addr.add_lit]
        have hj2 : cur.toList[i + j]? = some v := by
          rw [List.getElem?_drop, ← htk, List.getElem?_take] at hj
          split at hj
          · exact hj
          · cases hj
        show w.cell? ⟨g, i + j, none⟩ = some v
        rw [World.cell?]
        simp only [hg]
        simpa using hj2)
      (by rw [hld, hcs]; omega) (fun u hu => ints_oneL F u (List.mem_of_mem_drop hu))
    rw [hld, ← hc1] at this
    exact this
  have hg1 := setRow_heap w.drew g cur c1 2 (0, 0) hg
  obtain ⟨c2, hc2⟩ : ∃ c2, c2 = (c1.toList.take i ++ [Value.int .i64 x] ++ c1.toList.drop (i + 1)).toArray := ⟨_, rfl⟩
  have hl2 : c2.size = cap := by rw [hc2]; simp [hl1]; omega
  have hr2 : ∀ (W : World) ty, W.heap = (w.drew.setRow g c1).heap → (Builtin.copy_ #[36, 36] ty #[.slice (some ⟨g, i, none⟩) (n + 1 - i) (cap - i), .slice (some ⟨vb, 0, none⟩) 1 1]).run Tryd.prog W = .ok (goInt 1) (W.setRow g c2) := fun W ty hW => by
    have hg1' : W.heap[g]? = some (.cells c1 2 (0, 0)) := by rw [hW]; exact hg1
    have hv1 : W.heap[vb]? = some (.cells #[.int .i64 x] 2 (0, 0)) := by rw [hW, setRow_other _ _ _ _ hne]; exact hv
    have := run_copy_row (P := Tryd.prog) W 36 36 ty 2 g i (n + 1 - i) (cap - i) ⟨vb, 0, none⟩ 1 1 c1 2 [Value.int .i64 x] Tryd.underlying36 hsz hg1' (by show 1 = min 1 (n + 1 - i); omega)
      (fun j v hj => by
        rw [Addr.add_lit]
        cases j with
        | zero => simp at hj; subst hj; simp [World.cell?, hv1]
        | succ j => simp at hj)
      (by simp [hl1]; omega) (fun u hu => by simp at hu; subst hu; rfl)
    rw [hc2]
    exact this
  have hfin : c2.toList.take (n + 1) = (F.insertIdx i x).map (Value.int .i64) := by
    rw [hc2, hc1]
    exact put_mid cur.toList F x i n hn (by omega) (by omega) htk
  have hov : ∀ tS tR, Tryd.prog.underlying tS = some (.slice 2) → (Extern.SlicesOverlaps.overlaps #[tS, tS] #[tR] #[.slice (some ⟨vb, 0, none⟩) 1 1, .slice (some ⟨g, i + 1, none⟩) (n - i) (cap - (i + 1))]).run Tryd.prog w = .ok (.bool false) w := fun tS tR ht =>
    Lib.run_overlaps_apart w tS tR 2 ht 1 (fun W => by simp [Go.sizeOf, typeInfo, hi0, hz1]) ⟨vb, 0, none⟩ ⟨g, i + 1, none⟩ 1 1 (n - i) (cap - (i + 1)) hne 2 2 1 cap (by simp [World.shape?, hv]) (by simp [World.shape?, hg, hcs]) (by omega) (by simp [World.frozen?, hv]) (by simp [World.frozen?, hv])
  have HOV := hide hov
  clear hov
  have HG1 := hide hg1
  have HR1 := hide hr1
  have HR2 := hide hr2
  have HF := hide hfin
  clear hc1 hc2 hg hg1 hr1 hr2 hfin htk hv hlc hld hsz
  have HW1 : Hid ((∀ k, k ≠ g → (w.drew.setRow g c1).heap[k]? = w.heap[k]?) ∧ (w.drew.setRow g c1).heap.size = w.heap.size ∧ (w.drew.setRow g c1).os = w.os ∧ (w.drew.setRow g c1).tape = w.tape ∧ (w.drew.setRow g c1).output = w.output) := hide ⟨fun k hk => setRow_other _ _ _ _ hk, (size_setRow w.drew g c1).trans rfl, rfl, rfl, rfl⟩
  generalize w.drew.setRow g c1 = w1 at *
  have h1 : (i : Int) < (n : Int) := by omega
  have h2 : ¬ (i : Int) = (n : Int) := by omega
  have h3 : ¬ (cap : Int) < (n : Int) + 1 := by omega
  have h4 : ¬ i = cap := by omega
  have h5 : ¬ i + 1 = cap := by omega
  have hw1 : IntKind.i64.wrap ((i : Int) + 1) = (i : Int) + 1 := by rw [IntKind.wrap_i64]; omega
  have hb1 : (0 : Int) ≤ (i : Int) + 1 := by omega
  have hin : i ≤ n := by omega
  have htn : ((i : Int) + 1).toNat = i + 1 := by omega
  have hb2 : ¬ (cap = i + 1) := by omega
  have hb3 : (i : Int) ≤ (n : Int) + 1 := by omega
  have hb4 : ¬ (cap = i) := by omega
  have hsub : n + 1 - (i + 1) = n - i := by omega
  have HSB := hide hsub
  clear hsub
  go_enter Tryd.func59, Tryd.ntmps59
  go_wp2_with fail
  rw [run_callFunc_extern Tryd.func67 (by kernel_rfl) (by kernel_rfl) (by kernel_rfl) (e := Extern.SlicesOverlaps.overlaps #[36, 36] #[4]) (by kernel_rfl), (unhide HOV) _ _ Tryd.underlying36]
  simp only [Result.andThen]
  rw [Oper.upon_value]
  go_wp2_with fail
  go_region_law (refine step_copy_runI rfl _ _ 36 36 rfl _ _ (by simp [Act.eval, Act.put]) (by simp [Act.eval, Act.put]) ((unhide HR1) _) ?_)
  go_wp2_with fail
  rw [(unhide HR2) _ _ rfl]
  simp only [Result.andThen]
  rw [Oper.upon_value]
  go_wp2
  go_ret
  obtain ⟨s0, s1, s2, s3, s4⟩ := unhide HW1
  exact ⟨c2, rfl, setRow_heap _ g c1 c2 2 (0, 0) (unhide HG1), hl2, unhide HF, fun k hk => (setRow_other _ _ _ _ hk).trans (s0 k hk), by simpa using s1, by simpa using s2, by simpa using s3, by simpa using s4⟩
end Go.Proofs.YthjjojkabbepdaaDoor.Lab
