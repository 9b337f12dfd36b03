/- Several texts in one. -/
import Derived.Test.YtamigjljgepfiaaGreatDoorMA
import Derived.Maps.Keyed
import Derived.RangeFuncRecord
import Derived.Test.YtamigjljgepfiaaGreatDoorMC
import Derived.Maps.RangeWalk
import Derived.Maps.Range
/- A map whose keys are pairs: what is asked of it and laid into it. -/
namespace Go.Proofs.YtamigjljgepfiaaGreatDoor
open Go.RowKit
/-- A key. -/
def keyV (a b : Int) : Value := .agg #[.int .i64 a, .int .i64 b]
set_option maxRecDepth 100000 in
theorem eq_pair (a b c d : Int) (w : World) : (Op.equalIn 10000 98 (.agg #[.int .i64 a, .int .i64 b]) (.agg #[.int .i64 c, .int .i64 d])).run Tryz.prog w = .ok (a == c && b == d) w := by
  have u2 := Tryz.underlying2
  have a2 := Tryz.isAgg2
  have z2 := Tryz.sizeOf2
  rw [show (10000 : Nat) = 9999 + 1 from rfl, Op.equalIn]
  simp only [Sem.run_bind, run_underlying Tryz.underlying98, Result.andThen_ok]
  simp only [Std.Legacy.Range.forIn_eq_forIn_range', Std.Legacy.Range.size, Nat.sub_zero, Nat.add_sub_cancel, Nat.div_one, List.range'_succ, List.range'_zero, List.forIn_cons, List.forIn_nil]
  go_simp
  by_cases h1 : a = c <;> by_cases h2 : b = d <;> simp [h1, h2]
/-- Entries: two parts, the whole. -/
def Ents (D : List (Int × Int × Int)) (L : List MapEntry) : Prop := L.map (fun e => (e.key, e.val)) = D.map (fun t => (keyV t.1 t.2.1, Value.int .i64 t.2.2))
/-- Where a key is found. -/
def findD (a b : Int) : List (Int × Int × Int) → Nat → Option (Nat × Value)
  | [], _ => none
  | t :: r, i => if a = t.1 ∧ b = t.2.1 then some (i, .int .i64 t.2.2) else findD a b r (i + 1)
theorem find_run (a b : Int) (w : World) : ∀ (D : List (Int × Int × Int)) (L : List MapEntry) (i : Nat), Ents D L → (Instr.findAsking 98 (keyV a b) L i).run Tryz.prog w = .ok (findD a b D i) w
  | [], L, i, h => by
    have : L = [] := by simpa [Ents] using h
    subst this
    simp [Instr.findAsking, findD]
  | t :: r, L, i, h => by
    match L, h with
    | e :: L', h =>
      have h' : (e.key, e.val) = (keyV t.1 t.2.1, Value.int .i64 t.2.2) ∧ Ents r L' := by simpa [Ents] using h
      obtain ⟨hk, hr⟩ := h'
      have hv : e.val = Value.int .i64 t.2.2 := congrArg Prod.snd hk
      replace hk : e.key = keyV t.1 t.2.1 := congrArg Prod.fst hk
      have he : (Op.equal 98 (keyV a b) e.key).run Tryz.prog w = .ok (a == t.1 && b == t.2.1) w := by
        rw [hk]
        exact eq_pair a b t.1 t.2.1 w
      by_cases hc : a = t.1 ∧ b = t.2.1
      · have ht : (a == t.1 && b == t.2.1) = true := by simp [hc.1, hc.2]
        rw [ht] at he
        have e1 : findD a b (t :: r) i = some (i, .int .i64 t.2.2) := if_pos hc
        rw [e1]
        simp [Instr.findAsking, he, hv]
      · have hf : (a == t.1 && b == t.2.1) = false := by
          cases hb : (a == t.1 && b == t.2.1) with
          | false => rfl
          | true => exact (hc (by simpa using hb)).elim
        rw [hf] at he
        have e1 : findD a b (t :: r) i = findD a b r (i + 1) := if_neg hc
        rw [e1]
        simp [Instr.findAsking, he, find_run a b w r L' (i + 1) hr]
theorem findKey_run (a b : Int) (w : World) (D : List (Int × Int × Int)) (L : List MapEntry) (h : Ents D L) : (Instr.findKey 98 (keyV a b) L).run Tryz.prog w = .ok (findD a b D 0) w := by
  unfold Instr.findKey
  simp only [Sem.run_bind, run_underlying Tryz.underlying98, Result.andThen_ok]
  match L, D, h with
  | [], D, h =>
    have : D = [] := by
      have h2 : ([] : List (Value × Value)) = D.map _ := h
      exact List.map_eq_nil_iff.1 h2.symm
    subst this
    simp [Instr.findNow, findD]
  | e :: L', D, h =>
    have hn : Instr.findNow (.array 2 2) (keyV a b) (e :: L') 0 = none := by
      simp [Instr.findNow, Instr.sameNow]
    rw [hn]
    exact find_run a b w D (e :: L') 0 h
theorem check_int (em : Bool) (n : Nat) (a : Int) (w : World) : (Instr.checkKey em (n + 1) 2 (.int .i64 a)).run Tryz.prog w = .ok () w := by
  simp [Instr.checkKey, run_underlying Tryz.underlying2]
theorem part_run (a b : Int) (w : World) : (part 2 #[.int .i64 a, .int .i64 b] 0).run Tryz.prog w = .ok (.int .i64 a) w ∧ (part 2 #[.int .i64 a, .int .i64 b] 1).run Tryz.prog w = .ok (.int .i64 b) w := by
  constructor <;> kernel_rfl
theorem check_n (em : Bool) (n : Nat) (a b : Int) (w : World) : (Instr.checkKey em (n + 1 + 1) 98 (keyV a b)).run Tryz.prog w = .ok () w := by
  have z2 := Tryz.sizeOf2
  have p1 := (part_run a b w).1
  have p2 := (part_run a b w).2
  have c1 := check_int em n a w
  have c2 := check_int em n b w
  rw [Instr.checkKey]
  simp only [Sem.run_bind, run_underlying Tryz.underlying98, Result.andThen_ok, keyV]
  simp only [Std.Legacy.Range.forIn_eq_forIn_range', Std.Legacy.Range.size, Nat.sub_zero, Nat.add_sub_cancel, Nat.div_one, List.range'_succ, List.range'_zero, List.forIn_cons, List.forIn_nil]
  simp [z2, p1, p2, c1, c2, Result.andThen]
theorem check_run (em : Bool) (a b : Int) (w : World) : (Instr.checkKey em 10000 98 (keyV a b)).run Tryz.prog w = .ok () w := check_n em 9998 a b w
/-- The map at a block. -/
def BookAt (w : World) (M : Nat) (D : List (Int × Int × Int)) : Prop := ∃ es clock, w.heap[M]? = some (.map es clock) ∧ Ents D es.toList
def valD (o : Option (Nat × Value)) : Value := match o with | some (_, v) => .tuple #[v, .bool true] | none => .tuple #[.int .i64 0, .bool false]
set_option maxRecDepth 100000 in
theorem lookup_run {w : World} {M : Nat} {D : List (Int × Int × Int)} (h : BookAt w M D) (a b : Int) : (Instr.lookup 48 (.map (some M)) (.agg #[.int .i64 a, .int .i64 b]) true).run Tryz.prog w = .ok (valD (findD a b D 0)) w := by
  obtain ⟨es, clock, hM, he⟩ := h
  have hz : (zeroValue 2).run Tryz.prog w = .ok (.int .i64 0) w := by kernel_rfl
  have hc := check_run es.isEmpty a b w
  have hf := findKey_run a b w D es.toList he
  unfold keyV at hc hf
  cases hd : findD a b D 0 with
  | none =>
    rw [hd] at hf
    simp [Instr.lookup, run_underlying Tryz.underlying48, MapKept.run_getObj_map hM, hc, hf, hz, Result.andThen, valD]
  | some x =>
    rw [hd] at hf
    obtain ⟨j, v⟩ := x
    simp [Instr.lookup, run_underlying Tryz.underlying48, MapKept.run_getObj_map hM, hc, hf, Result.andThen, valD]
set_option maxRecDepth 100000 in
theorem update_run {w : World} {M : Nat} {D : List (Int × Int × Int)} (h : BookAt w M D) (a b v : Int) (hn : findD a b D 0 = none) :
    ∃ o, (Instr.mapUpdate 48 (.map (some M)) (.agg #[.int .i64 a, .int .i64 b]) (.int .i64 v)).run Tryz.prog w = .ok () (w.putObj M o) ∧ BookAt (w.putObj M o) M (D ++ [(a, b, v)]) := by
  obtain ⟨es, clock, hM, he⟩ := h
  have hc := check_run false a b w
  have hf := findKey_run a b w D es.toList he
  rw [hn] at hf
  unfold keyV at hc hf
  refine ⟨.map (es.push ⟨.agg #[.int .i64 a, .int .i64 b], .int .i64 v, clock⟩) (clock + 1), ?_, _, _, World.putObj_heap_same (Array.getElem?_eq_some_iff.1 hM).1, ?_⟩
  · simp [Instr.mapUpdate, run_underlying Tryz.underlying48, MapKept.run_getObj_map hM, hc, hf, MapKept.run_setObj_map _ hM, Result.andThen, World.putObj]
  · unfold Ents at he ⊢
    rw [Array.toList_push, List.map_append, he, List.map_append]
    rfl
theorem BookAt.at {w w' : World} {M : Nat} {D : List (Int × Int × Int)} (h : BookAt w M D) (e : w'.heap[M]? = w.heap[M]?) : BookAt w' M D := by
  obtain ⟨es, clock, hM, he⟩ := h
  exact ⟨es, clock, e.trans hM, he⟩
theorem BookAt.lt {w : World} {M : Nat} {D : List (Int × Int × Int)} (h : BookAt w M D) : M < w.heap.size := by
  obtain ⟨es, clock, hM, _⟩ := h
  exact (Array.getElem?_eq_some_iff.1 hM).1
end Go.Proofs.YtamigjljgepfiaaGreatDoor
/- The points of pairs of parts: no Go in sight. -/
namespace Go.Proofs.YtamigjljgepfiaaGreatDoor
/-- The number of a letter. -/
def letNo (p : Int) : Int := if 65 ≤ p ∧ p ≤ 90 then p - 65 else if 97 ≤ p ∧ p ≤ 122 then p - 97 + 26 else -1
/-- The point whose parts two are. -/
def pairP (a b : Int) : Int :=
  if 0 ≤ letNo a ∧ 4096 ≤ b ∧ b ≤ 4103 then 8192 + 8 * letNo a + b - 4096
  else if 0 ≤ letNo a ∧ 4112 ≤ b ∧ b ≤ 4119 then 8704 + 8 * letNo a + b - 4112
  else if 8704 ≤ a ∧ a < 9120 ∧ b = 4096 then a + 512
  else if 1792 ≤ a ∧ a ≤ 1810 ∧ 1824 ≤ b ∧ b ≤ 1844 then 12288 + ((a - 1792) * 21 + b - 1824) * 28
  else if 12288 ≤ a ∧ a ≤ 23459 ∧ (a - 12288) % 28 = 0 ∧ 1857 ≤ b ∧ b ≤ 1883 then a + b - 1856
  else -1
/-- A row of points. -/
def rowL (first step : Int) (n : Nat) : List Int := (List.range n).map fun (i : Nat) => first + (i : Int) * step
/-- The points of two parts of which a is the first. -/
def wholesL (a : Int) : List Int :=
  if 0 ≤ letNo a then rowL (8192 + 8 * letNo a) 1 8 ++ rowL (8704 + 8 * letNo a) 1 8
  else if 8704 ≤ a ∧ a ≤ 9119 then rowL (a + 512) 1 1
  else if 1792 ≤ a ∧ a ≤ 1810 then rowL (12288 + (a - 1792) * 21 * 28) 28 21
  else if 12288 ≤ a ∧ a ≤ 23459 ∧ (a - 12288) % 28 = 0 then rowL (a + 1) 1 27
  else []
theorem rowL_len (f s : Int) (n : Nat) : (rowL f s n).length = n := by simp [rowL]
theorem rowL_succ (f s : Int) (n : Nat) : rowL f s (n + 1) = rowL f s n ++ [f + (n : Int) * s] := by simp [rowL, List.range_succ]
theorem rowL_mem {f s : Int} {n : Nat} {x : Int} : x ∈ rowL f s n ↔ ∃ i : Nat, i < n ∧ x = f + (i : Int) * s := by
  unfold rowL
  rw [List.mem_map]
  constructor
  · rintro ⟨i, hi, rfl⟩
    exact ⟨i, List.mem_range.1 hi, rfl⟩
  · rintro ⟨i, hi, rfl⟩
    exact ⟨i, List.mem_range.2 hi, rfl⟩
theorem letNo_bd (a : Int) : letNo a = -1 ∨ (0 ≤ letNo a ∧ letNo a ≤ 51 ∧ letterZ (letNo a) = a) := by
  unfold letNo letterZ
  split
  · right
    rw [if_pos (by omega)]
    omega
  · split
    · right
      rw [if_neg (by omega)]
      omega
    · exact .inl rfl
/-- Each of them has a as its first part, and comes back from its parts. -/
theorem whole_parts {a x : Int} (h : x ∈ wholesL a) : ∃ b, partsZ false x = [a, b] ∧ pairP a b = x ∧ 0 ≤ x ∧ x ≤ 1114111 := by
  unfold wholesL at h
  by_cases h1 : 0 ≤ letNo a
  · rw [if_pos h1, List.mem_append] at h
    have hl := (letNo_bd a).resolve_left (by omega)
    obtain ⟨_, h51, hz⟩ := hl
    rcases h with h | h
    · obtain ⟨i, hi, rfl⟩ := rowL_mem.1 h
      refine ⟨4096 + (i : Int), ?_, ?_, by omega, by omega⟩
      · unfold partsZ
        rw [if_pos (by omega)]
        have e1 : (8192 + 8 * letNo a + (i : Int) * 1 - 8192) / 8 = letNo a := by omega
        have e2 : (8192 + 8 * letNo a + (i : Int) * 1 - 8192) % 8 = (i : Int) := by omega
        rw [e1, e2, hz]
      · unfold pairP
        rw [if_pos (by omega)]
        omega
    · obtain ⟨i, hi, rfl⟩ := rowL_mem.1 h
      refine ⟨4112 + (i : Int), ?_, ?_, by omega, by omega⟩
      · unfold partsZ
        rw [if_neg (by omega), if_pos (by omega)]
        have e1 : (8704 + 8 * letNo a + (i : Int) * 1 - 8704) / 8 = letNo a := by omega
        have e2 : (8704 + 8 * letNo a + (i : Int) * 1 - 8704) % 8 = (i : Int) := by omega
        rw [e1, e2, hz]
      · unfold pairP
        rw [if_neg (by omega), if_pos (by omega)]
        omega
  rw [if_neg h1] at h
  by_cases h2 : 8704 ≤ a ∧ a ≤ 9119
  · rw [if_pos h2] at h
    obtain ⟨i, hi, rfl⟩ := rowL_mem.1 h
    refine ⟨4096, ?_, ?_, by omega, by omega⟩
    · unfold partsZ
      rw [if_neg (by omega), if_neg (by omega), if_pos (by omega)]
      congr 1
      omega
    · unfold pairP
      rw [if_neg (by omega), if_neg (by omega), if_pos (by omega)]
      omega
  rw [if_neg h2] at h
  by_cases h3 : 1792 ≤ a ∧ a ≤ 1810
  · rw [if_pos h3] at h
    obtain ⟨i, hi, rfl⟩ := rowL_mem.1 h
    refine ⟨1824 + (i : Int), ?_, ?_, by omega, by omega⟩
    · unfold partsZ
      rw [if_neg (by omega), if_neg (by omega), if_neg (by omega), if_neg (by omega), if_pos (by omega), if_neg (by omega)]
      have e1 : (12288 + (a - 1792) * 21 * 28 + (i : Int) * 28 - 12288) / 588 = a - 1792 := by omega
      have e2 : (12288 + (a - 1792) * 21 * 28 + (i : Int) * 28 - 12288) / 28 % 21 = (i : Int) := by omega
      rw [e1, e2]
      congr 1
      omega
    · unfold pairP
      rw [if_neg (by omega), if_neg (by omega), if_neg (by omega), if_pos (by omega)]
      omega
  rw [if_neg h3] at h
  by_cases h4 : 12288 ≤ a ∧ a ≤ 23459 ∧ (a - 12288) % 28 = 0
  · rw [if_pos h4] at h
    obtain ⟨i, hi, rfl⟩ := rowL_mem.1 h
    refine ⟨1857 + (i : Int), ?_, ?_, by omega, by omega⟩
    · unfold partsZ
      have e1 : (a + 1 + (i : Int) * 1 - 12288) % 28 = (i : Int) + 1 := by omega
      rw [if_neg (by omega), if_neg (by omega), if_neg (by omega), if_neg (by omega), if_pos (by omega), e1, if_pos (by omega)]
      congr 1
      · omega
      · congr 1
        omega
    · unfold pairP
      rw [if_neg (by omega), if_neg (by omega), if_neg (by omega), if_neg (by omega), if_pos (by omega)]
      omega
  rw [if_neg h4] at h
  simp at h
/-- And there is no other one. -/
theorem pair_whole {a b : Int} (h : 0 ≤ pairP a b) : pairP a b ∈ wholesL a := by
  unfold pairP at h ⊢
  unfold wholesL
  have hl := letNo_bd a
  by_cases h1 : 0 ≤ letNo a ∧ 4096 ≤ b ∧ b ≤ 4103
  · rw [if_pos h1, if_pos h1.1, List.mem_append]
    exact .inl (rowL_mem.2 ⟨(b - 4096).toNat, by omega, by omega⟩)
  rw [if_neg h1] at h ⊢
  by_cases h2 : 0 ≤ letNo a ∧ 4112 ≤ b ∧ b ≤ 4119
  · rw [if_pos h2, if_pos h2.1, List.mem_append]
    exact .inr (rowL_mem.2 ⟨(b - 4112).toNat, by omega, by omega⟩)
  rw [if_neg h2] at h ⊢
  have na : ¬ (65 ≤ a ∧ a ≤ 90) → ¬ (97 ≤ a ∧ a ≤ 122) → letNo a = -1 := fun x y => by unfold letNo; rw [if_neg x, if_neg y]
  by_cases h3 : 8704 ≤ a ∧ a < 9120 ∧ b = 4096
  · have := na (by omega) (by omega)
    rw [if_pos h3, if_neg (by omega), if_pos (by omega)]
    exact rowL_mem.2 ⟨0, by omega, by omega⟩
  rw [if_neg h3] at h ⊢
  by_cases h4 : 1792 ≤ a ∧ a ≤ 1810 ∧ 1824 ≤ b ∧ b ≤ 1844
  · have := na (by omega) (by omega)
    rw [if_pos h4, if_neg (by omega), if_neg (by omega), if_pos (by omega)]
    exact rowL_mem.2 ⟨(b - 1824).toNat, by omega, by omega⟩
  rw [if_neg h4] at h ⊢
  by_cases h5 : 12288 ≤ a ∧ a ≤ 23459 ∧ (a - 12288) % 28 = 0 ∧ 1857 ≤ b ∧ b ≤ 1883
  · have := na (by omega) (by omega)
    rw [if_pos h5, if_neg (by omega), if_neg (by omega), if_neg (by omega), if_pos (by omega)]
    exact rowL_mem.2 ⟨(b - 1857).toNat, by omega, by omega⟩
  rw [if_neg h5] at h
  omega
/-- What composing takes behind another one. -/
def isSec (p : Int) : Bool := decide ((1824 ≤ p ∧ p ≤ 1844) ∨ (1857 ≤ p ∧ p ≤ 1883) ∨ (4096 ≤ p ∧ p ≤ 4103) ∨ (4112 ≤ p ∧ p ≤ 4119))
theorem pair_sec {a b : Int} (h : isSec b = false) : pairP a b = -1 := by
  have h' := of_decide_eq_false h
  unfold pairP
  rw [if_neg (by omega), if_neg (by omega), if_neg (by omega), if_neg (by omega), if_neg (by omega)]
/-- No two of the points of one first part are alike. -/
theorem wholes_nodup (a : Int) : (wholesL a).Nodup := by
  have hr : ∀ (f s : Int) (n : Nat), s ≠ 0 → (rowL f s n).Nodup := fun f s n hs => by
    unfold rowL
    refine List.Pairwise.map _ ?_ (List.nodup_range)
    intro i j hij e
    apply hij
    have h2 : (i : Int) * s = (j : Int) * s := by omega
    have := Int.eq_of_mul_eq_mul_right hs h2
    omega
  unfold wholesL
  split
  · rw [List.nodup_append]
    refine ⟨hr _ _ _ (by omega), hr _ _ _ (by omega), fun x hx y hy e => ?_⟩
    obtain ⟨i, hi, rfl⟩ := rowL_mem.1 hx
    obtain ⟨j, hj, rfl⟩ := rowL_mem.1 hy
    have := letNo_bd a
    omega
  split
  · exact hr _ _ _ (by omega)
  split
  · exact hr _ _ _ (by omega)
  split
  · exact hr _ _ _ (by omega)
  · exact List.nodup_nil
theorem pair_parts {a b : Int} (h : 0 ≤ pairP a b) : partsZ false (pairP a b) = [a, b] := by
  obtain ⟨c, hc, he, _⟩ := whole_parts (pair_whole h)
  have hi : c = b := by
    have hl := letNo_bd a
    have hn : ¬ (65 ≤ a ∧ a ≤ 90) → ¬ (97 ≤ a ∧ a ≤ 122) → letNo a = -1 := fun x y => by unfold letNo; rw [if_neg x, if_neg y]
    generalize hx : pairP a b = x at *
    unfold pairP at hx he
    by_cases p1 : 65 ≤ a ∧ a ≤ 90
    · have e : letNo a = a - 65 := if_pos p1
      rw [e] at hx he
      split at hx <;> split at he <;> repeat (first | omega | split at hx | split at he)
    · by_cases p2 : 97 ≤ a ∧ a ≤ 122
      · have e : letNo a = a - 97 + 26 := by unfold letNo; rw [if_neg p1, if_pos p2]
        rw [e] at hx he
        split at hx <;> split at he <;> repeat (first | omega | split at hx | split at he)
      · rw [hn p1 p2] at hx he
        split at hx <;> split at he <;> repeat (first | omega | split at hx | split at he)
  rw [hc, hi]
theorem pairP_neg {a b : Int} (h : ¬ 0 ≤ pairP a b) : pairP a b = -1 := by
  have hl := letNo_bd a
  unfold pairP at h ⊢
  split
  · rename_i h1
    rw [if_pos h1] at h
    omega
  rename_i h1
  rw [if_neg h1] at h
  split
  · rename_i h2
    rw [if_pos h2] at h
    omega
  rename_i h2
  rw [if_neg h2] at h
  split
  · rename_i h3
    rw [if_pos h3] at h
    omega
  rename_i h3
  rw [if_neg h3] at h
  split
  · rename_i h4
    rw [if_pos h4] at h
    omega
  rename_i h4
  rw [if_neg h4] at h
  split
  · rename_i h5
    rw [if_pos h5] at h
    omega
  rfl
/-- The second part of a point. -/
def secZ (x : Int) : Int := (pairZ false x).2
theorem whole_pair {a x : Int} (h : x ∈ wholesL a) : pairZ false x = (a, secZ x) ∧ pairP a (secZ x) = x := by
  obtain ⟨b, hb, he, _⟩ := whole_parts h
  have e : pairZ false x = (a, b) := by unfold pairZ; rw [hb]
  have e2 : secZ x = b := by unfold secZ; rw [e]
  rw [e2]
  exact ⟨e, he⟩
theorem sec_pair {a b : Int} (h : 0 ≤ pairP a b) : secZ (pairP a b) = b := by
  unfold secZ pairZ
  rw [pair_parts h]
/-- Entries of one first part. -/
def entA (a : Int) (xs : List Int) : List (Int × Int × Int) := xs.map fun x => (a, secZ x, x)
theorem entA_snoc (a : Int) (xs : List Int) (x : Int) : entA a (xs ++ [x]) = entA a xs ++ [(a, secZ x, x)] := by simp [entA]
def HasA (a : Int) (D : List (Int × Int × Int)) : Prop := ∃ t ∈ D, t.1 = a
/-- A book that tells the truth, and of a first part all or nothing. -/
def Good (D : List (Int × Int × Int)) : Prop := (∀ t ∈ D, pairP t.1 t.2.1 = t.2.2 ∧ 0 ≤ t.2.2) ∧ ∀ a, HasA a D → ∀ x ∈ wholesL a, (a, secZ x, x) ∈ D
theorem good_nil : Good [] := ⟨by simp, fun a h => by obtain ⟨t, ht, _⟩ := h; simp at ht⟩
theorem good_more {D : List (Int × Int × Int)} (h : Good D) (a : Int) : Good (D ++ entA a (wholesL a)) := by
  refine ⟨fun t ht => ?_, fun c hc x hx => ?_⟩
  · rcases List.mem_append.1 ht with ht | ht
    · exact h.1 t ht
    · obtain ⟨x, hx, rfl⟩ := List.mem_map.1 ht
      obtain ⟨b, _, _, h0, _⟩ := whole_parts hx
      exact ⟨(whole_pair hx).2, h0⟩
  · by_cases e : c = a
    · subst e
      exact List.mem_append.2 (.inr (List.mem_map.2 ⟨x, hx, rfl⟩))
    · obtain ⟨t, ht, he⟩ := hc
      rcases List.mem_append.1 ht with ht | ht
      · exact List.mem_append.2 (.inl (h.2 c ⟨t, ht, he⟩ x hx))
      · obtain ⟨y, _, rfl⟩ := List.mem_map.1 ht
        exact (e he.symm).elim
theorem findD_none {a b : Int} : ∀ {D : List (Int × Int × Int)} {i : Nat}, findD a b D i = none → ∀ t ∈ D, ¬ (a = t.1 ∧ b = t.2.1)
  | [], _, _, t, ht => by simp at ht
  | u :: r, i, h, t, ht => by
    unfold findD at h
    by_cases hc : a = u.1 ∧ b = u.2.1
    · rw [if_pos hc] at h; cases h
    · rw [if_neg hc] at h
      rcases List.mem_cons.1 ht with rfl | ht
      · exact hc
      · exact findD_none h t ht
theorem findD_some {a b : Int} : ∀ {D : List (Int × Int × Int)} {i : Nat} {y : Nat × Value}, findD a b D i = some y → ∃ t ∈ D, a = t.1 ∧ b = t.2.1 ∧ y.2 = .int .i64 t.2.2
  | [], _, _, h => by simp [findD] at h
  | u :: r, i, y, h => by
    unfold findD at h
    by_cases hc : a = u.1 ∧ b = u.2.1
    · rw [if_pos hc] at h
      injection h with h
      exact ⟨u, by simp, hc.1, hc.2, by rw [← h]⟩
    · rw [if_neg hc] at h
      obtain ⟨t, ht, r⟩ := findD_some h
      exact ⟨t, by simp [ht], r⟩
theorem find_good {D : List (Int × Int × Int)} (h : Good D) (a b : Int) (hA : HasA a D ∨ wholesL a = []) : (0 ≤ pairP a b → ∃ j, findD a b D 0 = some (j, .int .i64 (pairP a b))) ∧ (¬ 0 ≤ pairP a b → findD a b D 0 = none) := by
  constructor
  · intro h0
    have hx := pair_whole h0
    have hA' : HasA a D := hA.resolve_right (fun e => by rw [e] at hx; simp at hx)
    have hm := h.2 a hA' _ hx
    rw [sec_pair h0] at hm
    cases hf : findD a b D 0 with
    | none => exact (findD_none hf _ hm ⟨rfl, rfl⟩).elim
    | some y =>
      obtain ⟨t, ht, e1, e2, e3⟩ := findD_some hf
      obtain ⟨j, v⟩ := y
      refine ⟨j, ?_⟩
      have e4 := (h.1 t ht).1
      rw [← e1, ← e2] at e4
      rw [e4]
      congr 2
  · intro h0
    cases hf : findD a b D 0 with
    | none => rfl
    | some y =>
      obtain ⟨t, ht, e1, e2, _⟩ := findD_some hf
      have e4 := h.1 t ht
      rw [← e1, ← e2] at e4
      exact (h0 (by rw [e4.1]; exact e4.2)).elim
end Go.Proofs.YtamigjljgepfiaaGreatDoor
/- The points of two parts of which one is the first, handed on by an iterator. -/
namespace Go.Proofs.YtamigjljgepfiaaGreatDoor
open Go.RowKit Go.Shelf
attribute [local go_sem] Oper.semAt_some
theorem letNoI (p : Int) (w : World) : Calls Tryz.prog 108 #[.int .i64 p] w fun e w' => e = .returned (.int .i64 (letNo p)) ∧ w' = w := by
  by_cases h1 : 65 ≤ p ∧ p ≤ 90
  · have HE : Hid (letNo p = p - 65) := hide (if_pos h1)
    go_enter Tryz.func108, Tryz.ntmps108
    go_wp2_with (go_at_call 14; refine (within_t _ _ _ _ (by omega)).mono ?_; rintro e w' ⟨rfl, rfl⟩)
    go_ret
    exact ⟨ret_int (unhide HE).symm, rfl⟩
  by_cases h2 : 97 ≤ p ∧ p ≤ 122
  · have HE : Hid (letNo p = p - 97 + 26) := hide (by unfold letNo; rw [if_neg h1, if_pos h2])
    go_enter Tryz.func108, Tryz.ntmps108
    go_wp2_with (first | (go_at_call 14; refine (within_t _ _ _ _ (by omega)).mono ?_; rintro e w' ⟨rfl, rfl⟩) | (go_at_call 14; refine (within_f _ _ _ _ (by omega)).mono ?_; rintro e w' ⟨rfl, rfl⟩))
    go_ret
    exact ⟨ret_int (unhide HE).symm, rfl⟩
  have HE : Hid (letNo p = -1) := hide (by unfold letNo; rw [if_neg h1, if_neg h2])
  go_enter Tryz.func108, Tryz.ntmps108
  go_wp2_with (go_at_call 14; refine (within_f _ _ _ _ (by omega)).mono ?_; rintro e w' ⟨rfl, rfl⟩)
  go_ret
  exact ⟨ret_int (unhide HE).symm, rfl⟩
theorem isSecI (p : Int) (w : World) : Calls Tryz.prog 82 #[.int .i64 p] w fun e w' => e = .returned (.bool (isSec p)) ∧ w' = w := by
  by_cases h1 : 1824 ≤ p ∧ p ≤ 1844
  · have HE : Hid (isSec p = true) := hide (decide_eq_true (by omega))
    go_enter Tryz.func82, Tryz.ntmps82
    go_wp2_with (go_at_call 14; refine (within_t _ _ _ _ (by omega)).mono ?_; rintro e w' ⟨rfl, rfl⟩)
    go_ret
    exact ⟨ret_bool (unhide HE).symm, rfl⟩
  by_cases h2 : 1857 ≤ p ∧ p ≤ 1883
  · have HE : Hid (isSec p = true) := hide (decide_eq_true (by omega))
    go_enter Tryz.func82, Tryz.ntmps82
    go_wp2_with (first | (go_at_call 14; refine (within_t _ _ _ _ (by omega)).mono ?_; rintro e w' ⟨rfl, rfl⟩) | (go_at_call 14; refine (within_f _ _ _ _ (by omega)).mono ?_; rintro e w' ⟨rfl, rfl⟩))
    go_ret
    exact ⟨ret_bool (unhide HE).symm, rfl⟩
  by_cases h3 : 4096 ≤ p ∧ p ≤ 4103
  · have HE : Hid (isSec p = true) := hide (decide_eq_true (by omega))
    go_enter Tryz.func82, Tryz.ntmps82
    go_wp2_with (first | (go_at_call 14; refine (within_t _ _ _ _ (by omega)).mono ?_; rintro e w' ⟨rfl, rfl⟩) | (go_at_call 14; refine (within_f _ _ _ _ (by omega)).mono ?_; rintro e w' ⟨rfl, rfl⟩))
    go_ret
    exact ⟨ret_bool (unhide HE).symm, rfl⟩
  by_cases h4 : 4112 ≤ p ∧ p ≤ 4119
  · have HE : Hid (isSec p = true) := hide (decide_eq_true (by omega))
    go_enter Tryz.func82, Tryz.ntmps82
    go_wp2_with (first | (go_at_call 14; refine (within_t _ _ _ _ (by omega)).mono ?_; rintro e w' ⟨rfl, rfl⟩) | (go_at_call 14; refine (within_f _ _ _ _ (by omega)).mono ?_; rintro e w' ⟨rfl, rfl⟩))
    go_ret
    exact ⟨ret_bool (unhide HE).symm, rfl⟩
  have HE : Hid (isSec p = false) := hide (decide_eq_false (by omega))
  go_enter Tryz.func82, Tryz.ntmps82
  go_wp2_with (go_at_call 14; refine (within_f _ _ _ _ (by omega)).mono ?_; rintro e w' ⟨rfl, rfl⟩)
  go_ret
  exact ⟨ret_bool (unhide HE).symm, rfl⟩
theorem rowL_prefix (f s : Int) (j m : Nat) : rowL f s j <+: rowL f s (j + m) := by
  unfold rowL
  have e : List.range (j + m) = List.range j ++ (List.range m).map (j + ·) := List.range_add ..
  rw [e, List.map_append]
  exact List.prefix_append _ _
set_option maxRecDepth 100000 in
set_option maxHeartbeats 2000000 in
theorem row_in (first step : Int) (cnt : Nat) (hf : 0 ≤ first ∧ first ≤ 100000) (hs : 0 ≤ step ∧ step ≤ 28) (hc : cnt ≤ 27) (l N : Nat) (J Jx : List Int → World → Prop) (hY : Takes l N J Jx) (n : Nat) (pre : List Int) (W : World)
    (hJ : J pre W) (hN : pre.length + cnt ≤ N) :
    CallsIn Fence.wide n Tryz.prog 109 #[.int .i64 first, .int .i64 step, .int .i64 cnt, .func (.yield l) #[] #[]] W (Handed J Jx pre (rowL first step cnt) W) := by
  have HJ : Hid (J (pre ++ rowL first step 0) W) := hide (by simpa [rowL] using hJ)
  have HK : Hid (KeepP W W) := hide (KeepP.refl _)
  have HY := hide hY
  clear hJ hY
  refine callsIn_of_wp Tryz.func109 rfl trivial ?_ rfl
  simp only [Tryz.ntmps109, List.size_toArray, List.length_cons, List.length_nil, Nat.reduceAdd, Nat.reduceSub, Array.replicate_succ, Array.replicate_zero, List.push_toArray, List.append_toArray, List.nil_append, List.cons_append]
  gi_wp2
  gi_loopw [11] (fun i wr => ∃ j : Nat, j ≤ cnt ∧ i = .int .i64 j ∧ Hid (J (pre ++ rowL first step j) wr) ∧ Hid (KeepP W wr)) (fun i _ => cnt - (intOf i).toNat)
  case atStart => exact ⟨0, Nat.zero_le _, rfl, HJ, HK⟩
  case round =>
    obtain ⟨j, hj, rfl, HJj, HKj⟩ := hrel
    clear HJ HK
    by_cases hlt : j < cnt
    · have hlt' : (j : Int) < (cnt : Int) := by omega
      have hm0 : 0 ≤ (j : Int) * step := Int.mul_nonneg (by omega) hs.1
      have hm1 : (j : Int) * step ≤ 27 * 28 := Int.mul_le_mul (by omega) hs.2 hs.1 (by omega)
      have hR0 := (unhide HY) (n - 1) (pre ++ rowL first step j) (first + (j : Int) * step) wr (unhide HJj) (by rw [List.length_append, rowL_len]; omega)
      rw [List.append_assoc, ← rowL_succ] at hR0
      obtain ⟨fn, tmps, assign, body, hy, hR⟩ := hR0
      gi_wp2_with (first | refine hR.mono ?_ | refine ⟨(fun h => (by cases h)), hR.mono ?_⟩; clear hR; rintro e W2 (⟨rfl, hJ2, hk2⟩ | ⟨rfl, hx2⟩))
      · have HJ2 := hide hJ2
        have HK2 := hide ((unhide HKj).trans hk2)
        clear hJ2 hk2
        gi_wp2
        go_roundw
        case rel => exact ⟨j + 1, by omega, by go_num, HJ2, HK2⟩
        case measure => simp [intOf]; omega
      · have HX := hide hx2
        clear hx2
        gi_wp2
        go_ret
        refine .inr ⟨rfl, rowL first step (j + 1), ?_, unhide HX⟩
        obtain ⟨m, rfl⟩ : ∃ m, cnt = j + 1 + m := ⟨cnt - (j + 1), by omega⟩
        exact rowL_prefix first step (j + 1) m
    · obtain rfl : j = cnt := by omega
      gi_wp2
      go_ret
      exact .inl ⟨rfl, unhide HJj, unhide HKj⟩
/-- How an iterator's call ends. -/
def Iters (J Jx : List Int → World → Prop) (xs : List Int) (e : Ending) (W' : World) : Prop := (∃ v, e = .returned v) ∧ ((∃ ys, ys = xs ∧ J ys W') ∨ (∃ pre, pre <+: xs ∧ Jx pre W'))
set_option maxRecDepth 100000 in
set_option maxHeartbeats 4000000 in
theorem wholes1_in (n : Nat) (a : Int) (l b1 : Nat) (J Jx : List Int → World → Prop) (W : World)
    (hY : ∀ pre x W, J pre W → pre.length < (wholesL a).length → YieldAt Fence.wide (n - 1) Tryz.prog l #[.int .i64 x] W fun e W' =>
      (e = .returned (.bool true) ∧ J (pre ++ [x]) W' ∧ KeepP W W') ∨ (e = .returned (.bool false) ∧ Jx (pre ++ [x]) W'))
    (h1 : W.cell? ⟨b1, 0, none⟩ = some (.int .i64 a)) (h0 : J [] W) :
    CallsIn Fence.wide n Tryz.prog 107 #[.func (.yield l) #[] #[], .pointer (some ⟨b1, 0, none⟩)] W (Iters J Jx (wholesL a)) := by
  have HT : Takes l (wholesL a).length J Jx := fun m pre x W hj hl => yield_any m (hY pre x W hj hl)
  have LN := (callsIn_wide (n := n - 1)).2 (letNoI a W)
  clear hY
  by_cases c1 : 0 ≤ letNo a
  · have hl := (letNo_bd a).resolve_left (by omega)
    obtain ⟨_, h51, _⟩ := hl
    have hw : wholesL a = rowL (8192 + 8 * letNo a) 1 8 ++ rowL (8704 + 8 * letNo a) 1 8 := if_pos c1
    rw [hw] at HT ⊢
    rw [List.length_append, rowL_len, rowL_len] at HT
    generalize letNo a = i at *
    have R1 := (row_in (8192 + 8 * i) 1 8 (by omega) (by omega) (by omega) l (8 + 8) J Jx HT (n - 1) [] W h0 (by simp)).mono (R' := fun e W1 =>
        (e = .returned (.bool true) ∧ CallsIn Fence.wide (n - 1) Tryz.prog 109 #[.int .i64 (8704 + 8 * i), .int .i64 1, .int .i64 8, .func (.yield l) #[] #[]] W1 (Handed J Jx (rowL (8192 + 8 * i) 1 8) (rowL (8704 + 8 * i) 1 8) W1)) ∨ (e = .returned (.bool false) ∧ ∃ q, q <+: rowL (8192 + 8 * i) 1 8 ∧ Jx q W1))
      (fun e W1 g => g.elim (fun ⟨he, hj, _⟩ => .inl ⟨he, row_in (8704 + 8 * i) 1 8 (by omega) (by omega) (by omega) l (8 + 8) J Jx HT (n - 1) _ W1 (by simpa using hj) (by rw [rowL_len]; omega)⟩) (fun ⟨he, q, hq, hx⟩ => .inr ⟨he, q, hq, by simpa using hx⟩))
    clear HT hw
    refine callsIn_of_wp Tryz.func107 rfl trivial ?_ rfl
    simp only [Tryz.ntmps107, List.size_toArray, List.length_cons, List.length_nil, Nat.reduceAdd, Nat.reduceSub, Array.replicate_succ, Array.replicate_zero, List.push_toArray, List.append_toArray, List.nil_append, List.cons_append]
    gi_wp2_with (first
      | (refine ⟨trivial, (fun h => (by cases h)), ?_⟩; gi_at_call 108; refine LN.mono ?_; clear LN; rintro e W1 ⟨rfl, rfl⟩)
      | (refine ⟨trivial, (fun h => (by cases h)), ?_⟩; gi_at_call 109; refine R1.mono ?_; clear R1; rintro e W2 (⟨rfl, hS⟩ | ⟨rfl, q, hq, hx⟩))
      | (refine ⟨trivial, (fun h => (by cases h)), ?_⟩; gi_at_call 109; refine hS.mono ?_; clear hS; rintro e W3 (⟨rfl, hJ3, _⟩ | ⟨rfl, q, ⟨r, hr⟩, hx⟩)))
    · go_end0
      exact ⟨⟨_, rfl⟩, .inl ⟨_, rfl, hJ3⟩⟩
    · go_end0
      exact ⟨⟨_, rfl⟩, .inr ⟨_, ⟨r, by rw [List.append_assoc, hr]⟩, hx⟩⟩
    · refine ⟨trivial, ?_⟩
      gi_wp2
      go_end0
      exact ⟨⟨_, rfl⟩, .inr ⟨q, hq.trans (List.prefix_append _ _), hx⟩⟩
  have hn1 : letNo a = -1 := (letNo_bd a).resolve_right (fun h => c1 h.1)
  rw [hn1] at LN
  by_cases c2 : 8704 ≤ a ∧ a ≤ 9119
  · have hw : wholesL a = rowL (a + 512) 1 1 := by unfold wholesL; rw [if_neg c1, if_pos c2]
    rw [hw] at HT ⊢
    rw [rowL_len] at HT
    have R1 := row_in (a + 512) 1 1 (by omega) (by omega) (by omega) l 1 J Jx HT (n - 1) [] W h0 (by simp)
    have WT := (callsIn_wide (n := n - 1)).2 (within_t a 8704 9119 W c2)
    clear HT hw hn1 c1
    refine callsIn_of_wp Tryz.func107 rfl trivial ?_ rfl
    simp only [Tryz.ntmps107, List.size_toArray, List.length_cons, List.length_nil, Nat.reduceAdd, Nat.reduceSub, Array.replicate_succ, Array.replicate_zero, List.push_toArray, List.append_toArray, List.nil_append, List.cons_append]
    gi_wp2_with (first
      | (refine ⟨trivial, (fun h => (by cases h)), ?_⟩; gi_at_call 108; refine LN.mono ?_; clear LN; rintro e W1 ⟨rfl, rfl⟩)
      | (refine ⟨trivial, (fun h => (by cases h)), ?_⟩; gi_at_call 14; refine WT.mono ?_; clear WT; rintro e W1 ⟨rfl, rfl⟩)
      | (refine ⟨trivial, (fun h => (by cases h)), ?_⟩; gi_at_call 109; refine R1.mono ?_; clear R1; rintro e W3 (⟨rfl, hJ3, _⟩ | ⟨rfl, q, hq, hx⟩)))
    · go_end0
      exact ⟨⟨_, rfl⟩, .inl ⟨_, rfl, by simpa using hJ3⟩⟩
    · go_end0
      exact ⟨⟨_, rfl⟩, .inr ⟨q, hq, by simpa using hx⟩⟩
  by_cases c3 : 1792 ≤ a ∧ a ≤ 1810
  · have hw : wholesL a = rowL (12288 + (a - 1792) * 21 * 28) 28 21 := by unfold wholesL; rw [if_neg c1, if_neg c2, if_pos c3]
    rw [hw] at HT ⊢
    rw [rowL_len] at HT
    have R1 := row_in (12288 + (a - 1792) * 21 * 28) 28 21 (by omega) (by omega) (by omega) l 21 J Jx HT (n - 1) [] W h0 (by simp)
    have WF := (callsIn_wide (n := n - 1)).2 (within_f a 8704 9119 W c2)
    have WT := (callsIn_wide (n := n - 1)).2 (lead_t a W c3)
    clear HT hw hn1 c1 c2
    refine callsIn_of_wp Tryz.func107 rfl trivial ?_ rfl
    simp only [Tryz.ntmps107, List.size_toArray, List.length_cons, List.length_nil, Nat.reduceAdd, Nat.reduceSub, Array.replicate_succ, Array.replicate_zero, List.push_toArray, List.append_toArray, List.nil_append, List.cons_append]
    gi_wp2_with (first
      | (refine ⟨trivial, (fun h => (by cases h)), ?_⟩; gi_at_call 108; refine LN.mono ?_; clear LN; rintro e W1 ⟨rfl, rfl⟩)
      | (refine ⟨trivial, (fun h => (by cases h)), ?_⟩; gi_at_call 14; refine WF.mono ?_; clear WF; rintro e W1 ⟨rfl, rfl⟩)
      | (refine ⟨trivial, (fun h => (by cases h)), ?_⟩; gi_at_call 110; refine WT.mono ?_; clear WT; rintro e W1 ⟨rfl, rfl⟩)
      | (refine ⟨trivial, (fun h => (by cases h)), ?_⟩; gi_at_call 109; refine R1.mono ?_; clear R1; rintro e W3 (⟨rfl, hJ3, _⟩ | ⟨rfl, q, hq, hx⟩)))
    · go_end0
      exact ⟨⟨_, rfl⟩, .inl ⟨_, rfl, by simpa using hJ3⟩⟩
    · go_end0
      exact ⟨⟨_, rfl⟩, .inr ⟨q, hq, by simpa using hx⟩⟩
  have WF := (callsIn_wide (n := n - 1)).2 (within_f a 8704 9119 W c2)
  have WG := (callsIn_wide (n := n - 1)).2 (lead_f a W c3)
  by_cases c4 : 12288 ≤ a ∧ a ≤ 23459
  · have WT := (callsIn_wide (n := n - 1)).2 (syll_t a W c4)
    obtain ⟨r, hr⟩ : ∃ r, (a - 12288) % 28 = r := ⟨_, rfl⟩
    have e1 : (a - 12288).tmod 28 = r := by rw [Int.tmod_eq_emod_of_nonneg (by omega)]; exact hr
    have WH := (callsIn_wide (n := n - 1)).2 (tail_any a W c4 r e1)
    by_cases c5 : r = 0
    · have hw : wholesL a = rowL (a + 1) 1 27 := by unfold wholesL; rw [if_neg c1, if_neg c2, if_neg c3, if_pos ⟨c4.1, c4.2, hr.trans c5⟩]
      rw [hw] at HT ⊢
      rw [rowL_len] at HT
      have R1 := row_in (a + 1) 1 27 (by omega) (by omega) (by omega) l 27 J Jx HT (n - 1) [] W h0 (by simp)
      subst c5
      have t0 : ((0 : Int) != 0) = false := rfl
      clear HT hw hn1 c1 c2 c3 hr
      refine callsIn_of_wp Tryz.func107 rfl trivial ?_ rfl
      simp only [Tryz.ntmps107, List.size_toArray, List.length_cons, List.length_nil, Nat.reduceAdd, Nat.reduceSub, Array.replicate_succ, Array.replicate_zero, List.push_toArray, List.append_toArray, List.nil_append, List.cons_append]
      gi_wp2_with (first
        | (refine ⟨trivial, (fun h => (by cases h)), ?_⟩; gi_at_call 108; refine LN.mono ?_; clear LN; rintro e W1 ⟨rfl, rfl⟩)
        | (refine ⟨trivial, (fun h => (by cases h)), ?_⟩; gi_at_call 14; refine WF.mono ?_; clear WF; rintro e W1 ⟨rfl, rfl⟩)
        | (refine ⟨trivial, (fun h => (by cases h)), ?_⟩; gi_at_call 110; refine WG.mono ?_; clear WG; rintro e W1 ⟨rfl, rfl⟩)
        | (refine ⟨trivial, (fun h => (by cases h)), ?_⟩; gi_at_call 102; refine WT.mono ?_; clear WT; rintro e W1 ⟨rfl, rfl⟩)
        | (refine ⟨trivial, (fun h => (by cases h)), ?_⟩; gi_at_call 111; refine WH.mono ?_; clear WH; rintro e W1 ⟨rfl, rfl⟩)
        | (refine ⟨trivial, (fun h => (by cases h)), ?_⟩; gi_at_call 109; refine R1.mono ?_; clear R1; rintro e W3 (⟨rfl, hJ3, _⟩ | ⟨rfl, q, hq, hx⟩)))
      · go_end0
        exact ⟨⟨_, rfl⟩, .inl ⟨_, rfl, by simpa using hJ3⟩⟩
      · go_end0
        exact ⟨⟨_, rfl⟩, .inr ⟨q, hq, by simpa using hx⟩⟩
    · have hw : wholesL a = [] := by unfold wholesL; rw [if_neg c1, if_neg c2, if_neg c3, if_neg (fun h => c5 (by omega))]
      rw [hw]
      have t0 : (r != 0) = true := by simpa using c5
      clear HT hw hn1 c1 c2 c3 hr
      refine callsIn_of_wp Tryz.func107 rfl trivial ?_ rfl
      simp only [Tryz.ntmps107, List.size_toArray, List.length_cons, List.length_nil, Nat.reduceAdd, Nat.reduceSub, Array.replicate_succ, Array.replicate_zero, List.push_toArray, List.append_toArray, List.nil_append, List.cons_append]
      gi_wp2_with (first
        | (refine ⟨trivial, (fun h => (by cases h)), ?_⟩; gi_at_call 108; refine LN.mono ?_; clear LN; rintro e W1 ⟨rfl, rfl⟩)
        | (refine ⟨trivial, (fun h => (by cases h)), ?_⟩; gi_at_call 14; refine WF.mono ?_; clear WF; rintro e W1 ⟨rfl, rfl⟩)
        | (refine ⟨trivial, (fun h => (by cases h)), ?_⟩; gi_at_call 110; refine WG.mono ?_; clear WG; rintro e W1 ⟨rfl, rfl⟩)
        | (refine ⟨trivial, (fun h => (by cases h)), ?_⟩; gi_at_call 102; refine WT.mono ?_; clear WT; rintro e W1 ⟨rfl, rfl⟩)
        | (refine ⟨trivial, (fun h => (by cases h)), ?_⟩; gi_at_call 111; refine WH.mono ?_; clear WH; rintro e W1 ⟨rfl, rfl⟩))
      go_end0
      exact ⟨⟨_, rfl⟩, .inl ⟨_, rfl, h0⟩⟩
  · have hw : wholesL a = [] := by unfold wholesL; rw [if_neg c1, if_neg c2, if_neg c3, if_neg (fun h => c4 ⟨h.1, h.2.1⟩)]
    rw [hw]
    have WT := (callsIn_wide (n := n - 1)).2 (syll_f a W c4)
    clear HT hw hn1 c1 c2 c3
    refine callsIn_of_wp Tryz.func107 rfl trivial ?_ rfl
    simp only [Tryz.ntmps107, List.size_toArray, List.length_cons, List.length_nil, Nat.reduceAdd, Nat.reduceSub, Array.replicate_succ, Array.replicate_zero, List.push_toArray, List.append_toArray, List.nil_append, List.cons_append]
    gi_wp2_with (first
      | (refine ⟨trivial, (fun h => (by cases h)), ?_⟩; gi_at_call 108; refine LN.mono ?_; clear LN; rintro e W1 ⟨rfl, rfl⟩)
      | (refine ⟨trivial, (fun h => (by cases h)), ?_⟩; gi_at_call 14; refine WF.mono ?_; clear WF; rintro e W1 ⟨rfl, rfl⟩)
      | (refine ⟨trivial, (fun h => (by cases h)), ?_⟩; gi_at_call 110; refine WG.mono ?_; clear WG; rintro e W1 ⟨rfl, rfl⟩)
      | (refine ⟨trivial, (fun h => (by cases h)), ?_⟩; gi_at_call 102; refine WT.mono ?_; clear WT; rintro e W1 ⟨rfl, rfl⟩))
    refine ⟨trivial, ?_⟩
    gi_wp2
    go_end0
    exact ⟨⟨_, rfl⟩, .inl ⟨_, rfl, h0⟩⟩
theorem wholes_any (a : Int) (w : World) : Calls Tryz.prog 83 #[.int .i64 a] w fun e w' => e = .returned (.func (.func 107) #[] #[.pointer (some ⟨w.heap.size, 0, none⟩)]) ∧ w' = w.alloc (.cells #[.int .i64 a] 2) := by
  go_enter Tryz.func83, Tryz.ntmps83
  go_wp2
  go_ret
  exact ⟨rfl, rfl⟩
theorem wholes_stops (n : Nat) (a : Int) (b1 : Nat) (w : World) (l1 : b1 < w.heap.size) (h1 : w.cell? ⟨b1, 0, none⟩ = some (.int .i64 a)) :
    SeqStopsK Fence.wide n Tryz.prog 107 #[.pointer (some ⟨b1, 0, none⟩)] (fun x : Int => #[Value.int .i64 x]) KeepP (fun ys => ys = wholesL a) (fun pre => pre <+: wholesL a) (wholesL a).length w := fun l J Jx W hW _ _ hY h0 =>
  wholes1_in n a l b1 J Jx W hY ((hW.cell (p := ⟨b1, 0, none⟩) l1).trans h1) h0
end Go.Proofs.YtamigjljgepfiaaGreatDoor
/- Composing by a book of pairs. -/
namespace Go.Proofs.YtamigjljgepfiaaGreatDoor
open Go.RowKit Go.Shelf
attribute [local go_sem] Oper.semAt_some
/-- The book, the box that leads to it, and that nothing else has changed. -/
structure BkI (w W : World) (M : Nat) (D : List (Int × Int × Int)) : Prop where
  book : BookAt W M D
  box : Boxed W w.heap.size 48 (.map (some M))
  grown : w.grownBy W (some M)
theorem BkI.step {w W W' : World} {M : Nat} {D : List (Int × Int × Int)} {row : Option Nat} (h : BkI w W M D) (hM : M < w.heap.size) (hg : W.grownBy W' row) (hr : ∀ r, row = some r → w.heap.size < r) : BkI w W' M D :=
  ⟨h.book.at (hg.block M h.book.lt (fun e => by have := hr M e.symm; omega)), h.box.kept hg (fun e => by have := hr _ e.symm; omega), h.grown.andThen hg (fun j e => .inl (by have := hr j e; omega))⟩
theorem BkI.below {w W W' : World} {M : Nat} {D : List (Int × Int × Int)} (h : BkI w W M D) (hM : M < w.heap.size) (hb : Below W.heap.size W W') : BkI w W' M D :=
  h.step hM (grown_of_below hb) (fun r e => by cases e)
theorem BkI.put {w W : World} {M : Nat} {D D' : List (Int × Int × Int)} {o : Obj} (h : BkI w W M D) (hM : M < w.heap.size) (hb : BookAt (W.putObj M o) M D') : BkI w (W.putObj M o) M D' :=
  ⟨hb, h.box.kept (grownBy_putObj' W M o) (by simp; omega), h.grown.trans (grownBy_putObj' W M o)⟩
theorem keepP_put {W : World} {M : Nat} {D : List (Int × Int × Int)} {o : Obj} (h : BookAt W M D) : KeepP W (W.putObj M o) := by
  obtain ⟨es, clock, hM, _⟩ := h
  exact ⟨by simp [World.putObj], fun k c z e => (World.putObj_heap_other (fun hk => by subst hk; rw [hM] at e; injection e with e; cases e)).trans e⟩
theorem good_find {D : List (Int × Int × Int)} (hG : Good D) {a x : Int} {pre : List Int} (hp : pre ++ [x] <+: wholesL a) :
    (findD a (secZ x) (D ++ entA a pre) 0 = none → ¬ HasA a D) ∧ ((findD a (secZ x) (D ++ entA a pre) 0).isSome = true → HasA a D) := by
  have hx : x ∈ wholesL a := by
    obtain ⟨r, hr⟩ := hp
    rw [← hr]
    simp
  constructor
  · intro hf hA
    exact findD_none hf _ (List.mem_append.2 (.inl (hG.2 a hA x hx))) ⟨rfl, rfl⟩
  · intro hs
    obtain ⟨y, hy⟩ := Option.isSome_iff_exists.1 hs
    obtain ⟨t, ht, e1, e2, _⟩ := findD_some hy
    rcases List.mem_append.1 ht with ht | ht
    · exact ⟨t, ht, e1.symm⟩
    · obtain ⟨z, hz, rfl⟩ := List.mem_map.1 ht
      have hz' : z ∈ wholesL a := by
        obtain ⟨r, hr⟩ := hp
        rw [← hr]
        simp [hz]
      have e3 : secZ x = secZ z := e2
      have : x = z := by rw [← (whole_pair hx).2, ← (whole_pair hz').2, e3]
      subst this
      obtain ⟨r, hr⟩ := hp
      have hnd := wholes_nodup a
      rw [← hr, List.append_assoc, List.nodup_append] at hnd
      exact (hnd.2.2 x hz x (by simp) rfl).elim
theorem compose_no (M : Nat) (a b : Int) (w : World) (hs : isSec b = false) :
    Calls Tryz.prog 58 #[.map (some M), .int .i64 a, .int .i64 b] w fun e w' => e = .returned (.int .i64 (pairP a b)) ∧ Below w.heap.size w w' := by
  rw [pair_sec hs]
  have HI := hide (fun W => isSecI b W)
  rw [hs] at HI
  clear hs
  go_enter Tryz.func58, Tryz.ntmps58
  go_wp2_with (go_at_call 82; refine ((unhide HI) _).mono ?_; rintro e w1 ⟨rfl, rfl⟩)
  go_ret
  exact ⟨rfl, one_below _ _⟩
set_option maxRecDepth 100000 in
set_option maxHeartbeats 4000000 in
theorem compose_in (M : Nat) (a b : Int) (w : World) (D : List (Int × Int × Int)) (hs : isSec b = true) (hM : BookAt w M D) (hG : Good D) :
    CallsIn Fence.wide 5 Tryz.prog 58 #[.map (some M), .int .i64 a, .int .i64 b] w fun e w' => e = .returned (.int .i64 (pairP a b)) ∧ ∃ D', BookAt w' M D' ∧ Good D' ∧ w.grownBy w' (some M) := by
  have hn : 1 ≤ 5 := by omega
  have hMl := hM.lt
  have IS := (callsIn_wide (n := 4)).2 (isSecI b (w.alloc (.cells #[.map (some M)] 48)))
  rw [hs] at IS
  have WH := (callsIn_wide (n := 4)).2 (wholes_any a (w.alloc (.cells #[.map (some M)] 48)))
  have sz : (w.alloc (.cells #[.map (some M)] 48)).heap.size = w.heap.size + 1 := by simp
  rw [sz] at WH
  have HS := wholes_stops 4 a (w.heap.size + 1) ((w.alloc (.cells #[.map (some M)] 48)).alloc (.cells #[.int .i64 a] 2)) (by simp) (by rw [← sz]; exact (Boxed.new _ 2 _).cell)
  have BK0 : BkI w ((w.alloc (.cells #[.map (some M)] 48)).alloc (.cells #[.int .i64 a] 2)) M D :=
    ⟨hM.at ((alloc_block _ _ (by simp; omega)).trans (alloc_block _ _ hMl)), (Boxed.new w 48 _).alloc _, (grown_of_below (two_below w _ _)).but _⟩
  have sz2 : ((w.alloc (.cells #[.map (some M)] 48)).alloc (.cells #[.int .i64 a] 2)).heap.size = w.heap.size + 2 := by simp
  clear hs hM
  generalize hw0 : (w.alloc (.cells #[.map (some M)] 48)).alloc (.cells #[.int .i64 a] 2) = w0 at *
  have hI0 : ∀ (s : List Int) (W W' : World) (row : Option Nat), (∃ D', BkI w W M D' ∧ (s <+: wholesL a → (HasA a D → s = []) ∧ D' = D ++ entA a s)) → W.grownBy W' row → (∀ r, row = some r → w0.heap.size ≤ r ∧ ∃ o : Obj, W.heap[r]? = some o ∧ o.isCells = false) → (∃ D', BkI w W' M D' ∧ (s <+: wholesL a → (HasA a D → s = []) ∧ D' = D ++ entA a s)) :=
    fun s W W' row hs hg hr => by
      obtain ⟨D', hb, hd⟩ := hs
      exact ⟨D', hb.step hMl hg (fun r e => by have := (hr r e).1; omega), hd⟩
  have hX0 : ∀ (c : Code) (s : List Int) (W W' : World) (row : Option Nat), (c = .exit 0 ∧ ∃ D', BkI w W M D' ∧ (s <+: wholesL a → HasA a D ∧ D' = D)) → W.grownBy W' row → (∀ r, row = some r → w0.heap.size ≤ r ∧ ∃ o : Obj, W.heap[r]? = some o ∧ o.isCells = false) → (c = .exit 0 ∧ ∃ D', BkI w W' M D' ∧ (s <+: wholesL a → HasA a D ∧ D' = D)) :=
    fun c s W W' row hs hg hr => by
      obtain ⟨hc, D', hb, hd⟩ := hs
      exact ⟨hc, D', hb.step hMl hg (fun r e => by have := (hr r e).1; omega), hd⟩
  refine callsIn_of_wp_marks Tryz.func58 rfl trivial ?_ rfl
  simp only [Tryz.ntmps58, List.size_toArray, List.length_cons, List.length_nil, Nat.reduceAdd, Nat.reduceSub, Array.replicate_succ, Array.replicate_zero, List.push_toArray, List.append_toArray, List.nil_append, List.cons_append]
  gi_wp2_with (first
    | (refine ⟨trivial, ?_⟩; gi_at_call 82; refine IS.mono ?_; clear IS; rintro e W1 ⟨rfl, rfl⟩)
    | (refine ⟨trivial, ?_⟩; gi_at_call 83; refine WH.mono ?_; clear WH; rintro e W1 ⟨rfl, hW1⟩; replace hW1 := hW1.symm; subst hW1))
  refine wpIn_rangeFunc_ownG rfl hn (gf := 107) (lb := #[.pointer (some ⟨w.heap.size + 1, 0, none⟩)]) rfl trivial (enters_of Tryz.func107 (by kernel_rfl) rfl)
    HS KeepP.trans keepP_b (Below.refl _ _) (fun _ => rfl)
    (fun s W => ∃ D', BkI w W M D' ∧ (s <+: wholesL a → (HasA a D → s = []) ∧ D' = D ++ entA a s))
    (fun c s W => c = .exit 0 ∧ ∃ D', BkI w W M D' ∧ (s <+: wholesL a → HasA a D ∧ D' = D))
    hI0 hX0
    ⟨D, BK0, fun _ => ⟨fun _ => rfl, by simp [entA]⟩⟩
    (fun x => { tmps := #[.map (some M), .int .i64 a, .int .i64 b, .pointer (some ⟨w.heap.size, 0, none⟩), undef, undef, .int .i64 0, .int .i64 x, undef, undef, undef, undef, undef, .int .i64 b, .bool true, .bool false, .int .i64 a, .func (.func 107) #[] #[.pointer (some ⟨w.heap.size + 1, 0, none⟩)], .int .i64 x, undef, undef, undef, undef, undef, undef, undef, undef, undef, undef, undef, undef, undef, undef, undef, undef, undef, undef, undef, undef, undef, undef, undef], defers := [] }) ?assign ?body ?done ?stop
  case assign =>
    intro l x W K hK
    gi_wp2
    exact hK
  case body =>
    rintro l pre x W ⟨D', hI, hD⟩ hlt
    obtain ⟨c, hc⟩ : ∃ c, (pairZ false x).1 = c := ⟨_, rfl⟩
    obtain ⟨d, hd⟩ : ∃ d, (pairZ false x).2 = d := ⟨_, rfl⟩
    have hcd : pairZ false x = (c, d) := by rw [← hc, ← hd]
    have PI := (callsIn_wide (n := 2)).2 (partsI 2 x false W (by simp))
    rw [hcd] at PI
    have hpre : ∀ {y : Int}, pre ++ [y] <+: wholesL a → pre <+: wholesL a := fun h => (List.prefix_append _ _).trans h
    have hsz := hI.grown.size
    cases hf : findD c d D' 0 with
    | some y =>
      have PJ := PI.mono (R' := fun e W1 => e = .returned (.agg #[.int .i64 c, .int .i64 d]) ∧ BkI w (W1.alloc (.cells #[.int .i64 c, .int .i64 d] 98)) M D' ∧ KeepsFrom w0.heap.size W (W1.alloc (.cells #[.int .i64 c, .int .i64 d] 98)) ∧ (W1.alloc (.cells #[.int .i64 c, .int .i64 d] 98)).cell? ⟨w.heap.size, 0, none⟩ = some (.map (some M)) ∧ (Instr.lookup 48 (.map (some M)) (.agg #[.int .i64 c, .int .i64 d]) true).run Tryz.prog (W1.alloc (.cells #[.int .i64 c, .int .i64 d] 98)) = .ok (.tuple #[y.2, .bool true]) (W1.alloc (.cells #[.int .i64 c, .int .i64 d] 98)))
        (fun e W1 h => by
          have hb1 := hI.below hMl h.2
          have hb2 := hb1.below hMl (one_below W1 (.cells #[.int .i64 c, .int .i64 d] 98))
          refine ⟨h.1, hb2, (KeepsFrom.of_grownBy (grown_of_below h.2) (fun j e => by cases e)).trans ((KeepsOthers.alloc _ _).from _), hb2.box.cell, ?_⟩
          have := lookup_run hb2.book c d
          rw [hf] at this
          exact this)
      clear PI
      gi_wp2_with (refine ⟨trivial, ?_⟩; gi_at_call 79; refine (CallsIn.inRound l PJ).mono ?_; clear PJ; rintro e W1 ⟨rfl, hb2, hkf, hbx, hlk⟩)
      refine ⟨hkf, rfl, D', hb2, fun hp => ?_⟩
      have hx : x ∈ wholesL a := by
        obtain ⟨r, hr⟩ := hp
        rw [← hr]
        simp
      obtain ⟨hd1, hd2⟩ := hD (hpre hp)
      have hcx := (whole_pair hx).1
      rw [hcd] at hcx
      injection hcx with e1 e2
      rw [e1, e2, hd2] at hf
      have hA := (good_find hG hp).2 (by rw [hf]; rfl)
      refine ⟨hA, ?_⟩
      rw [hd2, hd1 hA]
      simp [entA]
    | none =>
      have PJ := PI.mono (R' := fun e W1 => e = .returned (.agg #[.int .i64 c, .int .i64 d]) ∧ (∃ o, (Instr.mapUpdate 48 (.map (some M)) (.agg #[.int .i64 c, .int .i64 d]) (.int .i64 x)).run Tryz.prog (W1.alloc (.cells #[.int .i64 c, .int .i64 d] 98)) = .ok () ((W1.alloc (.cells #[.int .i64 c, .int .i64 d] 98)).putObj M o) ∧ BkI w ((W1.alloc (.cells #[.int .i64 c, .int .i64 d] 98)).putObj M o) M (D' ++ [(c, d, x)]) ∧ KeepsFrom w0.heap.size W ((W1.alloc (.cells #[.int .i64 c, .int .i64 d] 98)).putObj M o) ∧ KeepP W ((W1.alloc (.cells #[.int .i64 c, .int .i64 d] 98)).putObj M o)) ∧ (W1.alloc (.cells #[.int .i64 c, .int .i64 d] 98)).cell? ⟨w.heap.size, 0, none⟩ = some (.map (some M)) ∧ (Instr.lookup 48 (.map (some M)) (.agg #[.int .i64 c, .int .i64 d]) true).run Tryz.prog (W1.alloc (.cells #[.int .i64 c, .int .i64 d] 98)) = .ok (.tuple #[.int .i64 0, .bool false]) (W1.alloc (.cells #[.int .i64 c, .int .i64 d] 98)))
        (fun e W1 h => by
          have hb1 := hI.below hMl h.2
          have hb2 := hb1.below hMl (one_below W1 (.cells #[.int .i64 c, .int .i64 d] 98))
          obtain ⟨o, hu, hbk⟩ := update_run hb2.book c d x hf
          refine ⟨h.1, ⟨o, hu, hb2.put hMl hbk, ((KeepsFrom.of_grownBy (grown_of_below h.2) (fun j e => by cases e)).trans ((KeepsOthers.alloc _ _).from _)).trans (KeepsFrom.of_grownBy (grownBy_putObj' _ M o) (fun j e => by cases e; omega)), (KeepP.of_below h.2).trans ((KeepP.alloc _ _).trans (keepP_put hb2.book))⟩, hb2.box.cell, ?_⟩
          have := lookup_run hb2.book c d
          rw [hf] at this
          exact this)
      clear PI
      gi_wp2_with (refine ⟨trivial, ?_⟩; gi_at_call 79; refine (CallsIn.inRound l PJ).mono ?_; clear PJ; rintro e W1 ⟨rfl, ⟨o, hu, hb2, hkf, hkp⟩, hbx, hlk⟩)
      refine ⟨hkf, hkp, _, hb2, fun hp => ?_⟩
      have hx : x ∈ wholesL a := by
        obtain ⟨r, hr⟩ := hp
        rw [← hr]
        simp
      obtain ⟨hd1, hd2⟩ := hD (hpre hp)
      have hcx := (whole_pair hx).1
      rw [hcd] at hcx
      injection hcx with e1 e2
      rw [e1, e2, hd2] at hf
      have hnA := (good_find hG hp).1 hf
      refine ⟨fun hA => (hnA hA).elim, ?_⟩
      rw [hd2, e1, e2, entA_snoc, List.append_assoc]
  case done =>
    rintro E ys W hE rfl ⟨D', hI, hD⟩ hK
    obtain ⟨_, hd2⟩ := hD (List.prefix_refl _)
    subst hd2
    have hG' := good_more hG a
    have hbx := hI.box.cell
    have hlk := lookup_run hI.book a b
    have hfg := find_good hG' a b (by
      by_cases hw : wholesL a = []
      · exact .inr hw
      · obtain ⟨x, hx⟩ := List.exists_mem_of_ne_nil _ hw
        exact .inl ⟨(a, secZ x, x), List.mem_append.2 (.inr (List.mem_map.2 ⟨x, hx, rfl⟩)), rfl⟩)
    have hend := hI.step (row := some E) hMl (grownBy_putObj' W E (.deferred none)) (fun r e => by cases e; omega)
    by_cases h0 : 0 ≤ pairP a b
    · obtain ⟨j, hj⟩ := hfg.1 h0
      rw [hj] at hlk
      simp only [valD] at hlk
      gi_wp2
      refine ⟨by simp, .inl ⟨_, _, rfl, run_takeDeferred hK, ?_⟩⟩
      exact ⟨_, results_tmp rfl _ _ _, rfl, _, hend.book, hG', hend.grown⟩
    · rw [hfg.2 h0] at hlk
      simp only [valD] at hlk
      have HN := hide (pairP_neg h0)
      gi_wp2
      refine ⟨by simp, .inl ⟨_, _, rfl, run_takeDeferred hK, ?_⟩⟩
      refine ⟨_, results_tmp rfl _ _ _, ?_, _, hend.book, hG', hend.grown⟩
      exact ret_int (unhide HN).symm
  case stop =>
    rintro E c pre W hE hp ⟨rfl, D', hI, hD⟩ hK
    obtain ⟨hA, hd2⟩ := hD hp
    subst hd2
    have hbx := hI.box.cell
    have hlk := lookup_run hI.book a b
    have hfg := find_good hG a b (.inl hA)
    have hend := hI.step (row := some E) hMl (grownBy_putObj' W E (.deferred none)) (fun r e => by cases e; omega)
    by_cases h0 : 0 ≤ pairP a b
    · obtain ⟨j, hj⟩ := hfg.1 h0
      rw [hj] at hlk
      simp only [valD] at hlk
      gi_wp2
      refine ⟨by simp, .inl ⟨_, _, rfl, run_takeDeferred hK, ?_⟩⟩
      exact ⟨_, results_tmp rfl _ _ _, rfl, _, hend.book, hG, hend.grown⟩
    · rw [hfg.2 h0] at hlk
      simp only [valD] at hlk
      have HN := hide (pairP_neg h0)
      gi_wp2
      refine ⟨by simp, .inl ⟨_, _, rfl, run_takeDeferred hK, ?_⟩⟩
      refine ⟨_, results_tmp rfl _ _ _, ?_, _, hend.book, hG, hend.grown⟩
      exact ret_int (unhide HN).symm
/-- Composing: the answer, and the book goes on telling the truth. -/
theorem compose_any (M : Nat) (a b : Int) (w : World) (D : List (Int × Int × Int)) (hM : BookAt w M D) (hG : Good D) :
    Calls Tryz.prog 58 #[.map (some M), .int .i64 a, .int .i64 b] w fun e w' => e = .returned (.int .i64 (pairP a b)) ∧ ∃ D', BookAt w' M D' ∧ Good D' ∧ w.grownBy w' (some M) := by
  cases hs : isSec b with
  | true => exact callsIn_wide.1 (compose_in M a b w D hs hM hG)
  | false =>
    refine (compose_no M a b w hs).mono ?_
    rintro e w' ⟨rfl, hb⟩
    exact ⟨rfl, D, hM.at (hb.block M hM.lt), hG, (grown_of_below hb).but _⟩
end Go.Proofs.YtamigjljgepfiaaGreatDoor
/- Compose of the specification, and the law. -/
namespace Go.Proofs.YtamigjljgepfiaaGreatDoor
open Go.RowKit
theorem letNoS (p : Int) (w : World) : Calls Tryz.prog 74 #[.int .i64 p] w fun e w' => e = .returned (.int .i64 (letNo p)) ∧ w' = w := by
  by_cases h1 : 65 ≤ p
  · by_cases h2 : p ≤ 90
    · have HE : Hid (letNo p = p - 65) := hide (if_pos ⟨h1, h2⟩)
      go_enter Tryz.func74, Tryz.ntmps74
      go_wp2
      go_ret
      exact ⟨ret_int (unhide HE).symm, rfl⟩
    · by_cases h3 : 97 ≤ p
      · by_cases h4 : p ≤ 122
        · have HE : Hid (letNo p = p - 97 + 26) := hide (by unfold letNo; rw [if_neg (by omega), if_pos ⟨h3, h4⟩])
          go_enter Tryz.func74, Tryz.ntmps74
          go_wp2
          go_ret
          exact ⟨ret_int (unhide HE).symm, rfl⟩
        · have HE : Hid (letNo p = -1) := hide (by unfold letNo; rw [if_neg (by omega), if_neg (by omega)])
          go_enter Tryz.func74, Tryz.ntmps74
          go_wp2
          go_ret
          exact ⟨ret_int (unhide HE).symm, rfl⟩
      · have HE : Hid (letNo p = -1) := hide (by unfold letNo; rw [if_neg (by omega), if_neg (by omega)])
        go_enter Tryz.func74, Tryz.ntmps74
        go_wp2
        go_ret
        exact ⟨ret_int (unhide HE).symm, rfl⟩
  · have h3 : ¬ 97 ≤ p := by omega
    have HE : Hid (letNo p = -1) := hide (by unfold letNo; rw [if_neg (by omega), if_neg (by omega)])
    go_enter Tryz.func74, Tryz.ntmps74
    go_wp2
    go_ret
    exact ⟨ret_int (unhide HE).symm, rfl⟩
/-- A test of '&&', as a Bool. -/
theorem and_f {p q : Prop} [Decidable p] [Decidable q] (h : ¬ (p ∧ q)) : (decide p && decide q) = false := by
  by_cases hp : p
  · have : ¬ q := fun hq => h ⟨hp, hq⟩
    simp [this]
  · simp [hp]
end Go.Proofs.YtamigjljgepfiaaGreatDoor
/- Compose of the specification: the pairs; the law. -/
namespace Go.Proofs.YtamigjljgepfiaaGreatDoor
open Go.RowKit
set_option maxHeartbeats 4000000 in
set_option maxRecDepth 100000 in
theorem pairS (a b : Int) (w : World) : Calls Tryz.prog 45 #[.int .i64 a, .int .i64 b] w fun e w' => e = .returned (.int .i64 (pairP a b)) ∧ w' = w := by
  have hl := letNo_bd a
  have hn : ¬ (65 ≤ a ∧ a ≤ 90) → ¬ (97 ≤ a ∧ a ≤ 122) → letNo a = -1 := fun x y => by unfold letNo; rw [if_neg x, if_neg y]
  have hlet : 0 ≤ letNo a → 65 ≤ a ∧ a ≤ 122 := fun h => by
    by_cases p1 : 65 ≤ a ∧ a ≤ 90
    · omega
    · by_cases p2 : 97 ≤ a ∧ a ≤ 122
      · omega
      · have := hn p1 p2
        omega
  have LN := hide (fun W => letNoS a W)
  obtain ⟨z, hz⟩ : ∃ z, pairP a b = z := ⟨_, rfl⟩
  have HZ := hz
  unfold pairP at hz
  by_cases hL : 0 ≤ letNo a
  · have hA := hlet hL
    by_cases b1 : b < 4096
    · have f0 : letNo a ≤ 51 := by omega
      have f1 : ¬ 8704 ≤ a := by omega
      have f2 : ¬ 1792 ≤ a := by omega
      have f3 : ¬ 12288 ≤ a := by omega
      have f4 : ¬ 4096 ≤ b := by omega
      have f5 : ¬ 4112 ≤ b := by omega
      have HE : Hid ((-1 : Int) = z) := hide (by rw [← hz]; repeat (first | rw [if_pos (by omega)] | rw [if_neg (by omega)]))
      rw [HZ]
      clear hz HZ hl hn hlet
      generalize letNo a = i at *
      go_enter Tryz.func45, Tryz.ntmps45
      go_wp2_with (go_at_call 74; refine ((unhide LN) _).mono ?_; rintro e w' ⟨rfl, rfl⟩)
      go_ret
      exact ⟨ret_int (unhide HE), rfl⟩
    by_cases b2 : b ≤ 4103
    · have f0 : letNo a ≤ 51 := by omega
      have f1 : ¬ 8704 ≤ a := by omega
      have f2 : ¬ 1792 ≤ a := by omega
      have f3 : ¬ 12288 ≤ a := by omega
      have f4 : 4096 ≤ b := by omega
      have HE : Hid (8192 + 8 * letNo a + b - 4096 = z) := hide (by rw [← hz]; repeat (first | rw [if_pos (by omega)] | rw [if_neg (by omega)]))
      rw [HZ]
      clear hz HZ hl hn hlet
      generalize letNo a = i at *
      go_enter Tryz.func45, Tryz.ntmps45
      go_wp2_with (go_at_call 74; refine ((unhide LN) _).mono ?_; rintro e w' ⟨rfl, rfl⟩)
      go_ret
      exact ⟨ret_int (unhide HE), rfl⟩
    by_cases b3 : b < 4112
    · have f0 : letNo a ≤ 51 := by omega
      have f1 : ¬ 8704 ≤ a := by omega
      have f2 : ¬ 1792 ≤ a := by omega
      have f3 : ¬ 12288 ≤ a := by omega
      have f4 : 4096 ≤ b := by omega
      have f5 : ¬ 4112 ≤ b := by omega
      have HE : Hid ((-1 : Int) = z) := hide (by rw [← hz]; repeat (first | rw [if_pos (by omega)] | rw [if_neg (by omega)]))
      rw [HZ]
      clear hz HZ hl hn hlet
      generalize letNo a = i at *
      go_enter Tryz.func45, Tryz.ntmps45
      go_wp2_with (go_at_call 74; refine ((unhide LN) _).mono ?_; rintro e w' ⟨rfl, rfl⟩)
      go_ret
      exact ⟨ret_int (unhide HE), rfl⟩
    by_cases b4 : b ≤ 4119
    · have f0 : letNo a ≤ 51 := by omega
      have f1 : ¬ 8704 ≤ a := by omega
      have f2 : ¬ 1792 ≤ a := by omega
      have f3 : ¬ 12288 ≤ a := by omega
      have f4 : 4096 ≤ b := by omega
      have f5 : ¬ b ≤ 4103 := by omega
      have f6 : 4112 ≤ b := by omega
      have HE : Hid (8704 + 8 * letNo a + b - 4112 = z) := hide (by rw [← hz]; repeat (first | rw [if_pos (by omega)] | rw [if_neg (by omega)]))
      rw [HZ]
      clear hz HZ hl hn hlet
      generalize letNo a = i at *
      go_enter Tryz.func45, Tryz.ntmps45
      go_wp2_with (go_at_call 74; refine ((unhide LN) _).mono ?_; rintro e w' ⟨rfl, rfl⟩)
      go_ret
      exact ⟨ret_int (unhide HE), rfl⟩
    have f0 : letNo a ≤ 51 := by omega
    have f1 : ¬ 8704 ≤ a := by omega
    have f2 : ¬ 1792 ≤ a := by omega
    have f3 : ¬ 12288 ≤ a := by omega
    have f4 : 4096 ≤ b := by omega
    have f5 : ¬ b ≤ 4103 := by omega
    have f6 : 4112 ≤ b := by omega
    have HE : Hid ((-1 : Int) = z) := hide (by rw [← hz]; repeat (first | rw [if_pos (by omega)] | rw [if_neg (by omega)]))
    rw [HZ]
    clear hz HZ hl hn hlet
    generalize letNo a = i at *
    go_enter Tryz.func45, Tryz.ntmps45
    go_wp2_with (go_at_call 74; refine ((unhide LN) _).mono ?_; rintro e w' ⟨rfl, rfl⟩)
    go_ret
    exact ⟨ret_int (unhide HE), rfl⟩
  have hm : letNo a = -1 := hl.resolve_right (fun h => hL h.1)
  by_cases a1 : a < 1792
  · have f0 : ¬ 0 ≤ letNo a := by omega
    have f1 : ¬ 8704 ≤ a := by omega
    have f2 : ¬ 1792 ≤ a := by omega
    have f3 : ¬ 12288 ≤ a := by omega
    have HE : Hid ((-1 : Int) = z) := hide (by rw [← hz]; repeat (first | rw [if_pos (by omega)] | rw [if_neg (by omega)]))
    rw [HZ]
    clear hz HZ hl hn hlet
    generalize letNo a = i at *
    go_enter Tryz.func45, Tryz.ntmps45
    go_wp2_with (go_at_call 74; refine ((unhide LN) _).mono ?_; rintro e w' ⟨rfl, rfl⟩)
    go_ret
    exact ⟨ret_int (unhide HE), rfl⟩
  by_cases a2 : a ≤ 1810
  · by_cases b1 : b < 1824
    · have f0 : ¬ 0 ≤ letNo a := by omega
      have f1 : ¬ 8704 ≤ a := by omega
      have f2 : 1792 ≤ a := by omega
      have f3 : ¬ 12288 ≤ a := by omega
      have f4 : ¬ 1824 ≤ b := by omega
      have HE : Hid ((-1 : Int) = z) := hide (by rw [← hz]; repeat (first | rw [if_pos (by omega)] | rw [if_neg (by omega)]))
      rw [HZ]
      clear hz HZ hl hn hlet
      generalize letNo a = i at *
      go_enter Tryz.func45, Tryz.ntmps45
      go_wp2_with (go_at_call 74; refine ((unhide LN) _).mono ?_; rintro e w' ⟨rfl, rfl⟩)
      go_ret
      exact ⟨ret_int (unhide HE), rfl⟩
    by_cases b2 : b ≤ 1844
    · have f0 : ¬ 0 ≤ letNo a := by omega
      have f1 : ¬ 8704 ≤ a := by omega
      have f2 : 1792 ≤ a := by omega
      have f3 : ¬ 12288 ≤ a := by omega
      have f4 : 1824 ≤ b := by omega
      have HE : Hid (12288 + ((a - 1792) * 21 + b - 1824) * 28 = z) := hide (by rw [← hz]; repeat (first | rw [if_pos (by omega)] | rw [if_neg (by omega)]))
      rw [HZ]
      clear hz HZ hl hn hlet
      generalize letNo a = i at *
      go_enter Tryz.func45, Tryz.ntmps45
      go_wp2_with (go_at_call 74; refine ((unhide LN) _).mono ?_; rintro e w' ⟨rfl, rfl⟩)
      go_ret
      exact ⟨ret_int (unhide HE), rfl⟩
    have f0 : ¬ 0 ≤ letNo a := by omega
    have f1 : ¬ 8704 ≤ a := by omega
    have f2 : 1792 ≤ a := by omega
    have f3 : ¬ 12288 ≤ a := by omega
    have f4 : 1824 ≤ b := by omega
    have HE : Hid ((-1 : Int) = z) := hide (by rw [← hz]; repeat (first | rw [if_pos (by omega)] | rw [if_neg (by omega)]))
    rw [HZ]
    clear hz HZ hl hn hlet
    generalize letNo a = i at *
    go_enter Tryz.func45, Tryz.ntmps45
    go_wp2_with (go_at_call 74; refine ((unhide LN) _).mono ?_; rintro e w' ⟨rfl, rfl⟩)
    go_ret
    exact ⟨ret_int (unhide HE), rfl⟩
  by_cases a3 : a < 8704
  · have f0 : ¬ 0 ≤ letNo a := by omega
    have f1 : ¬ 8704 ≤ a := by omega
    have f2 : 1792 ≤ a := by omega
    have f3 : ¬ 12288 ≤ a := by omega
    have HE : Hid ((-1 : Int) = z) := hide (by rw [← hz]; repeat (first | rw [if_pos (by omega)] | rw [if_neg (by omega)]))
    rw [HZ]
    clear hz HZ hl hn hlet
    generalize letNo a = i at *
    go_enter Tryz.func45, Tryz.ntmps45
    go_wp2_with (go_at_call 74; refine ((unhide LN) _).mono ?_; rintro e w' ⟨rfl, rfl⟩)
    go_ret
    exact ⟨ret_int (unhide HE), rfl⟩
  by_cases a4 : a < 9120
  · by_cases b1 : b = 4096
    · have f0 : ¬ 0 ≤ letNo a := by omega
      have f1 : 8704 ≤ a := by omega
      have f2 : 1792 ≤ a := by omega
      have f3 : ¬ a ≤ 1810 := by omega
      have f4 : ¬ 12288 ≤ a := by omega
      have tb : (b == 4096) = true := by simpa using b1
      have HE : Hid (a + 512 = z) := hide (by rw [← hz]; repeat (first | rw [if_pos (by omega)] | rw [if_neg (by omega)]))
      rw [HZ]
      clear hz HZ hl hn hlet
      generalize letNo a = i at *
      go_enter Tryz.func45, Tryz.ntmps45
      go_wp2_with (go_at_call 74; refine ((unhide LN) _).mono ?_; rintro e w' ⟨rfl, rfl⟩)
      go_ret
      exact ⟨ret_int (unhide HE), rfl⟩
    have f0 : ¬ 0 ≤ letNo a := by omega
    have f1 : 8704 ≤ a := by omega
    have f2 : 1792 ≤ a := by omega
    have f3 : ¬ a ≤ 1810 := by omega
    have f4 : ¬ 12288 ≤ a := by omega
    have tb : (b == 4096) = false := by simpa using b1
    have HE : Hid ((-1 : Int) = z) := hide (by rw [← hz]; repeat (first | rw [if_pos (by omega)] | rw [if_neg (by omega)]))
    rw [HZ]
    clear hz HZ hl hn hlet
    generalize letNo a = i at *
    go_enter Tryz.func45, Tryz.ntmps45
    go_wp2_with (go_at_call 74; refine ((unhide LN) _).mono ?_; rintro e w' ⟨rfl, rfl⟩)
    go_ret
    exact ⟨ret_int (unhide HE), rfl⟩
  by_cases a5 : a < 12288
  · have f0 : ¬ 0 ≤ letNo a := by omega
    have f1 : 8704 ≤ a := by omega
    have f2 : 1792 ≤ a := by omega
    have f3 : ¬ a ≤ 1810 := by omega
    have f4 : ¬ 12288 ≤ a := by omega
    have HE : Hid ((-1 : Int) = z) := hide (by rw [← hz]; repeat (first | rw [if_pos (by omega)] | rw [if_neg (by omega)]))
    rw [HZ]
    clear hz HZ hl hn hlet
    generalize letNo a = i at *
    go_enter Tryz.func45, Tryz.ntmps45
    go_wp2_with (go_at_call 74; refine ((unhide LN) _).mono ?_; rintro e w' ⟨rfl, rfl⟩)
    go_ret
    exact ⟨ret_int (unhide HE), rfl⟩
  by_cases a6 : a ≤ 23459
  · obtain ⟨r, hr⟩ : ∃ r, (a - 12288) % 28 = r := ⟨_, rfl⟩
    have er : (a - 12288).tmod 28 = r := by rw [Int.tmod_eq_emod_of_nonneg (by omega)]; exact hr
    by_cases r0 : r = 0
    · by_cases b1 : b < 1857
      · have f0 : ¬ 0 ≤ letNo a := by omega
        have f1 : 8704 ≤ a := by omega
        have f2 : ¬ a < 9120 := by omega
        have f3 : 1792 ≤ a := by omega
        have f4 : ¬ a ≤ 1810 := by omega
        have f5 : 12288 ≤ a := by omega
        have f6 : ¬ 1857 ≤ b := by omega
        have tr : (r == 0) = true := by simpa using r0
        have HE : Hid ((-1 : Int) = z) := hide (by rw [← hz]; repeat (first | rw [if_pos (by omega)] | rw [if_neg (by omega)]))
        rw [HZ]
        clear hz HZ hl hn hlet
        generalize letNo a = i at *
        go_enter Tryz.func45, Tryz.ntmps45
        go_wp2_with (go_at_call 74; refine ((unhide LN) _).mono ?_; rintro e w' ⟨rfl, rfl⟩)
        go_ret
        exact ⟨ret_int (unhide HE), rfl⟩
      by_cases b2 : b ≤ 1883
      · have f0 : ¬ 0 ≤ letNo a := by omega
        have f1 : 8704 ≤ a := by omega
        have f2 : ¬ a < 9120 := by omega
        have f3 : 1792 ≤ a := by omega
        have f4 : ¬ a ≤ 1810 := by omega
        have f5 : 12288 ≤ a := by omega
        have f6 : 1857 ≤ b := by omega
        have tr : (r == 0) = true := by simpa using r0
        have HE : Hid (a + b - 1856 = z) := hide (by rw [← hz]; repeat (first | rw [if_pos (by omega)] | rw [if_neg (by omega)]))
        rw [HZ]
        clear hz HZ hl hn hlet
        generalize letNo a = i at *
        go_enter Tryz.func45, Tryz.ntmps45
        go_wp2_with (go_at_call 74; refine ((unhide LN) _).mono ?_; rintro e w' ⟨rfl, rfl⟩)
        go_ret
        exact ⟨ret_int (unhide HE), rfl⟩
      have f0 : ¬ 0 ≤ letNo a := by omega
      have f1 : 8704 ≤ a := by omega
      have f2 : ¬ a < 9120 := by omega
      have f3 : 1792 ≤ a := by omega
      have f4 : ¬ a ≤ 1810 := by omega
      have f5 : 12288 ≤ a := by omega
      have f6 : 1857 ≤ b := by omega
      have tr : (r == 0) = true := by simpa using r0
      have HE : Hid ((-1 : Int) = z) := hide (by rw [← hz]; repeat (first | rw [if_pos (by omega)] | rw [if_neg (by omega)]))
      rw [HZ]
      clear hz HZ hl hn hlet
      generalize letNo a = i at *
      go_enter Tryz.func45, Tryz.ntmps45
      go_wp2_with (go_at_call 74; refine ((unhide LN) _).mono ?_; rintro e w' ⟨rfl, rfl⟩)
      go_ret
      exact ⟨ret_int (unhide HE), rfl⟩
    have f0 : ¬ 0 ≤ letNo a := by omega
    have f1 : 8704 ≤ a := by omega
    have f2 : ¬ a < 9120 := by omega
    have f3 : 1792 ≤ a := by omega
    have f4 : ¬ a ≤ 1810 := by omega
    have f5 : 12288 ≤ a := by omega
    have tr : (r == 0) = false := by simpa using r0
    have HE : Hid ((-1 : Int) = z) := hide (by rw [← hz]; repeat (first | rw [if_pos (by omega)] | rw [if_neg (by omega)]))
    rw [HZ]
    clear hz HZ hl hn hlet
    generalize letNo a = i at *
    go_enter Tryz.func45, Tryz.ntmps45
    go_wp2_with (go_at_call 74; refine ((unhide LN) _).mono ?_; rintro e w' ⟨rfl, rfl⟩)
    go_ret
    exact ⟨ret_int (unhide HE), rfl⟩
  have f0 : ¬ 0 ≤ letNo a := by omega
  have f1 : 8704 ≤ a := by omega
  have f2 : ¬ a < 9120 := by omega
  have f3 : 1792 ≤ a := by omega
  have f4 : ¬ a ≤ 1810 := by omega
  have f5 : 12288 ≤ a := by omega
  have HE : Hid ((-1 : Int) = z) := hide (by rw [← hz]; repeat (first | rw [if_pos (by omega)] | rw [if_neg (by omega)]))
  rw [HZ]
  clear hz HZ hl hn hlet
  generalize letNo a = i at *
  go_enter Tryz.func45, Tryz.ntmps45
  go_wp2_with (go_at_call 74; refine ((unhide LN) _).mono ?_; rintro e w' ⟨rfl, rfl⟩)
  go_ret
  exact ⟨ret_int (unhide HE), rfl⟩
end Go.Proofs.YtamigjljgepfiaaGreatDoor
