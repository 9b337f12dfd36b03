/- A map whose keys are pairs: what is asked of it and laid into it. -/
import Derived.Test.YtjdginjohajmaaaGreatDoorMA
import Derived.Maps.Keyed
import Derived.RangeFuncRecord
namespace Go.Proofs.YtjdginjohajmaaaGreatDoor
open Go.RowKit
/-- A key. -/
def keyV (a b : Int) : Value := .agg #[.int .i64 a, .int .i64 b]
set_option maxRecDepth 100000 in
theorem eq_pair (a b c d : Int) (w : World) : (Op.equalIn 10000 65 (.agg #[.int .i64 a, .int .i64 b]) (.agg #[.int .i64 c, .int .i64 d])).run Tryz.prog w = .ok (a == c && b == d) w := by
  have u2 := Tryz.underlying2
  have a2 := Tryz.isAgg2
  have z2 := Tryz.sizeOf2
  rw [show (10000 : Nat) = 9999 + 1 from rfl, Op.equalIn]
  simp only [Sem.run_bind, run_underlying Tryz.underlying65, Result.andThen_ok]
  simp only [Std.Legacy.Range.forIn_eq_forIn_range', Std.Legacy.Range.size, Nat.sub_zero, Nat.add_sub_cancel, Nat.div_one, List.range'_succ, List.range'_zero, List.forIn_cons, List.forIn_nil]
  go_simp
  by_cases h1 : a = c <;> by_cases h2 : b = d <;> simp [h1, h2]
/-- Entries: two parts, the whole. -/
def Ents (D : List (Int × Int × Int)) (L : List MapEntry) : Prop := L.map (fun e => (e.key, e.val)) = D.map (fun t => (keyV t.1 t.2.1, Value.int .i64 t.2.2))
/-- Where a key is found. -/
def findD (a b : Int) : List (Int × Int × Int) → Nat → Option (Nat × Value)
  | [], _ => none
  | t :: r, i => if a = t.1 ∧ b = t.2.1 then some (i, .int .i64 t.2.2) else findD a b r (i + 1)
theorem find_run (a b : Int) (w : World) : ∀ (D : List (Int × Int × Int)) (L : List MapEntry) (i : Nat), Ents D L → (Instr.findAsking 65 (keyV a b) L i).run Tryz.prog w = .ok (findD a b D i) w
  | [], L, i, h => by
    have : L = [] := by simpa [Ents] using h
    subst this
    simp [Instr.findAsking, findD]
  | t :: r, L, i, h => by
    match L, h with
    | e :: L', h =>
      have h' : (e.key, e.val) = (keyV t.1 t.2.1, Value.int .i64 t.2.2) ∧ Ents r L' := by simpa [Ents] using h
      obtain ⟨hk, hr⟩ := h'
      have hv : e.val = Value.int .i64 t.2.2 := congrArg Prod.snd hk
      replace hk : e.key = keyV t.1 t.2.1 := congrArg Prod.fst hk
      have he : (Op.equal 65 (keyV a b) e.key).run Tryz.prog w = .ok (a == t.1 && b == t.2.1) w := by
        rw [hk]
        exact eq_pair a b t.1 t.2.1 w
      by_cases hc : a = t.1 ∧ b = t.2.1
      · have ht : (a == t.1 && b == t.2.1) = true := by simp [hc.1, hc.2]
        rw [ht] at he
        have e1 : findD a b (t :: r) i = some (i, .int .i64 t.2.2) := if_pos hc
        rw [e1]
        simp [Instr.findAsking, he, hv]
      · have hf : (a == t.1 && b == t.2.1) = false := by
          cases hb : (a == t.1 && b == t.2.1) with
          | false => rfl
          | true => exact (hc (by simpa using hb)).elim
        rw [hf] at he
        have e1 : findD a b (t :: r) i = findD a b r (i + 1) := if_neg hc
        rw [e1]
        simp [Instr.findAsking, he, find_run a b w r L' (i + 1) hr]
theorem findKey_run (a b : Int) (w : World) (D : List (Int × Int × Int)) (L : List MapEntry) (h : Ents D L) : (Instr.findKey 65 (keyV a b) L).run Tryz.prog w = .ok (findD a b D 0) w := by
  unfold Instr.findKey
  simp only [Sem.run_bind, run_underlying Tryz.underlying65, Result.andThen_ok]
  match L, D, h with
  | [], D, h =>
    have : D = [] := by
      have h2 : ([] : List (Value × Value)) = D.map _ := h
      exact List.map_eq_nil_iff.1 h2.symm
    subst this
    simp [Instr.findNow, findD]
  | e :: L', D, h =>
    have hn : Instr.findNow (.array 2 2) (keyV a b) (e :: L') 0 = none := by
      simp [Instr.findNow, Instr.sameNow]
    rw [hn]
    exact find_run a b w D (e :: L') 0 h
theorem check_int (em : Bool) (n : Nat) (a : Int) (w : World) : (Instr.checkKey em (n + 1) 2 (.int .i64 a)).run Tryz.prog w = .ok () w := by
  simp [Instr.checkKey, run_underlying Tryz.underlying2]
theorem part_run (a b : Int) (w : World) : (part 2 #[.int .i64 a, .int .i64 b] 0).run Tryz.prog w = .ok (.int .i64 a) w ∧ (part 2 #[.int .i64 a, .int .i64 b] 1).run Tryz.prog w = .ok (.int .i64 b) w := by
  constructor <;> kernel_rfl
theorem check_n (em : Bool) (n : Nat) (a b : Int) (w : World) : (Instr.checkKey em (n + 1 + 1) 65 (keyV a b)).run Tryz.prog w = .ok () w := by
  have z2 := Tryz.sizeOf2
  have p1 := (part_run a b w).1
  have p2 := (part_run a b w).2
  have c1 := check_int em n a w
  have c2 := check_int em n b w
  rw [Instr.checkKey]
  simp only [Sem.run_bind, run_underlying Tryz.underlying65, Result.andThen_ok, keyV]
  simp only [Std.Legacy.Range.forIn_eq_forIn_range', Std.Legacy.Range.size, Nat.sub_zero, Nat.add_sub_cancel, Nat.div_one, List.range'_succ, List.range'_zero, List.forIn_cons, List.forIn_nil]
  simp [z2, p1, p2, c1, c2, Result.andThen]
theorem check_run (em : Bool) (a b : Int) (w : World) : (Instr.checkKey em 10000 65 (keyV a b)).run Tryz.prog w = .ok () w := check_n em 9998 a b w
/-- The map at a block. -/
def BookAt (w : World) (M : Nat) (D : List (Int × Int × Int)) : Prop := ∃ es clock, w.heap[M]? = some (.map es clock) ∧ Ents D es.toList
def valD (o : Option (Nat × Value)) : Value := match o with | some (_, v) => .tuple #[v, .bool true] | none => .tuple #[.int .i64 0, .bool false]
set_option maxRecDepth 100000 in
theorem lookup_run {w : World} {M : Nat} {D : List (Int × Int × Int)} (h : BookAt w M D) (a b : Int) : (Instr.lookup 64 (.map (some M)) (.agg #[.int .i64 a, .int .i64 b]) true).run Tryz.prog w = .ok (valD (findD a b D 0)) w := by
  obtain ⟨es, clock, hM, he⟩ := h
  have hz : (zeroValue 2).run Tryz.prog w = .ok (.int .i64 0) w := by kernel_rfl
  have hc := check_run es.isEmpty a b w
  have hf := findKey_run a b w D es.toList he
  unfold keyV at hc hf
  cases hd : findD a b D 0 with
  | none =>
    rw [hd] at hf
    simp [Instr.lookup, run_underlying Tryz.underlying64, MapKept.run_getObj_map hM, hc, hf, hz, Result.andThen, valD]
  | some x =>
    rw [hd] at hf
    obtain ⟨j, v⟩ := x
    simp [Instr.lookup, run_underlying Tryz.underlying64, MapKept.run_getObj_map hM, hc, hf, Result.andThen, valD]
set_option maxRecDepth 100000 in
theorem update_run {w : World} {M : Nat} {D : List (Int × Int × Int)} (h : BookAt w M D) (a b v : Int) (hn : findD a b D 0 = none) :
    ∃ o, (Instr.mapUpdate 64 (.map (some M)) (.agg #[.int .i64 a, .int .i64 b]) (.int .i64 v)).run Tryz.prog w = .ok () (w.putObj M o) ∧ BookAt (w.putObj M o) M (D ++ [(a, b, v)]) := by
  obtain ⟨es, clock, hM, he⟩ := h
  have hc := check_run false a b w
  have hf := findKey_run a b w D es.toList he
  rw [hn] at hf
  unfold keyV at hc hf
  refine ⟨.map (es.push ⟨.agg #[.int .i64 a, .int .i64 b], .int .i64 v, clock⟩) (clock + 1), ?_, _, _, World.putObj_heap_same (Array.getElem?_eq_some_iff.1 hM).1, ?_⟩
  · simp [Instr.mapUpdate, run_underlying Tryz.underlying64, MapKept.run_getObj_map hM, hc, hf, MapKept.run_setObj_map _ hM, Result.andThen, World.putObj]
  · unfold Ents at he ⊢
    rw [Array.toList_push, List.map_append, he, List.map_append]
    rfl
theorem BookAt.at {w w' : World} {M : Nat} {D : List (Int × Int × Int)} (h : BookAt w M D) (e : w'.heap[M]? = w.heap[M]?) : BookAt w' M D := by
  obtain ⟨es, clock, hM, he⟩ := h
  exact ⟨es, clock, e.trans hM, he⟩
theorem BookAt.lt {w : World} {M : Nat} {D : List (Int × Int × Int)} (h : BookAt w M D) : M < w.heap.size := by
  obtain ⟨es, clock, hM, _⟩ := h
  exact (Array.getElem?_eq_some_iff.1 hM).1
end Go.Proofs.YtjdginjohajmaaaGreatDoor
