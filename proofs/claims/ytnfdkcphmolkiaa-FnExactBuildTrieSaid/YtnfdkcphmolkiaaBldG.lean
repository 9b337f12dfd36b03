/- slices.Grow of no slice. -/
import Derived.Test.YtnfdkcphmolkiaaBldW
import Derived.ArgAppend
namespace Go.Proofs.Ytnfdkcphmolkiaa
open Go.RowKit
theorem run_append_make (w : World) (ty : TypeId) (n : Nat) (h1 : 0 < n) (h2 : n ≤ 32768) :
    (Builtin.append_ #[24, 3] ty #[.slice none 0 0, .int .i64 n]).run Try.prog w =
      .ok (.slice (some ⟨w.heap.size, 0, none⟩) n (grownCap w n 0 2)) (w.drew.alloc (.cells (Builtin.zeroCells #[.int .i64 0] n ++ Builtin.zeroCells #[.int .i64 0] (grownCap w n 0 2 - n)) 2)) := by
  obtain ⟨i0, hi, hz0, hz1, hz2⟩ := info_parts info2
  have hw : IntKind.i64.wrap (n : Int) = (n : Int) := wrap_in _ (by omega) (by omega)
  have a1 : ¬ ((n : Int) < 0) := by omega
  have a2 : ¬ ((281474976710656 : Int) < (n : Int) * 8) := by omega
  have a3 : ¬ n = 0 := by omega
  have a5 : ¬ ((9223372036854775807 : Int) < (n : Int)) := by omega
  have a6 : Builtin.nextslicecap n 0 = n := by unfold Builtin.nextslicecap; rw [if_pos (by omega)]
  have a7 : ¬ 281474976710656 < n * 8 := by omega
  have a9 : max (n : Int) 0 = (n : Int) := by omega
  simp [Builtin.append_, asIntOf, a9, run_underlying Try.underlying24, run_underlying Try.underlying3, sizeOf, typeInfo, zeroValue, hi, hz0, hz1, hz2, asInt, hw, a1, a2, a3, a5, a6, a7, Question.forced, newRow, grownCap, Builtin.firstCells, Value.cells]
theorem own_nil {w : World} {g cap : Nat} {cur : Array Value} (hh : w.heap[g]? = some (.cells cur 2 (0, 0))) (hc : cap ≤ maxLen) (hs : cur.size = cap) : w.ownsRow g 2 1 (.slice (some ⟨g, 0, none⟩) 0 cap) 0 [] :=
  ⟨rfl, .inr ⟨g, cap, cur, rfl, Nat.le_refl _, hh, Nat.zero_le _, hc, by omega, rfl⟩⟩
theorem wpList_make_grow {w : World} {ops : Array Oper} {rest : List Oper} {o : Oper} {a : Act} {Q : Exit → Act → World → Prop} (hgd : o.guard = none) (s x : Operand)
    (ho : o.op = .call { callee := .builtin .append, args := #[s, x], argTypes := #[24, 3] }) (n : Nat) (hs : a.eval s = .slice none 0 0) (hx : a.eval x = .int .i64 n) (h1 : 0 < n) (h2 : n ≤ 32768)
    (h : ∀ cap w', n ≤ cap → w'.ownsRow w.heap.size 2 1 (.slice (some ⟨w.heap.size, 0, none⟩) 0 cap) 0 [] → Below w.heap.size w w' → wpList Try.prog ops Q rest (a.put o.dst (.slice (some ⟨w.heap.size, 0, none⟩) n cap)) w') : wpList Try.prog ops Q (o :: rest) a w := by
  refine wpList_plain hgd fun K hK => ?_
  have hr := run_append_make w o.type n h1 h2
  have hge := grownCap_ge w n 0 2
  have hcm : grownCap w n 0 2 ≤ maxLen := grownCap_le_maxLen w n 0 2 (by unfold maxLen; omega)
  unfold Oper.wp execOp
  simp only [ho, resolve, invoke, builtin, Sem.run_bind, Sem.run_pure, Result.andThen_ok, List.map_toArray, List.map_cons, List.map_nil, hs, hx, hr]
  refine hK _ _ (h _ _ hge (own_nil (heap_alloc_new w.drew _) hcm ?_) ⟨rfl, rfl, rfl, by simp, fun k hk => Below.heap_alloc w.drew _ k hk⟩)
  simp [size_zeroCells]
  omega
set_option maxHeartbeats 1000000 in
theorem grow_any (n : Nat) (w : World) (h1 : 0 < n) (h2 : n ≤ 32768) :
    Calls Try.prog 84 #[.slice none 0 0, .int .i64 n] w fun e w' => ∃ cap, n ≤ cap ∧ e = .returned (.slice (some ⟨w.heap.size, 0, none⟩) 0 cap) ∧ w'.ownsRow w.heap.size 2 1 (.slice (some ⟨w.heap.size, 0, none⟩) 0 cap) 0 [] ∧ Below w.heap.size w w' := by
  have h1' : (0 : Int) < (n : Int) := by omega
  go_enter Try.func84, Try.ntmps84
  go_wp2_with (at_builtin; refine wpList_make_grow rfl _ _ rfl n rfl rfl h1 h2 ?_)
  intro cap w1 hc ho hb
  have O := hide ho
  have B := hide hb
  clear ho hb
  go_wp2
  go_ret
  exact ⟨cap, hc, rfl, unhide O, unhide B⟩
end Go.Proofs.Ytnfdkcphmolkiaa
