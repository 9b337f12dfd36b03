/- What FnFewest draws: some words, and some text. -/
import Derived.Test.YtjcgchmncgihbaaDoorFwD
import Derived.Test.YtjcgchmncgihbaaDoorMFR
namespace Go.Proofs.YtjcgchmncgihbaaDoor.Dr
open Go.RowKit Go.Shelf
open Fw (region_inv)
set_option linter.unusedVariables false
set_option linter.unusedSimpArgs false
attribute [local go_sem] Oper.semAt_some
set_option maxRecDepth 100000 in
set_option maxHeartbeats 8000000 in
theorem drawF_in (w : World) (a : Option Addr) (len cap : Nat) (hl : len ≤ 1048576) (hc : CodeIn w a len) :
    CallsIn Fence.wide 5 Tryd.prog 4 #[.slice a len cap] w fun e w' => ∃ v L t, e = .returned (.tuple #[v, .string t]) ∧ StrsAt w' v L ∧ L.length ≤ 2000 ∧ (∀ i, i < L.length → (nthS L i).size ≤ 4000) ∧ t.size ≤ 4000 ∧ Below w.heap.size w w' := by
  have mixed : Tryd.prog.follows Departure.mixedOrders = true := by kernel_rfl
  have SC := (callsIn_wide (n := 4)).2 (source_any w a len cap hl hc)
  refine callsIn_of_wp Tryd.func4 rfl trivial ?_ rfl
  simp only [Tryd.ntmps4, List.size_toArray, List.length_cons, List.length_nil, Nat.reduceAdd, Nat.reduceSub, Array.replicate_succ, Array.replicate_zero, List.push_toArray, List.append_toArray, List.nil_append, List.cons_append]
  gi_wp2_with (refine ⟨trivial, ?_⟩; gi_at_call 11; refine SC.mono ?_; rintro e w1 ⟨rfl, size, z0, z1, hs, hb, hlt⟩)
  refine region_inv mixed (fun l ac w' => ∃ (b0 b1 b2 b3 b4 b5 b6 b7 b8 b9 b10 b11 b12 : Bool) (v : Value) (L : List ByteArray) (r : Nat) (t : ByteArray), l = #[b0, b1, b2, b3, b4, b5, b6, b7, b8, b9, b10, b11, b12] ∧ ac = { tmps := #[.slice a len cap, undef, (bif b11 then v else .slice none 0 0), (bif b12 then .string t else .string ⟨#[]⟩), .pointer (some ⟨w.heap.size, 0, none⟩), .slice a len cap, .pointer (some ⟨w.heap.size, 0, none⟩), (bif b0 then .pointer (some ⟨w.heap.size, 0, none⟩) else undef), (bif b1 then v else undef), (bif b2 then .pointer (some ⟨w.heap.size, 0, none⟩) else undef), (bif b3 then .pointer (some ⟨w.heap.size, 0, none⟩) else undef), (bif b4 then .pointer (some ⟨w.heap.size, 0, none⟩) else undef), (bif b5 then .pointer (some ⟨w.heap.size, 0, none⟩) else undef), (bif b6 then .pointer (some ⟨w.heap.size, 3, none⟩) else undef), (bif b7 then .int .i64 size else undef), (bif b8 then .int .i64 (12 + size) else undef), (bif b9 then .int .i64 (r : Int) else undef), (bif b10 then .string t else undef)], defers := [] } ∧ SrcAt w' w.heap.size a len cap size ∧ Below w.heap.size w w' ∧ (b1 = true → w'.ownsRow (w.heap.size + 1) 9 1 v L.length (L.map Value.string) ∧ L.length ≤ 2000 ∧ ∀ i, i < L.length → (nthS L i).size ≤ 4000) ∧ (b9 = true → (r : Int) < 12 + size) ∧ (b10 = true → t.size ≤ 4000) ∧ (b11 = true → b1 = true) ∧ (b12 = true → b10 = true)) (by kernel_rfl) (by rintro l ac w' ⟨_, _, _, _, _, _, _, _, _, _, _, _, _, _, _, _, _, rfl, _⟩; rfl) ?first ?step ?last
  case first => exact ⟨false, false, false, false, false, false, false, false, false, false, false, false, false, .slice none 0 0, [], 0, ⟨#[]⟩, rfl, rfl, hs, bdrew hb 1, (fun e => by cases e), (fun e => by cases e), (fun e => by cases e), (fun e => by cases e), (fun e => by cases e)⟩
  case step =>
    rintro ii l ac w' ⟨b0, b1, b2, b3, b4, b5, b6, b7, b8, b9, b10, b11, b12, v, L, r, t, rfl, rfl, hS, hB, h1, h9, h10, h11, h12⟩ hr
    have hr := mem_ready.1 hr
    have hww : IntKind.i64.wrap (12 + size) = 12 + size := by simp [IntKind.wrap, IntKind.bits, IntKind.signed]; omega
    rcases ii with _ | _ | _ | _ | _ | _ | _ | _ | _ | _ | _ | _ | _ | ii
    · simp [Region.binds] at hr
      repeat (rcases hr with ⟨hq, hr⟩)
      subst_vars
      refine wpOpIn_step rfl (fun K hK => ?_)
      go_simp
      refine hK _ _ ⟨true, _, _, _, _, _, _, _, _, _, _, _, _, v, L, r, t, rfl, rfl, hS, hB, h1, h9, h10, h11, h12⟩
    · simp [Region.binds] at hr
      repeat (rcases hr with ⟨hq, hr⟩)
      subst_vars
      refine wpOpIn_step rfl (fun K hK => ?_)
      go_simp
      refine ⟨trivial, ?_⟩
      gi_at_call 12
      refine ((callsIn_wide (n := 4)).2 (dict_any _ w.heap.size a len cap size hl hS)).mono ?_
      rintro e w2 ⟨v2, L2, rfl, ho2, hl2, hz2, hs2, hg2⟩
      have hsl := src_lt hS
      have hd2 := low_own (B := w.heap.size + 1) ho2 hsl
      have hb2 := hB.grown hg2 hB.size (fun k hk => by simp at hk; omega)
      obtain rfl : b11 = false := by cases b11 with | false => rfl | true => exact absurd (h11 rfl) (by simp)
      refine hK _ _ ⟨_, true, _, _, _, _, _, _, _, _, _, _, _, v2, L2, r, t, rfl, rfl, hs2, hb2, (fun _ => ⟨hd2, hl2, hz2⟩), h9, h10, (fun _ => rfl), h12⟩
    · simp [Region.binds] at hr
      repeat (rcases hr with ⟨hq, hr⟩)
      subst_vars
      refine wpOpIn_step rfl (fun K hK => ?_)
      go_simp
      refine hK _ _ ⟨_, _, true, _, _, _, _, _, _, _, _, _, _, v, L, r, t, rfl, rfl, hS, hB, h1, h9, h10, h11, h12⟩
    · simp [Region.binds] at hr
      repeat (rcases hr with ⟨hq, hr⟩)
      subst_vars
      refine wpOpIn_step rfl (fun K hK => ?_)
      go_simp
      refine hK _ _ ⟨_, _, _, true, _, _, _, _, _, _, _, _, _, v, L, r, t, rfl, rfl, hS, hB, h1, h9, h10, h11, h12⟩
    · simp [Region.binds] at hr
      repeat (rcases hr with ⟨hq, hr⟩)
      subst_vars
      refine wpOpIn_step rfl (fun K hK => ?_)
      go_simp
      refine hK _ _ ⟨_, _, _, _, true, _, _, _, _, _, _, _, _, v, L, r, t, rfl, rfl, hS, hB, h1, h9, h10, h11, h12⟩
    · simp [Region.binds] at hr
      repeat (rcases hr with ⟨hq, hr⟩)
      subst_vars
      refine wpOpIn_step rfl (fun K hK => ?_)
      go_simp
      refine hK _ _ ⟨_, _, _, _, _, true, _, _, _, _, _, _, _, v, L, r, t, rfl, rfl, hS, hB, h1, h9, h10, h11, h12⟩
    · simp [Region.binds] at hr
      repeat (rcases hr with ⟨hq, hr⟩)
      subst_vars
      refine wpOpIn_step rfl (fun K hK => ?_)
      go_simp
      refine hK _ _ ⟨_, _, _, _, _, _, true, _, _, _, _, _, _, v, L, r, t, rfl, rfl, hS, hB, h1, h9, h10, h11, h12⟩
    · simp [Region.binds] at hr
      repeat (rcases hr with ⟨hq, hr⟩)
      subst_vars
      have hS' := hS
      obtain ⟨_, pp, mm, _, _, hh⟩ := hS'
      have k3 := (src_cells hh).2.2.2.1
      refine wpOpIn_step rfl (fun K hK => ?_)
      go_simp
      refine hK _ _ ⟨_, _, _, _, _, _, _, true, _, _, _, _, _, v, L, r, t, rfl, rfl, hS, hB, h1, h9, h10, h11, h12⟩
    · simp [Region.binds] at hr
      repeat (rcases hr with ⟨hq, hr⟩)
      subst_vars
      refine wpOpIn_step rfl (fun K hK => ?_)
      go_simp
      refine hK _ _ ⟨_, _, _, _, _, _, _, _, true, _, _, _, _, v, L, r, t, rfl, rfl, hS, hB, h1, h9, h10, h11, h12⟩
    · simp [Region.binds] at hr
      repeat (rcases hr with ⟨hq, hr⟩)
      subst_vars
      refine wpOpIn_step rfl (fun K hK => ?_)
      go_simp
      refine ⟨trivial, ?_⟩
      gi_at_call 14
      refine ((callsIn_wide (n := 4)).2 (n_nat _ w.heap.size a len cap size (12 + size) (by omega) (by omega) hl hS)).mono ?_
      rintro e w2 ⟨r2, rfl, hr2, hs2, hg2⟩
      have hb2 := hB.grown hg2 hB.size (fun k hk => by simp at hk; omega)
      refine hK _ _ ⟨_, _, _, _, _, _, _, _, _, true, _, _, _, v, L, r2, t, rfl, rfl, hs2, hb2, (fun e => ⟨(h1 e).1.kept hg2 (.inr (fun x => by have := ((h1 e).1.lt _ x).1; omega)), (h1 e).2⟩), (fun _ => hr2), h10, h11, h12⟩
    · simp [Region.binds] at hr
      repeat (rcases hr with ⟨hq, hr⟩)
      subst_vars
      refine wpOpIn_step rfl (fun K hK => ?_)
      go_simp
      refine ⟨trivial, ?_⟩
      gi_at_call 13
      have hrr := h9 rfl
      refine ((callsIn_wide (n := 4)).2 (run_any _ w.heap.size a len cap r size hl (by omega) hS)).mono ?_
      rintro e w2 ⟨t2, rfl, ht2, hs2, hg2⟩
      have hb2 := hB.grown hg2 hB.size (fun k hk => by simp at hk; omega)
      obtain rfl : b12 = false := by cases b12 with | false => rfl | true => exact absurd (h12 rfl) (by simp)
      refine hK _ _ ⟨_, _, _, _, _, _, _, _, _, _, true, _, _, v, L, r, t2, rfl, rfl, hs2, hb2, (fun e => ⟨(h1 e).1.kept hg2 (.inr (fun x => by have := ((h1 e).1.lt _ x).1; omega)), (h1 e).2⟩), h9, (fun _ => ht2), h11, (fun _ => rfl)⟩
    · simp [Region.binds] at hr
      repeat (rcases hr with ⟨hq, hr⟩)
      subst_vars
      refine wpOpIn_step rfl (fun K hK => ?_)
      go_simp
      refine hK _ _ ⟨_, _, _, _, _, _, _, _, _, _, _, true, _, v, L, r, t, rfl, rfl, hS, hB, h1, h9, h10, (fun _ => rfl), h12⟩
    · simp [Region.binds] at hr
      repeat (rcases hr with ⟨hq, hr⟩)
      subst_vars
      refine wpOpIn_step rfl (fun K hK => ?_)
      go_simp
      refine hK _ _ ⟨_, _, _, _, _, _, _, _, _, _, _, _, true, v, L, r, t, rfl, rfl, hS, hB, h1, h9, h10, h11, (fun _ => rfl)⟩
    · simp at hr
  case last =>
    rintro ac W4 ⟨f0, f1, f2, f3, f4, f5, f6, f7, f8, f9, f10, f11, f12, v, L, r, t, hl2, rfl, hS, hB, h1, h9, h10, h11, h12⟩
    have hl2 := congrArg Array.toList hl2
    simp at hl2
    repeat (rcases hl2 with ⟨hq, hl2⟩)
    subst_vars
    obtain ⟨q1, q2, q3⟩ := h1 rfl
    have q4 := h10 rfl
    simp only [cond_true]
    gi_wp2
    refine bodyPost_ret (by simp [results, Tryd.results4, go_sem]; try rfl) rfl ?_
    exact ⟨v, L, t, rfl, StrsAt.owned q1, q2, q3, q4, hB⟩
end Go.Proofs.YtjcgchmncgihbaaDoor.Dr
