/- The five forms' writers, and the program's Encode. -/
import Derived.Test.YtiianallpmfcbaaEncI
import Derived.Deep.RegionWith
namespace Go.Proofs.Ytiianallpmfcbaa
open Go.RowKit
theorem keeps_app {B : Nat} {w w' : World} {v : Value} {o : Obj} {n : Nat} {xs : List Value} (hown : w.ownsRow B 5 1 v n xs) (h : (w.alloc o).grownBy w' v.ownBlock) : Keeps w w' :=
  (Keeps.alloc w o).trans (Keeps.grown (owned_alloc hown o) h)
theorem append_all (B : Nat) (v : Value) (L : List Int) (r : Int) (hr : isPt r = true) (w : World) (hown : w.ownsRow B 5 1 v L.length (L.map (Value.int .u8))) (hlen : L.length ≤ 1000000) (hBw : B ≤ w.heap.size) :
    Calls Try.prog 63 #[v, .int .i32 r] w fun e w' => ∃ v', e = .returned v' ∧ w'.ownsRow B 5 1 v' (L ++ Lib.encodeRuneZ r).length ((L ++ Lib.encodeRuneZ r).map (Value.int .u8)) ∧ Below B w w' ∧ Keeps w w' := by
  have hp := (isPt_iff r).1 hr
  rw [List.length_append, List.map_append]
  by_cases h1 : r ≤ 127
  · refine (app_one B v _ _ r hp.1 h1 w hown (by omega) hBw).mono fun e w' ⟨v', he, ho, _, hg⟩ => ⟨v', he, ?_, grown_below hown hBw hg, keeps_app hown hg⟩
    rw [Lib.encodeRuneZ_one hp.1 h1]; exact ho
  by_cases h2 : r ≤ 2047
  · refine (app_two B v _ _ r (by omega) h2 w hown (by omega) hBw).mono fun e w' ⟨v', he, ho, _, hg⟩ => ⟨v', he, ?_, grown_below hown hBw hg, keeps_app hown hg⟩
    rw [Lib.encodeRuneZ_two (by omega) h2]; exact ho
  by_cases h3 : r < 55296
  · refine (app_lo B v _ _ r (by omega) h3 w hown (by omega) hBw).mono fun e w' ⟨v', he, ho, _, hg⟩ => ⟨v', he, ?_, grown_below hown hBw hg, keeps_app hown hg⟩
    rw [Lib.encodeRuneZ_three (.inl ⟨by omega, h3⟩)]; exact ho
  by_cases h4 : r ≤ 65535
  · refine (app_hi B v _ _ r (by omega) h4 w hown (by omega) hBw).mono fun e w' ⟨v', he, ho, _, hg⟩ => ⟨v', he, ?_, grown_below hown hBw hg, keeps_app hown hg⟩
    rw [Lib.encodeRuneZ_three (.inr ⟨by omega, h4⟩)]; exact ho
  · refine (app_four B v _ _ r (by omega) (by omega) w hown (by omega) hBw).mono fun e w' ⟨v', he, ho, _, hg⟩ => ⟨v', he, ?_, grown_below hown hBw hg, keeps_app hown hg⟩
    rw [Lib.encodeRuneZ_four (by omega) (by omega)]; exact ho
theorem boxed {B : Nat} {w : World} {v : Value} {L : List Int} (h : w.ownsRow B 5 1 v L.length (L.map (Value.int .u8))) (o : Obj) : (w.alloc o).ownsRow B 5 1 v L.length (L.map (Value.int .u8)) := owned_alloc h o
/-- What a writer answers: the point's bytes behind the data. -/
def Wrote (f : Int) (p : Int) (B : Nat) (L : List Int) (w : World) (e : Ending) (w' : World) : Prop :=
  ∃ v', e = .returned v' ∧ w'.ownsRow B 5 1 v' (L ++ encP f p).length ((L ++ encP f p).map (Value.int .u8)) ∧ Below B w w' ∧ Keeps w w'
set_option maxHeartbeats 1000000 in
theorem eightLay (B : Nat) (v : Value) (L : List Int) (p : Int) (hp : isPt p = true) (w : World) (hown : w.ownsRow B 5 1 v L.length (L.map (Value.int .u8))) (hlen : L.length ≤ 999990) (hB : B ≤ w.heap.size) :
    Calls Try.prog 86 #[.agg #[], v, .int .i64 p] w fun e w' => Wrote 1 p B L w e w' := by
  have hpb := (isPt_iff p).1 hp
  have h0 := hpb.1
  have h1 := hpb.2.1
  have HP := hide hp
  clear hpb hp
  have HO := hide hown
  clear hown
  go_enter Try.func86, Try.ntmps86
  go_wp2_with fail
  refine (append_all B _ L p (unhide HP) _ (boxed (unhide HO) _) (by omega) (by simp; omega)).mono ?_
  rintro e w2 ⟨v', rfl, ho, hb, hk⟩
  go_wp2
  go_ret
  exact ⟨_, rfl, ho, ((Below.refl _ _).alloc hB _).trans hb, (Keeps.alloc _ _).trans hk⟩
set_option maxHeartbeats 1000000 in
theorem wideLay (b : Bool) (f : Int) (hf : encP f = unitL 4 b) (B : Nat) (v : Value) (L : List Int) (p : Int) (w : World) (hown : w.ownsRow B 5 1 v L.length (L.map (Value.int .u8))) (hlen : L.length ≤ 999990) (hB : B ≤ w.heap.size) :
    Calls Try.prog 102 #[.agg #[.int .i64 4, .bool b], v, .int .i64 p] w fun e w' => Wrote f p B L w e w' := by
  have HO := hide hown
  have HF := hide hf
  clear hown hf
  go_enter Try.func102, Try.ntmps102
  go_wp2_with fail
  refine (layUnit_any B _ L 4 (.inr rfl) b p _ (boxed (unhide HO) _) (by omega) (by simp; omega)).mono ?_
  rintro e w2 ⟨v', rfl, ho, hb, hk⟩
  go_wp2
  go_ret
  exact ⟨_, rfl, by rw [unhide HF]; exact ho, ((Below.refl _ _).alloc hB _).trans hb, (Keeps.alloc _ _).trans hk⟩
set_option maxHeartbeats 1000000 in
theorem sixLay_low (b : Bool) (f : Int) (B : Nat) (v : Value) (L : List Int) (p : Int) (hf : encP f p = unitL 2 b p) (hp : p ≤ 65535) (w : World) (hown : w.ownsRow B 5 1 v L.length (L.map (Value.int .u8))) (hlen : L.length ≤ 999990) (hB : B ≤ w.heap.size) :
    Calls Try.prog 94 #[.agg #[.int .i64 2, .bool b], v, .int .i64 p] w fun e w' => Wrote f p B L w e w' := by
  have HO := hide hown
  have HF := hide hf
  clear hown hf
  go_enter Try.func94, Try.ntmps94
  go_wp2_with fail
  refine (layUnit_any B _ L 2 (.inl rfl) b p _ (boxed (unhide HO) _) (by omega) (by simp; omega)).mono ?_
  rintro e w2 ⟨v', rfl, ho, hb, hk⟩
  go_wp2
  go_ret
  exact ⟨_, rfl, by rw [unhide HF]; exact ho, ((Below.refl _ _).alloc hB _).trans hb, (Keeps.alloc _ _).trans hk⟩
theorem keeps_box {w w2 : World} {u x : Value} (hk : Keeps (w.alloc (.cells #[u, x] 82)).drew w2) : w2.cell? ⟨w.heap.size, 0, none⟩ = some u ∧ w2.cell? ⟨w.heap.size, 1, none⟩ = some x :=
  box_cells (hk _ _ (heap_alloc_new _ _) (notRow80 _ _ (by decide)))
theorem boxed_drew {B : Nat} {w : World} {v : Value} {L : List Int} (h : w.ownsRow B 5 1 v L.length (L.map (Value.int .u8))) (o : Obj) : (w.alloc o).drew.ownsRow B 5 1 v L.length (L.map (Value.int .u8)) := owned_alloc h o
theorem le_box {B : Nat} {w : World} (h : B ≤ w.heap.size) (o : Obj) : B ≤ (w.alloc o).drew.heap.size := by
  show B ≤ (w.alloc o).heap.size
  simp; omega
theorem below_box {B : Nat} {w w2 : World} {o : Obj} (h : B ≤ w.heap.size) (hb : Below B (w.alloc o).drew w2) : Below B w w2 :=
  Below.trans (((Below.refl _ _).alloc h o).trans (show Below B (w.alloc o) (w.alloc o).drew from ⟨rfl, rfl, rfl, Nat.le_refl _, fun _ _ => rfl⟩)) hb
theorem keeps_drew {w w2 : World} {o : Obj} (hk : Keeps (w.alloc o).drew w2) : Keeps w w2 := (Keeps.alloc w o).trans hk
set_option maxHeartbeats 2000000 in
theorem sixLay_high (b : Bool) (f : Int) (B : Nat) (v : Value) (L : List Int) (p : Int) (hf : encP f p = unitL 2 b (55296 + (p - 65536) / 1024) ++ unitL 2 b (56320 + (p - 65536) % 1024)) (hp : 65536 ≤ p) (hp1 : p ≤ 1114111) (w : World) (hown : w.ownsRow B 5 1 v L.length (L.map (Value.int .u8))) (hlen : L.length ≤ 999990) (hB : B ≤ w.heap.size) :
    Calls Try.prog 94 #[.agg #[.int .i64 2, .bool b], v, .int .i64 p] w fun e w' => Wrote f p B L w e w' := by
  have HO := hide hown
  have HF := hide hf
  have HW1 : Hid (IntKind.i64.wrap (55296 + IntKind.i64.wrap ((p - 65536).tdiv 1024)) = 55296 + (p - 65536) / 1024) := hide (by rw [Int.tdiv_eq_ediv_of_nonneg (by omega)]; go_arith)
  have HW2 : Hid (IntKind.i64.wrap (56320 + (p - 65536).tmod 1024) = 56320 + (p - 65536) % 1024) := hide (by rw [Int.tmod_eq_emod_of_nonneg (by omega)]; go_arith)
  clear hown hf
  go_enter Try.func94, Try.ntmps94
  have TOK : Hid True := hide trivial
  go_wp2_with fail
  go_region_with (first
    | (go_at_call 97; clear TOK; rw [unhide HW1]; refine (layUnit_any B _ L 2 (.inl rfl) b (55296 + (p - 65536) / 1024) _ (boxed_drew (unhide HO) _) (by omega) (le_box hB _)).mono ?_; rintro e w2 ⟨v2, rfl, ho, hb, hk⟩; have HO2 := hide ho; have HB2 := hide hb; have HK2 := hide hk; obtain ⟨k0, k1⟩ := keeps_box hk; clear ho hb hk)
    | (go_at_call 97; rw [unhide HW2]; refine (layUnit_any B _ (L ++ unitL 2 b (55296 + (p - 65536) / 1024)) 2 (.inl rfl) b (56320 + (p - 65536) % 1024) _ (unhide HO2) (by rw [List.length_append, unitL_len]; omega) (Nat.le_trans (le_box hB _) (unhide HB2).size)).mono ?_; rintro e w3 ⟨v3, rfl, ho, hb, hk⟩))
  all_goals
    go_wp2
    go_ret
    exact ⟨_, rfl, by rw [unhide HF, ← List.append_assoc]; exact ho, below_box hB ((unhide HB2).trans hb), keeps_drew ((unhide HK2).trans hk)⟩
end Go.Proofs.Ytiianallpmfcbaa
