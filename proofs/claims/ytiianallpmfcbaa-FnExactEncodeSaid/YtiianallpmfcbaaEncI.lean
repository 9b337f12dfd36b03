/- The program's encoding: units laid behind the data, the five forms' writers. -/
import Derived.Test.YtiianallpmfcbaaEncS
import Derived.Lib.OthersKept
import Derived.Handy
namespace Go.Proofs.Ytiianallpmfcbaa
open Go.RowKit
/-- No row of bytes. -/
def NotRow (o : Obj) : Prop := ∀ cs fz, o ≠ .cells cs 5 fz
/-- All that is no row of bytes stays. -/
def Keeps (w w' : World) : Prop := ∀ (K : Nat) o, w.heap[K]? = some o → NotRow o → w'.heap[K]? = some o
theorem Keeps.refl (w : World) : Keeps w w := fun _ _ h _ => h
theorem Keeps.trans {a b c : World} (h : Keeps a b) (k : Keeps b c) : Keeps a c := fun K o e n => k K o (h K o e n) n
theorem Keeps.below {w w' : World} (h : Below w.heap.size w w') : Keeps w w' := fun K _ e _ => (h.block K (Array.getElem?_eq_some_iff.1 e).1).trans e
theorem Keeps.grown {w w' : World} {B : Nat} {v : Value} {n : Nat} {xs : List Value} (ho : w.ownsRow B 5 1 v n xs) (h : w.grownBy w' v.ownBlock) : Keeps w w' := by
  intro K _ e hn
  refine (h.block K (Array.getElem?_eq_some_iff.1 e).1 ?_).trans e
  intro hk
  rcases ho.2 with ⟨rfl, _⟩ | ⟨g, cap, cur, rfl, hg, hh, r⟩
  · cases hk
  · simp only [Value.ownBlock, Option.some.injEq] at hk
    rw [← hk, e] at hh
    exact hn _ _ (Option.some.inj hh)
theorem Keeps.alloc (w : World) (o : Obj) : Keeps w (w.alloc o) := .below ((Below.refl _ _).alloc (Nat.le_refl _) o)
theorem shift_big (S : Nat) (i : Nat) (hi : i < S) (hS : S ≤ 4) (w : World) :
    Calls Try.prog 93 #[.agg #[.int .i64 S, .bool false], .int .i64 i] w fun e w' => e = .returned (.int .i64 (8 * (S - 1 - i : Nat))) ∧ Below w.heap.size w w' := by
  go_enter Try.func93, Try.ntmps93
  go_wp2
  go_ret
  exact ⟨by go_num, (Below.refl _ _).alloc (Nat.le_refl _) _⟩
theorem shift_little (S : Nat) (i : Nat) (hi : i < S) (hS : S ≤ 4) (w : World) :
    Calls Try.prog 93 #[.agg #[.int .i64 S, .bool true], .int .i64 i] w fun e w' => e = .returned (.int .i64 (8 * (i : Nat))) ∧ Below w.heap.size w w' := by
  go_enter Try.func93, Try.ntmps93
  go_wp2
  go_ret
  exact ⟨by go_num, (Below.refl _ _).alloc (Nat.le_refl _) _⟩
/-- Which byte of a number is laid at the i-th place. -/
def shiftI (b : Bool) (S i : Nat) : Nat := if b then i else S - 1 - i
theorem shift_any (b : Bool) (S : Nat) (i : Nat) (hi : i < S) (hS : S ≤ 4) (w : World) :
    Calls Try.prog 93 #[.agg #[.int .i64 S, .bool b], .int .i64 i] w fun e w' => e = .returned (.int .i64 (8 * (shiftI b S i : Nat))) ∧ Below w.heap.size w w' := by
  cases b
  · exact shift_big S i hi hS w
  · exact shift_little S i hi hS w
theorem unitL_take (S : Nat) (hS : S = 2 ∨ S = 4) (b : Bool) (n : Int) (k : Nat) (hk : k < S) : (unitL S b n).take (k + 1) = (unitL S b n).take k ++ [byteAt n (shiftI b S k)] := by
  rcases hS with rfl | rfl <;> cases b
  · match k, hk with
    | 0, _ => rfl
    | 1, _ => rfl
  · match k, hk with
    | 0, _ => rfl
    | 1, _ => rfl
  · match k, hk with
    | 0, _ => rfl
    | 1, _ => rfl
    | 2, _ => rfl
    | 3, _ => rfl
  · match k, hk with
    | 0, _ => rfl
    | 1, _ => rfl
    | 2, _ => rfl
    | 3, _ => rfl
theorem box_cells {w : World} {X : Nat} {u v : Value} {t : TypeId} (h : w.heap[X]? = some (.cells #[u, v] t)) : w.cell? ⟨X, 0, none⟩ = some u ∧ w.cell? ⟨X, 1, none⟩ = some v := by
  constructor <;> simp [World.cell?, h]
theorem notRow80 (cs : Array Value) (t : TypeId) (ht : t ≠ 5) : NotRow (.cells cs t) := by
  intro cs' fz e
  injection e with _ e2
  exact ht e2
/-- One byte more. -/
theorem lay_step {B : Nat} {w wr w2 w3 : World} {s v' : Value} {M : List Int} {x : Int} {o : Obj} (hB : B ≤ w.heap.size) (hb : Below B w wr) (hk : Keeps w wr) (hb2 : Below wr.heap.size wr w2)
    (ho2 : w2.ownsRow B 5 1 s M.length (M.map (Value.int .u8))) (ho3 : w3.ownsRow B 5 1 v' (M.length + 1) (M.map (Value.int .u8) ++ [.int .u8 x])) (hg : (w2.alloc o).grownBy w3 s.ownBlock) :
    w3.ownsRow B 5 1 v' (M ++ [x]).length ((M ++ [x]).map (Value.int .u8)) ∧ Below B w w3 ∧ Keeps w w3 := by
  have hwr := hb.size
  have hw2 := hb2.size
  refine ⟨?_, ?_, ?_⟩
  · rw [List.length_append, List.map_append]; exact ho3
  · exact ((hb.trans (hb2.mono (by omega))).alloc (by omega) o).grown hg (by simp; omega) (fun j hj => (ho2.lt j hj).1)
  · exact hk.trans ((Keeps.below hb2).trans ((Keeps.alloc w2 o).trans (Keeps.grown (owned_alloc ho2 o) hg)))
set_option maxHeartbeats 1000000 in
theorem layUnit_any (B : Nat) (v : Value) (L : List Int) (S : Nat) (hS : S = 2 ∨ S = 4) (b : Bool) (n : Int) (w : World) (hown : w.ownsRow B 5 1 v L.length (L.map (Value.int .u8))) (hlen : L.length ≤ 1000000) (hB : B ≤ w.heap.size) :
    Calls Try.prog 97 #[.agg #[.int .i64 S, .bool b], v, .int .i64 n] w fun e w' => ∃ v', e = .returned v' ∧ w'.ownsRow B 5 1 v' (L ++ unitL S b n).length ((L ++ unitL S b n).map (Value.int .u8)) ∧ Below B w w' ∧ Keeps w w' := by
  obtain ⟨i0, hi, hz0, hz1, hz2⟩ := info_parts info5
  have HS := hide hS
  have hS4 : S ≤ 4 := by omega
  have hul := unitL_len S b n
  clear hS
  have HO0 : Hid ((w.alloc (.cells #[.int .i64 S, .bool b] 80)).ownsRow B 5 1 v (L ++ (unitL S b n).take 0).length ((L ++ (unitL S b n).take 0).map (Value.int .u8))) := hide (by rw [List.take_zero, List.append_nil]; exact owned_alloc hown _)
  have HB0 : Hid (Below B w (w.alloc (.cells #[.int .i64 S, .bool b] 80))) := hide ((Below.refl _ _).alloc hB _)
  have HK0 : Hid (Keeps w (w.alloc (.cells #[.int .i64 S, .bool b] 80))) := hide (Keeps.alloc _ _)
  have HX0 : Hid ((w.alloc (.cells #[.int .i64 S, .bool b] 80)).heap[w.heap.size]? = some (.cells #[.int .i64 S, .bool b] 80)) := hide (heap_alloc_new _ _)
  clear hown
  go_enter Try.func97, Try.ntmps97
  go_wp2
  go_loopw [1, 10] (fun s i wr => ∃ k : Nat, k ≤ S ∧ i = .int .i64 k ∧ Hid (wr.ownsRow B 5 1 s (L ++ (unitL S b n).take k).length ((L ++ (unitL S b n).take k).map (Value.int .u8))) ∧ Hid (Below B w wr) ∧ Hid (Keeps w wr) ∧ Hid (wr.heap[w.heap.size]? = some (.cells #[.int .i64 S, .bool b] 80))) (fun _ i _ => S - (intOf i).toNat)
  case atStart => exact ⟨0, Nat.zero_le _, rfl, HO0, HB0, HK0, HX0⟩
  case round =>
    obtain ⟨k, hk, rfl, HO, HB, HK, HX⟩ := hrel
    clear HO0 HB0 HK0 HX0
    by_cases hlt : k < S
    · obtain ⟨c0, c1⟩ := box_cells (unhide HX)
      have HT := hide (unitL_take S (unhide HS) b n k hlt)
      have hMl : (L ++ (unitL S b n).take k).length ≤ 1000004 := by simp; omega
      have HE : Hid (L ++ (unitL S b n).take (k + 1) = (L ++ (unitL S b n).take k) ++ [byteAt n (shiftI b S k)]) := hide (by rw [unhide HT, List.append_assoc])
      generalize L ++ (unitL S b n).take k = M at *
      have hj : shiftI b S k ≤ 3 := by unfold shiftI; split <;> omega
      obtain ⟨j, hjj⟩ : ∃ j, shiftI b S k = j := ⟨_, rfl⟩
      have SH := hide (fun W => shift_any b S k hlt hS4 W)
      rw [hjj] at hj HE SH
      clear hjj
      have hbs := (unhide HB).size
      go_wp2_with fail
      refine ((unhide SH) _).mono ?_
      rintro e w2 ⟨rfl, hb2⟩
      have HB2 := hide hb2
      have hb2s := hb2.size
      have HO2 := hide (ownsRow_below (unhide HO) hb2)
      clear hb2
      go_wp2_with (at_builtin; refine wpList_append_own _ rfl _ _ 22 rfl B 5 i0 (.int .u8 0) 1 1 Try.underlying22 hi hz0 hz1 hz2 rfl (by decide) _ _ _ rfl (owned_alloc (unhide HO2) _) ⟨w2.heap.size, 0, none⟩ 1 1 [.int .u8 (byteAt n j)] rfl rfl ?c1 ?c2 ?c3 ?c4 ?c5 ?_)
      case c1 => exact cell_one_new _ _ _
      case c2 => intro u hu; simp at hu; subst hu; rfl
      case c3 => unfold maxLen; omega
      case c4 => omega
      case c5 => simp; omega
      intro v' w3 hown' hgrow _
      have R := hide (lay_step hB (unhide HB) (unhide HK) (unhide HB2) (unhide HO2) hown' hgrow)
      have HX3 : Hid (w3.heap[w.heap.size]? = some (.cells #[.int .i64 S, .bool b] 80)) := hide (((Keeps.below (unhide HB2)).trans ((Keeps.alloc w2 _).trans (Keeps.grown (owned_alloc (unhide HO2) _) hgrow))) _ _ (unhide HX) (notRow80 _ _ (by decide)))
      clear hown' hgrow
      go_wp2
      go_roundw
      case rel => exact ⟨k + 1, by omega, by go_num, hide (by rw [unhide HE]; exact (unhide R).1), hide (unhide R).2.1, hide (unhide R).2.2, HX3⟩
      case measure => simp [intOf]; omega
    · obtain rfl : k = S := by omega
      have HT : Hid ((unitL k b n).take k = unitL k b n) := hide (List.take_of_length_le (by omega))
      go_wp2
      go_ret
      exact ⟨_, rfl, by rw [← unhide HT]; exact unhide HO, unhide HB, unhide HK⟩
end Go.Proofs.Ytiianallpmfcbaa
