/- A letter's number; digits raised by others. -/
import Derived.Test.YtgmpkapeemiecaaHypT
namespace Go.Proofs.Ytgmpkapeemiecaa
namespace Hyp
open Go.RowKit
set_option linter.unusedVariables false
set_option linter.unusedSimpArgs false
def kd (c : Int) : Nat := if c = 46 then 0 else (c - 96).toNat
theorem kd_lt {c : Int} (h : ltr c) : kd c < 27 := by
  unfold ltr at h
  unfold kd
  split <;> omega
set_option maxRecDepth 100000 in
theorem kindH (c : Int) (h : ltr c) (w : World) : Calls Try.prog 39 #[.int .u8 c] w fun e w' => e = .returned (.int .i64 (kd c : Int)) ∧ w' = w := by
  have hdot : ∀ h, (((({ data := #[46] } : ByteArray)[0]'h).toNat : Nat) : Int) = 46 := fun _ => rfl
  have HE : Hid ((kd c : Int) = if c = 46 then 0 else c - 96) := hide (by
    unfold ltr at h
    unfold kd
    split <;> omega)
  by_cases e : c = 46
  · subst e
    go_enter Try.func39, Try.ntmps39
    go_wp2
    go_ret
    exact ⟨by rw [unhide HE]; rfl, rfl⟩
  · have t : (c == 46) = false := by simpa using e
    have hc : 97 ≤ c ∧ c ≤ 122 := by unfold ltr at h; omega
    obtain ⟨c1, c2⟩ := hc
    have hw8 : IntKind.u8.wrap (c - 97) = c - 97 := by simp [IntKind.wrap, IntKind.bits, IntKind.signed]; omega
    rw [if_neg e] at HE
    clear e h
    go_enter Try.func39, Try.ntmps39
    go_wp2
    go_ret
    refine ⟨?_, rfl⟩
    rw [unhide HE]
    show Ending.returned (.int .i64 (c - 97 + 1)) = _
    congr 2
    omega
/-- Digits raised, the first k of them. -/
def rsk (L : List Int) (off : Nat) (O : List Int) : Nat → List Int
  | 0 => L
  | k + 1 => (rsk L off O k).set (off + k) (max ((rsk L off O k).getD (off + k) 0) (O.getD k 0))
theorem rsk_len (L : List Int) (off : Nat) (O : List Int) (k : Nat) : (rsk L off O k).length = L.length := by
  induction k with
  | zero => rfl
  | succ k ih => rw [rsk, List.length_set, ih]
theorem u8s_set (L : List Int) (i : Nat) (x : Int) : (u8s L).toArray.setIfInBounds i (.int .u8 x) = (u8s (L.set i x)).toArray := by
  simp [u8s, List.map_set]
theorem row_cell {w : World} {g : Nat} {L : List Int} (h : w.heap[g]? = some (.cells (u8s L).toArray 5 (0, 0))) (i : Nat) (hi : i < L.length) : w.cell? ⟨g, i, none⟩ = some (.int .u8 (L.getD i 0)) := by
  simp [World.cell?, h, u8s, List.getD_eq_getElem?_getD, hi]
set_option maxRecDepth 100000 in
set_option maxHeartbeats 4000000 in
theorem raiseH (g off n cap h oo oc : Nat) (L O : List Int) (w : World) (hL : w.heap[g]? = some (.cells (u8s L).toArray 5 (0, 0))) (hO : ∀ i, i < O.length → w.cell? ⟨h, oo + i, none⟩ = some (.int .u8 (O.getD i 0))) (hgh : h ≠ g) (hh : h < w.heap.size)
    (hn : off + n ≤ L.length) (hm : O.length ≤ n) (hl : L.length ≤ 1048576) :
    Calls Try.prog 40 #[.slice (some ⟨g, off, none⟩) n cap, .slice (some ⟨h, oo, none⟩) O.length oc] w fun e w' => (∃ v, e = .returned v) ∧ w'.heap[g]? = some (.cells (u8s (rsk L off O O.length)).toArray 5 (0, 0)) ∧ w.grownBy w' (some g) := by
  have HO := hide hO
  clear hO
  go_enter Try.func40, Try.ntmps40
  go_wp2_with fail
  go_loopw [8] (fun v8 wr => ∃ k : Nat, k ≤ O.length ∧ v8 = .int .i64 (k : Int) ∧ Hid (wr.heap[g]? = some (.cells (u8s (rsk L off O k)).toArray 5 (0, 0))) ∧ Hid (w.grownBy wr (some g))) (fun x _ => O.length - (intOf x).toNat)
  case atStart => exact ⟨0, by omega, rfl, hide hL, hide ⟨rfl, rfl, rfl, Nat.le_refl _, fun _ _ _ => rfl⟩⟩
  case round =>
    obtain ⟨k, hk, rfl, HR, HG⟩ := hrel
    by_cases hlt : k < O.length
    · have hI : (k : Int) < (O.length : Int) := by omega
      have cO := (cell_same ((unhide HG).block h hh (fun e => hgh (by injection e))) (oo + k)).trans ((unhide HO) k hlt)
      have cL := row_cell (unhide HR) (off + k) (by rw [rsk_len]; omega)
      have fL : wr.frozen? ⟨g, off + k, none⟩ = false := by simp [World.frozen?, unhide HR]
      have R2 := hide (setG_heap (unhide HR) (off + k) (.int .u8 (max ((rsk L off O k).getD (off + k) 0) (O.getD k 0))))
      have G2 : Hid (w.grownBy (wr.setCell ⟨g, off + k, none⟩ (.int .u8 (max ((rsk L off O k).getD (off + k) 0) (O.getD k 0)))) (some g)) := hide (by
        have h0 := unhide HG
        exact ⟨h0.os, h0.tape, h0.output, by have := h0.size; simpa using this, fun j hj e => (Below.heap_setCell _ _ _ _ (fun c => e (by rw [c]))).trans (h0.block j hj e)⟩)
      rw [u8s_set] at R2
      have HX : Hid (rsk L off O (k + 1) = (rsk L off O k).set (off + k) (max ((rsk L off O k).getD (off + k) 0) (O.getD k 0))) := hide rfl
      rw [← unhide HX] at R2
      generalize (rsk L off O k).getD (off + k) 0 = a at *
      generalize O.getD k 0 = b at *
      clear HX HR HG
      go_wp2_with fail
      exact ⟨⟨k + 1, by omega, by go_num, R2, G2⟩, by simp [intOf]; omega⟩
    · obtain rfl : k = O.length := by omega
      go_wp2_with fail
      refine bodyPost_end (v := .tuple #[]) (by simp [results, Try.f40, go_sem]; try rfl) rfl ⟨⟨_, rfl⟩, unhide HR, unhide HG⟩
end Hyp
end Go.Proofs.Ytgmpkapeemiecaa
