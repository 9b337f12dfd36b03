/- The pieces of a text between cuts, as the program and the specification tell them. -/
import Derived.Test.YtbaedapnikhdgaaGreatDoorSA
import Derived.Test.YtbaedapnikhdgaaGreatDoorCloS
import Derived.Test.YtbaedapnikhdgaaGreatDoorAppG
import Derived.Deep.Cut
import Derived.Maps.AppendAt
namespace Go.Proofs.YtbaedapnikhdgaaGreatDoor
open Go.RowKit
/-- The first k pieces between cuts. -/
def pcs (s : ByteArray) (C : List Int) (k : Nat) : List ByteArray := (List.range k).map (fun i => s.extract (nth C i).toNat (nth C (i + 1)).toNat)
theorem pcs_len (s : ByteArray) (C : List Int) (k : Nat) : (pcs s C k).length = k := by simp [pcs]
theorem pcs_succ (s : ByteArray) (C : List Int) (k : Nat) : pcs s C (k + 1) = pcs s C k ++ [s.extract (nth C k).toNat (nth C (k + 1)).toNat] := by simp [pcs, List.range_succ]
def pieces (s : ByteArray) (C : List Int) : List ByteArray := pcs s C (C.length - 1)
theorem pieces_len (s : ByteArray) (C : List Int) : (pieces s C).length = C.length - 1 := pcs_len _ _ _
/-- Places of a text, one not below the one ahead of it. -/
def Cuts (s : ByteArray) (C : List Int) : Prop := ∀ i, i + 1 < C.length → ∃ a b : Nat, nth C i = (a : Int) ∧ nth C (i + 1) = (b : Int) ∧ a ≤ b ∧ b ≤ s.size
theorem ownG_below {w w' : World} {base : Nat} {e : TypeId} {v : Value} {n : Nat} {xs : List Value} (h : w.ownsRow base e 1 v n xs) (hb : Below w.heap.size w w') : w'.ownsRow base e 1 v n xs := ownsRow_below h hb
theorem ownG_alloc {w : World} {base : Nat} {e : TypeId} {v : Value} {n : Nat} {xs : List Value} (h : w.ownsRow base e 1 v n xs) (o : Obj) : (w.alloc o).ownsRow base e 1 v n xs := ownsRow_below h (al1 w o)
theorem ownG_drew {w : World} {base : Nat} {e : TypeId} {v : Value} {n : Nat} {xs : List Value} (h : w.ownsRow base e 1 v n xs) (m : Nat) : (w.drewN m).ownsRow base e 1 v n xs := h
theorem ints_at {w : World} {v : Value} {L : List Int} (h : IntsAt w v L) (hl : 0 < L.length) : ∃ b off cap, v = .slice (some ⟨b, off, none⟩) L.length cap ∧ b < w.heap.size ∧ ∀ i, i < L.length → w.cell? ⟨b, off + i, none⟩ = some (.int .i64 (nth L i)) := by
  obtain ⟨a, cap, rfl, h⟩ := h
  rcases h with h | ⟨b, off, rfl, hbs, hc⟩
  · rw [h] at hl; simp at hl
  · exact ⟨b, off, cap, rfl, hbs, hc⟩
theorem wrapN (k : Nat) (h : k ≤ 9223372036854775807) : IntKind.i64.wrap (k : Int) = (k : Int) := by
  simp [IntKind.wrap, IntKind.bits, IntKind.signed]
  omega
set_option maxRecDepth 100000 in
set_option maxHeartbeats 4000000 in
theorem piecesS (s : ByteArray) (C : List Int) (v : Value) (w : World) (hv : IntsAt w v C) (hC : C.length ≤ 65537) (hm : Cuts s C) :
    Calls Tryz.prog 31 #[.string s, v] w fun e w' => ∃ v', e = .returned v' ∧ StrsAt w' v' (pieces s C) ∧ Below w.heap.size w w' := by
  obtain ⟨i0, hi, hz0, hz1, hz2⟩ := info_parts info9
  have HV := hide hv
  have HM := hide hm
  obtain ⟨a0, cap0, rfl, _⟩ := hv
  clear hm
  have HO0 : Hid ((w.alloc (.cells #[] 9)).ownsRow w.heap.size 9 1 (.slice (some ⟨w.heap.size, 0, none⟩) 0 0) 0 ((pcs s C 0).map Value.string)) := hide (World.ownsRow_lit w #[] 0 (Nat.le_refl _) (by unfold maxLen; omega) rfl)
  go_enter Tryz.func31, Tryz.ntmps31
  go_wp2
  go_loopw [5, 6] (fun v' x wr => ∃ k : Nat, x = .int .i64 (k : Int) ∧ k ≤ C.length - 1 ∧ Hid (wr.ownsRow w.heap.size 9 1 v' k ((pcs s C k).map Value.string)) ∧ Hid (Below w.heap.size w wr)) (fun _ x _ => C.length - (intOf x).toNat)
  case atStart => exact ⟨0, rfl, by omega, HO0, hide (al1 _ _)⟩
  case round =>
    obtain ⟨k, rfl, hk, HO, HB⟩ := hrel
    clear HO0
    have hBs := (unhide HB).size
    by_cases hlt : k + 1 < C.length
    · obtain ⟨b, off, cp, he, hbw, hc⟩ := ints_at (unhide HV) (by omega)
      cases he
      have k1 := ((unhide HB).cell (p := ⟨b, off + k, none⟩) hbw).trans (hc k (by omega))
      have k2 := ((unhide HB).cell (p := ⟨b, off + (k + 1), none⟩) hbw).trans (hc (k + 1) hlt)
      obtain ⟨x, y, hx, hy, hxy, hys⟩ := (unhide HM) k hlt
      have HS := hide (pcs_succ s C k)
      rw [hx, hy, Int.toNat_natCast, Int.toNat_natCast] at HS
      rw [hx] at k1
      rw [hy] at k2
      have h1 : (x : Int) ≤ (y : Int) := by omega
      have h2 : (y : Int) ≤ (s.size : Int) := by omega
      obtain ⟨k', hk'⟩ : ∃ k', k + 1 = k' := ⟨_, rfl⟩
      have hkk : (k : Int) + 1 = (k' : Int) := by omega
      rw [hk'] at k2
      have hlt' : (k' : Int) < (C.length : Int) := by omega
      have hlt2 : (k : Int) < (C.length : Int) := by omega
      have HKK := hide hk'
      have hw1 : IntKind.i64.wrap (k' : Int) = (k' : Int) := wrapN k' (by omega)
      clear hc hx hy hk'
      go_upto_region 5 with fail
      go_region_law (refine step_append_own rfl (.tmp 15) (.tmp 27) 57 rfl w.heap.size 9 i0 (.string ⟨#[]⟩) 1 16 Tryz.underlying57 hi hz0 hz1 hz2 rfl (by decide) u5 k ((pcs s C k).map Value.string) (by simp [Act.eval]) (ownG_alloc (ownG_drew (unhide HO) 1) _) ⟨wr.heap.size, 0, none⟩ 1 1 [.string (s.extract x y)] (by simp [Act.eval]) (by simp) (cell_one_new _ _ _) (by intro u hu; simp at hu; subst hu; rfl) (by unfold maxLen; omega) (by omega) (by simp; omega) ?_; intro v' w3 hown' hgrow)
      all_goals
        have O3 : Hid (w3.ownsRow w.heap.size 9 1 v' (k + 1) ((pcs s C (k + 1)).map Value.string)) := hide (by rw [unhide HS, List.map_append]; exact hown')
        have B3 : Hid (Below w.heap.size w w3) := hide (((bdrew (unhide HB) 1).alloc hBs _).grown hgrow (by simp; omega) (fun m hm => ((unhide HO).lt m hm).1))
        clear hown' hgrow
        go_wp2
        go_roundw
        case rel => exact ⟨k + 1, by go_num, by omega, O3, B3⟩
        case measure => simp [intOf]; omega
    · have hkk : k = C.length - 1 := by omega
      have hge : ¬ (k : Int) + 1 < (C.length : Int) := by omega
      have HR : Hid (pieces s C = pcs s C k) := hide (by unfold pieces; rw [hkk])
      clear hkk
      go_wp2
      go_ret
      exact ⟨_, rfl, by rw [unhide HR]; exact StrsAt.owned (unhide HO), unhide HB⟩
end Go.Proofs.YtbaedapnikhdgaaGreatDoor
