/- Whether words are right, as the program tells it. -/
import Derived.Test.YtjcgchmncgihbaaDoorWfP
import Derived.Test.YtjcgchmncgihbaaDoorStrC
import Derived.Test.YtjcgchmncgihbaaDoorChrC
namespace Go.Proofs.YtjcgchmncgihbaaDoor
namespace Wd
open Go.RowKit
theorem joinB {w w1 w2 : World} (h : Below w.heap.size w w1) (h2 : Below w1.heap.size w1 w2) : Below w.heap.size w w2 := h.trans (h2.mono h.size)
theorem all_no {L : List Int} {p : Int} (hp : p ∈ L) (h : (scr p == 8) = false) : allP L = false := by
  cases e : allP L with
  | false => rfl
  | true => have := List.all_eq_true.1 e p hp; rw [h] at this; cases this
theorem empty_ne {x : ByteArray} (h : 0 < x.size) : x.toList.isEmpty = false := by
  rw [Go.ByteArray.toList_eq]
  cases e : x.data.toList with
  | nil =>
    have : x.size = 0 := by rw [Lib.size_eq, e]; rfl
    omega
  | cons a t => rfl
set_option maxRecDepth 100000 in
set_option maxHeartbeats 2000000 in
theorem wordI (x : ByteArray) (w : World) (ht : TabAt w) (hs : x.size ≤ 1048576) : Calls Tryd.prog 26 #[.string x] w fun e w' => e = .returned (.bool (wrd x)) ∧ Below w.heap.size w w' := by
  rw [wrd_eq]
  by_cases h0 : x.size = 0
  · have hx : x = ⟨#[]⟩ := by
      apply ByteArray.ext
      exact Array.eq_empty_of_size_eq_zero h0
    subst hx
    go_enter Tryd.func26, Tryd.ntmps26
    go_wp2
    go_ret
    exact ⟨rfl, Below.refl _ _⟩
  have hne := empty_ne (show 0 < x.size by omega)
  by_cases h1 : 180 < x.size
  · have HD : Hid ((decide (0 < x.size ∧ x.size ≤ 180) && allP (pts x)) = false) := hide (by rw [decide_eq_false (by omega)]; rfl)
    have h1' : (180 : Int) < (x.size : Int) := by omega
    go_enter Tryd.func26, Tryd.ntmps26
    go_wp2
    go_ret
    exact ⟨by rw [unhide HD]; rfl, Below.refl _ _⟩
  · have HD : Hid ((decide (0 < x.size ∧ x.size ≤ 180) && allP (pts x)) = allP (pts x)) := hide (by rw [decide_eq_true (by omega)]; rfl)
    rw [unhide HD]
    have h1' : ¬ (180 : Int) < (x.size : Int) := by omega
    have HT := hide ht
    clear ht HD
    have HI0 : Hid ((w.iter x 0).heap[w.heap.size]? = some (.stringIter x 0)) := hide (World.iter_heap w x 0)
    have HB0 : Hid (Below w.heap.size w (w.iter x 0)) := hide ((Below.refl _ _).alloc (Nat.le_refl _) _)
    have HAT := hide (at_in x)
    have HNO := hide (fun (p : Int) => @all_no (pts x) p)
    have HEND : Hid (∀ n, x.size ≤ (steps x n).2 → (∀ p ∈ (steps x n).1, (scr p == 8) = true) → allP (pts x) = true) := hide (fun n h1 h2 => by rw [← steps_pts x n h1]; exact List.all_eq_true.2 h2)
    generalize allP (pts x) = D at *
    go_enter Tryd.func26, Tryd.ntmps26
    go_wp2
    go_loopw [] (fun wr => ∃ (n pos : Nat), Hid ((steps x n).2 = pos ∧ ∀ p ∈ (steps x n).1, (scr p == 8) = true) ∧ pos ≤ x.size ∧ Hid (wr.heap[w.heap.size]? = some (.stringIter x pos)) ∧ Hid (Below w.heap.size w wr)) (fun wr => x.size - wr.iterPos w.heap.size)
    case atStart => exact ⟨0, 0, hide ⟨rfl, fun p hp => by cases hp⟩, by omega, HI0, HB0⟩
    case round =>
      obtain ⟨n, pos, HS, hpos, HI, HB⟩ := hrel
      clear HB0 HI0
      have HM := hide (iterPos_of (unhide HI))
      by_cases hlt : pos < x.size
      · have hbd := dN_bd x pos hlt
        have d1 := hbd.1
        have d2 := hbd.2.1
        have hBs := (unhide HB).size
        have hnx : ∀ ty, (Instr.next (.pointer (some ⟨w.heap.size, 0, none⟩)) true ty).run Tryd.prog wr = .ok (.tuple #[.bool true, .int .i64 pos, .int .i32 (dP x pos)]) (wr.iterAt w.heap.size x (pos + dN x pos)) := fun ty => Lib.run_next_any_at wr _ x pos ty (unhide HI) hlt
        obtain ⟨w2, hw2⟩ : ∃ w2, wr.iterAt w.heap.size x (pos + dN x pos) = w2 := ⟨_, rfl⟩
        rw [hw2] at hnx
        have HI2 : Hid (w2.heap[w.heap.size]? = some (.stringIter x (pos + dN x pos))) := hide (by rw [← hw2]; exact Lib.iterAt_heap wr _ x pos _ (unhide HI))
        have HB2 : Hid (Below w.heap.size wr w2) := hide (by rw [← hw2]; exact Lib.below_iterAt (Below.refl _ _) (Nat.le_refl _) _ _)
        have HB3 := hide ((unhide HB).trans (unhide HB2))
        have HT2 := hide ((unhide HT).below (unhide HB3))
        have hsz2 : w.heap.size < w2.heap.size := (Array.getElem?_eq_some_iff.1 (unhide HI2)).1
        obtain ⟨p, hp⟩ : ∃ p : Int, (dP x pos : Int) = p := ⟨_, rfl⟩
        have HIN : Hid (p ∈ pts x) := hide (by rw [← hp, ← (unhide HS).1]; exact (unhide HAT) n (by rw [(unhide HS).1]; exact hlt))
        have HST : Hid ((steps x (n + 1)).2 = pos + dN x pos ∧ (steps x (n + 1)).1 = (steps x n).1 ++ [p]) := hide (by rw [steps_next x n (by rw [(unhide HS).1]; exact hlt), (unhide HS).1, hp]; exact ⟨rfl, rfl⟩)
        rw [hp] at hnx
        have hp32 : 0 ≤ p ∧ p ≤ 1114111 := by have := hbd.2.2; omega
        obtain ⟨p0, p1⟩ := hp32
        have CP := hide (fun W h => isPart_any p W h)
        clear hbd hw2 hp
        cases hc : (scr p == 8)
        · rw [hc] at CP
          have HF : Hid (D = false) := hide ((unhide HNO) p (unhide HIN) hc)
          go_wp2_with (go_at_call 34; refine ((unhide CP) _ (unhide HT2)).mono ?_; rintro e w3 ⟨rfl, hb3⟩; have B3 := hide (joinB (unhide HB3) hb3); clear hb3)
          go_ret
          exact ⟨by rw [unhide HF]; rfl, unhide B3⟩
        · rw [hc] at CP
          have HS2 : Hid ((steps x (n + 1)).2 = pos + dN x pos ∧ ∀ q ∈ (steps x (n + 1)).1, (scr q == 8) = true) := hide ⟨(unhide HST).1, fun q hq => by
            rw [(unhide HST).2, List.mem_append] at hq
            rcases hq with hq | hq
            · exact (unhide HS).2 q hq
            · obtain rfl : q = p := by simpa using hq
              exact hc⟩
          go_wp2_with (go_at_call 34; refine ((unhide CP) _ (unhide HT2)).mono ?_; rintro e w3 ⟨rfl, hb3⟩; have B3 := hide (joinB (unhide HB3) hb3); have I3 := hide ((hb3.block _ hsz2).trans (unhide HI2)); clear hb3)
          have HM3 := hide (iterPos_of (unhide I3))
          go_roundw
          case rel => exact ⟨n + 1, pos + dN x pos, HS2, by omega, I3, B3⟩
          case measure => rw [unhide HM, unhide HM3]; omega
      · have hnx : ∀ ty, (Instr.next (.pointer (some ⟨w.heap.size, 0, none⟩)) true ty).run Tryd.prog wr = .ok (.tuple #[.bool false]) wr := fun ty => Lib.run_next_end_at wr _ x pos ty (unhide HI) hlt
        have HF : Hid (D = true) := hide ((unhide HEND) n (by rw [(unhide HS).1]; omega) (unhide HS).2)
        go_wp2
        go_ret
        exact ⟨by rw [unhide HF]; rfl, unhide HB⟩
set_option maxRecDepth 100000 in
set_option maxHeartbeats 2000000 in
theorem implWF (v : Value) (l : List ByteArray) (w : World) (hv : StrsAt w v l) (hl : l.length ≤ 1048576) (hs : ∀ i, i < l.length → (nthS l i).size ≤ 1048576) (ht : TabAt w) :
    Calls Tryd.prog 15 #[v] w fun e w' => e = .returned (.int .i64 (wfc l)) ∧ Below w.heap.size w w' := by
  have HV := hide hv
  have HS := hide hs
  have HT := hide ht
  obtain ⟨a, cap, rfl, _⟩ := hv
  clear hs ht
  by_cases hb : 1000 < l.length
  · have HR : Hid (wfc l = 1) := hide (by unfold wfc; rw [if_pos hb])
    have hb' : (1000 : Int) < (l.length : Int) := by omega
    go_enter Tryd.func15, Tryd.ntmps15
    go_wp2
    go_ret
    exact ⟨by rw [unhide HR]; rfl, Below.refl _ _⟩
  · have HR1 : Hid (∀ k, k < l.length → wfl l k = false → wfc l = 1) := hide (fun k hk h => by unfold wfc; rw [if_neg hb, if_neg (by rw [wfk_end h hk]; simp)])
    have HR0 : Hid (wfk l l.length = true → wfc l = 0) := hide (fun h => by unfold wfc; rw [if_neg hb, if_pos h])
    have hb' : ¬ (1000 : Int) < (l.length : Int) := by omega
    generalize wfc l = R at *
    go_enter Tryd.func15, Tryd.ntmps15
    go_wp2
    go_loopw [10] (fun x wr => ∃ k : Nat, x = .int .i64 (k : Int) ∧ k ≤ l.length ∧ Hid (wfk l k = true) ∧ Hid (Below w.heap.size w wr)) (fun x _ => l.length - (intOf x).toNat)
    case atStart => exact ⟨0, rfl, by omega, hide rfl, hide (Below.refl _ _)⟩
    case round =>
      obtain ⟨k, rfl, hk, HK, HB⟩ := hrel
      by_cases hlt : k < l.length
      · obtain ⟨b, off, cp, he, hbs, hc⟩ := strs_rd (unhide HV) (by omega)
        cases he
        have c1 := ((unhide HB).cell (p := ⟨b, off + k, none⟩) hbs).trans (hc k hlt)
        have CW := hide (wordI (nthS l k) wr ((unhide HT).below (unhide HB)) ((unhide HS) k hlt))
        have HW : Hid (wfl l k = (wrd (nthS l k) && (k == 0 || lsB (nthS l (k - 1)) (nthS l k)))) := hide rfl
        have hbr := Nat.lt_of_lt_of_le hbs (unhide HB).size
        obtain ⟨y, hy⟩ : ∃ y, nthS l k = y := ⟨_, rfl⟩
        rw [hy] at c1 CW HW
        clear hy
        cases hw : wrd y
        · rw [hw] at CW HW
          have HF : Hid (R = 1) := hide ((unhide HR1) k hlt (by rw [unhide HW]; rfl))
          clear HW
          go_wp2_with (go_at_call 26; refine (unhide CW).mono ?_; rintro e w2 ⟨rfl, hb2⟩; have B2 := hide (joinB (unhide HB) hb2); clear hb2)
          go_ret
          exact ⟨by rw [unhide HF]; rfl, unhide B2⟩
        · rw [hw] at CW HW
          cases k with
          | zero =>
            simp only [Nat.add_zero] at c1
            have HK2 : Hid (wfk l (0 + 1) = true) := hide (by show (wfk l 0 && wfl l 0) = true; rw [unhide HK, unhide HW]; rfl)
            clear HW
            go_wp2_with (go_at_call 26; refine (unhide CW).mono ?_; rintro e w2 ⟨rfl, hb2⟩; have B2 := hide (joinB (unhide HB) hb2); clear hb2)
            go_roundw
            case rel => exact ⟨1, by go_num, by omega, HK2, B2⟩
            case measure => simp [intOf]; omega
          | succ m =>
            have c2 := ((unhide HB).cell (p := ⟨b, off + m, none⟩) hbs).trans (hc m (by omega))
            obtain ⟨z, hz⟩ : ∃ z, nthS l m = z := ⟨_, rfl⟩
            rw [hz] at c2
            have HW2 : Hid (wfl l (m + 1) = lsB z y) := hide (by rw [unhide HW, show m + 1 - 1 = m by omega, hz]; simp)
            have hm1 : ((m + 1 : Nat) : Int) - 1 = (m : Int) := by omega
            have hpos : (0 : Int) < ((m + 1 : Nat) : Int) := by omega
            clear HW hz hc
            cases hq : lsB z y
            · have hgq : Op.bytesLess z.toList y.toList = false := hq
              rw [hq] at HW2
              have HF : Hid (R = 1) := hide ((unhide HR1) (m + 1) hlt (unhide HW2))
              clear HW2
              go_wp2_with (go_at_call 26; refine (unhide CW).mono ?_; rintro e w2 ⟨rfl, hb2⟩; have B2 := hide (joinB (unhide HB) hb2); have k2 := (hb2.cell (p := ⟨b, off + m, none⟩) hbr).trans c2; clear hb2)
              go_ret
              exact ⟨by rw [unhide HF]; rfl, unhide B2⟩
            · have hgq : Op.bytesLess z.toList y.toList = true := hq
              rw [hq] at HW2
              have HK2 : Hid (wfk l (m + 1 + 1) = true) := hide (by show (wfk l (m + 1) && wfl l (m + 1)) = true; rw [unhide HK, unhide HW2]; rfl)
              clear HW2
              go_wp2_with (go_at_call 26; refine (unhide CW).mono ?_; rintro e w2 ⟨rfl, hb2⟩; have B2 := hide (joinB (unhide HB) hb2); have k2 := (hb2.cell (p := ⟨b, off + m, none⟩) hbr).trans c2; clear hb2)
              go_roundw
              case rel => exact ⟨m + 1 + 1, by go_num, by omega, HK2, B2⟩
              case measure => simp [intOf]; omega
      · obtain rfl : k = l.length := by omega
        have HF := hide ((unhide HR0) (unhide HK))
        go_wp2
        go_ret
        exact ⟨by rw [unhide HF]; rfl, unhide HB⟩
end Wd
end Go.Proofs.YtjcgchmncgihbaaDoor
