/- The characters of a text: the program and the specification tell the same pieces. The law of Chars. -/
import Derived.Test.YtdellmjafephiaaDoorChrL
import Derived.Test.YtdellmjafephiaaDoorChsI
namespace Go.Proofs.YtdellmjafephiaaDoor
namespace Chr
open Go.RowKit
theorem steps_up (s : ByteArray) (n j : Nat) : (steps s n).2 ≤ (steps s (n + j)).2 := by
  induction j with
  | zero => exact Nat.le_refl _
  | succ j ih =>
    refine Nat.le_trans ih ?_
    show _ ≤ (if (steps s (n + j)).2 < s.size then _ else steps s (n + j)).2
    split
    · simp
    · exact Nat.le_refl _
theorem ctk_mem (s : ByteArray) (B : List Bool) (k : Nat) : ∀ x ∈ ctk s B k, ∃ m, m < k ∧ x = ((steps s m).2 : Int) := by
  induction k with
  | zero => intro x hx; cases hx
  | succ k ih =>
    intro x hx
    unfold ctk at hx
    rw [List.mem_append] at hx
    rcases hx with hx | hx
    · obtain ⟨m, hm, e⟩ := ih x hx
      exact ⟨m, by omega, e⟩
    · split at hx
      · exact ⟨k, by omega, by simpa using hx⟩
      · cases hx
theorem ctk_up (s : ByteArray) (B : List Bool) (k : Nat) : (ctk s B k).Pairwise (· ≤ ·) := by
  induction k with
  | zero => exact List.Pairwise.nil
  | succ k ih =>
    unfold ctk
    rw [List.pairwise_append]
    refine ⟨ih, ?_, fun a ha b hb => ?_⟩
    · split
      · simp
      · exact List.Pairwise.nil
    · split at hb
      · obtain ⟨m, hm, rfl⟩ := ctk_mem s B k a ha
        obtain rfl : b = ((steps s k).2 : Int) := by simpa using hb
        have := steps_up s m (k - m)
        rw [show m + (k - m) = k by omega] at this
        omega
      · cases hb
theorem cutsL_mem (s : ByteArray) (B : List Bool) : ∀ x ∈ cutsL s B, ∃ a : Nat, x = (a : Int) ∧ a ≤ s.size := by
  intro x hx
  unfold cutsL at hx
  split at hx
  · cases hx
  · rw [List.mem_append] at hx
    rcases hx with hx | hx
    · obtain ⟨m, _, rfl⟩ := ctk_mem s B _ x hx
      exact ⟨_, rfl, (steps_le s m).1⟩
    · exact ⟨s.size, by simpa using hx, Nat.le_refl _⟩
theorem cutsL_up (s : ByteArray) (B : List Bool) : (cutsL s B).Pairwise (· ≤ ·) := by
  unfold cutsL
  split
  · exact List.Pairwise.nil
  · rw [List.pairwise_append]
    refine ⟨ctk_up s B _, by simp, fun a ha b hb => ?_⟩
    obtain ⟨m, _, rfl⟩ := ctk_mem s B _ a ha
    obtain rfl : b = (s.size : Int) := by simpa using hb
    have := (steps_le s m).1
    omega
theorem cuts_of {s : ByteArray} {C : List Int} (h1 : ∀ x ∈ C, ∃ a : Nat, x = (a : Int) ∧ a ≤ s.size) (h2 : C.Pairwise (· ≤ ·)) : Cuts s C := by
  intro i hi
  have e1 : nth C i = C[i]'(by omega) := by simp [nth, List.getD, show i < C.length by omega]
  have e2 : nth C (i + 1) = C[i + 1] := by simp [nth, List.getD, hi]
  obtain ⟨a, ha, _⟩ := h1 _ (List.getElem_mem (show i < C.length by omega))
  obtain ⟨b, hb, hbs⟩ := h1 _ (List.getElem_mem hi)
  have := List.pairwise_iff_getElem.1 h2 i (i + 1) (by omega) hi (by omega)
  exact ⟨a, b, by rw [e1, ha], by rw [e2, hb], by rw [ha, hb] at this; omega, hbs⟩
theorem cutsOut_ok (s : ByteArray) : Cuts s (cutsOut s) := by
  unfold cutsOut
  split
  · intro i hi; simp at hi
  · exact cuts_of (cutsL_mem s _) (cutsL_up s _)
/-- The characters. -/
def charsOut (s : ByteArray) : List ByteArray := pieces s (cutsOut s)
theorem charsOut_le (s : ByteArray) : (charsOut s).length ≤ 65536 := by
  unfold charsOut
  rw [pieces_len]
  have := cutsOut_le s
  omega
theorem owns_lower {w : World} {B B2 n : Nat} {e : TypeId} {v : Value} {xs : List Value} (h : w.ownsRow B2 e 1 v n xs) (hb : B ≤ B2) : w.ownsRow B e 1 v n xs := by
  refine ⟨h.1, ?_⟩
  rcases h.2 with h' | ⟨g, cap, cur, hv, hg, r⟩
  · exact .inl h'
  · exact .inr ⟨g, cap, cur, hv, Nat.le_trans hb hg, r⟩
theorem nil_pieces (s : ByteArray) (C : List Int) (v : Value) (w : World) (hv : IntsAt w v C) (h : C = []) (k : FuncId) (hk : k = 47) : Calls Tryd.prog k #[.string s, v] w fun e w' => ∃ v', e = .returned v' ∧ w'.ownsRow w.heap.size 9 1 v' (pieces s C).length ((pieces s C).map Value.string) ∧ Below w.heap.size w w' := by
  subst h hk
  obtain ⟨a, cap, rfl, _⟩ := hv
  go_enter Tryd.func47, Tryd.ntmps47
  go_wp2
  refine wp_loop_rounds 1 ?_
  rw [rounds_succ]
  go_wp2
  go_ret
  exact ⟨_, rfl, World.ownsRow_nil _ _ _ _, Below.refl _ _⟩
theorem nil_piecesS (s : ByteArray) (C : List Int) (v : Value) (w : World) (hv : IntsAt w v C) (h : C = []) (k : FuncId) (hk : k = 51) : Calls Tryd.prog k #[.string s, v] w fun e w' => ∃ v', e = .returned v' ∧ StrsAt w' v' (pieces s C) ∧ Below w.heap.size w w' := by
  subst h hk
  obtain ⟨a, cap, rfl, _⟩ := hv
  go_enter Tryd.func51, Tryd.ntmps51
  go_wp2
  refine wp_loop_rounds 1 ?_
  rw [rounds_succ]
  go_wp2
  go_ret
  exact ⟨_, rfl, ⟨_, _, rfl, .inl rfl⟩, al1 _ _⟩
theorem pieces_i (s : ByteArray) (v : Value) (w : World) (hv : IntsAt w v (cutsOut s)) : Calls Tryd.prog 47 #[.string s, v] w fun e w' => ∃ v', e = .returned v' ∧ w'.ownsRow w.heap.size 9 1 v' (charsOut s).length ((charsOut s).map Value.string) ∧ Below w.heap.size w w' := by
  by_cases hb : 65536 < s.size
  · exact nil_pieces s _ v w hv (by unfold cutsOut; rw [if_pos hb]) _ rfl
  · exact piecesI s _ v w hv (cutsOut_le s) (by omega) (cutsOut_ok s)
theorem pieces_s (s : ByteArray) (v : Value) (w : World) (hv : IntsAt w v (cutsOut s)) : Calls Tryd.prog 51 #[.string s, v] w fun e w' => ∃ v', e = .returned v' ∧ StrsAt w' v' (charsOut s) ∧ Below w.heap.size w w' := by
  by_cases hb : 65536 < s.size
  · exact nil_piecesS s _ v w hv (by unfold cutsOut; rw [if_pos hb]) _ rfl
  · exact piecesS s _ v w hv (cutsOut_le s) (cutsOut_ok s)
set_option maxRecDepth 100000 in
theorem implChars (s : ByteArray) (w : World) (ht : TabAt w) (hs : s.size ≤ 1048576) : Calls Tryd.prog 12 #[.string s] w fun e w' =>
    ∃ v, e = .returned v ∧ w'.ownsRow w.heap.size 9 1 v (charsOut s).length ((charsOut s).map Value.string) ∧ Below w.heap.size w w' := by
  have HT := hide ht
  clear ht
  have CC := hide (fun W h => implCharCuts s W h hs)
  have CP := hide (fun v W h => pieces_i s v W h)
  generalize charsOut s = R at *
  go_enter Tryd.func12, Tryd.ntmps12
  go_wp2_with (first
    | (go_at_call 13; refine ((unhide CC) _ (unhide HT)).mono ?_; rintro e w1 ⟨v1, rfl, ho1, hb1⟩; have O1 := hide ho1; have B1 := hide hb1; clear ho1 hb1)
    | (go_at_call 47; refine ((unhide CP) _ _ (IntsAt.owned (unhide O1))).mono ?_; rintro e w2 ⟨v2, rfl, ho2, hb2⟩; have O2 := hide (owns_lower ho2 (unhide B1).size); have B2 := hide (join2 (unhide B1) hb2); clear ho2 hb2))
  go_ret
  exact ⟨_, rfl, unhide O2, unhide B2⟩
set_option maxRecDepth 100000 in
theorem specChars (s : ByteArray) (w : World) (hs : s.size ≤ 1048576) : Calls Tryd.prog 15 #[.string s] w fun e w' =>
    ∃ v, e = .returned v ∧ StrsAt w' v (charsOut s) ∧ Below w.heap.size w w' := by
  have CC := hide (fun W => specCharCuts s W hs)
  have CP := hide (fun v W h => pieces_s s v W h)
  generalize charsOut s = R at *
  go_enter Tryd.func15, Tryd.ntmps15
  go_wp2_with (first
    | (go_at_call 17; refine ((unhide CC) _).mono ?_; rintro e w1 ⟨v1, rfl, ho1, hb1⟩; have O1 := hide ho1; have B1 := hide hb1; clear ho1 hb1)
    | (go_at_call 51; refine ((unhide CP) _ _ (unhide O1)).mono ?_; rintro e w2 ⟨v2, rfl, ho2, hb2⟩; have O2 := hide ho2; have B2 := hide (join2 (unhide B1) hb2); clear ho2 hb2))
  go_ret
  exact ⟨_, rfl, unhide O2, unhide B2⟩
set_option maxRecDepth 100000 in
set_option maxHeartbeats 1000000 in
theorem lawChars (s : ByteArray) (w : World) (ht : TabAt w) : Calls Tryd.prog 4 #[.string s] w fun e w' => e = .returned (.bool true) ∧ Below w.heap.size w w' := by
  by_cases hs : 1048576 < s.size
  · go_enter Tryd.func4, Tryd.ntmps4
    go_wp2
    go_ret
    exact ⟨rfl, Below.refl _ _⟩
  · obtain ⟨L, hL⟩ : ∃ L, charsOut s = L := ⟨_, rfl⟩
    have HT := hide ht
    clear ht
    have hn := charsOut_le s
    rw [hL] at hn
    have HS : Hid (s.size ≤ 1048576) := hide (by omega)
    have spec := fun W => specChars s W (unhide HS)
    have impl := fun W (h : TabAt W) => implChars s W h (unhide HS)
    rw [hL] at spec impl
    have SP := hide spec
    have IM := hide impl
    clear spec impl hL
    have hm : (((1 : Nat) : Int) + (L.length : Int) != ((1 : Nat) : Int) + (L.length : Int)) = false := by simp
    have hm2 : (1 + (L.length : Int) != 1 + (L.length : Int)) = false := by simp
    have h0 : ¬ (1 + (L.length : Int) < 0) := by omega
    go_enter Tryd.func4, Tryd.ntmps4
    go_wp2_with fail
    refine ((unhide SP) _).mono ?_
    rintro e w1 ⟨v0, rfl, ho0, hb1⟩
    have HO0 := hide ho0
    have HD := hide hb1
    clear ho0 hb1
    go_wp2_with fail
    refine ((unhide IM) _ ((unhide HT).below (unhide HD))).mono ?_
    rintro e w2 ⟨g, rfl, ho2, hb2⟩
    have HG2 := hide ho2
    have C2 := hide hb2
    clear ho2 hb2
    go_wp2_with fail
    refine (eqStrs _ _ L _ (StrsAt.owned (unhide HG2)) ((unhide HO0).below (unhide C2)) (by omega)).mono ?_
    rintro e w3 ⟨rfl, hb3⟩
    have HG3 := hide (ownsRow_below (unhide HG2) hb3)
    have C3 := hide ((unhide C2).trans (hb3.mono (unhide C2).size))
    clear hb3 HG2 C2
    go_wp2_with fail
    refine (markS_any w1.heap.size g L 1 _ (by omega) (by omega) (by omega) (unhide C3).size (unhide HG3)).mono ?_
    rintro e w4 ⟨rfl, ho4, hb4⟩
    have HG4 := hide ho4
    have C4 := hide ((unhide C3).trans hb4)
    clear ho4 hb4 HG3 C3
    go_wp2_with fail
    refine (heldS_any g L.length 1 _ (by omega) (by omega) (by omega) (owned_seqS (unhide HG4))).mono ?_
    rintro e w4' ⟨rfl, hb4'⟩
    have HG4' := hide (ownsRow_below (unhide HG4) hb4')
    have C4' := hide ((unhide C4).trans (hb4'.mono (unhide C4).size))
    clear hb4' HG4 C4
    go_wp2_with fail
    refine ((unhide IM) _ (((unhide HT).below (unhide HD)).below (unhide C4'))).mono ?_
    rintro e w5 ⟨h, rfl, ho5, hb5⟩
    have HH5 := hide ho5
    have HG5 := hide (ownsRow_below (unhide HG4') hb5)
    have C5 := hide ((unhide C4').trans (hb5.mono (unhide C4').size))
    clear ho5 hb5 HG4' C4'
    go_wp2_with fail
    refine (eqStrs _ _ L _ (StrsAt.owned (unhide HH5)) ((unhide HO0).below (unhide C5)) (by omega)).mono ?_
    rintro e w6 ⟨rfl, hb6⟩
    have HG6 := hide (ownsRow_below (unhide HG5) hb6)
    have C6 := hide ((unhide C5).trans (hb6.mono (unhide C5).size))
    clear hb6 HG5 C5 HH5
    go_wp2_with fail
    refine (heldS_any g L.length 1 _ (by omega) (by omega) (by omega) (owned_seqS (unhide HG6))).mono ?_
    rintro e w6' ⟨rfl, hb6'⟩
    have C7 := hide ((unhide C6).trans (hb6'.mono (unhide C6).size))
    clear hb6'
    go_wp2
    go_ret
    exact ⟨rfl, (unhide HD).trans ((unhide C7).mono (unhide HD).size)⟩
end Chr
end Go.Proofs.YtdellmjafephiaaDoor
