/- Rows of texts: two that are alike, marks written and found again. -/
import Derived.Test.YtnmlfgnnhhaeoaaDoorStrA
import Derived.Deep.Cut
namespace Go.Proofs.YtnmlfgnnhhaeoaaDoor
open Go.RowKit
theorem owned_ltS {w : World} {base g : Nat} {e : TypeId} {n cap m : Nat} {xs : List Value} (h : w.ownsRow base e 1 (.slice (some ⟨g, 0, none⟩) n cap) m xs) : g < w.heap.size := (h.lt g rfl).2
theorem str_ne (a : ByteArray) (W : World) : (binOp .neq 9 (.string a) (.string a)).run Tryd.prog W = .ok (.bool false) W := by
  simp [go_sem]
set_option maxHeartbeats 1000000 in
theorem eqStrs_nil (a b : Option Addr) (c d : Nat) (l : List ByteArray) (w : World) (h0 : l.length = 0) :
    Calls Tryd.prog 8 #[.slice a l.length c, .slice b l.length d] w fun e w' => e = .returned (.bool true) ∧ Below w.heap.size w w' := by
  have H0 := hide h0
  clear h0
  have hl : l.length ≤ 1048576 := by rw [unhide H0]; omega
  have hne : ((l.length : Int) != (l.length : Int)) = false := by simp
  go_enter Tryd.func8, Tryd.ntmps8
  go_wp2
  go_loopw [5] (fun i wr => ∃ k : Nat, k ≤ l.length ∧ i = .int .i64 k ∧ Hid (Below w.heap.size w wr)) (fun i _ => l.length - (intOf i).toNat)
  case atStart => exact ⟨0, Nat.zero_le _, rfl, hide (Below.refl _ _)⟩
  case round =>
    obtain ⟨k, hk, rfl, HB⟩ := hrel
    have hge : ¬ k < l.length := by have := unhide H0; omega
    go_wp2
    go_ret
    exact ⟨rfl, unhide HB⟩
set_option maxHeartbeats 1000000 in
theorem eqStrs_at (b1 o1 b2 o2 c d : Nat) (l : List ByteArray) (w : World) (hb1 : b1 < w.heap.size) (hc1 : ∀ i, i < l.length → w.cell? ⟨b1, o1 + i, none⟩ = some (.string (nthS l i)))
    (hb2 : b2 < w.heap.size) (hc2 : ∀ i, i < l.length → w.cell? ⟨b2, o2 + i, none⟩ = some (.string (nthS l i))) (hl : l.length ≤ 1048576) :
    Calls Tryd.prog 8 #[.slice (some ⟨b1, o1, none⟩) l.length c, .slice (some ⟨b2, o2, none⟩) l.length d] w fun e w' => e = .returned (.bool true) ∧ Below w.heap.size w w' := by
  have H1 := hide hc1
  have H2 := hide hc2
  clear hc1 hc2
  have hne : ((l.length : Int) != (l.length : Int)) = false := by simp
  go_enter Tryd.func8, Tryd.ntmps8
  go_wp2
  go_loopw [5] (fun i wr => ∃ k : Nat, k ≤ l.length ∧ i = .int .i64 k ∧ Hid (Below w.heap.size w wr)) (fun i _ => l.length - (intOf i).toNat)
  case atStart => exact ⟨0, Nat.zero_le _, rfl, hide (Below.refl _ _)⟩
  case round =>
    obtain ⟨k, hk, rfl, HB⟩ := hrel
    by_cases hlt : k < l.length
    · have c1 := ((unhide HB).cell (p := ⟨b1, o1 + k, none⟩) hb1).trans ((unhide H1) k hlt)
      have c2 := ((unhide HB).cell (p := ⟨b2, o2 + k, none⟩) hb2).trans ((unhide H2) k hlt)
      generalize nthS l k = x at c1 c2
      have hne2 := str_ne x
      go_wp2
      go_quiet (fail)
      go_wp2
      go_roundw
      case rel => exact ⟨k + 1, by omega, by go_num, hide (bdrew (unhide HB) _)⟩
      case measure => simp [intOf]; omega
    · go_wp2
      go_ret
      exact ⟨rfl, unhide HB⟩
theorem eqStrs (v1 v2 : Value) (l : List ByteArray) (w : World) (h1 : StrsAt w v1 l) (h2 : StrsAt w v2 l) (hl : l.length ≤ 1048576) :
    Calls Tryd.prog 8 #[v1, v2] w fun e w' => e = .returned (.bool true) ∧ Below w.heap.size w w' := by
  obtain ⟨a1, c1, rfl, h1⟩ := h1
  obtain ⟨a2, c2, rfl, h2⟩ := h2
  rcases h1 with h1 | ⟨b1, o1, rfl, hb1, hc1⟩
  · exact eqStrs_nil a1 a2 c1 c2 l w (by rw [h1]; rfl)
  · rcases h2 with h2 | ⟨b2, o2, rfl, hb2, hc2⟩
    · exact eqStrs_nil _ a2 c1 c2 l w (by rw [h2]; rfl)
    · exact eqStrs_at b1 o1 b2 o2 c1 c2 l w hb1 hc1 hb2 hc2 hl
/-- The marks of the places c, c + 1, .. in the first k places of l. -/
def mrkS (l : List ByteArray) (c k : Nat) : List ByteArray := (List.range k).map (fun i => mtx (c + i)) ++ l.drop k
theorem mrkS_zero (l : List ByteArray) (c : Nat) : mrkS l c 0 = l := by simp [mrkS]
theorem mrkS_length (l : List ByteArray) (c k : Nat) (h : k ≤ l.length) : (mrkS l c k).length = l.length := by simp [mrkS]; omega
theorem mrkS_set (l : List ByteArray) (c k : Nat) (h : k < l.length) (f : ByteArray → Value) : ((mrkS l c k).map f).set k (f (mtx (c + k))) = (mrkS l c (k + 1)).map f := by
  rw [← List.map_set]
  congr 1
  unfold mrkS
  have hk : ((List.range k).map (fun i => mtx (c + i))).length = k := by simp
  rw [List.set_append_right _ _ (by omega), hk, Nat.sub_self, List.drop_eq_getElem_cons h, List.set_cons_zero, List.range_succ, List.map_append, List.append_assoc]
  rfl
def seqS (c n : Nat) : List ByteArray := (List.range n).map (fun i => mtx (c + i))
theorem mrkS_all (l : List ByteArray) (c : Nat) : mrkS l c l.length = seqS c l.length := by simp [mrkS, seqS]
theorem seqS_length (c n : Nat) : (seqS c n).length = n := by simp [seqS]
theorem nth_seqS (c n k : Nat) (h : k < n) : nthS (seqS c n) k = mtx (c + k) := by simp [nthS, seqS, List.getD, h]
set_option maxHeartbeats 1000000 in
theorem markS_at (base g cap : Nat) (l : List ByteArray) (c : Nat) (w : World) (hl : l.length ≤ 1048576) (hc0 : 0 < c) (hc1 : c ≤ 1048576) (hbg : base ≤ g) (hbw : base ≤ w.heap.size)
    (h : w.ownsRow base 9 1 (.slice (some ⟨g, 0, none⟩) l.length cap) l.length (l.map Value.string)) :
    Calls Tryd.prog 9 #[.slice (some ⟨g, 0, none⟩) l.length cap, .int .i64 (c : Int)] w fun e w' => e = .returned (.int .i64 ((c : Int) + l.length)) ∧
      w'.ownsRow base 9 1 (.slice (some ⟨g, 0, none⟩) l.length cap) l.length ((seqS c l.length).map Value.string) ∧ Below base w w' := by
  have H := hide h
  clear h
  go_enter Tryd.func9, Tryd.ntmps9
  go_wp2
  go_loopw [1, 5] (fun m i wr => ∃ k : Nat, k ≤ l.length ∧ i = .int .i64 k ∧ m = .int .i64 ((c + k : Nat) : Int) ∧ Hid (wr.ownsRow base 9 1 (.slice (some ⟨g, 0, none⟩) l.length cap) l.length ((mrkS l c k).map Value.string)) ∧ Hid (Below base w wr)) (fun _ i _ => l.length - (intOf i).toNat)
  case atStart => exact ⟨0, Nat.zero_le _, rfl, by simp, hide (by rw [mrkS_zero]; exact unhide H), hide (Below.refl _ _)⟩
  case round =>
    obtain ⟨k, hk, rfl, rfl, HO, HB⟩ := hrel
    clear H
    by_cases hlt : k < l.length
    · have CM := hide (fun W => markText_any (c + k) W (by omega) (by omega))
      have hbr := Nat.le_trans hbw (unhide HB).size
      have HM := hide (mrkS_set l c k hlt Value.string)
      have hlen := hide (mrkS_length l c k hk)
      generalize mtx (c + k) = X at *
      obtain ⟨m, hm⟩ : ∃ m, c + k = m := ⟨_, rfl⟩
      rw [hm] at CM ⊢
      have hm1 : m ≤ 2097152 := by omega
      have HMM := hide hm
      clear hm
      go_wp2_with (go_at_call 19; refine ((unhide CM) _).mono ?_; rintro e w2 ⟨rfl, hb2⟩; have O2 := hide (ownsRow_below (unhide HO) hb2); have B2 := hide ((unhide HB).trans (hb2.mono hbr)); clear hb2; have c2 := (unhide O2).cellAt k (by omega); rw [List.getElem?_eq_getElem (by simp [unhide hlen]; omega)] at c2; have c3 := (unhide O2).frozenAt k)
      have hst := (unhide O2).stored k (.string X)
      rw [unhide HM] at hst
      have HO' := hide hst.1
      have HB' := hide ((unhide B2).setCell (p := ⟨g, k, none⟩) hbg (.string X))
      clear hst
      go_roundw
      case rel => exact ⟨k + 1, by omega, by go_num, by rw [← unhide HMM]; go_num, HO', HB'⟩
      case measure => simp [intOf]; omega
    · obtain rfl : k = l.length := by omega
      go_wp2
      go_ret
      have ho := unhide HO
      rw [mrkS_all] at ho
      exact ⟨by go_num, ho, unhide HB⟩
set_option maxHeartbeats 1000000 in
theorem markS_nil (base : Nat) (a : Option Addr) (cap : Nat) (l : List ByteArray) (c : Int) (w : World) (h0 : l.length = 0)
    (h : w.ownsRow base 9 1 (.slice a l.length cap) l.length (l.map Value.string)) :
    Calls Tryd.prog 9 #[.slice a l.length cap, .int .i64 c] w fun e w' => e = .returned (.int .i64 (c + l.length)) ∧
      w'.ownsRow base 9 1 (.slice a l.length cap) l.length ((seqS c.toNat l.length).map Value.string) ∧ Below base w w' := by
  have H := hide h
  obtain rfl : l = [] := List.length_eq_zero_iff.1 h0
  clear h h0
  go_enter Tryd.func9, Tryd.ntmps9
  go_wp2
  refine wp_loop_rounds 1 ?_
  rw [rounds_succ]
  go_wp2
  go_ret
  exact ⟨by simp, unhide H, Below.refl _ _⟩
theorem markS_any (base : Nat) (v : Value) (l : List ByteArray) (c : Nat) (w : World) (hl : l.length ≤ 1048576) (hc0 : 0 < c) (hc1 : c ≤ 1048576) (hbw : base ≤ w.heap.size) (h : w.ownsRow base 9 1 v l.length (l.map Value.string)) :
    Calls Tryd.prog 9 #[v, .int .i64 (c : Int)] w fun e w' => e = .returned (.int .i64 ((c : Int) + l.length)) ∧ w'.ownsRow base 9 1 v l.length ((seqS c l.length).map Value.string) ∧ Below base w w' := by
  by_cases h0 : l.length = 0
  · obtain ⟨a, cap, rfl⟩ := owned_nil h
    exact markS_nil base a cap l c w h0 h
  · obtain ⟨g, cap, rfl, hg⟩ := owned_slice h (by omega)
    exact markS_at base g cap l c w hl hc0 hc1 hg hbw h
set_option maxRecDepth 100000 in
set_option maxHeartbeats 2000000 in
theorem heldS_at (b off cap n : Nat) (c : Nat) (w : World) (hbs : b < w.heap.size) (hl : n ≤ 1048576) (hc0 : 0 < c) (hc1 : c ≤ 1048576) (hc : ∀ i, i < n → w.cell? ⟨b, off + i, none⟩ = some (.string (mtx (c + i)))) :
    Calls Tryd.prog 10 #[.slice (some ⟨b, off, none⟩) n cap, .int .i64 (c : Int)] w fun e w' => e = .returned (.int .i64 ((c : Int) + n)) ∧ Below w.heap.size w w' := by
  have HC := hide hc
  clear hc
  go_enter Tryd.func10, Tryd.ntmps10
  go_wp2
  go_loopw [1, 5] (fun m i wr => ∃ k : Nat, k ≤ n ∧ i = .int .i64 k ∧ m = .int .i64 ((c + k : Nat) : Int) ∧ Hid (Below w.heap.size w wr)) (fun _ i _ => n - (intOf i).toNat)
  case atStart => exact ⟨0, Nat.zero_le _, rfl, by simp, hide (Below.refl _ _)⟩
  case round =>
    obtain ⟨k, hk, rfl, rfl, HB⟩ := hrel
    by_cases hlt : k < n
    · have c1 := ((unhide HB).cell (p := ⟨b, off + k, none⟩) hbs).trans ((unhide HC) k hlt)
      have CM := hide (fun W => markText_any (c + k) W (by omega) (by omega))
      have hbr := (unhide HB).size
      generalize mtx (c + k) = X at *
      have hne := str_ne X
      obtain ⟨m, hm⟩ : ∃ m, c + k = m := ⟨_, rfl⟩
      rw [hm] at CM ⊢
      have hm1 : m ≤ 2097152 := by omega
      have HMM := hide hm
      clear hm
      go_upto_region 4 with fail
      go_region_law (refine step_call rfl 19 #[.tmp 16] #[3] rfl #[.int .i64 (m : Int)] (by simp [Act.eval, Act.put]) (by kernel_rfl) (((unhide CM) _).mono ?_); rintro e w2 ⟨rfl, hb2⟩; have B2 := hide ((bdrew (unhide HB) 1).trans (hb2.mono hbr)); have k2 : w2.cell? ⟨b, off + k, none⟩ = some (.string X) := (hb2.cell (p := ⟨b, off + k, none⟩) (Nat.lt_of_lt_of_le hbs hbr)).trans c1; clear hb2; refine ⟨_, rfl, ?_⟩)
      all_goals
        go_wp2
        go_roundw
        case rel => exact ⟨k + 1, by omega, by go_num, by rw [← unhide HMM]; go_num, B2⟩
        case measure => simp [intOf]; omega
    · obtain rfl : k = n := by omega
      go_wp2
      go_ret
      exact ⟨by go_num, unhide HB⟩
set_option maxHeartbeats 1000000 in
theorem heldS_nil (a : Option Addr) (cap : Nat) (c : Int) (w : World) :
    Calls Tryd.prog 10 #[.slice a 0 cap, .int .i64 c] w fun e w' => e = .returned (.int .i64 c) ∧ w' = w := by
  go_enter Tryd.func10, Tryd.ntmps10
  go_wp2
  refine wp_loop_rounds 1 ?_
  rw [rounds_succ]
  go_wp2
  go_ret
  exact ⟨rfl, rfl⟩
theorem heldS_any (v : Value) (n c : Nat) (w : World) (hl : n ≤ 1048576) (hc0 : 0 < c) (hc1 : c ≤ 1048576) (h : StrsAt w v (seqS c n)) :
    Calls Tryd.prog 10 #[v, .int .i64 (c : Int)] w fun e w' => e = .returned (.int .i64 ((c : Int) + n)) ∧ Below w.heap.size w w' := by
  obtain ⟨a, cap, hv, h⟩ := h
  rw [seqS_length] at hv h
  subst hv
  rcases h with h | ⟨b, off, rfl, hbs, hc⟩
  · obtain rfl : n = 0 := by have := congrArg List.length h; simpa [seqS] using this
    refine (heldS_nil a cap c w).mono fun e w' ⟨he, hw⟩ => ⟨by rw [he]; simp, by rw [hw]; exact Below.refl _ _⟩
  · exact heldS_at b off cap n c w hbs hl hc0 hc1 (fun i hi => by rw [← nth_seqS c n i hi]; exact hc i hi)
theorem owned_seqS {w : World} {base : Nat} {v : Value} {n c : Nat} (h : w.ownsRow base 9 1 v n ((seqS c n).map Value.string)) : StrsAt w v (seqS c n) := StrsAt.owned h
end Go.Proofs.YtnmlfgnnhhaeoaaDoor
