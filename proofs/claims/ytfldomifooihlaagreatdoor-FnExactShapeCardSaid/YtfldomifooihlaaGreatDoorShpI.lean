/- Forms of points, as the program tells them. -/
import Derived.Test.YtfldomifooihlaaGreatDoorShpP
import Derived.Test.YtfldomifooihlaaGreatDoorHN
namespace Go.Proofs.YtfldomifooihlaaGreatDoor.Shp
open Go.RowKit Chr
set_option linter.unusedVariables false
theorem ownsRow_at {w w' : World} {B : Nat} {e : TypeId} {s : Nat} {v : Value} {n : Nat} {xs : List Value} (h : w.ownsRow B e s v n xs) (hs : ∀ k, v.ownBlock = some k → w'.heap[k]? = w.heap[k]?) : w'.ownsRow B e s v n xs := by
  refine ⟨h.1, ?_⟩
  rcases h.2 with h' | ⟨g, cap, cur, hv, hg, hh, r⟩
  · exact .inl h'
  · exact .inr ⟨g, cap, cur, hv, hg, (hs g (by rw [hv]; rfl)).trans hh, r⟩
theorem grown_refl (w : World) (r : Option Nat) : w.grownBy w r := ⟨rfl, rfl, rfl, Nat.le_refl _, fun _ _ _ => rfl⟩
theorem grown_set {w w' : World} {g j : Nat} {u : Value} (h : w.grownBy w' (some g)) : w.grownBy (w'.setCell ⟨g, j, none⟩ u) (some g) :=
  ⟨h.os, h.tape, h.output, by simp; exact h.size, fun k hk hne => (heap_setCell_other w' ⟨g, j, none⟩ k u (fun e => hne (by rw [e]))).trans (h.block k hk hne)⟩
theorem grown_bel {w w' w'' : World} {r : Option Nat} (h : w.grownBy w' r) (hb : Below w'.heap.size w' w'') : w.grownBy w'' r :=
  ⟨hb.os.trans h.os, hb.tape.trans h.tape, hb.output.trans h.output, Nat.le_trans h.size hb.size, fun k hk hne => (hb.block k (Nat.lt_of_lt_of_le hk h.size)).trans (h.block k hk hne)⟩
theorem infoJ : (Tryz.prog.info? 152).map (fun i => (i.zero, i.size, i.bytes)) = some (some (.agg #[.bool false, .bool false]), 2, 2) := by kernel_rfl
/-- A row of n joints of the call's own, at the block g. -/
def JRow (w : World) (B g n : Nat) (J : List Bool) : Prop := w.ownsRow B 152 2 (.slice (some ⟨g, 0, none⟩) n n) n (J.map Value.bool)
theorem JRow.below {w w' : World} {B g n : Nat} {J : List Bool} (h : JRow w B g n J) (hb : Below w.heap.size w w') : JRow w' B g n J := ownsRow_below h hb
theorem JRow.len {w : World} {B g n : Nat} {J : List Bool} (h : JRow w B g n J) : J.length = n * 2 := by have := h.1; simpa using this
theorem JRow.lt {w : World} {B g n : Nat} {J : List Bool} (h : JRow w B g n J) : B ≤ g ∧ g < w.heap.size := World.ownsRow.lt h g rfl
theorem JRow.cell {w : World} {B g n : Nat} {J : List Bool} (h : JRow w B g n J) (i : Nat) (hi : i < n * 2) : w.cell? ⟨g, i, none⟩ = some (.bool (J.getD i false)) ∧ w.frozen? ⟨g, i, none⟩ = false := by
  refine ⟨?_, World.ownsRow.frozenAt h i⟩
  have e := h.len
  rw [World.ownsRow.cellAt h i (by omega), List.getElem?_map]
  simp [List.getD, e, hi]
theorem JRow.set {w : World} {B g n : Nat} {J : List Bool} (h : JRow w B g n J) (i : Nat) (x : Bool) : JRow (w.setCell ⟨g, i, none⟩ (.bool x)) B g n (J.set i x) := by
  unfold JRow
  rw [List.map_set]
  exact (World.ownsRow.stored h i (.bool x)).1
theorem JRow.keep {w w' : World} {B g n : Nat} {J : List Bool} {r : Option Nat} (h : JRow w B g n J) (hg : w.grownBy w' r) (hne : r ≠ some g) : JRow w' B g n J :=
  ownsRow_at h (fun k hk => hg.block k (World.ownsRow.lt h k hk).2 (fun e => by
    have : g = k := by simpa [Value.ownBlock] using hk
    exact hne (by rw [← e, this])))
theorem made_two (n : Nat) : (madeCells #[Value.bool false, Value.bool false] n).toList = (List.replicate n false).map Value.bool := by
  unfold madeCells
  apply List.ext_getElem
  · simp
  · intro i h1 h2
    simp
    have : i % 2 = 0 ∨ i % 2 = 1 := by omega
    rcases this with e | e <;> rw [e] <;> rfl
/-- Which point the last one is that is not looked past, and how it joins, as the program counts. -/
def lstI (o : Option Nat) : Int := match o with | none => -1 | some l => (l : Int)
def lstJ (L : List Int) (o : Option Nat) : Int := match o with | none => 0 | some l => jns (nth L l)
set_option maxHeartbeats 2000000 in
set_option maxRecDepth 100000 in
theorem joints_any (v : Value) (L : List Int) (w : World) (h : IntsAt w v L) (ht : TabAt w) (hl : L.length ≤ 65536) :
    Calls Tryz.prog 109 #[v] w fun e w' => e = .returned (.slice (some ⟨w.heap.size, 0, none⟩) L.length L.length) ∧ JRow w' w.heap.size w.heap.size L.length (jst L L.length).2 ∧ Below w.heap.size w w' := by
  obtain ⟨a, cap, rfl, h⟩ := h
  have HC : Hid (∀ k, k < L.length → ∃ b off, a = some ⟨b, off, none⟩ ∧ b < w.heap.size ∧ w.cell? ⟨b, off + k, none⟩ = some (.int .i64 (nth L k))) := hide (fun k hk => by
    rcases h with rfl | ⟨b, off, rfl, hb, hc⟩
    · simp at hk
    · exact ⟨b, off, rfl, hb, hc k hk⟩)
  have HT := hide ht
  clear h ht
  obtain ⟨i0, hi, hz0, hz1, hz2⟩ := info_parts infoJ
  go_enter Tryz.func109, Tryz.ntmps109
  go_wp2_with (at_make; refine wpList_make_full _ rfl _ _ 149 rfl w.heap.size 152 i0 (.agg #[.bool false, .bool false]) 2 Tryz.underlying149 hi hz0 hz1 .i64 .i64 _ _ L.length rfl rfl rfl rfl ?b2 ?b3 ?b4 ?_)
  case b2 => rw [hz2]; omega
  case b3 => unfold maxLen; omega
  case b4 => omega
  intro w1 hown hgrow
  have H1 : Hid (JRow w1 w.heap.size w.heap.size L.length (jst L 0).2) := hide (by
    unfold JRow jst
    rw [← made_two]
    exact hown)
  have HB1 := hide (made_below hgrow)
  clear hown hgrow hi hz0 hz1 hz2
  go_wp2
  go_loopw [4, 5, 14] (fun lv jv i wr => ∃ k : Nat, k ≤ L.length ∧ i = .int .i64 k ∧ lv = .int .i64 (lstI (jst L k).1) ∧ jv = .int .i64 (lstJ L (jst L k).1) ∧ Hid (JRow wr w.heap.size w.heap.size L.length (jst L k).2) ∧ Hid (Below w.heap.size w wr)) (fun _ _ i _ => L.length - (intOf i).toNat)
  case atStart => exact ⟨0, Nat.zero_le _, rfl, rfl, rfl, H1, HB1⟩
  case round =>
    obtain ⟨k, hk, rfl, rfl, rfl, HJ, HB⟩ := hrel
    clear H1 HB1
    have hBs := (unhide HB).size
    by_cases hlt : k < L.length
    · have hlt' : (k : Int) < (L.length : Int) := by omega
      obtain ⟨b, off, rfl, hb, hc⟩ := unhide HC k hlt
      have c1 := ((unhide HB).cell (p := ⟨b, off + k, none⟩) hb).trans hc
      have CJ := hide (implJoins (nth L k) wr ((unhide HT).below (unhide HB)))
      have I := jok L k hk
      clear hc
      by_cases hps : jns (nth L k) < 0
      · have e1 : (jns (nth L k) == -1) = true := by rcases jns_in (nth L k) with e | e | e | e <;> rw [e] at hps ⊢ <;> first | rfl | omega
        have ES := hide (jst_pass hps)
        clear hps I
        generalize jns (nth L k) = j at *
        generalize nth L k = p at *
        go_wp2_with (go_at_call 117; refine (unhide CJ).mono ?_; rintro e w2 ⟨rfl, hb2⟩; have HB2 := hide hb2; clear hb2)
        have HJ2 := hide ((unhide HJ).below (unhide HB2))
        have HB3 := hide ((unhide HB).trans ((unhide HB2).mono hBs))
        go_wp2
        go_roundw
        case rel => exact ⟨k + 1, by omega, by go_num, by rw [unhide ES], by rw [unhide ES], hide (by rw [unhide ES]; exact unhide HJ2), HB3⟩
        case measure => simp [intOf]; omega
      · have e1 : (jns (nth L k) == -1) = false := by rcases jns_in (nth L k) with e | e | e | e <;> rw [e] at hps ⊢ <;> first | rfl | omega
        have hj2 : (jns (nth L k) != 0) = decide (2 ≤ jns (nth L k)) := by rcases jns_in (nth L k) with e | e | e | e <;> rw [e] at hps ⊢ <;> first | rfl | omega
        cases eo : (jst L k).1 with
        | none =>
          have ES := hide (jst_first hps eo)
          have z1 : lstJ L none = 0 := rfl
          have z2 : lstI none = -1 := rfl
          rw [z1, z2]
          have EP : Hid (jns (nth L k) = lstJ L (some k)) := hide rfl
          clear hps I z1 z2 hj2 eo
          generalize jns (nth L k) = j at *
          generalize nth L k = p at *
          go_wp2_with (go_at_call 117; refine (unhide CJ).mono ?_; rintro e w2 ⟨rfl, hb2⟩; have HB2 := hide hb2; clear hb2)
          have HJ2 := hide ((unhide HJ).below (unhide HB2))
          have HB3 := hide ((unhide HB).trans ((unhide HB2).mono hBs))
          go_wp2
          go_roundw
          case rel => exact ⟨k + 1, by omega, by go_num, by rw [unhide ES]; rfl, by rw [unhide ES]; exact congrArg _ (unhide EP), hide (by rw [unhide ES]; exact unhide HJ2), HB3⟩
          case measure => simp [intOf]; omega
        | some l =>
          have hll := (I.lt l eo).1
          have z1 : lstJ L (some l) = jns (nth L l) := rfl
          have z2 : lstI (some l) = (l : Int) := rfl
          rw [z1, z2]
          have EP : Hid (jns (nth L k) = lstJ L (some k)) := hide rfl
          cases hj : jnd (nth L l) (nth L k)
          · have ES := hide (jst_loose hps eo hj)
            unfold jnd at hj
            rw [← hj2] at hj
            clear hps I z1 z2 hj2 eo
            generalize jns (nth L l) = jl at *
            generalize jns (nth L k) = j at *
            generalize nth L k = p at *
            cases q : (jl == 3)
            · clear hj
              go_wp2_with (go_at_call 117; refine (unhide CJ).mono ?_; rintro e w2 ⟨rfl, hb2⟩; have HB2 := hide hb2; clear hb2)
              have HJ2 := hide ((unhide HJ).below (unhide HB2))
              have HB3 := hide ((unhide HB).trans ((unhide HB2).mono hBs))
              go_wp2
              go_roundw
              case rel => exact ⟨k + 1, by omega, by go_num, by rw [unhide ES]; rfl, by rw [unhide ES]; exact congrArg _ (unhide EP), hide (by rw [unhide ES]; exact unhide HJ2), HB3⟩
              case measure => simp [intOf]; omega
            · have hj' : (j != 0) = false := by rw [q] at hj; simpa using hj
              clear hj
              go_wp2_with (go_at_call 117; refine (unhide CJ).mono ?_; rintro e w2 ⟨rfl, hb2⟩; have HB2 := hide hb2; clear hb2)
              have HJ2 := hide ((unhide HJ).below (unhide HB2))
              have HB3 := hide ((unhide HB).trans ((unhide HB2).mono hBs))
              go_wp2
              go_roundw
              case rel => exact ⟨k + 1, by omega, by go_num, by rw [unhide ES]; rfl, by rw [unhide ES]; exact congrArg _ (unhide EP), hide (by rw [unhide ES]; exact unhide HJ2), HB3⟩
              case measure => simp [intOf]; omega
          · have ES := hide (jst_join hps eo hj)
            unfold jnd at hj
            rw [← hj2] at hj
            clear hps I z1 z2 hj2 eo
            generalize jns (nth L l) = jl at *
            generalize jns (nth L k) = j at *
            generalize nth L k = p at *
            obtain ⟨q, hj'⟩ : (jl == 3) = true ∧ (j != 0) = true := by simpa using hj
            clear hj
            go_wp2_with fail
            refine (unhide CJ).mono ?_
            rintro e w2 ⟨rfl, hb2⟩
            have HB2 := hide hb2
            clear hb2
            have HJ2 := hide ((unhide HJ).below (unhide HB2))
            have HB3 := hide ((unhide HB).trans ((unhide HB2).mono hBs))
            have hll' : (l : Int) < (L.length : Int) := by omega
            have h0l : (0 : Int) ≤ (l : Int) := by omega
            obtain ⟨d1, f1⟩ := (unhide HJ2).cell (l * 2 + 1) (by omega)
            have HJ3 := hide ((unhide HJ2).set (l * 2 + 1) true)
            obtain ⟨d2, f2⟩ := (unhide HJ3).cell (k * 2) (by omega)
            have HJ4 := hide ((unhide HJ3).set (k * 2) true)
            have HB4 := hide (((unhide HB3).setCell (p := ⟨w.heap.size, l * 2 + 1, none⟩) (Nat.le_refl _) (.bool true)).setCell (p := ⟨w.heap.size, k * 2, none⟩) (Nat.le_refl _) (.bool true))
            generalize (jst L k).2.getD (l * 2 + 1) false = y1 at *
            generalize ((jst L k).2.set (l * 2 + 1) true).getD (k * 2) false = y2 at *
            clear HJ HJ2 HJ3 HB HB2 HB3
            go_wp2
            go_roundw
            case rel => exact ⟨k + 1, by omega, by go_num, by rw [unhide ES]; rfl, by rw [unhide ES]; exact congrArg _ (unhide EP), hide (by rw [unhide ES]; exact unhide HJ4), HB4⟩
            case measure => simp [intOf]; omega
    · obtain rfl : k = L.length := by omega
      go_wp2
      go_ret
      exact ⟨rfl, unhide HJ, unhide HB⟩
theorem fill_skip (l : List Int) (k : Nat) (h : k < l.length) (e : nth l k = 0) : fill l (k + 1) = fill l k := by
  have := fill_set l k h (fun x => Value.int .i64 x)
  unfold fill
  have e2 : l[k] = 0 := by have : nth l k = l[k] := by simp [nth, List.getD, h]
                           omega
  have e1 : l.length - k = (l.length - (k + 1)) + 1 := by omega
  rw [List.take_succ_eq_append_getElem h, e1, List.replicate_succ, e2, List.append_assoc]
  rfl
theorem form_any (a b : Bool) (w : World) : Calls Tryz.prog 111 #[.agg #[.bool a, .bool b]] w fun e w' => e = .returned (.int .i64 (frm a b)) ∧ Below w.heap.size w w' := by
  cases a <;> cases b
  all_goals
    go_enter Tryz.func111, Tryz.ntmps111
    go_wp2
    go_ret
    exact ⟨rfl, (Below.refl _ _).alloc (Nat.le_refl _) _⟩
set_option maxHeartbeats 2000000 in
set_option maxRecDepth 100000 in
theorem forms_any (v : Value) (L : List Int) (w : World) (h : IntsAt w v L) (ht : TabAt w) (hl : L.length ≤ 65536) :
    Calls Tryz.prog 85 #[v] w fun e w' => ∃ sv, e = .returned sv ∧ w'.ownsRow w.heap.size 2 1 sv (frs L).length ((frs L).map (Value.int .i64)) ∧ Below w.heap.size w w' := by
  have HV := hide h
  obtain ⟨a, cap, rfl, h⟩ := h
  have HC : Hid (∀ k, k < L.length → ∃ b off, a = some ⟨b, off, none⟩ ∧ b < w.heap.size ∧ w.cell? ⟨b, off + k, none⟩ = some (.int .i64 (nth L k))) := hide (fun k hk => by
    rcases h with rfl | ⟨b, off, rfl, hb, hc⟩
    · simp at hk
    · exact ⟨b, off, rfl, hb, hc k hk⟩)
  have HT := hide ht
  clear h ht
  obtain ⟨i0, hi, hz0, hz1, hz2⟩ := info_parts info2
  have hfl := frs_len L
  go_enter Tryz.func85, Tryz.ntmps85
  go_wp2_with (at_make; refine wpList_make_full _ rfl _ _ 69 rfl w.heap.size 2 i0 (.int .i64 0) 1 Tryz.underlying69 hi hz0 hz1 .i64 .i64 _ _ L.length rfl rfl rfl rfl ?b2 ?b3 ?b4 ?_)
  case b2 => rw [hz2]; omega
  case b3 => unfold maxLen; omega
  case b4 => omega
  intro w1 hown hgrow
  have O1 : Hid (w1.ownsRow w.heap.size 2 1 (.slice (some ⟨w.heap.size, 0, none⟩) L.length L.length) L.length ((fill (frs L) 0).map (Value.int .i64))) := hide (by
    rw [fill_zero, hfl, List.map_replicate, ← toList_madeCells_one]
    simpa using hown)
  have HB1 := hide (made_below hgrow)
  have hgs : w.heap.size < w1.heap.size := owned_lt (unhide O1)
  clear hown hgrow hi hz0 hz1 hz2
  go_wp2_with fail
  refine (joints_any _ L w1 ((unhide HV).below (unhide HB1)) ((unhide HT).below (unhide HB1)) hl).mono ?_
  rintro e w2 ⟨rfl, hj, hb2⟩
  have hb2s := hb2.size
  have O2 := hide (ownsRow_below (unhide O1) hb2)
  have HJ := hide hj
  have hjl := hj.lt.2
  have HB2 := hide ((unhide HB1).trans (hb2.mono (by omega)))
  clear hj hb2 O1 HB1
  have F0 : ∃ F, F = frs L := ⟨_, rfl⟩
  obtain ⟨F, hF⟩ := F0
  have HF := hide hF
  rw [← hF] at O2 hfl
  have HFk : Hid (∀ k, k < L.length → (jlt (nth L k) = true → nth F k = frm ((jst L L.length).2.getD (k * 2) false) ((jst L L.length).2.getD (k * 2 + 1) false)) ∧ (jlt (nth L k) = false → nth F k = 0)) := hide (fun k hk => by
    rw [hF]
    unfold frs
    rw [fms_at _ _ _ hk]
    exact ⟨fun e => by rw [if_pos e], fun e => by rw [if_neg (by simp [e])]⟩)
  clear hF
  generalize (jst L L.length).2 = J at *
  go_wp2
  go_loopw [12] (fun i wr => ∃ k : Nat, k ≤ L.length ∧ i = .int .i64 k ∧ Hid (wr.ownsRow w.heap.size 2 1 (.slice (some ⟨w.heap.size, 0, none⟩) L.length L.length) L.length ((fill F k).map (Value.int .i64))) ∧ Hid (w2.grownBy wr (some w.heap.size))) (fun i _ => L.length - (intOf i).toNat)
  case atStart => exact ⟨0, Nat.zero_le _, rfl, O2, hide (grown_refl _ _)⟩
  case round =>
    obtain ⟨k, hk, rfl, HO, HG⟩ := hrel
    clear O2
    have hGs := (unhide HG).size
    by_cases hlt : k < L.length
    · have hlt' : (k : Int) < (L.length : Int) := by omega
      obtain ⟨b, off, rfl, hb, hc⟩ := unhide HC k hlt
      have HBr := hide ((unhide HB2).grown (unhide HG) (by omega) (fun j hj => by cases hj; exact Nat.le_refl _))
      have c0 := ((unhide HBr).cell (p := ⟨b, off + k, none⟩) hb).trans hc
      have CJ := hide (fun W => isJoining_any (nth L k) W)
      have HA0 : ∀ o, Below wr.heap.size wr (wr.alloc o) := fun o => (Below.refl _ _).alloc (Nat.le_refl _) o
      have HJr := hide ((unhide HJ).keep (unhide HG) (by intro e; injection e with e; omega))
      obtain ⟨j0, _⟩ := (unhide HJr).cell (k * 2) (by omega)
      obtain ⟨j1, _⟩ := (unhide HJr).cell (k * 2 + 1) (by omega)
      obtain ⟨x1, x2⟩ := unhide HFk k hlt
      generalize J.getD (k * 2) false = ja at *
      generalize J.getD (k * 2 + 1) false = jb at *
      have HA := hide (HA0 (.cells #[.bool ja, .bool jb] 152))
      have c3 := ((unhide HA).cell (p := ⟨b, off + k, none⟩) (by have := (unhide HBr).size; show b < _; omega)).trans c0
      clear hc HFk HA0
      cases hj : jlt (nth L k)
      · rw [hj] at CJ
        have EF := hide (fill_skip F k (by omega) (x2 hj))
        clear x1 x2 hj
        generalize nth L k = p at *
        go_wp2_with (go_at_call 110; refine ((unhide CJ) _).mono ?_; rintro e w3 ⟨rfl, rfl⟩)
        go_roundw
        case rel => exact ⟨k + 1, by omega, by go_num, hide (by rw [unhide EF]; exact ownsRow_below (unhide HO) (unhide HA)), hide (grown_bel (unhide HG) (unhide HA))⟩
        case measure => simp [intOf]; omega
      · rw [hj] at CJ
        have EF := hide (x1 hj)
        have CF := hide (fun W => form_any ja jb W)
        clear x1 x2 hj
        generalize nth L k = p at *
        generalize frm ja jb = f at *
        go_wp2_with (first | (go_at_call 110; refine ((unhide CJ) _).mono ?_; rintro e w3 ⟨rfl, rfl⟩) | fail)
        refine ((unhide CF) _).mono ?_
        rintro e w4 ⟨rfl, hb4⟩
        have hb5 := (unhide HA).trans (hb4.mono (unhide HA).size)
        have O4 := ownsRow_below (unhide HO) hb5
        have c4 : w4.cell? ⟨w.heap.size, k, none⟩ = some (.int .i64 (nth (fill F k) k)) := by
          rw [World.ownsRow.cellAt O4 k (by omega), List.getElem?_map]
          have := fill_length F k (by omega)
          simp [nth, List.getD, this, hlt, hfl]
        have f4 := World.ownsRow.frozenAt O4 k
        have O5 := (World.ownsRow.stored O4 k (.int .i64 f)).1
        rw [← unhide EF, fill_set F k (by omega) (Value.int .i64), unhide EF] at O5
        have HO5 := hide O5
        have HG5 := hide (grown_set (j := k) (u := .int .i64 f) (grown_bel (unhide HG) hb5))
        generalize nth (fill F k) k = z at *
        clear O4 O5 hb4 hb5 EF HO HG HA
        go_wp2
        go_roundw
        case rel => exact ⟨k + 1, by omega, by go_num, HO5, HG5⟩
        case measure => simp [intOf]; omega
    · obtain rfl : k = L.length := by omega
      have HBr := hide ((unhide HB2).grown (unhide HG) (by omega) (fun j hj => by cases hj; exact Nat.le_refl _))
      have HO' : Hid (wr.ownsRow w.heap.size 2 1 (.slice (some ⟨w.heap.size, 0, none⟩) L.length L.length) (frs L).length ((frs L).map (Value.int .i64))) := hide (by
        have e := unhide HO
        rw [← hfl, fill_all] at e
        rw [← unhide HF, hfl]
        rw [hfl] at e
        exact e)
      go_wp2
      go_ret
      exact ⟨_, rfl, unhide HO', unhide HBr⟩
end Go.Proofs.YtfldomifooihlaaGreatDoor.Shp
