/- Texts of rules, as the program writes them: the signs, one text. -/
import Derived.Test.YtklakcnapdhcnaaDoorShwP
import Derived.Test.YtklakcnapdhcnaaDoorPasI
import Derived.Test.YtklakcnapdhcnaaDoorAppG
namespace Go.Proofs.YtklakcnapdhcnaaDoor.Pas
open Go.RowKit
set_option linter.unusedVariables false
theorem al1 (w : World) (a : Obj) : Below w.heap.size w (w.alloc a) := (Below.refl _ _).alloc (Nat.le_refl _) _
theorem own_atS {w w' : World} {B : Nat} {e : TypeId} {s : Nat} {v : Value} {n : Nat} {xs : List Value} (h : w.ownsRow B e s v n xs) (hs : ∀ k, v.ownBlock = some k → w'.heap[k]? = w.heap[k]?) : w'.ownsRow B e s v n xs := by
  refine ⟨h.1, ?_⟩
  rcases h.2 with h' | ⟨g, cap, cur, hv, hg, hh, r⟩
  · exact .inl h'
  · exact .inr ⟨g, cap, cur, hv, hg, (hs g (by rw [hv]; rfl)).trans hh, r⟩
/-- A row of bytes of one's own, in a block from lo on. -/
def By (lo : Nat) (w : World) (v : Value) (M : List Int) : Prop := w.ownsRow lo 5 1 v M.length (M.map (Value.int .u8))
theorem By.below {lo : Nat} {w w' : World} {v : Value} {M : List Int} (h : By lo w v M) (hb : Below w.heap.size w w') : By lo w' v M := ownsRow_below h hb
theorem By.nil (lo : Nat) (w : World) : By lo w (.slice none 0 0) [] := World.ownsRow_nil w _ _ _
theorem By.form {lo : Nat} {w : World} {v : Value} {M : List Int} (h : By lo w v M) : ∃ a c, v = .slice a M.length c := by
  rcases h.2 with ⟨rfl, hn⟩ | ⟨g, cap, cur, rfl, hg, r⟩
  · exact ⟨none, 0, by rw [hn]⟩
  · exact ⟨_, _, rfl⟩
/-- What is below lo stays, and all blocks of cells that hold no bytes. -/
structure Kb (lo : Nat) (w w' : World) : Prop where
  bel : Below lo w w'
  typ : ∀ (k : Nat) (c : Array Value) (T : TypeId) (f : Nat × Nat), w.heap[k]? = some (.cells c T f) → T ≠ 5 → w'.heap[k]? = some (.cells c T f)
theorem Kb.refl (lo : Nat) (w : World) : Kb lo w w := ⟨Below.refl _ _, fun _ _ _ _ h _ => h⟩
theorem Kb.trans {lo : Nat} {w w1 w2 : World} (h : Kb lo w w1) (k : Kb lo w1 w2) : Kb lo w w2 := ⟨h.bel.trans k.bel, fun i c T f e n => k.typ i c T f (h.typ i c T f e n) n⟩
theorem Kb.of {lo : Nat} {w w' : World} (h : Below w.heap.size w w') (hl : lo ≤ w.heap.size) : Kb lo w w' := ⟨h.mono hl, fun k c T f e _ => (h.block k (Array.getElem?_eq_some_iff.1 e).1).trans e⟩
theorem Kb.row {lo : Nat} {w w' : World} {v : Value} {n : Nat} {xs : List Value} (hg : w.grownBy w' v.ownBlock) (hO : w.ownsRow lo 5 1 v n xs) (hl : lo ≤ w.heap.size) : Kb lo w w' := by
  refine ⟨(Below.refl lo w).grown hg hl (fun k e => (hO.lt k e).1), fun k c T f e hT => (hg.block k (Array.getElem?_eq_some_iff.1 e).1 (fun e2 => ?_)).trans e⟩
  rcases hO.2 with ⟨rfl, _⟩ | ⟨g, cap, cur, rfl, _, hh, _⟩
  · cases e2
  · cases e2
    rw [hh] at e
    cases e
    exact hT rfl
theorem Kb.app {lo : Nat} {w w1 w2 : World} {v : Value} {M : List Int} {o : Obj} (h : Kb lo w w1) (hl : lo ≤ w1.heap.size) (hO : By lo w1 v M) (hg : (w1.alloc o).grownBy w2 v.ownBlock) : Kb lo w w2 :=
  (h.trans (Kb.of (al1 w1 o) hl)).trans (Kb.row hg (By.below hO (al1 w1 o)) (by simp; omega))
theorem By.snoc {lo : Nat} {w : World} {v : Value} {M N : List Int} {n : Nat} (h : w.ownsRow lo 5 1 v (M.length + n) (M.map (Value.int .u8) ++ N.map (Value.int .u8))) (hn : N.length = n) : By lo w v (M ++ N) := by
  unfold By
  rw [List.length_append, List.map_append, hn]
  exact h
theorem By.alloc {lo : Nat} {w : World} {v : Value} {M : List Int} (h : By lo w v M) (o : Obj) : (w.alloc o).ownsRow lo 5 1 v M.length (M.map (Value.int .u8)) := By.below h (al1 w o)
theorem one_new (w : World) (x : Int) : ∀ (j : Nat) (u : Value), [Value.int .u8 x][j]? = some u → (w.alloc (.cells #[.int .u8 x] 5)).cell? ((⟨w.heap.size, 0, none⟩ : Addr).add j) = some u := by
  intro j u h
  have e : (⟨w.heap.size, 0, none⟩ : Addr).add j = ⟨w.heap.size, j, none⟩ := by unfold Addr.add; split <;> simp_all
  rw [e]
  have hn := heap_new w (.cells #[.int .u8 x] 5)
  simp only [World.cell?, hn]
  match j, h with
  | 0, h => simpa using h
theorem two_newB (w : World) (x y : Int) : ∀ (j : Nat) (u : Value), [Value.int .u8 x, .int .u8 y][j]? = some u → (w.alloc (.cells #[.int .u8 x, .int .u8 y] 5)).cell? ((⟨w.heap.size, 0, none⟩ : Addr).add j) = some u := by
  intro j u h
  have e : (⟨w.heap.size, 0, none⟩ : Addr).add j = ⟨w.heap.size, j, none⟩ := by unfold Addr.add; split <;> simp_all
  rw [e]
  have hn := heap_new w (.cells #[.int .u8 x, .int .u8 y] 5)
  simp only [World.cell?, hn]
  match j, h with
  | 0, h => simpa using h
  | 1, h => simpa using h
theorem one_oneB (x : Int) : ∀ u ∈ [Value.int .u8 x], u.oneCell' = true := by intro u hu; simp at hu; subst hu; rfl
theorem two_oneB (x y : Int) : ∀ u ∈ [Value.int .u8 x, .int .u8 y], u.oneCell' = true := by intro u hu; simp at hu; rcases hu with rfl | rfl <;> rfl
theorem infoB : (Tryd.prog.info? 5).map (fun i => (i.zero, i.size, i.bytes)) = some (some (.int .u8 0), 1, 1) := by kernel_rfl
/-- The signs that want a 92 ahead. -/
theorem idx_sgn : ∀ b, b < 256 → decide (0 ≤ Lib.indexByte [91, 93, 62, 124, 58, 32, 92] (b : Nat).toUInt8) = sgnB b := by
  have h : (List.range 256).all (fun b => decide (0 ≤ Lib.indexByte [91, 93, 62, 124, 58, 32, 92] (b : Nat).toUInt8) == sgnB b) = true := by kernel_rfl
  intro b hb
  rw [List.all_eq_true] at h
  exact beq_iff_eq.1 (h b (List.mem_range.2 hb))
set_option maxHeartbeats 1000000 in
set_option maxRecDepth 100000 in
theorem sidx_any (s : ByteArray) (c : Int) (w : World) :
    Calls Tryd.prog 72 #[.string s, .int .u8 c] w fun e w' => e = .returned (.int .i64 (Lib.indexByte s.data.toList c.toNat.toUInt8)) ∧ w' = w := by
  go_enter Tryd.func72, Tryd.ntmps72
  go_wp2
  rw [run_callFunc_extern Tryd.func79 (by kernel_rfl) (by kernel_rfl) (by kernel_rfl) (e := Extern.BytealgIndexByte.indexByte) (by kernel_rfl), Lib.run_indexByteString]
  simp only [Result.andThen]
  rw [Oper.upon_value]
  go_wp2
  go_ret
  exact ⟨rfl, rfl⟩
theorem idx_any (s : ByteArray) (c : Int) (w : World) :
    Calls Tryd.prog 60 #[.string s, .int .u8 c] w fun e w' => e = .returned (.int .i64 (Lib.indexByte s.data.toList c.toNat.toUInt8)) ∧ w' = w := by
  have C := hide (sidx_any s c w)
  generalize Lib.indexByte s.data.toList c.toNat.toUInt8 = q at *
  go_enter Tryd.func60, Tryd.ntmps60
  go_wp2_with (go_at_call 72; refine (unhide C).mono ?_; rintro e w' ⟨rfl, hw⟩; obtain rfl := hw.symm; clear hw)
  go_ret
  exact ⟨rfl, rfl⟩
theorem sign_any (b : Nat) (hb : b < 256) (w : World) : Calls Tryd.prog 45 #[.int .u8 (b : Int)] w fun e w' => e = .returned (.bool (sgnB b)) ∧ w' = w := by
  have C := idx_any ⟨#[91, 93, 62, 124, 58, 32, 92]⟩ (b : Int) w
  have e : Lib.indexByte (⟨#[91, 93, 62, 124, 58, 32, 92]⟩ : ByteArray).data.toList ((b : Int)).toNat.toUInt8 = Lib.indexByte [91, 93, 62, 124, 58, 32, 92] (b : Nat).toUInt8 := rfl
  rw [e] at C
  have HE := hide (idx_sgn b hb)
  have HC := hide C
  clear C e
  generalize Lib.indexByte [91, 93, 62, 124, 58, 32, 92] (b : Nat).toUInt8 = q at *
  generalize sgnB b = K at *
  go_enter Tryd.func45, Tryd.ntmps45
  go_wp2_with (go_at_call 60; refine (unhide HC).mono ?_; rintro e w' ⟨rfl, hw⟩; obtain rfl := hw.symm; clear hw)
  go_ret
  exact ⟨by rw [← unhide HE]; rfl, rfl⟩
set_option maxRecDepth 100000 in
set_option maxHeartbeats 8000000 in
theorem art_any (lo : Nat) (v : Value) (M : List Int) (t : ByteArray) (w : World) (hlo : lo ≤ w.heap.size) (hO : By lo w v M) (hM : M.length ≤ 1000000) (ht : t.size ≤ 1048576) :
    Calls Tryd.prog 31 #[v, .string t] w fun e w' => ∃ v', e = .returned v' ∧ By lo w' v' (M ++ shw t) ∧ Kb lo w w' := by
  obtain ⟨i0, hi, hz0, hz1, hz2⟩ := info_parts infoB
  have O0 : Hid (By lo w v (M ++ shk t 0)) := hide (by simpa [shk] using hO)
  have HL := hide (fun k => shk_len t k)
  clear hO
  go_enter Tryd.func31, Tryd.ntmps31
  go_wp2
  go_loopw [0, 9] (fun lv iv wr => ∃ k : Nat, k ≤ t.size ∧ iv = .int .i64 k ∧ Hid (By lo wr lv (M ++ shk t k)) ∧ Hid (Kb lo w wr)) (fun _ iv _ => t.size - (intOf iv).toNat)
  case atStart => exact ⟨0, Nat.zero_le _, rfl, O0, hide (Kb.refl _ _)⟩
  case round =>
    obtain ⟨k, hk, rfl, HO, HG⟩ := hrel
    clear O0
    by_cases hlt : k < t.size
    · have hlt' : (k : Int) < (t.size : Int) := by omega
      have h0k : (0 : Int) ≤ (k : Int) := by omega
      have hlw := Nat.le_trans hlo (unhide HG).bel.size
      have f1 : ∀ h, (t[k]'h).toNat = bt t k := fun h => bt_get t k h
      have hbb : bt t k < 256 := bt_lt t k
      have hln := (unhide HL) k
      have HS : Hid (shk t (k + 1) = shk t k ++ esc (bt t k)) := hide rfl
      have hX : (M ++ shk t k).length ≤ 5000000 := by rw [List.length_append]; omega
      have HE1 := hide (fun h => esc_nl (b := bt t k) h)
      have HE2 := hide (fun h h2 => esc_sg (b := bt t k) h h2)
      have HE3 := hide (fun h h2 => esc_no (b := bt t k) h h2)
      have CS := hide (fun W => sign_any (bt t k) hbb W)
      have HA : Hid (M ++ shk t (k + 1) = (M ++ shk t k) ++ esc (bt t k)) := hide (by rw [unhide HS, List.append_assoc])
      generalize M ++ shk t k = X at *
      generalize bt t k = b at *
      clear hln HS HL
      by_cases h10 : b = 10
      · have he := (unhide HE1) h10
        rw [he] at HA
        clear HE1 HE2 HE3 CS he
        have h10' : ((b : Int) == 10) = true := by rw [h10]; rfl
        go_wp2_with (at_builtin; refine wpList_appG _ rfl _ _ 22 rfl lo 5 i0 (.int .u8 0) 1 1 Tryd.underlying22 hi hz0 hz1 hz2 rfl (by decide) _ _ _ rfl (By.alloc (unhide HO) _) ⟨wr.heap.size, 0, none⟩ 2 2 [.int .u8 92, .int .u8 110] rfl rfl (two_newB _ _ _) (two_oneB _ _) ?c3 ?c4 ?c5 ?_)
        case c3 => unfold maxLen; omega
        case c4 => omega
        case c5 => simp; omega
        intro v' w2 hown' hgrow hnew
        have HO2 := hide (By.snoc (N := [92, 110]) hown' rfl)
        have HG2 := hide ((unhide HG).app hlw (unhide HO) hgrow)
        rw [← unhide HA] at HO2
        clear hown' hgrow hnew
        go_wp2
        go_roundw
        case rel => exact ⟨k + 1, by omega, by go_num, HO2, HG2⟩
        case measure => simp [intOf]; omega
      · have h10' : ((b : Int) == 10) = false := by rw [beq_eq_false_iff_ne]; omega
        cases hsg : sgnB b with
        | true =>
          have he := (unhide HE2) h10 hsg
          rw [he] at HA
          rw [hsg] at CS
          clear HE1 HE2 HE3 he hsg h10
          go_wp2_with (first
            | (go_at_call 45; refine ((unhide CS) _).mono ?_; rintro e w' ⟨rfl, hw⟩; obtain rfl := hw.symm; clear hw)
            | (at_builtin; refine wpList_appG _ rfl _ _ 22 rfl lo 5 i0 (.int .u8 0) 1 1 Tryd.underlying22 hi hz0 hz1 hz2 rfl (by decide) _ _ _ rfl (By.alloc (unhide HO) _) ⟨wr.heap.size, 0, none⟩ 2 2 [.int .u8 92, .int .u8 (b : Int)] rfl rfl (two_newB _ _ _) (two_oneB _ _) ?c3 ?c4 ?c5 ?_))
          case c3 => unfold maxLen; omega
          case c4 => omega
          case c5 => simp; omega
          intro v' w2 hown' hgrow hnew
          have HO2 := hide (By.snoc (N := [92, (b : Int)]) hown' rfl)
          have HG2 := hide ((unhide HG).app hlw (unhide HO) hgrow)
          rw [← unhide HA] at HO2
          clear hown' hgrow hnew
          go_wp2
          go_roundw
          case rel => exact ⟨k + 1, by omega, by go_num, HO2, HG2⟩
          case measure => simp [intOf]; omega
        | false =>
          have he := (unhide HE3) h10 hsg
          rw [he] at HA
          rw [hsg] at CS
          clear HE1 HE2 HE3 he hsg h10
          go_wp2_with (first
            | (go_at_call 45; refine ((unhide CS) _).mono ?_; rintro e w' ⟨rfl, hw⟩; obtain rfl := hw.symm; clear hw)
            | (at_builtin; refine wpList_appG _ rfl _ _ 22 rfl lo 5 i0 (.int .u8 0) 1 1 Tryd.underlying22 hi hz0 hz1 hz2 rfl (by decide) _ _ _ rfl (By.alloc (unhide HO) _) ⟨wr.heap.size, 0, none⟩ 1 1 [.int .u8 (b : Int)] rfl rfl (one_new _ _) (one_oneB _) ?c3 ?c4 ?c5 ?_))
          case c3 => unfold maxLen; omega
          case c4 => omega
          case c5 => simp; omega
          intro v' w2 hown' hgrow hnew
          have HO2 := hide (By.snoc (N := [(b : Int)]) hown' rfl)
          have HG2 := hide ((unhide HG).app hlw (unhide HO) hgrow)
          rw [← unhide HA] at HO2
          clear hown' hgrow hnew
          go_wp2
          go_roundw
          case rel => exact ⟨k + 1, by omega, by go_num, HO2, HG2⟩
          case measure => simp [intOf]; omega
    · obtain rfl : k = t.size := by omega
      go_wp2
      go_ret
      exact ⟨_, rfl, unhide HO, unhide HG⟩
end Go.Proofs.YtklakcnapdhcnaaDoor.Pas
