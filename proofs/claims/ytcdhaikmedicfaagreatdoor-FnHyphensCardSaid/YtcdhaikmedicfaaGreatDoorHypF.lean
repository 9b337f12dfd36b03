/- A pattern of hyphens, as the program reads it. -/
import Derived.Test.YtcdhaikmedicfaaGreatDoorHYA
import Derived.Lib.ConvBytes
namespace Go.Proofs.YtcdhaikmedicfaaGreatDoor
namespace Hyp
open Go.RowKit
set_option linter.unusedVariables false
set_option linter.unusedSimpArgs false
theorem mixedH : Tryz.prog.follows Departure.mixedOrders = true := by kernel_rfl
/-- The pattern's box. -/
def PBox (W : World) (p : Nat) (x : ByteArray) (v : Value) : Prop := W.heap[p]? = some (.cells #[.string x, v] 67 (0, 0))
theorem PBox.cells {W : World} {p : Nat} {x : ByteArray} {v : Value} (h : PBox W p x v) : W.cell? ⟨p, 0, none⟩ = some (.string x) ∧ W.cell? ⟨p, 1, none⟩ = some v ∧ (∀ j, W.frozen? ⟨p, j, none⟩ = false) := by
  unfold PBox at h
  refine ⟨by simp [World.cell?, h], by simp [World.cell?, h], fun j => by simp [World.frozen?, h]⟩
theorem setB_heap {W : World} {p : Nat} {cs : Array Value} {t : TypeId} (h : W.heap[p]? = some (.cells cs t (0, 0))) (i : Nat) (u : Value) : (W.setCell ⟨p, i, none⟩ u).heap[p]? = some (.cells (cs.setIfInBounds i u) t (0, 0)) := by
  have hlt := lt_of_block h
  have h' : W.heap[p] = .cells cs t (0, 0) := by simpa [Array.getElem?_eq_getElem hlt] using h
  show (W.heap.modify p _)[p]? = _
  rw [Array.getElem?_eq_getElem (by simpa using hlt), Array.getElem_modify_self, h']
  simp [Addr.spot]
theorem PBox.set1 {W : World} {p : Nat} {x : ByteArray} {v : Value} (h : PBox W p x v) (v' : Value) : PBox (W.setCell ⟨p, 1, none⟩ v') p x v' := setB_heap h 1 v'
theorem PBox.set0 {W : World} {p : Nat} {x : ByteArray} {v : Value} (h : PBox W p x v) (x' : ByteArray) : PBox (W.setCell ⟨p, 0, none⟩ (.string x')) p x' v := setB_heap h 0 (.string x')
theorem PBox.kept {W W' : World} {p : Nat} {x : ByteArray} {v : Value} (h : PBox W p x v) (e : W'.heap[p]? = W.heap[p]?) : PBox W' p x v := e.trans h
theorem Fr.set {B p : Nat} {a b : World} (h : Fr B p a b) (i : Nat) (u : Value) : Fr B p a (b.setCell ⟨p, i, none⟩ u) :=
  h.trans ⟨rfl, rfl, rfl, by simp, fun k _ hk => Below.heap_setCell _ _ _ _ (fun e => hk e)⟩
theorem bw_below (w : World) (e : TypeId) (s : ByteArray) : Below w.heap.size w (Lib.bytesWorld w e s) := ⟨rfl, rfl, rfl, by rw [Lib.bytesWorld_size]; omega, fun k hk => Lib.bytesWorld_at_old w e s k hk⟩
theorem bt_list (t : ByteArray) (i : Nat) (h : i < t.size) : (((t.data.toList.getD i 0).toNat : Nat) : Int) = (bt t i : Int) := by
  congr 1
  rw [← bt_get t i h]
  congr 1
  rw [List.getD_eq_getElem?_getD, Array.getElem?_toList, Array.getElem?_eq_getElem (by simpa using h)]
  rfl
set_option maxRecDepth 100000 in
set_option maxHeartbeats 8000000 in
theorem patI (t : ByteArray) (ht : t.size ≤ 1048576) (w : World) : Calls Tryz.prog 35 #[.string t] w fun e w' =>
    (∃ X va vn vc, e = .returned (.tuple #[.agg #[.string X, .slice va vn vc], .bool (right t)]) ∧ (right t = true → ∀ s, pat t = some s → X = strOfNums s.L ∧ w'.ownsRow (w.heap.size + 2) 5 1 (.slice va vn vc) (s.D.length + 1) (u8s (s.D ++ [s.d])))) ∧ Below w.heap.size w w' := by
  obtain ⟨i0, hi, hz0, hz1, hz2⟩ := info_parts info5h
  have HT0 := hide (fun i (h : i ≤ t.size) (h2 : pr t i = none) => right_none h h2)
  have HT1 := hide (fun s (h : pr t t.size = some s) => right_some h)
  have HT2 := hide (fun s (h : pat t = some s) => pat_pr h)
  have hmx := mixedH
  have no : ∀ {W : World} {x : ByteArray} {a : Option Addr} {n c : Nat}, right t = false → Below w.heap.size w W → (∃ X va vn vc, Ending.returned (.tuple #[.agg #[.string x, .slice a n c], .bool false]) = .returned (.tuple #[.agg #[.string X, .slice va vn vc], .bool (right t)]) ∧ (right t = true → ∀ s, pat t = some s → X = strOfNums s.L ∧ W.ownsRow (w.heap.size + 2) 5 1 (.slice va vn vc) (s.D.length + 1) (u8s (s.D ++ [s.d])))) ∧ Below w.heap.size w W :=
    fun h hb => ⟨⟨_, _, _, _, by rw [h], fun h2 => by rw [h] at h2; cases h2⟩, hb⟩
  have NO : Hid (∀ {W : World} {x : ByteArray} {a : Option Addr} {n c : Nat}, right t = false → Below w.heap.size w W → (∃ X va vn vc, Ending.returned (.tuple #[.agg #[.string x, .slice a n c], .bool false]) = .returned (.tuple #[.agg #[.string X, .slice va vn vc], .bool (right t)]) ∧ (right t = true → ∀ s, pat t = some s → X = strOfNums s.L ∧ W.ownsRow (w.heap.size + 2) 5 1 (.slice va vn vc) (s.D.length + 1) (u8s (s.D ++ [s.d])))) ∧ Below w.heap.size w W) := hide no
  clear no
  by_cases hlong : 41 < t.size
  · have hI : (41 : Int) < (t.size : Int) := by omega
    have HR := hide (right_long hlong)
    clear HT0 HT1 HT2
    have hb : PBox (w.alloc (.cells #[.string ⟨#[]⟩, .slice none 0 0] 67)) w.heap.size ⟨#[]⟩ (.slice none 0 0) := heap_alloc_new _ _
    obtain ⟨g0, g1, gf⟩ := hb.cells
    go_enter Tryz.func35, Tryz.ntmps35
    go_wp2
    refine bodyPost_ret (v := .tuple #[.agg #[.string ⟨#[]⟩, .slice none 0 0], .bool false]) (by simp [results, Tryz.results35, go_sem, g0, g1]; try rfl) rfl ((unhide NO) (unhide HR) ?_)
    exact (Below.refl _ _).alloc (Nat.le_refl _) _
  have hI : ¬ (41 : Int) < (t.size : Int) := by omega
  have hdot : ∀ h, (((({ data := #[46] } : ByteArray)[0]'h).toNat : Nat) : Int) = 46 := fun _ => rfl
  have CW := hide (fun c W => withinH c 49 57 W)
  have CS := hide (fun c (h0 : 0 ≤ c) (h1 : c < 256) W => smallH c h0 h1 W)
  have hcv : ∀ W : World, (convert 9 22 (.string t)).run Tryz.prog W = .ok (.slice (some ⟨W.heap.size, 0, none⟩) t.size (grownCap W t.size 0 5)) (Lib.bytesWorld W 5 t) := fun W => Lib.run_convert_string_bytes W 9 22 5 t Tryz.underlying9 Tryz.underlying22 Tryz.underlying5
  go_enter Tryz.func35, Tryz.ntmps35
  go_wp2_with fail
  obtain ⟨w0, hw0⟩ : ∃ w0, w0 = w.alloc (.cells #[.string ⟨#[]⟩, .slice none 0 0] 67) := ⟨_, rfl⟩
  have z0 : w0.heap.size = w.heap.size + 1 := by rw [hw0]; simp
  have p0 : PBox w0 w.heap.size ⟨#[]⟩ (.slice none 0 0) := by rw [hw0]; exact heap_alloc_new _ _
  have b0 : Below w.heap.size w w0 := by rw [hw0]; exact (Below.refl _ _).alloc (Nat.le_refl _) _
  rw [← hw0]
  clear hw0
  obtain ⟨w1, hw1⟩ : ∃ w1, w1 = Lib.bytesWorld w0 5 t := ⟨_, rfl⟩
  have z1 : w1.heap.size = w.heap.size + 2 := by rw [hw1, Lib.bytesWorld_size, z0]
  have b1 : Below w0.heap.size w0 w1 := by rw [hw1]; exact bw_below _ _ _
  have HC : Hid (∀ i, i < t.size → w1.cell? ⟨w.heap.size + 1, i, none⟩ = some (.int .u8 (bt t i : Int))) := hide (fun i h => by
    rw [hw1, ← z0, Lib.bytesWorld_cell w0 5 t i h, bt_list t i h])
  have p1 : PBox w1 w.heap.size ⟨#[]⟩ (.slice none 0 0) := p0.kept (b1.block _ (by omega))
  have B1 : Hid (Below w.heap.size w w1) := hide (b0.trans (b1.mono (by omega)))
  have d1 : Dw (w.heap.size + 2) w1 5 5 (.slice none 0 0) (.slice none 0 0) 0 0 (u8s []) (u8s []) := ⟨World.ownsRow_nil _ _ _ _, World.ownsRow_nil _ _ _ _, fun k e => by cases e⟩
  rw [← hw1]
  try rw [z0]
  clear hw1 p0 b0 b1 hcv
  generalize grownCap w0 t.size 0 5 = cp
  clear z0
  go_loopw [4, 5, 6, 16] (fun v4 v5 v6 v16 wr => ∃ (i : Nat) (s : St) (dv : Value), i ≤ t.size ∧ v16 = .int .i64 (i : Int) ∧ v5 = .int .u8 s.d ∧ v6 = .bool s.b ∧ Hid (pr t i = some s) ∧ Hid (Dw (w.heap.size + 2) wr 5 5 v4 dv s.L.length s.L.length (u8s s.L) (u8s s.D)) ∧ Hid (PBox wr w.heap.size ⟨#[]⟩ dv) ∧ Hid (Fr (w.heap.size + 2) w.heap.size w1 wr)) (fun _ _ _ x _ => t.size - (intOf x).toNat)
  case atStart => exact ⟨0, ⟨[], [], 0, false⟩, .slice none 0 0, by omega, rfl, rfl, rfl, hide rfl, hide d1, hide p1, hide (Fr.refl _ _ _)⟩
  case round =>
    obtain ⟨i, s, dv, hi2, rfl, rfl, rfl, HP, HD, HX, HF⟩ := hrel
    have hHD := unhide HD
    obtain ⟨a5, c5, rfl, _⟩ := row_frm hHD.o1
    obtain ⟨a6, c6, rfl, _⟩ := row_frm hHD.o2
    obtain ⟨x0, x1, xf⟩ := (unhide HX).cells
    have o := pr_ok (unhide HP)
    have hL1 := o.le
    have hL2 := o.len
    have d0 := o.d0
    have d9 := o.d9
    have OK := hide o
    clear hHD o p1 d1
    by_cases hlt : i < t.size
    · have hI2 : (i : Int) < (t.size : Int) := by omega
      have hc1 := (cell_same ((unhide HF).block (w.heap.size + 1) (by omega) (by omega)) i).trans ((unhide HC) i hlt)
      have hc256 : (bt t i : Int) < 256 := by have := bt_lt t i; omega
      have hc0 : (0 : Int) ≤ (bt t i : Int) := by omega
      have HN := hide (fun (s2 : Option St) (h : stp s (bt t i : Int) = s2) => show pr t (i + 1) = s2 by rw [pr_next (unhide HP), h])
      generalize (bt t i : Int) = c at *
      have HST : Hid (stp s c = if 49 ≤ c ∧ c ≤ 57 ∧ s.d = 0 then some ⟨s.L, s.D, c - 48, true⟩ else if (97 ≤ c ∧ c ≤ 122) ∨ c = 46 then some ⟨s.L ++ [c], s.D ++ [s.d], 0, s.b⟩ else none) := hide rfl
      have CWc := hide (fun W => (unhide CW) c W)
      have CSc := hide (fun W => (unhide CS) c hc0 hc256 W)
      by_cases q : 49 ≤ c ∧ c ≤ 57
      · have eq1 : (decide (49 ≤ c) && decide (c ≤ 57)) = true := by simp [q.1, q.2]
        have eq2 : (decide (97 ≤ c) && decide (c ≤ 122)) = false := by simp; omega
        rw [eq1] at CWc
        rw [eq2] at CSc
        obtain ⟨q1, q2⟩ := q
        by_cases q3 : s.d = 0
        · have t3 : (s.d == 0) = true := by simpa using q3
          have HR := hide ((unhide HN) _ ((unhide HST).trans (if_pos ⟨q1, q2, q3⟩)))
          have hw8 : IntKind.u8.wrap (c - 48) = c - 48 := by simp [IntKind.wrap, IntKind.bits, IntKind.signed]; omega
          clear HST HN eq1 eq2 q3
          go_wp2_with (go_at_call 29; refine ((unhide CWc) _).mono ?_; rintro e w' ⟨rfl, hw⟩; obtain rfl := hw.symm; clear hw)
          go_roundw
          case rel => exact ⟨i + 1, _, _, by omega, by go_num, rfl, rfl, HR, HD, HX, HF⟩
          case measure => simp [intOf]; omega
        · have t3 : (s.d == 0) = false := by simpa using q3
          have t4 : (c == 46) = false := by rw [beq_eq_false_iff_ne]; omega
          have HR := hide ((unhide HT0) _ (by omega) ((unhide HN) _ ((unhide HST).trans ((if_neg (fun h => q3 h.2.2)).trans (if_neg (by omega))))))
          clear HST HN eq1 eq2 q3
          have P2 := hide (((unhide HX).set0 ⟨#[]⟩).set1 (.slice none 0 0))
          have F2 := hide (((unhide HF).set 0 (.string ⟨#[]⟩)).set 1 (.slice none 0 0))
          go_wp2_with (first
            | (go_at_call 29; refine ((unhide CWc) _).mono ?_; rintro e w' ⟨rfl, hw⟩; obtain rfl := hw.symm; clear hw)
            | (go_at_call 52; refine ((unhide CSc) _).mono ?_; rintro e w' ⟨rfl, hw⟩; obtain rfl := hw.symm; clear hw))
          obtain ⟨g0, g1, gf⟩ := (unhide P2).cells
          refine bodyPost_ret (v := .tuple #[.agg #[.string ⟨#[]⟩, .slice none 0 0], .bool false]) (by simp [results, Tryz.results35, go_sem, g0, g1]; try rfl) rfl ((unhide NO) (unhide HR) ?_)
          exact (unhide B1).trans ((unhide F2).below (Nat.le_refl _) (by omega))
      · have eq1 : (decide (49 ≤ c) && decide (c ≤ 57)) = false := by simp; omega
        rw [eq1] at CWc
        by_cases r : 97 ≤ c ∧ c ≤ 122
        · have eq2 : (decide (97 ≤ c) && decide (c ≤ 122)) = true := by simp [r.1, r.2]
          rw [eq2] at CSc
          have HR := hide ((unhide HN) _ ((unhide HST).trans ((if_neg (by omega)).trans (if_pos (.inl r)))))
          clear HST HN eq1 eq2
          go_wp2_with (first
            | (go_at_call 29; refine ((unhide CWc) _).mono ?_; rintro e w' ⟨rfl, hw⟩; obtain rfl := hw.symm; clear hw)
            | (go_at_call 52; refine ((unhide CSc) _).mono ?_; rintro e w' ⟨rfl, hw⟩; obtain rfl := hw.symm; clear hw))
          refine (wpIn_wide (n := 1)).1 ?_
          refine region_inv hmx (fun lf ac w' => ∃ (b0 b1 b2 b3 b4 b5 b6 b7 b8 b9 b10 b11 : Bool) (h1 : Nat) (vl : Value) (h2 : Nat) (vd : Value), lf = #[b0, b1, b2, b3, b4, b5, b6, b7, b8, b9, b10, b11] ∧ ac = { tmps := #[.string t, undef, .pointer (some ⟨w.heap.size, 0, none⟩), u3, (bif b9 then vl else .slice a5 s.L.length c5), .int .u8 s.d, .bool s.b, undef, .int .u8 c, .string t, .int .i64 (t.size : Int), .bool false, undef, .string t, .slice (some ⟨w.heap.size + 1, 0, none⟩) t.size cp, .int .i64 (t.size : Int), .int .i64 (i : Int), .bool true, .pointer (some ⟨w.heap.size + 1, i, none⟩), .int .u8 c, u20, .bool false, .int .u8 c, .int .i64 c, .bool false, .bool false, undef, undef, .bool false, u29, u30, .bool true, .int .u8 c, .bool true, .bool true, undef, undef, undef, .bool true, (bif b0 then .slice a5 s.L.length c5 else u39), (bif b1 then .int .u8 c else u40), (bif b2 then .slice (some ⟨h1, 0, none⟩) 1 1 else u41), (bif b3 then vl else u42), (bif b4 then .pointer (some ⟨w.heap.size, 1, none⟩) else u43), (bif b5 then .slice a6 s.L.length c6 else u44), (bif b6 then .int .u8 s.d else u45), (bif b7 then .slice (some ⟨h2, 0, none⟩) 1 1 else u46), (bif b8 then vd else u47), (bif b10 then .pointer (some ⟨w.heap.size, 1, none⟩) else u48), u49, undef, undef, undef, undef, undef, undef, undef, undef, undef, undef, undef, undef, undef, undef, undef], defers := [] } ∧ Hid (Sg (w.heap.size + 2) w' (bif b3 then vl else .slice a5 s.L.length c5) (bif b8 then vd else .slice a6 s.L.length c6) (bif b3 then s.L.length + 1 else s.L.length) (bif b8 then s.L.length + 1 else s.L.length) (bif b3 then u8s s.L ++ [.int .u8 c] else u8s s.L) (bif b8 then u8s s.D ++ [.int .u8 s.d] else u8s s.D) (bif b2 && !b3 then some h1 else none) (bif b7 && !b8 then some h2 else none) (.int .u8 c) (.int .u8 s.d)) ∧ Hid (PBox w' w.heap.size ⟨#[]⟩ (bif b11 then vd else .slice a6 s.L.length c6)) ∧ Hid (Fr (w.heap.size + 2) w.heap.size w1 w') ∧ (b3 = true → b0 = true ∧ b2 = true) ∧ (b8 = true → b7 = true ∧ b5 = true ∧ b3 = true) ∧ (b11 = true → b8 = true) ∧ (b9 = true → b3 = true ∧ b8 = true)) (by kernel_rfl) ?size ?first ?step ?last
          case size =>
            rintro lf ac w' ⟨b0, b1, b2, b3, b4, b5, b6, b7, b8, b9, b10, b11, h1, vl, h2, vd, rfl, _⟩
            rfl
          case first => exact ⟨false, false, false, false, false, false, false, false, false, false, false, false, 0, undef, 0, undef, rfl, rfl, hide ⟨⟨(unhide HD).o1, (unhide HD).o2, (unhide HD).d12⟩, (fun k e => by cases e), (fun k e => by cases e)⟩, HX, hide ((unhide HF).trans (Fr.of (bdrew (Below.refl _ wr) 1))), (fun h => by cases h), (fun h => by cases h), (fun h => by cases h), (fun h => by cases h)⟩
          case step =>
            rintro ii lf ac w' ⟨b0, b1, b2, b3, b4, b5, b6, b7, b8, b9, b10, b11, h1, vl, h2, vd, rfl, rfl, hS, hX, hF, h3, h8, h11, h9⟩ hr
            have hr := mem_ready.1 hr
            rcases ii with _ | _ | _ | _ | _ | _ | _ | _ | _ | _ | _ | _ | ii
            · simp [Region.binds] at hr
              repeat (rcases hr with ⟨hq, hr⟩)
              subst_vars
              obtain rfl : b3 = false := by cases b3 <;> simp_all
              obtain rfl : b9 = false := by cases b9 <;> simp_all
              refine wpOpIn_step rfl (fun K hK => ?_)
              go_simp
              refine hK _ _ ⟨true, _, _, _, _, _, _, _, _, _, _, _, h1, vl, h2, vd, rfl, rfl, hS, hX, hF, (fun h => by cases h), h8, h11, (fun h => by cases h)⟩
            · simp [Region.binds] at hr
              repeat (rcases hr with ⟨hq, hr⟩)
              subst_vars
              refine wpOpIn_step rfl (fun K hK => ?_)
              go_simp
              refine hK _ _ ⟨_, true, _, _, _, _, _, _, _, _, _, _, h1, vl, h2, vd, rfl, rfl, hS, hX, hF, h3, h8, h11, h9⟩
            · simp [Region.binds] at hr
              repeat (rcases hr with ⟨hq, hr⟩)
              subst_vars
              obtain rfl : b3 = false := by cases b3 <;> simp_all
              obtain rfl : b8 = false := by cases b8 <;> simp_all
              obtain rfl : b11 = false := by cases b11 <;> simp_all
              obtain rfl : b9 = false := by cases b9 <;> simp_all
              have S2 := hide (unhide hS).buildL
              have X2 := hide ((unhide hX).kept (Below.heap_alloc w' (.cells #[.int .u8 c] 5) w.heap.size (lt_of_block (unhide hX))))
              have F2 := hide ((unhide hF).alloc (by have := (unhide hF).size; omega) (.cells #[.int .u8 c] 5))
              refine wpOpIn_step rfl (fun K hK => ?_)
              go_simp
              refine hK _ _ ⟨_, _, true, _, _, _, _, _, _, _, _, _, w'.heap.size, vl, h2, vd, rfl, rfl, S2, X2, F2, (fun h => by cases h), (fun h => by cases h), (fun h => by cases h), (fun h => by cases h)⟩
            · simp [Region.binds] at hr
              repeat (rcases hr with ⟨hq, hr⟩)
              subst_vars
              obtain rfl : b8 = false := by cases b8 <;> simp_all
              obtain rfl : b11 = false := by cases b11 <;> simp_all
              obtain rfl : b9 = false := by cases b9 <;> simp_all
              have q1 := (unhide hS).cL h1 rfl
              refine wpOpIn_step rfl (fun K hK => ?_)
              refine step_appI w' (by rfl) (.tmp 39) (.tmp 41) 22 rfl (w.heap.size + 2) 5 i0 (.int .u8 0) 1 1 Tryz.underlying22 hi hz0 hz1 hz2 rfl (by decide) (.slice a5 s.L.length c5) s.L.length (u8s s.L) (by rfl) (unhide hS).dw.o1 ⟨h1, 0, none⟩ 1 1 [.int .u8 c] (by rfl) rfl (by intro j u hu; match j, hu with | 0, hu => (simp at hu; subst hu; simpa [Addr.add] using q1.1) | j + 1, hu => (simp at hu)) (by intro u hu; simp at hu; subst hu; rfl) (by unfold maxLen; omega) (by omega) (by have := (unhide hF).size; omega) ?_
              intro vl' w4 ho hg hk
              have S2 := hide ((unhide hS).appL ho hg hk)
              have X2 := hide ((unhide hX).kept (hg.block _ (lt_of_block (unhide hX)) (fun e => by have := ((unhide hS).dw.o1.lt _ e.symm).1; omega)))
              have F2 := hide ((unhide hF).grown (by have := (unhide hF).size; omega) hg (fun k e => .inl ((unhide hS).dw.o1.lt _ e).1))
              refine hK _ _ ⟨_, _, _, true, _, _, _, _, _, _, _, _, h1, vl', h2, vd, rfl, rfl, S2, X2, F2, (fun _ => ⟨rfl, rfl⟩), (fun h => by cases h), (fun h => by cases h), (fun h => by cases h)⟩
            · simp [Region.binds] at hr
              repeat (rcases hr with ⟨hq, hr⟩)
              subst_vars
              refine wpOpIn_step rfl (fun K hK => ?_)
              go_simp
              refine hK _ _ ⟨_, _, _, _, true, _, _, _, _, _, _, _, h1, vl, h2, vd, rfl, rfl, hS, hX, hF, h3, h8, h11, h9⟩
            · simp [Region.binds] at hr
              repeat (rcases hr with ⟨hq, hr⟩)
              subst_vars
              obtain rfl : b8 = false := by cases b8 <;> simp_all
              obtain rfl : b11 = false := by cases b11 <;> simp_all
              obtain rfl : b9 = false := by cases b9 <;> simp_all
              obtain ⟨k0, k1, kf⟩ := (unhide hX).cells
              simp only [cond_false] at k1
              refine wpOpIn_step rfl (fun K hK => ?_)
              go_simp
              refine hK _ _ ⟨_, _, _, _, _, true, _, _, _, _, _, _, h1, vl, h2, vd, rfl, rfl, hS, hX, hF, h3, (fun h => by cases h), h11, (fun h => by cases h)⟩
            · simp [Region.binds] at hr
              repeat (rcases hr with ⟨hq, hr⟩)
              subst_vars
              refine wpOpIn_step rfl (fun K hK => ?_)
              go_simp
              refine hK _ _ ⟨_, _, _, _, _, _, true, _, _, _, _, _, h1, vl, h2, vd, rfl, rfl, hS, hX, hF, h3, h8, h11, h9⟩
            · simp [Region.binds] at hr
              repeat (rcases hr with ⟨hq, hr⟩)
              subst_vars
              obtain rfl : b8 = false := by cases b8 <;> simp_all
              obtain rfl : b11 = false := by cases b11 <;> simp_all
              obtain rfl : b9 = false := by cases b9 <;> simp_all
              have S2 := hide (Sg.buildD (unhide hS))
              have X2 := hide ((unhide hX).kept (Below.heap_alloc w' (.cells #[.int .u8 s.d] 5) w.heap.size (lt_of_block (unhide hX))))
              have F2 := hide ((unhide hF).alloc (by have := (unhide hF).size; omega) (.cells #[.int .u8 s.d] 5))
              refine wpOpIn_step rfl (fun K hK => ?_)
              go_simp
              refine hK _ _ ⟨_, _, _, _, _, _, _, true, _, _, _, _, h1, vl, w'.heap.size, vd, rfl, rfl, S2, X2, F2, h3, (fun h => by cases h), (fun h => by cases h), (fun h => by cases h)⟩
            · simp [Region.binds] at hr
              repeat (rcases hr with ⟨hq, hr⟩)
              subst_vars
              obtain rfl : b11 = false := by cases b11 <;> simp_all
              obtain rfl : b9 = false := by cases b9 <;> simp_all
              have q1 := (unhide hS).cD h2 rfl
              refine wpOpIn_step rfl (fun K hK => ?_)
              refine step_appI w' (by rfl) (.tmp 44) (.tmp 46) 22 rfl (w.heap.size + 2) 5 i0 (.int .u8 0) 1 1 Tryz.underlying22 hi hz0 hz1 hz2 rfl (by decide) (.slice a6 s.L.length c6) s.L.length (u8s s.D) (by rfl) (unhide hS).dw.o2 ⟨h2, 0, none⟩ 1 1 [.int .u8 s.d] (by rfl) rfl (by intro j u hu; match j, hu with | 0, hu => (simp at hu; subst hu; simpa [Addr.add] using q1.1) | j + 1, hu => (simp at hu)) (by intro u hu; simp at hu; subst hu; rfl) (by unfold maxLen; omega) (by omega) (by have := (unhide hF).size; omega) ?_
              intro vd' w4 ho hg hk
              have S2 := hide ((unhide hS).appD ho hg hk)
              have X2 := hide ((unhide hX).kept (hg.block _ (lt_of_block (unhide hX)) (fun e => by have := ((unhide hS).dw.o2.lt _ e.symm).1; omega)))
              have F2 := hide ((unhide hF).grown (by have := (unhide hF).size; omega) hg (fun k e => .inl ((unhide hS).dw.o2.lt _ e).1))
              refine hK _ _ ⟨_, _, _, _, _, _, _, _, true, _, _, _, h1, vl, h2, vd', rfl, rfl, S2, X2, F2, h3, (fun _ => ⟨rfl, rfl, rfl⟩), (fun h => by cases h), (fun h => by cases h)⟩
            · simp [Region.binds] at hr
              repeat (rcases hr with ⟨hq, hr⟩)
              subst_vars
              obtain ⟨e7, e5, _⟩ := h8 rfl
              subst e7
              subst e5
              refine wpOpIn_step rfl (fun K hK => ?_)
              go_simp
              refine hK _ _ ⟨_, _, _, _, _, _, _, _, _, true, _, _, h1, vl, h2, vd, rfl, rfl, hS, hX, hF, h3, h8, h11, (fun _ => ⟨rfl, rfl⟩)⟩
            · simp [Region.binds] at hr
              repeat (rcases hr with ⟨hq, hr⟩)
              subst_vars
              refine wpOpIn_step rfl (fun K hK => ?_)
              go_simp
              refine hK _ _ ⟨_, _, _, _, _, _, _, _, _, _, true, _, h1, vl, h2, vd, rfl, rfl, hS, hX, hF, h3, h8, h11, h9⟩
            · simp [Region.binds] at hr
              repeat (rcases hr with ⟨hq, hr⟩)
              subst_vars
              obtain ⟨k0, k1, kf⟩ := (unhide hX).cells
              have kf1 := kf 1
              simp only [cond_false] at k1
              have e7 := (h8 rfl).1
              have e2 := (h3 rfl).2
              try subst e7
              try subst e2
              have q8 := (unhide hS).dw.o2
              simp only [cond_true] at q8
              obtain ⟨a8, c8, rfl, _⟩ := row_frm q8
              have S2 := hide ((unhide hS).setB (p := w.heap.size) (by omega) 1 (.slice a8 (s.L.length + 1) c8))
              have X2 := hide ((unhide hX).set1 (.slice a8 (s.L.length + 1) c8))
              have F2 := hide ((unhide hF).set 1 (.slice a8 (s.L.length + 1) c8))
              refine wpOpIn_step rfl (fun K hK => ?_)
              go_simp
              refine hK _ _ ⟨_, _, _, _, _, _, _, _, _, _, _, true, h1, vl, h2, .slice a8 (s.L.length + 1) c8, rfl, rfl, S2, X2, F2, h3, h8, (fun _ => rfl), h9⟩
            · simp at hr
          case last =>
            rintro ac W4 ⟨f0, f1, f2, f3, f4, f5, f6, f7, f8, f9, f10, f11, h1, vl, h2, vd, hlf, rfl, hS, hX, hF, h3, h8, h11, h9⟩
            have hlf := congrArg Array.toList hlf
            simp at hlf
            repeat (rcases hlf with ⟨hq, hlf⟩)
            subst_vars
            clear h3 h8 h11 h9
            have D4 : Hid (Dw (w.heap.size + 2) W4 5 5 vl vd (s.L.length + 1) (s.L.length + 1) (u8s (s.L ++ [c])) (u8s (s.D ++ [s.d]))) := hide (by
              have := (unhide hS).dw
              simpa [u8s] using this)
            clear hS
            go_wp2_with fail
            go_roundw
            case rel => exact ⟨i + 1, ⟨s.L ++ [c], s.D ++ [s.d], 0, s.b⟩, vd, by omega, by go_num, rfl, rfl, HR, (by simpa using D4), hX, hF⟩
            case measure => simp [intOf]; omega
        · have eq2 : (decide (97 ≤ c) && decide (c ≤ 122)) = false := by simp; omega
          rw [eq2] at CSc
          by_cases r2 : c = 46
          · have t4 : (c == 46) = true := by simpa using r2
            have HR := hide ((unhide HN) _ ((unhide HST).trans ((if_neg (by omega)).trans (if_pos (.inr r2)))))
            clear HST HN eq1 eq2 r2 r q
            go_wp2_with (first
              | (go_at_call 29; refine ((unhide CWc) _).mono ?_; rintro e w' ⟨rfl, hw⟩; obtain rfl := hw.symm; clear hw)
              | (go_at_call 52; refine ((unhide CSc) _).mono ?_; rintro e w' ⟨rfl, hw⟩; obtain rfl := hw.symm; clear hw))
            refine (wpIn_wide (n := 1)).1 ?_
            refine region_inv hmx (fun lf ac w' => ∃ (b0 b1 b2 b3 b4 b5 b6 b7 b8 b9 b10 b11 : Bool) (h1 : Nat) (vl : Value) (h2 : Nat) (vd : Value), lf = #[b0, b1, b2, b3, b4, b5, b6, b7, b8, b9, b10, b11] ∧ ac = { tmps := #[.string t, undef, .pointer (some ⟨w.heap.size, 0, none⟩), u3, (bif b9 then vl else .slice a5 s.L.length c5), .int .u8 s.d, .bool s.b, undef, .int .u8 c, .string t, .int .i64 (t.size : Int), .bool false, undef, .string t, .slice (some ⟨w.heap.size + 1, 0, none⟩) t.size cp, .int .i64 (t.size : Int), .int .i64 (i : Int), .bool true, .pointer (some ⟨w.heap.size + 1, i, none⟩), .int .u8 c, u20, .bool false, .int .u8 c, .int .i64 c, .bool false, .bool false, undef, undef, .bool false, u29, u30, .bool true, .int .u8 c, .bool false, .bool false, .int .u8 c, .int .u8 46, .bool true, .bool true, (bif b0 then .slice a5 s.L.length c5 else u39), (bif b1 then .int .u8 c else u40), (bif b2 then .slice (some ⟨h1, 0, none⟩) 1 1 else u41), (bif b3 then vl else u42), (bif b4 then .pointer (some ⟨w.heap.size, 1, none⟩) else u43), (bif b5 then .slice a6 s.L.length c6 else u44), (bif b6 then .int .u8 s.d else u45), (bif b7 then .slice (some ⟨h2, 0, none⟩) 1 1 else u46), (bif b8 then vd else u47), (bif b10 then .pointer (some ⟨w.heap.size, 1, none⟩) else u48), u49, undef, undef, undef, undef, undef, undef, undef, undef, undef, undef, undef, undef, undef, undef, undef], defers := [] } ∧ Hid (Sg (w.heap.size + 2) w' (bif b3 then vl else .slice a5 s.L.length c5) (bif b8 then vd else .slice a6 s.L.length c6) (bif b3 then s.L.length + 1 else s.L.length) (bif b8 then s.L.length + 1 else s.L.length) (bif b3 then u8s s.L ++ [.int .u8 c] else u8s s.L) (bif b8 then u8s s.D ++ [.int .u8 s.d] else u8s s.D) (bif b2 && !b3 then some h1 else none) (bif b7 && !b8 then some h2 else none) (.int .u8 c) (.int .u8 s.d)) ∧ Hid (PBox w' w.heap.size ⟨#[]⟩ (bif b11 then vd else .slice a6 s.L.length c6)) ∧ Hid (Fr (w.heap.size + 2) w.heap.size w1 w') ∧ (b3 = true → b0 = true ∧ b2 = true) ∧ (b8 = true → b7 = true ∧ b5 = true ∧ b3 = true) ∧ (b11 = true → b8 = true) ∧ (b9 = true → b3 = true ∧ b8 = true)) (by kernel_rfl) ?size ?first ?step ?last
            case size =>
              rintro lf ac w' ⟨b0, b1, b2, b3, b4, b5, b6, b7, b8, b9, b10, b11, h1, vl, h2, vd, rfl, _⟩
              rfl
            case first => exact ⟨false, false, false, false, false, false, false, false, false, false, false, false, 0, undef, 0, undef, rfl, rfl, hide ⟨⟨(unhide HD).o1, (unhide HD).o2, (unhide HD).d12⟩, (fun k e => by cases e), (fun k e => by cases e)⟩, HX, hide ((unhide HF).trans (Fr.of (bdrew (Below.refl _ wr) 1))), (fun h => by cases h), (fun h => by cases h), (fun h => by cases h), (fun h => by cases h)⟩
            case step =>
              rintro ii lf ac w' ⟨b0, b1, b2, b3, b4, b5, b6, b7, b8, b9, b10, b11, h1, vl, h2, vd, rfl, rfl, hS, hX, hF, h3, h8, h11, h9⟩ hr
              have hr := mem_ready.1 hr
              rcases ii with _ | _ | _ | _ | _ | _ | _ | _ | _ | _ | _ | _ | ii
              · simp [Region.binds] at hr
                repeat (rcases hr with ⟨hq, hr⟩)
                subst_vars
                obtain rfl : b3 = false := by cases b3 <;> simp_all
                obtain rfl : b9 = false := by cases b9 <;> simp_all
                refine wpOpIn_step rfl (fun K hK => ?_)
                go_simp
                refine hK _ _ ⟨true, _, _, _, _, _, _, _, _, _, _, _, h1, vl, h2, vd, rfl, rfl, hS, hX, hF, (fun h => by cases h), h8, h11, (fun h => by cases h)⟩
              · simp [Region.binds] at hr
                repeat (rcases hr with ⟨hq, hr⟩)
                subst_vars
                refine wpOpIn_step rfl (fun K hK => ?_)
                go_simp
                refine hK _ _ ⟨_, true, _, _, _, _, _, _, _, _, _, _, h1, vl, h2, vd, rfl, rfl, hS, hX, hF, h3, h8, h11, h9⟩
              · simp [Region.binds] at hr
                repeat (rcases hr with ⟨hq, hr⟩)
                subst_vars
                obtain rfl : b3 = false := by cases b3 <;> simp_all
                obtain rfl : b8 = false := by cases b8 <;> simp_all
                obtain rfl : b11 = false := by cases b11 <;> simp_all
                obtain rfl : b9 = false := by cases b9 <;> simp_all
                have S2 := hide (unhide hS).buildL
                have X2 := hide ((unhide hX).kept (Below.heap_alloc w' (.cells #[.int .u8 c] 5) w.heap.size (lt_of_block (unhide hX))))
                have F2 := hide ((unhide hF).alloc (by have := (unhide hF).size; omega) (.cells #[.int .u8 c] 5))
                refine wpOpIn_step rfl (fun K hK => ?_)
                go_simp
                refine hK _ _ ⟨_, _, true, _, _, _, _, _, _, _, _, _, w'.heap.size, vl, h2, vd, rfl, rfl, S2, X2, F2, (fun h => by cases h), (fun h => by cases h), (fun h => by cases h), (fun h => by cases h)⟩
              · simp [Region.binds] at hr
                repeat (rcases hr with ⟨hq, hr⟩)
                subst_vars
                obtain rfl : b8 = false := by cases b8 <;> simp_all
                obtain rfl : b11 = false := by cases b11 <;> simp_all
                obtain rfl : b9 = false := by cases b9 <;> simp_all
                have q1 := (unhide hS).cL h1 rfl
                refine wpOpIn_step rfl (fun K hK => ?_)
                refine step_appI w' (by rfl) (.tmp 39) (.tmp 41) 22 rfl (w.heap.size + 2) 5 i0 (.int .u8 0) 1 1 Tryz.underlying22 hi hz0 hz1 hz2 rfl (by decide) (.slice a5 s.L.length c5) s.L.length (u8s s.L) (by rfl) (unhide hS).dw.o1 ⟨h1, 0, none⟩ 1 1 [.int .u8 c] (by rfl) rfl (by intro j u hu; match j, hu with | 0, hu => (simp at hu; subst hu; simpa [Addr.add] using q1.1) | j + 1, hu => (simp at hu)) (by intro u hu; simp at hu; subst hu; rfl) (by unfold maxLen; omega) (by omega) (by have := (unhide hF).size; omega) ?_
                intro vl' w4 ho hg hk
                have S2 := hide ((unhide hS).appL ho hg hk)
                have X2 := hide ((unhide hX).kept (hg.block _ (lt_of_block (unhide hX)) (fun e => by have := ((unhide hS).dw.o1.lt _ e.symm).1; omega)))
                have F2 := hide ((unhide hF).grown (by have := (unhide hF).size; omega) hg (fun k e => .inl ((unhide hS).dw.o1.lt _ e).1))
                refine hK _ _ ⟨_, _, _, true, _, _, _, _, _, _, _, _, h1, vl', h2, vd, rfl, rfl, S2, X2, F2, (fun _ => ⟨rfl, rfl⟩), (fun h => by cases h), (fun h => by cases h), (fun h => by cases h)⟩
              · simp [Region.binds] at hr
                repeat (rcases hr with ⟨hq, hr⟩)
                subst_vars
                refine wpOpIn_step rfl (fun K hK => ?_)
                go_simp
                refine hK _ _ ⟨_, _, _, _, true, _, _, _, _, _, _, _, h1, vl, h2, vd, rfl, rfl, hS, hX, hF, h3, h8, h11, h9⟩
              · simp [Region.binds] at hr
                repeat (rcases hr with ⟨hq, hr⟩)
                subst_vars
                obtain rfl : b8 = false := by cases b8 <;> simp_all
                obtain rfl : b11 = false := by cases b11 <;> simp_all
                obtain rfl : b9 = false := by cases b9 <;> simp_all
                obtain ⟨k0, k1, kf⟩ := (unhide hX).cells
                simp only [cond_false] at k1
                refine wpOpIn_step rfl (fun K hK => ?_)
                go_simp
                refine hK _ _ ⟨_, _, _, _, _, true, _, _, _, _, _, _, h1, vl, h2, vd, rfl, rfl, hS, hX, hF, h3, (fun h => by cases h), h11, (fun h => by cases h)⟩
              · simp [Region.binds] at hr
                repeat (rcases hr with ⟨hq, hr⟩)
                subst_vars
                refine wpOpIn_step rfl (fun K hK => ?_)
                go_simp
                refine hK _ _ ⟨_, _, _, _, _, _, true, _, _, _, _, _, h1, vl, h2, vd, rfl, rfl, hS, hX, hF, h3, h8, h11, h9⟩
              · simp [Region.binds] at hr
                repeat (rcases hr with ⟨hq, hr⟩)
                subst_vars
                obtain rfl : b8 = false := by cases b8 <;> simp_all
                obtain rfl : b11 = false := by cases b11 <;> simp_all
                obtain rfl : b9 = false := by cases b9 <;> simp_all
                have S2 := hide (Sg.buildD (unhide hS))
                have X2 := hide ((unhide hX).kept (Below.heap_alloc w' (.cells #[.int .u8 s.d] 5) w.heap.size (lt_of_block (unhide hX))))
                have F2 := hide ((unhide hF).alloc (by have := (unhide hF).size; omega) (.cells #[.int .u8 s.d] 5))
                refine wpOpIn_step rfl (fun K hK => ?_)
                go_simp
                refine hK _ _ ⟨_, _, _, _, _, _, _, true, _, _, _, _, h1, vl, w'.heap.size, vd, rfl, rfl, S2, X2, F2, h3, (fun h => by cases h), (fun h => by cases h), (fun h => by cases h)⟩
              · simp [Region.binds] at hr
                repeat (rcases hr with ⟨hq, hr⟩)
                subst_vars
                obtain rfl : b11 = false := by cases b11 <;> simp_all
                obtain rfl : b9 = false := by cases b9 <;> simp_all
                have q1 := (unhide hS).cD h2 rfl
                refine wpOpIn_step rfl (fun K hK => ?_)
                refine step_appI w' (by rfl) (.tmp 44) (.tmp 46) 22 rfl (w.heap.size + 2) 5 i0 (.int .u8 0) 1 1 Tryz.underlying22 hi hz0 hz1 hz2 rfl (by decide) (.slice a6 s.L.length c6) s.L.length (u8s s.D) (by rfl) (unhide hS).dw.o2 ⟨h2, 0, none⟩ 1 1 [.int .u8 s.d] (by rfl) rfl (by intro j u hu; match j, hu with | 0, hu => (simp at hu; subst hu; simpa [Addr.add] using q1.1) | j + 1, hu => (simp at hu)) (by intro u hu; simp at hu; subst hu; rfl) (by unfold maxLen; omega) (by omega) (by have := (unhide hF).size; omega) ?_
                intro vd' w4 ho hg hk
                have S2 := hide ((unhide hS).appD ho hg hk)
                have X2 := hide ((unhide hX).kept (hg.block _ (lt_of_block (unhide hX)) (fun e => by have := ((unhide hS).dw.o2.lt _ e.symm).1; omega)))
                have F2 := hide ((unhide hF).grown (by have := (unhide hF).size; omega) hg (fun k e => .inl ((unhide hS).dw.o2.lt _ e).1))
                refine hK _ _ ⟨_, _, _, _, _, _, _, _, true, _, _, _, h1, vl, h2, vd', rfl, rfl, S2, X2, F2, h3, (fun _ => ⟨rfl, rfl, rfl⟩), (fun h => by cases h), (fun h => by cases h)⟩
              · simp [Region.binds] at hr
                repeat (rcases hr with ⟨hq, hr⟩)
                subst_vars
                obtain ⟨e7, e5, _⟩ := h8 rfl
                subst e7
                subst e5
                refine wpOpIn_step rfl (fun K hK => ?_)
                go_simp
                refine hK _ _ ⟨_, _, _, _, _, _, _, _, _, true, _, _, h1, vl, h2, vd, rfl, rfl, hS, hX, hF, h3, h8, h11, (fun _ => ⟨rfl, rfl⟩)⟩
              · simp [Region.binds] at hr
                repeat (rcases hr with ⟨hq, hr⟩)
                subst_vars
                refine wpOpIn_step rfl (fun K hK => ?_)
                go_simp
                refine hK _ _ ⟨_, _, _, _, _, _, _, _, _, _, true, _, h1, vl, h2, vd, rfl, rfl, hS, hX, hF, h3, h8, h11, h9⟩
              · simp [Region.binds] at hr
                repeat (rcases hr with ⟨hq, hr⟩)
                subst_vars
                obtain ⟨k0, k1, kf⟩ := (unhide hX).cells
                have kf1 := kf 1
                simp only [cond_false] at k1
                have e7 := (h8 rfl).1
                have e2 := (h3 rfl).2
                try subst e7
                try subst e2
                have q8 := (unhide hS).dw.o2
                simp only [cond_true] at q8
                obtain ⟨a8, c8, rfl, _⟩ := row_frm q8
                have S2 := hide ((unhide hS).setB (p := w.heap.size) (by omega) 1 (.slice a8 (s.L.length + 1) c8))
                have X2 := hide ((unhide hX).set1 (.slice a8 (s.L.length + 1) c8))
                have F2 := hide ((unhide hF).set 1 (.slice a8 (s.L.length + 1) c8))
                refine wpOpIn_step rfl (fun K hK => ?_)
                go_simp
                refine hK _ _ ⟨_, _, _, _, _, _, _, _, _, _, _, true, h1, vl, h2, .slice a8 (s.L.length + 1) c8, rfl, rfl, S2, X2, F2, h3, h8, (fun _ => rfl), h9⟩
              · simp at hr
            case last =>
              rintro ac W4 ⟨f0, f1, f2, f3, f4, f5, f6, f7, f8, f9, f10, f11, h1, vl, h2, vd, hlf, rfl, hS, hX, hF, h3, h8, h11, h9⟩
              have hlf := congrArg Array.toList hlf
              simp at hlf
              repeat (rcases hlf with ⟨hq, hlf⟩)
              subst_vars
              clear h3 h8 h11 h9
              have D4 : Hid (Dw (w.heap.size + 2) W4 5 5 vl vd (s.L.length + 1) (s.L.length + 1) (u8s (s.L ++ [c])) (u8s (s.D ++ [s.d]))) := hide (by
                have := (unhide hS).dw
                simpa [u8s] using this)
              clear hS
              go_wp2_with fail
              go_roundw
              case rel => exact ⟨i + 1, ⟨s.L ++ [c], s.D ++ [s.d], 0, s.b⟩, vd, by omega, by go_num, rfl, rfl, HR, (by simpa using D4), hX, hF⟩
              case measure => simp [intOf]; omega
          · have t4 : (c == 46) = false := by simpa using r2
            have HR := hide ((unhide HT0) _ (by omega) ((unhide HN) _ ((unhide HST).trans ((if_neg (by omega)).trans (if_neg (by omega))))))
            clear HST HN eq1 eq2 r2 r q
            have P2 := hide (((unhide HX).set0 ⟨#[]⟩).set1 (.slice none 0 0))
            have F2 := hide (((unhide HF).set 0 (.string ⟨#[]⟩)).set 1 (.slice none 0 0))
            go_wp2_with (first
              | (go_at_call 29; refine ((unhide CWc) _).mono ?_; rintro e w' ⟨rfl, hw⟩; obtain rfl := hw.symm; clear hw)
              | (go_at_call 52; refine ((unhide CSc) _).mono ?_; rintro e w' ⟨rfl, hw⟩; obtain rfl := hw.symm; clear hw))
            obtain ⟨g0, g1, gf⟩ := (unhide P2).cells
            refine bodyPost_ret (v := .tuple #[.agg #[.string ⟨#[]⟩, .slice none 0 0], .bool false]) (by simp [results, Tryz.results35, go_sem, g0, g1]; try rfl) rfl ((unhide NO) (unhide HR) ?_)
            exact (unhide B1).trans ((unhide F2).below (Nat.le_refl _) (by omega))
    · obtain rfl : i = t.size := by omega
      have HRT := hide ((unhide HT1) s (unhide HP))
      have HPR := hide (unhide HP)
      clear HP x0 x1 xf
      go_wp2_with fail
      refine (wpIn_wide (n := 1)).1 ?_
      refine region_inv hmx (fun lf ac w' => ∃ (b0 b1 b2 b3 b4 b5 b6 b7 b8 b9 b10 : Bool) (h2 : Nat) (vd : Value), lf = #[b0, b1, b2, b3, b4, b5, b6, b7, b8, b9, b10] ∧ ac = { tmps := #[.string t, undef, .pointer (some ⟨w.heap.size, 0, none⟩), u3, .slice a5 s.L.length c5, .int .u8 s.d, .bool s.b, undef, u8, .string t, .int .i64 (t.size : Int), .bool false, undef, .string t, .slice (some ⟨w.heap.size + 1, 0, none⟩) t.size cp, .int .i64 (t.size : Int), .int .i64 (t.size : Int), .bool false, u18, u19, u20, u21, u22, u23, u24, u25, u26, u27, u28, u29, u30, u31, u32, u33, u34, u35, u36, u37, u38, u39, u40, u41, u42, u43, u44, u45, u46, u47, u48, u49, (bif b0 then .slice a5 s.L.length c5 else undef), (bif b1 then .string (strOfNums s.L) else undef), (bif b2 then .pointer (some ⟨w.heap.size, 1, none⟩) else undef), (bif b3 then .slice a6 s.L.length c6 else undef), (bif b4 then .int .u8 s.d else undef), (bif b5 then .slice (some ⟨h2, 0, none⟩) 1 1 else undef), (bif b6 then vd else undef), (bif b7 then .pointer (some ⟨w.heap.size, 0, none⟩) else undef), (bif b9 then .pointer (some ⟨w.heap.size, 1, none⟩) else undef), undef, undef, undef, undef, undef, undef], defers := [] } ∧ Hid (Sg (w.heap.size + 2) w' (.slice a5 s.L.length c5) (bif b6 then vd else .slice a6 s.L.length c6) s.L.length (bif b6 then s.L.length + 1 else s.L.length) (u8s s.L) (bif b6 then u8s s.D ++ [.int .u8 s.d] else u8s s.D) none (bif b5 && !b6 then some h2 else none) (.int .u8 s.d) (.int .u8 s.d)) ∧ Hid (PBox w' w.heap.size (bif b8 then strOfNums s.L else ⟨#[]⟩) (bif b10 then vd else .slice a6 s.L.length c6)) ∧ Hid (Fr (w.heap.size + 2) w.heap.size w1 w') ∧ (b6 = true → b5 = true ∧ b3 = true) ∧ (b10 = true → b6 = true)) (by kernel_rfl) ?size ?first ?step ?last
      case size =>
        rintro lf ac w' ⟨b0, b1, b2, b3, b4, b5, b6, b7, b8, b9, b10, h2, vd, rfl, _⟩
        rfl
      case first => exact ⟨false, false, false, false, false, false, false, false, false, false, false, 0, undef, rfl, rfl, hide ⟨⟨(unhide HD).o1, (unhide HD).o2, (unhide HD).d12⟩, (fun k e => by cases e), (fun k e => by cases e)⟩, HX, hide ((unhide HF).trans (Fr.of (bdrew (Below.refl _ wr) 1))), (fun h => by cases h), (fun h => by cases h)⟩
      case step =>
        rintro ii lf ac w' ⟨b0, b1, b2, b3, b4, b5, b6, b7, b8, b9, b10, h2, vd, rfl, rfl, hS, hX, hF, h6, h10⟩ hr
        have hr := mem_ready.1 hr
        rcases ii with _ | _ | _ | _ | _ | _ | _ | _ | _ | _ | _ | ii
        · simp [Region.binds] at hr
          repeat (rcases hr with ⟨hq, hr⟩)
          subst_vars
          refine wpOpIn_step rfl (fun K hK => ?_)
          go_simp
          refine hK _ _ ⟨true, _, _, _, _, _, _, _, _, _, _, h2, vd, rfl, rfl, hS, hX, hF, h6, h10⟩
        · simp [Region.binds] at hr
          repeat (rcases hr with ⟨hq, hr⟩)
          subst_vars
          have hcv := conv_own w' _ _ _ s.L (unhide hS).dw.o1
          refine wpOpIn_step rfl (fun K hK => ?_)
          go_simp
          refine hK _ _ ⟨_, true, _, _, _, _, _, _, _, _, _, h2, vd, rfl, rfl, hS, hX, hF, h6, h10⟩
        · simp [Region.binds] at hr
          repeat (rcases hr with ⟨hq, hr⟩)
          subst_vars
          refine wpOpIn_step rfl (fun K hK => ?_)
          go_simp
          refine hK _ _ ⟨_, _, true, _, _, _, _, _, _, _, _, h2, vd, rfl, rfl, hS, hX, hF, h6, h10⟩
        · simp [Region.binds] at hr
          repeat (rcases hr with ⟨hq, hr⟩)
          subst_vars
          obtain rfl : b6 = false := by cases b6 <;> simp_all
          obtain rfl : b10 = false := by cases b10 <;> simp_all
          obtain ⟨k0, k1, kf⟩ := (unhide hX).cells
          simp only [cond_false] at k1
          refine wpOpIn_step rfl (fun K hK => ?_)
          go_simp
          refine hK _ _ ⟨_, _, _, true, _, _, _, _, _, _, _, h2, vd, rfl, rfl, hS, hX, hF, (fun h => by cases h), (fun h => by cases h)⟩
        · simp [Region.binds] at hr
          repeat (rcases hr with ⟨hq, hr⟩)
          subst_vars
          refine wpOpIn_step rfl (fun K hK => ?_)
          go_simp
          refine hK _ _ ⟨_, _, _, _, true, _, _, _, _, _, _, h2, vd, rfl, rfl, hS, hX, hF, h6, h10⟩
        · simp [Region.binds] at hr
          repeat (rcases hr with ⟨hq, hr⟩)
          subst_vars
          obtain rfl : b6 = false := by cases b6 <;> simp_all
          obtain rfl : b10 = false := by cases b10 <;> simp_all
          have S2 := hide (Sg.buildD (unhide hS))
          have X2 := hide ((unhide hX).kept (Below.heap_alloc w' (.cells #[.int .u8 s.d] 5) w.heap.size (lt_of_block (unhide hX))))
          have F2 := hide ((unhide hF).alloc (by have := (unhide hF).size; omega) (.cells #[.int .u8 s.d] 5))
          refine wpOpIn_step rfl (fun K hK => ?_)
          go_simp
          refine hK _ _ ⟨_, _, _, _, _, true, _, _, _, _, _, w'.heap.size, vd, rfl, rfl, S2, X2, F2, (fun h => by cases h), (fun h => by cases h)⟩
        · simp [Region.binds] at hr
          repeat (rcases hr with ⟨hq, hr⟩)
          subst_vars
          obtain rfl : b10 = false := by cases b10 <;> simp_all
          have q1 := (unhide hS).cD h2 rfl
          refine wpOpIn_step rfl (fun K hK => ?_)
          refine step_appI w' (by rfl) (.tmp 53) (.tmp 55) 22 rfl (w.heap.size + 2) 5 i0 (.int .u8 0) 1 1 Tryz.underlying22 hi hz0 hz1 hz2 rfl (by decide) (.slice a6 s.L.length c6) s.L.length (u8s s.D) (by rfl) (unhide hS).dw.o2 ⟨h2, 0, none⟩ 1 1 [.int .u8 s.d] (by rfl) rfl (by intro j u hu; match j, hu with | 0, hu => (simp at hu; subst hu; simpa [Addr.add] using q1.1) | j + 1, hu => (simp at hu)) (by intro u hu; simp at hu; subst hu; rfl) (by unfold maxLen; omega) (by omega) (by have := (unhide hF).size; omega) ?_
          intro vd' w4 ho hg hk
          have S2 := hide ((unhide hS).appD ho hg hk)
          have X2 := hide ((unhide hX).kept (hg.block _ (lt_of_block (unhide hX)) (fun e => by have := ((unhide hS).dw.o2.lt _ e.symm).1; omega)))
          have F2 := hide ((unhide hF).grown (by have := (unhide hF).size; omega) hg (fun k e => .inl ((unhide hS).dw.o2.lt _ e).1))
          refine hK _ _ ⟨_, _, _, _, _, _, true, _, _, _, _, h2, vd', rfl, rfl, S2, X2, F2, (fun _ => ⟨rfl, rfl⟩), (fun h => by cases h)⟩
        · simp [Region.binds] at hr
          repeat (rcases hr with ⟨hq, hr⟩)
          subst_vars
          refine wpOpIn_step rfl (fun K hK => ?_)
          go_simp
          refine hK _ _ ⟨_, _, _, _, _, _, _, true, _, _, _, h2, vd, rfl, rfl, hS, hX, hF, h6, h10⟩
        · simp [Region.binds] at hr
          repeat (rcases hr with ⟨hq, hr⟩)
          subst_vars
          obtain ⟨k0, k1, kf⟩ := (unhide hX).cells
          have kf1 := kf 0
          simp only [cond_false] at k0
          have e5 := (h6 rfl).1
          try subst e5
          have S2 := hide ((unhide hS).setB (p := w.heap.size) (by omega) 0 (.string (strOfNums s.L)))
          have X2 := hide ((unhide hX).set0 (strOfNums s.L))
          have F2 := hide ((unhide hF).set 0 (.string (strOfNums s.L)))
          refine wpOpIn_step rfl (fun K hK => ?_)
          go_simp
          refine hK _ _ ⟨_, _, _, _, _, _, _, _, true, _, _, h2, vd, rfl, rfl, S2, X2, F2, h6, h10⟩
        · simp [Region.binds] at hr
          repeat (rcases hr with ⟨hq, hr⟩)
          subst_vars
          refine wpOpIn_step rfl (fun K hK => ?_)
          go_simp
          refine hK _ _ ⟨_, _, _, _, _, _, _, _, _, true, _, h2, vd, rfl, rfl, hS, hX, hF, h6, h10⟩
        · simp [Region.binds] at hr
          repeat (rcases hr with ⟨hq, hr⟩)
          subst_vars
          obtain ⟨k0, k1, kf⟩ := (unhide hX).cells
          have kf1 := kf 1
          simp only [cond_false] at k1
          have e5 := (h6 rfl).1
          try subst e5
          have q8 := (unhide hS).dw.o2
          simp only [cond_true] at q8
          obtain ⟨a8, c8, rfl, _⟩ := row_frm q8
          have S2 := hide ((unhide hS).setB (p := w.heap.size) (by omega) 1 (.slice a8 (s.L.length + 1) c8))
          have X2 := hide ((unhide hX).set1 (.slice a8 (s.L.length + 1) c8))
          have F2 := hide ((unhide hF).set 1 (.slice a8 (s.L.length + 1) c8))
          refine wpOpIn_step rfl (fun K hK => ?_)
          go_simp
          refine hK _ _ ⟨_, _, _, _, _, _, _, _, _, _, true, h2, .slice a8 (s.L.length + 1) c8, rfl, rfl, S2, X2, F2, h6, (fun _ => rfl)⟩
        · simp at hr
      case last =>
        rintro ac W4 ⟨f0, f1, f2, f3, f4, f5, f6, f7, f8, f9, f10, h2, vd, hlf, rfl, hS, hX, hF, h6, h10⟩
        have hlf := congrArg Array.toList hlf
        simp at hlf
        repeat (rcases hlf with ⟨hq, hlf⟩)
        subst_vars
        simp only [cond_false, cond_true, Bool.not_false, Bool.not_true, Bool.and_true, Bool.and_false, Bool.true_and, Bool.false_and] at hS hX
        have D8 := (unhide hS).dw.o2
        obtain ⟨a8, c8, rfl, _⟩ := row_frm D8
        have D8 : W4.ownsRow (w.heap.size + 2) 5 1 (.slice a8 (s.L.length + 1) c8) (s.L.length + 1) (u8s (s.D ++ [s.d])) := by
          have := (unhide hS).dw.o2
          simpa [u8s] using this
        clear hS h6 h10 HD HX HF
        have CH := hide (fun n W => (callsIn_wide (n := n)).2 (rightH (strOfNums s.L) (by rw [strOfNums_size]; omega) (.slice a8 (s.L.length + 1) c8) rfl W))
        have HLR := hide (lrt_ok (unhide OK))
        have HRR : Hid (right t = (s.b && lrt (strOfNums s.L))) := hide ((unhide HRT).trans (unhide HLR).symm)
        clear HRT HLR
        have FIN : ∀ W5, W5.ownsRow (w.heap.size + 2) 5 1 (.slice a8 (s.L.length + 1) c8) (s.L.length + 1) (u8s (s.D ++ [s.d])) → Fr (w.heap.size + 2) w.heap.size w1 W5 → ∀ r, right t = r → (∃ X va vn vc, Ending.returned (.tuple #[.agg #[.string (strOfNums s.L), .slice a8 (s.L.length + 1) c8], .bool r]) = .returned (.tuple #[.agg #[.string X, .slice va vn vc], .bool (right t)]) ∧ (right t = true → ∀ s, pat t = some s → X = strOfNums s.L ∧ W5.ownsRow (w.heap.size + 2) 5 1 (.slice va vn vc) (s.D.length + 1) (u8s (s.D ++ [s.d])))) ∧ Below w.heap.size w W5 := by
          intro W5 h5 hf5 r hr
          refine ⟨⟨_, _, _, _, by rw [hr], fun h s2 h2 => ?_⟩, (unhide B1).trans (hf5.below (Nat.le_refl _) (by omega))⟩
          have h3 := ((unhide HT2) s2 h2).1
          rw [unhide HPR] at h3
          obtain rfl := Option.some.inj h3
          refine ⟨rfl, ?_⟩
          rw [hL2]
          exact h5
        have FN := hide FIN
        clear FIN
        go_wp2_with fail
        generalize hbb : s.b = bb at *
        cases bb
        · have HR2 : Hid (right t = false) := hide (by rw [unhide HRR]; rfl)
          refine (wpIn_wide (n := 1)).1 ?_
          refine region_inv hmx (fun lf ac w' => ∃ (b0 b1 b2 b3 b4 b5 b6 b7 : Bool) , lf = #[b0, b1, b2, b3, b4, b5, b6, b7] ∧ ac = { tmps := #[.string t, undef, .pointer (some ⟨w.heap.size, 0, none⟩), (bif b7 then .bool false else u3), .slice a5 s.L.length c5, .int .u8 s.d, .bool false, undef, u8, .string t, .int .i64 (t.size : Int), .bool false, undef, .string t, .slice (some ⟨w.heap.size + 1, 0, none⟩) t.size cp, .int .i64 (t.size : Int), .int .i64 (t.size : Int), .bool false, u18, u19, u20, u21, u22, u23, u24, u25, u26, u27, u28, u29, u30, u31, u32, u33, u34, u35, u36, u37, u38, u39, u40, u41, u42, u43, u44, u45, u46, u47, u48, u49, .slice a5 s.L.length c5, .string (strOfNums s.L), .pointer (some ⟨w.heap.size, 1, none⟩), .slice a6 s.L.length c6, .int .u8 s.d, .slice (some ⟨h2, 0, none⟩) 1 1, .slice a8 (s.L.length + 1) c8, .pointer (some ⟨w.heap.size, 0, none⟩), .pointer (some ⟨w.heap.size, 1, none⟩), (bif b0 then .agg #[.string (strOfNums s.L), .slice a8 (s.L.length + 1) c8] else undef), (bif b1 then .bool false else undef), (bif b2 then .bool false else undef), undef, undef, (bif b5 then .bool false else undef)], defers := [] } ∧ Hid (w'.ownsRow (w.heap.size + 2) 5 1 (.slice a8 (s.L.length + 1) c8) (s.L.length + 1) (u8s (s.D ++ [s.d]))) ∧ Hid (PBox w' w.heap.size (strOfNums s.L) (.slice a8 (s.L.length + 1) c8)) ∧ Hid (Fr (w.heap.size + 2) w.heap.size w1 w')) (by kernel_rfl) ?size ?first ?step ?last
          case size =>
            rintro lf ac w' ⟨b0, b1, b2, b3, b4, b5, b6, b7, rfl, _⟩
            rfl
          case first => exact ⟨false, false, false, false, false, false, false, false, rfl, rfl, hide D8, hX, hide ((unhide hF).trans (Fr.of (bdrew (Below.refl _ W4) 1)))⟩
          case step =>
            rintro ii lf ac w' ⟨b0, b1, b2, b3, b4, b5, b6, b7, rfl, rfl, hS, hX, hF⟩ hr
            have hr := mem_ready.1 hr
            rcases ii with _ | _ | _ | _ | _ | _ | _ | _ | ii
            · simp [Region.binds] at hr
              repeat (rcases hr with ⟨hq, hr⟩)
              subst_vars
              obtain ⟨k0, k1, kf⟩ := (unhide hX).cells
              refine wpOpIn_step rfl (fun K hK => ?_)
              go_simp
              refine hK _ _ ⟨true, _, _, _, _, _, _, _, rfl, rfl, hS, hX, hF⟩
            · simp [Region.binds] at hr
              repeat (rcases hr with ⟨hq, hr⟩)
              subst_vars
              refine wpOpIn_step rfl (fun K hK => ?_)
              go_simp
              refine hK _ _ ⟨_, true, _, _, _, _, _, _, rfl, rfl, hS, hX, hF⟩
            · simp [Region.binds] at hr
              repeat (rcases hr with ⟨hq, hr⟩)
              subst_vars
              refine wpOpIn_step rfl (fun K hK => ?_)
              go_simp
              refine hK _ _ ⟨_, _, true, _, _, _, _, _, rfl, rfl, hS, hX, hF⟩
            · simp [Region.binds] at hr
              repeat (rcases hr with ⟨hq, hr⟩)
              subst_vars
              refine wpOpIn_step rfl (fun K hK => ?_)
              go_simp
              refine hK _ _ ⟨_, _, _, true, _, _, _, _, rfl, rfl, hS, hX, hF⟩
            · simp [Region.binds] at hr
              repeat (rcases hr with ⟨hq, hr⟩)
              subst_vars
              refine wpOpIn_step rfl (fun K hK => ?_)
              go_simp
              refine ⟨trivial, ?_⟩
              refine hK _ _ ⟨_, _, _, _, true, _, _, _, rfl, rfl, hS, hX, hF⟩
            · simp [Region.binds] at hr
              repeat (rcases hr with ⟨hq, hr⟩)
              subst_vars
              refine wpOpIn_step rfl (fun K hK => ?_)
              go_simp
              refine hK _ _ ⟨_, _, _, _, _, true, _, _, rfl, rfl, hS, hX, hF⟩
            · simp [Region.binds] at hr
              repeat (rcases hr with ⟨hq, hr⟩)
              subst_vars
              obtain ⟨k0, k1, kf⟩ := (unhide hX).cells
              have kf0 := kf 0
              have kf1 := kf 1
              have S2 := hide (ownsRow_setCell_below (ownsRow_setCell_below (unhide hS) (a := ⟨w.heap.size, 0, none⟩) (by show w.heap.size < _; omega) (.string (strOfNums s.L))) (a := ⟨w.heap.size, 1, none⟩) (by show w.heap.size < _; omega) (.slice a8 (s.L.length + 1) c8))
              have X2 := hide (((unhide hX).set0 (strOfNums s.L)).set1 (.slice a8 (s.L.length + 1) c8))
              have F2 := hide (((unhide hF).set 0 (.string (strOfNums s.L))).set 1 (.slice a8 (s.L.length + 1) c8))
              refine wpOpIn_step rfl (fun K hK => ?_)
              go_simp
              refine hK _ _ ⟨_, _, _, _, _, _, true, _, rfl, rfl, S2, X2, F2⟩
            · simp [Region.binds] at hr
              repeat (rcases hr with ⟨hq, hr⟩)
              subst_vars
              refine wpOpIn_step rfl (fun K hK => ?_)
              go_simp
              refine hK _ _ ⟨_, _, _, _, _, _, _, true, rfl, rfl, hS, hX, hF⟩
            · simp at hr
          case last =>
            rintro ac W4 ⟨f0, f1, f2, f3, f4, f5, f6, f7, hlf, rfl, hS, hX, hF⟩
            have hlf := congrArg Array.toList hlf
            simp at hlf
            repeat (rcases hlf with ⟨hq, hlf⟩)
            subst_vars
            go_wp2_with fail
            obtain ⟨g0, g1, gf⟩ := (unhide hX).cells
            refine bodyPost_ret (v := .tuple #[.agg #[.string (strOfNums s.L), .slice a8 (s.L.length + 1) c8], .bool false]) (by simp [results, Tryz.results35, go_sem, g0, g1]; try rfl) rfl ?_
            exact (unhide FN) _ (unhide hS) (unhide hF) _ (unhide HR2)
        · have HR2 : Hid (right t = lrt (strOfNums s.L)) := hide (by rw [unhide HRR]; rfl)
          refine (wpIn_wide (n := 1)).1 ?_
          refine region_inv hmx (fun lf ac w' => ∃ (b0 b1 b2 b3 b4 b5 b6 b7 : Bool) , lf = #[b0, b1, b2, b3, b4, b5, b6, b7] ∧ ac = { tmps := #[.string t, undef, .pointer (some ⟨w.heap.size, 0, none⟩), (bif b7 then .bool (lrt (strOfNums s.L)) else u3), .slice a5 s.L.length c5, .int .u8 s.d, .bool true, undef, u8, .string t, .int .i64 (t.size : Int), .bool false, undef, .string t, .slice (some ⟨w.heap.size + 1, 0, none⟩) t.size cp, .int .i64 (t.size : Int), .int .i64 (t.size : Int), .bool false, u18, u19, u20, u21, u22, u23, u24, u25, u26, u27, u28, u29, u30, u31, u32, u33, u34, u35, u36, u37, u38, u39, u40, u41, u42, u43, u44, u45, u46, u47, u48, u49, .slice a5 s.L.length c5, .string (strOfNums s.L), .pointer (some ⟨w.heap.size, 1, none⟩), .slice a6 s.L.length c6, .int .u8 s.d, .slice (some ⟨h2, 0, none⟩) 1 1, .slice a8 (s.L.length + 1) c8, .pointer (some ⟨w.heap.size, 0, none⟩), .pointer (some ⟨w.heap.size, 1, none⟩), (bif b0 then .agg #[.string (strOfNums s.L), .slice a8 (s.L.length + 1) c8] else undef), (bif b1 then .bool true else undef), (bif b2 then .bool true else undef), (bif b3 then .agg #[.string (strOfNums s.L), .slice a8 (s.L.length + 1) c8] else undef), (bif b4 then .bool (lrt (strOfNums s.L)) else undef), (bif b5 then .bool (lrt (strOfNums s.L)) else undef)], defers := [] } ∧ Hid (w'.ownsRow (w.heap.size + 2) 5 1 (.slice a8 (s.L.length + 1) c8) (s.L.length + 1) (u8s (s.D ++ [s.d]))) ∧ Hid (PBox w' w.heap.size (strOfNums s.L) (.slice a8 (s.L.length + 1) c8)) ∧ Hid (Fr (w.heap.size + 2) w.heap.size w1 w')) (by kernel_rfl) ?size ?first ?step ?last
          case size =>
            rintro lf ac w' ⟨b0, b1, b2, b3, b4, b5, b6, b7, rfl, _⟩
            rfl
          case first => exact ⟨false, false, false, false, false, false, false, false, rfl, rfl, hide D8, hX, hide ((unhide hF).trans (Fr.of (bdrew (Below.refl _ W4) 1)))⟩
          case step =>
            rintro ii lf ac w' ⟨b0, b1, b2, b3, b4, b5, b6, b7, rfl, rfl, hS, hX, hF⟩ hr
            have hr := mem_ready.1 hr
            rcases ii with _ | _ | _ | _ | _ | _ | _ | _ | ii
            · simp [Region.binds] at hr
              repeat (rcases hr with ⟨hq, hr⟩)
              subst_vars
              obtain ⟨k0, k1, kf⟩ := (unhide hX).cells
              refine wpOpIn_step rfl (fun K hK => ?_)
              go_simp
              refine hK _ _ ⟨true, _, _, _, _, _, _, _, rfl, rfl, hS, hX, hF⟩
            · simp [Region.binds] at hr
              repeat (rcases hr with ⟨hq, hr⟩)
              subst_vars
              refine wpOpIn_step rfl (fun K hK => ?_)
              go_simp
              refine hK _ _ ⟨_, true, _, _, _, _, _, _, rfl, rfl, hS, hX, hF⟩
            · simp [Region.binds] at hr
              repeat (rcases hr with ⟨hq, hr⟩)
              subst_vars
              refine wpOpIn_step rfl (fun K hK => ?_)
              go_simp
              refine hK _ _ ⟨_, _, true, _, _, _, _, _, rfl, rfl, hS, hX, hF⟩
            · simp [Region.binds] at hr
              repeat (rcases hr with ⟨hq, hr⟩)
              subst_vars
              obtain ⟨k0, k1, kf⟩ := (unhide hX).cells
              refine wpOpIn_step rfl (fun K hK => ?_)
              go_simp
              refine hK _ _ ⟨_, _, _, true, _, _, _, _, rfl, rfl, hS, hX, hF⟩
            · simp [Region.binds] at hr
              repeat (rcases hr with ⟨hq, hr⟩)
              subst_vars
              refine wpOpIn_step rfl (fun K hK => ?_)
              go_simp
              refine ⟨trivial, ?_⟩
              gi_at_call 53
              refine ((unhide CH) _ _).mono ?_
              rintro e W5 ⟨rfl, hb5⟩
              have S5 := hide (ownsRow_below (unhide hS) hb5)
              have X5 := hide ((unhide hX).kept (hb5.block _ (lt_of_block (unhide hX))))
              have F5 := hide ((unhide hF).trans (Fr.of (hb5.mono (by have := (unhide hF).size; omega))))
              clear hb5
              refine hK _ _ ⟨_, _, _, _, true, _, _, _, rfl, rfl, S5, X5, F5⟩
            · simp [Region.binds] at hr
              repeat (rcases hr with ⟨hq, hr⟩)
              subst_vars
              refine wpOpIn_step rfl (fun K hK => ?_)
              go_simp
              refine hK _ _ ⟨_, _, _, _, _, true, _, _, rfl, rfl, hS, hX, hF⟩
            · simp [Region.binds] at hr
              repeat (rcases hr with ⟨hq, hr⟩)
              subst_vars
              obtain ⟨k0, k1, kf⟩ := (unhide hX).cells
              have kf0 := kf 0
              have kf1 := kf 1
              have S2 := hide (ownsRow_setCell_below (ownsRow_setCell_below (unhide hS) (a := ⟨w.heap.size, 0, none⟩) (by show w.heap.size < _; omega) (.string (strOfNums s.L))) (a := ⟨w.heap.size, 1, none⟩) (by show w.heap.size < _; omega) (.slice a8 (s.L.length + 1) c8))
              have X2 := hide (((unhide hX).set0 (strOfNums s.L)).set1 (.slice a8 (s.L.length + 1) c8))
              have F2 := hide (((unhide hF).set 0 (.string (strOfNums s.L))).set 1 (.slice a8 (s.L.length + 1) c8))
              refine wpOpIn_step rfl (fun K hK => ?_)
              go_simp
              refine hK _ _ ⟨_, _, _, _, _, _, true, _, rfl, rfl, S2, X2, F2⟩
            · simp [Region.binds] at hr
              repeat (rcases hr with ⟨hq, hr⟩)
              subst_vars
              refine wpOpIn_step rfl (fun K hK => ?_)
              go_simp
              refine hK _ _ ⟨_, _, _, _, _, _, _, true, rfl, rfl, hS, hX, hF⟩
            · simp at hr
          case last =>
            rintro ac W4 ⟨f0, f1, f2, f3, f4, f5, f6, f7, hlf, rfl, hS, hX, hF⟩
            have hlf := congrArg Array.toList hlf
            simp at hlf
            repeat (rcases hlf with ⟨hq, hlf⟩)
            subst_vars
            go_wp2_with fail
            obtain ⟨g0, g1, gf⟩ := (unhide hX).cells
            refine bodyPost_ret (v := .tuple #[.agg #[.string (strOfNums s.L), .slice a8 (s.L.length + 1) c8], .bool (lrt (strOfNums s.L))]) (by simp [results, Tryz.results35, go_sem, g0, g1]; try rfl) rfl ?_
            exact (unhide FN) _ (unhide hS) (unhide hF) _ (unhide HR2)
end Hyp
end Go.Proofs.YtcdhaikmedicfaaGreatDoor
