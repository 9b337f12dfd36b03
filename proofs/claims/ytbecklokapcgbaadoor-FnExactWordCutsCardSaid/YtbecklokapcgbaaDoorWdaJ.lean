/- The starts of words, and WordCuts, by the program. -/
import Derived.Test.YtbecklokapcgbaaDoorWdaI
namespace Go.Proofs.YtbecklokapcgbaaDoor
namespace Wrd
open Go.RowKit
open Chr (cat ctl mrk stb sts ctk cutsL BoolsAt cutsAhead_any charStarts_any makeB)
set_option linter.unusedVariables false
/-- The row of starts in its block; all other blocks are as they were. -/
structure Ws (w3 wr : World) (g : Nat) (B : List Bool) : Prop where
  row : wr.heap[g]? = some (.cells (B.map Value.bool).toArray 4 (0, 0))
  bel : Below g w3 wr
  oth : ∀ k, k ≠ g → k < w3.heap.size → wr.heap[k]? = w3.heap[k]?
theorem Ws.below {w3 wr w' : World} {g : Nat} {B : List Bool} (h : Ws w3 wr g B) (hb : Below wr.heap.size wr w') : Ws w3 w' g B :=
  ⟨(hb.block g (Array.getElem?_eq_some_iff.1 h.row).1).trans h.row, h.bel.trans (hb.mono (Nat.le_of_lt (Array.getElem?_eq_some_iff.1 h.row).1)), fun k h1 h2 => (hb.block k (Nat.lt_of_lt_of_le h2 h.bel.size)).trans (h.oth k h1 h2)⟩
theorem Ws.room {w3 wr : World} {g : Nat} {B : List Bool} (h : Ws w3 wr g B) (k : Nat) (hk : k < B.length) : (∃ x, wr.cell? ⟨g, k, none⟩ = some x) ∧ wr.frozen? ⟨g, k, none⟩ = false := by
  refine ⟨⟨.bool B[k], ?_⟩, ?_⟩
  · simp [World.cell?, h.row, hk]
  · simp [World.frozen?, h.row]
theorem Ws.put {w3 wr : World} {g : Nat} {B : List Bool} (h : Ws w3 wr g B) (k : Nat) (b : Bool) {C : List Bool} (hC : (B.map Value.bool).set k (.bool b) = C.map Value.bool) : Ws w3 (wr.setCell ⟨g, k, none⟩ (.bool b)) g C := by
  refine ⟨?_, h.bel.setCell (p := ⟨g, k, none⟩) (Nat.le_refl _) _, fun j h1 h2 => (heap_setCell_other wr ⟨g, k, none⟩ j _ h1).trans (h.oth j h1 h2)⟩
  have := heap_setCell_same wr g k _ 4 (.bool b) h.row
  rw [← hC]
  simpa using this
theorem ints_oth {w w' : World} {base : Nat} {v : Value} {l : List Int} {g : Nat} (h : w.ownsRow base 3 1 v l.length (l.map (Value.int .i64))) (hg : g < base) (ho : ∀ k, k ≠ g → k < w.heap.size → w'.heap[k]? = w.heap[k]?) : IntsAt w' v l := by
  refine owned_atW (base := base) (e := 3) (n := l.length) ⟨h.1, ?_⟩
  rcases h.2 with h' | ⟨b, cap, cur, hv, hb, hh, r⟩
  · exact .inl h'
  · exact .inr ⟨b, cap, cur, hv, hb, (ho b (by omega) (Array.getElem?_eq_some_iff.1 hh).1).trans hh, r⟩
theorem chars_cell {W : World} {g j : Nat} {L : List Int} (h : W.heap[g]? = some (.cells ((sts L).map Value.bool).toArray 4 (0, 0))) (hj : j < L.length) : W.cell? ⟨g, j, none⟩ = some (.bool (stb L j)) := by
  simp [World.cell?, h, Chr.sts, hj]
set_option maxRecDepth 100000 in
set_option maxHeartbeats 16000000 in
theorem startsW (v : Value) (L : List Int) (vt : Value) (T : List Tl) (w : World) (hv : IntsAt w v L) (hL : L.length ≤ 65536) (ht : TabAt w) (htl : TlAt w vt T) (hT : T.length ≤ 1048576) :
    Calls Tryd.prog 22 #[v, vt] w fun e w' => ∃ g, e = .returned (.slice (some ⟨g, 0, none⟩) L.length L.length) ∧ BoolsAt w' g (wB L T (alA L).length) ∧ Below w.heap.size w w' := by
  have hAl := alA_len L
  have hAi := alA_in L
  have CS := hide (fun W h1 h2 => charStarts_any v L W h1 hL h2)
  have CP := hide (fun W h1 h2 => placesA v L W h1 hL h2)
  have CW := hide (fun va i W h1 h2 h3 => placeB v va L (alA L) i W h1 h2 h3 hAi (by omega))
  have CC := hide (fun x W h1 h2 h3 => cutsB x w.heap.size vt T W h1 h2 h3 hT)
  have hmk := fun W => makeB L.length hL W
  have HV := hide hv
  have HT := hide ht
  have HTL := hide htl
  obtain ⟨a, cap, rfl, _⟩ := hv
  clear ht htl
  have Br := hide ((Below.refl w.heap.size w).alloc (Nat.le_refl _) (.cells ruleC 74))
  have hRu : Hid (RulAt (w.alloc (.cells ruleC 74)) w.heap.size) := hide (rul_new w)
  have hzr : (w.alloc (.cells ruleC 74)).heap.size = w.heap.size + 1 := by simp
  go_enter Tryd.func22, Tryd.ntmps22
  go_wp2_with (go_at_call 36; refine (rules_any _).mono ?_; rintro e w' ⟨rfl, rfl⟩)
  refine ((unhide CS) _ ((unhide HV).below (unhide Br)) ((unhide HT).below (unhide Br))).mono ?_
  generalize (w.alloc (.cells ruleC 74)) = y0 at *
  rintro e w1 ⟨cc, rfl, hch, hb1⟩
  have B1 := hide ((unhide Br).trans (hb1.mono (by omega)))
  have R1 := hide ((unhide hRu).below hb1)
  have hs1 := hb1.size
  have hcl : y0.heap.size + 1 < w1.heap.size := (Array.getElem?_eq_some_iff.1 hch).1
  have HCH := hide hch
  have hm1 := hmk w1
  have hsw := (unhide B1).size
  clear hb1 hch hmk Br hs1 hzr
  generalize y0.heap.size + 1 = gC at *
  have X2 := (Below.refl w1.heap.size w1).alloc (Nat.le_refl _) (.cells (List.replicate L.length (Value.bool false)).toArray 4)
  have hz2 : (w1.alloc (.cells (List.replicate L.length (Value.bool false)).toArray 4)).heap.size = w1.heap.size + 1 := by simp
  have N2 := heap_alloc_last w1 (.cells (List.replicate L.length (Value.bool false)).toArray 4)
  have B2 := hide ((unhide B1).trans (X2.mono (by omega)))
  go_wp2_with fail
  refine ((unhide CP) _ ((unhide HV).below (unhide B2)) ((unhide HT).below (unhide B2))).mono ?_
  generalize (w1.alloc (.cells (List.replicate L.length (Value.bool false)).toArray 4)) = y2 at *
  rintro e w3 ⟨u, rfl, hown, hb3⟩
  have D3 := hide (X2.trans (hb3.mono (by omega)))
  have hs3 := hb3.size
  have W0 : Hid (Ws w3 w3 w1.heap.size (wB L T 0)) := hide ⟨by rw [wB_zero]; exact (hb3.block w1.heap.size (by omega)).trans N2, Below.refl _ _, fun _ _ _ => rfl⟩
  have HOW := hide hown
  obtain ⟨ua, uc, hue⟩ : ∃ a c, u = .slice a (alA L).length c := by
    obtain ⟨a', c', h', _⟩ := owned_atW hown
    exact ⟨a', c', h'⟩
  subst hue
  clear hown hb3 N2 X2 hm1 CP CS
  go_wp2
  go_loopw [22] (fun iv wr => ∃ i : Nat, i ≤ (alA L).length ∧ iv = .int .i64 (i : Int) ∧ Hid (Ws w3 wr w1.heap.size (wB L T i))) (fun iv _ => (alA L).length - (intOf iv).toNat)
  case atStart => exact ⟨0, Nat.zero_le _, rfl, W0⟩
  case round =>
    obtain ⟨i, hil, rfl, HW⟩ := hrel
    clear W0
    by_cases hlt : i < (alA L).length
    · have hlt' : (i : Int) < ((alA L).length : Int) := by omega
      have h0i : (0 : Int) ≤ (i : Int) := by omega
      have Dw := hide ((unhide D3).trans (unhide HW).bel)
      have hdw := (unhide Dw).size
      have Bw := hide ((unhide B1).trans ((unhide Dw).mono (by omega)))
      obtain ⟨j, hj, hja, hjl, hje⟩ := alA_at hlt
      have hj0 : (0 : Int) ≤ (j : Int) := by omega
      have hjL : (j : Int) < (L.length : Int) := by omega
      have IA := ints_oth (unhide HOW) (show w1.heap.size < y2.heap.size by omega) (unhide HW).oth
      obtain ⟨b2, off2, cap2, hu, hb2s, hc2⟩ := ints_at IA (by omega)
      injection hu with hu1 hu2 hu3
      subst hu1 hu3
      have c2 := hc2 i hlt
      rw [hje] at c2
      have C4 := hide ((unhide CW) _ i wr ((unhide HV).below (unhide Bw)) IA hlt)
      have HCS : Hid (chA L i = stb L j) := hide (by unfold chA; rw [hje]; rfl)
      have HST := hide (wB_set L T i hlt)
      rw [hje] at HST
      have HPL := hide (fun h0 => plc_same L i (stb L j) h0 hlt)
      have HC0 : Hid (cst L T 0 = true) := hide rfl
      have HC1 := hide (fun (h0 : 0 < i) => (show cst L T i = cutW T (plc (ownL L) i (chA L i)) by unfold cst; rw [show (i == 0) = false by rw [beq_eq_false_iff_ne]; omega, Bool.false_or]))
      have hchw : wr.heap[gC]? = some (.cells ((sts L).map Value.bool).toArray 4 (0, 0)) := ((unhide Dw).block _ hcl).trans (unhide HCH)
      have HCW := hide hchw
      clear hc2 hu2 IA hchw
      generalize wplA L (alA L) i = x at *
      unfold wpV at C4
      go_wp2_with fail
      refine (unhide C4).mono ?_
      rintro e w4 ⟨rfl, hb4⟩
      have hs4 := hb4.size
      have HW4 := hide ((unhide HW).below hb4)
      have D4 := hide ((unhide Dw).trans (hb4.mono (by omega)))
      clear hb4 C4 c2 HW
      have H4 := (unhide D4).block _ hcl
      have hgl : w1.heap.size < w4.heap.size := (Array.getElem?_eq_some_iff.1 (unhide HW4).row).1
      have chc := chars_cell (W := w4.alloc (.cells #[.int .i64 x.b, .int .i64 x.l, .int .i64 x.r, .int .i64 x.h, .bool x.n] 62)) (g := gC) (j := j) (L := L) ((Below.heap_alloc _ _ _ (by omega)).trans (H4.trans (unhide HCH))) hj
      have W5 := hide ((unhide HW4).below ((Below.refl _ _).alloc (Nat.le_refl _) (.cells #[.int .i64 x.b, .int .i64 x.l, .int .i64 x.r, .int .i64 x.h, .bool (!stb L j)] 62)))
      have D5 := hide ((unhide D4).trans (((Below.refl w4.heap.size w4).alloc (Nat.le_refl _) (.cells #[.int .i64 x.b, .int .i64 x.l, .int .i64 x.r, .int .i64 x.h, .bool (!stb L j)] 62)).mono (by omega)))
      obtain ⟨⟨ox, rm⟩, rf⟩ := (unhide W5).room j (by rw [wB_len]; exact hj)
      clear H4
      have htn : ((j : Int)).toNat = j := by omega
      rw [htn] at HST
      by_cases hi0 : i = 0
      · subst hi0
        rw [unhide HC0] at HST
        have W6 := hide (((unhide HW4).put j true (unhide HST)).below ((Below.refl _ _).alloc (Nat.le_refl _) (.cells #[.int .i64 x.b, .int .i64 x.l, .int .i64 x.r, .int .i64 x.h, .bool (!stb L j)] 62)))
        clear HST HCS HC1 HPL HW4 W5
        go_wp2
        go_roundw
        case rel => exact ⟨1, by omega, rfl, W6⟩
        case measure => simp [intOf]; omega
      · have hi0' : ((i : Int) == 0) = false := by rw [beq_eq_false_iff_ne]; omega
        have Bq := (unhide B1).trans ((unhide D5).mono hsw)
        have C6 := hide ((unhide CC) { x with n := !stb L j } _ ((unhide HT).below Bq) ((unhide R1).below (unhide D5)) ((unhide HTL).below Bq))
        have HCE : Hid (cutW T { x with n := !stb L j } = cst L T i) := hide (by rw [(unhide HPL) (by omega), (unhide HC1) (by omega), unhide HCS])
        unfold wpV at C6
        rw [unhide HCE] at C6
        simp only at C6
        clear HCE HCS HC1 HPL HW4 rm rf Bq HC0
        generalize cst L T i = z at *
        go_wp2_with fail
        refine (unhide C6).mono ?_
        rintro e w6 ⟨rfl, hb6⟩
        have W6 := hide ((unhide W5).below hb6)
        obtain ⟨⟨oy, rm⟩, rf⟩ := (unhide W6).room j (by rw [wB_len]; exact hj)
        have W7 := hide ((unhide W6).put j z (unhide HST))
        clear hb6 C6 HST W5 W6 D5
        go_wp2
        go_roundw
        case rel => exact ⟨i + 1, by omega, by go_num, W7⟩
        case measure => simp [intOf]; omega
    · obtain rfl : i = (alA L).length := by omega
      have hlt' : ¬ ((alA L).length : Int) < ((alA L).length : Int) := by omega
      have Bz := hide ((unhide B1).trans (((unhide D3).trans (unhide HW).bel).mono hsw))
      have HR := hide (Chr.bools_of (unhide HW).row)
      go_wp2
      go_ret
      exact ⟨_, rfl, unhide HR, unhide Bz⟩
end Wrd
end Go.Proofs.YtbecklokapcgbaaDoor
