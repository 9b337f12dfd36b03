/- Whether a rope is right, as the specification asks. -/
import Derived.Test.YtaipnmmlfbfcnaaDoorRpfE
import Derived.Test.YtaipnmmlfbfcnaaDoorRopB
namespace Go.Proofs.YtaipnmmlfbfcnaaDoor.Rop
open Go.RowKit Rwc
set_option linter.unusedVariables false
def flt (b : Bool) : Int := if b then 0 else 1
set_option maxRecDepth 100000 in
set_option maxHeartbeats 8000000 in
theorem faultS (v1 v2 : Value) (L : List Nd) (M : List Mk) (T : RT) (B : Nat) (w : World) (h1 : nd_At B w v1 L) (h2 : mk_At B w v2 M) (hT : IsTr (cat L) T) (hL : L.length ≤ 1048576) (hM : M.length ≤ 1048576) (hcat : (cat L).size ≤ 4194304)
    (hs2 : ∀ i, i < M.length → (mk_g M i).name.size ≤ 1048576) :
    Calls Tryd.prog 9 #[.agg #[v1, v2]] w fun e w' => e = .returned (.int .i64 (flt (rgt L (nds T 0) M))) ∧ Below w.heap.size w w' := by
  have CT := hide (fun W (h : nd_At B W v1 L) => textS v1 L B W h hL hcat)
  have H1 := hide h1
  have H2 := hide h2
  obtain ⟨a1, c1, rfl⟩ := nd_form h1
  obtain ⟨a2, c2, rfl⟩ := mk_form h2
  clear h1 h2
  have HQ1 : Hid (¬ (cat L).size ≤ 65536 → flt (rgt L (nds T 0) M) = 1) := hide (fun h => by rw [rgt_long h]; rfl)
  have HQ2 : Hid (¬ M.length ≤ 100 → flt (rgt L (nds T 0) M) = 1) := hide (fun h => by rw [rgt_many h]; rfl)
  have HQ3 : Hid ((nds T 0).length ≠ L.length → flt (rgt L (nds T 0) M) = 1) := hide (fun h => by rw [rgt_len h]; rfl)
  have HQ4 : Hid (sameR L (nds T 0) 0 = false → flt (rgt L (nds T 0) M) = 1) := hide (fun h => by rw [rgt_same h]; rfl)
  have HQ5 : Hid (mksR M (cat L).size 0 = false → flt (rgt L (nds T 0) M) = 1) := hide (fun h => by rw [rgt_mks h]; rfl)
  have HQ6 : Hid ((cat L).size ≤ 65536 → M.length ≤ 100 → (nds T 0).length = L.length → sameR L (nds T 0) 0 = true → mksR M (cat L).size 0 = true → flt (rgt L (nds T 0) M) = 0) := hide (fun x1 x2 x3 x4 x5 => by rw [rgt_all x1 x2 x3 x4 x5]; rfl)
  generalize flt (rgt L (nds T 0) M) = Q at *
  have B0 := hide ((Below.refl w.heap.size w).alloc (Nat.le_refl _) (.cells #[.slice a1 L.length c1, .slice a2 M.length c2] 31))
  have N0 := hide (heap_new w (.cells #[.slice a1 L.length c1, .slice a2 M.length c2] 31))
  have Z0 : Hid ((w.alloc (.cells #[.slice a1 L.length c1, .slice a2 M.length c2] 31)).heap.size = w.heap.size + 1) := hide (by simp)
  have HTR := hide hT
  clear hT
  go_enter Tryd.func9, Tryd.ntmps9
  go_wp2_with fail
  generalize w.alloc (.cells #[.slice a1 L.length c1, .slice a2 M.length c2] 31) = w0 at *
  refine ((unhide CT) _ (nd_below (unhide H1) ((unhide B0)))).mono ?_
  rintro e w1 ⟨rfl, hb1⟩
  have B1 := hide ((unhide B0).trans (hb1.mono (unhide B0).size))
  have N1 := hide ((hb1.block w.heap.size (by rw [unhide Z0]; omega)).trans (unhide N0))
  have Z1 : Hid (w.heap.size + 1 ≤ w1.heap.size) := hide (by have := hb1.size; rw [unhide Z0] at this; exact this)
  clear hb1 N0 CT
  generalize hC : cat L = C at *
  clear hC
  obtain ⟨n0, n1, _, _⟩ := two_cells (unhide N1)
  by_cases hc : C.size ≤ 65536
  case neg =>
    have hq := hide ((unhide HQ1) hc)
    have hci : (65536 : Int) < (C.size : Int) := by omega
    clear hc
    go_wp2
    go_ret
    exact ⟨by rw [unhide hq]; rfl, unhide B1⟩
  have hci : ¬ (65536 : Int) < (C.size : Int) := by omega
  have hcb : decide ((65536 : Int) < (C.size : Int)) = false := decide_eq_false hci
  by_cases hm : M.length ≤ 100
  case neg =>
    have hq := hide ((unhide HQ2) hm)
    have hmi : (100 : Int) < (M.length : Int) := by omega
    clear hm
    go_wp2
    go_ret
    exact ⟨by rw [unhide hq]; rfl, unhide B1⟩
  have hmi : ¬ (100 : Int) < (M.length : Int) := by omega
  have hmb : decide ((100 : Int) < (M.length : Int)) = false := decide_eq_false hmi
  have hcount : (nds T 0).length ≤ 200000 := by rw [nds_len]; have := (unhide HTR).count.1; omega
  have CB := hide (fun B v W (ho : Ny B W v []) (hb : B ≤ W.heap.size) => buildS (unhide HTR) B v [] W ho hb (by have := hcount; rw [nds_len] at this; simp; omega) hc)
  go_wp2_with fail
  have o1 : Ny w1.heap.size (w1.alloc (.cells #[] 45)) (.slice (some ⟨w1.heap.size, 0, none⟩) 0 0) [] := World.ownsRow_lit (e := 45) (size := 5) (base := w1.heap.size) w1 #[] 0 (Nat.le_refl _) (by unfold maxLen; omega) rfl
  refine ((unhide CB) w1.heap.size _ _ o1 (by simp)).mono ?_
  rintro e w2 ⟨v, rfl, ho, hb2⟩
  have ho' : Ny w1.heap.size w2 v (nds T 0) := by simpa using ho
  obtain ⟨a6, c6, rfl⟩ := own_formN ho'
  have hb12 : Below w1.heap.size w1 w2 := ((Below.refl w1.heap.size w1).alloc (Nat.le_refl _) _).trans hb2
  have B2 := hide ((unhide B1).trans (hb12.mono (unhide B1).size))
  have O2 := hide (ny_at ho')
  have N2 := hide ((hb12.block w.heap.size (by have := unhide Z1; omega)).trans (unhide N1))
  have Z2 : Hid (w.heap.size + 1 ≤ w2.heap.size) := hide (by have := hb12.size; have := unhide Z1; omega)
  clear ho ho' hb2 hb12 o1 CB n0 n1 HTR
  obtain ⟨n0, n1, _, _⟩ := two_cells (unhide N2)
  generalize nds T 0 = N at *
  by_cases hne : N.length = L.length
  case neg =>
    have hq := hide ((unhide HQ3) hne)
    have hnb : ((N.length : Int) != (L.length : Int)) = true := by simp; omega
    clear hne
    go_wp2
    go_ret
    exact ⟨by rw [unhide hq]; rfl, unhide B2⟩
  have hnb : ((N.length : Int) != (L.length : Int)) = false := by rw [hne]; simp
  have HNE := hide hne
  clear hne
  go_wp2
  clear n0 n1
  go_loopw [5] (fun iv wr => ∃ i : Nat, i ≤ N.length ∧ iv = .int .i64 (i : Int) ∧ Hid (sameR L N i = sameR L N 0) ∧ Hid (Below w2.heap.size w2 wr)) (fun iv _ => (N.length - intOf iv).toNat)
  case atStart => exact ⟨0, by omega, rfl, hide rfl, hide (Below.refl _ _)⟩
  case round =>
    obtain ⟨i, hi2, rfl, HR, HB⟩ := hrel
    obtain ⟨n0, n1, _, _⟩ := two_cells (((unhide HB).block w.heap.size (by have := unhide Z2; omega)).trans (unhide N2))
    by_cases hlt : i < N.length
    · have hlt2 : i < L.length := by have := unhide HNE; omega
      obtain ⟨b, off, cp, he, hbw, hcs⟩ := nd_rd (unhide O2) (unhide HB) hlt
      injection he with he1 _ he2
      subst he1 he2
      obtain ⟨b', off', cp', he', hbw', hcs'⟩ := nd_rd (nd_below (unhide H1) (unhide B2)) (unhide HB) hlt2
      injection he' with he1 _ he2
      subst he1 he2
      have hlt' : (i : Int) < (N.length : Int) := by omega
      have hlt'' : (i : Int) < (L.length : Int) := by omega
      have h0i : (0 : Int) ≤ (i : Int) := by omega
      obtain ⟨d0, d1, d2, d3, d4⟩ := hcs i hlt
      obtain ⟨e0, e1, e2, e3, e4⟩ := hcs' i hlt2
      have hng := node_guard
      have HQN := hide (fun W => node_neq (nd_g N i) (nd_g L i) W)
      have HY := hide (sameR_yes L N i hlt2)
      have HX := hide (sameR_no L N i hlt2)
      clear hcs hcs'
      generalize nd_g N i = x at *
      generalize nd_g L i = y at *
      unfold nd_v at HQN
      cases hq : neB x y
      · have HR2 : Hid (sameR L N (i + 1) = sameR L N 0) := hide (by rw [← unhide HR, (unhide HY) hq])
        have hnq := fun W => (unhide HQN) W
        rw [hq] at hnq
        clear hq HY HX HQN
        obtain ⟨xa, xb, xc, xd, xe⟩ := x
        obtain ⟨ya, yb, yc, yd, ye⟩ := y
        simp only at d0 d1 d2 d3 d4 e0 e1 e2 e3 e4 hnq
        go_wp2_with fail
        go_quiet (fail)
        go_wp2
        go_roundw
        case rel => exact ⟨i + 1, by omega, by go_num, HR2, hide (bdrew (unhide HB) _)⟩
        case measure => simp [intOf]; omega
      · have HR2 : Hid (Q = 1) := hide ((unhide HQ4) (by rw [← unhide HR, (unhide HX) hq]))
        have hnq := fun W => (unhide HQN) W
        rw [hq] at hnq
        clear hq HY HX HQN
        obtain ⟨xa, xb, xc, xd, xe⟩ := x
        obtain ⟨ya, yb, yc, yd, ye⟩ := y
        simp only at d0 d1 d2 d3 d4 e0 e1 e2 e3 e4 hnq
        go_wp2_with fail
        go_quiet (fail)
        go_wp2
        go_ret
        exact ⟨by rw [unhide HR2]; rfl, (unhide B2).trans ((bdrew (unhide HB) _).mono (unhide B2).size)⟩
    · have HS1 : Hid (sameR L N 0 = true) := hide (by rw [← unhide HR, sameR_end L N i (by have := unhide HNE; omega)])
      obtain rfl : i = N.length := by omega
      have B3 := hide ((unhide B2).trans ((unhide HB).mono (unhide B2).size))
      have N3 := hide (((unhide HB).block w.heap.size (by have := unhide Z2; omega)).trans (unhide N2))
      have Z3 : Hid (w.heap.size + 1 ≤ wr.heap.size) := hide (by have := (unhide HB).size; have := unhide Z2; omega)
      obtain ⟨w3, rfl⟩ : ∃ w3 : World, w3 = wr := ⟨wr, rfl⟩
      clear HB HR
      have HF := hide hs2
      clear hs2 hlt hi2 n0 n1
      go_wp2
      go_loopw [6] (fun iv wr => ∃ i : Nat, i ≤ M.length ∧ iv = .int .i64 (i : Int) ∧ Hid (mksR M C.size i = mksR M C.size 0) ∧ Hid (Below w3.heap.size w3 wr)) (fun iv _ => (M.length - intOf iv).toNat)
      case atStart => exact ⟨0, by omega, rfl, hide rfl, hide (Below.refl _ _)⟩
      case round =>
        obtain ⟨i, hi2, rfl, HR, HB⟩ := hrel
        have y1 := (two_cells (((unhide HB).block w.heap.size (by have := unhide Z3; omega)).trans (unhide N3))).2.1
        by_cases hlt : i < M.length
        · obtain ⟨b, off, cp, he, hbw, hcs⟩ := mk_rd (mk_below (unhide H2) (unhide B3)) (unhide HB) hlt
          injection he with he1 _ he2
          subst he1 he2
          have hlt' : (i : Int) < (M.length : Int) := by omega
          have h0i : (0 : Int) ≤ (i : Int) := by omega
          obtain ⟨d0, d1, d2⟩ := hcs i hlt
          have CM := hide (fun W => markS1 (mk_g M i) C.size W ((unhide HF) i hlt) (by omega))
          have HY := hide (mksR_yes M C.size i hlt)
          have HX := hide (mksR_no M C.size i hlt)
          have HBAD := hide (mk1_bad (M := M) (n := C.size) (k := i))
          have HFST : Hid (i = 0 → mkB (mk_g M i) C.size = true → mk1 M C.size i = true) := hide (fun e h => by subst e; exact mk1_first h)
          have HNX : Hid (∀ k, i = k + 1 → mkB (mk_g M i) C.size = true → mk1 M C.size i = !(geB (mk_g M k).name (mk_g M i).name)) := hide (fun k e h => by subst e; exact mk1_next h)
          have HZ : Hid (∀ k, k < M.length → wr.cell? ⟨b, off + k * 3, none⟩ = some (.string (mk_g M k).name)) := hide (fun k hk => (hcs k hk).1)
          clear hcs
          generalize hmm : mk_g M i = mm at *
          clear hmm
          obtain ⟨nm, pl, st⟩ := mm
          unfold mk_v at CM
          simp only at d0 d1 d2 CM
          have hbs := (unhide HB).size
          have hg3 : w.heap.size < wr.heap.size := by have := unhide Z3; omega
          have hbw3 : b < wr.heap.size := by omega
          go_upto_region 15 with fail
          cases hok : mkB ⟨nm, pl, st⟩ C.size
          · have HR2 : Hid (Q = 1) := hide ((unhide HQ5) (by rw [← unhide HR, (unhide HX) ((unhide HBAD) hok)]))
            rw [hok] at CM
            clear hok HBAD HX HY HFST HNX HZ
            have K0 : (fun w' : World => w'.cell? ⟨w.heap.size, 1, none⟩ = some (.slice (some ⟨b, off, none⟩) M.length c2) ∧ w'.cell? ⟨b, off + i * 3, none⟩ = some (.string nm) ∧ w'.cell? ⟨b, off + i * 3 + 1, none⟩ = some (.int .i64 pl) ∧ w'.cell? ⟨b, off + i * 3 + 2, none⟩ = some (.bool st)) wr := ⟨y1, d0, d1, d2⟩
            refine wp_region_held_drew (S := fun w' => w'.cell? ⟨w.heap.size, 1, none⟩ = some (.slice (some ⟨b, off, none⟩) M.length c2) ∧ w'.cell? ⟨b, off + i * 3, none⟩ = some (.string nm) ∧ w'.cell? ⟨b, off + i * 3 + 1, none⟩ = some (.int .i64 pl) ∧ w'.cell? ⟨b, off + i * 3 + 2, none⟩ = some (.bool st)) (by kernel_rfl) (by first | go_keep | exact K0) (fun hHeld => ?_)
            refine tkM (i := 0) (d := some 51) (v := ?_) rfl rfl (by kernel_rfl) (by kernel_rfl) (by kernel_rfl) (fun _ _ _ h => h) (Or.inl ⟨by rfl, ?_⟩) (by assumption) ?_
            rotate_left
            · intro w hSw; (try dsimp only at hSw); go_simp; try with_reducible rfl
            try simp only [Act.put, List.setIfInBounds_toArray, List.set_cons_zero, List.set_cons_succ]
            refine tkM (i := 1) (d := some 52) (v := ?_) rfl rfl (by kernel_rfl) (by kernel_rfl) (by kernel_rfl) (fun _ _ _ h => h) (Or.inl ⟨by rfl, ?_⟩) (by assumption) ?_
            rotate_left
            · intro w hSw; (try dsimp only at hSw); go_simp; try with_reducible rfl
            try simp only [Act.put, List.setIfInBounds_toArray, List.set_cons_zero, List.set_cons_succ]
            refine tkM (i := 2) (d := some 53) (v := ?_) rfl rfl (by kernel_rfl) (by kernel_rfl) (by kernel_rfl) (fun _ _ _ h => h) (Or.inl ⟨by rfl, ?_⟩) (by assumption) ?_
            rotate_left
            · intro w hSw; (try dsimp only at hSw); go_simp; try with_reducible rfl
            try simp only [Act.put, List.setIfInBounds_toArray, List.set_cons_zero, List.set_cons_succ]
            refine tkM (i := 3) (d := some 54) (v := ?_) rfl rfl (by kernel_rfl) (by kernel_rfl) (by kernel_rfl) (fun _ _ _ h => h) (Or.inl ⟨by rfl, ?_⟩) (by assumption) ?_
            rotate_left
            · intro w hSw; (try dsimp only at hSw); go_simp; try with_reducible rfl
            try simp only [Act.put, List.setIfInBounds_toArray, List.set_cons_zero, List.set_cons_succ]
            refine tkM (i := 4) (d := some 55) (v := ?_) rfl rfl (by kernel_rfl) (by kernel_rfl) (by kernel_rfl) (fun _ _ _ h => h) (Or.inl ⟨by rfl, ?_⟩) (by assumption) ?_
            rotate_left
            · intro w hSw; (try dsimp only at hSw); go_simp; try with_reducible rfl
            try simp only [Act.put, List.setIfInBounds_toArray, List.set_cons_zero, List.set_cons_succ]
            refine tkM (i := 5) (d := some 56) (v := ?_) rfl rfl (by kernel_rfl) (by kernel_rfl) (by kernel_rfl) (fun _ _ _ h => h) (Or.inl ⟨by rfl, ?_⟩) (by assumption) ?_
            rotate_left
            · intro w hSw; (try dsimp only at hSw); go_simp; try with_reducible rfl
            try simp only [Act.put, List.setIfInBounds_toArray, List.set_cons_zero, List.set_cons_succ]
            refine tkM (i := 6) (d := some 57) (v := ?_) rfl rfl (by kernel_rfl) (by kernel_rfl) (by kernel_rfl) (fun _ _ _ h => h) (Or.inl ⟨by rfl, ?_⟩) (by assumption) ?_
            rotate_left
            · intro w hSw; (try dsimp only at hSw); go_simp; try with_reducible rfl
            try simp only [Act.put, List.setIfInBounds_toArray, List.set_cons_zero, List.set_cons_succ]
            refine wpAnyH_ready (rs := [7]) (by kernel_rfl) (by simp) (AllReadyH.cons rfl (fun Kq hK => ?_) AllReadyH.nil)
            go_simp
            go_at_call 25
            refine ((unhide CM) _).mono ?_
            rintro e w4 ⟨rfl, hb4⟩
            have hb5 := ((Below.refl wr.heap.size wr).trans (bdrew (Below.refl wr.heap.size wr) 1)).trans hb4
            have K4 : (fun w' : World => w'.cell? ⟨w.heap.size, 1, none⟩ = some (.slice (some ⟨b, off, none⟩) M.length c2) ∧ w'.cell? ⟨b, off + i * 3, none⟩ = some (.string nm) ∧ w'.cell? ⟨b, off + i * 3 + 1, none⟩ = some (.int .i64 pl) ∧ w'.cell? ⟨b, off + i * 3 + 2, none⟩ = some (.bool st)) w4 := ⟨(hb5.cell (p := ⟨w.heap.size, 1, none⟩) hg3).trans y1, (hb5.cell (p := ⟨b, off + i * 3, none⟩) hbw3).trans d0, (hb5.cell (p := ⟨b, off + i * 3 + 1, none⟩) hbw3).trans d1, (hb5.cell (p := ⟨b, off + i * 3 + 2, none⟩) hbw3).trans d2⟩
            have HB4 := hide ((unhide HB).trans (hb5.mono hbs))
            clear hb4 hb5
            try go_wp2_with fail
            refine hK.out _ _ K4 (fun hHeld4 => ?_)
            clear hK Kq
            try simp only [Act.put, List.setIfInBounds_toArray, List.set_cons_zero, List.set_cons_succ]
            refine tkM (i := 8) (d := some 59) (v := ?_) rfl rfl (by kernel_rfl) (by kernel_rfl) (by kernel_rfl) (fun _ _ _ h => h) (Or.inl ⟨by rfl, ?_⟩) (by assumption) ?_
            rotate_left
            · intro w hSw; (try dsimp only at hSw); go_simp; try with_reducible rfl
            try simp only [Act.put, List.setIfInBounds_toArray, List.set_cons_zero, List.set_cons_succ]
            refine tkM (i := 9) (d := some 60) (v := ?_) rfl rfl (by kernel_rfl) (by kernel_rfl) (by kernel_rfl) (fun _ _ _ h => h) (Or.inl ⟨by rfl, ?_⟩) (by assumption) ?_
            rotate_left
            · intro w hSw; (try dsimp only at hSw); go_simp; try with_reducible rfl
            try simp only [Act.put, List.setIfInBounds_toArray, List.set_cons_zero, List.set_cons_succ]
            refine tkM (i := 10) (d := some 61) (v := undef) rfl rfl (by kernel_rfl) (by kernel_rfl) (by kernel_rfl) (fun _ _ _ h => h) (Or.inr ⟨by rfl, rfl⟩) (by assumption) ?_
            try simp only [Act.put, List.setIfInBounds_toArray, List.set_cons_zero, List.set_cons_succ]
            refine tkM (i := 11) (d := some 62) (v := undef) rfl rfl (by kernel_rfl) (by kernel_rfl) (by kernel_rfl) (fun _ _ _ h => h) (Or.inr ⟨by rfl, rfl⟩) (by assumption) ?_
            try simp only [Act.put, List.setIfInBounds_toArray, List.set_cons_zero, List.set_cons_succ]
            refine tkM (i := 12) (d := some 63) (v := undef) rfl rfl (by kernel_rfl) (by kernel_rfl) (by kernel_rfl) (fun _ _ _ h => h) (Or.inr ⟨by rfl, rfl⟩) (by assumption) ?_
            try simp only [Act.put, List.setIfInBounds_toArray, List.set_cons_zero, List.set_cons_succ]
            refine tkM (i := 13) (d := some 64) (v := undef) rfl rfl (by kernel_rfl) (by kernel_rfl) (by kernel_rfl) (fun _ _ _ h => h) (Or.inr ⟨by rfl, rfl⟩) (by assumption) ?_
            try simp only [Act.put, List.setIfInBounds_toArray, List.set_cons_zero, List.set_cons_succ]
            refine tkM (i := 14) (d := some 65) (v := undef) rfl rfl (by kernel_rfl) (by kernel_rfl) (by kernel_rfl) (fun _ _ _ h => h) (Or.inr ⟨by rfl, rfl⟩) (by assumption) ?_
            try simp only [Act.put, List.setIfInBounds_toArray, List.set_cons_zero, List.set_cons_succ]
            refine tkM (i := 15) (d := some 66) (v := undef) rfl rfl (by kernel_rfl) (by kernel_rfl) (by kernel_rfl) (fun _ _ _ h => h) (Or.inr ⟨by rfl, rfl⟩) (by assumption) ?_
            try simp only [Act.put, List.setIfInBounds_toArray, List.set_cons_zero, List.set_cons_succ]
            refine tkM (i := 16) (d := some 67) (v := undef) rfl rfl (by kernel_rfl) (by kernel_rfl) (by kernel_rfl) (fun _ _ _ h => h) (Or.inr ⟨by rfl, rfl⟩) (by assumption) ?_
            try simp only [Act.put, List.setIfInBounds_toArray, List.set_cons_zero, List.set_cons_succ]
            refine tkM (i := 17) (d := some 68) (v := undef) rfl rfl (by kernel_rfl) (by kernel_rfl) (by kernel_rfl) (fun _ _ _ h => h) (Or.inr ⟨by rfl, rfl⟩) (by assumption) ?_
            try simp only [Act.put, List.setIfInBounds_toArray, List.set_cons_zero, List.set_cons_succ]
            refine tkM (i := 18) (d := some 69) (v := undef) rfl rfl (by kernel_rfl) (by kernel_rfl) (by kernel_rfl) (fun _ _ _ h => h) (Or.inr ⟨by rfl, rfl⟩) (by assumption) ?_
            try simp only [Act.put, List.setIfInBounds_toArray, List.set_cons_zero, List.set_cons_succ]
            refine tkM (i := 19) (d := some 70) (v := undef) rfl rfl (by kernel_rfl) (by kernel_rfl) (by kernel_rfl) (fun _ _ _ h => h) (Or.inr ⟨by rfl, rfl⟩) (by assumption) ?_
            try simp only [Act.put, List.setIfInBounds_toArray, List.set_cons_zero, List.set_cons_succ]
            refine tkM (i := 20) (d := some 71) (v := undef) rfl rfl (by kernel_rfl) (by kernel_rfl) (by kernel_rfl) (fun _ _ _ h => h) (Or.inr ⟨by rfl, rfl⟩) (by assumption) ?_
            try simp only [Act.put, List.setIfInBounds_toArray, List.set_cons_zero, List.set_cons_succ]
            refine tkM (i := 21) (d := some 72) (v := undef) rfl rfl (by kernel_rfl) (by kernel_rfl) (by kernel_rfl) (fun _ _ _ h => h) (Or.inr ⟨by rfl, rfl⟩) (by assumption) ?_
            try simp only [Act.put, List.setIfInBounds_toArray, List.set_cons_zero, List.set_cons_succ]
            refine tkM (i := 22) (d := some 73) (v := undef) rfl rfl (by kernel_rfl) (by kernel_rfl) (by kernel_rfl) (fun _ _ _ h => h) (Or.inr ⟨by rfl, rfl⟩) (by assumption) ?_
            try simp only [Act.put, List.setIfInBounds_toArray, List.set_cons_zero, List.set_cons_succ]
            refine tkM (i := 23) (d := some 74) (v := undef) rfl rfl (by kernel_rfl) (by kernel_rfl) (by kernel_rfl) (fun _ _ _ h => h) (Or.inr ⟨by rfl, rfl⟩) (by assumption) ?_
            try simp only [Act.put, List.setIfInBounds_toArray, List.set_cons_zero, List.set_cons_succ]
            refine tkM (i := 24) (d := some 75) (v := undef) rfl rfl (by kernel_rfl) (by kernel_rfl) (by kernel_rfl) (fun _ _ _ h => h) (Or.inr ⟨by rfl, rfl⟩) (by assumption) ?_
            try simp only [Act.put, List.setIfInBounds_toArray, List.set_cons_zero, List.set_cons_succ]
            refine tkM (i := 25) (d := some 76) (v := undef) rfl rfl (by kernel_rfl) (by kernel_rfl) (by kernel_rfl) (fun _ _ _ h => h) (Or.inr ⟨by rfl, rfl⟩) (by assumption) ?_
            try simp only [Act.put, List.setIfInBounds_toArray, List.set_cons_zero, List.set_cons_succ]
            refine tkM (i := 26) (d := some 77) (v := undef) rfl rfl (by kernel_rfl) (by kernel_rfl) (by kernel_rfl) (fun _ _ _ h => h) (Or.inr ⟨by rfl, rfl⟩) (by assumption) ?_
            try simp only [Act.put, List.setIfInBounds_toArray, List.set_cons_zero, List.set_cons_succ]
            refine tkM (i := 27) (d := some 78) (v := undef) rfl rfl (by kernel_rfl) (by kernel_rfl) (by kernel_rfl) (fun _ _ _ h => h) (Or.inr ⟨by rfl, rfl⟩) (by assumption) ?_
            try simp only [Act.put, List.setIfInBounds_toArray, List.set_cons_zero, List.set_cons_succ]
            refine tkM (i := 28) (d := some 79) (v := ?_) rfl rfl (by kernel_rfl) (by kernel_rfl) (by kernel_rfl) (fun _ _ _ h => h) (Or.inl ⟨by rfl, ?_⟩) (by assumption) ?_
            rotate_left
            · intro w hSw; (try dsimp only at hSw); go_simp; try with_reducible rfl
            try simp only [Act.put, List.setIfInBounds_toArray, List.set_cons_zero, List.set_cons_succ]
            refine wpAnyH_done (by kernel_rfl) ?_ _
            go_wp2
            go_ret
            exact ⟨by rw [unhide HR2]; rfl, (unhide B3).trans ((unhide HB4).mono (unhide B3).size)⟩
          · rw [hok] at CM
            by_cases hi0 : i = 0
            · have HR2 : Hid (mksR M C.size (i + 1) = mksR M C.size 0) := hide (by rw [← unhide HR, (unhide HY) ((unhide HFST) hi0 hok)])
              have h0n : ¬ (0 : Int) < (i : Int) := by omega
              have h0nb : decide ((0 : Int) < (i : Int)) = false := decide_eq_false h0n
              have h0m : ¬ 0 < i := by omega
              have h0mb : decide (0 < i) = false := decide_eq_false h0m
              clear hok HBAD HX HY HFST HNX HZ hi0
              have K0 : (fun w' : World => w'.cell? ⟨w.heap.size, 1, none⟩ = some (.slice (some ⟨b, off, none⟩) M.length c2) ∧ w'.cell? ⟨b, off + i * 3, none⟩ = some (.string nm) ∧ w'.cell? ⟨b, off + i * 3 + 1, none⟩ = some (.int .i64 pl) ∧ w'.cell? ⟨b, off + i * 3 + 2, none⟩ = some (.bool st)) wr := ⟨y1, d0, d1, d2⟩
              refine wp_region_held_drew (S := fun w' => w'.cell? ⟨w.heap.size, 1, none⟩ = some (.slice (some ⟨b, off, none⟩) M.length c2) ∧ w'.cell? ⟨b, off + i * 3, none⟩ = some (.string nm) ∧ w'.cell? ⟨b, off + i * 3 + 1, none⟩ = some (.int .i64 pl) ∧ w'.cell? ⟨b, off + i * 3 + 2, none⟩ = some (.bool st)) (by kernel_rfl) (by first | go_keep | exact K0) (fun hHeld => ?_)
              refine tkM (i := 0) (d := some 51) (v := ?_) rfl rfl (by kernel_rfl) (by kernel_rfl) (by kernel_rfl) (fun _ _ _ h => h) (Or.inl ⟨by rfl, ?_⟩) (by assumption) ?_
              rotate_left
              · intro w hSw; (try dsimp only at hSw); go_simp; try with_reducible rfl
              try simp only [Act.put, List.setIfInBounds_toArray, List.set_cons_zero, List.set_cons_succ]
              refine tkM (i := 1) (d := some 52) (v := ?_) rfl rfl (by kernel_rfl) (by kernel_rfl) (by kernel_rfl) (fun _ _ _ h => h) (Or.inl ⟨by rfl, ?_⟩) (by assumption) ?_
              rotate_left
              · intro w hSw; (try dsimp only at hSw); go_simp; try with_reducible rfl
              try simp only [Act.put, List.setIfInBounds_toArray, List.set_cons_zero, List.set_cons_succ]
              refine tkM (i := 2) (d := some 53) (v := ?_) rfl rfl (by kernel_rfl) (by kernel_rfl) (by kernel_rfl) (fun _ _ _ h => h) (Or.inl ⟨by rfl, ?_⟩) (by assumption) ?_
              rotate_left
              · intro w hSw; (try dsimp only at hSw); go_simp; try with_reducible rfl
              try simp only [Act.put, List.setIfInBounds_toArray, List.set_cons_zero, List.set_cons_succ]
              refine tkM (i := 3) (d := some 54) (v := ?_) rfl rfl (by kernel_rfl) (by kernel_rfl) (by kernel_rfl) (fun _ _ _ h => h) (Or.inl ⟨by rfl, ?_⟩) (by assumption) ?_
              rotate_left
              · intro w hSw; (try dsimp only at hSw); go_simp; try with_reducible rfl
              try simp only [Act.put, List.setIfInBounds_toArray, List.set_cons_zero, List.set_cons_succ]
              refine tkM (i := 4) (d := some 55) (v := ?_) rfl rfl (by kernel_rfl) (by kernel_rfl) (by kernel_rfl) (fun _ _ _ h => h) (Or.inl ⟨by rfl, ?_⟩) (by assumption) ?_
              rotate_left
              · intro w hSw; (try dsimp only at hSw); go_simp; try with_reducible rfl
              try simp only [Act.put, List.setIfInBounds_toArray, List.set_cons_zero, List.set_cons_succ]
              refine tkM (i := 5) (d := some 56) (v := ?_) rfl rfl (by kernel_rfl) (by kernel_rfl) (by kernel_rfl) (fun _ _ _ h => h) (Or.inl ⟨by rfl, ?_⟩) (by assumption) ?_
              rotate_left
              · intro w hSw; (try dsimp only at hSw); go_simp; try with_reducible rfl
              try simp only [Act.put, List.setIfInBounds_toArray, List.set_cons_zero, List.set_cons_succ]
              refine tkM (i := 6) (d := some 57) (v := ?_) rfl rfl (by kernel_rfl) (by kernel_rfl) (by kernel_rfl) (fun _ _ _ h => h) (Or.inl ⟨by rfl, ?_⟩) (by assumption) ?_
              rotate_left
              · intro w hSw; (try dsimp only at hSw); go_simp; try with_reducible rfl
              try simp only [Act.put, List.setIfInBounds_toArray, List.set_cons_zero, List.set_cons_succ]
              refine wpAnyH_ready (rs := [7]) (by kernel_rfl) (by simp) (AllReadyH.cons rfl (fun Kq hK => ?_) AllReadyH.nil)
              go_simp
              go_at_call 25
              refine ((unhide CM) _).mono ?_
              rintro e w4 ⟨rfl, hb4⟩
              have hb5 := ((Below.refl wr.heap.size wr).trans (bdrew (Below.refl wr.heap.size wr) 1)).trans hb4
              have K4 : (fun w' : World => w'.cell? ⟨w.heap.size, 1, none⟩ = some (.slice (some ⟨b, off, none⟩) M.length c2) ∧ w'.cell? ⟨b, off + i * 3, none⟩ = some (.string nm) ∧ w'.cell? ⟨b, off + i * 3 + 1, none⟩ = some (.int .i64 pl) ∧ w'.cell? ⟨b, off + i * 3 + 2, none⟩ = some (.bool st)) w4 := ⟨(hb5.cell (p := ⟨w.heap.size, 1, none⟩) hg3).trans y1, (hb5.cell (p := ⟨b, off + i * 3, none⟩) hbw3).trans d0, (hb5.cell (p := ⟨b, off + i * 3 + 1, none⟩) hbw3).trans d1, (hb5.cell (p := ⟨b, off + i * 3 + 2, none⟩) hbw3).trans d2⟩
              have HB4 := hide ((unhide HB).trans (hb5.mono hbs))
              clear hb4 hb5
              try go_wp2_with fail
              refine hK.out _ _ K4 (fun hHeld4 => ?_)
              clear hK Kq
              try simp only [Act.put, List.setIfInBounds_toArray, List.set_cons_zero, List.set_cons_succ]
              refine tkM (i := 8) (d := some 59) (v := ?_) rfl rfl (by kernel_rfl) (by kernel_rfl) (by kernel_rfl) (fun _ _ _ h => h) (Or.inl ⟨by rfl, ?_⟩) (by assumption) ?_
              rotate_left
              · intro w hSw; (try dsimp only at hSw); go_simp; try with_reducible rfl
              try simp only [Act.put, List.setIfInBounds_toArray, List.set_cons_zero, List.set_cons_succ]
              refine tkM (i := 9) (d := some 60) (v := ?_) rfl rfl (by kernel_rfl) (by kernel_rfl) (by kernel_rfl) (fun _ _ _ h => h) (Or.inl ⟨by rfl, ?_⟩) (by assumption) ?_
              rotate_left
              · intro w hSw; (try dsimp only at hSw); go_simp; try with_reducible rfl
              try simp only [Act.put, List.setIfInBounds_toArray, List.set_cons_zero, List.set_cons_succ]
              refine tkM (i := 10) (d := some 61) (v := ?_) rfl rfl (by kernel_rfl) (by kernel_rfl) (by kernel_rfl) (fun _ _ _ h => h) (Or.inl ⟨by rfl, ?_⟩) (by assumption) ?_
              rotate_left
              · intro w hSw; (try dsimp only at hSw); go_simp; try with_reducible rfl
              try simp only [Act.put, List.setIfInBounds_toArray, List.set_cons_zero, List.set_cons_succ]
              refine tkM (i := 11) (d := some 62) (v := ?_) rfl rfl (by kernel_rfl) (by kernel_rfl) (by kernel_rfl) (fun _ _ _ h => h) (Or.inl ⟨by rfl, ?_⟩) (by assumption) ?_
              rotate_left
              · intro w hSw; (try dsimp only at hSw); go_simp; try with_reducible rfl
              try simp only [Act.put, List.setIfInBounds_toArray, List.set_cons_zero, List.set_cons_succ]
              refine tkM (i := 12) (d := some 63) (v := ?_) rfl rfl (by kernel_rfl) (by kernel_rfl) (by kernel_rfl) (fun _ _ _ h => h) (Or.inl ⟨by rfl, ?_⟩) (by assumption) ?_
              rotate_left
              · intro w hSw; (try dsimp only at hSw); go_simp; try with_reducible rfl
              try simp only [Act.put, List.setIfInBounds_toArray, List.set_cons_zero, List.set_cons_succ]
              refine tkM (i := 13) (d := some 64) (v := undef) rfl rfl (by kernel_rfl) (by kernel_rfl) (by kernel_rfl) (fun _ _ _ h => h) (Or.inr ⟨by rfl, rfl⟩) (by assumption) ?_
              try simp only [Act.put, List.setIfInBounds_toArray, List.set_cons_zero, List.set_cons_succ]
              refine tkM (i := 14) (d := some 65) (v := undef) rfl rfl (by kernel_rfl) (by kernel_rfl) (by kernel_rfl) (fun _ _ _ h => h) (Or.inr ⟨by rfl, rfl⟩) (by assumption) ?_
              try simp only [Act.put, List.setIfInBounds_toArray, List.set_cons_zero, List.set_cons_succ]
              refine tkM (i := 15) (d := some 66) (v := undef) rfl rfl (by kernel_rfl) (by kernel_rfl) (by kernel_rfl) (fun _ _ _ h => h) (Or.inr ⟨by rfl, rfl⟩) (by assumption) ?_
              try simp only [Act.put, List.setIfInBounds_toArray, List.set_cons_zero, List.set_cons_succ]
              refine tkM (i := 16) (d := some 67) (v := undef) rfl rfl (by kernel_rfl) (by kernel_rfl) (by kernel_rfl) (fun _ _ _ h => h) (Or.inr ⟨by rfl, rfl⟩) (by assumption) ?_
              try simp only [Act.put, List.setIfInBounds_toArray, List.set_cons_zero, List.set_cons_succ]
              refine tkM (i := 17) (d := some 68) (v := undef) rfl rfl (by kernel_rfl) (by kernel_rfl) (by kernel_rfl) (fun _ _ _ h => h) (Or.inr ⟨by rfl, rfl⟩) (by assumption) ?_
              try simp only [Act.put, List.setIfInBounds_toArray, List.set_cons_zero, List.set_cons_succ]
              refine tkM (i := 18) (d := some 69) (v := undef) rfl rfl (by kernel_rfl) (by kernel_rfl) (by kernel_rfl) (fun _ _ _ h => h) (Or.inr ⟨by rfl, rfl⟩) (by assumption) ?_
              try simp only [Act.put, List.setIfInBounds_toArray, List.set_cons_zero, List.set_cons_succ]
              refine tkM (i := 19) (d := some 70) (v := undef) rfl rfl (by kernel_rfl) (by kernel_rfl) (by kernel_rfl) (fun _ _ _ h => h) (Or.inr ⟨by rfl, rfl⟩) (by assumption) ?_
              try simp only [Act.put, List.setIfInBounds_toArray, List.set_cons_zero, List.set_cons_succ]
              refine tkM (i := 20) (d := some 71) (v := undef) rfl rfl (by kernel_rfl) (by kernel_rfl) (by kernel_rfl) (fun _ _ _ h => h) (Or.inr ⟨by rfl, rfl⟩) (by assumption) ?_
              try simp only [Act.put, List.setIfInBounds_toArray, List.set_cons_zero, List.set_cons_succ]
              refine tkM (i := 21) (d := some 72) (v := undef) rfl rfl (by kernel_rfl) (by kernel_rfl) (by kernel_rfl) (fun _ _ _ h => h) (Or.inr ⟨by rfl, rfl⟩) (by assumption) ?_
              try simp only [Act.put, List.setIfInBounds_toArray, List.set_cons_zero, List.set_cons_succ]
              refine tkM (i := 22) (d := some 73) (v := undef) rfl rfl (by kernel_rfl) (by kernel_rfl) (by kernel_rfl) (fun _ _ _ h => h) (Or.inr ⟨by rfl, rfl⟩) (by assumption) ?_
              try simp only [Act.put, List.setIfInBounds_toArray, List.set_cons_zero, List.set_cons_succ]
              refine tkM (i := 23) (d := some 74) (v := undef) rfl rfl (by kernel_rfl) (by kernel_rfl) (by kernel_rfl) (fun _ _ _ h => h) (Or.inr ⟨by rfl, rfl⟩) (by assumption) ?_
              try simp only [Act.put, List.setIfInBounds_toArray, List.set_cons_zero, List.set_cons_succ]
              refine tkM (i := 24) (d := some 75) (v := undef) rfl rfl (by kernel_rfl) (by kernel_rfl) (by kernel_rfl) (fun _ _ _ h => h) (Or.inr ⟨by rfl, rfl⟩) (by assumption) ?_
              try simp only [Act.put, List.setIfInBounds_toArray, List.set_cons_zero, List.set_cons_succ]
              refine tkM (i := 25) (d := some 76) (v := undef) rfl rfl (by kernel_rfl) (by kernel_rfl) (by kernel_rfl) (fun _ _ _ h => h) (Or.inr ⟨by rfl, rfl⟩) (by assumption) ?_
              try simp only [Act.put, List.setIfInBounds_toArray, List.set_cons_zero, List.set_cons_succ]
              refine tkM (i := 26) (d := some 77) (v := undef) rfl rfl (by kernel_rfl) (by kernel_rfl) (by kernel_rfl) (fun _ _ _ h => h) (Or.inr ⟨by rfl, rfl⟩) (by assumption) ?_
              try simp only [Act.put, List.setIfInBounds_toArray, List.set_cons_zero, List.set_cons_succ]
              refine tkM (i := 27) (d := some 78) (v := ?_) rfl rfl (by kernel_rfl) (by kernel_rfl) (by kernel_rfl) (fun _ _ _ h => h) (Or.inl ⟨by rfl, ?_⟩) (by assumption) ?_
              rotate_left
              · intro w hSw; (try dsimp only at hSw); go_simp; try with_reducible rfl
              try simp only [Act.put, List.setIfInBounds_toArray, List.set_cons_zero, List.set_cons_succ]
              refine tkM (i := 28) (d := some 79) (v := ?_) rfl rfl (by kernel_rfl) (by kernel_rfl) (by kernel_rfl) (fun _ _ _ h => h) (Or.inl ⟨by rfl, ?_⟩) (by assumption) ?_
              rotate_left
              · intro w hSw; (try dsimp only at hSw); go_simp; try with_reducible rfl
              try simp only [Act.put, List.setIfInBounds_toArray, List.set_cons_zero, List.set_cons_succ]
              refine wpAnyH_done (by kernel_rfl) ?_ _
              go_wp2
              go_roundw
              case rel => exact ⟨i + 1, by omega, by go_num, HR2, HB4⟩
              case measure => simp [intOf]; omega
            · obtain ⟨m, rfl⟩ : ∃ m, i = m + 1 := ⟨i - 1, by omega⟩
              clear hi0
              have hm2 : m < M.length := by omega
              have z0 := (unhide HZ) m hm2
              have HGE : Hid (mk1 M C.size (m + 1) = !(geB (mk_g M m).name nm)) := hide ((unhide HNX) m rfl hok)
              have hm1 : ((m + 1 : Nat) : Int) - 1 = (m : Int) := by omega
              have hm1' : (m : Int) + 1 - 1 = (m : Int) := by omega
              have hm0 : (0 : Int) < (m : Int) + 1 := by omega
              have hm0' : decide ((0 : Int) < (m : Int) + 1) = true := decide_eq_true hm0
              have hml : (m : Int) < (M.length : Int) := by omega
              have hml2 : (m : Int) + 1 < (M.length : Int) := by omega
              have hmn : (0 : Int) ≤ (m : Int) := by omega
              have hmn2 : (0 : Int) ≤ (m : Int) + 1 := by omega
              have hwm : IntKind.i64.wrap (m : Int) = (m : Int) := by rw [IntKind.wrap_i64]; omega
              generalize (mk_g M m).name = pn at *
              cases hge : geB pn nm
              · have hq : Op.bytesLess pn.toList nm.toList = true := by unfold geB at hge; simpa using hge
                have HR2 : Hid (mksR M C.size (m + 1 + 1) = mksR M C.size 0) := hide (by rw [← unhide HR, (unhide HY) (by rw [unhide HGE, hge]; rfl)])
                clear hok HBAD HX HY HFST HNX HGE hge HZ
                have K0 : (fun w' : World => w'.cell? ⟨w.heap.size, 1, none⟩ = some (.slice (some ⟨b, off, none⟩) M.length c2) ∧ w'.cell? ⟨b, off + (m + 1) * 3, none⟩ = some (.string nm) ∧ w'.cell? ⟨b, off + (m + 1) * 3 + 1, none⟩ = some (.int .i64 pl) ∧ w'.cell? ⟨b, off + (m + 1) * 3 + 2, none⟩ = some (.bool st) ∧ w'.cell? ⟨b, off + m * 3, none⟩ = some (.string pn)) wr := ⟨y1, d0, d1, d2, z0⟩
                refine wp_region_held_drew (S := fun w' => w'.cell? ⟨w.heap.size, 1, none⟩ = some (.slice (some ⟨b, off, none⟩) M.length c2) ∧ w'.cell? ⟨b, off + (m + 1) * 3, none⟩ = some (.string nm) ∧ w'.cell? ⟨b, off + (m + 1) * 3 + 1, none⟩ = some (.int .i64 pl) ∧ w'.cell? ⟨b, off + (m + 1) * 3 + 2, none⟩ = some (.bool st) ∧ w'.cell? ⟨b, off + m * 3, none⟩ = some (.string pn)) (by kernel_rfl) (by first | go_keep | exact K0) (fun hHeld => ?_)
                refine tkM (i := 0) (d := some 51) (v := ?_) rfl rfl (by kernel_rfl) (by kernel_rfl) (by kernel_rfl) (fun _ _ _ h => h) (Or.inl ⟨by rfl, ?_⟩) (by assumption) ?_
                rotate_left
                · intro w hSw; (try dsimp only at hSw); go_simp; try with_reducible rfl
                try simp only [Act.put, List.setIfInBounds_toArray, List.set_cons_zero, List.set_cons_succ]
                refine tkM (i := 1) (d := some 52) (v := ?_) rfl rfl (by kernel_rfl) (by kernel_rfl) (by kernel_rfl) (fun _ _ _ h => h) (Or.inl ⟨by rfl, ?_⟩) (by assumption) ?_
                rotate_left
                · intro w hSw; (try dsimp only at hSw); go_simp; try with_reducible rfl
                try simp only [Act.put, List.setIfInBounds_toArray, List.set_cons_zero, List.set_cons_succ]
                refine tkM (i := 2) (d := some 53) (v := ?_) rfl rfl (by kernel_rfl) (by kernel_rfl) (by kernel_rfl) (fun _ _ _ h => h) (Or.inl ⟨by rfl, ?_⟩) (by assumption) ?_
                rotate_left
                · intro w hSw; (try dsimp only at hSw); go_simp; try with_reducible rfl
                try simp only [Act.put, List.setIfInBounds_toArray, List.set_cons_zero, List.set_cons_succ]
                refine tkM (i := 3) (d := some 54) (v := ?_) rfl rfl (by kernel_rfl) (by kernel_rfl) (by kernel_rfl) (fun _ _ _ h => h) (Or.inl ⟨by rfl, ?_⟩) (by assumption) ?_
                rotate_left
                · intro w hSw; (try dsimp only at hSw); go_simp; try with_reducible rfl
                try simp only [Act.put, List.setIfInBounds_toArray, List.set_cons_zero, List.set_cons_succ]
                refine tkM (i := 4) (d := some 55) (v := ?_) rfl rfl (by kernel_rfl) (by kernel_rfl) (by kernel_rfl) (fun _ _ _ h => h) (Or.inl ⟨by rfl, ?_⟩) (by assumption) ?_
                rotate_left
                · intro w hSw; (try dsimp only at hSw); go_simp; try with_reducible rfl
                try simp only [Act.put, List.setIfInBounds_toArray, List.set_cons_zero, List.set_cons_succ]
                refine tkM (i := 5) (d := some 56) (v := ?_) rfl rfl (by kernel_rfl) (by kernel_rfl) (by kernel_rfl) (fun _ _ _ h => h) (Or.inl ⟨by rfl, ?_⟩) (by assumption) ?_
                rotate_left
                · intro w hSw; (try dsimp only at hSw); go_simp; try with_reducible rfl
                try simp only [Act.put, List.setIfInBounds_toArray, List.set_cons_zero, List.set_cons_succ]
                refine tkM (i := 6) (d := some 57) (v := ?_) rfl rfl (by kernel_rfl) (by kernel_rfl) (by kernel_rfl) (fun _ _ _ h => h) (Or.inl ⟨by rfl, ?_⟩) (by assumption) ?_
                rotate_left
                · intro w hSw; (try dsimp only at hSw); go_simp; try with_reducible rfl
                try simp only [Act.put, List.setIfInBounds_toArray, List.set_cons_zero, List.set_cons_succ]
                refine wpAnyH_ready (rs := [7]) (by kernel_rfl) (by simp) (AllReadyH.cons rfl (fun Kq hK => ?_) AllReadyH.nil)
                go_simp
                go_at_call 25
                refine ((unhide CM) _).mono ?_
                rintro e w4 ⟨rfl, hb4⟩
                have hb5 := ((Below.refl wr.heap.size wr).trans (bdrew (Below.refl wr.heap.size wr) 1)).trans hb4
                have K4 : (fun w' : World => w'.cell? ⟨w.heap.size, 1, none⟩ = some (.slice (some ⟨b, off, none⟩) M.length c2) ∧ w'.cell? ⟨b, off + (m + 1) * 3, none⟩ = some (.string nm) ∧ w'.cell? ⟨b, off + (m + 1) * 3 + 1, none⟩ = some (.int .i64 pl) ∧ w'.cell? ⟨b, off + (m + 1) * 3 + 2, none⟩ = some (.bool st) ∧ w'.cell? ⟨b, off + m * 3, none⟩ = some (.string pn)) w4 := ⟨(hb5.cell (p := ⟨w.heap.size, 1, none⟩) hg3).trans y1, (hb5.cell (p := ⟨b, off + (m + 1) * 3, none⟩) hbw3).trans d0, (hb5.cell (p := ⟨b, off + (m + 1) * 3 + 1, none⟩) hbw3).trans d1, (hb5.cell (p := ⟨b, off + (m + 1) * 3 + 2, none⟩) hbw3).trans d2, (hb5.cell (p := ⟨b, off + m * 3, none⟩) hbw3).trans z0⟩
                have HB4 := hide ((unhide HB).trans (hb5.mono hbs))
                clear hb4 hb5
                try go_wp2_with fail
                refine hK.out _ _ K4 (fun hHeld4 => ?_)
                clear hK Kq
                try simp only [Act.put, List.setIfInBounds_toArray, List.set_cons_zero, List.set_cons_succ]
                refine tkM (i := 8) (d := some 59) (v := ?_) rfl rfl (by kernel_rfl) (by kernel_rfl) (by kernel_rfl) (fun _ _ _ h => h) (Or.inl ⟨by rfl, ?_⟩) (by assumption) ?_
                rotate_left
                · intro w hSw; (try dsimp only at hSw); go_simp; try with_reducible rfl
                try simp only [Act.put, List.setIfInBounds_toArray, List.set_cons_zero, List.set_cons_succ]
                refine tkM (i := 9) (d := some 60) (v := ?_) rfl rfl (by kernel_rfl) (by kernel_rfl) (by kernel_rfl) (fun _ _ _ h => h) (Or.inl ⟨by rfl, ?_⟩) (by assumption) ?_
                rotate_left
                · intro w hSw; (try dsimp only at hSw); go_simp; try with_reducible rfl
                try simp only [Act.put, List.setIfInBounds_toArray, List.set_cons_zero, List.set_cons_succ]
                refine tkM (i := 10) (d := some 61) (v := ?_) rfl rfl (by kernel_rfl) (by kernel_rfl) (by kernel_rfl) (fun _ _ _ h => h) (Or.inl ⟨by rfl, ?_⟩) (by assumption) ?_
                rotate_left
                · intro w hSw; (try dsimp only at hSw); go_simp; try with_reducible rfl
                try simp only [Act.put, List.setIfInBounds_toArray, List.set_cons_zero, List.set_cons_succ]
                refine tkM (i := 11) (d := some 62) (v := ?_) rfl rfl (by kernel_rfl) (by kernel_rfl) (by kernel_rfl) (fun _ _ _ h => h) (Or.inl ⟨by rfl, ?_⟩) (by assumption) ?_
                rotate_left
                · intro w hSw; (try dsimp only at hSw); go_simp; try with_reducible rfl
                try simp only [Act.put, List.setIfInBounds_toArray, List.set_cons_zero, List.set_cons_succ]
                refine tkM (i := 12) (d := some 63) (v := ?_) rfl rfl (by kernel_rfl) (by kernel_rfl) (by kernel_rfl) (fun _ _ _ h => h) (Or.inl ⟨by rfl, ?_⟩) (by assumption) ?_
                rotate_left
                · intro w hSw; (try dsimp only at hSw); go_simp; try with_reducible rfl
                try simp only [Act.put, List.setIfInBounds_toArray, List.set_cons_zero, List.set_cons_succ]
                refine tkM (i := 13) (d := some 64) (v := ?_) rfl rfl (by kernel_rfl) (by kernel_rfl) (by kernel_rfl) (fun _ _ _ h => h) (Or.inl ⟨by rfl, ?_⟩) (by assumption) ?_
                rotate_left
                · intro w hSw; (try dsimp only at hSw); go_simp; try with_reducible rfl
                try simp only [Act.put, List.setIfInBounds_toArray, List.set_cons_zero, List.set_cons_succ]
                refine tkM (i := 14) (d := some 65) (v := ?_) rfl rfl (by kernel_rfl) (by kernel_rfl) (by kernel_rfl) (fun _ _ _ h => h) (Or.inl ⟨by rfl, ?_⟩) (by assumption) ?_
                rotate_left
                · intro w hSw; (try dsimp only at hSw); go_simp; try with_reducible rfl
                try simp only [Act.put, List.setIfInBounds_toArray, List.set_cons_zero, List.set_cons_succ]
                refine tkM (i := 15) (d := some 66) (v := ?_) rfl rfl (by kernel_rfl) (by kernel_rfl) (by kernel_rfl) (fun _ _ _ h => h) (Or.inl ⟨by rfl, ?_⟩) (by assumption) ?_
                rotate_left
                · intro w hSw; (try dsimp only at hSw); go_simp; try with_reducible rfl
                try simp only [Act.put, List.setIfInBounds_toArray, List.set_cons_zero, List.set_cons_succ]
                refine tkM (i := 16) (d := some 67) (v := ?_) rfl rfl (by kernel_rfl) (by kernel_rfl) (by kernel_rfl) (fun _ _ _ h => h) (Or.inl ⟨by rfl, ?_⟩) (by assumption) ?_
                rotate_left
                · intro w hSw; (try dsimp only at hSw); go_simp; try with_reducible rfl
                try simp only [Act.put, List.setIfInBounds_toArray, List.set_cons_zero, List.set_cons_succ]
                refine tkM (i := 17) (d := some 68) (v := ?_) rfl rfl (by kernel_rfl) (by kernel_rfl) (by kernel_rfl) (fun _ _ _ h => h) (Or.inl ⟨by rfl, ?_⟩) (by assumption) ?_
                rotate_left
                · intro w hSw; (try dsimp only at hSw); go_simp; try with_reducible rfl
                try simp only [Act.put, List.setIfInBounds_toArray, List.set_cons_zero, List.set_cons_succ]
                refine tkM (i := 18) (d := some 69) (v := ?_) rfl rfl (by kernel_rfl) (by kernel_rfl) (by kernel_rfl) (fun _ _ _ h => h) (Or.inl ⟨by rfl, ?_⟩) (by assumption) ?_
                rotate_left
                · intro w hSw; (try dsimp only at hSw); go_simp; try with_reducible rfl
                try simp only [Act.put, List.setIfInBounds_toArray, List.set_cons_zero, List.set_cons_succ]
                refine tkM (i := 19) (d := some 70) (v := ?_) rfl rfl (by kernel_rfl) (by kernel_rfl) (by kernel_rfl) (fun _ _ _ h => h) (Or.inl ⟨by rfl, ?_⟩) (by assumption) ?_
                rotate_left
                · intro w hSw; (try dsimp only at hSw); go_simp; try with_reducible rfl
                try simp only [Act.put, List.setIfInBounds_toArray, List.set_cons_zero, List.set_cons_succ]
                refine tkM (i := 20) (d := some 71) (v := ?_) rfl rfl (by kernel_rfl) (by kernel_rfl) (by kernel_rfl) (fun _ _ _ h => h) (Or.inl ⟨by rfl, ?_⟩) (by assumption) ?_
                rotate_left
                · intro w hSw; (try dsimp only at hSw); go_simp; try with_reducible rfl
                try simp only [Act.put, List.setIfInBounds_toArray, List.set_cons_zero, List.set_cons_succ]
                refine tkM (i := 21) (d := some 72) (v := ?_) rfl rfl (by kernel_rfl) (by kernel_rfl) (by kernel_rfl) (fun _ _ _ h => h) (Or.inl ⟨by rfl, ?_⟩) (by assumption) ?_
                rotate_left
                · intro w hSw; (try dsimp only at hSw); go_simp; try with_reducible rfl
                try simp only [Act.put, List.setIfInBounds_toArray, List.set_cons_zero, List.set_cons_succ]
                refine tkM (i := 22) (d := some 73) (v := ?_) rfl rfl (by kernel_rfl) (by kernel_rfl) (by kernel_rfl) (fun _ _ _ h => h) (Or.inl ⟨by rfl, ?_⟩) (by assumption) ?_
                rotate_left
                · intro w hSw; (try dsimp only at hSw); go_simp; try with_reducible rfl
                try simp only [Act.put, List.setIfInBounds_toArray, List.set_cons_zero, List.set_cons_succ]
                refine tkM (i := 23) (d := some 74) (v := ?_) rfl rfl (by kernel_rfl) (by kernel_rfl) (by kernel_rfl) (fun _ _ _ h => h) (Or.inl ⟨by rfl, ?_⟩) (by assumption) ?_
                rotate_left
                · intro w hSw; (try dsimp only at hSw); go_simp; try with_reducible rfl
                try simp only [Act.put, List.setIfInBounds_toArray, List.set_cons_zero, List.set_cons_succ]
                refine tkM (i := 24) (d := some 75) (v := ?_) rfl rfl (by kernel_rfl) (by kernel_rfl) (by kernel_rfl) (fun _ _ _ h => h) (Or.inl ⟨by rfl, ?_⟩) (by assumption) ?_
                rotate_left
                · intro w hSw; (try dsimp only at hSw); go_simp; try with_reducible rfl
                try simp only [Act.put, List.setIfInBounds_toArray, List.set_cons_zero, List.set_cons_succ]
                refine tkM (i := 25) (d := some 76) (v := ?_) rfl rfl (by kernel_rfl) (by kernel_rfl) (by kernel_rfl) (fun _ _ _ h => h) (Or.inl ⟨by rfl, ?_⟩) (by assumption) ?_
                rotate_left
                · intro w hSw; (try dsimp only at hSw); go_simp; try with_reducible rfl
                try simp only [Act.put, List.setIfInBounds_toArray, List.set_cons_zero, List.set_cons_succ]
                refine tkM (i := 26) (d := some 77) (v := ?_) rfl rfl (by kernel_rfl) (by kernel_rfl) (by kernel_rfl) (fun _ _ _ h => h) (Or.inl ⟨by rfl, ?_⟩) (by assumption) ?_
                rotate_left
                · intro w hSw; (try dsimp only at hSw); go_simp; try with_reducible rfl
                try simp only [Act.put, List.setIfInBounds_toArray, List.set_cons_zero, List.set_cons_succ]
                refine tkM (i := 27) (d := some 78) (v := ?_) rfl rfl (by kernel_rfl) (by kernel_rfl) (by kernel_rfl) (fun _ _ _ h => h) (Or.inl ⟨by rfl, ?_⟩) (by assumption) ?_
                rotate_left
                · intro w hSw; (try dsimp only at hSw); go_simp; try with_reducible rfl
                try simp only [Act.put, List.setIfInBounds_toArray, List.set_cons_zero, List.set_cons_succ]
                refine tkM (i := 28) (d := some 79) (v := ?_) rfl rfl (by kernel_rfl) (by kernel_rfl) (by kernel_rfl) (fun _ _ _ h => h) (Or.inl ⟨by rfl, ?_⟩) (by assumption) ?_
                rotate_left
                · intro w hSw; (try dsimp only at hSw); go_simp; try with_reducible rfl
                try simp only [Act.put, List.setIfInBounds_toArray, List.set_cons_zero, List.set_cons_succ]
                refine wpAnyH_done (by kernel_rfl) ?_ _
                go_wp2
                go_roundw
                case rel => exact ⟨m + 1 + 1, by omega, by go_num, HR2, HB4⟩
                case measure => simp [intOf]; omega
              · have hq : Op.bytesLess pn.toList nm.toList = false := by unfold geB at hge; simpa using hge
                have HR2 : Hid (Q = 1) := hide ((unhide HQ5) (by rw [← unhide HR, (unhide HX) (by rw [unhide HGE, hge]; rfl)]))
                clear hok HBAD HX HY HFST HNX HGE hge HZ
                have K0 : (fun w' : World => w'.cell? ⟨w.heap.size, 1, none⟩ = some (.slice (some ⟨b, off, none⟩) M.length c2) ∧ w'.cell? ⟨b, off + (m + 1) * 3, none⟩ = some (.string nm) ∧ w'.cell? ⟨b, off + (m + 1) * 3 + 1, none⟩ = some (.int .i64 pl) ∧ w'.cell? ⟨b, off + (m + 1) * 3 + 2, none⟩ = some (.bool st) ∧ w'.cell? ⟨b, off + m * 3, none⟩ = some (.string pn)) wr := ⟨y1, d0, d1, d2, z0⟩
                refine wp_region_held_drew (S := fun w' => w'.cell? ⟨w.heap.size, 1, none⟩ = some (.slice (some ⟨b, off, none⟩) M.length c2) ∧ w'.cell? ⟨b, off + (m + 1) * 3, none⟩ = some (.string nm) ∧ w'.cell? ⟨b, off + (m + 1) * 3 + 1, none⟩ = some (.int .i64 pl) ∧ w'.cell? ⟨b, off + (m + 1) * 3 + 2, none⟩ = some (.bool st) ∧ w'.cell? ⟨b, off + m * 3, none⟩ = some (.string pn)) (by kernel_rfl) (by first | go_keep | exact K0) (fun hHeld => ?_)
                refine tkM (i := 0) (d := some 51) (v := ?_) rfl rfl (by kernel_rfl) (by kernel_rfl) (by kernel_rfl) (fun _ _ _ h => h) (Or.inl ⟨by rfl, ?_⟩) (by assumption) ?_
                rotate_left
                · intro w hSw; (try dsimp only at hSw); go_simp; try with_reducible rfl
                try simp only [Act.put, List.setIfInBounds_toArray, List.set_cons_zero, List.set_cons_succ]
                refine tkM (i := 1) (d := some 52) (v := ?_) rfl rfl (by kernel_rfl) (by kernel_rfl) (by kernel_rfl) (fun _ _ _ h => h) (Or.inl ⟨by rfl, ?_⟩) (by assumption) ?_
                rotate_left
                · intro w hSw; (try dsimp only at hSw); go_simp; try with_reducible rfl
                try simp only [Act.put, List.setIfInBounds_toArray, List.set_cons_zero, List.set_cons_succ]
                refine tkM (i := 2) (d := some 53) (v := ?_) rfl rfl (by kernel_rfl) (by kernel_rfl) (by kernel_rfl) (fun _ _ _ h => h) (Or.inl ⟨by rfl, ?_⟩) (by assumption) ?_
                rotate_left
                · intro w hSw; (try dsimp only at hSw); go_simp; try with_reducible rfl
                try simp only [Act.put, List.setIfInBounds_toArray, List.set_cons_zero, List.set_cons_succ]
                refine tkM (i := 3) (d := some 54) (v := ?_) rfl rfl (by kernel_rfl) (by kernel_rfl) (by kernel_rfl) (fun _ _ _ h => h) (Or.inl ⟨by rfl, ?_⟩) (by assumption) ?_
                rotate_left
                · intro w hSw; (try dsimp only at hSw); go_simp; try with_reducible rfl
                try simp only [Act.put, List.setIfInBounds_toArray, List.set_cons_zero, List.set_cons_succ]
                refine tkM (i := 4) (d := some 55) (v := ?_) rfl rfl (by kernel_rfl) (by kernel_rfl) (by kernel_rfl) (fun _ _ _ h => h) (Or.inl ⟨by rfl, ?_⟩) (by assumption) ?_
                rotate_left
                · intro w hSw; (try dsimp only at hSw); go_simp; try with_reducible rfl
                try simp only [Act.put, List.setIfInBounds_toArray, List.set_cons_zero, List.set_cons_succ]
                refine tkM (i := 5) (d := some 56) (v := ?_) rfl rfl (by kernel_rfl) (by kernel_rfl) (by kernel_rfl) (fun _ _ _ h => h) (Or.inl ⟨by rfl, ?_⟩) (by assumption) ?_
                rotate_left
                · intro w hSw; (try dsimp only at hSw); go_simp; try with_reducible rfl
                try simp only [Act.put, List.setIfInBounds_toArray, List.set_cons_zero, List.set_cons_succ]
                refine tkM (i := 6) (d := some 57) (v := ?_) rfl rfl (by kernel_rfl) (by kernel_rfl) (by kernel_rfl) (fun _ _ _ h => h) (Or.inl ⟨by rfl, ?_⟩) (by assumption) ?_
                rotate_left
                · intro w hSw; (try dsimp only at hSw); go_simp; try with_reducible rfl
                try simp only [Act.put, List.setIfInBounds_toArray, List.set_cons_zero, List.set_cons_succ]
                refine wpAnyH_ready (rs := [7]) (by kernel_rfl) (by simp) (AllReadyH.cons rfl (fun Kq hK => ?_) AllReadyH.nil)
                go_simp
                go_at_call 25
                refine ((unhide CM) _).mono ?_
                rintro e w4 ⟨rfl, hb4⟩
                have hb5 := ((Below.refl wr.heap.size wr).trans (bdrew (Below.refl wr.heap.size wr) 1)).trans hb4
                have K4 : (fun w' : World => w'.cell? ⟨w.heap.size, 1, none⟩ = some (.slice (some ⟨b, off, none⟩) M.length c2) ∧ w'.cell? ⟨b, off + (m + 1) * 3, none⟩ = some (.string nm) ∧ w'.cell? ⟨b, off + (m + 1) * 3 + 1, none⟩ = some (.int .i64 pl) ∧ w'.cell? ⟨b, off + (m + 1) * 3 + 2, none⟩ = some (.bool st) ∧ w'.cell? ⟨b, off + m * 3, none⟩ = some (.string pn)) w4 := ⟨(hb5.cell (p := ⟨w.heap.size, 1, none⟩) hg3).trans y1, (hb5.cell (p := ⟨b, off + (m + 1) * 3, none⟩) hbw3).trans d0, (hb5.cell (p := ⟨b, off + (m + 1) * 3 + 1, none⟩) hbw3).trans d1, (hb5.cell (p := ⟨b, off + (m + 1) * 3 + 2, none⟩) hbw3).trans d2, (hb5.cell (p := ⟨b, off + m * 3, none⟩) hbw3).trans z0⟩
                have HB4 := hide ((unhide HB).trans (hb5.mono hbs))
                clear hb4 hb5
                try go_wp2_with fail
                refine hK.out _ _ K4 (fun hHeld4 => ?_)
                clear hK Kq
                try simp only [Act.put, List.setIfInBounds_toArray, List.set_cons_zero, List.set_cons_succ]
                refine tkM (i := 8) (d := some 59) (v := ?_) rfl rfl (by kernel_rfl) (by kernel_rfl) (by kernel_rfl) (fun _ _ _ h => h) (Or.inl ⟨by rfl, ?_⟩) (by assumption) ?_
                rotate_left
                · intro w hSw; (try dsimp only at hSw); go_simp; try with_reducible rfl
                try simp only [Act.put, List.setIfInBounds_toArray, List.set_cons_zero, List.set_cons_succ]
                refine tkM (i := 9) (d := some 60) (v := ?_) rfl rfl (by kernel_rfl) (by kernel_rfl) (by kernel_rfl) (fun _ _ _ h => h) (Or.inl ⟨by rfl, ?_⟩) (by assumption) ?_
                rotate_left
                · intro w hSw; (try dsimp only at hSw); go_simp; try with_reducible rfl
                try simp only [Act.put, List.setIfInBounds_toArray, List.set_cons_zero, List.set_cons_succ]
                refine tkM (i := 10) (d := some 61) (v := ?_) rfl rfl (by kernel_rfl) (by kernel_rfl) (by kernel_rfl) (fun _ _ _ h => h) (Or.inl ⟨by rfl, ?_⟩) (by assumption) ?_
                rotate_left
                · intro w hSw; (try dsimp only at hSw); go_simp; try with_reducible rfl
                try simp only [Act.put, List.setIfInBounds_toArray, List.set_cons_zero, List.set_cons_succ]
                refine tkM (i := 11) (d := some 62) (v := ?_) rfl rfl (by kernel_rfl) (by kernel_rfl) (by kernel_rfl) (fun _ _ _ h => h) (Or.inl ⟨by rfl, ?_⟩) (by assumption) ?_
                rotate_left
                · intro w hSw; (try dsimp only at hSw); go_simp; try with_reducible rfl
                try simp only [Act.put, List.setIfInBounds_toArray, List.set_cons_zero, List.set_cons_succ]
                refine tkM (i := 12) (d := some 63) (v := ?_) rfl rfl (by kernel_rfl) (by kernel_rfl) (by kernel_rfl) (fun _ _ _ h => h) (Or.inl ⟨by rfl, ?_⟩) (by assumption) ?_
                rotate_left
                · intro w hSw; (try dsimp only at hSw); go_simp; try with_reducible rfl
                try simp only [Act.put, List.setIfInBounds_toArray, List.set_cons_zero, List.set_cons_succ]
                refine tkM (i := 13) (d := some 64) (v := ?_) rfl rfl (by kernel_rfl) (by kernel_rfl) (by kernel_rfl) (fun _ _ _ h => h) (Or.inl ⟨by rfl, ?_⟩) (by assumption) ?_
                rotate_left
                · intro w hSw; (try dsimp only at hSw); go_simp; try with_reducible rfl
                try simp only [Act.put, List.setIfInBounds_toArray, List.set_cons_zero, List.set_cons_succ]
                refine tkM (i := 14) (d := some 65) (v := ?_) rfl rfl (by kernel_rfl) (by kernel_rfl) (by kernel_rfl) (fun _ _ _ h => h) (Or.inl ⟨by rfl, ?_⟩) (by assumption) ?_
                rotate_left
                · intro w hSw; (try dsimp only at hSw); go_simp; try with_reducible rfl
                try simp only [Act.put, List.setIfInBounds_toArray, List.set_cons_zero, List.set_cons_succ]
                refine tkM (i := 15) (d := some 66) (v := ?_) rfl rfl (by kernel_rfl) (by kernel_rfl) (by kernel_rfl) (fun _ _ _ h => h) (Or.inl ⟨by rfl, ?_⟩) (by assumption) ?_
                rotate_left
                · intro w hSw; (try dsimp only at hSw); go_simp; try with_reducible rfl
                try simp only [Act.put, List.setIfInBounds_toArray, List.set_cons_zero, List.set_cons_succ]
                refine tkM (i := 16) (d := some 67) (v := ?_) rfl rfl (by kernel_rfl) (by kernel_rfl) (by kernel_rfl) (fun _ _ _ h => h) (Or.inl ⟨by rfl, ?_⟩) (by assumption) ?_
                rotate_left
                · intro w hSw; (try dsimp only at hSw); go_simp; try with_reducible rfl
                try simp only [Act.put, List.setIfInBounds_toArray, List.set_cons_zero, List.set_cons_succ]
                refine tkM (i := 17) (d := some 68) (v := ?_) rfl rfl (by kernel_rfl) (by kernel_rfl) (by kernel_rfl) (fun _ _ _ h => h) (Or.inl ⟨by rfl, ?_⟩) (by assumption) ?_
                rotate_left
                · intro w hSw; (try dsimp only at hSw); go_simp; try with_reducible rfl
                try simp only [Act.put, List.setIfInBounds_toArray, List.set_cons_zero, List.set_cons_succ]
                refine tkM (i := 18) (d := some 69) (v := ?_) rfl rfl (by kernel_rfl) (by kernel_rfl) (by kernel_rfl) (fun _ _ _ h => h) (Or.inl ⟨by rfl, ?_⟩) (by assumption) ?_
                rotate_left
                · intro w hSw; (try dsimp only at hSw); go_simp; try with_reducible rfl
                try simp only [Act.put, List.setIfInBounds_toArray, List.set_cons_zero, List.set_cons_succ]
                refine tkM (i := 19) (d := some 70) (v := ?_) rfl rfl (by kernel_rfl) (by kernel_rfl) (by kernel_rfl) (fun _ _ _ h => h) (Or.inl ⟨by rfl, ?_⟩) (by assumption) ?_
                rotate_left
                · intro w hSw; (try dsimp only at hSw); go_simp; try with_reducible rfl
                try simp only [Act.put, List.setIfInBounds_toArray, List.set_cons_zero, List.set_cons_succ]
                refine tkM (i := 20) (d := some 71) (v := ?_) rfl rfl (by kernel_rfl) (by kernel_rfl) (by kernel_rfl) (fun _ _ _ h => h) (Or.inl ⟨by rfl, ?_⟩) (by assumption) ?_
                rotate_left
                · intro w hSw; (try dsimp only at hSw); go_simp; try with_reducible rfl
                try simp only [Act.put, List.setIfInBounds_toArray, List.set_cons_zero, List.set_cons_succ]
                refine tkM (i := 21) (d := some 72) (v := ?_) rfl rfl (by kernel_rfl) (by kernel_rfl) (by kernel_rfl) (fun _ _ _ h => h) (Or.inl ⟨by rfl, ?_⟩) (by assumption) ?_
                rotate_left
                · intro w hSw; (try dsimp only at hSw); go_simp; try with_reducible rfl
                try simp only [Act.put, List.setIfInBounds_toArray, List.set_cons_zero, List.set_cons_succ]
                refine tkM (i := 22) (d := some 73) (v := ?_) rfl rfl (by kernel_rfl) (by kernel_rfl) (by kernel_rfl) (fun _ _ _ h => h) (Or.inl ⟨by rfl, ?_⟩) (by assumption) ?_
                rotate_left
                · intro w hSw; (try dsimp only at hSw); go_simp; try with_reducible rfl
                try simp only [Act.put, List.setIfInBounds_toArray, List.set_cons_zero, List.set_cons_succ]
                refine tkM (i := 23) (d := some 74) (v := ?_) rfl rfl (by kernel_rfl) (by kernel_rfl) (by kernel_rfl) (fun _ _ _ h => h) (Or.inl ⟨by rfl, ?_⟩) (by assumption) ?_
                rotate_left
                · intro w hSw; (try dsimp only at hSw); go_simp; try with_reducible rfl
                try simp only [Act.put, List.setIfInBounds_toArray, List.set_cons_zero, List.set_cons_succ]
                refine tkM (i := 24) (d := some 75) (v := ?_) rfl rfl (by kernel_rfl) (by kernel_rfl) (by kernel_rfl) (fun _ _ _ h => h) (Or.inl ⟨by rfl, ?_⟩) (by assumption) ?_
                rotate_left
                · intro w hSw; (try dsimp only at hSw); go_simp; try with_reducible rfl
                try simp only [Act.put, List.setIfInBounds_toArray, List.set_cons_zero, List.set_cons_succ]
                refine tkM (i := 25) (d := some 76) (v := ?_) rfl rfl (by kernel_rfl) (by kernel_rfl) (by kernel_rfl) (fun _ _ _ h => h) (Or.inl ⟨by rfl, ?_⟩) (by assumption) ?_
                rotate_left
                · intro w hSw; (try dsimp only at hSw); go_simp; try with_reducible rfl
                try simp only [Act.put, List.setIfInBounds_toArray, List.set_cons_zero, List.set_cons_succ]
                refine tkM (i := 26) (d := some 77) (v := ?_) rfl rfl (by kernel_rfl) (by kernel_rfl) (by kernel_rfl) (fun _ _ _ h => h) (Or.inl ⟨by rfl, ?_⟩) (by assumption) ?_
                rotate_left
                · intro w hSw; (try dsimp only at hSw); go_simp; try with_reducible rfl
                try simp only [Act.put, List.setIfInBounds_toArray, List.set_cons_zero, List.set_cons_succ]
                refine tkM (i := 27) (d := some 78) (v := ?_) rfl rfl (by kernel_rfl) (by kernel_rfl) (by kernel_rfl) (fun _ _ _ h => h) (Or.inl ⟨by rfl, ?_⟩) (by assumption) ?_
                rotate_left
                · intro w hSw; (try dsimp only at hSw); go_simp; try with_reducible rfl
                try simp only [Act.put, List.setIfInBounds_toArray, List.set_cons_zero, List.set_cons_succ]
                refine tkM (i := 28) (d := some 79) (v := ?_) rfl rfl (by kernel_rfl) (by kernel_rfl) (by kernel_rfl) (fun _ _ _ h => h) (Or.inl ⟨by rfl, ?_⟩) (by assumption) ?_
                rotate_left
                · intro w hSw; (try dsimp only at hSw); go_simp; try with_reducible rfl
                try simp only [Act.put, List.setIfInBounds_toArray, List.set_cons_zero, List.set_cons_succ]
                refine wpAnyH_done (by kernel_rfl) ?_ _
                go_wp2
                go_ret
                exact ⟨by rw [unhide HR2]; rfl, (unhide B3).trans ((unhide HB4).mono (unhide B3).size)⟩
        · have HR2 : Hid (Q = 0) := hide ((unhide HQ6) hc hm (unhide HNE) (unhide HS1) (by rw [← unhide HR, mksR_end M C.size i hlt]))
          obtain rfl : i = M.length := by omega
          go_wp2
          go_ret
          exact ⟨by rw [unhide HR2]; rfl, (unhide B3).trans ((unhide HB).mono (unhide B3).size)⟩
end Go.Proofs.YtaipnmmlfbfcnaaDoor.Rop
