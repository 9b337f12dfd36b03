/- The law of the normer (written by tools/gennorl.py). -/
import Derived.Test.YtlhoeoeapkjegaaDoorMNm
namespace Go.Proofs.YtlhoeoeapkjegaaDoor
open Go.RowKit
set_option linter.unusedVariables false
set_option maxHeartbeats 4000000 in
set_option maxRecDepth 100000 in
theorem lawNormer (a1 : Option Addr) (len1 cap1 : Nat) (a2 : Option Addr) (len2 cap2 : Nat) (w : World) (hc1 : Dr.CodeIn w a1 len1) (hc2 : Dr.CodeIn w a2 len2) (hl1 : len1 ≤ maxLen) (hl2 : len2 ≤ maxLen) (hT : Lib.Utf8Tabs (Tryd.laysValid_ren.g 3) (Tryd.laysValid_ren.g 4) w) :
    Calls Tryd.prog 3 #[.slice a1 len1 cap1, .slice a2 len2 cap2] w fun e w' => e = .returned (.bool true) ∧ Below w.heap.size w w' := by
  unfold maxLen at hl1 hl2
  by_cases g1 : 1048576 < len1
  · have g1' : (1048576 : Int) < (len1 : Int) := by omega
    go_enter Tryd.func3, Tryd.ntmps3
    go_wp2
    go_ret
    exact ⟨rfl, Below.refl _ _⟩
  have g1' : ¬ (1048576 : Int) < (len1 : Int) := by omega
  by_cases g2 : 1048576 < len2
  · have g2' : (1048576 : Int) < (len2 : Int) := by omega
    go_enter Tryd.func3, Tryd.ntmps3
    go_wp2
    go_ret
    exact ⟨rfl, Below.refl _ _⟩
  have g2' : ¬ (1048576 : Int) < (len2 : Int) := by omega
  have CD := hide (Dr.drawN_any w a1 len1 cap1 (by omega) hc1)
  have HC := hide hc2
  have HT := hide hT
  clear hc1 hc2 hT
  go_enter Tryd.func3, Tryd.ntmps3
  go_wp2_with fail
  refine (unhide CD).mono ?_
  rintro e w1 ⟨f, s, rfl, hs, hb⟩
  have BB := hide hb
  clear CD hb
  have KN := hide (fun W => specNormalize f s W (by omega))
  have KI := hide (fun W => implNormalize f s W (by omega))
  have KP := hide (fun W => specPointsOf s W (by omega))
  have POS := hide (fun h => nml_pos (f := f) (s := s) h)
  have HPP := hide (pts_pt s)
  have hpl := pts_le s
  have KEY := hide (show s.size ≤ 65536 → ptsOut s = pts s from fun h => by unfold ptsOut; rw [if_neg (by omega)])
  have ST := hide (feed_start f (pts s))
  have EN := hide (fun c (iv : NIv f (pts s) c (pts s).length) hf hs => feed_end iv hf (unhide HPP) hs)
  obtain ⟨wt, hwt⟩ : ∃ wt, wt = strOfNums (nmlOut f s) := ⟨_, rfl⟩
  rw [← hwt] at KN KI POS
  have HWT := hide hwt
  clear hwt
  go_wp2_with fail
  refine ((unhide KN) _).mono ?_
  rintro e w2 ⟨rfl, hb⟩
  replace BB := hide ((unhide BB).trans (hb.mono (unhide BB).size))
  clear hb KN
  by_cases t0 : wt = ⟨#[]⟩
  · subst t0
    clear POS KP
    go_wp2_with fail
    refine ((unhide KI) _).mono ?_
    rintro e w3 ⟨rfl, hb⟩
    replace BB := hide ((unhide BB).trans (hb.mono (unhide BB).size))
    clear hb KI
    go_wp2
    go_ret
    exact ⟨rfl, unhide BB⟩
  have x1t := byt_neN t0
  have x2t : (wt.toList == []) = false := by simpa using x1t
  have x3t : wt.toList.isEmpty = false := by simpa using x1t
  have POS2 := hide ((unhide POS) t0)
  clear t0 POS
  by_cases t9 : 900 < s.size
  · have t9' : (900 : Int) < (s.size : Int) := by omega
    clear KP
    go_wp2_with fail
    refine ((unhide KI) _).mono ?_
    rintro e w3 ⟨rfl, hb⟩
    replace BB := hide ((unhide BB).trans (hb.mono (unhide BB).size))
    clear hb KI
    go_wp2
    go_ret
    exact ⟨rfl, unhide BB⟩
  have t9' : ¬ (900 : Int) < (s.size : Int) := by omega
  obtain ⟨hf, hs6, hw6, hnm⟩ := unhide POS2
  have HF := hide hf
  have HW := hide hw6
  have HWE : Hid (wt = strOfNums (textL (nrmL f (pts s)))) := hide (by rw [unhide HWT, hnm])
  rw [(unhide KEY) hs6] at KP
  clear POS2 hf hw6 hnm hs6 KEY HWT KI
  have hLb : (pts s).length ≤ 900 := by omega
  clear hpl
  obtain ⟨L, hLL⟩ : ∃ L, L = pts s := ⟨_, rfl⟩
  rw [← hLL] at KP ST EN HW HWE HPP hLb
  have HP := HPP
  clear hLL HPP
  have hsz2 := (unhide BB).size
  have NB0 : Hid (Nb (w2.alloc (.cells #[.int .i64 f, .string ⟨#[]⟩] 27)) w2.heap.size f ⟨#[]⟩) := hide (heap_alloc_new w2 _)
  have BB0 := hide ((unhide BB).alloc hsz2 (.cells #[.int .i64 f, .string ⟨#[]⟩] 27))
  go_wp2_with fail
  refine ((unhide KP) _).mono ?_
  rintro e w3 ⟨v, rfl, hown, hb⟩
  have NB := hide ((unhide NB0).below hb)
  replace BB := hide ((unhide BB0).trans (hb.mono (unhide BB0).size))
  have hgt : w2.heap.size < (w2.alloc (.cells #[.int .i64 f, .string ⟨#[]⟩] 27)).heap.size := by simp
  obtain ⟨a, cap, hv, LV0⟩ := lv_start hown hgt
  subst hv
  have LV := hide LV0.1
  have LN := hide LV0.2
  clear hown hb LV0 NB0 BB0 KP
  have hgw : w.heap.size ≤ w2.heap.size := hsz2
  obtain ⟨IV0, eH0, eO0⟩ := unhide ST
  rw [← eH0] at NB
  obtain ⟨O0, hO0⟩ : ∃ O0 : ByteArray, O0 = ⟨#[]⟩ := ⟨_, rfl⟩
  clear hsz2 ST
  generalize w2.heap.size = gn at *
  go_wp2
  go_loopw [9, 10, 11] (fun lv ov iv wr => ∃ (c j q n cap : Nat) (a : Option Addr), lv = .slice a n cap ∧ ov = .string (Ot f L c) ∧ iv = .int .i64 (q : Int) ∧ q ≤ j ∧ NIv f L c j ∧ (Hd L c j).size ≤ 1000 ∧ Hid (Nb wr gn f (Hd L c j)) ∧ Hid (Lv wr L j n a cap) ∧ Hid (LvN gn n a) ∧ Hid (Below w.heap.size w wr)) (fun lv _ _ _ => Dr.lenOf lv)
  case atStart => exact ⟨0, 0, 0, _, cap, a, rfl, by rw [eO0], rfl, Nat.le_refl _, IV0, by rw [eH0]; exact Nat.zero_le _, NB, LV, LN, BB⟩
  case round =>
    clear NB LV LN BB IV0 eH0 eO0 hO0 O0
    obtain ⟨c, j, q, n, cap, a, rfl, rfl, rfl, hq, IV, hH, NB, LV, LN, BB⟩ := hrel
    have hjn := (unhide LV).1
    by_cases hn : n = 0
    · subst hn
      have hj : j = L.length := by omega
      subst hj
      obtain ⟨T, eE, eT⟩ := (unhide EN) c IV (unhide HF) hH
      have CE := hide (fun W (h : Below w.heap.size w W) => implEnd f (Hd L c L.length) W (Utf8Tabs_below (unhide HT) h))
      rw [eE] at CE
      rw [← unhide HWE] at eT
      obtain ⟨n0, n1, nf0, nf1⟩ := (unhide NB).cells
      have hwz : wt.size ≤ 65536 := by rw [unhide HWE, strOfNums_size]; exact unhide HW
      have so := two_size eT hwz
      generalize Hd L c L.length = Hh at *
      clear eE EN IV hH LV LN hwz
      go_wp2_with fail
      refine ((unhide CE) _ (unhide BB)).mono ?_
      rintro e w5 ⟨rfl, hb⟩
      replace BB := hide ((unhide BB).trans (hb.mono (unhide BB).size))
      have hs5 := (unhide BB).size
      clear hb CE n0 n1 nf0 nf1
      go_wp2
      go_ret
      exact ⟨rfl, (unhide BB).alloc hs5 _⟩
    · have hn' : (0 : Int) < (n : Int) := by omega
      have HCr := hide (code_onN (unhide HC) (unhide BB))
      have CA := hide (lwAt4 a2 len2 cap2 q wr (unhide HCr) (by omega) (by omega))
      clear HCr
      go_wp2_with fail
      refine (unhide CA).mono ?_
      rintro e w4 ⟨z, rfl, hz, hw4⟩
      have hw5 := hw4.symm
      subst hw5
      clear CA hw4
      by_cases hk : 1 + z ≤ n
      · obtain ⟨m, hm⟩ : ∃ m, m = 1 + z := ⟨_, rfl⟩
        have hm1 : (1 : Int) + (z : Int) = (m : Int) := by omega
        have hmn : m ≤ n := by omega
        have hm4 : m ≤ 4 := by omega
        have hm0 : 1 ≤ m := by omega
        have hkk : ¬ (n : Int) < (m : Int) := by omega
        clear hm hk
        obtain ⟨TX, hTX⟩ : ∃ TX, TX = strOfNums (textL ((L.drop j).take m)) := ⟨_, rfl⟩
        have FS := hide (feed_step IV (unhide HF) (unhide HP) hH (unhide HW) (show j + m ≤ L.length by have := (unhide LV).1; omega) (by omega))
        have CT := hide (fun W (h : IntsAt W (.slice a m cap) ((L.drop j).take m)) => specTextFew _ _ W h (by simp; omega))
        have GO := hide (fun c' => fun (iv : NIv f L c' (j + m)) (hs : (Hd L c' (j + m)).size ≤ 1000) => iv.good (unhide HF) (unhide HP) hs)
        obtain ⟨Hh, hHh⟩ : ∃ Hh, Hh = Hd L c j := ⟨_, rfl⟩
        rw [← hTX, ← hHh] at FS
        rw [← hTX] at CT
        rw [← hHh] at NB hH
        clear hTX hHh
        obtain ⟨c1, f1, H1, T1, hV⟩ := feedV_form f Hh TX
        have CF := hide (fun W (h : Below w.heap.size w W) => implFeed f Hh TX W (Utf8Tabs_below (unhide HT) h))
        have CS := hide (fun W => specFeed f Hh TX W)
        rw [hV] at FS CF CS
        clear hV
        obtain ⟨n0, n1, nf0, nf1⟩ := (unhide NB).cells
        have hgr : gn < wr.heap.size := (Array.getElem?_eq_some_iff.1 (unhide NB)).1
        have hcapn := (unhide LV).2.1
        have hcapM := (unhide LV).2.2.1
        have pm0 : (0 : Int) ≤ (m : Int) := by omega
        have pmc : (m : Int) ≤ (cap : Int) := by omega
        have pmn : (m : Int) ≤ (n : Int) := by omega
        go_upto_region 16 with fail
        go_cut [13] from 52 to 98 (fun v wx => ∃ go, v = .pointer (some ⟨go, 0, none⟩) ∧ Hid (Ob wr wx go c1 f1 H1 T1))
        case first =>
          have KS := (show (fun w' => w'.cell? ⟨gn, 0, none⟩ = some (.int .i64 f) ∧ w'.cell? ⟨gn, 1, none⟩ = some (.string Hh)) wr from ⟨n0, n1⟩)
          have B0 : Hid (Below wr.heap.size wr wr.drew) := hide (drewBN wr)
          replace BB := hide ((unhide BB).trans ((drewBN wr).mono (unhide BB).size))
          replace NB := hide ((unhide NB).below (drewBN wr))
          replace LV := hide ((unhide LV).below (drewBN wr))
          refine wp_region_held_drew (S := fun w' => w'.cell? ⟨gn, 0, none⟩ = some (.int .i64 f) ∧ w'.cell? ⟨gn, 1, none⟩ = some (.string Hh)) (by kernel_rfl) (by first | go_keep | exact KS) (fun hHeld => ?_)
          refine tkN (i := 0) (d := some 62) (v := ?_) rfl rfl (by kernel_rfl) (by kernel_rfl) (by kernel_rfl) (fun _ _ _ h => h) (Or.inl ⟨by rfl, ?_⟩) (by assumption) ?_
          rotate_left
          · intro w hSw; (try dsimp only at hSw); go_simp; try with_reducible rfl
          try simp only [Act.put, List.setIfInBounds_toArray, List.set_cons_zero, List.set_cons_succ]
          refine tkN (i := 1) (d := some 63) (v := ?_) rfl rfl (by kernel_rfl) (by kernel_rfl) (by kernel_rfl) (fun _ _ _ h => h) (Or.inl ⟨by rfl, ?_⟩) (by assumption) ?_
          rotate_left
          · intro w hSw; (try dsimp only at hSw); go_simp; try with_reducible rfl
          try simp only [Act.put, List.setIfInBounds_toArray, List.set_cons_zero, List.set_cons_succ]
          refine tkN (i := 2) (d := some 64) (v := ?_) rfl rfl (by kernel_rfl) (by kernel_rfl) (by kernel_rfl) (fun _ _ _ h => h) (Or.inl ⟨by rfl, ?_⟩) (by assumption) ?_
          rotate_left
          · intro w hSw; (try dsimp only at hSw); go_simp; try with_reducible rfl
          try simp only [Act.put, List.setIfInBounds_toArray, List.set_cons_zero, List.set_cons_succ]
          refine tkN (i := 3) (d := some 65) (v := ?_) rfl rfl (by kernel_rfl) (by kernel_rfl) (by kernel_rfl) (fun _ _ _ h => h) (Or.inl ⟨by rfl, ?_⟩) (by assumption) ?_
          rotate_left
          · intro w hSw; (try dsimp only at hSw); go_simp; try with_reducible rfl
          try simp only [Act.put, List.setIfInBounds_toArray, List.set_cons_zero, List.set_cons_succ]
          refine wpAnyH_ready (rs := [4, 6]) (by kernel_rfl) (by simp) (AllReadyH.cons rfl (fun Kq hK => ?_) (AllReadyH.cons rfl (fun Kq hK => ?_) AllReadyH.nil))
          · go_simp
            go_at_call 10
            refine ((unhide CT) _ ((unhide LV).head hmn cap)).mono ?_
            rintro e wT ⟨rfl, hbT⟩
            replace NB := hide ((unhide NB).below hbT)
            replace LV := hide ((unhide LV).below hbT)
            replace BB := hide ((unhide BB).trans (hbT.mono (unhide BB).size))
            replace B0 := hide ((unhide B0).trans (hbT.mono (unhide B0).size))
            clear hbT
            try go_wp2_with fail
            refine hK.out _ _ ⟨(unhide NB).cells.1, (unhide NB).cells.2.1⟩ (fun hHeldZ => ?_)
            clear hK Kq
            try simp only [Act.put, List.setIfInBounds_toArray, List.set_cons_zero, List.set_cons_succ]
            refine wpAnyH_ready (rs := [5, 6]) (by kernel_rfl) (by simp) (AllReadyH.cons rfl (fun Kq hK => ?_) (AllReadyH.cons rfl (fun Kq hK => ?_) AllReadyH.nil))
            · go_simp
              go_at_call 9
              refine ((unhide CF) _ (unhide BB)).mono ?_
              rintro e wF ⟨rfl, hbF⟩
              replace NB := hide ((unhide NB).below hbF)
              replace LV := hide ((unhide LV).below hbF)
              replace BB := hide ((unhide BB).trans (hbF.mono (unhide BB).size))
              replace B0 := hide ((unhide B0).trans (hbF.mono (unhide B0).size))
              clear hbF
              try go_wp2_with fail
              refine hK.out _ _ ⟨(unhide NB).cells.1, (unhide NB).cells.2.1⟩ (fun hHeldZ => ?_)
              clear hK Kq
              try simp only [Act.put, List.setIfInBounds_toArray, List.set_cons_zero, List.set_cons_succ]
              refine wpAnyH_ready (rs := [6]) (by kernel_rfl) (by simp) (AllReadyH.cons rfl (fun Kq hK => ?_) AllReadyH.nil)
              go_simp
              have OB := hide (Ob.new (w := wF) (unhide B0))
              have hbA : Below (wF).heap.size (wF) ((wF).alloc (.cells #[.int .i64 0, .int .i64 0, .string ⟨#[]⟩, .string ⟨#[]⟩] 32)) := (Below.refl _ _).alloc (Nat.le_refl _) _
              replace NB := hide ((unhide NB).below hbA)
              replace LV := hide ((unhide LV).below hbA)
              replace BB := hide ((unhide BB).trans (hbA.mono (unhide BB).size))
              replace B0 := hide ((unhide B0).trans (hbA.mono (unhide B0).size))
              clear hbA
              generalize hgo : (wF).heap.size = go at *
              generalize hwz : (wF).alloc (.cells #[.int .i64 0, .int .i64 0, .string ⟨#[]⟩, .string ⟨#[]⟩] 32) = wz at *
              clear hgo hwz
              refine hK.out _ _ ⟨(unhide NB).cells.1, (unhide NB).cells.2.1⟩ (fun hHeldZ => ?_)
              clear hK Kq
              try simp only [Act.put, List.setIfInBounds_toArray, List.set_cons_zero, List.set_cons_succ]
              refine wpAnyH_ready (rs := [7]) (by kernel_rfl) (by simp) (AllReadyH.cons rfl (fun Kq hK => ?_) AllReadyH.nil)
              obtain ⟨d0, d1, d2, d3, z0, z1, z2, z3⟩ := four_cells (unhide OB).1
              have OP := hide ((unhide OB).put c1 f1 H1 T1)
              have KP1 := ((unhide OP).2.2.cell (p := ⟨gn, 0, none⟩) hgr).trans n0
              have KP2 := ((unhide OP).2.2.cell (p := ⟨gn, 1, none⟩) hgr).trans n1
              go_simp
              refine hK.out _ _ ⟨KP1, KP2⟩ (fun hHeldZ => ?_)
              clear hK Kq
              try simp only [Act.put, List.setIfInBounds_toArray, List.set_cons_zero, List.set_cons_succ]
              refine wpAnyH_done (by kernel_rfl) ?_ _
              try go_wp2
              go_meet
              case rel => exact ⟨_, rfl, OP⟩
            · go_simp
              have OB := hide (Ob.new (w := wT) (unhide B0))
              have hbA : Below (wT).heap.size (wT) ((wT).alloc (.cells #[.int .i64 0, .int .i64 0, .string ⟨#[]⟩, .string ⟨#[]⟩] 32)) := (Below.refl _ _).alloc (Nat.le_refl _) _
              replace NB := hide ((unhide NB).below hbA)
              replace LV := hide ((unhide LV).below hbA)
              replace BB := hide ((unhide BB).trans (hbA.mono (unhide BB).size))
              replace B0 := hide ((unhide B0).trans (hbA.mono (unhide B0).size))
              clear hbA
              generalize hgo : (wT).heap.size = go at *
              generalize hwz : (wT).alloc (.cells #[.int .i64 0, .int .i64 0, .string ⟨#[]⟩, .string ⟨#[]⟩] 32) = wz at *
              clear hgo hwz
              refine hK.out _ _ ⟨(unhide NB).cells.1, (unhide NB).cells.2.1⟩ (fun hHeldZ => ?_)
              clear hK Kq
              try simp only [Act.put, List.setIfInBounds_toArray, List.set_cons_zero, List.set_cons_succ]
              refine wpAnyH_ready (rs := [5]) (by kernel_rfl) (by simp) (AllReadyH.cons rfl (fun Kq hK => ?_) AllReadyH.nil)
              go_simp
              go_at_call 9
              refine ((unhide CF) _ (unhide BB)).mono ?_
              rintro e wF ⟨rfl, hbF⟩
              replace NB := hide ((unhide NB).below hbF)
              replace LV := hide ((unhide LV).below hbF)
              replace BB := hide ((unhide BB).trans (hbF.mono (unhide BB).size))
              replace B0 := hide ((unhide B0).trans (hbF.mono (unhide B0).size))
              replace OB := hide ((unhide OB).below hbF)
              clear hbF
              try go_wp2_with fail
              refine hK.out _ _ ⟨(unhide NB).cells.1, (unhide NB).cells.2.1⟩ (fun hHeldZ => ?_)
              clear hK Kq
              try simp only [Act.put, List.setIfInBounds_toArray, List.set_cons_zero, List.set_cons_succ]
              refine wpAnyH_ready (rs := [7]) (by kernel_rfl) (by simp) (AllReadyH.cons rfl (fun Kq hK => ?_) AllReadyH.nil)
              obtain ⟨d0, d1, d2, d3, z0, z1, z2, z3⟩ := four_cells (unhide OB).1
              have OP := hide ((unhide OB).put c1 f1 H1 T1)
              have KP1 := ((unhide OP).2.2.cell (p := ⟨gn, 0, none⟩) hgr).trans n0
              have KP2 := ((unhide OP).2.2.cell (p := ⟨gn, 1, none⟩) hgr).trans n1
              go_simp
              refine hK.out _ _ ⟨KP1, KP2⟩ (fun hHeldZ => ?_)
              clear hK Kq
              try simp only [Act.put, List.setIfInBounds_toArray, List.set_cons_zero, List.set_cons_succ]
              refine wpAnyH_done (by kernel_rfl) ?_ _
              try go_wp2
              go_meet
              case rel => exact ⟨_, rfl, OP⟩
          · go_simp
            have OB := hide ((Ob.new (w := wr) (Below.refl _ _)).below (drewBN _))
            have hbA : Below (wr.drew).heap.size (wr.drew) ((wr.alloc (.cells #[.int .i64 0, .int .i64 0, .string ⟨#[]⟩, .string ⟨#[]⟩] 32)).drew) := (Below.refl (wr.drew).heap.size (wr.drew)).alloc (Nat.le_refl _) _
            replace NB := hide ((unhide NB).below hbA)
            replace LV := hide ((unhide LV).below hbA)
            replace BB := hide ((unhide BB).trans (hbA.mono (unhide BB).size))
            replace B0 := hide ((unhide B0).trans (hbA.mono (unhide B0).size))
            clear hbA
            generalize hwz : (wr.alloc (.cells #[.int .i64 0, .int .i64 0, .string ⟨#[]⟩, .string ⟨#[]⟩] 32)).drew = wz at *
            clear hwz
            refine hK.out _ _ ⟨(unhide NB).cells.1, (unhide NB).cells.2.1⟩ (fun hHeldZ => ?_)
            clear hK Kq
            try simp only [Act.put, List.setIfInBounds_toArray, List.set_cons_zero, List.set_cons_succ]
            refine wpAnyH_ready (rs := [4]) (by kernel_rfl) (by simp) (AllReadyH.cons rfl (fun Kq hK => ?_) AllReadyH.nil)
            go_simp
            go_at_call 10
            refine ((unhide CT) _ ((unhide LV).head hmn cap)).mono ?_
            rintro e wT ⟨rfl, hbT⟩
            replace NB := hide ((unhide NB).below hbT)
            replace LV := hide ((unhide LV).below hbT)
            replace BB := hide ((unhide BB).trans (hbT.mono (unhide BB).size))
            replace B0 := hide ((unhide B0).trans (hbT.mono (unhide B0).size))
            replace OB := hide ((unhide OB).below hbT)
            clear hbT
            try go_wp2_with fail
            refine hK.out _ _ ⟨(unhide NB).cells.1, (unhide NB).cells.2.1⟩ (fun hHeldZ => ?_)
            clear hK Kq
            try simp only [Act.put, List.setIfInBounds_toArray, List.set_cons_zero, List.set_cons_succ]
            refine wpAnyH_ready (rs := [5]) (by kernel_rfl) (by simp) (AllReadyH.cons rfl (fun Kq hK => ?_) AllReadyH.nil)
            go_simp
            go_at_call 9
            refine ((unhide CF) _ (unhide BB)).mono ?_
            rintro e wF ⟨rfl, hbF⟩
            replace NB := hide ((unhide NB).below hbF)
            replace LV := hide ((unhide LV).below hbF)
            replace BB := hide ((unhide BB).trans (hbF.mono (unhide BB).size))
            replace B0 := hide ((unhide B0).trans (hbF.mono (unhide B0).size))
            replace OB := hide ((unhide OB).below hbF)
            clear hbF
            try go_wp2_with fail
            refine hK.out _ _ ⟨(unhide NB).cells.1, (unhide NB).cells.2.1⟩ (fun hHeldZ => ?_)
            clear hK Kq
            try simp only [Act.put, List.setIfInBounds_toArray, List.set_cons_zero, List.set_cons_succ]
            refine wpAnyH_ready (rs := [7]) (by kernel_rfl) (by simp) (AllReadyH.cons rfl (fun Kq hK => ?_) AllReadyH.nil)
            obtain ⟨d0, d1, d2, d3, z0, z1, z2, z3⟩ := four_cells (unhide OB).1
            have OP := hide ((unhide OB).put c1 f1 H1 T1)
            have KP1 := ((unhide OP).2.2.cell (p := ⟨gn, 0, none⟩) hgr).trans n0
            have KP2 := ((unhide OP).2.2.cell (p := ⟨gn, 1, none⟩) hgr).trans n1
            go_simp
            refine hK.out _ _ ⟨KP1, KP2⟩ (fun hHeldZ => ?_)
            clear hK Kq
            try simp only [Act.put, List.setIfInBounds_toArray, List.set_cons_zero, List.set_cons_succ]
            refine wpAnyH_done (by kernel_rfl) ?_ _
            try go_wp2
            go_meet
            case rel => exact ⟨_, rfl, OP⟩
        case rest =>
          obtain ⟨go, rfl, OB⟩ := hcut
          replace LV := hide ((unhide LV).below (unhide OB).2.2)
          replace NB := hide ((unhide NB).below (unhide OB).2.2)
          replace BB := hide ((unhide BB).trans ((unhide OB).2.2.mono (unhide BB).size))
          have hgo := (unhide OB).2.1
          clear n0 n1 nf0 nf1 CF
          obtain ⟨n0, n1, nf0, nf1⟩ := (unhide NB).cells
          obtain ⟨d0, d1, d2, d3, z0, z1, z2, z3⟩ := four_cells (unhide OB).1
          rcases unhide FS with e8 | ⟨c', T', iv', hs', e0, eO⟩
          · injection e8 with e8
            injection e8 with e8
            injection e8 with q1 e8
            injection e8 with q2 e8
            injection e8 with q3 e8
            injection e8 with q4 e8
            injection q1 with q0 q1
            injection q2 with q0' q2
            injection q3 with q3
            injection q4 with q4
            subst q1 q2 q3 q4
            clear q0 q0' e8 FS
            go_upto_region 17 with fail
            refine wp_region_held_drew (S := fun w' => (w'.cell? ⟨gn, 0, none⟩ = some (.int .i64 f) ∧ w'.cell? ⟨gn, 1, none⟩ = some (.string Hh)) ∧ w'.cell? ⟨go, 0, none⟩ = some (.int .i64 8)) (by kernel_rfl) (by first | go_keep | exact ⟨⟨n0, n1⟩, d0⟩) (fun hHeld => ?_)
            replace OB := hide ((unhide OB).below (drewBN wc))
            replace LV := hide ((unhide LV).below (drewBN wc))
            replace NB := hide ((unhide NB).below (drewBN wc))
            replace BB := hide ((unhide BB).trans ((drewBN wc).mono (unhide BB).size))
            refine tkN (i := 0) (d := some 68) (v := ?_) rfl rfl (by kernel_rfl) (by kernel_rfl) (by kernel_rfl) (fun _ _ _ h => h) (Or.inl ⟨by rfl, ?_⟩) (by assumption) ?_
            rotate_left
            · intro w hSw; (try dsimp only at hSw); go_simp; try with_reducible rfl
            try simp only [Act.put, List.setIfInBounds_toArray, List.set_cons_zero, List.set_cons_succ]
            refine tkN (i := 1) (d := some 69) (v := ?_) rfl rfl (by kernel_rfl) (by kernel_rfl) (by kernel_rfl) (fun _ _ _ h => h) (Or.inl ⟨by rfl, ?_⟩) (by assumption) ?_
            rotate_left
            · intro w hSw; (try dsimp only at hSw); go_simp; try with_reducible rfl
            try simp only [Act.put, List.setIfInBounds_toArray, List.set_cons_zero, List.set_cons_succ]
            refine tkN (i := 2) (d := some 70) (v := ?_) rfl rfl (by kernel_rfl) (by kernel_rfl) (by kernel_rfl) (fun _ _ _ h => h) (Or.inl ⟨by rfl, ?_⟩) (by assumption) ?_
            rotate_left
            · intro w hSw; (try dsimp only at hSw); go_simp; try with_reducible rfl
            try simp only [Act.put, List.setIfInBounds_toArray, List.set_cons_zero, List.set_cons_succ]
            refine tkN (i := 3) (d := some 71) (v := ?_) rfl rfl (by kernel_rfl) (by kernel_rfl) (by kernel_rfl) (fun _ _ _ h => h) (Or.inl ⟨by rfl, ?_⟩) (by assumption) ?_
            rotate_left
            · intro w hSw; (try dsimp only at hSw); go_simp; try with_reducible rfl
            try simp only [Act.put, List.setIfInBounds_toArray, List.set_cons_zero, List.set_cons_succ]
            refine tkN (i := 4) (d := some 72) (v := ?_) rfl rfl (by kernel_rfl) (by kernel_rfl) (by kernel_rfl) (fun _ _ _ h => h) (Or.inl ⟨by rfl, ?_⟩) (by assumption) ?_
            rotate_left
            · intro w hSw; (try dsimp only at hSw); go_simp; try with_reducible rfl
            try simp only [Act.put, List.setIfInBounds_toArray, List.set_cons_zero, List.set_cons_succ]
            refine tkN (i := 5) (d := some 73) (v := ?_) rfl rfl (by kernel_rfl) (by kernel_rfl) (by kernel_rfl) (fun _ _ _ h => h) (Or.inl ⟨by rfl, ?_⟩) (by assumption) ?_
            rotate_left
            · intro w hSw; (try dsimp only at hSw); go_simp; try with_reducible rfl
            try simp only [Act.put, List.setIfInBounds_toArray, List.set_cons_zero, List.set_cons_succ]
            refine tkN (i := 6) (d := some 74) (v := ?_) rfl rfl (by kernel_rfl) (by kernel_rfl) (by kernel_rfl) (fun _ _ _ h => h) (Or.inl ⟨by rfl, ?_⟩) (by assumption) ?_
            rotate_left
            · intro w hSw; (try dsimp only at hSw); go_simp; try with_reducible rfl
            try simp only [Act.put, List.setIfInBounds_toArray, List.set_cons_zero, List.set_cons_succ]
            refine tkN (i := 7) (d := some 75) (v := ?_) rfl rfl (by kernel_rfl) (by kernel_rfl) (by kernel_rfl) (fun _ _ _ h => h) (Or.inl ⟨by rfl, ?_⟩) (by assumption) ?_
            rotate_left
            · intro w hSw; (try dsimp only at hSw); go_simp; try with_reducible rfl
            try simp only [Act.put, List.setIfInBounds_toArray, List.set_cons_zero, List.set_cons_succ]
            refine wpAnyH_ready (rs := [8]) (by kernel_rfl) (by simp) (AllReadyH.cons rfl (fun Kq hK => ?_) AllReadyH.nil)
            go_simp
            go_at_call 10
            refine ((unhide CT) _ ((unhide LV).head hmn cap)).mono ?_
            rintro e wT ⟨rfl, hbT⟩
            replace NB := hide ((unhide NB).below hbT)
            replace LV := hide ((unhide LV).below hbT)
            replace OB := hide ((unhide OB).below hbT)
            replace BB := hide ((unhide BB).trans (hbT.mono (unhide BB).size))
            clear hbT
            try go_wp2_with fail
            refine hK.out _ _ ⟨⟨(unhide NB).cells.1, (unhide NB).cells.2.1⟩, (four_cells (unhide OB).1).1⟩ (fun hHeldZ => ?_)
            clear hK Kq
            try simp only [Act.put, List.setIfInBounds_toArray, List.set_cons_zero, List.set_cons_succ]
            refine wpAnyH_ready (rs := [9]) (by kernel_rfl) (by simp) (AllReadyH.cons rfl (fun Kq hK => ?_) AllReadyH.nil)
            go_simp
            go_at_call 11
            refine ((unhide CS) _).mono ?_
            rintro e wF ⟨rfl, hbF⟩
            replace NB := hide ((unhide NB).below hbF)
            replace LV := hide ((unhide LV).below hbF)
            replace OB := hide ((unhide OB).below hbF)
            replace BB := hide ((unhide BB).trans (hbF.mono (unhide BB).size))
            clear hbF
            try go_wp2_with fail
            refine hK.out _ _ ⟨⟨(unhide NB).cells.1, (unhide NB).cells.2.1⟩, (four_cells (unhide OB).1).1⟩ (fun hHeldZ => ?_)
            clear hK Kq
            try simp only [Act.put, List.setIfInBounds_toArray, List.set_cons_zero, List.set_cons_succ]
            have FD := fieldN 8 0 ⟨#[]⟩ ⟨#[]⟩
            refine tkN (i := 10) (d := some 78) (v := ?_) rfl rfl (by kernel_rfl) (by kernel_rfl) (by kernel_rfl) (fun _ _ _ h => h) (Or.inl ⟨by rfl, ?_⟩) (by assumption) ?_
            rotate_left
            · intro w hSw; (try dsimp only at hSw); go_simp; try with_reducible rfl
            try simp only [Act.put, List.setIfInBounds_toArray, List.set_cons_zero, List.set_cons_succ]
            refine tkN (i := 11) (d := some 79) (v := ?_) rfl rfl (by kernel_rfl) (by kernel_rfl) (by kernel_rfl) (fun _ _ _ h => h) (Or.inl ⟨by rfl, ?_⟩) (by assumption) ?_
            rotate_left
            · intro w hSw; (try dsimp only at hSw); go_simp; try with_reducible rfl
            try simp only [Act.put, List.setIfInBounds_toArray, List.set_cons_zero, List.set_cons_succ]
            refine tkN (i := 12) (d := some 80) (v := ?_) rfl rfl (by kernel_rfl) (by kernel_rfl) (by kernel_rfl) (fun _ _ _ h => h) (Or.inl ⟨by rfl, ?_⟩) (by assumption) ?_
            rotate_left
            · intro w hSw; (try dsimp only at hSw); go_simp; try with_reducible rfl
            try simp only [Act.put, List.setIfInBounds_toArray, List.set_cons_zero, List.set_cons_succ]
            refine wpAnyH_done (by kernel_rfl) ?_ _
            go_wp2
            go_ret
            exact ⟨rfl, unhide BB⟩
          · injection e0 with e0
            injection e0 with e0
            injection e0 with q1 e0
            injection e0 with q2 e0
            injection e0 with q3 e0
            injection e0 with q4 e0
            injection q1 with q0 q1
            injection q2 with q0' q2
            injection q3 with q3
            injection q4 with q4
            have q5 := q2.symm
            subst q1 q5 q3 q4
            clear q2 q0 q0' e0 FS
            have hgood := (unhide GO) c' iv' hs'
            have hnf : nfOut f (Hd L c' (j + m)) = 0 := by unfold nfOut; rw [if_neg (by rw [hgood]; simp)]
            have CN := hide (fun W (h : Below w.heap.size w W) => implNF f (Hd L c' (j + m)) W (Utf8Tabs_below (unhide HT) h))
            rw [hnf] at CN
            clear hgood hnf GO CT CS
            obtain ⟨Hn, hHn⟩ : ∃ Hn, Hn = Hd L c' (j + m) := ⟨_, rfl⟩
            rw [← hHn] at CN OB d2
            have HHn := hide hHn
            clear hHn
            go_upto_region 17 with fail
            go_quiet (fail)
            generalize hwd : (wc.drewN _ : World) = wd at *
            have hbd : Below wc.heap.size wc wd := by rw [← hwd]; exact bdrew (Below.refl _ _) _
            clear hwd
            replace OB := hide ((unhide OB).below hbd)
            replace LV := hide ((unhide LV).below hbd)
            replace NB := hide ((unhide NB).below hbd)
            replace BB := hide ((unhide BB).trans (hbd.mono (unhide BB).size))
            clear hbd d0 d1 d2 d3 z0 z1 z2 z3
            obtain ⟨d0, d1, d2, d3, z0, z1, z2, z3⟩ := four_cells (unhide OB).1
            go_wp2_with fail
            refine ((unhide CN) _ (unhide BB)).mono ?_
            rintro e wN ⟨rfl, hbN⟩
            replace OB := hide ((unhide OB).below hbN)
            replace LV := hide ((unhide LV).below hbN)
            replace NB := hide ((unhide NB).below hbN)
            replace BB := hide ((unhide BB).trans (hbN.mono (unhide BB).size))
            clear hbN d0 d1 d2 d3 z0 z1 z2 z3 n0 n1 nf0 nf1 CN
            obtain ⟨d0, d1, d2, d3, z0, z1, z2, z3⟩ := four_cells (unhide OB).1
            obtain ⟨n0, n1, nf0, nf1⟩ := (unhide NB).cells
            have hgn2 := (unhide OB).2.2.size
            have NP := hide ((unhide NB).put Hn)
            have hbP : Below w.heap.size wN ((wN.setCell ⟨gn, 0, none⟩ (.int .i64 f)).setCell ⟨gn, 1, none⟩ (.string Hn)) := ((Below.refl _ _).setCell (p := ⟨gn, 0, none⟩) hgw _).setCell (p := ⟨gn, 1, none⟩) hgw _
            have BP := hide ((unhide BB).trans hbP)
            have LP : Hid (Lv ((wN.setCell ⟨gn, 0, none⟩ (.int .i64 f)).setCell ⟨gn, 1, none⟩ (.string Hn)) L j n a cap) := hide (lv_put (unhide LV) (unhide LN) (unhide NB) Hn)
            obtain ⟨n', hn2⟩ : ∃ n' : Nat, m + n' = n := ⟨n - m, by omega⟩
            obtain ⟨c2, hc2⟩ : ∃ c2 : Nat, c2 + m = cap := ⟨cap - m, by omega⟩
            have so1 := two_size eO (ot_size iv' (unhide HW))
            by_cases hmn2 : n' = 0
            · have e9 : m = n := by omega
              subst e9
              clear hn2
              go_wp2
              exact ⟨⟨c', j + m, q + 1, 0, cap - m, _, rfl, rfl, by go_num, by omega, iv', hs', by rw [← unhide HHn]; exact NP, hide ((unhide LP).over _ _ (by omega)), hide (.inl rfl), BP⟩, by simp [Dr.lenOf]; omega⟩
            · have hcm : ¬ cap = m := by omega
              rcases (unhide LV).2.2.2 with hzz | ⟨g9, off9, ha9, _⟩
              · omega
              subst ha9
              have hne9 : g9 ≠ gn := by
                rcases unhide LN with h0 | ⟨g8, o8, e8, h8⟩
                · omega
                · injection e8 with e8
                  injection e8 with e8 _ _
                  rw [e8]
                  exact h8
              go_wp2
              exact ⟨⟨c', j + m, q + 1, n - m, cap - m, some ⟨g9, off9 + m, none⟩, rfl, rfl, by go_num, by omega, iv', hs', by rw [← unhide HHn]; exact NP, hide ((unhide LP).tail (by omega) (by omega)), hide (.inr ⟨g9, off9 + m, rfl, hne9⟩), BP⟩, by simp [Dr.lenOf]; omega⟩
      · have hkk : (n : Int) < (1 : Int) + (z : Int) := by omega
        have hmn : n ≤ n := Nat.le_refl _
        have hm4 : n ≤ 4 := by omega
        have hm0 : 1 ≤ n := by omega
        obtain ⟨TX, hTX⟩ : ∃ TX, TX = strOfNums (textL ((L.drop j).take n)) := ⟨_, rfl⟩
        have FS := hide (feed_step IV (unhide HF) (unhide HP) hH (unhide HW) (show j + n ≤ L.length by have := (unhide LV).1; omega) (by omega))
        have CT := hide (fun W (h : IntsAt W (.slice a n cap) ((L.drop j).take n)) => specTextFew _ _ W h (by simp; omega))
        have GO := hide (fun c' => fun (iv : NIv f L c' (j + n)) (hs : (Hd L c' (j + n)).size ≤ 1000) => iv.good (unhide HF) (unhide HP) hs)
        obtain ⟨Hh, hHh⟩ : ∃ Hh, Hh = Hd L c j := ⟨_, rfl⟩
        rw [← hTX, ← hHh] at FS
        rw [← hTX] at CT
        rw [← hHh] at NB hH
        clear hTX hHh
        obtain ⟨c1, f1, H1, T1, hV⟩ := feedV_form f Hh TX
        have CF := hide (fun W (h : Below w.heap.size w W) => implFeed f Hh TX W (Utf8Tabs_below (unhide HT) h))
        have CS := hide (fun W => specFeed f Hh TX W)
        rw [hV] at FS CF CS
        clear hV
        obtain ⟨n0, n1, nf0, nf1⟩ := (unhide NB).cells
        have hgr : gn < wr.heap.size := (Array.getElem?_eq_some_iff.1 (unhide NB)).1
        have hcapn := (unhide LV).2.1
        have hcapM := (unhide LV).2.2.1
        have pm0 : (0 : Int) ≤ (n : Int) := by omega
        have pmc : (n : Int) ≤ (cap : Int) := by omega
        skip
        go_upto_region 16 with fail
        go_cut [13] from 52 to 98 (fun v wx => ∃ go, v = .pointer (some ⟨go, 0, none⟩) ∧ Hid (Ob wr wx go c1 f1 H1 T1))
        case first =>
          have KS := (show (fun w' => w'.cell? ⟨gn, 0, none⟩ = some (.int .i64 f) ∧ w'.cell? ⟨gn, 1, none⟩ = some (.string Hh)) wr from ⟨n0, n1⟩)
          have B0 : Hid (Below wr.heap.size wr wr.drew) := hide (drewBN wr)
          replace BB := hide ((unhide BB).trans ((drewBN wr).mono (unhide BB).size))
          replace NB := hide ((unhide NB).below (drewBN wr))
          replace LV := hide ((unhide LV).below (drewBN wr))
          refine wp_region_held_drew (S := fun w' => w'.cell? ⟨gn, 0, none⟩ = some (.int .i64 f) ∧ w'.cell? ⟨gn, 1, none⟩ = some (.string Hh)) (by kernel_rfl) (by first | go_keep | exact KS) (fun hHeld => ?_)
          refine tkN (i := 0) (d := some 62) (v := ?_) rfl rfl (by kernel_rfl) (by kernel_rfl) (by kernel_rfl) (fun _ _ _ h => h) (Or.inl ⟨by rfl, ?_⟩) (by assumption) ?_
          rotate_left
          · intro w hSw; (try dsimp only at hSw); go_simp; try with_reducible rfl
          try simp only [Act.put, List.setIfInBounds_toArray, List.set_cons_zero, List.set_cons_succ]
          refine tkN (i := 1) (d := some 63) (v := ?_) rfl rfl (by kernel_rfl) (by kernel_rfl) (by kernel_rfl) (fun _ _ _ h => h) (Or.inl ⟨by rfl, ?_⟩) (by assumption) ?_
          rotate_left
          · intro w hSw; (try dsimp only at hSw); go_simp; try with_reducible rfl
          try simp only [Act.put, List.setIfInBounds_toArray, List.set_cons_zero, List.set_cons_succ]
          refine tkN (i := 2) (d := some 64) (v := ?_) rfl rfl (by kernel_rfl) (by kernel_rfl) (by kernel_rfl) (fun _ _ _ h => h) (Or.inl ⟨by rfl, ?_⟩) (by assumption) ?_
          rotate_left
          · intro w hSw; (try dsimp only at hSw); go_simp; try with_reducible rfl
          try simp only [Act.put, List.setIfInBounds_toArray, List.set_cons_zero, List.set_cons_succ]
          refine tkN (i := 3) (d := some 65) (v := ?_) rfl rfl (by kernel_rfl) (by kernel_rfl) (by kernel_rfl) (fun _ _ _ h => h) (Or.inl ⟨by rfl, ?_⟩) (by assumption) ?_
          rotate_left
          · intro w hSw; (try dsimp only at hSw); go_simp; try with_reducible rfl
          try simp only [Act.put, List.setIfInBounds_toArray, List.set_cons_zero, List.set_cons_succ]
          refine wpAnyH_ready (rs := [4, 6]) (by kernel_rfl) (by simp) (AllReadyH.cons rfl (fun Kq hK => ?_) (AllReadyH.cons rfl (fun Kq hK => ?_) AllReadyH.nil))
          · go_simp
            go_at_call 10
            refine ((unhide CT) _ ((unhide LV).head hmn cap)).mono ?_
            rintro e wT ⟨rfl, hbT⟩
            replace NB := hide ((unhide NB).below hbT)
            replace LV := hide ((unhide LV).below hbT)
            replace BB := hide ((unhide BB).trans (hbT.mono (unhide BB).size))
            replace B0 := hide ((unhide B0).trans (hbT.mono (unhide B0).size))
            clear hbT
            try go_wp2_with fail
            refine hK.out _ _ ⟨(unhide NB).cells.1, (unhide NB).cells.2.1⟩ (fun hHeldZ => ?_)
            clear hK Kq
            try simp only [Act.put, List.setIfInBounds_toArray, List.set_cons_zero, List.set_cons_succ]
            refine wpAnyH_ready (rs := [5, 6]) (by kernel_rfl) (by simp) (AllReadyH.cons rfl (fun Kq hK => ?_) (AllReadyH.cons rfl (fun Kq hK => ?_) AllReadyH.nil))
            · go_simp
              go_at_call 9
              refine ((unhide CF) _ (unhide BB)).mono ?_
              rintro e wF ⟨rfl, hbF⟩
              replace NB := hide ((unhide NB).below hbF)
              replace LV := hide ((unhide LV).below hbF)
              replace BB := hide ((unhide BB).trans (hbF.mono (unhide BB).size))
              replace B0 := hide ((unhide B0).trans (hbF.mono (unhide B0).size))
              clear hbF
              try go_wp2_with fail
              refine hK.out _ _ ⟨(unhide NB).cells.1, (unhide NB).cells.2.1⟩ (fun hHeldZ => ?_)
              clear hK Kq
              try simp only [Act.put, List.setIfInBounds_toArray, List.set_cons_zero, List.set_cons_succ]
              refine wpAnyH_ready (rs := [6]) (by kernel_rfl) (by simp) (AllReadyH.cons rfl (fun Kq hK => ?_) AllReadyH.nil)
              go_simp
              have OB := hide (Ob.new (w := wF) (unhide B0))
              have hbA : Below (wF).heap.size (wF) ((wF).alloc (.cells #[.int .i64 0, .int .i64 0, .string ⟨#[]⟩, .string ⟨#[]⟩] 32)) := (Below.refl _ _).alloc (Nat.le_refl _) _
              replace NB := hide ((unhide NB).below hbA)
              replace LV := hide ((unhide LV).below hbA)
              replace BB := hide ((unhide BB).trans (hbA.mono (unhide BB).size))
              replace B0 := hide ((unhide B0).trans (hbA.mono (unhide B0).size))
              clear hbA
              generalize hgo : (wF).heap.size = go at *
              generalize hwz : (wF).alloc (.cells #[.int .i64 0, .int .i64 0, .string ⟨#[]⟩, .string ⟨#[]⟩] 32) = wz at *
              clear hgo hwz
              refine hK.out _ _ ⟨(unhide NB).cells.1, (unhide NB).cells.2.1⟩ (fun hHeldZ => ?_)
              clear hK Kq
              try simp only [Act.put, List.setIfInBounds_toArray, List.set_cons_zero, List.set_cons_succ]
              refine wpAnyH_ready (rs := [7]) (by kernel_rfl) (by simp) (AllReadyH.cons rfl (fun Kq hK => ?_) AllReadyH.nil)
              obtain ⟨d0, d1, d2, d3, z0, z1, z2, z3⟩ := four_cells (unhide OB).1
              have OP := hide ((unhide OB).put c1 f1 H1 T1)
              have KP1 := ((unhide OP).2.2.cell (p := ⟨gn, 0, none⟩) hgr).trans n0
              have KP2 := ((unhide OP).2.2.cell (p := ⟨gn, 1, none⟩) hgr).trans n1
              go_simp
              refine hK.out _ _ ⟨KP1, KP2⟩ (fun hHeldZ => ?_)
              clear hK Kq
              try simp only [Act.put, List.setIfInBounds_toArray, List.set_cons_zero, List.set_cons_succ]
              refine wpAnyH_done (by kernel_rfl) ?_ _
              try go_wp2
              go_meet
              case rel => exact ⟨_, rfl, OP⟩
            · go_simp
              have OB := hide (Ob.new (w := wT) (unhide B0))
              have hbA : Below (wT).heap.size (wT) ((wT).alloc (.cells #[.int .i64 0, .int .i64 0, .string ⟨#[]⟩, .string ⟨#[]⟩] 32)) := (Below.refl _ _).alloc (Nat.le_refl _) _
              replace NB := hide ((unhide NB).below hbA)
              replace LV := hide ((unhide LV).below hbA)
              replace BB := hide ((unhide BB).trans (hbA.mono (unhide BB).size))
              replace B0 := hide ((unhide B0).trans (hbA.mono (unhide B0).size))
              clear hbA
              generalize hgo : (wT).heap.size = go at *
              generalize hwz : (wT).alloc (.cells #[.int .i64 0, .int .i64 0, .string ⟨#[]⟩, .string ⟨#[]⟩] 32) = wz at *
              clear hgo hwz
              refine hK.out _ _ ⟨(unhide NB).cells.1, (unhide NB).cells.2.1⟩ (fun hHeldZ => ?_)
              clear hK Kq
              try simp only [Act.put, List.setIfInBounds_toArray, List.set_cons_zero, List.set_cons_succ]
              refine wpAnyH_ready (rs := [5]) (by kernel_rfl) (by simp) (AllReadyH.cons rfl (fun Kq hK => ?_) AllReadyH.nil)
              go_simp
              go_at_call 9
              refine ((unhide CF) _ (unhide BB)).mono ?_
              rintro e wF ⟨rfl, hbF⟩
              replace NB := hide ((unhide NB).below hbF)
              replace LV := hide ((unhide LV).below hbF)
              replace BB := hide ((unhide BB).trans (hbF.mono (unhide BB).size))
              replace B0 := hide ((unhide B0).trans (hbF.mono (unhide B0).size))
              replace OB := hide ((unhide OB).below hbF)
              clear hbF
              try go_wp2_with fail
              refine hK.out _ _ ⟨(unhide NB).cells.1, (unhide NB).cells.2.1⟩ (fun hHeldZ => ?_)
              clear hK Kq
              try simp only [Act.put, List.setIfInBounds_toArray, List.set_cons_zero, List.set_cons_succ]
              refine wpAnyH_ready (rs := [7]) (by kernel_rfl) (by simp) (AllReadyH.cons rfl (fun Kq hK => ?_) AllReadyH.nil)
              obtain ⟨d0, d1, d2, d3, z0, z1, z2, z3⟩ := four_cells (unhide OB).1
              have OP := hide ((unhide OB).put c1 f1 H1 T1)
              have KP1 := ((unhide OP).2.2.cell (p := ⟨gn, 0, none⟩) hgr).trans n0
              have KP2 := ((unhide OP).2.2.cell (p := ⟨gn, 1, none⟩) hgr).trans n1
              go_simp
              refine hK.out _ _ ⟨KP1, KP2⟩ (fun hHeldZ => ?_)
              clear hK Kq
              try simp only [Act.put, List.setIfInBounds_toArray, List.set_cons_zero, List.set_cons_succ]
              refine wpAnyH_done (by kernel_rfl) ?_ _
              try go_wp2
              go_meet
              case rel => exact ⟨_, rfl, OP⟩
          · go_simp
            have OB := hide ((Ob.new (w := wr) (Below.refl _ _)).below (drewBN _))
            have hbA : Below (wr.drew).heap.size (wr.drew) ((wr.alloc (.cells #[.int .i64 0, .int .i64 0, .string ⟨#[]⟩, .string ⟨#[]⟩] 32)).drew) := (Below.refl (wr.drew).heap.size (wr.drew)).alloc (Nat.le_refl _) _
            replace NB := hide ((unhide NB).below hbA)
            replace LV := hide ((unhide LV).below hbA)
            replace BB := hide ((unhide BB).trans (hbA.mono (unhide BB).size))
            replace B0 := hide ((unhide B0).trans (hbA.mono (unhide B0).size))
            clear hbA
            generalize hwz : (wr.alloc (.cells #[.int .i64 0, .int .i64 0, .string ⟨#[]⟩, .string ⟨#[]⟩] 32)).drew = wz at *
            clear hwz
            refine hK.out _ _ ⟨(unhide NB).cells.1, (unhide NB).cells.2.1⟩ (fun hHeldZ => ?_)
            clear hK Kq
            try simp only [Act.put, List.setIfInBounds_toArray, List.set_cons_zero, List.set_cons_succ]
            refine wpAnyH_ready (rs := [4]) (by kernel_rfl) (by simp) (AllReadyH.cons rfl (fun Kq hK => ?_) AllReadyH.nil)
            go_simp
            go_at_call 10
            refine ((unhide CT) _ ((unhide LV).head hmn cap)).mono ?_
            rintro e wT ⟨rfl, hbT⟩
            replace NB := hide ((unhide NB).below hbT)
            replace LV := hide ((unhide LV).below hbT)
            replace BB := hide ((unhide BB).trans (hbT.mono (unhide BB).size))
            replace B0 := hide ((unhide B0).trans (hbT.mono (unhide B0).size))
            replace OB := hide ((unhide OB).below hbT)
            clear hbT
            try go_wp2_with fail
            refine hK.out _ _ ⟨(unhide NB).cells.1, (unhide NB).cells.2.1⟩ (fun hHeldZ => ?_)
            clear hK Kq
            try simp only [Act.put, List.setIfInBounds_toArray, List.set_cons_zero, List.set_cons_succ]
            refine wpAnyH_ready (rs := [5]) (by kernel_rfl) (by simp) (AllReadyH.cons rfl (fun Kq hK => ?_) AllReadyH.nil)
            go_simp
            go_at_call 9
            refine ((unhide CF) _ (unhide BB)).mono ?_
            rintro e wF ⟨rfl, hbF⟩
            replace NB := hide ((unhide NB).below hbF)
            replace LV := hide ((unhide LV).below hbF)
            replace BB := hide ((unhide BB).trans (hbF.mono (unhide BB).size))
            replace B0 := hide ((unhide B0).trans (hbF.mono (unhide B0).size))
            replace OB := hide ((unhide OB).below hbF)
            clear hbF
            try go_wp2_with fail
            refine hK.out _ _ ⟨(unhide NB).cells.1, (unhide NB).cells.2.1⟩ (fun hHeldZ => ?_)
            clear hK Kq
            try simp only [Act.put, List.setIfInBounds_toArray, List.set_cons_zero, List.set_cons_succ]
            refine wpAnyH_ready (rs := [7]) (by kernel_rfl) (by simp) (AllReadyH.cons rfl (fun Kq hK => ?_) AllReadyH.nil)
            obtain ⟨d0, d1, d2, d3, z0, z1, z2, z3⟩ := four_cells (unhide OB).1
            have OP := hide ((unhide OB).put c1 f1 H1 T1)
            have KP1 := ((unhide OP).2.2.cell (p := ⟨gn, 0, none⟩) hgr).trans n0
            have KP2 := ((unhide OP).2.2.cell (p := ⟨gn, 1, none⟩) hgr).trans n1
            go_simp
            refine hK.out _ _ ⟨KP1, KP2⟩ (fun hHeldZ => ?_)
            clear hK Kq
            try simp only [Act.put, List.setIfInBounds_toArray, List.set_cons_zero, List.set_cons_succ]
            refine wpAnyH_done (by kernel_rfl) ?_ _
            try go_wp2
            go_meet
            case rel => exact ⟨_, rfl, OP⟩
        case rest =>
          obtain ⟨go, rfl, OB⟩ := hcut
          replace LV := hide ((unhide LV).below (unhide OB).2.2)
          replace NB := hide ((unhide NB).below (unhide OB).2.2)
          replace BB := hide ((unhide BB).trans ((unhide OB).2.2.mono (unhide BB).size))
          have hgo := (unhide OB).2.1
          clear n0 n1 nf0 nf1 CF
          obtain ⟨n0, n1, nf0, nf1⟩ := (unhide NB).cells
          obtain ⟨d0, d1, d2, d3, z0, z1, z2, z3⟩ := four_cells (unhide OB).1
          rcases unhide FS with e8 | ⟨c', T', iv', hs', e0, eO⟩
          · injection e8 with e8
            injection e8 with e8
            injection e8 with q1 e8
            injection e8 with q2 e8
            injection e8 with q3 e8
            injection e8 with q4 e8
            injection q1 with q0 q1
            injection q2 with q0' q2
            injection q3 with q3
            injection q4 with q4
            subst q1 q2 q3 q4
            clear q0 q0' e8 FS
            go_upto_region 17 with fail
            refine wp_region_held_drew (S := fun w' => (w'.cell? ⟨gn, 0, none⟩ = some (.int .i64 f) ∧ w'.cell? ⟨gn, 1, none⟩ = some (.string Hh)) ∧ w'.cell? ⟨go, 0, none⟩ = some (.int .i64 8)) (by kernel_rfl) (by first | go_keep | exact ⟨⟨n0, n1⟩, d0⟩) (fun hHeld => ?_)
            replace OB := hide ((unhide OB).below (drewBN wc))
            replace LV := hide ((unhide LV).below (drewBN wc))
            replace NB := hide ((unhide NB).below (drewBN wc))
            replace BB := hide ((unhide BB).trans ((drewBN wc).mono (unhide BB).size))
            refine tkN (i := 0) (d := some 68) (v := ?_) rfl rfl (by kernel_rfl) (by kernel_rfl) (by kernel_rfl) (fun _ _ _ h => h) (Or.inl ⟨by rfl, ?_⟩) (by assumption) ?_
            rotate_left
            · intro w hSw; (try dsimp only at hSw); go_simp; try with_reducible rfl
            try simp only [Act.put, List.setIfInBounds_toArray, List.set_cons_zero, List.set_cons_succ]
            refine tkN (i := 1) (d := some 69) (v := ?_) rfl rfl (by kernel_rfl) (by kernel_rfl) (by kernel_rfl) (fun _ _ _ h => h) (Or.inl ⟨by rfl, ?_⟩) (by assumption) ?_
            rotate_left
            · intro w hSw; (try dsimp only at hSw); go_simp; try with_reducible rfl
            try simp only [Act.put, List.setIfInBounds_toArray, List.set_cons_zero, List.set_cons_succ]
            refine tkN (i := 2) (d := some 70) (v := ?_) rfl rfl (by kernel_rfl) (by kernel_rfl) (by kernel_rfl) (fun _ _ _ h => h) (Or.inl ⟨by rfl, ?_⟩) (by assumption) ?_
            rotate_left
            · intro w hSw; (try dsimp only at hSw); go_simp; try with_reducible rfl
            try simp only [Act.put, List.setIfInBounds_toArray, List.set_cons_zero, List.set_cons_succ]
            refine tkN (i := 3) (d := some 71) (v := ?_) rfl rfl (by kernel_rfl) (by kernel_rfl) (by kernel_rfl) (fun _ _ _ h => h) (Or.inl ⟨by rfl, ?_⟩) (by assumption) ?_
            rotate_left
            · intro w hSw; (try dsimp only at hSw); go_simp; try with_reducible rfl
            try simp only [Act.put, List.setIfInBounds_toArray, List.set_cons_zero, List.set_cons_succ]
            refine tkN (i := 4) (d := some 72) (v := ?_) rfl rfl (by kernel_rfl) (by kernel_rfl) (by kernel_rfl) (fun _ _ _ h => h) (Or.inl ⟨by rfl, ?_⟩) (by assumption) ?_
            rotate_left
            · intro w hSw; (try dsimp only at hSw); go_simp; try with_reducible rfl
            try simp only [Act.put, List.setIfInBounds_toArray, List.set_cons_zero, List.set_cons_succ]
            refine tkN (i := 5) (d := some 73) (v := ?_) rfl rfl (by kernel_rfl) (by kernel_rfl) (by kernel_rfl) (fun _ _ _ h => h) (Or.inl ⟨by rfl, ?_⟩) (by assumption) ?_
            rotate_left
            · intro w hSw; (try dsimp only at hSw); go_simp; try with_reducible rfl
            try simp only [Act.put, List.setIfInBounds_toArray, List.set_cons_zero, List.set_cons_succ]
            refine tkN (i := 6) (d := some 74) (v := ?_) rfl rfl (by kernel_rfl) (by kernel_rfl) (by kernel_rfl) (fun _ _ _ h => h) (Or.inl ⟨by rfl, ?_⟩) (by assumption) ?_
            rotate_left
            · intro w hSw; (try dsimp only at hSw); go_simp; try with_reducible rfl
            try simp only [Act.put, List.setIfInBounds_toArray, List.set_cons_zero, List.set_cons_succ]
            refine tkN (i := 7) (d := some 75) (v := ?_) rfl rfl (by kernel_rfl) (by kernel_rfl) (by kernel_rfl) (fun _ _ _ h => h) (Or.inl ⟨by rfl, ?_⟩) (by assumption) ?_
            rotate_left
            · intro w hSw; (try dsimp only at hSw); go_simp; try with_reducible rfl
            try simp only [Act.put, List.setIfInBounds_toArray, List.set_cons_zero, List.set_cons_succ]
            refine wpAnyH_ready (rs := [8]) (by kernel_rfl) (by simp) (AllReadyH.cons rfl (fun Kq hK => ?_) AllReadyH.nil)
            go_simp
            go_at_call 10
            refine ((unhide CT) _ ((unhide LV).head hmn cap)).mono ?_
            rintro e wT ⟨rfl, hbT⟩
            replace NB := hide ((unhide NB).below hbT)
            replace LV := hide ((unhide LV).below hbT)
            replace OB := hide ((unhide OB).below hbT)
            replace BB := hide ((unhide BB).trans (hbT.mono (unhide BB).size))
            clear hbT
            try go_wp2_with fail
            refine hK.out _ _ ⟨⟨(unhide NB).cells.1, (unhide NB).cells.2.1⟩, (four_cells (unhide OB).1).1⟩ (fun hHeldZ => ?_)
            clear hK Kq
            try simp only [Act.put, List.setIfInBounds_toArray, List.set_cons_zero, List.set_cons_succ]
            refine wpAnyH_ready (rs := [9]) (by kernel_rfl) (by simp) (AllReadyH.cons rfl (fun Kq hK => ?_) AllReadyH.nil)
            go_simp
            go_at_call 11
            refine ((unhide CS) _).mono ?_
            rintro e wF ⟨rfl, hbF⟩
            replace NB := hide ((unhide NB).below hbF)
            replace LV := hide ((unhide LV).below hbF)
            replace OB := hide ((unhide OB).below hbF)
            replace BB := hide ((unhide BB).trans (hbF.mono (unhide BB).size))
            clear hbF
            try go_wp2_with fail
            refine hK.out _ _ ⟨⟨(unhide NB).cells.1, (unhide NB).cells.2.1⟩, (four_cells (unhide OB).1).1⟩ (fun hHeldZ => ?_)
            clear hK Kq
            try simp only [Act.put, List.setIfInBounds_toArray, List.set_cons_zero, List.set_cons_succ]
            have FD := fieldN 8 0 ⟨#[]⟩ ⟨#[]⟩
            refine tkN (i := 10) (d := some 78) (v := ?_) rfl rfl (by kernel_rfl) (by kernel_rfl) (by kernel_rfl) (fun _ _ _ h => h) (Or.inl ⟨by rfl, ?_⟩) (by assumption) ?_
            rotate_left
            · intro w hSw; (try dsimp only at hSw); go_simp; try with_reducible rfl
            try simp only [Act.put, List.setIfInBounds_toArray, List.set_cons_zero, List.set_cons_succ]
            refine tkN (i := 11) (d := some 79) (v := ?_) rfl rfl (by kernel_rfl) (by kernel_rfl) (by kernel_rfl) (fun _ _ _ h => h) (Or.inl ⟨by rfl, ?_⟩) (by assumption) ?_
            rotate_left
            · intro w hSw; (try dsimp only at hSw); go_simp; try with_reducible rfl
            try simp only [Act.put, List.setIfInBounds_toArray, List.set_cons_zero, List.set_cons_succ]
            refine tkN (i := 12) (d := some 80) (v := ?_) rfl rfl (by kernel_rfl) (by kernel_rfl) (by kernel_rfl) (fun _ _ _ h => h) (Or.inl ⟨by rfl, ?_⟩) (by assumption) ?_
            rotate_left
            · intro w hSw; (try dsimp only at hSw); go_simp; try with_reducible rfl
            try simp only [Act.put, List.setIfInBounds_toArray, List.set_cons_zero, List.set_cons_succ]
            refine wpAnyH_done (by kernel_rfl) ?_ _
            go_wp2
            go_ret
            exact ⟨rfl, unhide BB⟩
          · injection e0 with e0
            injection e0 with e0
            injection e0 with q1 e0
            injection e0 with q2 e0
            injection e0 with q3 e0
            injection e0 with q4 e0
            injection q1 with q0 q1
            injection q2 with q0' q2
            injection q3 with q3
            injection q4 with q4
            have q5 := q2.symm
            subst q1 q5 q3 q4
            clear q2 q0 q0' e0 FS
            have hgood := (unhide GO) c' iv' hs'
            have hnf : nfOut f (Hd L c' (j + n)) = 0 := by unfold nfOut; rw [if_neg (by rw [hgood]; simp)]
            have CN := hide (fun W (h : Below w.heap.size w W) => implNF f (Hd L c' (j + n)) W (Utf8Tabs_below (unhide HT) h))
            rw [hnf] at CN
            clear hgood hnf GO CT CS
            obtain ⟨Hn, hHn⟩ : ∃ Hn, Hn = Hd L c' (j + n) := ⟨_, rfl⟩
            rw [← hHn] at CN OB d2
            have HHn := hide hHn
            clear hHn
            go_upto_region 17 with fail
            go_quiet (fail)
            generalize hwd : (wc.drewN _ : World) = wd at *
            have hbd : Below wc.heap.size wc wd := by rw [← hwd]; exact bdrew (Below.refl _ _) _
            clear hwd
            replace OB := hide ((unhide OB).below hbd)
            replace LV := hide ((unhide LV).below hbd)
            replace NB := hide ((unhide NB).below hbd)
            replace BB := hide ((unhide BB).trans (hbd.mono (unhide BB).size))
            clear hbd d0 d1 d2 d3 z0 z1 z2 z3
            obtain ⟨d0, d1, d2, d3, z0, z1, z2, z3⟩ := four_cells (unhide OB).1
            go_wp2_with fail
            refine ((unhide CN) _ (unhide BB)).mono ?_
            rintro e wN ⟨rfl, hbN⟩
            replace OB := hide ((unhide OB).below hbN)
            replace LV := hide ((unhide LV).below hbN)
            replace NB := hide ((unhide NB).below hbN)
            replace BB := hide ((unhide BB).trans (hbN.mono (unhide BB).size))
            clear hbN d0 d1 d2 d3 z0 z1 z2 z3 n0 n1 nf0 nf1 CN
            obtain ⟨d0, d1, d2, d3, z0, z1, z2, z3⟩ := four_cells (unhide OB).1
            obtain ⟨n0, n1, nf0, nf1⟩ := (unhide NB).cells
            have hgn2 := (unhide OB).2.2.size
            have NP := hide ((unhide NB).put Hn)
            have hbP : Below w.heap.size wN ((wN.setCell ⟨gn, 0, none⟩ (.int .i64 f)).setCell ⟨gn, 1, none⟩ (.string Hn)) := ((Below.refl _ _).setCell (p := ⟨gn, 0, none⟩) hgw _).setCell (p := ⟨gn, 1, none⟩) hgw _
            have BP := hide ((unhide BB).trans hbP)
            have LP : Hid (Lv ((wN.setCell ⟨gn, 0, none⟩ (.int .i64 f)).setCell ⟨gn, 1, none⟩ (.string Hn)) L j n a cap) := hide (lv_put (unhide LV) (unhide LN) (unhide NB) Hn)
            have so1 := two_size eO (ot_size iv' (unhide HW))
            go_wp2
            exact ⟨⟨c', j + n, q + 1, 0, cap - n, _, rfl, rfl, by go_num, by omega, iv', hs', by rw [← unhide HHn]; exact NP, hide ((unhide LP).over _ _ (by omega)), hide (.inl rfl), BP⟩, by simp [Dr.lenOf]; omega⟩
end Go.Proofs.YtlhoeoeapkjegaaDoor
