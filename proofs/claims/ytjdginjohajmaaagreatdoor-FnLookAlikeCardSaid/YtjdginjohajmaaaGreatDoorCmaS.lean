/- The specification's row of points composed. -/
import Derived.Test.YtjdginjohajmaaaGreatDoorCmaP
import Derived.Test.YtjdginjohajmaaaGreatDoorCmpL
namespace Go.Proofs.YtjdginjohajmaaaGreatDoor
open Go.RowKit
/-- The first i points are composed. -/
def CSt (w wr : World) (L : List Int) (i d : Nat) (st : Int) (g cap : Nat) : Prop := ∃ D, cmpQ (L.take i) = (D, st) ∧ d = D.length ∧ wr.ownsRow w.heap.size 2 1 (.slice (some ⟨g, 0, none⟩) d cap) d (D.map (Value.int .i64)) ∧ Below w.heap.size w wr
theorem own_drewN {w : World} {B n : Nat} {v : Value} {xs : List Value} (h : w.ownsRow B 2 1 v n xs) (m : Nat) : (w.drewN m).ownsRow B 2 1 v n xs := h
theorem cell_at {w : World} {B n g cap : Nat} {D : List Int} (h : w.ownsRow B 2 1 (.slice (some ⟨g, 0, none⟩) n cap) n (D.map (Value.int .i64))) (k : Nat) (hk : k < n) : w.cell? ⟨g, k, none⟩ = some (.int .i64 (nth D k)) := by
  obtain ⟨Bq, s, _, _, _, hn, _⟩ := own_seg h
  exact s.cell0 k (by omega)
theorem set_at {w : World} {B n g cap : Nat} {D : List Int} (h : w.ownsRow B 2 1 (.slice (some ⟨g, 0, none⟩) n cap) n (D.map (Value.int .i64))) (k : Nat) (hk : k < n) (x : Int) : w.frozen? ⟨g, k, none⟩ = false ∧ (w.setCell ⟨g, k, none⟩ (.int .i64 x)).ownsRow B 2 1 (.slice (some ⟨g, 0, none⟩) n cap) n ((D.set k x).map (Value.int .i64)) ∧ ∀ w0, B ≤ w.heap.size → Below B w0 w → Below B w0 (w.setCell ⟨g, k, none⟩ (.int .i64 x)) := by
  obtain ⟨Bq, s, h1, h2, h3, hn, h4⟩ := own_seg h
  have s2 := s.set0 k (by omega) x
  exact ⟨s.frozen0 k, seg_own s2 h1 (by simpa using hn) h4 h3, fun w0 h0 hb => hb.trans (s2.below h0 h1)⟩
theorem all_take {D : List Int} {s k : Nat} {c : Int} (hs : s + 1 ≤ k) (hk : k < D.length) : ((D.take (k + 1)).drop (s + 1)).all (okM c) = (((D.take k).drop (s + 1)).all (okM c) && okM c (nth D k)) := by
  have e : nth D k = D[k] := by simp [nth, List.getD, hk]
  rw [List.take_succ_eq_append_getElem hk, List.drop_append_of_le_length (by rw [List.length_take]; omega), List.all_append, e]
  simp
theorem all_false {D : List Int} {s k : Nat} {c : Int} (h : ((D.take k).drop (s + 1)).all (okM c) = false) : (D.drop (s + 1)).all (okM c) = false := by
  cases e : (D.drop (s + 1)).all (okM c) with
  | false => rfl
  | true =>
    rw [List.drop_take] at h
    have : ((D.drop (s + 1)).take (k - (s + 1))).all (okM c) = true := List.all_eq_true.2 (fun x hx => List.all_eq_true.1 e x (List.mem_of_mem_take hx))
    rw [this] at h
    cases h
set_option maxHeartbeats 8000000 in
set_option maxRecDepth 100000 in
theorem composedS (B0 n g cap : Nat) (L : List Int) (w : World) (ho : w.ownsRow B0 2 1 (.slice (some ⟨g, 0, none⟩) n cap) n (L.map (Value.int .i64))) (hbd : n ≤ 1000000000) :
    Calls Tryz.prog 68 #[.slice (some ⟨g, 0, none⟩) n cap] w fun e w' => NewRow w w' e (cmpQ L).1 := by
  have mixed := mixedO
  obtain ⟨i0, hi, hz0, hz1, hz2⟩ := info_parts info2
  have hn : n = L.length := by have := ho.1; simp at this; exact this.symm
  have hgl := (ho.lt g rfl).2
  have HC : Hid (∀ j, j < n → w.cell? ⟨g, j, none⟩ = some (.int .i64 (nth L j))) := hide (fun j hj => cell_at ho j hj)
  have I0 : Hid (CSt w (w.alloc (.cells #[] 2)) L 0 0 (-1) w.heap.size 0) := hide ⟨[], rfl, rfl, World.ownsRow_lit w #[] 0 (Nat.le_refl _) (by unfold maxLen; omega) rfl, one_below _ _⟩
  have HN := hide hn
  clear ho hn
  go_enter Tryz.func68, Tryz.ntmps68
  go_wp2
  go_loopw [3, 4, 5] (fun sv tv iv wr => ∃ (i d g2 c2 : Nat) (st : Int), i ≤ n ∧ -1 ≤ st ∧ st < d ∧ d ≤ i ∧ sv = .slice (some ⟨g2, 0, none⟩) d c2 ∧ tv = .int .i64 st ∧ iv = .int .i64 i ∧ Hid (CSt w wr L i d st g2 c2)) (fun _ _ iv _ => n - (intOf iv).toNat)
  case atStart => exact ⟨0, 0, w.heap.size, 0, -1, Nat.zero_le _, by omega, by omega, Nat.le_refl _, rfl, rfl, rfl, I0⟩
  case round =>
    obtain ⟨i, d, g2, c2, st, hin, hs1, hs2, hdi, rfl, rfl, rfl, I1⟩ := hrel
    clear I0
    obtain ⟨D, hQ, hd, hO, hB⟩ := unhide I1
    by_cases hlt : i < n
    · have hlt' : (i : Int) < (n : Int) := by omega
      have c0 := (hB.cell (p := ⟨g, i, none⟩) hgl).trans ((unhide HC) i hlt)
      have hsz := hB.size
      have hQ1 : cmpQ (L.take (i + 1)) = stepC (D, st) (nth L i) := by rw [cmpQ_take (by have := unhide HN; omega), hQ]
      obtain ⟨c, hc⟩ : ∃ c, c = nth L i := ⟨_, rfl⟩
      rw [← hc] at hQ1 c0
      have CM := hide (fun W => clsS c W)
      obtain ⟨zc, hzc⟩ : ∃ zc, clsZ c = zc := ⟨_, rfl⟩
      rw [hzc] at CM
      have HZ := hide hzc
      have HD := hide hd
      have PU0 : Hid (¬ (opn D st c = true ∧ 0 ≤ pairP (nth D st.toNat) c) → ∀ (w3 : World) (v' : Value), w3.ownsRow w.heap.size 2 1 v' (d + 1) (D.map (Value.int .i64) ++ [.int .i64 c]) → Below w.heap.size w w3 → (v' = .slice none 0 0 → False) → ∃ g3 c3, v' = .slice (some ⟨g3, 0, none⟩) (d + 1) c3 ∧ ∀ st', st' = (if clsZ c = 0 then (d : Int) else st) → CSt w w3 L (i + 1) (d + 1) st' g3 c3) := hide (fun hno w3 v' ho hb hv => by
        unfold stepC at hQ1
        rw [if_neg hno] at hQ1
        obtain ⟨g3, c3, rfl⟩ : ∃ g3 c3, v' = .slice (some ⟨g3, 0, none⟩) (d + 1) c3 := by
          rcases ho.2 with ⟨h1, _⟩ | ⟨g3, c3, _, h1, _⟩
          · exact (hv h1).elim
          · exact ⟨g3, c3, h1⟩
        refine ⟨g3, c3, rfl, fun st' hst => ⟨D ++ [c], by rw [hQ1, hst, hd], by simp; exact hd, ?_, hb⟩⟩
        rw [List.map_append]
        exact ho)
      have PC0 : Hid (∀ s : Nat, st = (s : Int) → opn D st c = true → ∀ x, x = pairP (nth D s) c → 0 ≤ x → ∀ (w3 : World), w3.ownsRow w.heap.size 2 1 (.slice (some ⟨g2, 0, none⟩) d c2) d ((D.set s x).map (Value.int .i64)) → Below w.heap.size w w3 → CSt w w3 L (i + 1) d st g2 c2) := hide (fun s hs hop x hx h0 w3 ho hb => by
        subst hs
        unfold stepC at hQ1
        rw [if_pos ⟨hop, by rw [Int.toNat_natCast, ← hx]; exact h0⟩] at hQ1
        refine ⟨D.set s x, by rw [hQ1, Int.toNat_natCast, ← hx], by simpa using hd, ho, hb⟩)
      have OW := hide hO
      have BW := hide hB
      clear hQ1 hc hzc hd hO hB hQ I1
      go_wp2_with fail
      refine ((unhide CM) _).mono ?_
      rintro e' wx ⟨rfl, rfl⟩
      clear CM c0
      by_cases hst : st = -1
      · subst hst
        have PU := hide ((unhide PU0) (fun h => by have := h.1; unfold opn at this; simp at this))
        clear PU0 PC0
        have HW : Hid (∀ W, W = wx → W = wx) := hide (fun _ h => h)
        go_wp2
        go_loopw [8, 9] (fun ov kv wr => ov = .bool false ∧ kv = .int .i64 0 ∧ wr = wx) (fun _ _ _ => 0)
        case atStart => exact ⟨rfl, rfl, rfl⟩
        case round =>
          obtain ⟨rfl, rfl, hw⟩ := hrel
          subst hw
          clear HW
          obtain ⟨st, hst⟩ : ∃ st : Int, st = -1 := ⟨_, rfl⟩
          rw [← hst] at PU ⊢
          have hs1 : -1 ≤ st := by omega
          have hs2 : st < d := by omega
          clear hst
          generalize hwx : wr = wx at *
          clear hwx
          go_wp2_with (at_builtin; refine wpList_append_own _ rfl _ _ 28 rfl w.heap.size 2 i0 (.int .i64 0) 1 8 Tryz.underlying28 hi hz0 hz1 hz2 rfl (by decide) _ _ _ rfl (World.ownsRow.alloc (unhide OW) _) ⟨wx.heap.size, 0, none⟩ 1 1 [.int .i64 c] rfl rfl ?c1 ?c2 ?c3 ?c4 ?c5 ?_)
          case c1 => exact cell_one_new _ _ _
          case c2 =>
            intro x hx
            rw [List.mem_singleton] at hx
            rw [hx]
            rfl
          case c3 => unfold maxLen; omega
          case c4 => omega
          case c5 => simp; omega
          intro v' w3 hown' hgrow hnone
          have B3 : Below w.heap.size w w3 := ((unhide BW).trans ((one_below wx (.cells #[.int .i64 c] 2)).mono hsz)).grown hgrow (by simp; omega) (fun m hm => ((unhide OW).lt m (by simpa [Value.ownBlock] using hm)).1)
          obtain ⟨g3, c3, rfl, H3⟩ := (unhide PU) w3 v' hown' B3 (by simpa using hnone)
          have H4 := hide H3
          clear hown' hgrow hnone B3 H3 PU OW BW
          by_cases hz : clsZ c = 0
          · have F4 := hide ((unhide H4) (d : Int) (by rw [if_pos hz]))
            have hzc : (zc == 0) = true := by rw [beq_iff_eq, ← unhide HZ]; exact hz
            clear H4 HZ hz
            go_wp2
            go_roundw
            case rel => exact ⟨i + 1, d + 1, g3, c3, (d : Int), by omega, by omega, by omega, by omega, rfl, by go_num, by go_num, F4⟩
            case measure => simp [intOf]; omega
          · have F4 := hide ((unhide H4) st (by rw [if_neg hz]))
            have hzc : (zc == 0) = false := by rw [beq_eq_false_iff_ne, ← unhide HZ]; exact hz
            clear H4 HZ hz
            go_wp2
            go_roundw
            case rel => exact ⟨i + 1, d + 1, g3, c3, st, by omega, by omega, by omega, by omega, rfl, rfl, by go_num, F4⟩
            case measure => simp [intOf]; omega
      · obtain ⟨s, rfl⟩ : ∃ s : Nat, st = (s : Int) := ⟨st.toNat, by omega⟩
        have hsd : s < d := by omega
        have hss : (0 : Int) ≤ (s : Int) := by omega
        have hsn : ((s : Int) + 1).toNat = s + 1 := by omega
        have HOp : Hid (∀ k o, o = ((D.take k).drop (s + 1)).all (okM c) → (o = false ∨ k = d) → opn D (s : Int) c = o) := hide (fun k o ho hk => by
          unfold opn
          rw [decide_eq_true hss, Bool.true_and, hsn]
          rcases hk with hk | hk
          · rw [hk] at ho ⊢
            exact all_false ho.symm
          · rw [ho, hk, unhide HD, List.take_length])
        have HA0 : Hid (true = ((D.take (s + 1)).drop (s + 1)).all (okM c)) := hide (by
          rw [List.drop_eq_nil_iff.2 (by rw [List.length_take]; omega)]
          rfl)
        have HP : Hid (∀ W, Calls Tryz.prog 89 #[.int .i64 (nth D s), .int .i64 c] W fun e w' => e = .returned (.int .i64 (pairP (nth D s) c)) ∧ w' = W) := hide (fun W => pairS _ _ W)
        clear hsn hst
        go_wp2
        go_loopw [8, 9] (fun ov kv wr => ∃ (k m : Nat) (o : Bool), s + 1 ≤ k ∧ k ≤ d ∧ ov = .bool o ∧ kv = .int .i64 k ∧ wr = wx.drewN m ∧ Hid (o = ((D.take k).drop (s + 1)).all (okM c))) (fun _ kv _ => d - (intOf kv).toNat)
        case atStart => exact ⟨s + 1, 0, true, Nat.le_refl _, by omega, rfl, by go_num, rfl, HA0⟩
        case round =>
          obtain ⟨k, m, o, hk1, hk2, rfl, rfl, rfl, HA⟩ := hrel
          clear HA0
          cases o with
          | false =>
            have hop := (unhide HOp) k false (unhide HA) (.inl rfl)
            have PU := hide ((unhide PU0) (fun h => by rw [hop] at h; cases h.1))
            have OW2 := hide (own_drewN (unhide OW) m)
            have BW2 := hide (bdrew (unhide BW) m)
            have hsz2 : w.heap.size ≤ (wx.drewN m).heap.size := hsz
            clear PU0 PC0 OW BW hsz HOp HA hop HP
            have OW := OW2
            have BW := BW2
            have hsz := hsz2
            clear OW2 BW2 hsz2
            generalize wx.drewN m = wx at *
            have hsd' : (s : Int) < (d : Int) := by omega
            generalize ((s : Nat) : Int) = st at *
            go_wp2_with (at_builtin; refine wpList_append_own _ rfl _ _ 28 rfl w.heap.size 2 i0 (.int .i64 0) 1 8 Tryz.underlying28 hi hz0 hz1 hz2 rfl (by decide) _ _ _ rfl (World.ownsRow.alloc (unhide OW) _) ⟨wx.heap.size, 0, none⟩ 1 1 [.int .i64 c] rfl rfl ?c1 ?c2 ?c3 ?c4 ?c5 ?_)
            case c1 => exact cell_one_new _ _ _
            case c2 =>
              intro x hx
              rw [List.mem_singleton] at hx
              rw [hx]
              rfl
            case c3 => unfold maxLen; omega
            case c4 => omega
            case c5 => simp; omega
            intro v' w3 hown' hgrow hnone
            have B3 : Below w.heap.size w w3 := ((unhide BW).trans ((one_below wx (.cells #[.int .i64 c] 2)).mono hsz)).grown hgrow (by simp; omega) (fun m hm => ((unhide OW).lt m (by simpa [Value.ownBlock] using hm)).1)
            obtain ⟨g3, c3, rfl, H3⟩ := (unhide PU) w3 v' hown' B3 (by simpa using hnone)
            have H4 := hide H3
            clear hown' hgrow hnone B3 H3 PU OW BW
            by_cases hz : clsZ c = 0
            · have F4 := hide ((unhide H4) (d : Int) (by rw [if_pos hz]))
              have hzc : (zc == 0) = true := by rw [beq_iff_eq, ← unhide HZ]; exact hz
              clear H4 HZ hz
              go_wp2
              go_roundw
              case rel => exact ⟨i + 1, d + 1, g3, c3, (d : Int), by omega, by omega, by omega, by omega, rfl, by go_num, by go_num, F4⟩
              case measure => simp [intOf]; omega
            · have F4 := hide ((unhide H4) st (by rw [if_neg hz]))
              have hzc : (zc == 0) = false := by rw [beq_eq_false_iff_ne, ← unhide HZ]; exact hz
              clear H4 HZ hz
              go_wp2
              go_roundw
              case rel => exact ⟨i + 1, d + 1, g3, c3, st, by omega, by omega, by omega, by omega, rfl, rfl, by go_num, F4⟩
              case measure => simp [intOf]; omega
          | true =>
            by_cases hkd : k < d
            · have hkd' : (k : Int) < (d : Int) := by omega
              obtain ⟨x, hx⟩ : ∃ x, x = nth D k := ⟨_, rfl⟩
              have ck : (wx.drewN m).cell? ⟨g2, k, none⟩ = some (.int .i64 x) := by rw [hx]; exact cell_at (unhide OW) k hkd
              obtain ⟨zx, hzx⟩ : ∃ zx, clsZ x = zx := ⟨_, rfl⟩
              have CX := hide (fun W => clsS x W)
              rw [hzx] at CX
              have HA2 : Hid (∀ o, o = okM c x → o = ((D.take (k + 1)).drop (s + 1)).all (okM c)) := hide (fun o ho => by
                rw [all_take hk1 (by have := unhide HD; omega), ← unhide HA, Bool.true_and, ← hx]
                exact ho)
              obtain ⟨w2, hw2⟩ : ∃ w2, w2 = wx.drewN m := ⟨_, rfl⟩
              rw [← hw2] at ck ⊢
              have HW2 := hide hw2
              have HX := hide hzx
              clear HA hx hzx HP hw2
              by_cases hA : zx = 0
              · have tA : (zx != 0) = false := by simp [hA]
                have HA3 := hide ((unhide HA2) false (by unfold okM; rw [unhide HX, decide_eq_false (fun h => h hA)]; rfl))
                clear HA2 HX hA
                go_wp2_with (go_at_call 88; refine ((unhide CX) _).mono ?_; rintro e' w5 ⟨rfl, rfl⟩)
                go_roundw
                case rel => exact ⟨k + 1, m, false, by omega, by omega, rfl, by go_num, unhide HW2, HA3⟩
                case measure => simp [intOf]; omega
              · have tA : (zx != 0) = true := by simp [hA]
                by_cases hL : zx < zc
                · have HA3 := hide ((unhide HA2) true (by unfold okM; rw [unhide HX, unhide HZ, decide_eq_true hA, decide_eq_true hL]; rfl))
                  clear HA2 HX hA
                  go_wp2_with (go_at_call 88; refine ((unhide CX) _).mono ?_; rintro e' w5 ⟨rfl, rfl⟩)
                  go_roundw
                  case rel => exact ⟨k + 1, m, true, by omega, by omega, rfl, by go_num, unhide HW2, HA3⟩
                  case measure => simp [intOf]; omega
                · have HA3 := hide ((unhide HA2) false (by unfold okM; rw [unhide HX, unhide HZ, decide_eq_true hA, decide_eq_false hL]; rfl))
                  clear HA2 HX hA
                  go_wp2_with (go_at_call 88; refine ((unhide CX) _).mono ?_; rintro e' w5 ⟨rfl, rfl⟩)
                  go_roundw
                  case rel => exact ⟨k + 1, m, false, by omega, by omega, by rw [decide_eq_false (by omega)], by go_num, unhide HW2, HA3⟩
                  case measure => simp [intOf]; omega
            · obtain rfl : k = d := by omega
              have hkd' : ¬ (k : Int) < (k : Int) := by omega
              have hop := (unhide HOp) k true (unhide HA) (.inr rfl)
              have OW2 := hide (own_drewN (unhide OW) m)
              have BW2 := hide (bdrew (unhide BW) m)
              have hsz2 : w.heap.size ≤ (wx.drewN m).heap.size := hsz
              have PC := hide ((unhide PC0) s rfl hop)
              have PU1 : Hid (¬ 0 ≤ pairP (nth D s) c → _) := hide (fun hno => (unhide PU0) (fun h => hno (by have := h.2; rwa [Int.toNat_natCast] at this)))
              clear PU0 PC0 OW BW hsz HOp HA hop
              have OW := OW2
              have BW := BW2
              have hsz := hsz2
              clear OW2 BW2 hsz2
              generalize wx.drewN m = wx at *
              have cs := cell_at (unhide OW) s hsd
              obtain ⟨pv, hpv⟩ : ∃ pv, pv = pairP (nth D s) c := ⟨_, rfl⟩
              rw [← hpv] at HP PU1
              have HPV := hide hpv
              by_cases hp : 0 ≤ pv
              · obtain ⟨f1, o1, b1⟩ := set_at (unhide OW) s hsd pv
                have F4 := hide ((unhide PC) pv hpv hp _ o1 (b1 w hsz (unhide BW)))
                clear PU1 PC o1 b1 hpv HPV OW BW
                generalize nth D s = y at *
                go_wp2_with fail
                refine ((unhide HP) _).mono ?_
                rintro e' w4 ⟨rfl, rfl⟩
                clear HP
                go_wp2
                go_roundw
                case rel => exact ⟨i + 1, k, g2, c2, (s : Int), by omega, by omega, by omega, by omega, rfl, rfl, by go_num, F4⟩
                case measure => simp [intOf]; omega
              · have PU := hide ((unhide PU1) hp)
                clear PU1 PC hpv HPV
                generalize nth D s = y at *
                go_wp2_with fail
                refine ((unhide HP) _).mono ?_
                rintro e' wx ⟨rfl, rfl⟩
                clear HP cs
                have hsd' : (s : Int) < (k : Int) := by omega
                generalize ((s : Nat) : Int) = st at *
                obtain ⟨d, hdk⟩ : ∃ d, d = k := ⟨_, rfl⟩
                subst hdk
                go_wp2_with (at_builtin; refine wpList_append_own _ rfl _ _ 28 rfl w.heap.size 2 i0 (.int .i64 0) 1 8 Tryz.underlying28 hi hz0 hz1 hz2 rfl (by decide) _ _ _ rfl (World.ownsRow.alloc (unhide OW) _) ⟨wx.heap.size, 0, none⟩ 1 1 [.int .i64 c] rfl rfl ?c1 ?c2 ?c3 ?c4 ?c5 ?_)
                case c1 => exact cell_one_new _ _ _
                case c2 =>
                  intro x hx
                  rw [List.mem_singleton] at hx
                  rw [hx]
                  rfl
                case c3 => unfold maxLen; omega
                case c4 => omega
                case c5 => simp; omega
                intro v' w3 hown' hgrow hnone
                have B3 : Below w.heap.size w w3 := ((unhide BW).trans ((one_below wx (.cells #[.int .i64 c] 2)).mono hsz)).grown hgrow (by simp; omega) (fun m hm => ((unhide OW).lt m (by simpa [Value.ownBlock] using hm)).1)
                obtain ⟨g3, c3, rfl, H3⟩ := (unhide PU) w3 v' hown' B3 (by simpa using hnone)
                have H4 := hide H3
                clear hown' hgrow hnone B3 H3 PU OW BW
                by_cases hz : clsZ c = 0
                · have F4 := hide ((unhide H4) (d : Int) (by rw [if_pos hz]))
                  have hzc : (zc == 0) = true := by rw [beq_iff_eq, ← unhide HZ]; exact hz
                  clear H4 HZ hz
                  go_wp2
                  go_roundw
                  case rel => exact ⟨i + 1, d + 1, g3, c3, (d : Int), by omega, by omega, by omega, by omega, rfl, by go_num, by go_num, F4⟩
                  case measure => simp [intOf]; omega
                · have F4 := hide ((unhide H4) st (by rw [if_neg hz]))
                  have hzc : (zc == 0) = false := by rw [beq_eq_false_iff_ne, ← unhide HZ]; exact hz
                  clear H4 HZ hz
                  go_wp2
                  go_roundw
                  case rel => exact ⟨i + 1, d + 1, g3, c3, st, by omega, by omega, by omega, by omega, rfl, rfl, by go_num, F4⟩
                  case measure => simp [intOf]; omega
    · obtain rfl : i = n := by omega
      have hlt' : ¬ (i : Int) < (i : Int) := by omega
      go_wp2
      go_ret
      rw [unhide HN, List.take_length] at hQ
      rw [hQ]
      refine ⟨_, rfl, ?_, hB⟩
      rw [← hd]
      exact hO
end Go.Proofs.YtjdginjohajmaaaGreatDoor
