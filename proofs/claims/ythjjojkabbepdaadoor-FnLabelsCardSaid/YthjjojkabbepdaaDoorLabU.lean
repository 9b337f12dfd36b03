/- The points put in their places, as the program reads a label. -/
import Derived.Test.YthjjojkabbepdaaDoorLabR
namespace Go.Proofs.YthjjojkabbepdaaDoor.Lab
open Go.RowKit
set_option linter.unusedVariables false
theorem num_ge1 {q b k : Int} : 1 ≤ (num q b k).length := by
  by_cases h : q < thr k b
  · rw [num_last h]; simp
  · rw [num_more (by omega)]; simp
theorem outs_bd {ok : Int → Bool} : ∀ (Q : List Int) (D : Dc), oks ok D Q → ∀ x ∈ outs D Q, 0 ≤ x ∧ x < 128 ∧ x ≠ 45
  | [], D, _, x, hx => by simp [outs] at hx
  | q :: Q, D, ⟨h1, h2⟩, x, hx => by
    rcases List.mem_append.1 hx with h | h
    · exact num_bd h1.1 x h
    · exact outs_bd Q (dst D q) h2 x h
/-- A row of numbers of one's own, beside the bias' box. -/
def Iy (lo : Nat) (w : World) (v : Value) (F : List Int) : Prop := w.ownsRow lo 2 1 v F.length (F.map (Value.int .i64))
theorem Iy.ne {lo A : Nat} {w : World} {v : Value} {F : List Int} {b : Int} {a : Bool} (h : Iy lo w v F) (hB : Bx w A b a) : v.ownBlock ≠ some A := by
  intro hj
  rcases h.2 with ⟨rfl, _⟩ | ⟨g, cap, cur, rfl, _, hh, _⟩
  · cases hj
  · have e : g = A := by cases hj; rfl
    subst e
    unfold Bx at hB
    rw [hh] at hB
    injection hB with hB
    injection hB with _ h2 _
    exact absurd h2 (by decide)
theorem Iy.ka {lo A : Nat} {w w' : World} {v : Value} {F : List Int} {b : Int} {a : Bool} (h : Iy lo w v F) (hB : Bx w A b a) (k : Ka A w w') : Iy lo w' v F := by
  refine own_atS h (fun j hj => ?_)
  exact k.oth _ (fun e => h.ne hB (e ▸ hj)) (h.lt j hj).2
theorem Iy.below {lo : Nat} {w w' : World} {v : Value} {F : List Int} (h : Iy lo w v F) (hb : Below w.heap.size w w') : Iy lo w' v F := ownsRow_below h hb
theorem Iy.form {lo : Nat} {w : World} {v : Value} {F : List Int} (h : Iy lo w v F) : ∃ a c, v = .slice a F.length c := own_formL h
theorem data_ex (s : ByteArray) (a b : Nat) : (s.extract a b).data.toList = (s.data.toList.take b).drop a := by
  rw [ByteArray.data_extract]
  simp [List.take_drop]
  by_cases h : a ≤ b
  · rw [show a + (b - a) = b by omega]
  · rw [List.drop_of_length_le (by simp; omega), List.drop_of_length_le (by simp; omega)]
theorem str_ext {s t : ByteArray} (h : s.data.toList = t.data.toList) : s = t := by
  apply ByteArray.ext
  exact Array.toList_inj.1 h
theorem str_cut (N R : List Int) (k m : Nat) (hk : k = N.length) (hm : m = (N ++ R).length) : (strOfNums (N ++ R)).extract k m = strOfNums R := by
  apply str_ext
  subst hk hm
  rw [data_ex, strOfNums_data, strOfNums_data, List.map_append]
  rw [List.take_of_length_le (by simp)]
  exact List.drop_left' (by simp)
theorem str_front (N R : List Int) (k : Nat) (hk : k = N.length) : (strOfNums (N ++ R)).extract 0 k = strOfNums N := by
  apply str_ext
  subst hk
  rw [data_ex, strOfNums_data, strOfNums_data, List.map_append, List.drop_zero]
  exact List.take_left' (by simp)
theorem outs_nil {D : Dc} {Q : List Int} (h : outs D Q = []) : Q = [] := by
  cases Q with
  | nil => rfl
  | cons q Q =>
    exfalso
    have : (num q D.bias 36 ++ outs (dst D q) Q).length = 0 := by
      have e : outs D (q :: Q) = num q D.bias 36 ++ outs (dst D q) Q := rfl
      rw [← e, h]; rfl
    rw [List.length_append] at this
    have h1 := num_ge1 (q := q) (b := D.bias) (k := 36)
    omega
set_option maxRecDepth 100000 in
set_option maxHeartbeats 4000000 in
/-- Where each number is in its bounds and each point is one. -/
theorem putI (B : Nat) (v : Value) (F : List Int) (Q : List Int) (w : World) (hO : Iy B w v F) (hB : B ≤ w.heap.size) (hok : oks isPt ⟨F, 128, 0, 72, false⟩ Q) (hl : (outs ⟨F, 128, 0, 72, false⟩ Q).length ≤ 10000) :
    Calls Tryd.prog 43 #[v, .string (strOfNums (outs ⟨F, 128, 0, 72, false⟩ Q))] w fun e w' => ∃ v', e = .returned (.tuple #[v', .bool true]) ∧ Iy B w' v' (fin ⟨F, 128, 0, 72, false⟩ Q).F ∧ Below B w w' := by
  obtain ⟨D0, hD0⟩ : ∃ D : Dc, (⟨F, 128, 0, 72, false⟩ : Dc) = D := ⟨_, rfl⟩
  have hF0 : D0.F = F ∧ D0.p = 128 ∧ D0.place = 0 ∧ D0.bias = 72 ∧ D0.anew = false := by subst hD0; exact ⟨rfl, rfl, rfl, rfl, rfl⟩
  rw [hD0] at hok hl ⊢
  clear hD0
  obtain ⟨f1, f2, f3, f4, f5⟩ := hF0
  have HO := hide hO
  have HOK := hide hok
  have HL := hide hl
  have HF1 := hide f1
  obtain ⟨a0, c0, rfl⟩ := hO.form
  have HN : Hid (Bx (w.alloc (.cells #[.int .i64 72, .bool false] 62)) w.heap.size 72 false) := hide (boxN w _ _)
  have HS0 : Hid ((w.alloc (.cells #[.int .i64 72, .bool false] 62)).heap.size = w.heap.size + 1) := hide (by simp)
  have HB0 : Hid (Below w.heap.size w (w.alloc (.cells #[.int .i64 72, .bool false] 62))) := hide (al1 w _)
  clear hO hok hl f1
  have HF := hide (show D0.p = 128 ∧ D0.place = 0 ∧ D0.bias = 72 ∧ D0.anew = false from ⟨f2, f3, f4, f5⟩)
  clear f2 f3 f4 f5
  obtain ⟨s0, hs0⟩ : ∃ s, strOfNums (outs D0 Q) = s := ⟨_, rfl⟩
  have HS := hide hs0
  rw [hs0]
  clear hs0
  go_enter Tryd.func43, Tryd.ntmps43
  go_wp2
  generalize w.alloc (.cells #[.int .i64 72, .bool false] 62) = w0 at *
  go_loopw [0, 1, 7, 8] (fun pv dv nv lv wr => ∃ (D : Dc) (R : List Int) (vs : Value) (p place : Int), pv = vs ∧ dv = .string (strOfNums (outs D R)) ∧ nv = .int .i64 p ∧ lv = .int .i64 place ∧ Hid (D.p = p ∧ D.place = place) ∧ Hid (Iy B wr vs D.F) ∧ Hid (Bx wr w.heap.size D.bias D.anew) ∧ Hid (oks isPt D R) ∧ Hid ((outs D R).length ≤ 10000) ∧ Hid (fin D R = fin D0 Q) ∧ Hid (Below B w wr) ∧ w.heap.size < wr.heap.size) (fun _ dv _ _ _ => match dv with | .string s => s.size | _ => 0)
  case atStart =>
    refine ⟨D0, Q, .slice a0 F.length c0, 128, 0, rfl, by rw [unhide HS], rfl, rfl, hide ⟨(unhide HF).1, (unhide HF).2.1⟩, hide ?_, hide ?_, HOK, HL, hide rfl, hide ((unhide HB0).mono hB), by have := unhide HS0; omega⟩
    · have := (unhide HO).below (unhide HB0)
      rw [unhide HF1]
      exact this
    · rw [(unhide HF).2.2.1, (unhide HF).2.2.2]
      exact unhide HN
  case round =>
    obtain ⟨D, R, vs, p, place, rfl, rfl, rfl, rfl, HP, HO2, HBx, HOK2, HL2, HFN, HBL, hwz⟩ := hrel
    cases R with
    | nil =>
      have e0 : outs D [] = [] := rfl
      rw [e0]
      have HE : Hid (fin D0 Q = D) := hide (unhide HFN).symm
      obtain ⟨a1, c1, rfl⟩ := (unhide HO2).form
      have E1 : strOfNums [] = ({ data := #[] } : ByteArray) := rfl
      rw [E1]
      go_wp2
      go_ret2
      exact ⟨_, rfl, by rw [unhide HE]; exact unhide HO2, unhide HBL⟩
    | cons q R =>
      obtain ⟨⟨q0, q1, pl0, pl1, fl, b0, b1, pp, hpt⟩, hok⟩ := unhide HOK2
      have e0 : outs D (q :: R) = num q D.bias 36 ++ outs (dst D q) R := rfl
      rw [e0] at HL2 ⊢
      have hnl := num_len (b := D.bias) (k := 36) q0 (by omega)
      have hne := num_ge1 (q := q) (b := D.bias) (k := 36)
      have HR := hide (outs_bd R (dst D q) hok)
      have hll : (num q D.bias 36).length + (outs (dst D q) R).length ≤ 10000 := by have := unhide HL2; rw [List.length_append] at this; exact this
      have CT := hide (takeI w.heap.size q D.bias D.anew (outs (dst D q) R) wr (unhide HBx) q0 q1 b0 b1 (fun x hx => by have := (unhide HR) x hx; omega) (by omega))
      have hcnt0 : (0 : Int) < cntD D := by unfold cntD; omega
      have hm0 := Int.emod_nonneg (D.place + q) (show cntD D ≠ 0 by omega)
      have hm1 := Int.emod_lt_of_pos (D.place + q) hcnt0
      obtain ⟨i, hi⟩ : ∃ i : Nat, (D.place + q) % cntD D = (i : Int) := ⟨((D.place + q) % cntD D).toNat, by omega⟩
      have hil : i ≤ D.F.length := by
        have h2 := hm1
        rw [hi] at h2
        unfold cntD at h2
        omega
      have hd0 : 0 ≤ (D.place + q) / cntD D := Int.ediv_nonneg (by omega) (by omega)
      have hd1 : (D.place + q) / cntD D ≤ D.place + q := Int.ediv_le_self _ (by omega)
      obtain ⟨dv, hdv⟩ : ∃ dv, (D.place + q) / cntD D = dv := ⟨_, rfl⟩
      have HD : Hid ((dst D q).F = D.F.insertIdx i (D.p + dv) ∧ (dst D q).p = D.p + dv ∧ (dst D q).place = (i : Int) + 1 ∧ (dst D q).bias = bsn q ((D.F.length : Int) + 1) D.anew ∧ (dst D q).anew = true) := hide (by
        refine ⟨?_, ?_, ?_, rfl, rfl⟩
        · show D.F.insertIdx ((D.place + q) % cntD D).toNat (D.p + (D.place + q) / cntD D) = _
          rw [hi, hdv]; rfl
        · show D.p + (D.place + q) / cntD D = _
          rw [hdv]
        · show (D.place + q) % cntD D + 1 = _
          rw [hi])
      rw [hdv] at hpt hd0 hd1
      have hpb := (isPt_iff _).1 hpt
      have hcD : cntD D = (D.F.length : Int) + 1 := rfl
      have t1 : (D.place + q).tdiv ((D.F.length : Int) + 1) = dv := by rw [Int.tdiv_eq_ediv_of_nonneg (by omega), ← hcD, hdv]
      have t2 : (D.place + q).tmod ((D.F.length : Int) + 1) = (i : Int) := by rw [Int.tmod_eq_emod_of_nonneg (by omega), ← hcD, hi]
      have t3 : (((D.F.length : Int) + 1) == 0) = false := by rw [beq_eq_false_iff_ne]; omega
      have CP := hide (fun W => isPointP (D.p + dv) W)
      rw [hpt] at CP
      have CI := hide (fun W v (ho : Iy B W v D.F) (hbW : B ≤ W.heap.size) => insI B W.heap.size i v D.F (D.p + dv) (W.alloc (.cells #[.int .i64 (D.p + dv)] 2)) (World.ownsRow.alloc ho _) (by simp; omega) (by omega) hil (heap_alloc_new _ _) (fun e => by have := (World.ownsRow.lt ho _ e).2; omega))
      have CA := hide (fun W b a (hb : Bx W w.heap.size b a) => anewI w.heap.size q ((D.F.length : Int) + 1) b a W hb q0 (by omega) (by omega) (by omega))
      obtain ⟨sS, hsS⟩ : ∃ s, strOfNums (num q D.bias 36 ++ outs (dst D q) R) = s := ⟨_, rfl⟩
      obtain ⟨s2, hs2⟩ : ∃ s, strOfNums (outs (dst D q) R) = s := ⟨_, rfl⟩
      have hx : sS.extract (num q D.bias 36).length sS.size = s2 := by
        rw [← hsS, ← hs2]
        exact str_cut _ _ _ _ rfl (by rw [strOfNums_size])
      have hsz : sS.size = (num q D.bias 36).length + s2.size := by rw [← hsS, ← hs2, strOfNums_size, strOfNums_size, List.length_append]
      have HS2 := hide hs2
      have hse : sS.toList.isEmpty = false := by
        rw [Lib.toList_data]
        cases hd : sS.data.toList with
        | nil => exact absurd (show sS.size = 0 by rw [Lib.size_eq, hd]; rfl) (by omega)
        | cons _ _ => rfl
      rw [hsS] at CT ⊢
      have hsl : sS.size ≤ 10000 := by rw [← hsS, strOfNums_size]; exact unhide HL2
      clear hsS hs2 e0 hnl HR hll hcnt0 hm0 hm1 hi hdv hcD hpt
      obtain ⟨hp1, hp2⟩ := unhide HP
      rw [hp2] at pl0 pl1 hd1 t1 t2
      rw [hp1] at HD CP CI hpb pp
      obtain ⟨av, cv, rfl⟩ := (unhide HO2).form
      have hbl := (unhide HBL).size
      generalize hnn : (num q D.bias 36).length = n at *
      have HT1 := hide (t1 : (place + q).tdiv ((D.F.length : Int) + 1) = dv)
      have hnz : ((n : Int) == 0) = false := by rw [beq_eq_false_iff_ne]; omega
      generalize hFl : D.F.length = fl' at *
      go_wp2_with (first
        | (go_at_call 57; refine (unhide CT).mono ?_; rintro e w1 ⟨rfl, hb1⟩; have O1 := hide ((unhide HO2).below hb1); have X1 := hide (show Bx w1 w.heap.size _ _ from (hb1.block _ (unhide HBx).lt).trans (unhide HBx)); have B1 := hide ((unhide HBL).trans (hb1.mono (Nat.le_trans hB hbl))); have z1 := hb1.size; clear hb1)
        | (go_at_call 58; refine ((unhide CP) _).mono ?_; rintro e w' ⟨rfl, hw⟩; obtain rfl := hw.symm; clear hw))
      refine ((unhide CI) w1 _ (unhide O1) (by omega)).mono ?_
      rintro e w2 ⟨v2, rfl, o2, g2⟩
      have hln : (D.F.insertIdx i (p + dv)).length = fl' + 1 := by rw [List.length_insertIdx, hFl, if_pos (by omega)]
      have O2 : Hid (Iy B w2 v2 (D.F.insertIdx i (p + dv))) := hide (by unfold Iy; rw [hln]; exact o2)
      have hal : (w1.alloc (.cells #[.int .i64 (p + dv)] 2)).heap.size = w1.heap.size + 1 := by simp
      have X2 : Hid (Bx w2 w.heap.size D.bias D.anew) := hide (by
        have hne := (unhide O1).ne (unhide X1)
        have hlt := (unhide X1).lt
        exact (g2.block _ (by omega) (fun e => hne e.symm)).trans ((Below.heap_alloc _ _ _ hlt).trans (unhide X1)))
      have B2 : Hid (Below B w w2) := hide (((unhide B1).alloc (by omega) _).grown g2 (by omega) (fun k e => (World.ownsRow.lt (unhide O1) k e).1))
      have z2 := g2.size
      rw [hal] at z2
      obtain ⟨a2, c2, hv2⟩ := (unhide O2).form
      rw [hln] at hv2
      subst hv2
      clear o2 g2 hal CI CP CT O1 X1 B1 hln
      go_wp2_with (go_at_call 38; refine ((unhide CA) _ _ _ (unhide X2)).mono ?_; rintro e w3 ⟨rfl, x3, k3⟩; have X3 := hide x3; have O3 := hide ((unhide O2).ka (unhide X2) k3); have B3 := hide ((unhide B2).trans (k3.bel.mono hB)); have z3 := k3.bel.size; clear x3 k3)
      go_roundw
      case rel =>
        obtain ⟨d1, d2, d3, d4, d5⟩ := unhide HD
        refine ⟨dst D q, R, _, p + dv, (i : Int) + 1, rfl, by rw [unhide HS2, ← hsz, hx], rfl, by go_num, hide ⟨d2, d3⟩, hide ?_, hide ?_, hide hok, hide ?_, HFN, B3, by omega⟩
        · rw [d1]; exact unhide O3
        · rw [d4, d5]; exact unhide X3
        · have := unhide HL2
          rw [List.length_append] at this
          omega
      case measure => simp; omega
end Go.Proofs.YthjjojkabbepdaaDoor.Lab
