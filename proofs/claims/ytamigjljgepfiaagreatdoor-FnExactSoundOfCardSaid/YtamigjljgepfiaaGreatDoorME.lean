/- Several texts in one. -/
import Derived.Test.YtamigjljgepfiaaGreatDoorMC
import Derived.Test.YtamigjljgepfiaaGreatDoorMD
import Derived.Deep.CutRange
import Derived.Test.YtamigjljgepfiaaGreatDoorMA
/- A row of points composed: no Go in sight. -/
namespace Go.Proofs.YtamigjljgepfiaaGreatDoor
open Go.RowKit
def okM (c m : Int) : Bool := decide (clsZ m ≠ 0) && decide (clsZ m < clsZ c)
/-- Nothing stands between the last starter and the next point. -/
def opn (D : List Int) (s c : Int) : Bool := decide (0 ≤ s) && (D.drop (s + 1).toNat).all (okM c)
def stepC (q : List Int × Int) (c : Int) : List Int × Int :=
  if opn q.1 q.2 c = true ∧ 0 ≤ pairP (nth q.1 q.2.toNat) c then (q.1.set q.2.toNat (pairP (nth q.1 q.2.toNat) c), q.2) else (q.1 ++ [c], if clsZ c = 0 then (q.1.length : Int) else q.2)
def cmpQ (L : List Int) : List Int × Int := L.foldl stepC ([], -1)
theorem cmpQ_snoc (L : List Int) (x : Int) : cmpQ (L ++ [x]) = stepC (cmpQ L) x := by rw [cmpQ, List.foldl_append]; rfl
theorem cmpQ_take {L : List Int} {i : Nat} (hi : i < L.length) : cmpQ (L.take (i + 1)) = stepC (cmpQ (L.take i)) (nth L i) := by rw [(ord_take hi).1, cmpQ_snoc]
def BdQ (q : List Int × Int) (n : Nat) : Prop := -1 ≤ q.2 ∧ q.2 < q.1.length ∧ q.1.length ≤ n
theorem stepC_bd {q : List Int × Int} {n : Nat} (h : BdQ q n) (c : Int) : BdQ (stepC q c) (n + 1) := by
  obtain ⟨h1, h2, h3⟩ := h
  unfold stepC
  split
  · exact ⟨h1, by simpa using h2, by simp; omega⟩
  · refine ⟨?_, ?_, by simp; omega⟩
    · show -1 ≤ (if clsZ c = 0 then (q.1.length : Int) else q.2)
      split <;> omega
    · show (if clsZ c = 0 then (q.1.length : Int) else q.2) < _
      simp only [List.length_append, List.length_singleton]
      split <;> omega
theorem cmpQ_bd : ∀ (n : Nat) (L : List Int), L.length = n → BdQ (cmpQ L) n
  | 0, L, h => by
    obtain rfl := List.length_eq_zero_iff.1 h
    exact ⟨by decide, by decide, by decide⟩
  | n + 1, L, h => by
    rcases snoc_cases L with rfl | ⟨L', x, rfl⟩
    · simp at h
    · rw [cmpQ_snoc]
      exact stepC_bd (cmpQ_bd n L' (by simpa using h)) x
/-- Side by side: the second is none of the marks, or not below the first. -/
def Adj : List Int → Prop
  | [] => True
  | [_] => True
  | a :: b :: t => (clsZ b = 0 ∨ clsZ a ≤ clsZ b) ∧ Adj (b :: t)
theorem adj_join {a : Int} {B : List Int} : ∀ {A : List Int}, Adj (A ++ [a]) → Adj (a :: B) → Adj (A ++ a :: B)
  | [], _, h => h
  | [_], h1, h => ⟨h1.1, h⟩
  | _ :: y :: A, h1, h => ⟨h1.1, adj_join (A := y :: A) h1.2 h⟩
theorem adj_parts : ∀ {A B : List Int}, Adj (A ++ B) → Adj A ∧ Adj B
  | [], _, h => ⟨trivial, h⟩
  | [_], [], _ => ⟨trivial, trivial⟩
  | [_], _ :: _, h => ⟨trivial, h.2⟩
  | _ :: y :: A, B, h => by
    have := adj_parts (A := y :: A) (B := B) h.2
    exact ⟨⟨h.1, this.1⟩, this.2⟩
theorem adj_ins {Z1 Z2 : List Int} {x : Int} (h : Adj (Z1 ++ Z2)) (h2 : ∀ z ∈ Z2, clsLt x z = true) (h1 : Z1 = [] ∨ ∃ Z z, Z1 = Z ++ [z] ∧ (clsZ x = 0 ∨ clsLt x z = false)) : Adj (Z1 ++ x :: Z2) := by
  obtain ⟨a1, a2⟩ := adj_parts h
  have t1 : Adj (Z1 ++ [x]) := by
    rcases h1 with rfl | ⟨Z, z, rfl, hz⟩
    · exact trivial
    · rw [List.append_assoc]
      refine adj_join a1 ⟨?_, trivial⟩
      rcases hz with hz | hz
      · exact .inl hz
      · exact .inr (by have := of_decide_eq_false hz; omega)
  refine adj_join t1 ?_
  match Z2, h2, a2 with
  | [], _, _ => exact trivial
  | y :: t, h2, a2 =>
    refine ⟨.inr ?_, a2⟩
    have := of_decide_eq_true (h2 y (by simp))
    omega
theorem adj_ord : ∀ (n : Nat) (L : List Int), L.length = n → Adj (ordL L)
  | 0, L, h => by
    obtain rfl := List.length_eq_zero_iff.1 h
    exact trivial
  | n + 1, L, h => by
    rcases snoc_cases L with rfl | ⟨L', x, rfl⟩
    · simp at h
    · have ih := adj_ord n L' (by simpa using h)
      rw [ordL_snoc]
      by_cases hx : clsZ x = 0
      · rw [insO_zero _ hx]
        refine adj_ins (Z2 := []) (by rw [List.append_nil]; exact ih) (by simp) ?_
        rcases snoc_cases (ordL L') with e | ⟨Z', z, e⟩
        · exact .inl e
        · exact .inr ⟨Z', z, e, .inl hx⟩
      · obtain ⟨Z1, Z2, e, h2, h1⟩ := split_last x _ (ordL L') rfl
        rw [e, insO_at hx h2 h1]
        refine adj_ins (by rw [← e]; exact ih) h2 ?_
        rcases h1 with h1 | ⟨Z, z, e1, hz⟩
        · exact .inl h1
        · exact .inr ⟨Z, z, e1, .inr hz⟩
/-- What stands between the last starter and the end: marks, in order, none above the last point read. -/
def InvC (L : List Int) (q : List Int × Int) : Prop := 0 ≤ q.2 → (∀ m ∈ q.1.drop (q.2 + 1).toNat, clsZ m ≠ 0) ∧ Srt clsLt (q.1.drop (q.2 + 1).toNat) ∧ ∀ P p, L = P ++ [p] → ∀ m ∈ q.1.drop (q.2 + 1).toNat, clsZ m ≤ clsZ p
theorem inv_cmp : ∀ (n : Nat) (L : List Int), L.length = n → Adj L → InvC L (cmpQ L)
  | 0, L, h, _ => by
    obtain rfl := List.length_eq_zero_iff.1 h
    intro h0
    exact absurd h0 (by decide)
  | n + 1, L, h, hA => by
    rcases snoc_cases L with rfl | ⟨L', c, rfl⟩
    · simp at h
    · have hl : L'.length = n := by simpa using h
      have ih := inv_cmp n L' hl (adj_parts hA).1
      have hb := cmpQ_bd n L' hl
      have hp : ∀ P p, L' = P ++ [p] → clsZ c = 0 ∨ clsZ p ≤ clsZ c := fun P p e => by
        rw [e, List.append_assoc] at hA
        exact (adj_parts hA).2.1
      have hne : L' = [] → (cmpQ L').2 = -1 := fun e => by rw [e]; rfl
      rw [cmpQ_snoc]
      generalize cmpQ L' = q at *
      obtain ⟨D, s⟩ := q
      obtain ⟨b1, b2, b3⟩ := hb
      simp only at b1 b2 b3 hne ih
      unfold InvC at ih ⊢
      unfold stepC
      simp only at ih ⊢
      by_cases hc : opn D s c = true ∧ 0 ≤ pairP (nth D s.toNat) c
      · rw [if_pos hc]
        intro h0
        simp only at h0 ⊢
        have hd : (D.set s.toNat (pairP (nth D s.toNat) c)).drop (s + 1).toNat = D.drop (s + 1).toNat := List.drop_set_of_lt (by omega)
        rw [hd]
        obtain ⟨i1, i2, _⟩ := ih h0
        refine ⟨i1, i2, fun P p e m hm => ?_⟩
        obtain ⟨_, e2⟩ := List.append_inj' e rfl
        injection e2 with e2 _
        subst e2
        have ha := hc.1
        unfold opn at ha
        rw [Bool.and_eq_true] at ha
        have := List.all_eq_true.1 ha.2 m hm
        unfold okM at this
        rw [Bool.and_eq_true] at this
        have := of_decide_eq_true this.2
        omega
      · rw [if_neg hc]
        simp only
        by_cases hz : clsZ c = 0
        · rw [if_pos hz]
          intro _
          have hd : (D ++ [c]).drop ((D.length : Int) + 1).toNat = [] := List.drop_eq_nil_iff.2 (by simp)
          rw [hd]
          exact ⟨by simp, List.Pairwise.nil, by simp⟩
        · rw [if_neg hz]
          intro h0
          have hd : (D ++ [c]).drop (s + 1).toNat = D.drop (s + 1).toNat ++ [c] := List.drop_append_of_le_length (by omega)
          rw [hd]
          obtain ⟨i1, i2, i3⟩ := ih h0
          have hle : ∀ m ∈ D.drop (s + 1).toNat, clsZ m ≤ clsZ c := fun m hm => by
            rcases snoc_cases L' with e | ⟨P, p, e⟩
            · have := hne e
              omega
            · have a1 := i3 P p e m hm
              rcases hp P p e with a2 | a2
              · exact absurd a2 hz
              · omega
          refine ⟨fun m hm => ?_, srt_app i2 (List.pairwise_singleton _ _) (fun x hx y hy => ?_), fun P p e m hm => ?_⟩
          · rcases List.mem_append.1 hm with hm | hm
            · exact i1 m hm
            · rw [List.mem_singleton] at hm
              rw [hm]
              exact hz
          · rw [List.mem_singleton] at hy
            subst hy
            have := hle x hx
            exact decide_eq_false (by omega)
          · obtain ⟨_, e2⟩ := List.append_inj' e rfl
            injection e2 with e2 _
            subst e2
            rcases List.mem_append.1 hm with hm | hm
            · exact hle m hm
            · rw [List.mem_singleton] at hm
              rw [hm]
              exact Int.le_refl _
/-- So the last of them tells it all. -/
theorem opn_last {L : List Int} {q : List Int × Int} (h : InvC L q) (h0 : 0 ≤ q.2) (c : Int) : opn q.1 q.2 c = true ↔ (q.1.drop (q.2 + 1).toNat = [] ∨ ∃ M m, q.1.drop (q.2 + 1).toNat = M ++ [m] ∧ clsZ m < clsZ c) := by
  obtain ⟨i1, i2, _⟩ := h h0
  unfold opn
  rw [decide_eq_true h0, Bool.true_and]
  generalize q.1.drop (q.2 + 1).toNat = M at *
  rcases snoc_cases M with rfl | ⟨M', m, rfl⟩
  · simp
  · constructor
    · intro ha
      have := List.all_eq_true.1 ha m (by simp)
      unfold okM at this
      rw [Bool.and_eq_true] at this
      exact .inr ⟨M', m, rfl, of_decide_eq_true this.2⟩
    · rintro (e | ⟨M2, m2, e, hm⟩)
      · simp at e
      · obtain ⟨_, e2⟩ := List.append_inj' e rfl
        injection e2 with e2 _
        subst e2
        refine List.all_eq_true.2 (fun x hx => ?_)
        unfold okM
        rw [Bool.and_eq_true]
        refine ⟨decide_eq_true (i1 x hx), decide_eq_true ?_⟩
        rcases List.mem_append.1 hx with hx | hx
        · have := of_decide_eq_false ((srt_parts i2).2.2 x hx m (by simp))
          omega
        · rw [List.mem_singleton] at hx
          rw [hx]
          exact hm
end Go.Proofs.YtamigjljgepfiaaGreatDoor
/- The specification's row of points composed. -/
namespace Go.Proofs.YtamigjljgepfiaaGreatDoor
open Go.RowKit
/-- The first i points are composed. -/
def CSt (w wr : World) (L : List Int) (i d : Nat) (st : Int) (g cap : Nat) : Prop := ∃ D, cmpQ (L.take i) = (D, st) ∧ d = D.length ∧ wr.ownsRow w.heap.size 2 1 (.slice (some ⟨g, 0, none⟩) d cap) d (D.map (Value.int .i64)) ∧ Below w.heap.size w wr
theorem own_drewN {w : World} {B n : Nat} {v : Value} {xs : List Value} (h : w.ownsRow B 2 1 v n xs) (m : Nat) : (w.drewN m).ownsRow B 2 1 v n xs := h
theorem cell_at {w : World} {B n g cap : Nat} {D : List Int} (h : w.ownsRow B 2 1 (.slice (some ⟨g, 0, none⟩) n cap) n (D.map (Value.int .i64))) (k : Nat) (hk : k < n) : w.cell? ⟨g, k, none⟩ = some (.int .i64 (nth D k)) := by
  obtain ⟨Bq, s, _, _, _, hn, _⟩ := own_seg h
  exact s.cell0 k (by omega)
theorem set_at {w : World} {B n g cap : Nat} {D : List Int} (h : w.ownsRow B 2 1 (.slice (some ⟨g, 0, none⟩) n cap) n (D.map (Value.int .i64))) (k : Nat) (hk : k < n) (x : Int) : w.frozen? ⟨g, k, none⟩ = false ∧ (w.setCell ⟨g, k, none⟩ (.int .i64 x)).ownsRow B 2 1 (.slice (some ⟨g, 0, none⟩) n cap) n ((D.set k x).map (Value.int .i64)) ∧ ∀ w0, B ≤ w.heap.size → Below B w0 w → Below B w0 (w.setCell ⟨g, k, none⟩ (.int .i64 x)) := by
  obtain ⟨Bq, s, h1, h2, h3, hn, h4⟩ := own_seg h
  have s2 := s.set0 k (by omega) x
  exact ⟨s.frozen0 k, seg_own s2 h1 (by simpa using hn) h4 h3, fun w0 h0 hb => hb.trans (s2.below h0 h1)⟩
theorem all_take {D : List Int} {s k : Nat} {c : Int} (hs : s + 1 ≤ k) (hk : k < D.length) : ((D.take (k + 1)).drop (s + 1)).all (okM c) = (((D.take k).drop (s + 1)).all (okM c) && okM c (nth D k)) := by
  have e : nth D k = D[k] := by simp [nth, List.getD, hk]
  rw [List.take_succ_eq_append_getElem hk, List.drop_append_of_le_length (by rw [List.length_take]; omega), List.all_append, e]
  simp
theorem all_false {D : List Int} {s k : Nat} {c : Int} (h : ((D.take k).drop (s + 1)).all (okM c) = false) : (D.drop (s + 1)).all (okM c) = false := by
  cases e : (D.drop (s + 1)).all (okM c) with
  | false => rfl
  | true =>
    rw [List.drop_take] at h
    have : ((D.drop (s + 1)).take (k - (s + 1))).all (okM c) = true := List.all_eq_true.2 (fun x hx => List.all_eq_true.1 e x (List.mem_of_mem_take hx))
    rw [this] at h
    cases h
set_option maxHeartbeats 8000000 in
set_option maxRecDepth 100000 in
theorem composedS (B0 n g cap : Nat) (L : List Int) (w : World) (ho : w.ownsRow B0 2 1 (.slice (some ⟨g, 0, none⟩) n cap) n (L.map (Value.int .i64))) (hbd : n ≤ 1000000000) :
    Calls Tryz.prog 22 #[.slice (some ⟨g, 0, none⟩) n cap] w fun e w' => NewRow w w' e (cmpQ L).1 := by
  have mixed := mixedO
  obtain ⟨i0, hi, hz0, hz1, hz2⟩ := info_parts info2
  have hn : n = L.length := by have := ho.1; simp at this; exact this.symm
  have hgl := (ho.lt g rfl).2
  have HC : Hid (∀ j, j < n → w.cell? ⟨g, j, none⟩ = some (.int .i64 (nth L j))) := hide (fun j hj => cell_at ho j hj)
  have I0 : Hid (CSt w (w.alloc (.cells #[] 2)) L 0 0 (-1) w.heap.size 0) := hide ⟨[], rfl, rfl, World.ownsRow_lit w #[] 0 (Nat.le_refl _) (by unfold maxLen; omega) rfl, one_below _ _⟩
  have HN := hide hn
  clear ho hn
  go_enter Tryz.func22, Tryz.ntmps22
  go_wp2
  go_loopw [3, 4, 5] (fun sv tv iv wr => ∃ (i d g2 c2 : Nat) (st : Int), i ≤ n ∧ -1 ≤ st ∧ st < d ∧ d ≤ i ∧ sv = .slice (some ⟨g2, 0, none⟩) d c2 ∧ tv = .int .i64 st ∧ iv = .int .i64 i ∧ Hid (CSt w wr L i d st g2 c2)) (fun _ _ iv _ => n - (intOf iv).toNat)
  case atStart => exact ⟨0, 0, w.heap.size, 0, -1, Nat.zero_le _, by omega, by omega, Nat.le_refl _, rfl, rfl, rfl, I0⟩
  case round =>
    obtain ⟨i, d, g2, c2, st, hin, hs1, hs2, hdi, rfl, rfl, rfl, I1⟩ := hrel
    clear I0
    obtain ⟨D, hQ, hd, hO, hB⟩ := unhide I1
    by_cases hlt : i < n
    · have hlt' : (i : Int) < (n : Int) := by omega
      have c0 := (hB.cell (p := ⟨g, i, none⟩) hgl).trans ((unhide HC) i hlt)
      have hsz := hB.size
      have hQ1 : cmpQ (L.take (i + 1)) = stepC (D, st) (nth L i) := by rw [cmpQ_take (by have := unhide HN; omega), hQ]
      obtain ⟨c, hc⟩ : ∃ c, c = nth L i := ⟨_, rfl⟩
      rw [← hc] at hQ1 c0
      have CM := hide (fun W => clsS c W)
      obtain ⟨zc, hzc⟩ : ∃ zc, clsZ c = zc := ⟨_, rfl⟩
      rw [hzc] at CM
      have HZ := hide hzc
      have HD := hide hd
      have PU0 : Hid (¬ (opn D st c = true ∧ 0 ≤ pairP (nth D st.toNat) c) → ∀ (w3 : World) (v' : Value), w3.ownsRow w.heap.size 2 1 v' (d + 1) (D.map (Value.int .i64) ++ [.int .i64 c]) → Below w.heap.size w w3 → (v' = .slice none 0 0 → False) → ∃ g3 c3, v' = .slice (some ⟨g3, 0, none⟩) (d + 1) c3 ∧ ∀ st', st' = (if clsZ c = 0 then (d : Int) else st) → CSt w w3 L (i + 1) (d + 1) st' g3 c3) := hide (fun hno w3 v' ho hb hv => by
        unfold stepC at hQ1
        rw [if_neg hno] at hQ1
        obtain ⟨g3, c3, rfl⟩ : ∃ g3 c3, v' = .slice (some ⟨g3, 0, none⟩) (d + 1) c3 := by
          rcases ho.2 with ⟨h1, _⟩ | ⟨g3, c3, _, h1, _⟩
          · exact (hv h1).elim
          · exact ⟨g3, c3, h1⟩
        refine ⟨g3, c3, rfl, fun st' hst => ⟨D ++ [c], by rw [hQ1, hst, hd], by simp; exact hd, ?_, hb⟩⟩
        rw [List.map_append]
        exact ho)
      have PC0 : Hid (∀ s : Nat, st = (s : Int) → opn D st c = true → ∀ x, x = pairP (nth D s) c → 0 ≤ x → ∀ (w3 : World), w3.ownsRow w.heap.size 2 1 (.slice (some ⟨g2, 0, none⟩) d c2) d ((D.set s x).map (Value.int .i64)) → Below w.heap.size w w3 → CSt w w3 L (i + 1) d st g2 c2) := hide (fun s hs hop x hx h0 w3 ho hb => by
        subst hs
        unfold stepC at hQ1
        rw [if_pos ⟨hop, by rw [Int.toNat_natCast, ← hx]; exact h0⟩] at hQ1
        refine ⟨D.set s x, by rw [hQ1, Int.toNat_natCast, ← hx], by simpa using hd, ho, hb⟩)
      have OW := hide hO
      have BW := hide hB
      clear hQ1 hc hzc hd hO hB hQ I1
      go_wp2_with fail
      refine ((unhide CM) _).mono ?_
      rintro e' wx ⟨rfl, rfl⟩
      clear CM c0
      by_cases hst : st = -1
      · subst hst
        have PU := hide ((unhide PU0) (fun h => by have := h.1; unfold opn at this; simp at this))
        clear PU0 PC0
        have HW : Hid (∀ W, W = wx → W = wx) := hide (fun _ h => h)
        go_wp2
        go_loopw [8, 9] (fun ov kv wr => ov = .bool false ∧ kv = .int .i64 0 ∧ wr = wx) (fun _ _ _ => 0)
        case atStart => exact ⟨rfl, rfl, rfl⟩
        case round =>
          obtain ⟨rfl, rfl, hw⟩ := hrel
          subst hw
          clear HW
          obtain ⟨st, hst⟩ : ∃ st : Int, st = -1 := ⟨_, rfl⟩
          rw [← hst] at PU ⊢
          have hs1 : -1 ≤ st := by omega
          have hs2 : st < d := by omega
          clear hst
          generalize hwx : wr = wx at *
          clear hwx
          go_wp2_with (at_builtin; refine wpList_append_own _ rfl _ _ 27 rfl w.heap.size 2 i0 (.int .i64 0) 1 8 Tryz.underlying27 hi hz0 hz1 hz2 rfl (by decide) _ _ _ rfl (World.ownsRow.alloc (unhide OW) _) ⟨wx.heap.size, 0, none⟩ 1 1 [.int .i64 c] rfl rfl ?c1 ?c2 ?c3 ?c4 ?c5 ?_)
          case c1 => exact cell_one_new _ _ _
          case c2 =>
            intro x hx
            rw [List.mem_singleton] at hx
            rw [hx]
            rfl
          case c3 => unfold maxLen; omega
          case c4 => omega
          case c5 => simp; omega
          intro v' w3 hown' hgrow hnone
          have B3 : Below w.heap.size w w3 := ((unhide BW).trans ((one_below wx (.cells #[.int .i64 c] 2)).mono hsz)).grown hgrow (by simp; omega) (fun m hm => ((unhide OW).lt m (by simpa [Value.ownBlock] using hm)).1)
          obtain ⟨g3, c3, rfl, H3⟩ := (unhide PU) w3 v' hown' B3 (by simpa using hnone)
          have H4 := hide H3
          clear hown' hgrow hnone B3 H3 PU OW BW
          by_cases hz : clsZ c = 0
          · have F4 := hide ((unhide H4) (d : Int) (by rw [if_pos hz]))
            have hzc : (zc == 0) = true := by rw [beq_iff_eq, ← unhide HZ]; exact hz
            clear H4 HZ hz
            go_wp2
            go_roundw
            case rel => exact ⟨i + 1, d + 1, g3, c3, (d : Int), by omega, by omega, by omega, by omega, rfl, by go_num, by go_num, F4⟩
            case measure => simp [intOf]; omega
          · have F4 := hide ((unhide H4) st (by rw [if_neg hz]))
            have hzc : (zc == 0) = false := by rw [beq_eq_false_iff_ne, ← unhide HZ]; exact hz
            clear H4 HZ hz
            go_wp2
            go_roundw
            case rel => exact ⟨i + 1, d + 1, g3, c3, st, by omega, by omega, by omega, by omega, rfl, rfl, by go_num, F4⟩
            case measure => simp [intOf]; omega
      · obtain ⟨s, rfl⟩ : ∃ s : Nat, st = (s : Int) := ⟨st.toNat, by omega⟩
        have hsd : s < d := by omega
        have hss : (0 : Int) ≤ (s : Int) := by omega
        have hsn : ((s : Int) + 1).toNat = s + 1 := by omega
        have HOp : Hid (∀ k o, o = ((D.take k).drop (s + 1)).all (okM c) → (o = false ∨ k = d) → opn D (s : Int) c = o) := hide (fun k o ho hk => by
          unfold opn
          rw [decide_eq_true hss, Bool.true_and, hsn]
          rcases hk with hk | hk
          · rw [hk] at ho ⊢
            exact all_false ho.symm
          · rw [ho, hk, unhide HD, List.take_length])
        have HA0 : Hid (true = ((D.take (s + 1)).drop (s + 1)).all (okM c)) := hide (by
          rw [List.drop_eq_nil_iff.2 (by rw [List.length_take]; omega)]
          rfl)
        have HP : Hid (∀ W, Calls Tryz.prog 45 #[.int .i64 (nth D s), .int .i64 c] W fun e w' => e = .returned (.int .i64 (pairP (nth D s) c)) ∧ w' = W) := hide (fun W => pairS _ _ W)
        clear hsn hst
        go_wp2
        go_loopw [8, 9] (fun ov kv wr => ∃ (k m : Nat) (o : Bool), s + 1 ≤ k ∧ k ≤ d ∧ ov = .bool o ∧ kv = .int .i64 k ∧ wr = wx.drewN m ∧ Hid (o = ((D.take k).drop (s + 1)).all (okM c))) (fun _ kv _ => d - (intOf kv).toNat)
        case atStart => exact ⟨s + 1, 0, true, Nat.le_refl _, by omega, rfl, by go_num, rfl, HA0⟩
        case round =>
          obtain ⟨k, m, o, hk1, hk2, rfl, rfl, rfl, HA⟩ := hrel
          clear HA0
          cases o with
          | false =>
            have hop := (unhide HOp) k false (unhide HA) (.inl rfl)
            have PU := hide ((unhide PU0) (fun h => by rw [hop] at h; cases h.1))
            have OW2 := hide (own_drewN (unhide OW) m)
            have BW2 := hide (bdrew (unhide BW) m)
            have hsz2 : w.heap.size ≤ (wx.drewN m).heap.size := hsz
            clear PU0 PC0 OW BW hsz HOp HA hop HP
            have OW := OW2
            have BW := BW2
            have hsz := hsz2
            clear OW2 BW2 hsz2
            generalize wx.drewN m = wx at *
            have hsd' : (s : Int) < (d : Int) := by omega
            generalize ((s : Nat) : Int) = st at *
            go_wp2_with (at_builtin; refine wpList_append_own _ rfl _ _ 27 rfl w.heap.size 2 i0 (.int .i64 0) 1 8 Tryz.underlying27 hi hz0 hz1 hz2 rfl (by decide) _ _ _ rfl (World.ownsRow.alloc (unhide OW) _) ⟨wx.heap.size, 0, none⟩ 1 1 [.int .i64 c] rfl rfl ?c1 ?c2 ?c3 ?c4 ?c5 ?_)
            case c1 => exact cell_one_new _ _ _
            case c2 =>
              intro x hx
              rw [List.mem_singleton] at hx
              rw [hx]
              rfl
            case c3 => unfold maxLen; omega
            case c4 => omega
            case c5 => simp; omega
            intro v' w3 hown' hgrow hnone
            have B3 : Below w.heap.size w w3 := ((unhide BW).trans ((one_below wx (.cells #[.int .i64 c] 2)).mono hsz)).grown hgrow (by simp; omega) (fun m hm => ((unhide OW).lt m (by simpa [Value.ownBlock] using hm)).1)
            obtain ⟨g3, c3, rfl, H3⟩ := (unhide PU) w3 v' hown' B3 (by simpa using hnone)
            have H4 := hide H3
            clear hown' hgrow hnone B3 H3 PU OW BW
            by_cases hz : clsZ c = 0
            · have F4 := hide ((unhide H4) (d : Int) (by rw [if_pos hz]))
              have hzc : (zc == 0) = true := by rw [beq_iff_eq, ← unhide HZ]; exact hz
              clear H4 HZ hz
              go_wp2
              go_roundw
              case rel => exact ⟨i + 1, d + 1, g3, c3, (d : Int), by omega, by omega, by omega, by omega, rfl, by go_num, by go_num, F4⟩
              case measure => simp [intOf]; omega
            · have F4 := hide ((unhide H4) st (by rw [if_neg hz]))
              have hzc : (zc == 0) = false := by rw [beq_eq_false_iff_ne, ← unhide HZ]; exact hz
              clear H4 HZ hz
              go_wp2
              go_roundw
              case rel => exact ⟨i + 1, d + 1, g3, c3, st, by omega, by omega, by omega, by omega, rfl, rfl, by go_num, F4⟩
              case measure => simp [intOf]; omega
          | true =>
            by_cases hkd : k < d
            · have hkd' : (k : Int) < (d : Int) := by omega
              obtain ⟨x, hx⟩ : ∃ x, x = nth D k := ⟨_, rfl⟩
              have ck : (wx.drewN m).cell? ⟨g2, k, none⟩ = some (.int .i64 x) := by rw [hx]; exact cell_at (unhide OW) k hkd
              obtain ⟨zx, hzx⟩ : ∃ zx, clsZ x = zx := ⟨_, rfl⟩
              have CX := hide (fun W => clsS x W)
              rw [hzx] at CX
              have HA2 : Hid (∀ o, o = okM c x → o = ((D.take (k + 1)).drop (s + 1)).all (okM c)) := hide (fun o ho => by
                rw [all_take hk1 (by have := unhide HD; omega), ← unhide HA, Bool.true_and, ← hx]
                exact ho)
              obtain ⟨w2, hw2⟩ : ∃ w2, w2 = wx.drewN m := ⟨_, rfl⟩
              rw [← hw2] at ck ⊢
              have HW2 := hide hw2
              have HX := hide hzx
              clear HA hx hzx HP hw2
              by_cases hA : zx = 0
              · have tA : (zx != 0) = false := by simp [hA]
                have HA3 := hide ((unhide HA2) false (by unfold okM; rw [unhide HX, decide_eq_false (fun h => h hA)]; rfl))
                clear HA2 HX hA
                go_wp2_with (go_at_call 44; refine ((unhide CX) _).mono ?_; rintro e' w5 ⟨rfl, rfl⟩)
                go_roundw
                case rel => exact ⟨k + 1, m, false, by omega, by omega, rfl, by go_num, unhide HW2, HA3⟩
                case measure => simp [intOf]; omega
              · have tA : (zx != 0) = true := by simp [hA]
                by_cases hL : zx < zc
                · have HA3 := hide ((unhide HA2) true (by unfold okM; rw [unhide HX, unhide HZ, decide_eq_true hA, decide_eq_true hL]; rfl))
                  clear HA2 HX hA
                  go_wp2_with (go_at_call 44; refine ((unhide CX) _).mono ?_; rintro e' w5 ⟨rfl, rfl⟩)
                  go_roundw
                  case rel => exact ⟨k + 1, m, true, by omega, by omega, rfl, by go_num, unhide HW2, HA3⟩
                  case measure => simp [intOf]; omega
                · have HA3 := hide ((unhide HA2) false (by unfold okM; rw [unhide HX, unhide HZ, decide_eq_true hA, decide_eq_false hL]; rfl))
                  clear HA2 HX hA
                  go_wp2_with (go_at_call 44; refine ((unhide CX) _).mono ?_; rintro e' w5 ⟨rfl, rfl⟩)
                  go_roundw
                  case rel => exact ⟨k + 1, m, false, by omega, by omega, by rw [decide_eq_false (by omega)], by go_num, unhide HW2, HA3⟩
                  case measure => simp [intOf]; omega
            · obtain rfl : k = d := by omega
              have hkd' : ¬ (k : Int) < (k : Int) := by omega
              have hop := (unhide HOp) k true (unhide HA) (.inr rfl)
              have OW2 := hide (own_drewN (unhide OW) m)
              have BW2 := hide (bdrew (unhide BW) m)
              have hsz2 : w.heap.size ≤ (wx.drewN m).heap.size := hsz
              have PC := hide ((unhide PC0) s rfl hop)
              have PU1 : Hid (¬ 0 ≤ pairP (nth D s) c → _) := hide (fun hno => (unhide PU0) (fun h => hno (by have := h.2; rwa [Int.toNat_natCast] at this)))
              clear PU0 PC0 OW BW hsz HOp HA hop
              have OW := OW2
              have BW := BW2
              have hsz := hsz2
              clear OW2 BW2 hsz2
              generalize wx.drewN m = wx at *
              have cs := cell_at (unhide OW) s hsd
              obtain ⟨pv, hpv⟩ : ∃ pv, pv = pairP (nth D s) c := ⟨_, rfl⟩
              rw [← hpv] at HP PU1
              have HPV := hide hpv
              by_cases hp : 0 ≤ pv
              · obtain ⟨f1, o1, b1⟩ := set_at (unhide OW) s hsd pv
                have F4 := hide ((unhide PC) pv hpv hp _ o1 (b1 w hsz (unhide BW)))
                clear PU1 PC o1 b1 hpv HPV OW BW
                generalize nth D s = y at *
                go_wp2_with fail
                refine ((unhide HP) _).mono ?_
                rintro e' w4 ⟨rfl, rfl⟩
                clear HP
                go_wp2
                go_roundw
                case rel => exact ⟨i + 1, k, g2, c2, (s : Int), by omega, by omega, by omega, by omega, rfl, rfl, by go_num, F4⟩
                case measure => simp [intOf]; omega
              · have PU := hide ((unhide PU1) hp)
                clear PU1 PC hpv HPV
                generalize nth D s = y at *
                go_wp2_with fail
                refine ((unhide HP) _).mono ?_
                rintro e' wx ⟨rfl, rfl⟩
                clear HP cs
                have hsd' : (s : Int) < (k : Int) := by omega
                generalize ((s : Nat) : Int) = st at *
                obtain ⟨d, hdk⟩ : ∃ d, d = k := ⟨_, rfl⟩
                subst hdk
                go_wp2_with (at_builtin; refine wpList_append_own _ rfl _ _ 27 rfl w.heap.size 2 i0 (.int .i64 0) 1 8 Tryz.underlying27 hi hz0 hz1 hz2 rfl (by decide) _ _ _ rfl (World.ownsRow.alloc (unhide OW) _) ⟨wx.heap.size, 0, none⟩ 1 1 [.int .i64 c] rfl rfl ?c1 ?c2 ?c3 ?c4 ?c5 ?_)
                case c1 => exact cell_one_new _ _ _
                case c2 =>
                  intro x hx
                  rw [List.mem_singleton] at hx
                  rw [hx]
                  rfl
                case c3 => unfold maxLen; omega
                case c4 => omega
                case c5 => simp; omega
                intro v' w3 hown' hgrow hnone
                have B3 : Below w.heap.size w w3 := ((unhide BW).trans ((one_below wx (.cells #[.int .i64 c] 2)).mono hsz)).grown hgrow (by simp; omega) (fun m hm => ((unhide OW).lt m (by simpa [Value.ownBlock] using hm)).1)
                obtain ⟨g3, c3, rfl, H3⟩ := (unhide PU) w3 v' hown' B3 (by simpa using hnone)
                have H4 := hide H3
                clear hown' hgrow hnone B3 H3 PU OW BW
                by_cases hz : clsZ c = 0
                · have F4 := hide ((unhide H4) (d : Int) (by rw [if_pos hz]))
                  have hzc : (zc == 0) = true := by rw [beq_iff_eq, ← unhide HZ]; exact hz
                  clear H4 HZ hz
                  go_wp2
                  go_roundw
                  case rel => exact ⟨i + 1, d + 1, g3, c3, (d : Int), by omega, by omega, by omega, by omega, rfl, by go_num, by go_num, F4⟩
                  case measure => simp [intOf]; omega
                · have F4 := hide ((unhide H4) st (by rw [if_neg hz]))
                  have hzc : (zc == 0) = false := by rw [beq_eq_false_iff_ne, ← unhide HZ]; exact hz
                  clear H4 HZ hz
                  go_wp2
                  go_roundw
                  case rel => exact ⟨i + 1, d + 1, g3, c3, st, by omega, by omega, by omega, by omega, rfl, rfl, by go_num, F4⟩
                  case measure => simp [intOf]; omega
    · obtain rfl : i = n := by omega
      have hlt' : ¬ (i : Int) < (i : Int) := by omega
      go_wp2
      go_ret
      rw [unhide HN, List.take_length] at hQ
      rw [hQ]
      refine ⟨_, rfl, ?_, hB⟩
      rw [← hd]
      exact hO
end Go.Proofs.YtamigjljgepfiaaGreatDoor
/- The law of Decompose. -/
namespace Go.Proofs.YtamigjljgepfiaaGreatDoor
open Go.RowKit
theorem isPointS' (p : Int) (w : World) : Calls Tryz.prog 47 #[.int .i64 p] w fun e w' => e = .returned (.bool (isP p)) ∧ w' = w := by
  by_cases h1 : 0 ≤ p
  · by_cases h2 : p ≤ 1114111
    · by_cases h3 : p < 55296
      · have HP : Hid (isP p = true) := hide (decide_eq_true (by omega))
        go_enter Tryz.func47, Tryz.ntmps47
        go_wp2
        go_ret
        exact ⟨ret_bool (unhide HP).symm, rfl⟩
      · by_cases h4 : 57343 < p
        · have HP : Hid (isP p = true) := hide (decide_eq_true (by omega))
          go_enter Tryz.func47, Tryz.ntmps47
          go_wp2
          go_ret
          exact ⟨ret_bool (unhide HP).symm, rfl⟩
        · have HP : Hid (isP p = false) := hide (decide_eq_false (by omega))
          go_enter Tryz.func47, Tryz.ntmps47
          go_wp2
          go_ret
          exact ⟨ret_bool (unhide HP).symm, rfl⟩
    · have HP : Hid (isP p = false) := hide (decide_eq_false (by omega))
      go_enter Tryz.func47, Tryz.ntmps47
      go_wp2
      go_ret
      exact ⟨ret_bool (unhide HP).symm, rfl⟩
  · have HP : Hid (isP p = false) := hide (decide_eq_false (by omega))
    go_enter Tryz.func47, Tryz.ntmps47
    go_wp2
    go_ret
    exact ⟨ret_bool (unhide HP).symm, rfl⟩
theorem isKS (f : Int) (w : World) (h : isF f = true) : Calls Tryz.prog 19 #[.int .i64 f] w fun e w' => e = .returned (.bool (isK f)) ∧ w' = w := by
  have hb := of_decide_eq_true h
  by_cases h1 : 3 ≤ f
  · have HP : Hid (isK f = true) := hide (decide_eq_true (by omega))
    go_enter Tryz.func19, Tryz.ntmps19
    go_wp2
    go_ret
    exact ⟨ret_bool (unhide HP).symm, rfl⟩
  · have HP : Hid (isK f = false) := hide (decide_eq_false (by omega))
    go_enter Tryz.func19, Tryz.ntmps19
    go_wp2
    go_ret
    exact ⟨ret_bool (unhide HP).symm, rfl⟩
theorem decL_len (p form : Int) : (decL p form).length ≤ 4 := by
  unfold decL
  split
  · exact (allF_len _ 2 p).2
  · simp
end Go.Proofs.YtamigjljgepfiaaGreatDoor
/- The specification's normal form of points. -/
namespace Go.Proofs.YtamigjljgepfiaaGreatDoor
open Go.RowKit
def nrmA (k : Bool) (l : List Int) : List Int := l.flatMap (allF k 2)
def isC (f : Int) : Bool := decide (f = 2 ∨ f = 4)
/-- Points in a form. -/
def nrmL (f : Int) (l : List Int) : List Int := if isC f = true then (cmpQ (ordL (nrmA (isK f) l))).1 else ordL (nrmA (isK f) l)
theorem nrmA_len (k : Bool) : ∀ (l : List Int), (nrmA k l).length ≤ 4 * l.length
  | [] => by simp [nrmA]
  | x :: l => by
    have h1 := nrmA_len k l
    have h2 := (allF_len k 2 x).2
    have h3 : nrmA k (x :: l) = allF k 2 x ++ nrmA k l := by simp [nrmA]
    rw [h3, List.length_append, List.length_cons]
    omega
theorem isCS (f : Int) (w : World) (h : isF f = true) : Calls Tryz.prog 21 #[.int .i64 f] w fun e w' => e = .returned (.bool (isC f)) ∧ w' = w := by
  have hf := of_decide_eq_true h
  obtain rfl | rfl | rfl | rfl : f = 1 ∨ f = 2 ∨ f = 3 ∨ f = 4 := by omega
  all_goals
    go_enter Tryz.func21, Tryz.ntmps21
    go_wp2
    go_ret
    exact ⟨rfl, rfl⟩
theorem nums_oneN (l : List Int) : ∀ u ∈ l.map (Value.int .i64), u.oneCell' = true := fun u hu => by
  obtain ⟨z, _, rfl⟩ := List.mem_map.1 hu
  rfl
theorem row_src {w : World} {B g n cap : Nat} {L : List Int} (h : w.ownsRow B 2 1 (.slice (some ⟨g, 0, none⟩) n cap) n (L.map (Value.int .i64))) : ∀ j u, (L.map (Value.int .i64))[j]? = some u → w.cell? ((⟨g, 0, none⟩ : Addr).add j) = some u := fun j u hj => by
  have hl : n = L.length := by have := h.1; simp at this; exact this.symm
  have hm : j < L.length := by
    have := (List.getElem?_eq_some_iff.1 hj).1
    simpa using this
  rw [addr_add, Nat.zero_add, h.cellAt j (by omega)]
  exact hj
theorem row_down {w : World} {B B' n : Nat} {v : Value} {xs : List Value} (h : w.ownsRow B 2 1 v n xs) (hb : B' ≤ B) : w.ownsRow B' 2 1 v n xs := by
  refine ⟨h.1, ?_⟩
  rcases h.2 with h' | ⟨g, cap, cur, hv, hg, r⟩
  · exact .inl h'
  · exact .inr ⟨g, cap, cur, hv, Nat.le_trans hb hg, r⟩
theorem composedNone (a : Option Addr) (cap : Nat) (w : World) : Calls Tryz.prog 22 #[.slice a 0 cap] w fun e w' => NewRow w w' e [] := by
  have O0 : Hid (NewRow w (w.alloc (.cells #[] 2)) (.returned (.slice (some ⟨w.heap.size, 0, none⟩) 0 0)) []) := hide ⟨_, rfl, World.ownsRow_lit w #[] 0 (Nat.le_refl _) (by unfold maxLen; omega) rfl, one_below _ _⟩
  go_enter Tryz.func22, Tryz.ntmps22
  go_wp2
  go_loopw [3, 4, 5] (fun sv tv iv wr => sv = .slice (some ⟨w.heap.size, 0, none⟩) 0 0 ∧ tv = .int .i64 (-1) ∧ iv = .int .i64 0 ∧ wr = w.alloc (.cells #[] 2)) (fun _ _ _ _ => 0)
  case atStart => exact ⟨rfl, rfl, rfl, rfl⟩
  case round =>
    obtain ⟨rfl, rfl, rfl, rfl⟩ := hrel
    go_wp2
    go_ret
    exact unhide O0
theorem composedRow (B0 n : Nat) (a : Option Addr) (cap : Nat) (L : List Int) (w : World) (ho : w.ownsRow B0 2 1 (.slice a n cap) n (L.map (Value.int .i64))) (hbd : n ≤ 1000000000) :
    Calls Tryz.prog 22 #[.slice a n cap] w fun e w' => NewRow w w' e (cmpQ L).1 := by
  have hn : n = L.length := by have := ho.1; simp at this; exact this.symm
  by_cases h0 : n = 0
  · obtain rfl : L = [] := List.length_eq_zero_iff.1 (by omega)
    subst h0
    exact composedNone a cap w
  · obtain ⟨g, c, hv⟩ := own_pos ho (by omega)
    injection hv with hv1 _ hv3
    subst hv1 hv3
    exact composedS B0 n g cap L w ho hbd
set_option maxHeartbeats 4000000 in
set_option maxRecDepth 100000 in
theorem normS (form : Int) (B0 n : Nat) (v : Value) (L : List Int) (w : World) (ho : w.ownsRow B0 2 1 v n (L.map (Value.int .i64))) (hp : ∀ p ∈ L, 0 ≤ p ∧ p ≤ 1114111) (hf : isF form = true) (hbd : n ≤ 131072) :
    Calls Tryz.prog 7 #[.int .i64 form, v] w fun e w' => NewRow w w' e (nrmL form L) := by
  have mixed := mixedO
  obtain ⟨i0, hi, hz0, hz1, hz2⟩ := info_parts info2
  have hn : n = L.length := by have := ho.1; simp at this; exact this.symm
  obtain ⟨a, cap, rfl⟩ := form_ownI ho
  obtain ⟨k, hk⟩ : ∃ k, k = isK form := ⟨_, rfl⟩
  have CK : Hid (∀ W, Calls Tryz.prog 19 #[.int .i64 form] W fun e w' => e = .returned (.bool k) ∧ w' = W) := hide (fun W => by rw [hk]; exact isKS form W hf)
  have CC := hide (fun W => isCS form W hf)
  have HO := hide ho
  have HN := hide hn
  have HK := hide hk
  have HPt : Hid (∀ j, j < n → 0 ≤ nth L j ∧ nth L j ≤ 1114111) := hide (fun j hj => by
    have e : nth L j = L[j]'(by omega) := by simp [nth, List.getD, show j < L.length by omega]
    rw [e]
    exact hp _ (List.getElem_mem _))
  have O0 : Hid ((w.alloc (.cells #[] 2)).ownsRow w.heap.size 2 1 (.slice (some ⟨w.heap.size, 0, none⟩) 0 0) 0 ((nrmA k (L.take 0)).map (Value.int .i64))) := hide (World.ownsRow_lit w #[] 0 (Nat.le_refl _) (by unfold maxLen; omega) rfl)
  have W0 : Hid (Below w.heap.size w (w.alloc (.cells #[] 2))) := hide (one_below _ _)
  clear ho hn hp hf hk
  go_enter Tryz.func7, Tryz.ntmps7
  go_wp2
  go_loopw [5, 6] (fun sv iv wr => ∃ (i d g2 c2 : Nat), i ≤ n ∧ d ≤ 4 * i ∧ sv = .slice (some ⟨g2, 0, none⟩) d c2 ∧ iv = .int .i64 i ∧ Hid (wr.ownsRow w.heap.size 2 1 (.slice (some ⟨g2, 0, none⟩) d c2) d ((nrmA k (L.take i)).map (Value.int .i64))) ∧ Hid (Below w.heap.size w wr)) (fun _ iv _ => n - (intOf iv).toNat)
  case atStart => exact ⟨0, 0, w.heap.size, 0, Nat.zero_le _, Nat.le_refl _, rfl, rfl, O0, W0⟩
  case round =>
    obtain ⟨i, d, g2, c2, hin, hd4, rfl, rfl, HR, HB⟩ := hrel
    clear O0 W0
    by_cases hlt : i < n
    · have hlt' : (i : Int) < (n : Int) := by omega
      obtain ⟨g, c1, hv⟩ := own_pos (unhide HO) (by omega)
      injection hv with hv1 _ hv3
      subst hv1 hv3
      have hgl := ((unhide HO).lt g rfl).2
      have c0 := ((unhide HB).cell (p := ⟨g, i, none⟩) hgl).trans (cell_at (unhide HO) i hlt)
      have CA := hide (fun W => allS k 2 (Nat.le_refl _) (nth L i) W (all_deep k _) ((unhide HPt) i hlt))
      have HT : Hid (nrmA k (L.take (i + 1)) = nrmA k (L.take i) ++ allF k 2 (nth L i)) := hide (flat_take k 2 L i (by have := unhide HN; omega))
      have hxl := allF_len k 2 (nth L i)
      have hx1 := hxl.1
      have hx2 : (allF k 2 (nth L i)).length ≤ 4 := hxl.2
      have hbs := (unhide HB).size
      clear hxl
      generalize allF k 2 (nth L i) = xs at *
      generalize nth L i = y at *
      generalize nrmA k (L.take i) = ys at *
      go_upto_region 5 with fail
      go_region_law (first
        | (refine step_call rfl 19 #[.tmp 19] #[2] rfl #[.int .i64 form] (by simp [Act.eval, Act.put]) (by kernel_rfl) (((unhide CK) _).mono ?_); rintro e w2 ⟨rfl, rfl⟩; refine ⟨_, rfl, ?_⟩)
        | (refine step_call rfl 18 #[.tmp 18, .tmp 20] #[2, 4] rfl #[.int .i64 y, .bool k] (by simp [Act.eval]) (by kernel_rfl) (((unhide CA) _).mono ?_); rintro e w2 ⟨u, rfl, ho2, hb2⟩; obtain ⟨g3, c3, hu⟩ := own_pos ho2 hx1; subst hu; have HO3 := hide ho2; have HR3 := hide (ownsRow_below (own_drewN (unhide HR) 1) hb2); have HB3 := hide ((bdrew (unhide HB) 1).trans (hb2.mono hbs)); have hs3 : wr.heap.size ≤ w2.heap.size := hb2.size; clear ho2 hb2; refine ⟨_, rfl, ?_⟩)
        | (refine step_append_own rfl (.tmp 14) (.tmp 21) 27 rfl w.heap.size 2 i0 (.int .i64 0) 1 8 Tryz.underlying27 hi hz0 hz1 hz2 rfl (by decide) (.slice (some ⟨g2, 0, none⟩) d c2) d (ys.map (Value.int .i64)) (by simp [Act.eval]) (unhide HR3) ⟨g3, 0, none⟩ xs.length c3 (xs.map (Value.int .i64)) (by simp [Act.eval]) (by simp) (row_src (unhide HO3)) (nums_oneN _) (by unfold maxLen; omega) (by omega) (by omega) ?_; intro v' w3 hown' hgrow))
      all_goals
        obtain ⟨g4, c4, hv'⟩ := own_pos hown' (by omega)
        subst hv'
        have R4 : Hid (w3.ownsRow w.heap.size 2 1 (.slice (some ⟨g4, 0, none⟩) (d + xs.length) c4) (d + xs.length) ((nrmA k (L.take (i + 1))).map (Value.int .i64))) := hide (by rw [unhide HT, List.map_append]; exact hown')
        have B4 : Hid (Below w.heap.size w w3) := hide ((unhide HB3).grown hgrow (by omega) (fun m hm => ((unhide HR3).lt m hm).1))
        clear hown' hgrow HR3 HB3 HO3
        go_wp2
        go_roundw
        case rel => exact ⟨i + 1, d + xs.length, g4, c4, by omega, by omega, rfl, by go_num, R4, B4⟩
        case measure => simp [intOf]; omega
    · obtain rfl : i = n := by omega
      have hlt' : ¬ (i : Int) < (i : Int) := by omega
      have HR1 := unhide HR
      rw [show L.take i = L from by rw [unhide HN, List.take_length]] at HR1
      have CO := hide (orderedS w.heap.size d g2 c2 (nrmA k L) wr HR1 (by omega))
      have hdl : (ordL (nrmA k L)).length ≤ 600000 := by
        rw [ordL_len]
        have := nrmA_len k L
        have := unhide HN
        omega
      have HE1 : Hid (isC form = true → (cmpQ (ordL (nrmA k L))).1 = nrmL form L) := hide (fun h => by rw [nrmL, if_pos h, unhide HK])
      have HE2 : Hid (isC form = false → ordL (nrmA k L) = nrmL form L) := hide (fun h => by rw [nrmL, if_neg (by rw [h]; simp), unhide HK])
      clear HR HR1 HPt CK
      generalize ordL (nrmA k L) = Z at *
      go_wp2_with fail
      refine (unhide CO).mono ?_
      rintro e w2 ⟨u, rfl, ho2, hb2⟩
      obtain ⟨a2, cap2, rfl⟩ := form_ownI ho2
      have HO2 := hide ho2
      have B2 := hide ((unhide HB).trans (hb2.mono (unhide HB).size))
      have CP := hide (composedRow wr.heap.size Z.length a2 cap2 Z w2 ho2 (by omega))
      have hbw := (unhide HB).size
      clear ho2 hb2 CO HB
      cases hc : isC form with
      | false =>
        have F : Hid (NewRow w w2 (.returned (.slice a2 Z.length cap2)) (nrmL form L)) := hide (by
          rw [← (unhide HE2) hc]
          exact ⟨_, rfl, row_down (unhide HO2) hbw, unhide B2⟩)
        rw [hc] at CC
        clear HE1 HE2 HO2 B2 CP hc
        generalize Z.length = zl at *
        go_wp2_with (go_at_call 21; refine ((unhide CC) _).mono ?_; rintro e w3 ⟨rfl, rfl⟩)
        go_ret
        exact unhide F
      | true =>
        have F : Hid (∀ e w', NewRow w2 w' e (cmpQ Z).1 → NewRow w w' e (nrmL form L)) := hide (fun e w' h => by
          rw [← (unhide HE1) hc]
          exact newRow_from h (unhide B2))
        rw [hc] at CC
        clear HE1 HE2 HO2 B2 hc
        generalize Z.length = zl at *
        generalize (cmpQ Z).1 = Y at *
        go_wp2_with (first | (go_at_call 21; refine ((unhide CC) _).mono ?_; rintro e w3 ⟨rfl, rfl⟩) | (go_at_call 22; refine (unhide CP).mono ?_; rintro e w4 ⟨v4, rfl, hn4⟩))
        go_ret
        exact (unhide F) _ _ ⟨_, rfl, hn4⟩
end Go.Proofs.YtamigjljgepfiaaGreatDoor
/- The program's row of points composed, in place. -/
namespace Go.Proofs.YtamigjljgepfiaaGreatDoor
open Go.RowKit
theorem blockedNone (b : Option Addr) (cap : Nat) (z : Int) (w : World) : Calls Tryz.prog 57 #[.slice b 0 cap, .int .i64 z] w fun e w' => e = .returned (.bool false) ∧ w' = w := by
  go_enter Tryz.func57, Tryz.ntmps57
  go_wp2
  go_ret
  exact ⟨rfl, rfl⟩
set_option maxRecDepth 100000 in
theorem blockedAt (g o n m cap : Nat) (x z : Int) (w : World) (hm : m = n + 1) (hn : n ≤ 1000000000) (hc : w.cell? ⟨g, o + n, none⟩ = some (.int .i64 x)) : Calls Tryz.prog 57 #[.slice (some ⟨g, o, none⟩) m cap, .int .i64 z] w fun e w' => e = .returned (.bool (decide (z ≤ clsZ x))) ∧ w' = w := by
  have C := hide (fun W => markI x W)
  have zm : (m : Int) - 1 = (n : Int) := by omega
  have hp : (0 : Int) < (m : Int) := by omega
  have hlt : n < m := by omega
  have hlt' : (n : Int) < (m : Int) := by omega
  have hmb : m ≤ 1000000001 := by omega
  clear hm
  obtain ⟨y, hy⟩ : ∃ y, clsZ x = y := ⟨_, rfl⟩
  rw [hy] at C ⊢
  clear hy
  go_enter Tryz.func57, Tryz.ntmps57
  go_wp2_with (go_at_call 55; refine ((unhide C) _).mono ?_; rintro e' w2 ⟨rfl, rfl⟩)
  go_ret
  exact ⟨rfl, rfl⟩
theorem Seg.alloc {w : World} {g : Nat} {B : List Value} {X : List Int} (h : Seg w w g [] X B) (o : Obj) : Seg (w.alloc o) (w.alloc o) g [] X B := ⟨(alloc_block _ _ h.lt).trans h.fu, grown_refl _ _⟩
set_option maxRecDepth 100000 in
theorem wpList_roomI (w : World) {ops : Array Oper} {rest : List Oper} {o : Oper} {a : Act} {Q : Exit → Act → World → Prop} (hgd : o.guard = none) (s x : Operand)
    (ho : o.op = .call { callee := .builtin .append, args := #[s, x], argTypes := #[27, 27] }) (g d cap : Nat) (X : List Int) (Bq : List Value) (S : Seg w w g [] X Bq) (hs : a.eval s = .slice (some ⟨g, 0, none⟩) d cap)
    (ad : Addr) (c : Int) (hx : a.eval x = .slice (some ad) 1 1) (hc : w.cell? ad = some (.int .i64 c)) (hd : d < X.length) (hcap : d + 1 ≤ cap)
    (h : ∀ w', Seg w' w' g [] (X.set d c) Bq → w.grownBy w' (some g) → wpList Tryz.prog ops Q rest (a.put o.dst (.slice (some ⟨g, 0, none⟩) (d + 1) cap)) w') : wpList Tryz.prog ops Q (o :: rest) a w := by
  obtain ⟨i0, hi, hz0, hz1, hz2⟩ := info_parts info2
  refine wpList_plain hgd fun K hK => ?_
  have hr := run_append_room (P := Tryz.prog) w 27 o.type 2 i0 Tryz.underlying27 hi g d cap _ S.fu ad 1 1 [.int .i64 c] (by rw [hz1]; rfl) (fun j u hj => by
    match j, hj with
    | 0, hj =>
      simp at hj
      subst hj
      simpa [Addr.add] using hc
    | j + 1, hj => simp at hj) (fun u hu => by
      rw [List.mem_singleton] at hu
      rw [hu]
      rfl) hcap (by rw [hz1]; simp; omega)
  rw [hz1, Nat.mul_one] at hr
  unfold Oper.wp execOp
  simp only [ho, resolve, invoke, builtin, Sem.run_bind, Sem.run_pure, Result.andThen_ok, List.map_toArray, List.map_cons, List.map_nil, hs, hx, hr]
  refine hK _ _ (h _ ⟨?_, grown_refl _ _⟩ ⟨rfl, rfl, rfl, by simp, fun k _ hk => setRow_other w g k _ (fun e => hk (by rw [e]))⟩)
  rw [setRow_heap w g _ _ 2 _ S.fu]
  congr 2
  congr 1
  rw [List.set_eq_take_append_cons_drop, if_pos hd]
  have e1 : ([] ++ X.map (Value.int .i64) ++ Bq).take d = (X.take d).map (Value.int .i64) := by
    rw [List.nil_append, List.take_append_of_le_length (by simp; omega), List.map_take]
  have e2 : ([] ++ X.map (Value.int .i64) ++ Bq).drop (d + 1) = (X.drop (d + 1)).map (Value.int .i64) ++ Bq := by
    rw [List.nil_append, List.drop_append_of_le_length (by simp; omega), List.map_drop]
  simp only [List.length_singleton, e1, e2]
  simp
/-- Below B all is as it was, and so are the marks. -/
structure BelD (B : Nat) (w W : World) : Prop where
  bel : Below B w W
  mk' : ∀ (D : Nat) (o : Option (List Deferred)), w.heap[D]? = some (Obj.deferred o) → W.heap[D]? = some (Obj.deferred o)
theorem BelD.refl (B : Nat) (w : World) : BelD B w w := ⟨Below.refl _ _, fun _ _ h => h⟩
theorem BelD.alloc {B : Nat} {w W : World} (h : BelD B w W) (hB : B ≤ W.heap.size) (o : Obj) : BelD B w (W.alloc o) := ⟨h.bel.trans ((one_below W o).mono hB), fun D x e => (alloc_block _ _ (Array.getElem?_eq_some_iff.1 (h.mk' D x e)).1).trans (h.mk' D x e)⟩
theorem BelD.grow {B g : Nat} {w W W' : World} (h : BelD B w W) (hg : W.grownBy W' (some g)) (hB : B ≤ W.heap.size) (hBg : B ≤ g) (hn : ∀ o, W.heap[g]? ≠ some (Obj.deferred o)) : BelD B w W' :=
  ⟨h.bel.grown hg hB (fun m hm => by cases hm; exact hBg), fun D x e => by
    have e2 := h.mk' D x e
    rw [hg.block D (Array.getElem?_eq_some_iff.1 e2).1 (fun e3 => by injection e3 with e3; subst e3; exact hn _ e2)]
    exact e2⟩
theorem Seg.noDef {w0 w : World} {g : Nat} {A B : List Value} {X : List Int} (h : Seg w0 w g A X B) : ∀ o, w.heap[g]? ≠ some (Obj.deferred o) := fun o e => by rw [h.fu] at e; cases e
theorem book_noDef {w : World} {M : Nat} {Dk : List (Int × Int × Int)} (h : BookAt w M Dk) : ∀ o, w.heap[M]? ≠ some (Obj.deferred o) := fun o e => by
  obtain ⟨es, cl, h1, _⟩ := h
  rw [h1] at e
  cases e
/-- The first i points are composed in place. -/
def KSt (B0 g M : Nat) (Bq : List Value) (w wr : World) (L : List Int) (i d : Nat) (st : Int) : Prop := ∃ D J X Dk, cmpQ (L.take i) = (D, st) ∧ d = D.length ∧ D.length + J.length = i ∧ X = D ++ (J ++ L.drop i) ∧ Seg wr wr g [] X Bq ∧ BookAt wr M Dk ∧ Good Dk ∧ BelD B0 w wr
theorem book_ne {w : World} {g M : Nat} {Bq : List Value} {X : List Int} {Dk : List (Int × Int × Int)} (S : Seg w w g [] X Bq) (hM : BookAt w M Dk) : g ≠ M := fun e => by
  subst e
  obtain ⟨es, cl, h, _⟩ := hM
  rw [S.fu] at h
  cases h
theorem Seg.moved {w w' : World} {g M : Nat} {Bq : List Value} {X : List Int} (S : Seg w w g [] X Bq) (hg : w.grownBy w' (some M)) (hne : g ≠ M) : Seg w' w' g [] X Bq := ⟨(hg.block g S.lt (fun e => by injection e with e; exact hne e)).trans S.fu, grown_refl _ _⟩
theorem book_moved {w w' : World} {g M : Nat} {Dk : List (Int × Int × Int)} (hM : BookAt w M Dk) (hg : w.grownBy w' (some g)) (hne : g ≠ M) : BookAt w' M Dk := hM.at (hg.block M hM.lt (fun e => by injection e with e; exact hne e.symm))
set_option maxHeartbeats 8000000 in
set_option maxRecDepth 100000 in
theorem composeAll_any (B0 g M cap n : Nat) (L : List Int) (Bq : List Value) (Dk0 : List (Int × Int × Int)) (w : World) (S0 : Seg w w g [] L Bq) (hc0 : n + Bq.length = cap) (hM0 : BookAt w M Dk0) (hG0 : Good Dk0) (hA : Adj L) (hn : n = L.length) (h0 : 0 < n) (hbd : n ≤ 1000000000) (hcm : cap ≤ maxLen) (hBg : B0 ≤ g) (hBM : B0 ≤ M) (hBw : B0 ≤ w.heap.size) :
    Calls Tryz.prog 31 #[.map (some M), .slice (some ⟨g, 0, none⟩) n cap] w fun e w' => ∃ v, e = .returned v ∧ w'.ownsRow B0 2 1 v (cmpQ L).1.length ((cmpQ L).1.map (Value.int .i64)) ∧ BelD B0 w w' := by
  have mixed := mixedO
  have I0 : Hid (KSt B0 g M Bq w w L 0 0 (-1)) := hide ⟨[], [], L, Dk0, rfl, rfl, rfl, rfl, S0, hM0, hG0, BelD.refl _ _⟩
  have hnc : n ≤ cap := by omega
  have hcb : cap ≤ 9223372036854775807 := by unfold maxLen at hcm; omega
  have hc1 : ¬ cap = 0 := by omega
  have HN := hide hn
  have HA := hide hA
  have HF : Hid (∀ wr d st, KSt B0 g M Bq w wr L n d st → wr.ownsRow B0 2 1 (.slice (some ⟨g, 0, none⟩) d cap) (cmpQ L).1.length ((cmpQ L).1.map (Value.int .i64)) ∧ BelD B0 w wr) := hide (fun wr d st h => by
    obtain ⟨D, J, X, Dk, hQ, hd, hl, hX, hS, _, _, hB⟩ := h
    rw [hn, List.take_length] at hQ
    rw [hn, List.drop_length, List.append_nil] at hX
    subst hX
    rw [hQ]
    refine ⟨?_, hB⟩
    have s2 : Seg wr wr g [] D (J.map (Value.int .i64) ++ Bq) := ⟨by rw [hS.fu]; simp, grown_refl _ _⟩
    show wr.ownsRow B0 2 1 (.slice (some ⟨g, 0, none⟩) d cap) D.length (D.map (Value.int .i64))
    rw [← hd]
    exact seg_own s2 hBg hd (by simp; omega) hcm)
  clear S0 hM0 hG0 hA hn hc0 hcm
  go_enter Tryz.func31, Tryz.ntmps31
  go_wp2
  go_loopw [5, 6, 15] (fun sv tv iv wr => ∃ (i d : Nat) (st : Int), i ≤ n ∧ -1 ≤ st ∧ st < d ∧ d ≤ i ∧ sv = .slice (some ⟨g, 0, none⟩) d cap ∧ tv = .int .i64 st ∧ iv = .int .i64 i ∧ Hid (KSt B0 g M Bq w wr L i d st)) (fun _ _ iv _ => n - (intOf iv).toNat)
  case atStart => exact ⟨0, 0, -1, Nat.zero_le _, by omega, by omega, Nat.le_refl _, rfl, rfl, rfl, I0⟩
  case round =>
    obtain ⟨i, d, st, hin, hs1, hs2, hdi, rfl, rfl, rfl, I1⟩ := hrel
    clear I0
    by_cases hlt : i < n
    · have hlt' : (i : Int) < (n : Int) := by omega
      obtain ⟨D, J, X, Dk, hQ, hd, hl, hX, hS, hM, hG, hB⟩ := unhide I1
      have hiL : i < L.length := by have := unhide HN; omega
      obtain ⟨c, hc⟩ : ∃ c, c = nth L i := ⟨_, rfl⟩
      have hXl : X.length = n := by rw [hX]; have := unhide HN; simp; omega
      have c0 : wr.cell? ⟨g, i, none⟩ = some (.int .i64 c) := by
        have := hS.cell0 i (by omega)
        rw [this, hX, ← List.append_assoc, (ord_take hiL).2, ← hc, nth_at _ _ _ _ (by rw [List.length_append]; exact hl.symm)]
      have hQ1 : cmpQ (L.take (i + 1)) = stepC (D, st) c := by rw [cmpQ_take hiL, hQ, hc]
      have hdr : L.drop i = c :: L.drop (i + 1) := by rw [(ord_take hiL).2, hc]
      have HI : InvC (L.take i) (D, st) := by
        have := inv_cmp _ (L.take i) rfl (by have := unhide HA; rw [← List.take_append_drop i L] at this; exact (adj_parts this).1)
        rw [hQ] at this
        exact this
      have hne := book_ne hS hM
      have hXd : ∀ k, k < d → nth X k = nth D k := fun k hk => by
        rw [hX]
        simp [nth, List.getD, List.getElem?_append_left (show k < D.length by omega)]
      have CM := hide (fun W => markI c W)
      obtain ⟨zc, hzc⟩ : ∃ zc, clsZ c = zc := ⟨_, rfl⟩
      rw [hzc] at CM
      have HZ := hide hzc
      -- a point put behind the others
      have PU0 : Hid (∀ (wy : World) (Dy : List (Int × Int × Int)), Seg wy wy g [] X Bq → BookAt wy M Dy → Good Dy → BelD B0 w wy → ¬ (opn D st c = true ∧ 0 ≤ pairP (nth D st.toNat) c) → d < X.length ∧ ∀ (w3 : World) (st' : Int), st' = (if clsZ c = 0 then (d : Int) else st) → Seg w3 w3 g [] (X.set d c) Bq → (wy.alloc (.cells #[.int .i64 c] 2)).grownBy w3 (some g) → KSt B0 g M Bq w w3 L (i + 1) (d + 1) st') := hide (fun wy Dy hSy hMy hGy hBy hno => by
        refine ⟨by omega, fun w3 st' hst hs3 hg3 => ?_⟩
        unfold stepC at hQ1
        rw [if_neg hno] at hQ1
        have hBs : B0 ≤ wy.heap.size := Nat.le_trans hBw hBy.bel.size
        obtain ⟨y, J', hJ⟩ : ∃ y J', J ++ [c] = y :: J' := by
          match J with
          | [] => exact ⟨c, [], rfl⟩
          | y :: J => exact ⟨y, J ++ [c], rfl⟩
        have hJl : J'.length = J.length := by have := congrArg List.length hJ; simp at this; omega
        have eX : X = D ++ y :: (J' ++ L.drop (i + 1)) := by
          rw [hX, hdr]
          have : J ++ c :: L.drop (i + 1) = (J ++ [c]) ++ L.drop (i + 1) := by simp
          rw [this, hJ]
          simp
        refine ⟨D ++ [c], J', X.set d c, Dy, by rw [hQ1, hst, hd], by simp; exact hd, by simp; omega, ?_, hs3, ?_, hGy, ?_⟩
        · rw [eX, hd, List.set_append_right _ _ (Nat.le_refl _)]
          simp
        · exact (book_moved (hMy.at (alloc_block _ _ hMy.lt)) hg3 hne)
        · exact (hBy.alloc hBs (.cells #[.int .i64 c] 2)).grow hg3 (by simp; omega) hBg (hSy.alloc _).noDef)
      -- a point composed with the starter
      have PC0 : Hid (∀ s : Nat, st = (s : Int) → opn D st c = true → ∀ x, x = pairP (nth D s) c → 0 ≤ x → ∀ (wy : World) (Dy : List (Int × Int × Int)), Seg wy wy g [] X Bq → BookAt wy M Dy → Good Dy → BelD B0 w wy → wy.frozen? ⟨g, s, none⟩ = false ∧ wy.cell? ⟨g, s, none⟩ = some (.int .i64 (nth D s)) ∧ KSt B0 g M Bq w (wy.setCell ⟨g, s, none⟩ (.int .i64 x)) L (i + 1) d st) := hide (fun s hs hop x hx h0 wy Dy hSy hMy hGy hBy => by
        subst hs
        have hsd : s < d := by omega
        unfold stepC at hQ1
        rw [if_pos ⟨hop, by rw [Int.toNat_natCast, ← hx]; exact h0⟩] at hQ1
        have s2 := hSy.set0 s (by omega) x
        refine ⟨hSy.frozen0 s, by rw [hSy.cell0 s (by omega), hXd s hsd], D.set s x, J ++ [c], X.set s x, Dy, by rw [hQ1, Int.toNat_natCast, ← hx], by simpa using hd, by simp; omega, ?_, s2.self, ?_, hGy, hBy.grow s2.gr (Nat.le_trans hBw hBy.bel.size) hBg hSy.noDef⟩
        · rw [hX, hdr, List.set_append_left _ _ (by omega)]
          simp
        · exact book_moved hMy s2.gr hne)
      have SG := hide hS
      have FR : Hid (BookAt wr M Dk ∧ Good Dk ∧ BelD B0 w wr) := hide ⟨hM, hG, hB⟩
      have HXd := hide hXd
      have HXl := hide hXl
      have HD := hide hd
      have HIv := hide HI
      clear hQ hd hl hX hS hM hG hB hiL hc hXl hQ1 hdr HI hXd hzc I1
      go_wp2_with fail
      refine ((unhide CM) _).mono ?_
      rintro e' wx ⟨rfl, rfl⟩
      clear CM c0
      go_upto_region 6 with fail
      go_cut [31] from 21 to 53 (fun v wz => v = .bool (opn D st c) ∧ wz = wx)
      case first =>
        by_cases hst : st = -1
        · subst hst
          have hop : opn D (-1) c = false := by unfold opn; simp
          have HOP := hide hop
          clear hop
          go_wp2
          go_meet
          exact ⟨by rw [unhide HOP], rfl⟩
        · obtain ⟨s, rfl⟩ : ∃ s : Nat, st = (s : Int) := ⟨st.toNat, by omega⟩
          have hss : (0 : Int) ≤ (s : Int) := by omega
          have hsd : s < d := by omega
          have hlast := opn_last (unhide HIv) hss c
          have hsn : ((s : Int) + 1).toNat = s + 1 := by omega
          simp only [hsn] at hlast
          clear hsn hst
          by_cases hd1 : d = s + 1
          · have hop : opn D (s : Int) c = true := hlast.2 (.inl (List.drop_eq_nil_iff.2 (by have := unhide HD; omega)))
            have HOP := hide hop
            have CB := hide (fun b cap' => blockedNone b cap' zc wx)
            clear hop hlast
            subst hd1
            by_cases hcs : cap = s + 1
            · subst hcs
              go_wp2_with fail
              refine ((unhide CB) _ _).mono ?_
              rintro e' w5 ⟨rfl, rfl⟩
              go_wp2
              go_meet
              exact ⟨by rw [unhide HOP], rfl⟩
            · go_wp2_with fail
              refine ((unhide CB) _ _).mono ?_
              rintro e' w5 ⟨rfl, rfl⟩
              go_wp2
              go_meet
              exact ⟨by rw [unhide HOP], rfl⟩
          · obtain ⟨t, ht⟩ : ∃ t, d = s + 1 + (t + 1) := ⟨d - s - 2, by omega⟩
            have hx0 : wx.cell? ⟨g, s + 1 + t, none⟩ = some (.int .i64 (nth D (s + 1 + t))) := by
              rw [(unhide SG).cell0 _ (by have := unhide HXl; omega), (unhide HXd) _ (by omega)]
            have hop : opn D (s : Int) c = !decide (clsZ c ≤ clsZ (nth D (s + 1 + t))) := by
              have e1 : D.drop (s + 1) = (D.drop (s + 1)).take t ++ [nth D (s + 1 + t)] := by
                have hl2 : (D.drop (s + 1)).length = t + 1 := by rw [List.length_drop]; have := unhide HD; omega
                have e2 := List.take_succ_eq_append_getElem (l := D.drop (s + 1)) (i := t) (by omega)
                rw [List.take_of_length_le (by omega)] at e2
                rw [List.getElem_drop] at e2
                have e3 : nth D (s + 1 + t) = D[s + 1 + t]'(by have := unhide HD; omega) := by simp [nth, List.getD, show s + 1 + t < D.length by have := unhide HD; omega]
                rw [e3]
                exact e2
              by_cases hle : clsZ c ≤ clsZ (nth D (s + 1 + t))
              · rw [decide_eq_true hle]
                cases ho : opn D (s : Int) c with
                | false => rfl
                | true =>
                  rcases hlast.1 ho with e | ⟨M2, m2, e, hm⟩
                  · rw [e1] at e
                    simp at e
                  · rw [e1] at e
                    obtain ⟨_, e2⟩ := List.append_inj' e rfl
                    injection e2 with e2 _
                    subst e2
                    omega
              · rw [decide_eq_false hle]
                exact hlast.2 (.inr ⟨_, _, e1, by omega⟩)
            rw [unhide HZ] at hop
            have CB := hide (blockedAt g (s + 1) t (d - (s + 1)) (cap - (s + 1)) _ zc wx (by omega) (by omega) hx0)
            have hcs : ¬ cap = s + 1 := by omega
            have hsd2 : s + 1 ≤ d := by omega
            have HOP := hide hop
            clear hop hlast ht hx0
            generalize decide (zc ≤ clsZ (nth D (s + 1 + t))) = bb at *
            go_wp2_with fail
            refine (unhide CB).mono ?_
            rintro e' w5 ⟨rfl, rfl⟩
            clear CB
            go_wp2
            go_meet
            exact ⟨by rw [unhide HOP], rfl⟩
      case rest =>
        obtain ⟨rfl, hwz⟩ := hcut
        subst hwz
        clear HIv
        cases hop : opn D st c with
        | false =>
          obtain ⟨hM, hG, hB⟩ := unhide FR
          have PU := hide ((unhide PU0) _ Dk (unhide SG) hM hG hB (fun h => by rw [hop] at h; cases h.1))
          clear PU0 PC0 hM hG hB hop HXl HXd
          generalize hwq : wc = wx at *
          clear hwq
          obtain ⟨hdl, hP⟩ := unhide PU
          have HPu := hide hP
          have SG1 := hide ((unhide SG).alloc (.cells #[.int .i64 c] 2))
          have FR1 := hide (unhide FR)
          clear hP PU
          by_cases hz : clsZ c = 0
          · have hzc : (zc == 0) = true := by rw [beq_iff_eq, ← unhide HZ]; exact hz
            have HS' : Hid ((d : Int) = (if clsZ c = 0 then (d : Int) else st)) := hide (by rw [if_pos hz])
            clear hz HZ
            go_wp2_with (at_builtin; refine wpList_roomI _ rfl _ _ rfl g d cap X Bq (unhide SG1) rfl ⟨wx.heap.size, 0, none⟩ c rfl (by simp) hdl (by omega) ?_)
            intro w3 s3 g3
            have F4 := hide ((unhide HPu) w3 (d : Int) (unhide HS') s3 g3)
            clear s3 g3 SG1 SG FR FR1 HPu
            go_wp2
            go_roundw
            case rel => exact ⟨i + 1, d + 1, (d : Int), by omega, by omega, by omega, by omega, rfl, by go_num, by go_num, F4⟩
            case measure => simp [intOf]; omega
          · have hzc : (zc == 0) = false := by rw [beq_eq_false_iff_ne, ← unhide HZ]; exact hz
            have HS' : Hid (st = (if clsZ c = 0 then (d : Int) else st)) := hide (by rw [if_neg hz])
            clear hz HZ
            go_wp2_with (at_builtin; refine wpList_roomI _ rfl _ _ rfl g d cap X Bq (unhide SG1) rfl ⟨wx.heap.size, 0, none⟩ c rfl (by simp) hdl (by omega) ?_)
            intro w3 s3 g3
            have F4 := hide ((unhide HPu) w3 st (unhide HS') s3 g3)
            clear s3 g3 SG1 SG FR FR1 HPu
            go_wp2
            go_roundw
            case rel => exact ⟨i + 1, d + 1, st, by omega, by omega, by omega, by omega, rfl, rfl, by go_num, F4⟩
            case measure => simp [intOf]; omega
        | true =>
          have hs0 : 0 ≤ st := by
            have := hop
            unfold opn at this
            rw [Bool.and_eq_true] at this
            exact of_decide_eq_true this.1
          obtain ⟨s, rfl⟩ : ∃ s : Nat, st = (s : Int) := ⟨st.toNat, by omega⟩
          have hsd : s < d := by omega
          obtain ⟨hM, hG, hB⟩ := unhide FR
          have cs : wc.cell? ⟨g, s, none⟩ = some (.int .i64 (nth D s)) := by rw [(unhide SG).cell0 _ (by have := unhide HXl; omega), (unhide HXd) _ hsd]
          have CC := hide (compose_any M (nth D s) c wc Dk hM hG)
          have HK : Hid (∀ w', (∃ D', BookAt w' M D' ∧ Good D' ∧ wc.grownBy w' (some M)) → ∃ D', Seg w' w' g [] X Bq ∧ BookAt w' M D' ∧ Good D' ∧ BelD B0 w w') := hide (fun w' h => by
            obtain ⟨D', h1, h2, h3⟩ := h
            exact ⟨D', (unhide SG).moved h3 hne, h1, h2, hB.grow h3 (Nat.le_trans hBw hB.bel.size) hBM (book_noDef hM)⟩)
          have PC := hide ((unhide PC0) s rfl hop)
          have PU1 : Hid (¬ 0 ≤ pairP (nth D s) c → _) := hide (fun hno wy Dy h1 h2 h3 h4 => (unhide PU0) wy Dy h1 h2 h3 h4 (fun h => hno (by have := h.2; rwa [Int.toNat_natCast] at this)))
          clear PU0 PC0 FR SG hM hG hB hop HXl HXd hs0
          go_wp2_with fail
          refine (unhide CC).mono ?_
          rintro e' wx ⟨rfl, hbk⟩
          obtain ⟨Dy, sy, my, gy, bl⟩ := (unhide HK) wx hbk
          clear hbk HK CC cs
          by_cases hp : 0 ≤ pairP (nth D s) c
          · obtain ⟨f1, c1, k1⟩ := (unhide PC) _ rfl hp wx Dy sy my gy bl
            have F4 := hide k1
            clear k1 PC PU1 sy my gy bl
            generalize pairP (nth D s) c = pv at *
            generalize nth D s = yv at *
            go_wp2
            go_roundw
            case rel => exact ⟨i + 1, d, (s : Int), by omega, by omega, by omega, by omega, rfl, rfl, by go_num, F4⟩
            case measure => simp [intOf]; omega
          · have PU := hide ((unhide PU1) (by omega) wx Dy sy my gy bl)
            have SG := hide sy
            have FR : Hid (BookAt wx M Dy ∧ Good Dy ∧ BelD B0 w wx) := hide ⟨my, gy, bl⟩
            clear PC PU1 sy my gy bl
            generalize pairP (nth D s) c = pv at *
            generalize nth D s = yv at *
            generalize ((s : Nat) : Int) = st at *
            obtain ⟨hdl, hP⟩ := unhide PU
            have HPu := hide hP
            have SG1 := hide ((unhide SG).alloc (.cells #[.int .i64 c] 2))
            have FR1 := hide (unhide FR)
            clear hP PU
            by_cases hz : clsZ c = 0
            · have hzc : (zc == 0) = true := by rw [beq_iff_eq, ← unhide HZ]; exact hz
              have HS' : Hid ((d : Int) = (if clsZ c = 0 then (d : Int) else st)) := hide (by rw [if_pos hz])
              clear hz HZ
              go_wp2_with (at_builtin; refine wpList_roomI _ rfl _ _ rfl g d cap X Bq (unhide SG1) rfl ⟨wx.heap.size, 0, none⟩ c rfl (by simp) hdl (by omega) ?_)
              intro w3 s3 g3
              have F4 := hide ((unhide HPu) w3 (d : Int) (unhide HS') s3 g3)
              clear s3 g3 SG1 SG FR FR1 HPu
              go_wp2
              go_roundw
              case rel => exact ⟨i + 1, d + 1, (d : Int), by omega, by omega, by omega, by omega, rfl, by go_num, by go_num, F4⟩
              case measure => simp [intOf]; omega
            · have hzc : (zc == 0) = false := by rw [beq_eq_false_iff_ne, ← unhide HZ]; exact hz
              have HS' : Hid (st = (if clsZ c = 0 then (d : Int) else st)) := hide (by rw [if_neg hz])
              clear hz HZ
              go_wp2_with (at_builtin; refine wpList_roomI _ rfl _ _ rfl g d cap X Bq (unhide SG1) rfl ⟨wx.heap.size, 0, none⟩ c rfl (by simp) hdl (by omega) ?_)
              intro w3 s3 g3
              have F4 := hide ((unhide HPu) w3 st (unhide HS') s3 g3)
              clear s3 g3 SG1 SG FR FR1 HPu
              go_wp2
              go_roundw
              case rel => exact ⟨i + 1, d + 1, st, by omega, by omega, by omega, by omega, rfl, rfl, by go_num, F4⟩
              case measure => simp [intOf]; omega
    · obtain rfl : i = n := by omega
      have hlt' : ¬ (i : Int) < (i : Int) := by omega
      have F := hide ((unhide HF) _ _ _ (unhide I1))
      go_wp2
      go_ret
      exact ⟨_, rfl, unhide F⟩
end Go.Proofs.YtamigjljgepfiaaGreatDoor
