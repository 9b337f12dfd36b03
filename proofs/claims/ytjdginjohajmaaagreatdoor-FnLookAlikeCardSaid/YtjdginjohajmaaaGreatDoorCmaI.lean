/- The program's row of points composed, in place. -/
import Derived.Test.YtjdginjohajmaaaGreatDoorCmaP
import Derived.Test.YtjdginjohajmaaaGreatDoorCmaS
import Derived.Test.YtjdginjohajmaaaGreatDoorCmpC
import Derived.Deep.CutRange
namespace Go.Proofs.YtjdginjohajmaaaGreatDoor
open Go.RowKit
theorem blockedNone (b : Option Addr) (cap : Nat) (z : Int) (w : World) : Calls Tryz.prog 82 #[.slice b 0 cap, .int .i64 z] w fun e w' => e = .returned (.bool false) ∧ w' = w := by
  go_enter Tryz.func82, Tryz.ntmps82
  go_wp2
  go_ret
  exact ⟨rfl, rfl⟩
set_option maxRecDepth 100000 in
theorem blockedAt (g o n m cap : Nat) (x z : Int) (w : World) (hm : m = n + 1) (hn : n ≤ 1000000000) (hc : w.cell? ⟨g, o + n, none⟩ = some (.int .i64 x)) : Calls Tryz.prog 82 #[.slice (some ⟨g, o, none⟩) m cap, .int .i64 z] w fun e w' => e = .returned (.bool (decide (z ≤ clsZ x))) ∧ w' = w := by
  have C := hide (fun W => markI x W)
  have zm : (m : Int) - 1 = (n : Int) := by omega
  have hp : (0 : Int) < (m : Int) := by omega
  have hlt : n < m := by omega
  have hlt' : (n : Int) < (m : Int) := by omega
  have hmb : m ≤ 1000000001 := by omega
  clear hm
  obtain ⟨y, hy⟩ : ∃ y, clsZ x = y := ⟨_, rfl⟩
  rw [hy] at C ⊢
  clear hy
  go_enter Tryz.func82, Tryz.ntmps82
  go_wp2_with (go_at_call 80; refine ((unhide C) _).mono ?_; rintro e' w2 ⟨rfl, rfl⟩)
  go_ret
  exact ⟨rfl, rfl⟩
theorem Seg.alloc {w : World} {g : Nat} {B : List Value} {X : List Int} (h : Seg w w g [] X B) (o : Obj) : Seg (w.alloc o) (w.alloc o) g [] X B := ⟨(alloc_block _ _ h.lt).trans h.fu, grown_refl _ _⟩
set_option maxRecDepth 100000 in
theorem wpList_roomI (w : World) {ops : Array Oper} {rest : List Oper} {o : Oper} {a : Act} {Q : Exit → Act → World → Prop} (hgd : o.guard = none) (s x : Operand)
    (ho : o.op = .call { callee := .builtin .append, args := #[s, x], argTypes := #[28, 28] }) (g d cap : Nat) (X : List Int) (Bq : List Value) (S : Seg w w g [] X Bq) (hs : a.eval s = .slice (some ⟨g, 0, none⟩) d cap)
    (ad : Addr) (c : Int) (hx : a.eval x = .slice (some ad) 1 1) (hc : w.cell? ad = some (.int .i64 c)) (hd : d < X.length) (hcap : d + 1 ≤ cap)
    (h : ∀ w', Seg w' w' g [] (X.set d c) Bq → w.grownBy w' (some g) → wpList Tryz.prog ops Q rest (a.put o.dst (.slice (some ⟨g, 0, none⟩) (d + 1) cap)) w') : wpList Tryz.prog ops Q (o :: rest) a w := by
  obtain ⟨i0, hi, hz0, hz1, hz2⟩ := info_parts info2
  refine wpList_plain hgd fun K hK => ?_
  have hr := run_append_room (P := Tryz.prog) w 28 o.type 2 i0 Tryz.underlying28 hi g d cap _ S.fu ad 1 1 [.int .i64 c] (by rw [hz1]; rfl) (fun j u hj => by
    match j, hj with
    | 0, hj =>
      simp at hj
      subst hj
      simpa [Addr.add] using hc
    | j + 1, hj => simp at hj) (fun u hu => by
      rw [List.mem_singleton] at hu
      rw [hu]
      rfl) hcap (by rw [hz1]; simp; omega)
  rw [hz1, Nat.mul_one] at hr
  unfold Oper.wp execOp
  simp only [ho, resolve, invoke, builtin, Sem.run_bind, Sem.run_pure, Result.andThen_ok, List.map_toArray, List.map_cons, List.map_nil, hs, hx, hr]
  refine hK _ _ (h _ ⟨?_, grown_refl _ _⟩ ⟨rfl, rfl, rfl, by simp, fun k _ hk => setRow_other w g k _ (fun e => hk (by rw [e]))⟩)
  rw [setRow_heap w g _ _ 2 _ S.fu]
  congr 2
  congr 1
  rw [List.set_eq_take_append_cons_drop, if_pos hd]
  have e1 : ([] ++ X.map (Value.int .i64) ++ Bq).take d = (X.take d).map (Value.int .i64) := by
    rw [List.nil_append, List.take_append_of_le_length (by simp; omega), List.map_take]
  have e2 : ([] ++ X.map (Value.int .i64) ++ Bq).drop (d + 1) = (X.drop (d + 1)).map (Value.int .i64) ++ Bq := by
    rw [List.nil_append, List.drop_append_of_le_length (by simp; omega), List.map_drop]
  simp only [List.length_singleton, e1, e2]
  simp
/-- Below B all is as it was, and so are the marks. -/
structure BelD (B : Nat) (w W : World) : Prop where
  bel : Below B w W
  mk' : ∀ (D : Nat) (o : Option (List Deferred)), w.heap[D]? = some (Obj.deferred o) → W.heap[D]? = some (Obj.deferred o)
theorem BelD.refl (B : Nat) (w : World) : BelD B w w := ⟨Below.refl _ _, fun _ _ h => h⟩
theorem BelD.alloc {B : Nat} {w W : World} (h : BelD B w W) (hB : B ≤ W.heap.size) (o : Obj) : BelD B w (W.alloc o) := ⟨h.bel.trans ((one_below W o).mono hB), fun D x e => (alloc_block _ _ (Array.getElem?_eq_some_iff.1 (h.mk' D x e)).1).trans (h.mk' D x e)⟩
theorem BelD.grow {B g : Nat} {w W W' : World} (h : BelD B w W) (hg : W.grownBy W' (some g)) (hB : B ≤ W.heap.size) (hBg : B ≤ g) (hn : ∀ o, W.heap[g]? ≠ some (Obj.deferred o)) : BelD B w W' :=
  ⟨h.bel.grown hg hB (fun m hm => by cases hm; exact hBg), fun D x e => by
    have e2 := h.mk' D x e
    rw [hg.block D (Array.getElem?_eq_some_iff.1 e2).1 (fun e3 => by injection e3 with e3; subst e3; exact hn _ e2)]
    exact e2⟩
theorem Seg.noDef {w0 w : World} {g : Nat} {A B : List Value} {X : List Int} (h : Seg w0 w g A X B) : ∀ o, w.heap[g]? ≠ some (Obj.deferred o) := fun o e => by rw [h.fu] at e; cases e
theorem book_noDef {w : World} {M : Nat} {Dk : List (Int × Int × Int)} (h : BookAt w M Dk) : ∀ o, w.heap[M]? ≠ some (Obj.deferred o) := fun o e => by
  obtain ⟨es, cl, h1, _⟩ := h
  rw [h1] at e
  cases e
/-- The first i points are composed in place. -/
def KSt (B0 g M : Nat) (Bq : List Value) (w wr : World) (L : List Int) (i d : Nat) (st : Int) : Prop := ∃ D J X Dk, cmpQ (L.take i) = (D, st) ∧ d = D.length ∧ D.length + J.length = i ∧ X = D ++ (J ++ L.drop i) ∧ Seg wr wr g [] X Bq ∧ BookAt wr M Dk ∧ Good Dk ∧ BelD B0 w wr
theorem book_ne {w : World} {g M : Nat} {Bq : List Value} {X : List Int} {Dk : List (Int × Int × Int)} (S : Seg w w g [] X Bq) (hM : BookAt w M Dk) : g ≠ M := fun e => by
  subst e
  obtain ⟨es, cl, h, _⟩ := hM
  rw [S.fu] at h
  cases h
theorem Seg.moved {w w' : World} {g M : Nat} {Bq : List Value} {X : List Int} (S : Seg w w g [] X Bq) (hg : w.grownBy w' (some M)) (hne : g ≠ M) : Seg w' w' g [] X Bq := ⟨(hg.block g S.lt (fun e => by injection e with e; exact hne e)).trans S.fu, grown_refl _ _⟩
theorem book_moved {w w' : World} {g M : Nat} {Dk : List (Int × Int × Int)} (hM : BookAt w M Dk) (hg : w.grownBy w' (some g)) (hne : g ≠ M) : BookAt w' M Dk := hM.at (hg.block M hM.lt (fun e => by injection e with e; exact hne e.symm))
set_option maxHeartbeats 8000000 in
set_option maxRecDepth 100000 in
theorem composeAll_any (B0 g M cap n : Nat) (L : List Int) (Bq : List Value) (Dk0 : List (Int × Int × Int)) (w : World) (S0 : Seg w w g [] L Bq) (hc0 : n + Bq.length = cap) (hM0 : BookAt w M Dk0) (hG0 : Good Dk0) (hA : Adj L) (hn : n = L.length) (h0 : 0 < n) (hbd : n ≤ 1000000000) (hcm : cap ≤ maxLen) (hBg : B0 ≤ g) (hBM : B0 ≤ M) (hBw : B0 ≤ w.heap.size) :
    Calls Tryz.prog 61 #[.map (some M), .slice (some ⟨g, 0, none⟩) n cap] w fun e w' => ∃ v, e = .returned v ∧ w'.ownsRow B0 2 1 v (cmpQ L).1.length ((cmpQ L).1.map (Value.int .i64)) ∧ BelD B0 w w' := by
  have mixed := mixedO
  have I0 : Hid (KSt B0 g M Bq w w L 0 0 (-1)) := hide ⟨[], [], L, Dk0, rfl, rfl, rfl, rfl, S0, hM0, hG0, BelD.refl _ _⟩
  have hnc : n ≤ cap := by omega
  have hcb : cap ≤ 9223372036854775807 := by unfold maxLen at hcm; omega
  have hc1 : ¬ cap = 0 := by omega
  have HN := hide hn
  have HA := hide hA
  have HF : Hid (∀ wr d st, KSt B0 g M Bq w wr L n d st → wr.ownsRow B0 2 1 (.slice (some ⟨g, 0, none⟩) d cap) (cmpQ L).1.length ((cmpQ L).1.map (Value.int .i64)) ∧ BelD B0 w wr) := hide (fun wr d st h => by
    obtain ⟨D, J, X, Dk, hQ, hd, hl, hX, hS, _, _, hB⟩ := h
    rw [hn, List.take_length] at hQ
    rw [hn, List.drop_length, List.append_nil] at hX
    subst hX
    rw [hQ]
    refine ⟨?_, hB⟩
    have s2 : Seg wr wr g [] D (J.map (Value.int .i64) ++ Bq) := ⟨by rw [hS.fu]; simp, grown_refl _ _⟩
    show wr.ownsRow B0 2 1 (.slice (some ⟨g, 0, none⟩) d cap) D.length (D.map (Value.int .i64))
    rw [← hd]
    exact seg_own s2 hBg hd (by simp; omega) hcm)
  clear S0 hM0 hG0 hA hn hc0 hcm
  go_enter Tryz.func61, Tryz.ntmps61
  go_wp2
  go_loopw [5, 6, 15] (fun sv tv iv wr => ∃ (i d : Nat) (st : Int), i ≤ n ∧ -1 ≤ st ∧ st < d ∧ d ≤ i ∧ sv = .slice (some ⟨g, 0, none⟩) d cap ∧ tv = .int .i64 st ∧ iv = .int .i64 i ∧ Hid (KSt B0 g M Bq w wr L i d st)) (fun _ _ iv _ => n - (intOf iv).toNat)
  case atStart => exact ⟨0, 0, -1, Nat.zero_le _, by omega, by omega, Nat.le_refl _, rfl, rfl, rfl, I0⟩
  case round =>
    obtain ⟨i, d, st, hin, hs1, hs2, hdi, rfl, rfl, rfl, I1⟩ := hrel
    clear I0
    by_cases hlt : i < n
    · have hlt' : (i : Int) < (n : Int) := by omega
      obtain ⟨D, J, X, Dk, hQ, hd, hl, hX, hS, hM, hG, hB⟩ := unhide I1
      have hiL : i < L.length := by have := unhide HN; omega
      obtain ⟨c, hc⟩ : ∃ c, c = nth L i := ⟨_, rfl⟩
      have hXl : X.length = n := by rw [hX]; have := unhide HN; simp; omega
      have c0 : wr.cell? ⟨g, i, none⟩ = some (.int .i64 c) := by
        have := hS.cell0 i (by omega)
        rw [this, hX, ← List.append_assoc, (ord_take hiL).2, ← hc, nth_at _ _ _ _ (by rw [List.length_append]; exact hl.symm)]
      have hQ1 : cmpQ (L.take (i + 1)) = stepC (D, st) c := by rw [cmpQ_take hiL, hQ, hc]
      have hdr : L.drop i = c :: L.drop (i + 1) := by rw [(ord_take hiL).2, hc]
      have HI : InvC (L.take i) (D, st) := by
        have := inv_cmp _ (L.take i) rfl (by have := unhide HA; rw [← List.take_append_drop i L] at this; exact (adj_parts this).1)
        rw [hQ] at this
        exact this
      have hne := book_ne hS hM
      have hXd : ∀ k, k < d → nth X k = nth D k := fun k hk => by
        rw [hX]
        simp [nth, List.getD, List.getElem?_append_left (show k < D.length by omega)]
      have CM := hide (fun W => markI c W)
      obtain ⟨zc, hzc⟩ : ∃ zc, clsZ c = zc := ⟨_, rfl⟩
      rw [hzc] at CM
      have HZ := hide hzc
      -- a point put behind the others
      have PU0 : Hid (∀ (wy : World) (Dy : List (Int × Int × Int)), Seg wy wy g [] X Bq → BookAt wy M Dy → Good Dy → BelD B0 w wy → ¬ (opn D st c = true ∧ 0 ≤ pairP (nth D st.toNat) c) → d < X.length ∧ ∀ (w3 : World) (st' : Int), st' = (if clsZ c = 0 then (d : Int) else st) → Seg w3 w3 g [] (X.set d c) Bq → (wy.alloc (.cells #[.int .i64 c] 2)).grownBy w3 (some g) → KSt B0 g M Bq w w3 L (i + 1) (d + 1) st') := hide (fun wy Dy hSy hMy hGy hBy hno => by
        refine ⟨by omega, fun w3 st' hst hs3 hg3 => ?_⟩
        unfold stepC at hQ1
        rw [if_neg hno] at hQ1
        have hBs : B0 ≤ wy.heap.size := Nat.le_trans hBw hBy.bel.size
        obtain ⟨y, J', hJ⟩ : ∃ y J', J ++ [c] = y :: J' := by
          match J with
          | [] => exact ⟨c, [], rfl⟩
          | y :: J => exact ⟨y, J ++ [c], rfl⟩
        have hJl : J'.length = J.length := by have := congrArg List.length hJ; simp at this; omega
        have eX : X = D ++ y :: (J' ++ L.drop (i + 1)) := by
          rw [hX, hdr]
          have : J ++ c :: L.drop (i + 1) = (J ++ [c]) ++ L.drop (i + 1) := by simp
          rw [this, hJ]
          simp
        refine ⟨D ++ [c], J', X.set d c, Dy, by rw [hQ1, hst, hd], by simp; exact hd, by simp; omega, ?_, hs3, ?_, hGy, ?_⟩
        · rw [eX, hd, List.set_append_right _ _ (Nat.le_refl _)]
          simp
        · exact (book_moved (hMy.at (alloc_block _ _ hMy.lt)) hg3 hne)
        · exact (hBy.alloc hBs (.cells #[.int .i64 c] 2)).grow hg3 (by simp; omega) hBg (hSy.alloc _).noDef)
      -- a point composed with the starter
      have PC0 : Hid (∀ s : Nat, st = (s : Int) → opn D st c = true → ∀ x, x = pairP (nth D s) c → 0 ≤ x → ∀ (wy : World) (Dy : List (Int × Int × Int)), Seg wy wy g [] X Bq → BookAt wy M Dy → Good Dy → BelD B0 w wy → wy.frozen? ⟨g, s, none⟩ = false ∧ wy.cell? ⟨g, s, none⟩ = some (.int .i64 (nth D s)) ∧ KSt B0 g M Bq w (wy.setCell ⟨g, s, none⟩ (.int .i64 x)) L (i + 1) d st) := hide (fun s hs hop x hx h0 wy Dy hSy hMy hGy hBy => by
        subst hs
        have hsd : s < d := by omega
        unfold stepC at hQ1
        rw [if_pos ⟨hop, by rw [Int.toNat_natCast, ← hx]; exact h0⟩] at hQ1
        have s2 := hSy.set0 s (by omega) x
        refine ⟨hSy.frozen0 s, by rw [hSy.cell0 s (by omega), hXd s hsd], D.set s x, J ++ [c], X.set s x, Dy, by rw [hQ1, Int.toNat_natCast, ← hx], by simpa using hd, by simp; omega, ?_, s2.self, ?_, hGy, hBy.grow s2.gr (Nat.le_trans hBw hBy.bel.size) hBg hSy.noDef⟩
        · rw [hX, hdr, List.set_append_left _ _ (by omega)]
          simp
        · exact book_moved hMy s2.gr hne)
      have SG := hide hS
      have FR : Hid (BookAt wr M Dk ∧ Good Dk ∧ BelD B0 w wr) := hide ⟨hM, hG, hB⟩
      have HXd := hide hXd
      have HXl := hide hXl
      have HD := hide hd
      have HIv := hide HI
      clear hQ hd hl hX hS hM hG hB hiL hc hXl hQ1 hdr HI hXd hzc I1
      go_wp2_with fail
      refine ((unhide CM) _).mono ?_
      rintro e' wx ⟨rfl, rfl⟩
      clear CM c0
      go_upto_region 6 with fail
      go_cut [31] from 21 to 53 (fun v wz => v = .bool (opn D st c) ∧ wz = wx)
      case first =>
        by_cases hst : st = -1
        · subst hst
          have hop : opn D (-1) c = false := by unfold opn; simp
          have HOP := hide hop
          clear hop
          go_wp2
          go_meet
          exact ⟨by rw [unhide HOP], rfl⟩
        · obtain ⟨s, rfl⟩ : ∃ s : Nat, st = (s : Int) := ⟨st.toNat, by omega⟩
          have hss : (0 : Int) ≤ (s : Int) := by omega
          have hsd : s < d := by omega
          have hlast := opn_last (unhide HIv) hss c
          have hsn : ((s : Int) + 1).toNat = s + 1 := by omega
          simp only [hsn] at hlast
          clear hsn hst
          by_cases hd1 : d = s + 1
          · have hop : opn D (s : Int) c = true := hlast.2 (.inl (List.drop_eq_nil_iff.2 (by have := unhide HD; omega)))
            have HOP := hide hop
            have CB := hide (fun b cap' => blockedNone b cap' zc wx)
            clear hop hlast
            subst hd1
            by_cases hcs : cap = s + 1
            · subst hcs
              go_wp2_with fail
              refine ((unhide CB) _ _).mono ?_
              rintro e' w5 ⟨rfl, rfl⟩
              go_wp2
              go_meet
              exact ⟨by rw [unhide HOP], rfl⟩
            · go_wp2_with fail
              refine ((unhide CB) _ _).mono ?_
              rintro e' w5 ⟨rfl, rfl⟩
              go_wp2
              go_meet
              exact ⟨by rw [unhide HOP], rfl⟩
          · obtain ⟨t, ht⟩ : ∃ t, d = s + 1 + (t + 1) := ⟨d - s - 2, by omega⟩
            have hx0 : wx.cell? ⟨g, s + 1 + t, none⟩ = some (.int .i64 (nth D (s + 1 + t))) := by
              rw [(unhide SG).cell0 _ (by have := unhide HXl; omega), (unhide HXd) _ (by omega)]
            have hop : opn D (s : Int) c = !decide (clsZ c ≤ clsZ (nth D (s + 1 + t))) := by
              have e1 : D.drop (s + 1) = (D.drop (s + 1)).take t ++ [nth D (s + 1 + t)] := by
                have hl2 : (D.drop (s + 1)).length = t + 1 := by rw [List.length_drop]; have := unhide HD; omega
                have e2 := List.take_succ_eq_append_getElem (l := D.drop (s + 1)) (i := t) (by omega)
                rw [List.take_of_length_le (by omega)] at e2
                rw [List.getElem_drop] at e2
                have e3 : nth D (s + 1 + t) = D[s + 1 + t]'(by have := unhide HD; omega) := by simp [nth, List.getD, show s + 1 + t < D.length by have := unhide HD; omega]
                rw [e3]
                exact e2
              by_cases hle : clsZ c ≤ clsZ (nth D (s + 1 + t))
              · rw [decide_eq_true hle]
                cases ho : opn D (s : Int) c with
                | false => rfl
                | true =>
                  rcases hlast.1 ho with e | ⟨M2, m2, e, hm⟩
                  · rw [e1] at e
                    simp at e
                  · rw [e1] at e
                    obtain ⟨_, e2⟩ := List.append_inj' e rfl
                    injection e2 with e2 _
                    subst e2
                    omega
              · rw [decide_eq_false hle]
                exact hlast.2 (.inr ⟨_, _, e1, by omega⟩)
            rw [unhide HZ] at hop
            have CB := hide (blockedAt g (s + 1) t (d - (s + 1)) (cap - (s + 1)) _ zc wx (by omega) (by omega) hx0)
            have hcs : ¬ cap = s + 1 := by omega
            have hsd2 : s + 1 ≤ d := by omega
            have HOP := hide hop
            clear hop hlast ht hx0
            generalize decide (zc ≤ clsZ (nth D (s + 1 + t))) = bb at *
            go_wp2_with fail
            refine (unhide CB).mono ?_
            rintro e' w5 ⟨rfl, rfl⟩
            clear CB
            go_wp2
            go_meet
            exact ⟨by rw [unhide HOP], rfl⟩
      case rest =>
        obtain ⟨rfl, hwz⟩ := hcut
        subst hwz
        clear HIv
        cases hop : opn D st c with
        | false =>
          obtain ⟨hM, hG, hB⟩ := unhide FR
          have PU := hide ((unhide PU0) _ Dk (unhide SG) hM hG hB (fun h => by rw [hop] at h; cases h.1))
          clear PU0 PC0 hM hG hB hop HXl HXd
          generalize hwq : wc = wx at *
          clear hwq
          obtain ⟨hdl, hP⟩ := unhide PU
          have HPu := hide hP
          have SG1 := hide ((unhide SG).alloc (.cells #[.int .i64 c] 2))
          have FR1 := hide (unhide FR)
          clear hP PU
          by_cases hz : clsZ c = 0
          · have hzc : (zc == 0) = true := by rw [beq_iff_eq, ← unhide HZ]; exact hz
            have HS' : Hid ((d : Int) = (if clsZ c = 0 then (d : Int) else st)) := hide (by rw [if_pos hz])
            clear hz HZ
            go_wp2_with (at_builtin; refine wpList_roomI _ rfl _ _ rfl g d cap X Bq (unhide SG1) rfl ⟨wx.heap.size, 0, none⟩ c rfl (by simp) hdl (by omega) ?_)
            intro w3 s3 g3
            have F4 := hide ((unhide HPu) w3 (d : Int) (unhide HS') s3 g3)
            clear s3 g3 SG1 SG FR FR1 HPu
            go_wp2
            go_roundw
            case rel => exact ⟨i + 1, d + 1, (d : Int), by omega, by omega, by omega, by omega, rfl, by go_num, by go_num, F4⟩
            case measure => simp [intOf]; omega
          · have hzc : (zc == 0) = false := by rw [beq_eq_false_iff_ne, ← unhide HZ]; exact hz
            have HS' : Hid (st = (if clsZ c = 0 then (d : Int) else st)) := hide (by rw [if_neg hz])
            clear hz HZ
            go_wp2_with (at_builtin; refine wpList_roomI _ rfl _ _ rfl g d cap X Bq (unhide SG1) rfl ⟨wx.heap.size, 0, none⟩ c rfl (by simp) hdl (by omega) ?_)
            intro w3 s3 g3
            have F4 := hide ((unhide HPu) w3 st (unhide HS') s3 g3)
            clear s3 g3 SG1 SG FR FR1 HPu
            go_wp2
            go_roundw
            case rel => exact ⟨i + 1, d + 1, st, by omega, by omega, by omega, by omega, rfl, rfl, by go_num, F4⟩
            case measure => simp [intOf]; omega
        | true =>
          have hs0 : 0 ≤ st := by
            have := hop
            unfold opn at this
            rw [Bool.and_eq_true] at this
            exact of_decide_eq_true this.1
          obtain ⟨s, rfl⟩ : ∃ s : Nat, st = (s : Int) := ⟨st.toNat, by omega⟩
          have hsd : s < d := by omega
          obtain ⟨hM, hG, hB⟩ := unhide FR
          have cs : wc.cell? ⟨g, s, none⟩ = some (.int .i64 (nth D s)) := by rw [(unhide SG).cell0 _ (by have := unhide HXl; omega), (unhide HXd) _ hsd]
          have CC := hide (compose_any M (nth D s) c wc Dk hM hG)
          have HK : Hid (∀ w', (∃ D', BookAt w' M D' ∧ Good D' ∧ wc.grownBy w' (some M)) → ∃ D', Seg w' w' g [] X Bq ∧ BookAt w' M D' ∧ Good D' ∧ BelD B0 w w') := hide (fun w' h => by
            obtain ⟨D', h1, h2, h3⟩ := h
            exact ⟨D', (unhide SG).moved h3 hne, h1, h2, hB.grow h3 (Nat.le_trans hBw hB.bel.size) hBM (book_noDef hM)⟩)
          have PC := hide ((unhide PC0) s rfl hop)
          have PU1 : Hid (¬ 0 ≤ pairP (nth D s) c → _) := hide (fun hno wy Dy h1 h2 h3 h4 => (unhide PU0) wy Dy h1 h2 h3 h4 (fun h => hno (by have := h.2; rwa [Int.toNat_natCast] at this)))
          clear PU0 PC0 FR SG hM hG hB hop HXl HXd hs0
          go_wp2_with fail
          refine (unhide CC).mono ?_
          rintro e' wx ⟨rfl, hbk⟩
          obtain ⟨Dy, sy, my, gy, bl⟩ := (unhide HK) wx hbk
          clear hbk HK CC cs
          by_cases hp : 0 ≤ pairP (nth D s) c
          · obtain ⟨f1, c1, k1⟩ := (unhide PC) _ rfl hp wx Dy sy my gy bl
            have F4 := hide k1
            clear k1 PC PU1 sy my gy bl
            generalize pairP (nth D s) c = pv at *
            generalize nth D s = yv at *
            go_wp2
            go_roundw
            case rel => exact ⟨i + 1, d, (s : Int), by omega, by omega, by omega, by omega, rfl, rfl, by go_num, F4⟩
            case measure => simp [intOf]; omega
          · have PU := hide ((unhide PU1) (by omega) wx Dy sy my gy bl)
            have SG := hide sy
            have FR : Hid (BookAt wx M Dy ∧ Good Dy ∧ BelD B0 w wx) := hide ⟨my, gy, bl⟩
            clear PC PU1 sy my gy bl
            generalize pairP (nth D s) c = pv at *
            generalize nth D s = yv at *
            generalize ((s : Nat) : Int) = st at *
            obtain ⟨hdl, hP⟩ := unhide PU
            have HPu := hide hP
            have SG1 := hide ((unhide SG).alloc (.cells #[.int .i64 c] 2))
            have FR1 := hide (unhide FR)
            clear hP PU
            by_cases hz : clsZ c = 0
            · have hzc : (zc == 0) = true := by rw [beq_iff_eq, ← unhide HZ]; exact hz
              have HS' : Hid ((d : Int) = (if clsZ c = 0 then (d : Int) else st)) := hide (by rw [if_pos hz])
              clear hz HZ
              go_wp2_with (at_builtin; refine wpList_roomI _ rfl _ _ rfl g d cap X Bq (unhide SG1) rfl ⟨wx.heap.size, 0, none⟩ c rfl (by simp) hdl (by omega) ?_)
              intro w3 s3 g3
              have F4 := hide ((unhide HPu) w3 (d : Int) (unhide HS') s3 g3)
              clear s3 g3 SG1 SG FR FR1 HPu
              go_wp2
              go_roundw
              case rel => exact ⟨i + 1, d + 1, (d : Int), by omega, by omega, by omega, by omega, rfl, by go_num, by go_num, F4⟩
              case measure => simp [intOf]; omega
            · have hzc : (zc == 0) = false := by rw [beq_eq_false_iff_ne, ← unhide HZ]; exact hz
              have HS' : Hid (st = (if clsZ c = 0 then (d : Int) else st)) := hide (by rw [if_neg hz])
              clear hz HZ
              go_wp2_with (at_builtin; refine wpList_roomI _ rfl _ _ rfl g d cap X Bq (unhide SG1) rfl ⟨wx.heap.size, 0, none⟩ c rfl (by simp) hdl (by omega) ?_)
              intro w3 s3 g3
              have F4 := hide ((unhide HPu) w3 st (unhide HS') s3 g3)
              clear s3 g3 SG1 SG FR FR1 HPu
              go_wp2
              go_roundw
              case rel => exact ⟨i + 1, d + 1, st, by omega, by omega, by omega, by omega, rfl, rfl, by go_num, F4⟩
              case measure => simp [intOf]; omega
    · obtain rfl : i = n := by omega
      have hlt' : ¬ (i : Int) < (i : Int) := by omega
      have F := hide ((unhide HF) _ _ _ (unhide I1))
      go_wp2
      go_ret
      exact ⟨_, rfl, unhide F⟩
end Go.Proofs.YtjdginjohajmaaaGreatDoor
