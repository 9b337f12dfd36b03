/- A line put behind the passes that were read so far, by the program. -/
import Derived.Test.YtklakcnapdhcnaaDoorRdpL
namespace Go.Proofs.YtklakcnapdhcnaaDoor.Pas
open Go.RowKit
set_option linter.unusedVariables false
theorem step_appP {P : Program} {ops : Array Oper} {o : Oper} {a : Act} {w : World} {K : Act → World → Prop} {Q : Exit → Act → World → Prop} {E : Prop}
    (d : Option Tmp) (hd : o.dst = d) (hg : o.guard = none) (s x : Operand) (t : TypeId) (hop : o.op = Op.call { callee := Callee.builtin Builtin.append, args := #[s, x], argTypes := #[t, t] })
    (base : Nat) (e : TypeId) (i : TypeInfo) (z : Value) (size bytes : Nat) (ht : P.underlying t = some (.slice e)) (hi : P.info? e = some i) (hz : i.zero = some z)
    (hsize : i.size = size) (hby : i.bytes = bytes) (hzs : z.cells.size = size) (hsz : 0 < size)
    (v : Value) (n : Nat) (xs : List Value) (hs : a.eval s = v) (hown : w.ownsRow base e size v n xs)
    (ad : Addr) (m c : Nat) (news : List Value) (hx : a.eval x = .slice (some ad) m c) (hl : news.length = m * size) (hnews : ∀ j u, news[j]? = some u → w.cell? (ad.add j) = some u) (h1 : ∀ u ∈ news, u.oneCell' = true)
    (h63 : n + m ≤ maxLen) (hbytes : (n + m) * bytes ≤ 140737488355328) (hbase : base ≤ w.heap.size)
    (h : ∀ v' w', w'.ownsRow base e size v' (n + m) (xs ++ news) → w.grownBy w' v.ownBlock → (∀ k, v'.ownBlock = some k → v.ownBlock = some k ∨ w.heap.size ≤ k) → K (a.put d v') w') :
    if Region.wanted o (yielded ops a.tmps) = true then Oper.wp P o a w K Q else E := by
  subst hd
  have hw : Region.wanted o (yielded ops a.tmps) = true := by simp [Region.wanted, hg]
  rw [if_pos hw]
  obtain ⟨v', w', hr, h2, h3, h4⟩ := app_blockG (P := P) w t o.type e i z size bytes ht hi hz hsize hby hzs hsz base v n xs hown ad m c news hl hnews h1 h63 hbytes hbase
  unfold Oper.wp execOp
  simp only [hop, resolve, invoke, builtin, Sem.run_bind, Sem.run_pure, Result.andThen_ok, List.map_toArray, List.map_cons, List.map_nil, hs, hx, hr]
  exact h v' w' h2 h3 h4
theorem col_hp (l : ByteArray) : hp l ⟨#[58]⟩ = decide (colB l) := by
  have h := hp_pfx l ⟨#[58]⟩ [58] 0 (Nat.zero_le _) rfl (by decide)
  have e : l.extract 0 l.size = l := by apply ByteArray.ext; simp
  rw [e] at h
  rw [h, Bool.eq_iff_iff, decide_eq_true_eq]
  simp [pfx, colB]
/-- A pass behind a row of passes. -/
theorem pag_pass {lo : Nat} {w : World} {v : Value} {P : List Pa} (h : PaG lo w.heap.size w v P) (hlo : lo ≤ w.heap.size) :
    ∃ xs, w.ownsRow lo 37 2 v P.length xs ∧ ∀ (w1 w2 : World) (v' : Value) (g : Int), Below w.heap.size w w1 → w2.ownsRow lo 37 2 v' (P.length + 1) (xs ++ [.slice none 0 0, .int .i64 g]) → w1.grownBy w2 v.ownBlock → (∀ k, v'.ownBlock = some k → v.ownBlock = some k ∨ w1.heap.size ≤ k) → PaG lo w2.heap.size w2 v' (P ++ [([], g)]) := by
  obtain ⟨gs, xs, h1, h2, h3, h4⟩ := h
  exact ⟨xs, h1, fun w1 w2 v' g hb ho hg hk => pag_snoc (q := w.heap.size) h1 h2 h3 h4 (RuX.nil _ _) (Nat.le_refl _) hlo (Nat.le_refl _) hb ho hg hk⟩
theorem own_formZ {w : World} {B : Nat} {e : TypeId} {s : Nat} {v : Value} {n : Nat} {xs : List Value} (h : w.ownsRow B e s v (n + 1) xs) : ∃ g cap, v = .slice (some ⟨g, 0, none⟩) (n + 1) cap := by
  rcases h.2 with ⟨_, h'⟩ | ⟨g, cap, cur, hv, _⟩
  · omega
  · exact ⟨g, cap, hv⟩
theorem grown_belZ {w w' : World} {r : Option Nat} {B : Nat} (h : w.grownBy w' r) (hB : ∀ k, r = some k → B ≤ k) (hs : B ≤ w.heap.size) : Below B w w' := (Below.refl B w).grown h hs hB
theorem grow_low {lo : Nat} {w w1 w2 : World} {v : Value} {e : TypeId} {s n : Nat} {xs : List Value} (h : w.ownsRow lo e s v n xs) (hb : Below w.heap.size w w1) (hg : w1.grownBy w2 v.ownBlock) (hlo : lo ≤ w.heap.size) : Below lo w w2 :=
  (hb.mono hlo).trans (grown_belZ hg (fun k e => (own_lt h e).1) (Nat.le_trans hlo hb.size))
/-- What withLine answers. -/
def LineI (lo : Nat) (l : ByteArray) (P : List Pa) (w : World) (e : Ending) (w' : World) : Prop :=
  Below lo w w' ∧ (wl l P = none → ∃ v', e = .returned (.tuple #[v', .bool false])) ∧ ∀ Q, wl l P = some Q → ∃ v', e = .returned (.tuple #[v', .bool true]) ∧ PaG lo w'.heap.size w' v' Q
theorem LineI.no {lo : Nat} {l : ByteArray} {P : List Pa} {w w' : World} {v : Value} (hb : Below lo w w') (h : wl l P = none) : LineI lo l P w (.returned (.tuple #[v, .bool false])) w' :=
  ⟨hb, (fun _ => ⟨_, rfl⟩), (fun Q e => by rw [h] at e; cases e)⟩
theorem LineI.yes {lo : Nat} {l : ByteArray} {P Q : List Pa} {w w' : World} {v : Value} (hb : Below lo w w') (h : wl l P = some Q) (hg : PaG lo w'.heap.size w' v Q) : LineI lo l P w (.returned (.tuple #[v, .bool true])) w' :=
  ⟨hb, (fun e => by rw [h] at e; cases e), (fun Q' e => by rw [h] at e; injection e with e; subst e; exact ⟨_, rfl, hg⟩)⟩
theorem PaG.form {lo hi : Nat} {w : World} {v : Value} {P : List Pa} (h : PaG lo hi w v P) : ∃ a c, v = .slice a P.length c := h.pa.form
theorem nrm_rng (s : ByteArray) : -1 ≤ nrm s ∧ nrm s ≤ 4 := by
  unfold nrm
  repeat' split
  all_goals omega
set_option maxRecDepth 100000 in
set_option maxHeartbeats 8000000 in
theorem line_I (lo : Nat) (v : Value) (P : List Pa) (l : ByteArray) (w : World) (hlo : lo ≤ w.heap.size) (hG : PaG lo w.heap.size w v P) (hl : l.size ≤ 65536) (hm : Sm 65536 P) (hN : NamAt w) :
    Calls Tryd.prog 35 #[v, .string l] w fun e w' => LineI lo l P w e w' := by
  obtain ⟨i0, hi, hz0, hz1, hz2⟩ := info_parts infoWr
  obtain ⟨j0, hj, hy0, hy1, hy2⟩ := info_parts infoPass
  have CP := hide (cp_any l ⟨#[58]⟩ w)
  rw [col_hp] at CP
  have hPl := hm.1
  by_cases hc : colB l
  · rw [decide_eq_true hc, if_pos rfl] at CP
    have e1 : (⟨#[58]⟩ : ByteArray).size = 1 := rfl
    rw [e1] at CP
    have CN := hide (nn_any (l.extract 1 l.size) w hN)
    have HY := hide (fun h => wl_pass (P := P) hc h)
    have HW := hide (fun h => wl_none (P := P) hc h)
    have hr := nrm_rng (l.extract 1 l.size)
    generalize nrm (l.extract 1 l.size) = g at *
    generalize l.extract 1 l.size = m at *
    obtain ⟨xs, ho, HS'⟩ := pag_pass hG hlo
    have HS := hide HS'
    have O2 := hide (own_atP (w' := w.alloc (.cells #[.slice none 0 0, .int .i64 g] 37)) ho (fun n e => Below.heap_alloc _ _ _ (own_lt ho e).2))
    have HL := hide (fun w2 hg => grow_low (w2 := w2) ho (al1 w (.cells #[.slice none 0 0, .int .i64 g] 37)) hg hlo)
    obtain ⟨va, vc, rfl⟩ := hG.form
    clear hG ho HS' hN hm hc e1
    go_enter Tryd.func35, Tryd.ntmps35
    go_wp2_with (first
      | (go_at_call 53; refine (unhide CP).mono ?_; rintro e w' ⟨rfl, hw⟩; obtain rfl := hw.symm; clear hw)
      | (go_at_call 54; refine (unhide CN).mono ?_; rintro e w' ⟨rfl, hw⟩; obtain rfl := hw.symm; clear hw)
      | (at_builtin; refine wpList_appG _ rfl _ _ 23 rfl lo 37 j0 (.agg #[.slice none 0 0, .int .i64 0]) 2 32 Tryd.underlying23 hj hy0 hy1 hy2 rfl (by decide) _ _ _ rfl (unhide O2) ⟨w.heap.size, 0, none⟩ 1 1 [.slice none 0 0, .int .i64 g] rfl rfl (two_new w _ g 37) (two_one _ _ _ _) ?g3 ?g4 ?g5 ?_))
    case g3 => unfold maxLen; omega
    case g4 => omega
    case g5 => simp; omega
    intro v' w3 hown' hgrow hnew
    have B3 := hide ((unhide HL) w3 hgrow)
    have G3 := hide ((unhide HS) _ w3 v' g (al1 w (.cells #[.slice none 0 0, .int .i64 g] 37)) hown' hgrow (by intro n e; have := hnew n e; simpa using this))
    clear hown' hgrow hnew HS O2 HL
    by_cases hg0 : 0 ≤ g
    · have HE := hide ((unhide HY) hg0)
      clear HY HW
      go_wp2
      go_ret2
      exact LineI.yes (unhide B3) (unhide HE) (unhide G3)
    · have HE := hide ((unhide HW) (by omega))
      clear HY HW
      go_wp2
      go_ret2
      exact LineI.no (unhide B3) (unhide HE)
  · rw [decide_eq_false hc, if_neg Bool.false_ne_true] at CP
    have CR := hide (rule_any l w (by omega))
    have HY := hide (fun h1 h2 => wl_rule (P := P) hc h1 h2)
    have HW := hide (fun h => wl_no (P := P) hc h)
    generalize ruI l = R at *
    obtain ⟨⟨ta, tb, tc, td, tg⟩, q⟩ := R
    unfold rv at CR
    simp only at CR HY HW
    clear hN hc
    cases q with
    | false =>
      have HE := hide ((unhide HW) (fun h => Bool.false_ne_true h.1))
      obtain ⟨va, vc, rfl⟩ := hG.form
      clear HY HW hG hm
      go_enter Tryd.func35, Tryd.ntmps35
      go_wp2_with (first
        | (go_at_call 53; refine (unhide CP).mono ?_; rintro e w' ⟨rfl, hw⟩; obtain rfl := hw.symm; clear hw)
        | (go_at_call 55; refine (unhide CR).mono ?_; rintro e w1 ⟨rfl, hb1⟩; have B1 := hide ((hb1.mono hlo).trans ((al1 w1 (.cells #[.string ta, .string tb, .string tc, .string td, .int .i64 tg] 40)).mono (Nat.le_trans hlo hb1.size))); clear hb1))
      go_ret2
      exact LineI.no (unhide B1) (unhide HE)
    | true =>
      by_cases hp : 0 < P.length
      · have HE := hide ((unhide HY) rfl hp)
        clear HY HW
        obtain ⟨n, hn⟩ : ∃ n, P.length = n + 1 := ⟨P.length - 1, by omega⟩
        have hLn := (hm.2 n (by omega)).1
        obtain ⟨gv, cap, u, xs, rfl, hgl, hgs, hcu, hfu, ⟨ua, uc, hue⟩, hxl, hown, huv, HA'⟩ := pag_add hG hn (Nat.le_refl _)
        have HA := hide (fun w1 w2 u' => HA' w1 w2 u' (ta, tb, tc, td, tg))
        have ho' := hide hown
        have hul : ∀ k, u.ownBlock = some k → lo ≤ k ∧ k < w.heap.size := fun k e => own_lt hown e
        have hxl' := hide hxl
        have HN := hide hn
        have hn6 : n ≤ 65536 := by omega
        clear hG HA' hm hown hxl hp hn
        generalize addR P (ta, tb, tc, td, tg) = Q at *
        generalize (gp P n).1.length = m at *
        subst hue
        have hn1 : ((n + 1 : Nat) : Int) - 1 = (n : Int) := by omega
        have h0n : (0 : Int) ≤ (n : Int) := by omega
        have hnn : (n : Int) < ((n + 1 : Nat) : Int) := by omega
        have hne : (((n + 1 : Nat) : Int) == 0) = false := by rw [beq_eq_false_iff_ne]; omega
        go_enter Tryd.func35, Tryd.ntmps35
        go_wp2_with (first
          | (go_at_call 53; refine (unhide CP).mono ?_; rintro e w' ⟨rfl, hw⟩; obtain rfl := hw.symm; clear hw)
          | (go_at_call 55; refine (unhide CR).mono ?_; rintro e w1 ⟨rfl, hb1⟩; have B1 := hide hb1; have d1 := (hb1.cell (p := ⟨gv, n * 2, none⟩) hgs).trans hcu; have hs1 := hb1.size; clear hb1))
        --W
        obtain ⟨⟨b0, b1, b2, b3, b4⟩, _⟩ := five_cellsU (heap_new w1 (.cells #[.string ta, .string tb, .string tc, .string td, .int .i64 tg] 40))
        have KS : (fun w' => w'.cell? ⟨w1.heap.size, 0, none⟩ = some (.string ta) ∧ w'.cell? ⟨w1.heap.size, 1, none⟩ = some (.string tb) ∧ w'.cell? ⟨w1.heap.size, 2, none⟩ = some (.string tc) ∧ w'.cell? ⟨w1.heap.size, 3, none⟩ = some (.string td) ∧ w'.cell? ⟨w1.heap.size, 4, none⟩ = some (.int .i64 tg)) (w1.alloc (.cells #[.string ta, .string tb, .string tc, .string td, .int .i64 tg] 40)) := ⟨b0, b1, b2, b3, b4⟩
        refine wp_region_held_drew (S := fun w' => w'.cell? ⟨w1.heap.size, 0, none⟩ = some (.string ta) ∧ w'.cell? ⟨w1.heap.size, 1, none⟩ = some (.string tb) ∧ w'.cell? ⟨w1.heap.size, 2, none⟩ = some (.string tc) ∧ w'.cell? ⟨w1.heap.size, 3, none⟩ = some (.string td) ∧ w'.cell? ⟨w1.heap.size, 4, none⟩ = some (.int .i64 tg)) (by kernel_rfl) (by exact KS) (fun hHeld => ?_)
        refine tkP (i := 0) (d := some 44) (v := ?_) rfl rfl (by kernel_rfl) (by kernel_rfl) (by kernel_rfl) (fun _ _ _ h => h) (Or.inl ⟨by rfl, ?_⟩) (by assumption) ?_
        rotate_left
        · intro w hSw; (try dsimp only at hSw); go_simp; try with_reducible rfl
        try simp only [Act.put, List.setIfInBounds_toArray, List.set_cons_zero, List.set_cons_succ]
        refine tkP (i := 1) (d := some 45) (v := ?_) rfl rfl (by kernel_rfl) (by kernel_rfl) (by kernel_rfl) (fun _ _ _ h => h) (Or.inl ⟨by rfl, ?_⟩) (by assumption) ?_
        rotate_left
        · intro w hSw; (try dsimp only at hSw); go_simp; try with_reducible rfl
        try simp only [Act.put, List.setIfInBounds_toArray, List.set_cons_zero, List.set_cons_succ]
        refine tkP (i := 2) (d := some 46) (v := ?_) rfl rfl (by kernel_rfl) (by kernel_rfl) (by kernel_rfl) (fun _ _ _ h => h) (Or.inl ⟨by rfl, ?_⟩) (by assumption) ?_
        rotate_left
        · intro w hSw; (try dsimp only at hSw); go_simp; try with_reducible rfl
        try simp only [Act.put, List.setIfInBounds_toArray, List.set_cons_zero, List.set_cons_succ]
        refine tkP (i := 3) (d := some 47) (v := ?_) rfl rfl (by kernel_rfl) (by kernel_rfl) (by kernel_rfl) (fun _ _ _ h => h) (Or.inl ⟨by rfl, ?_⟩) (by assumption) ?_
        rotate_left
        · intro w hSw; (try dsimp only at hSw); go_simp; try with_reducible rfl
        try simp only [Act.put, List.setIfInBounds_toArray, List.set_cons_zero, List.set_cons_succ]
        refine tkP (i := 5) (d := some 49) (v := ?_) rfl rfl (by kernel_rfl) (by kernel_rfl) (by kernel_rfl) (fun _ _ _ h => h) (Or.inl ⟨by rfl, ?_⟩) (by assumption) ?_
        rotate_left
        · intro w hSw; (try dsimp only at hSw); go_simp; try with_reducible rfl
        try simp only [Act.put, List.setIfInBounds_toArray, List.set_cons_zero, List.set_cons_succ]
        clear KS b0 b1 b2 b3 b4 d1
        have Bd := hide (((unhide B1).trans ((al1 w1 (.cells #[.string ta, .string tb, .string tc, .string td, .int .i64 tg] 40)).mono hs1)).trans ((drewB (w1.alloc (.cells #[.string ta, .string tb, .string tc, .string td, .int .i64 tg] 40))).mono (by simp; omega)))
        have hb5 := (five_cellsU (w := (w1.alloc (.cells #[.string ta, .string tb, .string tc, .string td, .int .i64 tg] 40)).drew) (heap_new w1 (.cells #[.string ta, .string tb, .string tc, .string td, .int .i64 tg] 40))).1
        have hw1 : w1.heap.size < (w1.alloc (.cells #[.string ta, .string tb, .string tc, .string td, .int .i64 tg] 40)).drew.heap.size := by show w1.heap.size < (w1.alloc (.cells #[.string ta, .string tb, .string tc, .string td, .int .i64 tg] 40)).heap.size; simp
        generalize (w1.alloc (.cells #[.string ta, .string tb, .string tc, .string td, .int .i64 tg] 40)).drew = yd at *
        have hsd := (unhide Bd).size
        have Be := hide ((unhide Bd).trans ((al1 yd (.cells #[.string ta, .string tb, .string tc, .string td, .int .i64 tg] 40)).mono hsd))
        have c0 := ((unhide Bd).cell (p := ⟨gv, n * 2, none⟩) hgs).trans hcu
        have k0 := ((unhide Be).cell (p := ⟨gv, n * 2, none⟩) hgs).trans hcu
        have k1 := ((al1 yd (.cells #[.string ta, .string tb, .string tc, .string td, .int .i64 tg] 40)).cell (p := ⟨w1.heap.size, 0, none⟩) hw1).trans hb5.1
        have k2 := ((al1 yd (.cells #[.string ta, .string tb, .string tc, .string td, .int .i64 tg] 40)).cell (p := ⟨w1.heap.size, 1, none⟩) hw1).trans hb5.2.1
        have k3 := ((al1 yd (.cells #[.string ta, .string tb, .string tc, .string td, .int .i64 tg] 40)).cell (p := ⟨w1.heap.size, 2, none⟩) hw1).trans hb5.2.2.1
        have k4 := ((al1 yd (.cells #[.string ta, .string tb, .string tc, .string td, .int .i64 tg] 40)).cell (p := ⟨w1.heap.size, 3, none⟩) hw1).trans hb5.2.2.2.1
        have k5 := ((al1 yd (.cells #[.string ta, .string tb, .string tc, .string td, .int .i64 tg] 40)).cell (p := ⟨w1.heap.size, 4, none⟩) hw1).trans hb5.2.2.2.2
        refine wpAnyH_ready (rs := [4, 6]) (by kernel_rfl) (by simp) (AllReadyH.cons rfl (fun K hK => ?_) (AllReadyH.cons rfl (fun K hK => ?_) AllReadyH.nil))
        · go_simp
          refine hK.out _ _ hb5 (fun hHeld7 => ?_)
          clear hK K
          try simp only [Act.put, List.setIfInBounds_toArray, List.set_cons_zero, List.set_cons_succ]
          refine wpAnyH_ready (rs := [6]) (by kernel_rfl) (by simp) (AllReadyH.cons rfl (fun K hK => ?_) AllReadyH.nil)
          go_simp
          refine hK.out _ _ ⟨k1, k2, k3, k4, k5⟩ (fun hHeld8 => ?_)
          clear hK K
          try simp only [Act.put, List.setIfInBounds_toArray, List.set_cons_zero, List.set_cons_succ]
          have O2 := hide (own_atP (w' := (yd.alloc (.cells #[.string ta, .string tb, .string tc, .string td, .int .i64 tg] 40))) (unhide ho') (fun q e => (unhide Be).block q (hul q e).2))
          refine wpAnyH_ready (rs := [7]) (by kernel_rfl) (by simp) (AllReadyH.cons rfl (fun K hK => ?_) AllReadyH.nil)
          refine step_appP (some 51) rfl rfl (.tmp 48) (.tmp 50) 35 rfl lo 40 i0 (.agg #[.string ⟨#[]⟩, .string ⟨#[]⟩, .string ⟨#[]⟩, .string ⟨#[]⟩, .int .i64 0]) 5 72 Tryd.underlying35 hi hz0 hz1 hz2 rfl (by decide) (.slice ua m uc) m xs (by rfl) (unhide O2) ⟨yd.heap.size, 0, none⟩ 1 1 (cells5 (ta, tb, tc, td, tg)) (by rfl) rfl (five_new yd (ta, tb, tc, td, tg) 40) (five_one _) ?g3 ?g4 ?g5 ?_
          case g3 => unfold maxLen; omega
          case g4 => omega
          case g5 => simp; omega
          intro u' w2 hown' hgrow hnew
          have G3 := hide ((unhide HA) (yd.alloc (.cells #[.string ta, .string tb, .string tc, .string td, .int .i64 tg] 40)) w2 u' (unhide Be) hown' hgrow hnew)
          have hgb := hgrow.block gv (by have := (unhide Be).size; omega) (fun e => huv e.symm)
          have q0 : w2.cell? ⟨gv, n * 2, none⟩ = some (.slice ua m uc) := by rw [← k0]; simp only [World.cell?, hgb]
          have qf : w2.frozen? ⟨gv, n * 2, none⟩ = false := by have e := (unhide Be).block gv hgs; rw [← hfu]; simp only [World.frozen?, hgb, e]
          have hwn : w2.heap[w1.heap.size]? = (yd.alloc (.cells #[.string ta, .string tb, .string tc, .string td, .int .i64 tg] 40)).heap[w1.heap.size]? := hgrow.block w1.heap.size (by simp; omega) (fun e => by have := (hul _ e.symm).2; omega)
          have q1 : w2.cell? ⟨w1.heap.size, 0, none⟩ = some (.string ta) := by rw [← k1]; simp only [World.cell?, hwn]
          have q2 : w2.cell? ⟨w1.heap.size, 1, none⟩ = some (.string tb) := by rw [← k2]; simp only [World.cell?, hwn]
          have q3 : w2.cell? ⟨w1.heap.size, 2, none⟩ = some (.string tc) := by rw [← k3]; simp only [World.cell?, hwn]
          have q4 : w2.cell? ⟨w1.heap.size, 3, none⟩ = some (.string td) := by rw [← k4]; simp only [World.cell?, hwn]
          have q5 : w2.cell? ⟨w1.heap.size, 4, none⟩ = some (.int .i64 tg) := by rw [← k5]; simp only [World.cell?, hwn]
          have B3 := hide (grow_low (unhide ho') (unhide Be) hgrow hlo)
          obtain ⟨g', cap', hue'⟩ := own_formZ hown'
          refine hK.out _ _ ⟨q1, q2, q3, q4, q5⟩ (fun hHeld9 => ?_)
          clear hK K
          try simp only [Act.put, List.setIfInBounds_toArray, List.set_cons_zero, List.set_cons_succ]
          refine tkP (i := 8) (d := some 52) (v := ?_) rfl rfl (by kernel_rfl) (by kernel_rfl) (by kernel_rfl) (fun _ _ _ h => h) (Or.inl ⟨by rfl, ?_⟩) (by assumption) ?_
          rotate_left
          · intro w hSw; (try dsimp only at hSw); go_simp; try with_reducible rfl
          try simp only [Act.put, List.setIfInBounds_toArray, List.set_cons_zero, List.set_cons_succ]
          refine tkP (i := 9) (d := some 53) (v := ?_) rfl rfl (by kernel_rfl) (by kernel_rfl) (by kernel_rfl) (fun _ _ _ h => h) (Or.inl ⟨by rfl, ?_⟩) (by assumption) ?_
          rotate_left
          · intro w hSw; (try dsimp only at hSw); go_simp; try with_reducible rfl
          try simp only [Act.put, List.setIfInBounds_toArray, List.set_cons_zero, List.set_cons_succ]
          clear hown' hgrow hnew hgb hwn
          have hgw : w1.heap.size ≠ gv := by omega
          subst hue'
          have B4 := hide ((unhide B3).setCell (p := ⟨gv, n * 2, none⟩) hgl (.slice (some ⟨g', 0, none⟩) (m + 1) cap'))
          have hs4 : (w2.setCell ⟨gv, n * 2, none⟩ (.slice (some ⟨g', 0, none⟩) (m + 1) cap')).heap.size = w2.heap.size := by simp
          have hbk := heap_setCell_other w2 ⟨gv, n * 2, none⟩ w1.heap.size (.slice (some ⟨g', 0, none⟩) (m + 1) cap') hgw
          have p1 : (w2.setCell ⟨gv, n * 2, none⟩ (.slice (some ⟨g', 0, none⟩) (m + 1) cap')).cell? ⟨w1.heap.size, 0, none⟩ = some (.string ta) := by rw [← q1]; simp only [World.cell?, hbk]
          have p2 : (w2.setCell ⟨gv, n * 2, none⟩ (.slice (some ⟨g', 0, none⟩) (m + 1) cap')).cell? ⟨w1.heap.size, 1, none⟩ = some (.string tb) := by rw [← q2]; simp only [World.cell?, hbk]
          have p3 : (w2.setCell ⟨gv, n * 2, none⟩ (.slice (some ⟨g', 0, none⟩) (m + 1) cap')).cell? ⟨w1.heap.size, 2, none⟩ = some (.string tc) := by rw [← q3]; simp only [World.cell?, hbk]
          have p4 : (w2.setCell ⟨gv, n * 2, none⟩ (.slice (some ⟨g', 0, none⟩) (m + 1) cap')).cell? ⟨w1.heap.size, 3, none⟩ = some (.string td) := by rw [← q4]; simp only [World.cell?, hbk]
          have p5 : (w2.setCell ⟨gv, n * 2, none⟩ (.slice (some ⟨g', 0, none⟩) (m + 1) cap')).cell? ⟨w1.heap.size, 4, none⟩ = some (.int .i64 tg) := by rw [← q5]; simp only [World.cell?, hbk]
          refine wpAnyH_ready (rs := [10]) (by kernel_rfl) (by simp) (AllReadyH.cons rfl (fun K hK => ?_) AllReadyH.nil)
          go_simp
          refine hK.out _ _ ⟨p1, p2, p3, p4, p5⟩ (fun hHeld10 => ?_)
          clear hK K
          try simp only [Act.put, List.setIfInBounds_toArray, List.set_cons_zero, List.set_cons_succ]
          refine wpAnyH_done (by kernel_rfl) ?_ _
          clear p1 p2 p3 p4 p5 q1 q2 q3 q4 q5 k1 k2 k3 k4 k5 hbk
          rw [← hs4] at G3
          clear hs4
          generalize (w2.setCell ⟨gv, n * 2, none⟩ (.slice (some ⟨g', 0, none⟩) (m + 1) cap')) = w5 at *
          go_wp2
          go_ret2
          exact LineI.yes (unhide B4) (unhide HE) (unhide G3)
        · go_simp
          refine hK.out _ _ ⟨k1, k2, k3, k4, k5⟩ (fun hHeld7 => ?_)
          clear hK K
          try simp only [Act.put, List.setIfInBounds_toArray, List.set_cons_zero, List.set_cons_succ]
          refine wpAnyH_ready (rs := [4]) (by kernel_rfl) (by simp) (AllReadyH.cons rfl (fun K hK => ?_) AllReadyH.nil)
          go_simp
          refine hK.out _ _ ⟨k1, k2, k3, k4, k5⟩ (fun hHeld8 => ?_)
          clear hK K
          try simp only [Act.put, List.setIfInBounds_toArray, List.set_cons_zero, List.set_cons_succ]
          have O2 := hide (own_atP (w' := (yd.alloc (.cells #[.string ta, .string tb, .string tc, .string td, .int .i64 tg] 40))) (unhide ho') (fun q e => (unhide Be).block q (hul q e).2))
          refine wpAnyH_ready (rs := [7]) (by kernel_rfl) (by simp) (AllReadyH.cons rfl (fun K hK => ?_) AllReadyH.nil)
          refine step_appP (some 51) rfl rfl (.tmp 48) (.tmp 50) 35 rfl lo 40 i0 (.agg #[.string ⟨#[]⟩, .string ⟨#[]⟩, .string ⟨#[]⟩, .string ⟨#[]⟩, .int .i64 0]) 5 72 Tryd.underlying35 hi hz0 hz1 hz2 rfl (by decide) (.slice ua m uc) m xs (by rfl) (unhide O2) ⟨yd.heap.size, 0, none⟩ 1 1 (cells5 (ta, tb, tc, td, tg)) (by rfl) rfl (five_new yd (ta, tb, tc, td, tg) 40) (five_one _) ?g3 ?g4 ?g5 ?_
          case g3 => unfold maxLen; omega
          case g4 => omega
          case g5 => simp; omega
          intro u' w2 hown' hgrow hnew
          have G3 := hide ((unhide HA) (yd.alloc (.cells #[.string ta, .string tb, .string tc, .string td, .int .i64 tg] 40)) w2 u' (unhide Be) hown' hgrow hnew)
          have hgb := hgrow.block gv (by have := (unhide Be).size; omega) (fun e => huv e.symm)
          have q0 : w2.cell? ⟨gv, n * 2, none⟩ = some (.slice ua m uc) := by rw [← k0]; simp only [World.cell?, hgb]
          have qf : w2.frozen? ⟨gv, n * 2, none⟩ = false := by have e := (unhide Be).block gv hgs; rw [← hfu]; simp only [World.frozen?, hgb, e]
          have hwn : w2.heap[w1.heap.size]? = (yd.alloc (.cells #[.string ta, .string tb, .string tc, .string td, .int .i64 tg] 40)).heap[w1.heap.size]? := hgrow.block w1.heap.size (by simp; omega) (fun e => by have := (hul _ e.symm).2; omega)
          have q1 : w2.cell? ⟨w1.heap.size, 0, none⟩ = some (.string ta) := by rw [← k1]; simp only [World.cell?, hwn]
          have q2 : w2.cell? ⟨w1.heap.size, 1, none⟩ = some (.string tb) := by rw [← k2]; simp only [World.cell?, hwn]
          have q3 : w2.cell? ⟨w1.heap.size, 2, none⟩ = some (.string tc) := by rw [← k3]; simp only [World.cell?, hwn]
          have q4 : w2.cell? ⟨w1.heap.size, 3, none⟩ = some (.string td) := by rw [← k4]; simp only [World.cell?, hwn]
          have q5 : w2.cell? ⟨w1.heap.size, 4, none⟩ = some (.int .i64 tg) := by rw [← k5]; simp only [World.cell?, hwn]
          have B3 := hide (grow_low (unhide ho') (unhide Be) hgrow hlo)
          obtain ⟨g', cap', hue'⟩ := own_formZ hown'
          refine hK.out _ _ ⟨q1, q2, q3, q4, q5⟩ (fun hHeld9 => ?_)
          clear hK K
          try simp only [Act.put, List.setIfInBounds_toArray, List.set_cons_zero, List.set_cons_succ]
          refine tkP (i := 8) (d := some 52) (v := ?_) rfl rfl (by kernel_rfl) (by kernel_rfl) (by kernel_rfl) (fun _ _ _ h => h) (Or.inl ⟨by rfl, ?_⟩) (by assumption) ?_
          rotate_left
          · intro w hSw; (try dsimp only at hSw); go_simp; try with_reducible rfl
          try simp only [Act.put, List.setIfInBounds_toArray, List.set_cons_zero, List.set_cons_succ]
          refine tkP (i := 9) (d := some 53) (v := ?_) rfl rfl (by kernel_rfl) (by kernel_rfl) (by kernel_rfl) (fun _ _ _ h => h) (Or.inl ⟨by rfl, ?_⟩) (by assumption) ?_
          rotate_left
          · intro w hSw; (try dsimp only at hSw); go_simp; try with_reducible rfl
          try simp only [Act.put, List.setIfInBounds_toArray, List.set_cons_zero, List.set_cons_succ]
          clear hown' hgrow hnew hgb hwn
          have hgw : w1.heap.size ≠ gv := by omega
          subst hue'
          have B4 := hide ((unhide B3).setCell (p := ⟨gv, n * 2, none⟩) hgl (.slice (some ⟨g', 0, none⟩) (m + 1) cap'))
          have hs4 : (w2.setCell ⟨gv, n * 2, none⟩ (.slice (some ⟨g', 0, none⟩) (m + 1) cap')).heap.size = w2.heap.size := by simp
          have hbk := heap_setCell_other w2 ⟨gv, n * 2, none⟩ w1.heap.size (.slice (some ⟨g', 0, none⟩) (m + 1) cap') hgw
          have p1 : (w2.setCell ⟨gv, n * 2, none⟩ (.slice (some ⟨g', 0, none⟩) (m + 1) cap')).cell? ⟨w1.heap.size, 0, none⟩ = some (.string ta) := by rw [← q1]; simp only [World.cell?, hbk]
          have p2 : (w2.setCell ⟨gv, n * 2, none⟩ (.slice (some ⟨g', 0, none⟩) (m + 1) cap')).cell? ⟨w1.heap.size, 1, none⟩ = some (.string tb) := by rw [← q2]; simp only [World.cell?, hbk]
          have p3 : (w2.setCell ⟨gv, n * 2, none⟩ (.slice (some ⟨g', 0, none⟩) (m + 1) cap')).cell? ⟨w1.heap.size, 2, none⟩ = some (.string tc) := by rw [← q3]; simp only [World.cell?, hbk]
          have p4 : (w2.setCell ⟨gv, n * 2, none⟩ (.slice (some ⟨g', 0, none⟩) (m + 1) cap')).cell? ⟨w1.heap.size, 3, none⟩ = some (.string td) := by rw [← q4]; simp only [World.cell?, hbk]
          have p5 : (w2.setCell ⟨gv, n * 2, none⟩ (.slice (some ⟨g', 0, none⟩) (m + 1) cap')).cell? ⟨w1.heap.size, 4, none⟩ = some (.int .i64 tg) := by rw [← q5]; simp only [World.cell?, hbk]
          refine wpAnyH_ready (rs := [10]) (by kernel_rfl) (by simp) (AllReadyH.cons rfl (fun K hK => ?_) AllReadyH.nil)
          go_simp
          refine hK.out _ _ ⟨p1, p2, p3, p4, p5⟩ (fun hHeld10 => ?_)
          clear hK K
          try simp only [Act.put, List.setIfInBounds_toArray, List.set_cons_zero, List.set_cons_succ]
          refine wpAnyH_done (by kernel_rfl) ?_ _
          clear p1 p2 p3 p4 p5 q1 q2 q3 q4 q5 k1 k2 k3 k4 k5 hbk
          rw [← hs4] at G3
          clear hs4
          generalize (w2.setCell ⟨gv, n * 2, none⟩ (.slice (some ⟨g', 0, none⟩) (m + 1) cap')) = w5 at *
          go_wp2
          go_ret2
          exact LineI.yes (unhide B4) (unhide HE) (unhide G3)
      · have hp0 : P.length = 0 := by omega
        have HE := hide ((unhide HW) (fun h => hp h.2))
        obtain ⟨va, vc, hve⟩ := hG.form
        rw [hp0] at hve
        subst hve
        clear HY HW hG hm hp hp0
        go_enter Tryd.func35, Tryd.ntmps35
        go_wp2_with (first
          | (go_at_call 53; refine (unhide CP).mono ?_; rintro e w' ⟨rfl, hw⟩; obtain rfl := hw.symm; clear hw)
          | (go_at_call 55; refine (unhide CR).mono ?_; rintro e w1 ⟨rfl, hb1⟩; have B1 := hide ((hb1.mono hlo).trans ((al1 w1 (.cells #[.string ta, .string tb, .string tc, .string td, .int .i64 tg] 40)).mono (Nat.le_trans hlo hb1.size))); clear hb1))
        go_ret2
        exact LineI.no (unhide B1) (unhide HE)
end Go.Proofs.YtklakcnapdhcnaaDoor.Pas
