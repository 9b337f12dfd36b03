/- A row of glyphs copied by append; the program's ApplyRules. -/
import Derived.Test.YtccnjjkechdknaaRulK
namespace Go.Proofs.Ytccnjjkechdknaa.Rul
open Go.RowKit
set_option linter.unusedVariables false
/-- Behind an append to a row that is not nil there is one that is not nil. -/
theorem app_some {P : Program} (w : World) (t ty e : TypeId) (i : TypeInfo) (z : Value) (size bytes : Nat) (ht : P.underlying t = some (.slice e)) (hi : P.info? e = some i) (hz : i.zero = some z) (hsize : i.size = size) (hby : i.bytes = bytes) (hzs : z.cells.size = size) (hsz : 0 < size)
    (base g cap : Nat) (n : Nat) (xs : List Value) (hown : w.ownsRow base e size (.slice (some ⟨g, 0, none⟩) n cap) n xs) (a : Addr) (m c : Nat) (news : List Value) (hl : news.length = m * size) (hn : ∀ j u, news[j]? = some u → w.cell? (a.add j) = some u) (h1 : ∀ u ∈ news, u.oneCell' = true)
    (h63 : n + m ≤ maxLen) (hbytes : (n + m) * bytes ≤ 140737488355328) (hbase : base ≤ w.heap.size) :
    ∃ g' c' w', (Builtin.append_ #[t, t] ty #[.slice (some ⟨g, 0, none⟩) n cap, .slice (some a) m c]).run P w = .ok (.slice (some ⟨g', 0, none⟩) (n + m) c') w' ∧ w'.ownsRow base e size (.slice (some ⟨g', 0, none⟩) (n + m) c') (n + m) (xs ++ news) ∧ w.grownBy w' (some g) := by
  obtain ⟨v', w', hr, ho, hg, _⟩ := app_blockG (P := P) w t ty e i z size bytes ht hi hz hsize hby hzs hsz base (.slice (some ⟨g, 0, none⟩) n cap) n xs hown a m c news hl hn h1 h63 hbytes hbase
  rcases ho.2 with ⟨hv, h0⟩ | ⟨g', cap', cur, hv, _⟩
  · exfalso
    rcases hown.2 with ⟨hv2, _⟩ | ⟨g2, cap2, cur, hv2, hbg, hgg, hnc, hcm, hcs, htake⟩
    · cases hv2
    · injection hv2 with e1 e2 e3
      injection e1 with e1
      injection e1 with e1
      subst e1 e3
      have hr2 := run_append_room (P := P) w t ty e i ht hi g n cap cur hgg a m c news (by rw [hsize]; exact hl) hn h1 (by omega) (by rw [hsize, hl, ← Nat.add_mul, hcs]; exact Nat.mul_le_mul_right _ (by omega))
      have e : v' = .slice (some ⟨g, 0, none⟩) (n + m) cap := by have := hr.symm.trans hr2; injection this
      rw [hv] at e
      cases e
  · subst hv
    exact ⟨g', cap', w', hr, ho, hg⟩
theorem wpList_appS {P : Program} (w : World) {ops : Array Oper} {rest : List Oper} {o : Oper} {a : Act} {Q : Exit → Act → World → Prop} (hgd : o.guard = none) (s x : Operand) (t : TypeId)
    (ho : o.op = .call { callee := .builtin .append, args := #[s, x], argTypes := #[t, t] })
    (base : Nat) (e : TypeId) (i : TypeInfo) (z : Value) (size bytes : Nat) (ht : P.underlying t = some (.slice e)) (hi : P.info? e = some i) (hz : i.zero = some z) (hsize : i.size = size) (hby : i.bytes = bytes) (hzs : z.cells.size = size) (hsz : 0 < size)
    (g cap : Nat) (n : Nat) (xs : List Value) (hs : a.eval s = .slice (some ⟨g, 0, none⟩) n cap) (hown : w.ownsRow base e size (.slice (some ⟨g, 0, none⟩) n cap) n xs) (ad : Addr) (m c : Nat) (news : List Value) (hx : a.eval x = .slice (some ad) m c) (hl : news.length = m * size) (hn : ∀ j u, news[j]? = some u → w.cell? (ad.add j) = some u) (h1 : ∀ u ∈ news, u.oneCell' = true)
    (h63 : n + m ≤ maxLen) (hbytes : (n + m) * bytes ≤ 140737488355328) (hbase : base ≤ w.heap.size)
    (h : ∀ g' c' w', w'.ownsRow base e size (.slice (some ⟨g', 0, none⟩) (n + m) c') (n + m) (xs ++ news) → w.grownBy w' (some g) → wpList P ops Q rest (a.put o.dst (.slice (some ⟨g', 0, none⟩) (n + m) c')) w') : wpList P ops Q (o :: rest) a w := by
  refine wpList_plain hgd fun K hK => ?_
  obtain ⟨g', c', w', hr, h2, h3⟩ := app_some (P := P) w t o.type e i z size bytes ht hi hz hsize hby hzs hsz base g cap n xs hown ad m c news hl hn h1 h63 hbytes hbase
  unfold Oper.wp execOp
  simp only [ho, resolve, invoke, builtin, Sem.run_bind, Sem.run_pure, Result.andThen_ok, List.map_toArray, List.map_cons, List.map_nil, hs, hx, hr]
  exact hK _ _ (h g' c' w' h2 h3)
theorem ga_news {w : World} {b off n c : Nat} {G : List Gl} (h : GA w (.slice (some ⟨b, off, none⟩) n c) G) : ∀ j u, ((flt G).map (Value.int .i64))[j]? = some u → w.cell? ((⟨b, off, none⟩ : Addr).add j) = some u := by
  intro j u hj
  obtain ⟨a, cap, e, h⟩ := h
  injection e with e1 e2 e3
  rcases h with rfl | ⟨b', off', e4, hb, hc⟩
  · simp [flt] at hj
  · rw [← e1] at e4
    injection e4 with e5
    injection e5 with e6 e7
    subst e6 e7
    rw [List.getElem?_map] at hj
    have hl : j < (flt G).length := by
      by_cases hj2 : j < (flt G).length
      · exact hj2
      · rw [List.getElem?_eq_none (by omega)] at hj; cases hj
    have hl2 := hl
    rw [flt_len] at hl2
    have hn : (flt G)[j]? = some (nth (flt G) j) := by simp [nth, List.getD, hl]
    rw [hn] at hj
    simp at hj
    subst hj
    have := hc j hl2
    have ea : (⟨b, off, none⟩ : Addr).add j = ⟨b, off + j, none⟩ := by
      simp [Addr.add]
    rw [ea]
    exact this
theorem ints_one (L : List Int) : ∀ u ∈ L.map (Value.int .i64), u.oneCell' = true := by
  intro u hu
  obtain ⟨x, _, rfl⟩ := List.mem_map.1 hu
  rfl
/-- What a copy by append to an empty row gives. -/
theorem copy_gn {w w3 : World} {o : Obj} {g' c' n : Nat} {G : List Gl} (hn : n = G.length) (hown : w3.ownsRow w.heap.size 71 5 (.slice (some ⟨g', 0, none⟩) n c') n ((flt G).map (Value.int .i64))) (hgrow : (w.alloc o).grownBy w3 (some w.heap.size)) : GN w w3 (.slice (some ⟨g', 0, none⟩) n c') G := by
  refine ⟨_, _, _, rfl, hn, ⟨_, rfl⟩, hown, ?_⟩
  have b1 := (Below.refl w.heap.size w).alloc (Nat.le_refl _) o
  exact b1.trans ((Below.refl _ _).grown hgrow b1.size (fun k hk => by injection hk with e; omega))
theorem not_nil (x : Addr) (n c : Nat) (W : World) : (binOp BinOp.eql 40 (.slice (some x) n c) (.slice none 0 0)).run Try.prog W = .ok (.bool false) W := by kernel_rfl
set_option maxRecDepth 100000 in
set_option maxHeartbeats 4000000 in
theorem clone_any (b off n c : Nat) (G : List Gl) (w : World) (hG : GA w (.slice (some ⟨b, off, none⟩) n c) G) (hn : n = G.length) (lG : G.length ≤ 1000) :
    Calls Try.prog 38 #[.slice (some ⟨b, off, none⟩) n c] w fun e w' => ∃ v', e = .returned v' ∧ GN w w' v' G := by
  obtain ⟨i0, hi, hz0, hz1, hz2⟩ := info_parts infoG
  have HN := hide (ga_news (hG.below ((Below.refl w.heap.size w).alloc (Nat.le_refl _) (.cells #[] 71))))
  have NN := fun W => not_nil ⟨b, off, none⟩ n c W
  have HL := hide hn
  have hn2 : n ≤ 1000 := by omega
  have HF : Hid (((flt G).map (Value.int .i64)).length = n * 5) := hide (by rw [List.length_map, flt_len, hn])
  have HO : Hid ((w.alloc (.cells #[] 71)).ownsRow w.heap.size 71 5 (.slice (some ⟨w.heap.size, 0, none⟩) 0 0) 0 []) := hide (World.ownsRow_lit w #[] 0 (Nat.le_refl _) (by unfold maxLen; omega) rfl)
  clear hG hn
  go_enter Try.func38, Try.ntmps38
  go_wp2_with (at_builtin; go_loud (refine wpList_appS _ rfl _ _ 40 rfl w.heap.size 71 i0 (.agg #[.int .i64 0, .int .i64 0, .int .i64 0, .int .i64 0, .int .i64 0]) 5 40 Try.underlying40 hi hz0 hz1 hz2 rfl (by decide) _ _ _ [] rfl (unhide HO) ⟨b, off, none⟩ n c ((flt G).map (Value.int .i64)) rfl (unhide HF) (unhide HN) (ints_one _) (by unfold maxLen; omega) (by omega) (by simp) ?_))
  intro g' c' w3 hown hgrow
  have R := hide (copy_gn (unhide HL) hown hgrow)
  clear hown hgrow
  go_wp2
  go_ret
  exact ⟨_, rfl, unhide R⟩
set_option maxRecDepth 100000 in
set_option maxHeartbeats 8000000 in
theorem implA (v : Value) (n : Nat) (Q : List (List Int)) (b off m c : Nat) (G : List Gl) (w : World) (hv : RuI w v n Q) (hl : n ≤ 1048576) (hs : AllB Q 1048576) (hG : GA w (.slice (some ⟨b, off, none⟩) m c) G) (hm : m = G.length) (lG : G.length ≤ 1048576) :
    Calls Try.prog 15 #[v, .slice (some ⟨b, off, none⟩) m c] w fun e w' => ∃ v', e = .returned v' ∧ GR w' w.heap.size v' (apl n Q G) ∧ Below w.heap.size w w' := by
  have HV := hide hv
  have HG := hide hG
  have HM := hide hm
  have CA := hide (areRules_any v n Q w hv hl hs)
  obtain ⟨ra, rc, rfl, _⟩ := hv.form
  by_cases t : 1000 < G.length
  · have t' : (1000 : Int) < (m : Int) := by omega
    have HE := hide (apl_long (n := n) (Q := Q) t)
    generalize apl n Q G = Z at *
    clear hv hG hm
    go_enter Try.func15, Try.ntmps15
    go_wp2
    go_ret
    exact ⟨_, rfl, by rw [unhide HE]; exact GR.nil _ _, Below.refl _ _⟩
  have t' : ¬ (1000 : Int) < (m : Int) := by omega
  cases hok : okR n Q
  · rw [hok] at CA
    have HE := hide (apl_bad (G := G) hok)
    generalize apl n Q G = Z at *
    clear hv hG hm hok
    go_enter Try.func15, Try.ntmps15
    go_wp2_with fail
    refine (unhide CA).mono ?_
    rintro e w2 ⟨rfl, hb2⟩
    have B2 := hide hb2
    clear hb2
    go_wp2
    go_ret
    exact ⟨_, rfl, by rw [unhide HE]; exact GR.nil _ _, unhide B2⟩
  · rw [hok] at CA
    have HAll := hide (fun h => apl_all (n := n) (Q := Q) (G := G) (by omega) hok h)
    have HMany := hide (fun h => apl_many (n := n) (Q := Q) (G := G) h)
    have HOK := hide hok
    generalize apl n Q G = Z at *
    clear hv hG hm hok
    go_enter Try.func15, Try.ntmps15
    go_wp2_with fail
    refine (unhide CA).mono ?_
    rintro e w2 ⟨rfl, hb2⟩
    have B2 := hide hb2
    clear hb2 CA
    go_wp2_with fail
    refine (clone_any b off m c G _ ((unhide HG).below (unhide B2)) (unhide HM) (by omega)).mono ?_
    rintro e w3 ⟨v3, rfl, g3⟩
    have G3 := hide (g3.since (unhide B2))
    have b3 := (g3.since (unhide B2)).bel
    have HV3 := hide ((unhide HV).below b3)
    have B3 := hide b3
    obtain ⟨a3, c3, rfl⟩ := g3.form
    clear g3 b3
    go_wp2_with fail
    refine (ruledBy_any _ _ n Q G w w3 (unhide HV3) (unhide HOK) (unhide G3) (by omega)).mono ?_
    rintro e w4 ⟨v4, rfl, g4⟩
    have B4 := hide g4.bel
    have R4 : Hid (GR w4 w.heap.size v4 (alk Q G n)) := hide (by
      obtain ⟨va, k, vc, rfl, h⟩ := g4
      exact h.gr)
    obtain ⟨a4, c4, rfl⟩ := g4.form
    obtain ⟨m', hm'⟩ : ∃ m', m' = (alk Q G n).length := ⟨_, rfl⟩
    rw [← hm'] at R4 ⊢
    by_cases q : 1000 < m'
    · have q' : (1000 : Int) < (m' : Int) := by omega
      have HE := hide ((unhide HMany) (by omega))
      clear hm' g4
      go_wp2
      go_ret
      exact ⟨_, rfl, by rw [unhide HE]; exact GR.nil _ _, unhide B4⟩
    · have q' : ¬ (1000 : Int) < (m' : Int) := by omega
      have HE := hide ((unhide HAll) (by omega))
      clear hm' g4
      go_wp2
      go_ret
      exact ⟨_, rfl, by rw [unhide HE]; exact unhide R4, unhide B4⟩
end Go.Proofs.Ytccnjjkechdknaa.Rul
