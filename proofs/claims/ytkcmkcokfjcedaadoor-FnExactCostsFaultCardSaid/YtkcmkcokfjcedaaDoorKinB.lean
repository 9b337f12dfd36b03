/- The kins of costs, as the program lays them into a map. -/
import Derived.Test.YtkcmkcokfjcedaaDoorKinK
import Derived.Deep.Cut
import Derived.Handy
import Derived.Deep.CutRange
namespace Go.Proofs.YtkcmkcokfjcedaaDoor.Kin
open Go.RowKit
set_option linter.unusedVariables false
/-- The map of block b tells of just the points L. -/
structure Bk (w : World) (b m : Nat) (L : List Int) : Prop where
  has : ∃ D : DataW Unit, w.ownsMap Tryd.prog 21 (plainElem Tryd.prog 3) b m D ∧ ∀ p : Int, Maps.has D (.int .i32 p) = decide (p ∈ L)
theorem Bk.at {w w' : World} {b m : Nat} {L : List Int} (h : Bk w b m L) (e : w'.heap[b]? = w.heap[b]?) : Bk w' b m L := by
  obtain ⟨D, ⟨es, clock, hb, F, hs, hD⟩, hh⟩ := h.has
  exact ⟨D, ⟨es, clock, e.trans hb, F, hs, hD⟩, hh⟩
theorem Bk.lt {w : World} {b m : Nat} {L : List Int} (h : Bk w b m L) : b < w.heap.size := by
  obtain ⟨D, hD, _⟩ := h.has
  exact hD.lt
theorem Bk.made (w : World) : Bk (w.alloc (.map #[] 0)) w.heap.size 0 [] :=
  ⟨.map [], World.ownsMap_made w _ _ _, fun p => by simp [Maps.has]⟩
theorem zero3 (w : World) : (zeroValue 3).run Tryd.prog w = .ok (.int .i64 0) w := by kernel_rfl
theorem look_b {ops : Array Oper} {rest : List Oper} {o : Oper} {a : Act} {Q : Exit → Act → World → Prop} (w : World) (hg : o.guard = none) (m x : Operand) (hop : o.op = Op.lookup 38 m x true)
    (b n : Nat) (L : List Int) (hm : a.eval m = .map (some b)) (hB : Bk w b n L) (p : Int) (hx : a.eval x = .int .i32 p) (hp : isPt p = true) (q : Bool) (hq : decide (p ∈ L) = q)
    (hK : ∀ c : Int, wpList Tryd.prog ops Q rest (a.put o.dst (.tuple #[.int .i64 c, .bool q])) w) :
    wpList Tryd.prog ops Q (o :: rest) a w := by
  obtain ⟨D, hD, hh⟩ := hB.has
  have hw : (Lit.int .i32 p).wf = true := by
    have := of_decide_eq_true hp
    have e1 : IntKind.i32.min = -2147483648 := rfl
    have e2 : IntKind.i32.max = 2147483647 := rfl
    simp only [Lit.wf, e1, e2, Bool.and_eq_true, decide_eq_true_eq]
    omega
  refine wpList_lookup_own_ok_int w hg m x 38 hop 21 3 .i64 (Maps.int_keyed Tryd.underlying21) Tryd.underlying38 Tryd.underlying3 (zero3 w) b n D hm hD _ _ hx (Maps.keyOf_int_mk Tryd.underlying21 hw) fun c _ _ => ?_
  rw [hh p, hq]
  exact hK c
theorem upd_b {ops : Array Oper} {rest : List Oper} {o : Oper} {a : Act} {Q : Exit → Act → World → Prop} (w : World) (hg : o.guard = none) (hd : o.dst = none) (m x v : Operand) (hop : o.op = Op.mapUpdate 38 m x v)
    (b n : Nat) (L : List Int) (hm : a.eval m = .map (some b)) (hB : Bk w b n L) (hn : n < maxLen) (p : Int) (hx : a.eval x = .int .i32 p) (hp : isPt p = true) (c : Int) (hv : a.eval v = .int .i64 c) (hc : (Lit.int .i64 c).wf = true)
    (hK : ∀ w', Bk w' b (n + 1) (L ++ [p]) → w.grownBy w' (some b) → wpList Tryd.prog ops Q rest a w') :
    wpList Tryd.prog ops Q (o :: rest) a w := by
  obtain ⟨D, hD, hh⟩ := hB.has
  have hw : (Lit.int .i32 p).wf = true := by
    have := of_decide_eq_true hp
    have e1 : IntKind.i32.min = -2147483648 := rfl
    have e2 : IntKind.i32.max = 2147483647 := rfl
    simp only [Lit.wf, e1, e2, Bool.and_eq_true, decide_eq_true_eq]
    omega
  refine wpList_mapUpdate_own w hg m x v 38 hop 21 3 (Maps.int_keyed Tryd.underlying21) Tryd.underlying38 _ b n D hm hD hn _ _ (.int .i32 p) hx hv (Maps.keyOf_int_mk Tryd.underlying21 hw) (.lit (.int .i64 c)) [] (plainElem_int Tryd.underlying3 hc) fun w' h1 h2 => ?_
  rw [hd]
  refine hK w' ⟨_, h1, fun r => ?_⟩ h2
  by_cases e : r = p
  · subst e
    rw [Maps.has_put_same hD.isMap (show WideAt.IsKeyLit (.int .i32 r) from trivial)]
    simp
  · rw [Maps.has_put_other (fun e2 => e (by injection e2)), hh r]
    simp [e]
theorem Bk.mono {w : World} {b m m' : Nat} {L : List Int} (h : Bk w b m L) (hm : m ≤ m') : Bk w b m' L := by
  obtain ⟨D, hD, hh⟩ := h.has
  exact ⟨D, hD.mono hm, hh⟩
theorem okq_nodup {K : List ByteArray} {k : Nat} (h : okq K k = true) : (sn K k).Nodup := by
  unfold okq at h
  simp only [Bool.and_eq_true, decide_eq_true_eq] at h
  exact h.2
theorem nodup_snoc {L : List Int} {p : Int} (h : L.Nodup) (hp : p ∉ L) : (L ++ [p]).Nodup := by
  refine List.nodup_append.2 ⟨h, by simp, fun a ha b hb e => hp ?_⟩
  simp at hb
  rw [← hb, ← e]
  exact ha
theorem dup_snoc {L : List Int} {p : Int} (hp : p ∈ L) : ¬ (L ++ [p]).Nodup := fun h => (List.nodup_append.1 h).2.2 p hp p (by simp) rfl
theorem wf64 (k : Nat) (h : k ≤ 1000) : (Lit.int .i64 ((k : Int) + 1)).wf = true := by
  have e1 : IntKind.i64.min = -9223372036854775808 := rfl
  have e2 : IntKind.i64.max = 9223372036854775807 := rfl
  simp only [Lit.wf, e1, e2, Bool.and_eq_true, decide_eq_true_eq]
  omega
theorem Utf8_below {w w' : World} (h : Tabs w) (hb : Below w.heap.size w w') : Tabs w' := Utf8Tabs_below h hb
/-- What is told of a list of kins. -/
def kq (K : List ByteArray) : Bool := decide (K.length ≤ 50) && okq K K.length
set_option maxRecDepth 100000 in
set_option maxHeartbeats 8000000 in
theorem kins_any (v : Value) (K : List ByteArray) (w : World) (hv : StrsAt w v K) (hl : K.length ≤ 1048576) (hs : ∀ i, i < K.length → (nthS K i).size ≤ 1048576) (hT : Tabs w) :
    Calls Tryd.prog 19 #[v] w fun e w' => ∃ o, e = .returned (.tuple #[.map o, .bool (kq K)]) ∧ Below w.heap.size w w' := by
  have HV := hide hv
  have HS := hide hs
  obtain ⟨a, cap, rfl, _⟩ := hv
  clear hs
  by_cases hb : 50 < K.length
  · have HR : Hid (kq K = false) := hide (by unfold kq; rw [decide_eq_false (by omega)]; rfl)
    have hb' : (50 : Int) < (K.length : Int) := by omega
    generalize kq K = R at *
    go_enter Tryd.func19, Tryd.ntmps19
    go_wp2
    go_returns
    exact ⟨none, by rw [unhide HR]; rfl, Below.refl _ _⟩
  · have HR1 : Hid (okq K K.length = false → kq K = false) := hide (fun h => by unfold kq; rw [h]; simp)
    have HR0 : Hid (okq K K.length = true → kq K = true) := hide (fun h => by unfold kq; rw [h, decide_eq_true (by omega)]; rfl)
    have hb' : ¬ (50 : Int) < (K.length : Int) := by omega
    have CW := hide (fun W (h : Below w.heap.size w W) i (hi : i < K.length) => kinW_any (nthS K i) W (by have := (unhide HS) i hi; omega) (Utf8_below hT h))
    have M0 := hide (Bk.made w)
    have B0 := hide ((Below.refl w.heap.size w).alloc (Nat.le_refl _) (.map #[] 0))
    have mk : (Instr.makeMap 38 none).run Tryd.prog w = .ok (.map (some w.heap.size)) (w.alloc (.map #[] 0)) := by kernel_rfl
    generalize kq K = R at *
    clear hT
    go_enter Tryd.func19, Tryd.ntmps19
    go_wp2
    go_loopw [2, 16] (fun x2 x wr => ∃ k : Nat, x2 = .map (some w.heap.size) ∧ x = .int .i64 (k : Int) ∧ k ≤ K.length ∧ Hid (okq K k = true) ∧ Hid (Bk wr w.heap.size (10 * k) (sn K k)) ∧ Hid (Below w.heap.size w wr)) (fun _ x _ => K.length - (intOf x).toNat)
    case atStart => exact ⟨0, rfl, rfl, by omega, hide (okq_zero K), hide (by have := unhide M0; simpa [sn] using this), B0⟩
    case round =>
      obtain ⟨k, rfl, rfl, hk, HQ, HM, HB⟩ := hrel
      clear M0 B0 mk
      by_cases hlt : k < K.length
      · obtain ⟨b, off, cp, he, hbw, hc⟩ := strs_rd (unhide HV) (by omega)
        cases he
        have kc := ((unhide HB).cell (p := ⟨b, off + k, none⟩) hbw).trans (hc k hlt)
        have CK := hide ((unhide CW) wr (unhide HB) k hlt)
        have XB := hide (fun h => (unhide HR1) (okq_bad hlt h))
        have XD := hide (fun (L : List Int) hp hd => (unhide HR1) (okq_dup (K := K) (k := k) (L := L) hlt hp hd))
        have XS := hide (fun h2 h3 => okq_succ hlt (unhide HQ) h2 h3)
        have XN := hide (sn_succ hlt)
        have Z40 := hide (fun h => okk_size (s := nthS K k) h)
        have XL : Hid (okk (nthS K k) = true → (pts (nthS K k)).length ≤ 10) := hide (fun h => by unfold okk at h; simp only [Bool.and_eq_true, decide_eq_true_eq] at h; exact h.2.2)
        generalize nthS K k = s at *
        have hwl := (unhide HM).lt
        have nd0 : Hid ((sn K k ++ []).Nodup) := hide (by rw [List.append_nil]; exact okq_nodup (unhide HQ))
        clear hc HQ
        cases hq : okk s with
        | false =>
          have HE := hide ((unhide XB) hq)
          rw [hq] at CK
          clear hq XB XD XS XN XL Z40
          go_wp2_with (go_at_call 22; refine (unhide CK).mono ?_; rintro e w2 ⟨rfl, hb2⟩; have B2 := hide ((unhide HB).trans (hb2.mono (unhide HB).size)); clear hb2)
          go_returns
          exact ⟨none, by rw [unhide HE]; rfl, unhide B2⟩
        | true =>
          have z40 := (unhide Z40) hq
          have l10 := hide ((unhide XL) hq)
          have XS2 := hide ((unhide XS) hq)
          rw [hq] at CK
          clear hq XB XS Z40 XL
          go_upto_region 9 with (go_at_call 22; refine (unhide CK).mono ?_; rintro e w2 ⟨rfl, hb2⟩; have B2 := hide ((unhide HB).trans (hb2.mono (unhide HB).size)); have M2 := hide ((unhide HM).at (hb2.block _ hwl)); have hs2 := hb2.size; clear hb2)
          have I0 : Hid ((w2.iter s 0).heap[w2.heap.size]? = some (.stringIter s 0)) := hide (World.iter_heap w2 s 0)
          have B3 : Hid (Below w.heap.size w (w2.iter s 0)) := hide ((unhide B2).alloc (unhide B2).size _)
          have M3 : Hid (Bk (w2.iter s 0) w.heap.size (10 * k + 0) (sn K k ++ [])) := hide (by
            rw [List.append_nil]
            exact ((unhide M2).at (Below.heap_alloc w2 _ _ (by omega))))
          have hgl : w.heap.size < w2.heap.size := by omega
          clear M2 B2 HM HB CK CW kc
          go_wp2
          go_loopw [2] (fun x2 wr => ∃ (n : Nat) (L : List Int) (pos : Nat), x2 = .map (some w.heap.size) ∧ Hid (steps s n = (L, pos)) ∧ pos ≤ s.size ∧ L.length ≤ pos ∧ Hid (wr.heap[w2.heap.size]? = some (.stringIter s pos)) ∧ Hid (Bk wr w.heap.size (10 * k + L.length) (sn K k ++ L)) ∧ Hid ((sn K k ++ L).Nodup) ∧ Hid (Below w.heap.size w wr)) (fun _ wr => s.size - wr.iterPos w2.heap.size)
          case atStart => exact ⟨0, [], 0, rfl, hide rfl, by omega, by simp, I0, M3, nd0, B3⟩
          case round =>
            obtain ⟨n, L, pos, rfl, HS2, hpos, hL, HI, HM, HD, HB⟩ := hrel
            clear I0 M3 nd0 B3
            have HMe := hide (iterPos_of (unhide HI))
            by_cases hlp : pos < s.size
            · have hbd := dN_bd s pos hlp
              have d1 := hbd.1
              have d2 := hbd.2.1
              have HS' := hide (pts_step (unhide HS2) hlp)
              have hnx : ∀ ty, (Instr.next (.pointer (some ⟨w2.heap.size, 0, none⟩)) true ty).run Tryd.prog wr = .ok (.tuple #[.bool true, .int .i64 pos, .int .i32 (dP s pos)]) (wr.iterAt w2.heap.size s (pos + dN s pos)) := fun ty => Lib.run_next_any_at wr _ s pos ty (unhide HI) hlp
              obtain ⟨w3, hw3⟩ : ∃ w3, wr.iterAt w2.heap.size s (pos + dN s pos) = w3 := ⟨_, rfl⟩
              rw [hw3] at hnx
              have HI2 : Hid (w3.heap[w2.heap.size]? = some (.stringIter s (pos + dN s pos))) := hide (by rw [← hw3]; exact Lib.iterAt_heap wr _ s pos _ (unhide HI))
              have HB2 : Hid (Below w.heap.size w w3) := hide (by rw [← hw3]; exact Lib.below_iterAt (unhide HB) (by omega) _ _)
              have HM2 : Hid (Bk w3 w.heap.size (10 * k + L.length) (sn K k ++ L)) := hide ((unhide HM).at (by rw [← hw3]; exact Lib.iterAt_other wr _ _ s _ (by omega)))
              have hpt := dP_pt s pos
              clear hbd hw3 HM HB
              have HPre := hide (fun h => (unhide XD) (L ++ [(dP s pos : Int)]) (by have := steps_pre s (n + 1); rw [unhide HS'] at this; exact this) h)
              clear XD
              generalize (dP s pos : Int) = P at *
              cases hin : decide (P ∈ sn K k ++ L) with
              | true =>
                have HE := hide ((unhide HPre) (by rw [← List.append_assoc]; exact dup_snoc (of_decide_eq_true hin)))
                have hin2 := hide hin
                clear hin
                go_wp2_with (at_lookup; refine look_b _ rfl _ _ rfl w.heap.size _ _ rfl (unhide HM2) P rfl hpt true (unhide hin2) ?_; intro c)
                go_returns
                exact ⟨none, by rw [unhide HE]; rfl, unhide HB2⟩
              | false =>
                have HD2 := hide (nodup_snoc (unhide HD) (of_decide_eq_false hin))
                have hin2 := hide hin
                clear hin
                go_wp2_with (first
                  | (at_lookup; refine look_b _ rfl _ _ rfl w.heap.size _ _ rfl (unhide HM2) P rfl hpt false (unhide hin2) ?_; intro c)
                  | (at_mapUpdate; refine upd_b _ rfl rfl _ _ _ rfl w.heap.size _ _ rfl (unhide HM2) (by unfold maxLen; omega) P rfl hpt ((k : Int) + 1) rfl (wf64 k (by omega)) ?_; intro w4 hM4 hg4; have M4 := hide hM4; have I4 := hide ((hg4.block w2.heap.size (Array.getElem?_eq_some_iff.1 (unhide HI2)).1 (fun e => by injection e with e; omega)).trans (unhide HI2)); have B4 := hide ((unhide HB2).grown hg4 (unhide HB2).size (fun j hj => by injection hj with hj; omega)); clear hM4 hg4))
                go_roundw
                case rel => exact ⟨n + 1, L ++ [P], pos + dN s pos, rfl, HS', by omega, by simp; omega, I4, hide (by have := unhide M4; rw [List.append_assoc] at this; rw [List.length_append]; exact this), hide (by have := unhide HD2; rw [List.append_assoc] at this; exact this), B4⟩
                case measure => rw [unhide HMe, iterPos_of (unhide I4)]; omega
            · have hnx : ∀ ty, (Instr.next (.pointer (some ⟨w2.heap.size, 0, none⟩)) true ty).run Tryd.prog wr = .ok (.tuple #[.bool false]) wr := fun ty => Lib.run_next_end_at wr _ s pos ty (unhide HI) hlp
              have e := steps_pts s n (by rw [unhide HS2]; show s.size ≤ pos; omega)
              rw [unhide HS2] at e
              have e' : L = pts s := e
              subst e'
              have Q2 := hide ((unhide XS2) (unhide HD))
              have M5 := hide ((unhide HM).mono (m' := 10 * (k + 1)) (by have := unhide l10; omega))
              rw [← unhide XN] at M5
              clear e
              go_wp2
              go_roundw
              case rel => exact ⟨k + 1, rfl, by go_num, by omega, Q2, M5, HB⟩
              case measure => simp [intOf]; omega
      · obtain rfl : k = K.length := by omega
        have HE := hide ((unhide HR0) (unhide HQ))
        go_wp2
        go_returns
        exact ⟨_, by rw [unhide HE]; rfl, unhide HB⟩
end Go.Proofs.YtkcmkcokfjcedaaDoor.Kin
