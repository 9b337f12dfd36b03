/- Composing by a book of pairs. -/
import Derived.Test.YtjdginjohajmaaaGreatDoorCmpI
import Derived.Maps.RangeWalk
import Derived.Maps.Range
namespace Go.Proofs.YtjdginjohajmaaaGreatDoor
open Go.RowKit Go.Shelf
attribute [local go_sem] Oper.semAt_some
/-- The book, the box that leads to it, and that nothing else has changed. -/
structure BkI (w W : World) (M : Nat) (D : List (Int × Int × Int)) : Prop where
  book : BookAt W M D
  box : Boxed W w.heap.size 64 (.map (some M))
  grown : w.grownBy W (some M)
theorem BkI.step {w W W' : World} {M : Nat} {D : List (Int × Int × Int)} {row : Option Nat} (h : BkI w W M D) (hM : M < w.heap.size) (hg : W.grownBy W' row) (hr : ∀ r, row = some r → w.heap.size < r) : BkI w W' M D :=
  ⟨h.book.at (hg.block M h.book.lt (fun e => by have := hr M e.symm; omega)), h.box.kept hg (fun e => by have := hr _ e.symm; omega), h.grown.andThen hg (fun j e => .inl (by have := hr j e; omega))⟩
theorem BkI.below {w W W' : World} {M : Nat} {D : List (Int × Int × Int)} (h : BkI w W M D) (hM : M < w.heap.size) (hb : Below W.heap.size W W') : BkI w W' M D :=
  h.step hM (grown_of_below hb) (fun r e => by cases e)
theorem BkI.put {w W : World} {M : Nat} {D D' : List (Int × Int × Int)} {o : Obj} (h : BkI w W M D) (hM : M < w.heap.size) (hb : BookAt (W.putObj M o) M D') : BkI w (W.putObj M o) M D' :=
  ⟨hb, h.box.kept (grownBy_putObj' W M o) (by simp; omega), h.grown.trans (grownBy_putObj' W M o)⟩
theorem keepP_put {W : World} {M : Nat} {D : List (Int × Int × Int)} {o : Obj} (h : BookAt W M D) : KeepP W (W.putObj M o) := by
  obtain ⟨es, clock, hM, _⟩ := h
  exact ⟨by simp [World.putObj], fun k c z e => (World.putObj_heap_other (fun hk => by subst hk; rw [hM] at e; injection e with e; cases e)).trans e⟩
theorem good_find {D : List (Int × Int × Int)} (hG : Good D) {a x : Int} {pre : List Int} (hp : pre ++ [x] <+: wholesL a) :
    (findD a (secZ x) (D ++ entA a pre) 0 = none → ¬ HasA a D) ∧ ((findD a (secZ x) (D ++ entA a pre) 0).isSome = true → HasA a D) := by
  have hx : x ∈ wholesL a := by
    obtain ⟨r, hr⟩ := hp
    rw [← hr]
    simp
  constructor
  · intro hf hA
    exact findD_none hf _ (List.mem_append.2 (.inl (hG.2 a hA x hx))) ⟨rfl, rfl⟩
  · intro hs
    obtain ⟨y, hy⟩ := Option.isSome_iff_exists.1 hs
    obtain ⟨t, ht, e1, e2, _⟩ := findD_some hy
    rcases List.mem_append.1 ht with ht | ht
    · exact ⟨t, ht, e1.symm⟩
    · obtain ⟨z, hz, rfl⟩ := List.mem_map.1 ht
      have hz' : z ∈ wholesL a := by
        obtain ⟨r, hr⟩ := hp
        rw [← hr]
        simp [hz]
      have e3 : secZ x = secZ z := e2
      have : x = z := by rw [← (whole_pair hx).2, ← (whole_pair hz').2, e3]
      subst this
      obtain ⟨r, hr⟩ := hp
      have hnd := wholes_nodup a
      rw [← hr, List.append_assoc, List.nodup_append] at hnd
      exact (hnd.2.2 x hz x (by simp) rfl).elim
theorem compose_no (M : Nat) (a b : Int) (w : World) (hs : isSec b = false) :
    Calls Tryz.prog 83 #[.map (some M), .int .i64 a, .int .i64 b] w fun e w' => e = .returned (.int .i64 (pairP a b)) ∧ Below w.heap.size w w' := by
  rw [pair_sec hs]
  have HI := hide (fun W => isSecI b W)
  rw [hs] at HI
  clear hs
  go_enter Tryz.func83, Tryz.ntmps83
  go_wp2_with (go_at_call 106; refine ((unhide HI) _).mono ?_; rintro e w1 ⟨rfl, rfl⟩)
  go_ret
  exact ⟨rfl, one_below _ _⟩
set_option maxRecDepth 100000 in
set_option maxHeartbeats 4000000 in
theorem compose_in (M : Nat) (a b : Int) (w : World) (D : List (Int × Int × Int)) (hs : isSec b = true) (hM : BookAt w M D) (hG : Good D) :
    CallsIn Fence.wide 5 Tryz.prog 83 #[.map (some M), .int .i64 a, .int .i64 b] w fun e w' => e = .returned (.int .i64 (pairP a b)) ∧ ∃ D', BookAt w' M D' ∧ Good D' ∧ w.grownBy w' (some M) := by
  have hn : 1 ≤ 5 := by omega
  have hMl := hM.lt
  have IS := (callsIn_wide (n := 4)).2 (isSecI b (w.alloc (.cells #[.map (some M)] 64)))
  rw [hs] at IS
  have WH := (callsIn_wide (n := 4)).2 (wholes_any a (w.alloc (.cells #[.map (some M)] 64)))
  have sz : (w.alloc (.cells #[.map (some M)] 64)).heap.size = w.heap.size + 1 := by simp
  rw [sz] at WH
  have HS := wholes_stops 4 a (w.heap.size + 1) ((w.alloc (.cells #[.map (some M)] 64)).alloc (.cells #[.int .i64 a] 2)) (by simp) (by rw [← sz]; exact (Boxed.new _ 2 _).cell)
  have BK0 : BkI w ((w.alloc (.cells #[.map (some M)] 64)).alloc (.cells #[.int .i64 a] 2)) M D :=
    ⟨hM.at ((alloc_block _ _ (by simp; omega)).trans (alloc_block _ _ hMl)), (Boxed.new w 64 _).alloc _, (grown_of_below (two_below w _ _)).but _⟩
  have sz2 : ((w.alloc (.cells #[.map (some M)] 64)).alloc (.cells #[.int .i64 a] 2)).heap.size = w.heap.size + 2 := by simp
  clear hs hM
  generalize hw0 : (w.alloc (.cells #[.map (some M)] 64)).alloc (.cells #[.int .i64 a] 2) = w0 at *
  have hI0 : ∀ (s : List Int) (W W' : World) (row : Option Nat), (∃ D', BkI w W M D' ∧ (s <+: wholesL a → (HasA a D → s = []) ∧ D' = D ++ entA a s)) → W.grownBy W' row → (∀ r, row = some r → w0.heap.size ≤ r ∧ ∃ o : Obj, W.heap[r]? = some o ∧ o.isCells = false) → (∃ D', BkI w W' M D' ∧ (s <+: wholesL a → (HasA a D → s = []) ∧ D' = D ++ entA a s)) :=
    fun s W W' row hs hg hr => by
      obtain ⟨D', hb, hd⟩ := hs
      exact ⟨D', hb.step hMl hg (fun r e => by have := (hr r e).1; omega), hd⟩
  have hX0 : ∀ (c : Code) (s : List Int) (W W' : World) (row : Option Nat), (c = .exit 0 ∧ ∃ D', BkI w W M D' ∧ (s <+: wholesL a → HasA a D ∧ D' = D)) → W.grownBy W' row → (∀ r, row = some r → w0.heap.size ≤ r ∧ ∃ o : Obj, W.heap[r]? = some o ∧ o.isCells = false) → (c = .exit 0 ∧ ∃ D', BkI w W' M D' ∧ (s <+: wholesL a → HasA a D ∧ D' = D)) :=
    fun c s W W' row hs hg hr => by
      obtain ⟨hc, D', hb, hd⟩ := hs
      exact ⟨hc, D', hb.step hMl hg (fun r e => by have := (hr r e).1; omega), hd⟩
  refine callsIn_of_wp_marks Tryz.func83 rfl trivial ?_ rfl
  simp only [Tryz.ntmps83, List.size_toArray, List.length_cons, List.length_nil, Nat.reduceAdd, Nat.reduceSub, Array.replicate_succ, Array.replicate_zero, List.push_toArray, List.append_toArray, List.nil_append, List.cons_append]
  gi_wp2_with (first
    | (refine ⟨trivial, ?_⟩; gi_at_call 106; refine IS.mono ?_; clear IS; rintro e W1 ⟨rfl, rfl⟩)
    | (refine ⟨trivial, ?_⟩; gi_at_call 107; refine WH.mono ?_; clear WH; rintro e W1 ⟨rfl, hW1⟩; replace hW1 := hW1.symm; subst hW1))
  refine wpIn_rangeFunc_ownG rfl hn (gf := 120) (lb := #[.pointer (some ⟨w.heap.size + 1, 0, none⟩)]) rfl trivial (enters_of Tryz.func120 (by kernel_rfl) rfl)
    HS KeepP.trans keepP_b (Below.refl _ _) (fun _ => rfl)
    (fun s W => ∃ D', BkI w W M D' ∧ (s <+: wholesL a → (HasA a D → s = []) ∧ D' = D ++ entA a s))
    (fun c s W => c = .exit 0 ∧ ∃ D', BkI w W M D' ∧ (s <+: wholesL a → HasA a D ∧ D' = D))
    hI0 hX0
    ⟨D, BK0, fun _ => ⟨fun _ => rfl, by simp [entA]⟩⟩
    (fun x => { tmps := #[.map (some M), .int .i64 a, .int .i64 b, .pointer (some ⟨w.heap.size, 0, none⟩), undef, undef, .int .i64 0, .int .i64 x, undef, undef, undef, undef, undef, .int .i64 b, .bool true, .bool false, .int .i64 a, .func (.func 120) #[] #[.pointer (some ⟨w.heap.size + 1, 0, none⟩)], .int .i64 x, undef, undef, undef, undef, undef, undef, undef, undef, undef, undef, undef, undef, undef, undef, undef, undef, undef, undef, undef, undef, undef, undef, undef], defers := [] }) ?assign ?body ?done ?stop
  case assign =>
    intro l x W K hK
    gi_wp2
    exact hK
  case body =>
    rintro l pre x W ⟨D', hI, hD⟩ hlt
    obtain ⟨c, hc⟩ : ∃ c, (pairZ false x).1 = c := ⟨_, rfl⟩
    obtain ⟨d, hd⟩ : ∃ d, (pairZ false x).2 = d := ⟨_, rfl⟩
    have hcd : pairZ false x = (c, d) := by rw [← hc, ← hd]
    have PI := (callsIn_wide (n := 2)).2 (partsI 2 x false W (by simp))
    rw [hcd] at PI
    have hpre : ∀ {y : Int}, pre ++ [y] <+: wholesL a → pre <+: wholesL a := fun h => (List.prefix_append _ _).trans h
    have hsz := hI.grown.size
    cases hf : findD c d D' 0 with
    | some y =>
      have PJ := PI.mono (R' := fun e W1 => e = .returned (.agg #[.int .i64 c, .int .i64 d]) ∧ BkI w (W1.alloc (.cells #[.int .i64 c, .int .i64 d] 65)) M D' ∧ KeepsFrom w0.heap.size W (W1.alloc (.cells #[.int .i64 c, .int .i64 d] 65)) ∧ (W1.alloc (.cells #[.int .i64 c, .int .i64 d] 65)).cell? ⟨w.heap.size, 0, none⟩ = some (.map (some M)) ∧ (Instr.lookup 64 (.map (some M)) (.agg #[.int .i64 c, .int .i64 d]) true).run Tryz.prog (W1.alloc (.cells #[.int .i64 c, .int .i64 d] 65)) = .ok (.tuple #[y.2, .bool true]) (W1.alloc (.cells #[.int .i64 c, .int .i64 d] 65)))
        (fun e W1 h => by
          have hb1 := hI.below hMl h.2
          have hb2 := hb1.below hMl (one_below W1 (.cells #[.int .i64 c, .int .i64 d] 65))
          refine ⟨h.1, hb2, (KeepsFrom.of_grownBy (grown_of_below h.2) (fun j e => by cases e)).trans ((KeepsOthers.alloc _ _).from _), hb2.box.cell, ?_⟩
          have := lookup_run hb2.book c d
          rw [hf] at this
          exact this)
      clear PI
      gi_wp2_with (refine ⟨trivial, ?_⟩; gi_at_call 103; refine (CallsIn.inRound l PJ).mono ?_; clear PJ; rintro e W1 ⟨rfl, hb2, hkf, hbx, hlk⟩)
      refine ⟨hkf, rfl, D', hb2, fun hp => ?_⟩
      have hx : x ∈ wholesL a := by
        obtain ⟨r, hr⟩ := hp
        rw [← hr]
        simp
      obtain ⟨hd1, hd2⟩ := hD (hpre hp)
      have hcx := (whole_pair hx).1
      rw [hcd] at hcx
      injection hcx with e1 e2
      rw [e1, e2, hd2] at hf
      have hA := (good_find hG hp).2 (by rw [hf]; rfl)
      refine ⟨hA, ?_⟩
      rw [hd2, hd1 hA]
      simp [entA]
    | none =>
      have PJ := PI.mono (R' := fun e W1 => e = .returned (.agg #[.int .i64 c, .int .i64 d]) ∧ (∃ o, (Instr.mapUpdate 64 (.map (some M)) (.agg #[.int .i64 c, .int .i64 d]) (.int .i64 x)).run Tryz.prog (W1.alloc (.cells #[.int .i64 c, .int .i64 d] 65)) = .ok () ((W1.alloc (.cells #[.int .i64 c, .int .i64 d] 65)).putObj M o) ∧ BkI w ((W1.alloc (.cells #[.int .i64 c, .int .i64 d] 65)).putObj M o) M (D' ++ [(c, d, x)]) ∧ KeepsFrom w0.heap.size W ((W1.alloc (.cells #[.int .i64 c, .int .i64 d] 65)).putObj M o) ∧ KeepP W ((W1.alloc (.cells #[.int .i64 c, .int .i64 d] 65)).putObj M o)) ∧ (W1.alloc (.cells #[.int .i64 c, .int .i64 d] 65)).cell? ⟨w.heap.size, 0, none⟩ = some (.map (some M)) ∧ (Instr.lookup 64 (.map (some M)) (.agg #[.int .i64 c, .int .i64 d]) true).run Tryz.prog (W1.alloc (.cells #[.int .i64 c, .int .i64 d] 65)) = .ok (.tuple #[.int .i64 0, .bool false]) (W1.alloc (.cells #[.int .i64 c, .int .i64 d] 65)))
        (fun e W1 h => by
          have hb1 := hI.below hMl h.2
          have hb2 := hb1.below hMl (one_below W1 (.cells #[.int .i64 c, .int .i64 d] 65))
          obtain ⟨o, hu, hbk⟩ := update_run hb2.book c d x hf
          refine ⟨h.1, ⟨o, hu, hb2.put hMl hbk, ((KeepsFrom.of_grownBy (grown_of_below h.2) (fun j e => by cases e)).trans ((KeepsOthers.alloc _ _).from _)).trans (KeepsFrom.of_grownBy (grownBy_putObj' _ M o) (fun j e => by cases e; omega)), (KeepP.of_below h.2).trans ((KeepP.alloc _ _).trans (keepP_put hb2.book))⟩, hb2.box.cell, ?_⟩
          have := lookup_run hb2.book c d
          rw [hf] at this
          exact this)
      clear PI
      gi_wp2_with (refine ⟨trivial, ?_⟩; gi_at_call 103; refine (CallsIn.inRound l PJ).mono ?_; clear PJ; rintro e W1 ⟨rfl, ⟨o, hu, hb2, hkf, hkp⟩, hbx, hlk⟩)
      refine ⟨hkf, hkp, _, hb2, fun hp => ?_⟩
      have hx : x ∈ wholesL a := by
        obtain ⟨r, hr⟩ := hp
        rw [← hr]
        simp
      obtain ⟨hd1, hd2⟩ := hD (hpre hp)
      have hcx := (whole_pair hx).1
      rw [hcd] at hcx
      injection hcx with e1 e2
      rw [e1, e2, hd2] at hf
      have hnA := (good_find hG hp).1 hf
      refine ⟨fun hA => (hnA hA).elim, ?_⟩
      rw [hd2, e1, e2, entA_snoc, List.append_assoc]
  case done =>
    rintro E ys W hE rfl ⟨D', hI, hD⟩ hK
    obtain ⟨_, hd2⟩ := hD (List.prefix_refl _)
    subst hd2
    have hG' := good_more hG a
    have hbx := hI.box.cell
    have hlk := lookup_run hI.book a b
    have hfg := find_good hG' a b (by
      by_cases hw : wholesL a = []
      · exact .inr hw
      · obtain ⟨x, hx⟩ := List.exists_mem_of_ne_nil _ hw
        exact .inl ⟨(a, secZ x, x), List.mem_append.2 (.inr (List.mem_map.2 ⟨x, hx, rfl⟩)), rfl⟩)
    have hend := hI.step (row := some E) hMl (grownBy_putObj' W E (.deferred none)) (fun r e => by cases e; omega)
    by_cases h0 : 0 ≤ pairP a b
    · obtain ⟨j, hj⟩ := hfg.1 h0
      rw [hj] at hlk
      simp only [valD] at hlk
      gi_wp2
      refine ⟨by simp, .inl ⟨_, _, rfl, run_takeDeferred hK, ?_⟩⟩
      exact ⟨_, results_tmp rfl _ _ _, rfl, _, hend.book, hG', hend.grown⟩
    · rw [hfg.2 h0] at hlk
      simp only [valD] at hlk
      have HN := hide (pairP_neg h0)
      gi_wp2
      refine ⟨by simp, .inl ⟨_, _, rfl, run_takeDeferred hK, ?_⟩⟩
      refine ⟨_, results_tmp rfl _ _ _, ?_, _, hend.book, hG', hend.grown⟩
      exact ret_int (unhide HN).symm
  case stop =>
    rintro E c pre W hE hp ⟨rfl, D', hI, hD⟩ hK
    obtain ⟨hA, hd2⟩ := hD hp
    subst hd2
    have hbx := hI.box.cell
    have hlk := lookup_run hI.book a b
    have hfg := find_good hG a b (.inl hA)
    have hend := hI.step (row := some E) hMl (grownBy_putObj' W E (.deferred none)) (fun r e => by cases e; omega)
    by_cases h0 : 0 ≤ pairP a b
    · obtain ⟨j, hj⟩ := hfg.1 h0
      rw [hj] at hlk
      simp only [valD] at hlk
      gi_wp2
      refine ⟨by simp, .inl ⟨_, _, rfl, run_takeDeferred hK, ?_⟩⟩
      exact ⟨_, results_tmp rfl _ _ _, rfl, _, hend.book, hG, hend.grown⟩
    · rw [hfg.2 h0] at hlk
      simp only [valD] at hlk
      have HN := hide (pairP_neg h0)
      gi_wp2
      refine ⟨by simp, .inl ⟨_, _, rfl, run_takeDeferred hK, ?_⟩⟩
      refine ⟨_, results_tmp rfl _ _ _, ?_, _, hend.book, hG, hend.grown⟩
      exact ret_int (unhide HN).symm
/-- Composing: the answer, and the book goes on telling the truth. -/
theorem compose_any (M : Nat) (a b : Int) (w : World) (D : List (Int × Int × Int)) (hM : BookAt w M D) (hG : Good D) :
    Calls Tryz.prog 83 #[.map (some M), .int .i64 a, .int .i64 b] w fun e w' => e = .returned (.int .i64 (pairP a b)) ∧ ∃ D', BookAt w' M D' ∧ Good D' ∧ w.grownBy w' (some M) := by
  cases hs : isSec b with
  | true => exact callsIn_wide.1 (compose_in M a b w D hs hM hG)
  | false =>
    refine (compose_no M a b w hs).mono ?_
    rintro e w' ⟨rfl, hb⟩
    exact ⟨rfl, D, hM.at (hb.block M hM.lt), hG, (grown_of_below hb).but _⟩
end Go.Proofs.YtjdginjohajmaaaGreatDoor
