/- Several texts in one. -/
import Derived.Test.YtlhoeoeapkjegaaDoorME
import Derived.Laws.AppendOwnNone
/- What FeedNormer tells, and rows cut in two. -/
namespace Go.Proofs.YtlhoeoeapkjegaaDoor
open Go.RowKit
/-- Where what is held begins. -/
def cutZ (k : Bool) (L : List Int) : Nat := (lastTo k L L.length).toNat
def badV (c : Int) : Value := .agg #[.int .i64 c, .int .i64 0, .string ⟨#[]⟩, .string ⟨#[]⟩]
def fedT (f : Int) (L : List Int) : ByteArray := strOfNums (textL (nrmL f (L.take (cutZ (isK f) L))))
def fedH (f : Int) (L : List Int) : ByteArray := strOfNums (textL (L.drop (cutZ (isK f) L)))
def feedV (f : Int) (h t : ByteArray) : Value :=
  if 65536 < t.size then badV 2 else if nfB f h = true then badV 1
  else if 65536 < (fedT f (pts h ++ pts t)).size then badV 2 else if 1000 < (fedH f (pts h ++ pts t)).size then badV 8
  else .agg #[.int .i64 0, .int .i64 f, .string (fedH f (pts h ++ pts t)), .string (fedT f (pts h ++ pts t))]
theorem cut_bd (k : Bool) (L : List Int) : cutZ k L ≤ L.length ∧ (0 < L.length → cutZ k L < L.length) := by
  have := lastTo_bd k L L.length
  unfold cutZ
  omega
theorem own_prefix {w : World} {B n g cap c : Nat} {L : List Int} (h : w.ownsRow B 2 1 (.slice (some ⟨g, 0, none⟩) n cap) n (L.map (Value.int .i64))) (hc : c ≤ n) : w.ownsRow B 2 1 (.slice (some ⟨g, 0, none⟩) c cap) c ((L.take c).map (Value.int .i64)) := by
  obtain ⟨Bq, S, h1, h2, h3, h4, h5⟩ := own_seg h
  refine seg_own (w0 := w) (Bq := (L.drop c).map (Value.int .i64) ++ Bq) ⟨?_, S.gr⟩ h1 (by simp; omega) (by simp; omega) h3
  rw [S.fu]
  congr 2
  rw [List.nil_append, List.nil_append, ← List.append_assoc, ← List.map_append, List.take_append_drop]
theorem ints_suffix {w : World} {B n g cap c : Nat} {L : List Int} (h : w.ownsRow B 2 1 (.slice (some ⟨g, 0, none⟩) n cap) n (L.map (Value.int .i64))) (hc : c ≤ n) (cap' : Nat) : IntsAt w (.slice (some ⟨g, c, none⟩) (n - c) cap') (L.drop c) := by
  have hl : n = L.length := by have := h.1; simp at this; exact this.symm
  have hgl := (h.lt g rfl).2
  refine ⟨_, _, by rw [List.length_drop, ← hl], .inr ⟨g, c, rfl, hgl, fun i hi => ?_⟩⟩
  rw [List.length_drop] at hi
  rw [cell_at h (c + i) (by omega)]
  simp [nth, List.getD]
theorem own_cap {w : World} {B n g cap : Nat} {L : List Int} (h : w.ownsRow B 2 1 (.slice (some ⟨g, 0, none⟩) n cap) n (L.map (Value.int .i64))) : n ≤ cap ∧ cap ≤ 9223372036854775807 := by
  obtain ⟨_, _, _, h1, h2, _, _⟩ := own_seg h
  unfold maxLen at h2
  exact ⟨h1, h2⟩
theorem own_some {w : World} {B n cap : Nat} {a : Option Addr} {xs : List Value} (h : w.ownsRow B 2 1 (.slice a n cap) n xs) (hc : 0 < cap) : ∃ g, (.slice a n cap : Value) = .slice (some ⟨g, 0, none⟩) n cap := by
  rcases h.2 with ⟨h1, _⟩ | ⟨g, cap', cur, hv, _⟩
  · injection h1 with _ _ h1
    omega
  · injection hv with h1 h2 h3
    exact ⟨g, by rw [h1]⟩
theorem own_cap0 {w : World} {B n cap : Nat} {a : Option Addr} {xs : List Value} (h : w.ownsRow B 2 1 (.slice a n cap) n xs) : n ≤ cap := by
  rcases h.2 with ⟨h1, h2⟩ | ⟨g, cap', cur, hv, _, _, h4, _⟩
  · omega
  · injection hv with h1 h2 h3
    omega
theorem ints_empty (w : World) (a : Option Addr) (cap : Nat) : IntsAt w (.slice a 0 cap) [] := ⟨a, cap, rfl, .inl rfl⟩
/-- The normer, the answer's place, and that nothing below has changed. -/
structure FSt (w W : World) (f : Int) (h : ByteArray) : Prop where
  nb : W.heap[w.heap.size]? = some (.cells #[.int .i64 f, .string h] 27 (0, 0))
  ob : W.heap[w.heap.size + 1]? = some (.cells #[.int .i64 0, .int .i64 0, .string ⟨#[]⟩, .string ⟨#[]⟩] 32 (0, 0))
  bel : Below w.heap.size w W
theorem FSt.lt {w W : World} {f : Int} {h : ByteArray} (s : FSt w W f h) : w.heap.size + 2 ≤ W.heap.size := by
  have := (Array.getElem?_eq_some_iff.1 s.ob).1
  omega
theorem FSt.below {w W W' : World} {f : Int} {h : ByteArray} (s : FSt w W f h) (hb : Below W.heap.size W W') : FSt w W' f h := by
  have hl := s.lt
  exact ⟨(hb.block _ (by omega)).trans s.nb, (hb.block _ (by omega)).trans s.ob, s.bel.trans (hb.mono (by omega))⟩
theorem FSt.grown {w W W' : World} {f : Int} {h : ByteArray} {row : Option Nat} (s : FSt w W f h) (hg : W.grownBy W' row) (hr : ∀ r, row = some r → w.heap.size + 2 ≤ r) : FSt w W' f h := by
  have hl := s.lt
  exact ⟨(hg.block _ (by omega) (fun e => by have := hr _ e.symm; omega)).trans s.nb, (hg.block _ (by omega) (fun e => by have := hr _ e.symm; omega)).trans s.ob, s.bel.grown hg (by omega) (fun k e => by have := hr k e; omega)⟩
theorem FSt.drewN {w W : World} {f : Int} {h : ByteArray} (s : FSt w W f h) (m : Nat) : FSt w (W.drewN m) f h := ⟨s.nb, s.ob, bdrew s.bel m⟩
theorem FSt.new (w : World) (f : Int) (h : ByteArray) : FSt w ((w.alloc (.cells #[.int .i64 f, .string h] 27)).alloc (.cells #[.int .i64 0, .int .i64 0, .string ⟨#[]⟩, .string ⟨#[]⟩] 32)) f h := by
  refine ⟨?_, ?_, two_below _ _ _⟩
  · exact (alloc_block _ _ (by simp)).trans (heap_alloc_new w _)
  · have := heap_alloc_new (w.alloc (.cells #[.int .i64 f, .string h] 27)) (.cells #[.int .i64 0, .int .i64 0, .string ⟨#[]⟩, .string ⟨#[]⟩] 32)
    simpa using this
theorem FSt.cells {w W : World} {f : Int} {h : ByteArray} (s : FSt w W f h) : W.cell? ⟨w.heap.size, 0, none⟩ = some (.int .i64 f) ∧ W.cell? ⟨w.heap.size, 1, none⟩ = some (.string h) := by
  have := s.nb
  simp [World.cell?, this]
theorem pts_nil {s : ByteArray} (h : pts s = []) : s.size = 0 := by
  cases hz : s.size with
  | zero => rfl
  | succ n =>
    have h1 : (steps s 0).2 < s.size := by rw [hz]; simp [steps]
    have h2 := steps_next s 0 h1
    obtain ⟨l, e⟩ := pts_pre s 1
    rw [h2] at e
    rw [e] at h
    simp at h
end Go.Proofs.YtlhoeoeapkjegaaDoor
/- FeedNormer of the specification. -/
namespace Go.Proofs.YtlhoeoeapkjegaaDoor
open Go.RowKit
theorem last_step (k : Bool) (L : List Int) (i : Nat) : (safB k (nth L i) = true → (lastTo k L (i + 1)).toNat = i) ∧ (safB k (nth L i) = false → (lastTo k L (i + 1)).toNat = (lastTo k L i).toNat) := by
  constructor
  · intro h
    unfold lastTo
    rw [if_pos h]
    omega
  · intro h
    have e : lastTo k L (i + 1) = lastTo k L i := by
      show (if _ then _ else _) = _
      rw [if_neg (by rw [h]; simp)]
    rw [e]
/-- The answer of what is not too long. -/
def tailV (f : Int) (H T : ByteArray) : Value := if 65536 < T.size then badV 2 else if 1000 < H.size then badV 8 else .agg #[.int .i64 0, .int .i64 f, .string H, .string T]
theorem feed_tail {f : Int} {h t : ByteArray} (ht : t.size ≤ 65536) (hn : nfB f h = false) : feedV f h t = tailV f (fedH f (pts h ++ pts t)) (fedT f (pts h ++ pts t)) := by
  unfold feedV tailV
  rw [if_neg (by omega), if_neg (by rw [hn]; simp)]
set_option maxHeartbeats 4000000 in
set_option maxRecDepth 100000 in
theorem feedS_go (f : Int) (h t : ByteArray) (w : World) (ht : t.size ≤ 65536) (hn : nfB f h = false) :
    Calls Tryd.prog 11 #[.agg #[.int .i64 f, .string h], .string t] w fun e w' => e = .returned (feedV f h t) ∧ Below w.heap.size w w' := by
  have mixed := mixedO
  obtain ⟨i0, hi, hz0, hz1, hz2⟩ := info_parts info2
  obtain ⟨hf, hh⟩ := nf_parts hn
  have CN := hide (fun W => specNF f h W)
  have ho : nfOut f h = 0 := by unfold nfOut; rw [if_neg (by rw [hn]; simp)]
  rw [ho] at CN
  have P1 := hide (fun W => l01Points h W (by omega))
  have P2 := hide (fun W => l01Points t W (by omega))
  have HV : Hid (feedV f h t = tailV f (fedH f (pts h ++ pts t)) (fedT f (pts h ++ pts t))) := hide (feed_tail ht hn)
  have HcB := cut_bd (isK f) (pts h ++ pts t)
  have HcD : Hid (cutZ (isK f) (pts h ++ pts t) = (lastTo (isK f) (pts h ++ pts t) (pts h ++ pts t).length).toNat) := hide rfl
  have HPt : Hid (∀ p ∈ pts h ++ pts t, 0 ≤ p ∧ p ≤ 1114111) := hide (fun p hp => by
    rcases List.mem_append.1 hp with hp | hp
    · exact pts_bd h p hp
    · exact pts_bd t p hp)
  have HTd : Hid (fedT f (pts h ++ pts t) = strOfNums (textL (nrmL f ((pts h ++ pts t).take (cutZ (isK f) (pts h ++ pts t)))))) := hide rfl
  have HHd : Hid (fedH f (pts h ++ pts t) = strOfNums (textL ((pts h ++ pts t).drop (cutZ (isK f) (pts h ++ pts t))))) := hide rfl
  have CS := hide (fun p W (hp : 0 ≤ p ∧ p ≤ 1114111) => safeS f p W hf hp)
  have CL := hide (fun (W : World) (B0 c : Nat) (v : Value) (L : List Int) (ho : W.ownsRow B0 2 1 v c (L.map (Value.int .i64))) (hp : ∀ p ∈ L, 0 ≤ p ∧ p ≤ 1114111) (hc : c ≤ 131072) => normS f B0 c v L W ho hp hf hc)
  have hla : (pts h).length ≤ 1000 := by have := pts_le h; omega
  have hlb : (pts t).length ≤ 65536 := by have := pts_le t; omega
  obtain ⟨k, hk⟩ : ∃ k, k = isK f := ⟨_, rfl⟩
  rw [← hk] at CS HcB HcD HTd HHd
  clear hf hn ho hk
  generalize feedV f h t = V at *
  generalize fedT f (pts h ++ pts t) = tT at *
  generalize fedH f (pts h ++ pts t) = tH at *
  generalize pts h = X1 at *
  generalize pts t = X2 at *
  obtain ⟨L, hLd⟩ : ∃ L, L = X1 ++ X2 := ⟨_, rfl⟩
  rw [← hLd] at HcB HcD HPt HTd HHd
  have hL : L.length = X1.length + X2.length := by rw [hLd, List.length_append]
  have HLd := hide hLd
  have hnb : L.length ≤ 66536 := by omega
  clear hLd
  go_enter Tryd.func11, Tryd.ntmps11
  go_wp2_with fail
  refine ((unhide CN) _).mono ?_
  rintro e w2 ⟨rfl, hb2⟩
  have F2 := hide ((FSt.new w f h).below hb2)
  obtain ⟨f0, f1⟩ := (unhide F2).cells
  have hs2 := (unhide F2).lt
  clear hb2 CN
  go_wp2_with fail
  refine ((unhide P1) _).mono ?_
  rintro e w3 ⟨v3, rfl, ho3, hb3⟩
  have O3 := hide ho3
  have F3 := hide ((unhide F2).below hb3)
  have hs23 := hb3.size
  clear ho3 hb3 P1 F2 f0 f1
  go_wp2_with fail
  refine ((unhide P2) _).mono ?_
  rintro e w4 ⟨v4, rfl, ho4, hb4⟩
  have O4 := hide ho4
  have Q4 := hide (ownsRow_below (unhide O3) hb4)
  have F4 := hide ((unhide F3).below hb4)
  have hs34 := hb4.size
  clear ho4 hb4 P2 O3 F3
  rcases (unhide O4).2 with ⟨hv, hn0⟩ | ⟨g4, c4, cur, hv, _⟩
  · subst hv
    have hX : X2 = [] := List.length_eq_zero_iff.1 hn0
    subst hX
    have Q5 : Hid (w4.ownsRow w2.heap.size 2 1 v3 L.length (L.map (Value.int .i64))) := hide (by rw [unhide HLd, List.append_nil]; exact unhide Q4)
    go_wp2_with (at_builtin; refine wpList_append_own_none rfl _ _ 28 rfl w2.heap.size 2 i0 1 Tryd.underlying28 hi _ _ _ rfl (unhide Q4) rfl ?_)
    obtain ⟨w5, hw5⟩ : ∃ w5, w5 = w4 := ⟨_, rfl⟩
    obtain ⟨v5, hv5⟩ : ∃ v5, v5 = v3 := ⟨_, rfl⟩
    subst hw5
    subst hv5
    have O5 := Q5
    have F5 := F4
    clear Q4 Q5 F4 O4 hn0 HLd hL
    obtain ⟨a, cap, hv⟩ := form_ownI (unhide O5)
    subst hv
    clear hs34 hs23 hla hlb hz0 hz1 hz2 hi
    generalize hnn : L.length = n at *
    have HNN := hide hnn
    clear hnn
    go_loopw [6, 7] (fun av iv wr => ∃ i : Nat, i ≤ n ∧ iv = .int .i64 i ∧ av = .int .i64 ((lastTo k L i).toNat : Nat) ∧ Hid (FSt w wr f h) ∧ Hid (wr.ownsRow w2.heap.size 2 1 (.slice a n cap) n (L.map (Value.int .i64)))) (fun _ iv _ => n - (intOf iv).toNat)
    case atStart => exact ⟨0, Nat.zero_le _, rfl, rfl, F5, O5⟩
    case round =>
      obtain ⟨i, hin, rfl, rfl, HF, HO⟩ := hrel
      clear F5 O5
      by_cases hlt : i < n
      · have hlt' : (i : Int) < (n : Int) := by omega
        obtain ⟨g, c1, hv⟩ := own_pos (unhide HO) (by omega)
        injection hv with hv1 _ hv3
        subst hv1 hv3
        have c0 := cell_at (unhide HO) i hlt
        obtain ⟨f0, _⟩ := (unhide HF).cells
        have CS1 := hide (fun W => (unhide CS) (nth L i) W ((unhide HPt) _ (by simp [nth, List.getD, unhide HNN, hlt])))
        have HLt := hide (last_step k L i)
        have hcb := lastTo_bd k L i
        have hcb2 : (lastTo k L i).toNat ≤ i := by omega
        generalize nth L i = x at *
        generalize (lastTo k L i).toNat = c at *
        clear hcb CL CS HcB HcD HTd HHd HV HPt
        cases hs : safB k x with
        | true =>
          rw [hs] at CS1
          have HE := hide ((unhide HLt).1 hs)
          clear HLt hs
          go_upto_region 10 with fail
          go_region_law (refine step_call rfl 33 #[.tmp 31, .tmp 35] #[2, 2] rfl #[.int .i64 f, .int .i64 x] (by simp [Act.eval]) (by kernel_rfl) (((unhide CS1) _).mono ?_); rintro e w6 ⟨rfl, hb6⟩; have F6 := hide (((unhide HF).drewN _).below hb6); have O6 := hide (ownsRow_below (own_drewN (unhide HO) _) hb6); clear hb6; refine ⟨_, rfl, ?_⟩)
          all_goals
            go_wp2
            go_roundw
            case rel => exact ⟨i + 1, by omega, by go_num, by rw [unhide HE], F6, O6⟩
            case measure => simp [intOf]; omega
        | false =>
          rw [hs] at CS1
          have HE := hide ((unhide HLt).2 hs)
          clear HLt hs
          go_upto_region 10 with fail
          go_region_law (refine step_call rfl 33 #[.tmp 31, .tmp 35] #[2, 2] rfl #[.int .i64 f, .int .i64 x] (by simp [Act.eval]) (by kernel_rfl) (((unhide CS1) _).mono ?_); rintro e w6 ⟨rfl, hb6⟩; have F6 := hide (((unhide HF).drewN _).below hb6); have O6 := hide (ownsRow_below (own_drewN (unhide HO) _) hb6); clear hb6; refine ⟨_, rfl, ?_⟩)
          all_goals
            go_wp2
            go_roundw
            case rel => exact ⟨i + 1, by omega, by go_num, by rw [unhide HE], F6, O6⟩
            case measure => simp [intOf]; omega
      · obtain rfl : i = n := by omega
        have hge : ¬ (i : Int) < (i : Int) := by omega
        rw [← unhide HcD]
        clear HcD CS
        generalize cutZ k L = c at *
        have hcn : c ≤ i := HcB.1
        have hpt : ∀ p ∈ L.take c, 0 ≤ p ∧ p ≤ 1114111 := fun p hp => unhide HPt p (List.mem_of_mem_take hp)
        have hnl := nrmL_len f (L.take c)
        have CX := hide (fun (W : World) (v : Value) (q : IntsAt W v (nrmL f (L.take c))) => l01Text v _ W q (by have := List.length_take_le c L; omega))
        have CY := hide (fun (W : World) (v : Value) (q : IntsAt W v (L.drop c)) => l01Text v _ W q (by rw [List.length_drop, unhide HNN]; omega))
        rw [← unhide HTd] at CX
        rw [← unhide HHd] at CY
        have CLn := hide (fun (W : World) (B0 : Nat) (v : Value) (q : W.ownsRow B0 2 1 v c ((L.take c).map (Value.int .i64))) => (unhide CL) W B0 c v (L.take c) q hpt (by omega))
        clear CL HTd HHd HPt hnl hpt
        generalize nrmL f (L.take c) = Y at *
        by_cases hcl : c < cap
        · obtain ⟨g, hv⟩ := own_some (unhide HO) (by omega)
          injection hv with hv1 _ _
          subst hv1
          have hcc : c ≤ cap := by omega
          have hcm := (own_cap (unhide HO)).2
          obtain ⟨f0, _⟩ := (unhide HF).cells
          clear HcB
          go_upto_region 12 with fail
          go_region_law (first
            | (refine step_call rfl 34 #[.tmp 39, .tmp 42] #[2, 28] rfl #[.int .i64 f, .slice (some ⟨g, 0, none⟩) c cap] (by simp [Act.eval]) (by kernel_rfl) (((unhide CLn) _ _ _ (own_prefix (own_drewN (unhide HO) _) hcn)).mono ?_); rintro e w6 ⟨v6, rfl, ho6, hb6⟩; have O6 := hide ho6; have Q6 := hide (ownsRow_below (own_drewN (unhide HO) _) hb6); have F6 := hide (((unhide HF).drewN _).below hb6); clear ho6 hb6; refine ⟨_, rfl, ?_⟩)
            | (refine step_call rfl 31 #[.tmp 43] #[28] rfl #[v6] (by simp [Act.eval]) (by kernel_rfl) (((unhide CX) _ _ (IntsAt.owned (unhide O6))).mono ?_); rintro e w7 ⟨rfl, hb7⟩; have Q7 := hide (ownsRow_below (unhide Q6) hb7); have F7 := hide ((unhide F6).below hb7); clear hb7; refine ⟨_, rfl, ?_⟩))
          all_goals
            go_wp2_with fail
            refine ((unhide CY) _ _ (by simpa using ints_suffix (unhide Q7) hcn _)).mono ?_
            rintro e w8 ⟨rfl, hb8⟩
            have F8 := hide ((unhide F7).below hb8)
            clear hb8 F7 F6 Q6 Q7 O6 HF HO CX CY CLn
            have ob := (unhide F8).ob
            obtain ⟨d0, d1, d2, d3, z0, z1, z2, z3⟩ := four_cells ob
            obtain ⟨n0, _⟩ := (unhide F8).cells
            have bel8 := (unhide F8).bel
            by_cases g1 : 65536 < tT.size
            · have g1' : (65536 : Int) < (tT.size : Int) := by omega
              have HV2 : Hid (V = badV 2) := hide (by rw [unhide HV]; unfold tailV; rw [if_pos g1])
              obtain ⟨p0, p1, p2, p3⟩ := four_put ob (.int .i64 2) (.int .i64 0) (.string ⟨#[]⟩) (.string ⟨#[]⟩)
              have B9 := hide (four_below bel8 (show w.heap.size ≤ w.heap.size + 1 by omega) (.int .i64 2) (.int .i64 0) (.string ⟨#[]⟩) (.string ⟨#[]⟩))
              clear ob bel8 HV
              go_wp2
              try simp only [Exit.inBlock, Exit.then]
              refine bodyPost_ret (by simp [results, Tryd.results11, go_sem, p0, p1, p2, p3]; try rfl) rfl ?_
              exact ⟨by rw [unhide HV2]; try rfl, unhide B9⟩
            · have g1' : (tT.size : Int) ≤ 65536 := by omega
              by_cases g2 : 1000 < tH.size
              · have g2' : (1000 : Int) < (tH.size : Int) := by omega
                have HV2 : Hid (V = badV 8) := hide (by rw [unhide HV]; unfold tailV; rw [if_neg g1, if_pos g2])
                obtain ⟨p0, p1, p2, p3⟩ := four_put ob (.int .i64 8) (.int .i64 0) (.string ⟨#[]⟩) (.string ⟨#[]⟩)
                have B9 := hide (four_below bel8 (show w.heap.size ≤ w.heap.size + 1 by omega) (.int .i64 8) (.int .i64 0) (.string ⟨#[]⟩) (.string ⟨#[]⟩))
                clear ob bel8 HV
                go_wp2
                try simp only [Exit.inBlock, Exit.then]
                refine bodyPost_ret (by simp [results, Tryd.results11, go_sem, p0, p1, p2, p3]; try rfl) rfl ?_
                exact ⟨by rw [unhide HV2]; try rfl, unhide B9⟩
              · have g2' : (tH.size : Int) ≤ 1000 := by omega
                have HV2 : Hid (V = .agg #[.int .i64 0, .int .i64 f, .string tH, .string tT]) := hide (by rw [unhide HV]; unfold tailV; rw [if_neg g1, if_neg g2])
                obtain ⟨p0, p1, p2, p3⟩ := four_put ob (.int .i64 0) (.int .i64 f) (.string tH) (.string tT)
                have B9 := hide (four_below bel8 (show w.heap.size ≤ w.heap.size + 1 by omega) (.int .i64 0) (.int .i64 f) (.string tH) (.string tT))
                clear ob bel8 HV
                go_wp2
                try simp only [Exit.inBlock, Exit.then]
                refine bodyPost_ret (by simp [results, Tryd.results11, go_sem, p0, p1, p2, p3]; try rfl) rfl ?_
                exact ⟨by rw [unhide HV2]; try rfl, unhide B9⟩
        · obtain ⟨hi0, hc0, hcap0⟩ : i = 0 ∧ c = 0 ∧ cap = 0 := by
            have := own_cap0 (unhide HO)
            omega
          obtain rfl : L = [] := List.length_eq_zero_iff.1 (by rw [unhide HNN]; exact hi0)
          clear HNN
          subst hi0
          subst hc0
          subst hcap0
          obtain ⟨f0, _⟩ := (unhide HF).cells
          clear HcB hcl
          go_upto_region 12 with fail
          go_region_law (first
            | (refine step_call rfl 34 #[.tmp 39, .tmp 42] #[2, 28] rfl #[.int .i64 f, .slice a 0 0] (by simp [Act.eval]) (by kernel_rfl) (((unhide CLn) _ _ _ (own_drewN (unhide HO) _)).mono ?_); rintro e w6 ⟨v6, rfl, ho6, hb6⟩; have O6 := hide ho6; have F6 := hide (((unhide HF).drewN _).below hb6); clear ho6 hb6; refine ⟨_, rfl, ?_⟩)
            | (refine step_call rfl 31 #[.tmp 43] #[28] rfl #[v6] (by simp [Act.eval]) (by kernel_rfl) (((unhide CX) _ _ (IntsAt.owned (unhide O6))).mono ?_); rintro e w7 ⟨rfl, hb7⟩; have F7 := hide ((unhide F6).below hb7); clear hb7; refine ⟨_, rfl, ?_⟩))
          all_goals
            go_wp2_with fail
            refine ((unhide CY) _ _ (ints_empty _ _ _)).mono ?_
            rintro e w8 ⟨rfl, hb8⟩
            have F8 := hide ((unhide F7).below hb8)
            clear hb8 F7 F6 O6 HF HO CX CY CLn
            have ob := (unhide F8).ob
            obtain ⟨d0, d1, d2, d3, z0, z1, z2, z3⟩ := four_cells ob
            obtain ⟨n0, _⟩ := (unhide F8).cells
            have bel8 := (unhide F8).bel
            by_cases g1 : 65536 < tT.size
            · have g1' : (65536 : Int) < (tT.size : Int) := by omega
              have HV2 : Hid (V = badV 2) := hide (by rw [unhide HV]; unfold tailV; rw [if_pos g1])
              obtain ⟨p0, p1, p2, p3⟩ := four_put ob (.int .i64 2) (.int .i64 0) (.string ⟨#[]⟩) (.string ⟨#[]⟩)
              have B9 := hide (four_below bel8 (show w.heap.size ≤ w.heap.size + 1 by omega) (.int .i64 2) (.int .i64 0) (.string ⟨#[]⟩) (.string ⟨#[]⟩))
              clear ob bel8 HV
              go_wp2
              try simp only [Exit.inBlock, Exit.then]
              refine bodyPost_ret (by simp [results, Tryd.results11, go_sem, p0, p1, p2, p3]; try rfl) rfl ?_
              exact ⟨by rw [unhide HV2]; try rfl, unhide B9⟩
            · have g1' : (tT.size : Int) ≤ 65536 := by omega
              by_cases g2 : 1000 < tH.size
              · have g2' : (1000 : Int) < (tH.size : Int) := by omega
                have HV2 : Hid (V = badV 8) := hide (by rw [unhide HV]; unfold tailV; rw [if_neg g1, if_pos g2])
                obtain ⟨p0, p1, p2, p3⟩ := four_put ob (.int .i64 8) (.int .i64 0) (.string ⟨#[]⟩) (.string ⟨#[]⟩)
                have B9 := hide (four_below bel8 (show w.heap.size ≤ w.heap.size + 1 by omega) (.int .i64 8) (.int .i64 0) (.string ⟨#[]⟩) (.string ⟨#[]⟩))
                clear ob bel8 HV
                go_wp2
                try simp only [Exit.inBlock, Exit.then]
                refine bodyPost_ret (by simp [results, Tryd.results11, go_sem, p0, p1, p2, p3]; try rfl) rfl ?_
                exact ⟨by rw [unhide HV2]; try rfl, unhide B9⟩
              · have g2' : (tH.size : Int) ≤ 1000 := by omega
                have HV2 : Hid (V = .agg #[.int .i64 0, .int .i64 f, .string tH, .string tT]) := hide (by rw [unhide HV]; unfold tailV; rw [if_neg g1, if_neg g2])
                obtain ⟨p0, p1, p2, p3⟩ := four_put ob (.int .i64 0) (.int .i64 f) (.string tH) (.string tT)
                have B9 := hide (four_below bel8 (show w.heap.size ≤ w.heap.size + 1 by omega) (.int .i64 0) (.int .i64 f) (.string tH) (.string tT))
                clear ob bel8 HV
                go_wp2
                try simp only [Exit.inBlock, Exit.then]
                refine bodyPost_ret (by simp [results, Tryd.results11, go_sem, p0, p1, p2, p3]; try rfl) rfl ?_
                exact ⟨by rw [unhide HV2]; try rfl, unhide B9⟩
  · subst hv
    go_wp2_with (at_builtin; refine wpList_append_own _ rfl _ _ 28 rfl w2.heap.size 2 i0 (.int .i64 0) 1 8 Tryd.underlying28 hi hz0 hz1 hz2 rfl (by decide) _ _ _ rfl (unhide Q4) ⟨g4, 0, none⟩ X2.length c4 (X2.map (Value.int .i64)) rfl (by simp) (row_src (unhide O4)) (nums_oneN _) (by unfold maxLen; omega) (by omega) (by omega) ?_)
    intro v5 w5 hown' hgrow _
    have O5 : Hid (w5.ownsRow w2.heap.size 2 1 v5 L.length (L.map (Value.int .i64))) := hide (by rw [hL, unhide HLd, List.map_append]; exact hown')
    have F5 := hide ((unhide F4).grown hgrow (fun m hm => Nat.le_trans hs2 ((unhide Q4).lt m hm).1))
    clear hown' hgrow Q4 O4 F4 HLd hL
    obtain ⟨a, cap, hv⟩ := form_ownI (unhide O5)
    subst hv
    clear hs34 hs23 hla hlb hz0 hz1 hz2 hi
    go_wp2
    generalize hnn : L.length = n at *
    have HNN := hide hnn
    clear hnn
    go_loopw [6, 7] (fun av iv wr => ∃ i : Nat, i ≤ n ∧ iv = .int .i64 i ∧ av = .int .i64 ((lastTo k L i).toNat : Nat) ∧ Hid (FSt w wr f h) ∧ Hid (wr.ownsRow w2.heap.size 2 1 (.slice a n cap) n (L.map (Value.int .i64)))) (fun _ iv _ => n - (intOf iv).toNat)
    case atStart => exact ⟨0, Nat.zero_le _, rfl, rfl, F5, O5⟩
    case round =>
      obtain ⟨i, hin, rfl, rfl, HF, HO⟩ := hrel
      clear F5 O5
      by_cases hlt : i < n
      · have hlt' : (i : Int) < (n : Int) := by omega
        obtain ⟨g, c1, hv⟩ := own_pos (unhide HO) (by omega)
        injection hv with hv1 _ hv3
        subst hv1 hv3
        have c0 := cell_at (unhide HO) i hlt
        obtain ⟨f0, _⟩ := (unhide HF).cells
        have CS1 := hide (fun W => (unhide CS) (nth L i) W ((unhide HPt) _ (by simp [nth, List.getD, unhide HNN, hlt])))
        have HLt := hide (last_step k L i)
        have hcb := lastTo_bd k L i
        have hcb2 : (lastTo k L i).toNat ≤ i := by omega
        generalize nth L i = x at *
        generalize (lastTo k L i).toNat = c at *
        clear hcb CL CS HcB HcD HTd HHd HV HPt
        cases hs : safB k x with
        | true =>
          rw [hs] at CS1
          have HE := hide ((unhide HLt).1 hs)
          clear HLt hs
          go_upto_region 10 with fail
          go_region_law (refine step_call rfl 33 #[.tmp 31, .tmp 35] #[2, 2] rfl #[.int .i64 f, .int .i64 x] (by simp [Act.eval]) (by kernel_rfl) (((unhide CS1) _).mono ?_); rintro e w6 ⟨rfl, hb6⟩; have F6 := hide (((unhide HF).drewN _).below hb6); have O6 := hide (ownsRow_below (own_drewN (unhide HO) _) hb6); clear hb6; refine ⟨_, rfl, ?_⟩)
          all_goals
            go_wp2
            go_roundw
            case rel => exact ⟨i + 1, by omega, by go_num, by rw [unhide HE], F6, O6⟩
            case measure => simp [intOf]; omega
        | false =>
          rw [hs] at CS1
          have HE := hide ((unhide HLt).2 hs)
          clear HLt hs
          go_upto_region 10 with fail
          go_region_law (refine step_call rfl 33 #[.tmp 31, .tmp 35] #[2, 2] rfl #[.int .i64 f, .int .i64 x] (by simp [Act.eval]) (by kernel_rfl) (((unhide CS1) _).mono ?_); rintro e w6 ⟨rfl, hb6⟩; have F6 := hide (((unhide HF).drewN _).below hb6); have O6 := hide (ownsRow_below (own_drewN (unhide HO) _) hb6); clear hb6; refine ⟨_, rfl, ?_⟩)
          all_goals
            go_wp2
            go_roundw
            case rel => exact ⟨i + 1, by omega, by go_num, by rw [unhide HE], F6, O6⟩
            case measure => simp [intOf]; omega
      · obtain rfl : i = n := by omega
        have hge : ¬ (i : Int) < (i : Int) := by omega
        rw [← unhide HcD]
        clear HcD CS
        generalize cutZ k L = c at *
        have hcn : c ≤ i := HcB.1
        have hpt : ∀ p ∈ L.take c, 0 ≤ p ∧ p ≤ 1114111 := fun p hp => unhide HPt p (List.mem_of_mem_take hp)
        have hnl := nrmL_len f (L.take c)
        have CX := hide (fun (W : World) (v : Value) (q : IntsAt W v (nrmL f (L.take c))) => l01Text v _ W q (by have := List.length_take_le c L; omega))
        have CY := hide (fun (W : World) (v : Value) (q : IntsAt W v (L.drop c)) => l01Text v _ W q (by rw [List.length_drop, unhide HNN]; omega))
        rw [← unhide HTd] at CX
        rw [← unhide HHd] at CY
        have CLn := hide (fun (W : World) (B0 : Nat) (v : Value) (q : W.ownsRow B0 2 1 v c ((L.take c).map (Value.int .i64))) => (unhide CL) W B0 c v (L.take c) q hpt (by omega))
        clear CL HTd HHd HPt hnl hpt
        generalize nrmL f (L.take c) = Y at *
        by_cases hcl : c < cap
        · obtain ⟨g, hv⟩ := own_some (unhide HO) (by omega)
          injection hv with hv1 _ _
          subst hv1
          have hcc : c ≤ cap := by omega
          have hcm := (own_cap (unhide HO)).2
          obtain ⟨f0, _⟩ := (unhide HF).cells
          clear HcB
          go_upto_region 12 with fail
          go_region_law (first
            | (refine step_call rfl 34 #[.tmp 39, .tmp 42] #[2, 28] rfl #[.int .i64 f, .slice (some ⟨g, 0, none⟩) c cap] (by simp [Act.eval]) (by kernel_rfl) (((unhide CLn) _ _ _ (own_prefix (own_drewN (unhide HO) _) hcn)).mono ?_); rintro e w6 ⟨v6, rfl, ho6, hb6⟩; have O6 := hide ho6; have Q6 := hide (ownsRow_below (own_drewN (unhide HO) _) hb6); have F6 := hide (((unhide HF).drewN _).below hb6); clear ho6 hb6; refine ⟨_, rfl, ?_⟩)
            | (refine step_call rfl 31 #[.tmp 43] #[28] rfl #[v6] (by simp [Act.eval]) (by kernel_rfl) (((unhide CX) _ _ (IntsAt.owned (unhide O6))).mono ?_); rintro e w7 ⟨rfl, hb7⟩; have Q7 := hide (ownsRow_below (unhide Q6) hb7); have F7 := hide ((unhide F6).below hb7); clear hb7; refine ⟨_, rfl, ?_⟩))
          all_goals
            go_wp2_with fail
            refine ((unhide CY) _ _ (by simpa using ints_suffix (unhide Q7) hcn _)).mono ?_
            rintro e w8 ⟨rfl, hb8⟩
            have F8 := hide ((unhide F7).below hb8)
            clear hb8 F7 F6 Q6 Q7 O6 HF HO CX CY CLn
            have ob := (unhide F8).ob
            obtain ⟨d0, d1, d2, d3, z0, z1, z2, z3⟩ := four_cells ob
            obtain ⟨n0, _⟩ := (unhide F8).cells
            have bel8 := (unhide F8).bel
            by_cases g1 : 65536 < tT.size
            · have g1' : (65536 : Int) < (tT.size : Int) := by omega
              have HV2 : Hid (V = badV 2) := hide (by rw [unhide HV]; unfold tailV; rw [if_pos g1])
              obtain ⟨p0, p1, p2, p3⟩ := four_put ob (.int .i64 2) (.int .i64 0) (.string ⟨#[]⟩) (.string ⟨#[]⟩)
              have B9 := hide (four_below bel8 (show w.heap.size ≤ w.heap.size + 1 by omega) (.int .i64 2) (.int .i64 0) (.string ⟨#[]⟩) (.string ⟨#[]⟩))
              clear ob bel8 HV
              go_wp2
              try simp only [Exit.inBlock, Exit.then]
              refine bodyPost_ret (by simp [results, Tryd.results11, go_sem, p0, p1, p2, p3]; try rfl) rfl ?_
              exact ⟨by rw [unhide HV2]; try rfl, unhide B9⟩
            · have g1' : (tT.size : Int) ≤ 65536 := by omega
              by_cases g2 : 1000 < tH.size
              · have g2' : (1000 : Int) < (tH.size : Int) := by omega
                have HV2 : Hid (V = badV 8) := hide (by rw [unhide HV]; unfold tailV; rw [if_neg g1, if_pos g2])
                obtain ⟨p0, p1, p2, p3⟩ := four_put ob (.int .i64 8) (.int .i64 0) (.string ⟨#[]⟩) (.string ⟨#[]⟩)
                have B9 := hide (four_below bel8 (show w.heap.size ≤ w.heap.size + 1 by omega) (.int .i64 8) (.int .i64 0) (.string ⟨#[]⟩) (.string ⟨#[]⟩))
                clear ob bel8 HV
                go_wp2
                try simp only [Exit.inBlock, Exit.then]
                refine bodyPost_ret (by simp [results, Tryd.results11, go_sem, p0, p1, p2, p3]; try rfl) rfl ?_
                exact ⟨by rw [unhide HV2]; try rfl, unhide B9⟩
              · have g2' : (tH.size : Int) ≤ 1000 := by omega
                have HV2 : Hid (V = .agg #[.int .i64 0, .int .i64 f, .string tH, .string tT]) := hide (by rw [unhide HV]; unfold tailV; rw [if_neg g1, if_neg g2])
                obtain ⟨p0, p1, p2, p3⟩ := four_put ob (.int .i64 0) (.int .i64 f) (.string tH) (.string tT)
                have B9 := hide (four_below bel8 (show w.heap.size ≤ w.heap.size + 1 by omega) (.int .i64 0) (.int .i64 f) (.string tH) (.string tT))
                clear ob bel8 HV
                go_wp2
                try simp only [Exit.inBlock, Exit.then]
                refine bodyPost_ret (by simp [results, Tryd.results11, go_sem, p0, p1, p2, p3]; try rfl) rfl ?_
                exact ⟨by rw [unhide HV2]; try rfl, unhide B9⟩
        · obtain ⟨hi0, hc0, hcap0⟩ : i = 0 ∧ c = 0 ∧ cap = 0 := by
            have := own_cap0 (unhide HO)
            omega
          obtain rfl : L = [] := List.length_eq_zero_iff.1 (by rw [unhide HNN]; exact hi0)
          clear HNN
          subst hi0
          subst hc0
          subst hcap0
          obtain ⟨f0, _⟩ := (unhide HF).cells
          clear HcB hcl
          go_upto_region 12 with fail
          go_region_law (first
            | (refine step_call rfl 34 #[.tmp 39, .tmp 42] #[2, 28] rfl #[.int .i64 f, .slice a 0 0] (by simp [Act.eval]) (by kernel_rfl) (((unhide CLn) _ _ _ (own_drewN (unhide HO) _)).mono ?_); rintro e w6 ⟨v6, rfl, ho6, hb6⟩; have O6 := hide ho6; have F6 := hide (((unhide HF).drewN _).below hb6); clear ho6 hb6; refine ⟨_, rfl, ?_⟩)
            | (refine step_call rfl 31 #[.tmp 43] #[28] rfl #[v6] (by simp [Act.eval]) (by kernel_rfl) (((unhide CX) _ _ (IntsAt.owned (unhide O6))).mono ?_); rintro e w7 ⟨rfl, hb7⟩; have F7 := hide ((unhide F6).below hb7); clear hb7; refine ⟨_, rfl, ?_⟩))
          all_goals
            go_wp2_with fail
            refine ((unhide CY) _ _ (ints_empty _ _ _)).mono ?_
            rintro e w8 ⟨rfl, hb8⟩
            have F8 := hide ((unhide F7).below hb8)
            clear hb8 F7 F6 O6 HF HO CX CY CLn
            have ob := (unhide F8).ob
            obtain ⟨d0, d1, d2, d3, z0, z1, z2, z3⟩ := four_cells ob
            obtain ⟨n0, _⟩ := (unhide F8).cells
            have bel8 := (unhide F8).bel
            by_cases g1 : 65536 < tT.size
            · have g1' : (65536 : Int) < (tT.size : Int) := by omega
              have HV2 : Hid (V = badV 2) := hide (by rw [unhide HV]; unfold tailV; rw [if_pos g1])
              obtain ⟨p0, p1, p2, p3⟩ := four_put ob (.int .i64 2) (.int .i64 0) (.string ⟨#[]⟩) (.string ⟨#[]⟩)
              have B9 := hide (four_below bel8 (show w.heap.size ≤ w.heap.size + 1 by omega) (.int .i64 2) (.int .i64 0) (.string ⟨#[]⟩) (.string ⟨#[]⟩))
              clear ob bel8 HV
              go_wp2
              try simp only [Exit.inBlock, Exit.then]
              refine bodyPost_ret (by simp [results, Tryd.results11, go_sem, p0, p1, p2, p3]; try rfl) rfl ?_
              exact ⟨by rw [unhide HV2]; try rfl, unhide B9⟩
            · have g1' : (tT.size : Int) ≤ 65536 := by omega
              by_cases g2 : 1000 < tH.size
              · have g2' : (1000 : Int) < (tH.size : Int) := by omega
                have HV2 : Hid (V = badV 8) := hide (by rw [unhide HV]; unfold tailV; rw [if_neg g1, if_pos g2])
                obtain ⟨p0, p1, p2, p3⟩ := four_put ob (.int .i64 8) (.int .i64 0) (.string ⟨#[]⟩) (.string ⟨#[]⟩)
                have B9 := hide (four_below bel8 (show w.heap.size ≤ w.heap.size + 1 by omega) (.int .i64 8) (.int .i64 0) (.string ⟨#[]⟩) (.string ⟨#[]⟩))
                clear ob bel8 HV
                go_wp2
                try simp only [Exit.inBlock, Exit.then]
                refine bodyPost_ret (by simp [results, Tryd.results11, go_sem, p0, p1, p2, p3]; try rfl) rfl ?_
                exact ⟨by rw [unhide HV2]; try rfl, unhide B9⟩
              · have g2' : (tH.size : Int) ≤ 1000 := by omega
                have HV2 : Hid (V = .agg #[.int .i64 0, .int .i64 f, .string tH, .string tT]) := hide (by rw [unhide HV]; unfold tailV; rw [if_neg g1, if_neg g2])
                obtain ⟨p0, p1, p2, p3⟩ := four_put ob (.int .i64 0) (.int .i64 f) (.string tH) (.string tT)
                have B9 := hide (four_below bel8 (show w.heap.size ≤ w.heap.size + 1 by omega) (.int .i64 0) (.int .i64 f) (.string tH) (.string tT))
                clear ob bel8 HV
                go_wp2
                try simp only [Exit.inBlock, Exit.then]
                refine bodyPost_ret (by simp [results, Tryd.results11, go_sem, p0, p1, p2, p3]; try rfl) rfl ?_
                exact ⟨by rw [unhide HV2]; try rfl, unhide B9⟩
end Go.Proofs.YtlhoeoeapkjegaaDoor
/- FeedNormer of the program, and the law. -/
namespace Go.Proofs.YtlhoeoeapkjegaaDoor
open Go.RowKit
set_option maxHeartbeats 4000000 in
set_option maxRecDepth 100000 in
theorem feedI_go (f : Int) (h t : ByteArray) (w : World) (ht : t.size ≤ 65536) (hn : nfB f h = false) (hT : Lib.Utf8Tabs (Tryd.laysValid_ren.g 3) (Tryd.laysValid_ren.g 4) w) :
    Calls Tryd.prog 9 #[.agg #[.int .i64 f, .string h], .string t] w fun e w' => e = .returned (feedV f h t) ∧ Below w.heap.size w w' := by
  have mixed := mixedO
  obtain ⟨i0, hi, hz0, hz1, hz2⟩ := info_parts info2
  obtain ⟨hf, hh⟩ := nf_parts hn
  have CN := hide (fun W (q : Below w.heap.size w W) => implNF f h W (Utf8Tabs_below hT q))
  have ho : nfOut f h = 0 := by unfold nfOut; rw [if_neg (by rw [hn]; simp)]
  rw [ho] at CN
  have P1 := hide (fun W => implPoints h W (by omega))
  have P2 := hide (fun W => implPoints t W (by omega))
  have HV : Hid (feedV f h t = tailV f (fedH f (pts h ++ pts t)) (fedT f (pts h ++ pts t))) := hide (feed_tail ht hn)
  have HcB := cut_bd (isK f) (pts h ++ pts t)
  have HcD : Hid (cutZ (isK f) (pts h ++ pts t) = (lastTo (isK f) (pts h ++ pts t) (pts h ++ pts t).length).toNat) := hide rfl
  have HTd : Hid (fedT f (pts h ++ pts t) = strOfNums (textL (nrmL f ((pts h ++ pts t).take (cutZ (isK f) (pts h ++ pts t)))))) := hide rfl
  have HHd : Hid (fedH f (pts h ++ pts t) = strOfNums (textL ((pts h ++ pts t).drop (cutZ (isK f) (pts h ++ pts t))))) := hide rfl
  have hla : (pts h).length ≤ 1000 := by have := pts_le h; omega
  have hlb : (pts t).length ≤ 65536 := by have := pts_le t; omega
  obtain ⟨k, hk⟩ : ∃ k, k = isK f := ⟨_, rfl⟩
  have HK : Hid (k = true ↔ f = 3 ∨ f = 4) := hide (by rw [hk]; simp [isK])
  rw [← hk] at HcB HcD HTd HHd
  clear hf hn ho hk hT
  generalize feedV f h t = V at *
  generalize fedT f (pts h ++ pts t) = tT at *
  generalize fedH f (pts h ++ pts t) = tH at *
  generalize pts h = X1 at *
  generalize pts t = X2 at *
  obtain ⟨L, hLd⟩ : ∃ L, L = X1 ++ X2 := ⟨_, rfl⟩
  rw [← hLd] at HcB HcD HTd HHd
  have hL : L.length = X1.length + X2.length := by rw [hLd, List.length_append]
  have HLd := hide hLd
  have hnb : L.length ≤ 66536 := by omega
  clear hLd
  go_enter Tryd.func9, Tryd.ntmps9
  go_wp2_with fail
  refine ((unhide CN) _ (two_below w _ _)).mono ?_
  rintro e w2 ⟨rfl, hb2⟩
  have F2 := hide ((FSt.new w f h).below hb2)
  obtain ⟨f0, f1⟩ := (unhide F2).cells
  have hs2 := (unhide F2).lt
  clear hb2 CN
  go_wp2_with fail
  refine ((unhide P1) _).mono ?_
  rintro e w3 ⟨v3, rfl, ho3, hb3⟩
  have O3 := hide ho3
  have F3 := hide ((unhide F2).below hb3)
  have hs23 := hb3.size
  clear ho3 hb3 P1 F2 f0 f1
  go_wp2_with fail
  refine ((unhide P2) _).mono ?_
  rintro e w4 ⟨v4, rfl, ho4, hb4⟩
  have O4 := hide ho4
  have Q4 := hide (ownsRow_below (unhide O3) hb4)
  have F4 := hide ((unhide F3).below hb4)
  have hs34 := hb4.size
  clear ho4 hb4 P2 O3 F3
  rcases (unhide O4).2 with ⟨hv, hn0⟩ | ⟨g4, c4, cur, hv, _⟩
  · subst hv
    have hX : X2 = [] := List.length_eq_zero_iff.1 hn0
    subst hX
    have Q5 : Hid (w4.ownsRow w2.heap.size 2 1 v3 L.length (L.map (Value.int .i64))) := hide (by rw [unhide HLd, List.append_nil]; exact unhide Q4)
    obtain ⟨f0, _⟩ := (unhide F4).cells
    go_wp2_with (at_builtin; refine wpList_append_own_none rfl _ _ 28 rfl w2.heap.size 2 i0 1 Tryd.underlying28 hi _ _ _ rfl (unhide Q4) rfl ?_)
    obtain ⟨w5, hw5⟩ : ∃ w5, w5 = w4 := ⟨_, rfl⟩
    obtain ⟨v5, hv5⟩ : ∃ v5, v5 = v3 := ⟨_, rfl⟩
    subst hw5
    subst hv5
    have O5 := Q5
    have F5 := F4
    clear Q4 Q5 F4 O4 hn0 HLd hL
    obtain ⟨a, cap, hv⟩ := form_ownI (unhide O5)
    subst hv
    clear hs34 hs23 hla hlb hz0 hz1 hz2 hi
    generalize hnn : L.length = n at *
    have HNN := hide hnn
    clear hnn
    obtain ⟨f0, _⟩ := (unhide F5).cells
    have LS := hide (lastSafeI f k (unhide HK) w2.heap.size n _ L w5 (unhide O5) (by omega))
    have hcase : lastTo k L n = (cutZ k L : Int) ∨ (lastTo k L n = -1 ∧ cutZ k L = 0) := by
      have h1 := lastTo_bd k L n
      have h2 := unhide HcD
      omega
    clear HcD
    generalize cutZ k L = c at *
    have hcn : c ≤ n := HcB.1
    have hnl := nrmL_len f (L.take c)
    have CX := hide (fun (W : World) (v : Value) (q : IntsAt W v (nrmL f (L.take c))) => implWritten v _ W q (by have := List.length_take_le c L; omega))
    have CY := hide (fun (W : World) (v : Value) (q : IntsAt W v (L.drop c)) => implWritten v _ W q (by rw [List.length_drop, unhide HNN]; omega))
    rw [← unhide HTd] at CX
    rw [← unhide HHd] at CY
    have CLn := hide (fun (W : World) (B0 : Nat) (v : Value) (q : W.ownsRow B0 2 1 v c ((L.take c).map (Value.int .i64))) => normalI f B0 c v (L.take c) W q (by omega))
    clear HTd HHd hnl
    generalize nrmL f (L.take c) = Y at *
    obtain ⟨z, hz, hmx⟩ : ∃ z, lastTo k L n = z ∧ max z 0 = (c : Int) := by
      rcases hcase with hz | ⟨hz, hc0⟩
      · exact ⟨_, hz, by omega⟩
      · exact ⟨_, hz, by rw [hc0]; rfl⟩
    rw [hz] at LS
    have HMX := hide hmx
    clear hz hcase hmx
    all_goals
      go_wp2_with (go_at_call 29; refine (unhide LS).mono ?_; rintro e w9 ⟨rfl, hb9⟩; have F9 := hide ((unhide F5).below hb9); have O9 := hide (ownsRow_below (unhide O5) hb9); clear hb9)
      rw [unhide HMX]
      clear LS F5 O5 f0 HMX
      by_cases hcl : c < cap
      · obtain ⟨g, hv⟩ := own_some (unhide O9) (by omega)
        injection hv with hv1 _ _
        subst hv1
        have hcc : c ≤ cap := by omega
        have hne : ¬ cap = c := by omega
        have hcm := (own_cap (unhide O9)).2
        obtain ⟨f0, _⟩ := (unhide F9).cells
        clear HcB
        go_upto_region 7 with fail
        go_region_law (first
          | (refine step_call rfl 26 #[.tmp 29, .tmp 32] #[2, 28] rfl #[.int .i64 f, .slice (some ⟨g, 0, none⟩) c cap] (by simp [Act.eval]) (by kernel_rfl) (((unhide CLn) _ _ _ (own_prefix (own_drewN (unhide O9) _) hcn)).mono ?_); rintro e w6 ⟨v6, rfl, ho6, hb6⟩; have O6 := hide ho6; have Q6 := hide (ownsRow_below (own_drewN (unhide O9) _) hb6); have F6 := hide (((unhide F9).drewN _).below hb6); clear ho6 hb6; refine ⟨_, rfl, ?_⟩)
          | (refine step_call rfl 30 #[.tmp 33] #[28] rfl #[v6] (by simp [Act.eval]) (by kernel_rfl) (((unhide CX) _ _ (IntsAt.owned (unhide O6))).mono ?_); rintro e w7 ⟨rfl, hb7⟩; have Q7 := hide (ownsRow_below (unhide Q6) hb7); have F7 := hide ((unhide F6).below hb7); clear hb7; refine ⟨_, rfl, ?_⟩)
          | (refine step_call rfl 30 #[.tmp 37] #[28] rfl #[.slice (some ⟨g, c, none⟩) (n - c) (cap - c)] (by simp [Act.eval]) (by kernel_rfl) (((unhide CY) _ _ (ints_suffix (unhide Q7) hcn _)).mono ?_); rintro e w8 ⟨rfl, hb8⟩; have F8 := hide ((unhide F7).below hb8); clear hb8; refine ⟨_, rfl, ?_⟩))
        all_goals
          clear F7 F6 Q6 Q7 O6 F9 O9 CX CY CLn
          have ob := (unhide F8).ob
          obtain ⟨d0, d1, d2, d3, z0, z1, z2, z3⟩ := four_cells ob
          obtain ⟨n0, _⟩ := (unhide F8).cells
          have bel8 := (unhide F8).bel
          by_cases g1 : 65536 < tT.size
          · have g1' : (65536 : Int) < (tT.size : Int) := by omega
            have HV2 : Hid (V = badV 2) := hide (by rw [unhide HV]; unfold tailV; rw [if_pos g1])
            obtain ⟨p0, p1, p2, p3⟩ := four_put ob (.int .i64 2) (.int .i64 0) (.string ⟨#[]⟩) (.string ⟨#[]⟩)
            have B9 := hide (four_below bel8 (show w.heap.size ≤ w.heap.size + 1 by omega) (.int .i64 2) (.int .i64 0) (.string ⟨#[]⟩) (.string ⟨#[]⟩))
            clear ob bel8 HV
            go_wp2
            try simp only [Exit.inBlock, Exit.then]
            refine bodyPost_ret (by simp [results, Tryd.results9, go_sem, p0, p1, p2, p3]; try rfl) rfl ?_
            exact ⟨by rw [unhide HV2]; try rfl, unhide B9⟩
          · have g1' : (tT.size : Int) ≤ 65536 := by omega
            by_cases g2 : 1000 < tH.size
            · have g2' : (1000 : Int) < (tH.size : Int) := by omega
              have HV2 : Hid (V = badV 8) := hide (by rw [unhide HV]; unfold tailV; rw [if_neg g1, if_pos g2])
              obtain ⟨p0, p1, p2, p3⟩ := four_put ob (.int .i64 8) (.int .i64 0) (.string ⟨#[]⟩) (.string ⟨#[]⟩)
              have B9 := hide (four_below bel8 (show w.heap.size ≤ w.heap.size + 1 by omega) (.int .i64 8) (.int .i64 0) (.string ⟨#[]⟩) (.string ⟨#[]⟩))
              clear ob bel8 HV
              go_wp2
              try simp only [Exit.inBlock, Exit.then]
              refine bodyPost_ret (by simp [results, Tryd.results9, go_sem, p0, p1, p2, p3]; try rfl) rfl ?_
              exact ⟨by rw [unhide HV2]; try rfl, unhide B9⟩
            · have g2' : (tH.size : Int) ≤ 1000 := by omega
              have HV2 : Hid (V = .agg #[.int .i64 0, .int .i64 f, .string tH, .string tT]) := hide (by rw [unhide HV]; unfold tailV; rw [if_neg g1, if_neg g2])
              obtain ⟨p0, p1, p2, p3⟩ := four_put ob (.int .i64 0) (.int .i64 f) (.string tH) (.string tT)
              have B9 := hide (four_below bel8 (show w.heap.size ≤ w.heap.size + 1 by omega) (.int .i64 0) (.int .i64 f) (.string tH) (.string tT))
              clear ob bel8 HV
              go_wp2
              try simp only [Exit.inBlock, Exit.then]
              refine bodyPost_ret (by simp [results, Tryd.results9, go_sem, p0, p1, p2, p3]; try rfl) rfl ?_
              exact ⟨by rw [unhide HV2]; try rfl, unhide B9⟩
      · obtain ⟨hi0, hc0', hcap0⟩ : n = 0 ∧ c = 0 ∧ cap = 0 := by
          have := own_cap0 (unhide O9)
          omega
        obtain rfl : L = [] := List.length_eq_zero_iff.1 (by rw [unhide HNN]; exact hi0)
        clear HNN
        subst hi0
        subst hc0'
        subst hcap0
        obtain ⟨f0, _⟩ := (unhide F9).cells
        clear HcB hcl
        go_upto_region 7 with fail
        go_region_law (first
          | (refine step_call rfl 26 #[.tmp 29, .tmp 32] #[2, 28] rfl #[.int .i64 f, .slice a 0 0] (by simp [Act.eval]) (by kernel_rfl) (((unhide CLn) _ _ _ (own_drewN (unhide O9) _)).mono ?_); rintro e w6 ⟨v6, rfl, ho6, hb6⟩; have O6 := hide ho6; have F6 := hide (((unhide F9).drewN _).below hb6); clear ho6 hb6; refine ⟨_, rfl, ?_⟩)
          | (refine step_call rfl 30 #[.tmp 33] #[28] rfl #[v6] (by simp [Act.eval]) (by kernel_rfl) (((unhide CX) _ _ (IntsAt.owned (unhide O6))).mono ?_); rintro e w7 ⟨rfl, hb7⟩; have F7 := hide ((unhide F6).below hb7); clear hb7; refine ⟨_, rfl, ?_⟩)
          | (refine step_call rfl 30 #[.tmp 37] #[28] rfl #[.slice a 0 0] (by simp [Act.eval]) (by kernel_rfl) (((unhide CY) _ _ (ints_empty _ _ _)).mono ?_); rintro e w8 ⟨rfl, hb8⟩; have F8 := hide ((unhide F7).below hb8); clear hb8; refine ⟨_, rfl, ?_⟩))
        all_goals
          clear F7 F6 O6 F9 O9 CX CY CLn
          have ob := (unhide F8).ob
          obtain ⟨d0, d1, d2, d3, z0, z1, z2, z3⟩ := four_cells ob
          obtain ⟨n0, _⟩ := (unhide F8).cells
          have bel8 := (unhide F8).bel
          by_cases g1 : 65536 < tT.size
          · have g1' : (65536 : Int) < (tT.size : Int) := by omega
            have HV2 : Hid (V = badV 2) := hide (by rw [unhide HV]; unfold tailV; rw [if_pos g1])
            obtain ⟨p0, p1, p2, p3⟩ := four_put ob (.int .i64 2) (.int .i64 0) (.string ⟨#[]⟩) (.string ⟨#[]⟩)
            have B9 := hide (four_below bel8 (show w.heap.size ≤ w.heap.size + 1 by omega) (.int .i64 2) (.int .i64 0) (.string ⟨#[]⟩) (.string ⟨#[]⟩))
            clear ob bel8 HV
            go_wp2
            try simp only [Exit.inBlock, Exit.then]
            refine bodyPost_ret (by simp [results, Tryd.results9, go_sem, p0, p1, p2, p3]; try rfl) rfl ?_
            exact ⟨by rw [unhide HV2]; try rfl, unhide B9⟩
          · have g1' : (tT.size : Int) ≤ 65536 := by omega
            by_cases g2 : 1000 < tH.size
            · have g2' : (1000 : Int) < (tH.size : Int) := by omega
              have HV2 : Hid (V = badV 8) := hide (by rw [unhide HV]; unfold tailV; rw [if_neg g1, if_pos g2])
              obtain ⟨p0, p1, p2, p3⟩ := four_put ob (.int .i64 8) (.int .i64 0) (.string ⟨#[]⟩) (.string ⟨#[]⟩)
              have B9 := hide (four_below bel8 (show w.heap.size ≤ w.heap.size + 1 by omega) (.int .i64 8) (.int .i64 0) (.string ⟨#[]⟩) (.string ⟨#[]⟩))
              clear ob bel8 HV
              go_wp2
              try simp only [Exit.inBlock, Exit.then]
              refine bodyPost_ret (by simp [results, Tryd.results9, go_sem, p0, p1, p2, p3]; try rfl) rfl ?_
              exact ⟨by rw [unhide HV2]; try rfl, unhide B9⟩
            · have g2' : (tH.size : Int) ≤ 1000 := by omega
              have HV2 : Hid (V = .agg #[.int .i64 0, .int .i64 f, .string tH, .string tT]) := hide (by rw [unhide HV]; unfold tailV; rw [if_neg g1, if_neg g2])
              obtain ⟨p0, p1, p2, p3⟩ := four_put ob (.int .i64 0) (.int .i64 f) (.string tH) (.string tT)
              have B9 := hide (four_below bel8 (show w.heap.size ≤ w.heap.size + 1 by omega) (.int .i64 0) (.int .i64 f) (.string tH) (.string tT))
              clear ob bel8 HV
              go_wp2
              try simp only [Exit.inBlock, Exit.then]
              refine bodyPost_ret (by simp [results, Tryd.results9, go_sem, p0, p1, p2, p3]; try rfl) rfl ?_
              exact ⟨by rw [unhide HV2]; try rfl, unhide B9⟩
  · subst hv
    go_wp2_with (at_builtin; refine wpList_append_own _ rfl _ _ 28 rfl w2.heap.size 2 i0 (.int .i64 0) 1 8 Tryd.underlying28 hi hz0 hz1 hz2 rfl (by decide) _ _ _ rfl (unhide Q4) ⟨g4, 0, none⟩ X2.length c4 (X2.map (Value.int .i64)) rfl (by simp) (row_src (unhide O4)) (nums_oneN _) (by unfold maxLen; omega) (by omega) (by omega) ?_)
    intro v5 w5 hown' hgrow _
    have O5 : Hid (w5.ownsRow w2.heap.size 2 1 v5 L.length (L.map (Value.int .i64))) := hide (by rw [hL, unhide HLd, List.map_append]; exact hown')
    have F5 := hide ((unhide F4).grown hgrow (fun m hm => Nat.le_trans hs2 ((unhide Q4).lt m hm).1))
    clear hown' hgrow Q4 O4 F4 HLd hL
    obtain ⟨a, cap, hv⟩ := form_ownI (unhide O5)
    subst hv
    clear hs34 hs23 hla hlb hz0 hz1 hz2 hi
    generalize hnn : L.length = n at *
    have HNN := hide hnn
    clear hnn
    obtain ⟨f0, _⟩ := (unhide F5).cells
    have LS := hide (lastSafeI f k (unhide HK) w2.heap.size n _ L w5 (unhide O5) (by omega))
    have hcase : lastTo k L n = (cutZ k L : Int) ∨ (lastTo k L n = -1 ∧ cutZ k L = 0) := by
      have h1 := lastTo_bd k L n
      have h2 := unhide HcD
      omega
    clear HcD
    generalize cutZ k L = c at *
    have hcn : c ≤ n := HcB.1
    have hnl := nrmL_len f (L.take c)
    have CX := hide (fun (W : World) (v : Value) (q : IntsAt W v (nrmL f (L.take c))) => implWritten v _ W q (by have := List.length_take_le c L; omega))
    have CY := hide (fun (W : World) (v : Value) (q : IntsAt W v (L.drop c)) => implWritten v _ W q (by rw [List.length_drop, unhide HNN]; omega))
    rw [← unhide HTd] at CX
    rw [← unhide HHd] at CY
    have CLn := hide (fun (W : World) (B0 : Nat) (v : Value) (q : W.ownsRow B0 2 1 v c ((L.take c).map (Value.int .i64))) => normalI f B0 c v (L.take c) W q (by omega))
    clear HTd HHd hnl
    generalize nrmL f (L.take c) = Y at *
    obtain ⟨z, hz, hmx⟩ : ∃ z, lastTo k L n = z ∧ max z 0 = (c : Int) := by
      rcases hcase with hz | ⟨hz, hc0⟩
      · exact ⟨_, hz, by omega⟩
      · exact ⟨_, hz, by rw [hc0]; rfl⟩
    rw [hz] at LS
    have HMX := hide hmx
    clear hz hcase hmx
    all_goals
      go_wp2_with (go_at_call 29; refine (unhide LS).mono ?_; rintro e w9 ⟨rfl, hb9⟩; have F9 := hide ((unhide F5).below hb9); have O9 := hide (ownsRow_below (unhide O5) hb9); clear hb9)
      rw [unhide HMX]
      clear LS F5 O5 f0 HMX
      by_cases hcl : c < cap
      · obtain ⟨g, hv⟩ := own_some (unhide O9) (by omega)
        injection hv with hv1 _ _
        subst hv1
        have hcc : c ≤ cap := by omega
        have hne : ¬ cap = c := by omega
        have hcm := (own_cap (unhide O9)).2
        obtain ⟨f0, _⟩ := (unhide F9).cells
        clear HcB
        go_upto_region 7 with fail
        go_region_law (first
          | (refine step_call rfl 26 #[.tmp 29, .tmp 32] #[2, 28] rfl #[.int .i64 f, .slice (some ⟨g, 0, none⟩) c cap] (by simp [Act.eval]) (by kernel_rfl) (((unhide CLn) _ _ _ (own_prefix (own_drewN (unhide O9) _) hcn)).mono ?_); rintro e w6 ⟨v6, rfl, ho6, hb6⟩; have O6 := hide ho6; have Q6 := hide (ownsRow_below (own_drewN (unhide O9) _) hb6); have F6 := hide (((unhide F9).drewN _).below hb6); clear ho6 hb6; refine ⟨_, rfl, ?_⟩)
          | (refine step_call rfl 30 #[.tmp 33] #[28] rfl #[v6] (by simp [Act.eval]) (by kernel_rfl) (((unhide CX) _ _ (IntsAt.owned (unhide O6))).mono ?_); rintro e w7 ⟨rfl, hb7⟩; have Q7 := hide (ownsRow_below (unhide Q6) hb7); have F7 := hide ((unhide F6).below hb7); clear hb7; refine ⟨_, rfl, ?_⟩)
          | (refine step_call rfl 30 #[.tmp 37] #[28] rfl #[.slice (some ⟨g, c, none⟩) (n - c) (cap - c)] (by simp [Act.eval]) (by kernel_rfl) (((unhide CY) _ _ (ints_suffix (unhide Q7) hcn _)).mono ?_); rintro e w8 ⟨rfl, hb8⟩; have F8 := hide ((unhide F7).below hb8); clear hb8; refine ⟨_, rfl, ?_⟩))
        all_goals
          clear F7 F6 Q6 Q7 O6 F9 O9 CX CY CLn
          have ob := (unhide F8).ob
          obtain ⟨d0, d1, d2, d3, z0, z1, z2, z3⟩ := four_cells ob
          obtain ⟨n0, _⟩ := (unhide F8).cells
          have bel8 := (unhide F8).bel
          by_cases g1 : 65536 < tT.size
          · have g1' : (65536 : Int) < (tT.size : Int) := by omega
            have HV2 : Hid (V = badV 2) := hide (by rw [unhide HV]; unfold tailV; rw [if_pos g1])
            obtain ⟨p0, p1, p2, p3⟩ := four_put ob (.int .i64 2) (.int .i64 0) (.string ⟨#[]⟩) (.string ⟨#[]⟩)
            have B9 := hide (four_below bel8 (show w.heap.size ≤ w.heap.size + 1 by omega) (.int .i64 2) (.int .i64 0) (.string ⟨#[]⟩) (.string ⟨#[]⟩))
            clear ob bel8 HV
            go_wp2
            try simp only [Exit.inBlock, Exit.then]
            refine bodyPost_ret (by simp [results, Tryd.results9, go_sem, p0, p1, p2, p3]; try rfl) rfl ?_
            exact ⟨by rw [unhide HV2]; try rfl, unhide B9⟩
          · have g1' : (tT.size : Int) ≤ 65536 := by omega
            by_cases g2 : 1000 < tH.size
            · have g2' : (1000 : Int) < (tH.size : Int) := by omega
              have HV2 : Hid (V = badV 8) := hide (by rw [unhide HV]; unfold tailV; rw [if_neg g1, if_pos g2])
              obtain ⟨p0, p1, p2, p3⟩ := four_put ob (.int .i64 8) (.int .i64 0) (.string ⟨#[]⟩) (.string ⟨#[]⟩)
              have B9 := hide (four_below bel8 (show w.heap.size ≤ w.heap.size + 1 by omega) (.int .i64 8) (.int .i64 0) (.string ⟨#[]⟩) (.string ⟨#[]⟩))
              clear ob bel8 HV
              go_wp2
              try simp only [Exit.inBlock, Exit.then]
              refine bodyPost_ret (by simp [results, Tryd.results9, go_sem, p0, p1, p2, p3]; try rfl) rfl ?_
              exact ⟨by rw [unhide HV2]; try rfl, unhide B9⟩
            · have g2' : (tH.size : Int) ≤ 1000 := by omega
              have HV2 : Hid (V = .agg #[.int .i64 0, .int .i64 f, .string tH, .string tT]) := hide (by rw [unhide HV]; unfold tailV; rw [if_neg g1, if_neg g2])
              obtain ⟨p0, p1, p2, p3⟩ := four_put ob (.int .i64 0) (.int .i64 f) (.string tH) (.string tT)
              have B9 := hide (four_below bel8 (show w.heap.size ≤ w.heap.size + 1 by omega) (.int .i64 0) (.int .i64 f) (.string tH) (.string tT))
              clear ob bel8 HV
              go_wp2
              try simp only [Exit.inBlock, Exit.then]
              refine bodyPost_ret (by simp [results, Tryd.results9, go_sem, p0, p1, p2, p3]; try rfl) rfl ?_
              exact ⟨by rw [unhide HV2]; try rfl, unhide B9⟩
      · obtain ⟨hi0, hc0', hcap0⟩ : n = 0 ∧ c = 0 ∧ cap = 0 := by
          have := own_cap0 (unhide O9)
          omega
        obtain rfl : L = [] := List.length_eq_zero_iff.1 (by rw [unhide HNN]; exact hi0)
        clear HNN
        subst hi0
        subst hc0'
        subst hcap0
        obtain ⟨f0, _⟩ := (unhide F9).cells
        clear HcB hcl
        go_upto_region 7 with fail
        go_region_law (first
          | (refine step_call rfl 26 #[.tmp 29, .tmp 32] #[2, 28] rfl #[.int .i64 f, .slice a 0 0] (by simp [Act.eval]) (by kernel_rfl) (((unhide CLn) _ _ _ (own_drewN (unhide O9) _)).mono ?_); rintro e w6 ⟨v6, rfl, ho6, hb6⟩; have O6 := hide ho6; have F6 := hide (((unhide F9).drewN _).below hb6); clear ho6 hb6; refine ⟨_, rfl, ?_⟩)
          | (refine step_call rfl 30 #[.tmp 33] #[28] rfl #[v6] (by simp [Act.eval]) (by kernel_rfl) (((unhide CX) _ _ (IntsAt.owned (unhide O6))).mono ?_); rintro e w7 ⟨rfl, hb7⟩; have F7 := hide ((unhide F6).below hb7); clear hb7; refine ⟨_, rfl, ?_⟩)
          | (refine step_call rfl 30 #[.tmp 37] #[28] rfl #[.slice a 0 0] (by simp [Act.eval]) (by kernel_rfl) (((unhide CY) _ _ (ints_empty _ _ _)).mono ?_); rintro e w8 ⟨rfl, hb8⟩; have F8 := hide ((unhide F7).below hb8); clear hb8; refine ⟨_, rfl, ?_⟩))
        all_goals
          clear F7 F6 O6 F9 O9 CX CY CLn
          have ob := (unhide F8).ob
          obtain ⟨d0, d1, d2, d3, z0, z1, z2, z3⟩ := four_cells ob
          obtain ⟨n0, _⟩ := (unhide F8).cells
          have bel8 := (unhide F8).bel
          by_cases g1 : 65536 < tT.size
          · have g1' : (65536 : Int) < (tT.size : Int) := by omega
            have HV2 : Hid (V = badV 2) := hide (by rw [unhide HV]; unfold tailV; rw [if_pos g1])
            obtain ⟨p0, p1, p2, p3⟩ := four_put ob (.int .i64 2) (.int .i64 0) (.string ⟨#[]⟩) (.string ⟨#[]⟩)
            have B9 := hide (four_below bel8 (show w.heap.size ≤ w.heap.size + 1 by omega) (.int .i64 2) (.int .i64 0) (.string ⟨#[]⟩) (.string ⟨#[]⟩))
            clear ob bel8 HV
            go_wp2
            try simp only [Exit.inBlock, Exit.then]
            refine bodyPost_ret (by simp [results, Tryd.results9, go_sem, p0, p1, p2, p3]; try rfl) rfl ?_
            exact ⟨by rw [unhide HV2]; try rfl, unhide B9⟩
          · have g1' : (tT.size : Int) ≤ 65536 := by omega
            by_cases g2 : 1000 < tH.size
            · have g2' : (1000 : Int) < (tH.size : Int) := by omega
              have HV2 : Hid (V = badV 8) := hide (by rw [unhide HV]; unfold tailV; rw [if_neg g1, if_pos g2])
              obtain ⟨p0, p1, p2, p3⟩ := four_put ob (.int .i64 8) (.int .i64 0) (.string ⟨#[]⟩) (.string ⟨#[]⟩)
              have B9 := hide (four_below bel8 (show w.heap.size ≤ w.heap.size + 1 by omega) (.int .i64 8) (.int .i64 0) (.string ⟨#[]⟩) (.string ⟨#[]⟩))
              clear ob bel8 HV
              go_wp2
              try simp only [Exit.inBlock, Exit.then]
              refine bodyPost_ret (by simp [results, Tryd.results9, go_sem, p0, p1, p2, p3]; try rfl) rfl ?_
              exact ⟨by rw [unhide HV2]; try rfl, unhide B9⟩
            · have g2' : (tH.size : Int) ≤ 1000 := by omega
              have HV2 : Hid (V = .agg #[.int .i64 0, .int .i64 f, .string tH, .string tT]) := hide (by rw [unhide HV]; unfold tailV; rw [if_neg g1, if_neg g2])
              obtain ⟨p0, p1, p2, p3⟩ := four_put ob (.int .i64 0) (.int .i64 f) (.string tH) (.string tT)
              have B9 := hide (four_below bel8 (show w.heap.size ≤ w.heap.size + 1 by omega) (.int .i64 0) (.int .i64 f) (.string tH) (.string tT))
              clear ob bel8 HV
              go_wp2
              try simp only [Exit.inBlock, Exit.then]
              refine bodyPost_ret (by simp [results, Tryd.results9, go_sem, p0, p1, p2, p3]; try rfl) rfl ?_
              exact ⟨by rw [unhide HV2]; try rfl, unhide B9⟩
end Go.Proofs.YtlhoeoeapkjegaaDoor
/- FeedNormer of both, all of it, and the law. -/
namespace Go.Proofs.YtlhoeoeapkjegaaDoor
open Go.RowKit
set_option maxHeartbeats 1000000 in
set_option maxRecDepth 100000 in
theorem specFeed (f : Int) (h t : ByteArray) (w : World) :
    Calls Tryd.prog 11 #[.agg #[.int .i64 f, .string h], .string t] w fun e w' => e = .returned (feedV f h t) ∧ Below w.heap.size w w' := by
  by_cases ht : 65536 < t.size
  · have HV : Hid (feedV f h t = badV 2) := hide (by unfold feedV; rw [if_pos ht])
    have ht' : (65536 : Int) < (t.size : Int) := by omega
    have ob := (FSt.new w f h).ob
    have B2 := hide (two_below w (.cells #[.int .i64 f, .string h] 27) (.cells #[.int .i64 2, .int .i64 0, .string ⟨#[]⟩, .string ⟨#[]⟩] 32))
    clear ob
    go_enter Tryd.func11, Tryd.ntmps11
    go_wp2
    go_returns
    exact ⟨by rw [unhide HV]; rfl, unhide B2⟩
  · cases hn : nfB f h with
    | false => exact feedS_go f h t w (by omega) hn
    | true =>
      have HV : Hid (feedV f h t = badV 1) := hide (by unfold feedV; rw [if_neg ht, if_pos hn])
      have ho : nfOut f h = 1 := by unfold nfOut; rw [if_pos hn]
      have CN := hide (fun W => specNF f h W)
      rw [ho] at CN
      have ht' : (t.size : Int) ≤ 65536 := by omega
      clear hn ho
      go_enter Tryd.func11, Tryd.ntmps11
      go_wp2_with fail
      refine ((unhide CN) _).mono ?_
      rintro e w2 ⟨rfl, hb2⟩
      have F2 := (FSt.new w f h).below hb2
      have ob := F2.ob
      have bel8 := F2.bel
      obtain ⟨d0, d1, d2, d3, z0, z1, z2, z3⟩ := four_cells ob
      obtain ⟨p0, p1, p2, p3⟩ := four_put ob (.int .i64 1) (.int .i64 0) (.string ⟨#[]⟩) (.string ⟨#[]⟩)
      have B9 := hide (four_below bel8 (show w.heap.size ≤ w.heap.size + 1 by omega) (.int .i64 1) (.int .i64 0) (.string ⟨#[]⟩) (.string ⟨#[]⟩))
      clear ob bel8 F2 hb2 CN
      go_wp2
      try simp only [Exit.inBlock, Exit.then]
      refine bodyPost_ret (by simp [results, Tryd.results11, go_sem, p0, p1, p2, p3]; try rfl) rfl ?_
      exact ⟨by rw [unhide HV]; rfl, unhide B9⟩
set_option maxHeartbeats 1000000 in
set_option maxRecDepth 100000 in
theorem implFeed (f : Int) (h t : ByteArray) (w : World) (hT : Lib.Utf8Tabs (Tryd.laysValid_ren.g 3) (Tryd.laysValid_ren.g 4) w) :
    Calls Tryd.prog 9 #[.agg #[.int .i64 f, .string h], .string t] w fun e w' => e = .returned (feedV f h t) ∧ Below w.heap.size w w' := by
  by_cases ht : 65536 < t.size
  · have HV : Hid (feedV f h t = badV 2) := hide (by unfold feedV; rw [if_pos ht])
    have ht' : (65536 : Int) < (t.size : Int) := by omega
    have ob := (FSt.new w f h).ob
    have B2 := hide (two_below w (.cells #[.int .i64 f, .string h] 27) (.cells #[.int .i64 2, .int .i64 0, .string ⟨#[]⟩, .string ⟨#[]⟩] 32))
    clear ob hT
    go_enter Tryd.func9, Tryd.ntmps9
    go_wp2
    go_returns
    exact ⟨by rw [unhide HV]; rfl, unhide B2⟩
  · cases hn : nfB f h with
    | false => exact feedI_go f h t w (by omega) hn hT
    | true =>
      have HV : Hid (feedV f h t = badV 1) := hide (by unfold feedV; rw [if_neg ht, if_pos hn])
      have ho : nfOut f h = 1 := by unfold nfOut; rw [if_pos hn]
      have CN := hide (fun W (q : Below w.heap.size w W) => implNF f h W (Utf8Tabs_below hT q))
      rw [ho] at CN
      have ht' : (t.size : Int) ≤ 65536 := by omega
      clear hn ho hT
      go_enter Tryd.func9, Tryd.ntmps9
      go_wp2_with fail
      refine ((unhide CN) _ (two_below w _ _)).mono ?_
      rintro e w2 ⟨rfl, hb2⟩
      have F2 := (FSt.new w f h).below hb2
      have ob := F2.ob
      have bel8 := F2.bel
      obtain ⟨d0, d1, d2, d3, z0, z1, z2, z3⟩ := four_cells ob
      obtain ⟨p0, p1, p2, p3⟩ := four_put ob (.int .i64 1) (.int .i64 0) (.string ⟨#[]⟩) (.string ⟨#[]⟩)
      have B9 := hide (four_below bel8 (show w.heap.size ≤ w.heap.size + 1 by omega) (.int .i64 1) (.int .i64 0) (.string ⟨#[]⟩) (.string ⟨#[]⟩))
      clear ob bel8 F2 hb2 CN
      go_wp2
      try simp only [Exit.inBlock, Exit.then]
      refine bodyPost_ret (by simp [results, Tryd.results9, go_sem, p0, p1, p2, p3]; try rfl) rfl ?_
      exact ⟨by rw [unhide HV]; rfl, unhide B9⟩
theorem feedV_form (f : Int) (s x : ByteArray) : ∃ c f' h t, feedV f s x = .agg #[.int .i64 c, .int .i64 f', .string h, .string t] := by
  unfold feedV badV
  split
  · exact ⟨_, _, _, _, rfl⟩
  split
  · exact ⟨_, _, _, _, rfl⟩
  split
  · exact ⟨_, _, _, _, rfl⟩
  split
  · exact ⟨_, _, _, _, rfl⟩
  · exact ⟨_, _, _, _, rfl⟩
end Go.Proofs.YtlhoeoeapkjegaaDoor
