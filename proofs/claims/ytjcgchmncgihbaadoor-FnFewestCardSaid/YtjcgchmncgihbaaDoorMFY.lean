/- Several texts in one. -/
import Derived.Test.YtjcgchmncgihbaaDoorMFP
import Derived.Test.YtjcgchmncgihbaaDoorMFJ
import Derived.Test.YtjcgchmncgihbaaDoorStrC
import Derived.Test.YtjcgchmncgihbaaDoorMFX
import Derived.Deep.RegionHeld3
import Derived.Deep.Cut
import Derived.Test.YtjcgchmncgihbaaDoorMFC
import Derived.Test.YtjcgchmncgihbaaDoorFwT
import Derived.Test.YtjcgchmncgihbaaDoorPointsLaw
/- What FnFewest asks of the pieces: pure. -/
namespace Go.Proofs.YtjcgchmncgihbaaDoor
namespace Fw
open Go.RowKit
set_option linter.unusedVariables false
def hwk (W : List ByteArray) (x : ByteArray) (j : Nat) : Bool := (W.take j).any fun y => decide (y = x)
theorem hwk_zero (W : List ByteArray) (x : ByteArray) : hwk W x 0 = false := by simp [hwk]
theorem hwk_next (W : List ByteArray) (x : ByteArray) (j : Nat) (h : j < W.length) : hwk W x (j + 1) = (hwk W x j || decide (nthS W j = x)) := by
  have e : nthS W j = W[j] := by unfold nthS; rw [List.getD_eq_getElem?_getD, List.getElem?_eq_getElem h]; rfl
  unfold hwk
  rw [List.take_succ_eq_append_getElem h, List.any_append, e]
  simp
theorem hwk_all (W : List ByteArray) (x : ByteArray) : hwk W x W.length = hw W x := by simp [hwk, hw]
structure Fc (W : List ByteArray) (s : ByteArray) (S : List ByteArray) : Prop where
  jn : Chr.jnk S S.length = s
  js : ∀ k, k ≤ S.length → (Chr.jnk S k).size ≤ 1048576
  ok : ∀ k, k < S.length → (hw W (nthS S k) = true ∨ (pts (nthS S k)).length = 1) ∧ (nthS S k).size ≤ s.size
  le : S.length ≤ (pts s).length
  z : S.length = 0 → s = ⟨#[]⟩
  r : ∀ x r, S = x :: r → fwO W (s.extract x.size s.size) = r ∧ x.size ≤ s.size
theorem few_facts {W : List ByteArray} {s : ByteArray} (hw : Wd.wfc W = 0) (hs : s.size ≤ 500) : Fc W s (fwO W s) := by
  have e : fwO W s = pcI s 0 (fsL W s) := by unfold fwO; rw [if_neg (by omega)]
  obtain ⟨h1, h2⟩ := fsL_ok W s
  have hC := cu_cuts s (fsL W s)
  have hl := cu_len s (fsL W s)
  have h0 : nth (cu s (fsL W s)) 0 = 0 := by
    rw [cu_nth s _ 0 (Nat.zero_le _)]
    simp [pl, steps]
  have he : nth (cu s (fsL W s)) ((cu s (fsL W s)).length - 1) = (s.size : Int) := by
    rw [hl, Nat.add_sub_cancel, cu_nth s _ _ (Nat.le_refl _), List.take_length, h1, pl_end]
  have hp := pieces_cu s (fsL W s)
  have hpl : (pcI s 0 (fsL W s)).length = (fsL W s).length := pcI_len s _ 0
  refine ⟨?_, fun k hk => ?_, fun k hk => ?_, ?_, fun h => ?_, fun x r h => ?_⟩
  · rw [e, ← hp]
    exact Chr.jnk_all hC h0 (by omega) he
  · rw [e] at hk ⊢
    rw [← hp]
    have := Chr.jnk_size hC h0 k (by omega)
    omega
  · rw [e] at hk ⊢
    have hm : nthS (pcI s 0 (fsL W s)) k ∈ pcI s 0 (fsL W s) := by
      have : nthS (pcI s 0 (fsL W s)) k = (pcI s 0 (fsL W s))[k] := by unfold nthS; rw [List.getD_eq_getElem?_getD, List.getElem?_eq_getElem hk]; rfl
      rw [this]
      exact List.getElem_mem hk
    have := piece_ok hm
    exact ⟨this.1, this.2.2⟩
  · rw [e]
    omega
  · rw [e] at h
    have hz : fsL W s = [] := List.length_eq_zero_iff.1 (by omega)
    have : (pts s).length = 0 := by rw [← h1, hz]; rfl
    have hq := pl_end s
    rw [this] at hq
    have hq2 : pl s 0 = 0 := by simp [pl, steps]
    have hsz : s.size = 0 := by omega
    apply ByteArray.ext
    exact Array.eq_empty_of_size_eq_zero hsz
  · rw [e] at h
    have hx : x ∈ pcI s 0 (fsL W s) := by rw [h]; exact List.mem_cons_self
    have hxs := (piece_ok hx).2.2
    refine ⟨?_, hxs⟩
    have hes : (s.extract x.size s.size).size ≤ 500 := by simp [ByteArray.size_extract]; omega
    have e2 : fwO W (s.extract x.size s.size) = pcI (s.extract x.size s.size) 0 (fsL W (s.extract x.size s.size)) := by
      unfold fwO
      rw [if_neg (by omega)]
    rw [e2]
    exact rest_cut h
theorem strs_tail {w : World} {b o cap c2 : Nat} {x : ByteArray} {r : List ByteArray} (h : StrsAt w (.slice (some ⟨b, o, none⟩) (r.length + 1) cap) (x :: r)) : StrsAt w (.slice (some ⟨b, o + 1, none⟩) r.length c2) r := by
  obtain ⟨a, c, he, h⟩ := h
  rcases h with h | ⟨b2, o2, ha, hb, hc⟩
  · cases h
  · subst ha
    cases he
    refine ⟨_, _, rfl, .inr ⟨b, o + 1, rfl, hb, fun i hi => ?_⟩⟩
    have := hc (i + 1) (by simp; omega)
    rw [show o + 1 + i = o + (i + 1) by omega, this]
    rfl
end Fw
end Go.Proofs.YtjcgchmncgihbaaDoor
/- The law FnFewest. -/
namespace Go.Proofs.YtjcgchmncgihbaaDoor
/-- Take number i first; its temporary is told. -/
theorem Chr.tkC {P : Program} {ops : Array Oper} {Q : Exit → Act → World → Prop} {md : Region.Mode} {S : World → Prop} {i : Nat} {oi : Oper} {d : Option Tmp} {v : Value} {fuel : Nat} {listed : Array Bool} {a : Act} {w : World} (hi : ops[i]? = some oi) (hd : oi.dst = d)
    (hs : Region.noSelect ops = true) (hf : Region.free md ops listed i = true) (hr : (Region.ready md ops listed).contains i = true)
    (hQ : ∀ c a w, Q (.panic c) (a.put d v) w → Q (.panic c) a w) (hy : YieldsIf P ops S oi v a) (hS : S w)
    (h : wpAnyH P md ops Q S fuel (listed.setIfInBounds i true) (a.put d v) w) : wpAnyH P md ops Q S (fuel + 1) listed a w := by
  subst hd
  exact wpAnyH_take hi hs hf hr hQ hy hS h
namespace Fw
open Go.RowKit
set_option linter.unusedVariables false
set_option maxHeartbeats 8000000 in
set_option maxRecDepth 100000 in
theorem lawFewest (w : World) (a : Option Addr) (len cap : Nat) (hc : Dr.CodeIn w a len) (ht : TabAt w) :
    Calls Tryd.prog 3 #[.slice a len cap] w fun e w' => e = .returned (.bool true) ∧ Below w.heap.size w w' := by
  by_cases hl : 1048576 < len
  · have hl' : (1048576 : Int) < (len : Int) := by omega
    go_enter Tryd.func3, Tryd.ntmps3
    go_wp2
    go_ret
    exact ⟨rfl, Below.refl _ _⟩
  have hl' : ¬ (1048576 : Int) < (len : Int) := by omega
  have HT := hide ht
  have DC := hide ((callsIn_wide (n := 5)).1 (Dr.drawF_in w a len cap (by omega) hc))
  clear ht hc
  go_enter Tryd.func3, Tryd.ntmps3
  go_wp2_with fail
  refine (unhide DC).mono ?_
  rintro e w1 ⟨v, W, t, rfl, hv1, hlW, hzW, hzt, hb1⟩
  have B1 := hide hb1
  have V1 := hide hv1
  have IM := hide (fun s V h h2 => implF v W s V h h2 (by omega) (fun i hi => by have := hzW i hi; omega))
  have SP := hide (fun V h => specF v W t V h (by omega) (fun i hi => by have := hzW i hi; omega))
  have WF := hide (fun V h => Wd.specWF v W V h (by omega) (fun i hi => by have := hzW i hi; omega))
  have FC : Hid (Wd.wfc W = 0 → t.size ≤ 500 → Fc W t (fwO W t)) := hide (fun h1 h2 => few_facts h1 h2)
  have hSl := fwO_le W t
  have hns := str_ne t
  have IM1 := hide (fun V h h2 => (unhide IM) t V h h2)
  clear hb1 hv1 DC hl hl'
  generalize fwO W t = S at *
  go_wp2_with fail
  refine ((unhide IM1) _ ((unhide HT).below (unhide B1)) (unhide V1)).mono ?_
  rintro e w2 ⟨v2, rfl, ho2, hb2⟩
  have O2 := hide ho2
  have L2 := hide (StrsAt.owned ho2)
  have V2 := hide ((unhide V1).below hb2)
  have B2 := hide ((unhide B1).trans (hb2.mono (unhide B1).size))
  clear ho2 hb2 B1 V1 IM1
  go_wp2_with fail
  refine ((unhide SP) _ (unhide V2)).mono ?_
  rintro e w3 ⟨v3, rfl, ho3, hb3⟩
  have K3 := hide ho3
  have L3 := hide ((unhide L2).below hb3)
  have V3 := hide ((unhide V2).below hb3)
  have B3 := hide ((unhide B2).trans (hb3.mono (unhide B2).size))
  clear ho3 hb3 B2 V2 L2 SP
  go_wp2_with fail
  refine (lwTexts _ _ S _ (unhide L3) (unhide K3) (by omega)).mono ?_
  rintro e w4 ⟨rfl, hb4⟩
  have L4 := hide ((unhide L3).below hb4)
  have V4 := hide ((unhide V3).below hb4)
  have B4 := hide ((unhide B3).trans (hb4.mono (unhide B3).size))
  clear hb4 B3 V3 L3 K3
  go_wp2_with fail
  refine ((unhide WF) _ (unhide V4)).mono ?_
  rintro e w5 ⟨rfl, hb5⟩
  have L5 := hide ((unhide L4).below hb5)
  have V5 := hide ((unhide V4).below hb5)
  have B5 := hide ((unhide B4).trans (hb5.mono (unhide B4).size))
  clear hb5 B4 V4 L4 WF
  by_cases hf : Wd.wfc W = 0
  rotate_left
  · have hfb : (Wd.wfc W != 0) = true := by simpa using hf
    generalize Wd.wfc W = F at *
    go_wp2
    go_ret
    exact ⟨rfl, unhide B5⟩
  have FC2 := hide ((unhide FC) hf)
  clear FC
  rw [hf]
  clear hf
  by_cases h5 : 500 < t.size
  · have h5' : (500 : Int) < (t.size : Int) := by omega
    go_wp2
    go_ret
    exact ⟨rfl, unhide B5⟩
  have h5' : ¬ (500 : Int) < (t.size : Int) := by omega
  have FC := hide ((unhide FC2) (by omega))
  clear FC2
  have JN := hide (fun V Wd h => Chr.lwJoin V S Wd h (by omega) (unhide FC).js)
  rw [(unhide FC).jn] at JN
  go_wp2_with fail
  refine ((unhide JN) _ _ (unhide L5)).mono ?_
  rintro e w6 ⟨rfl, hb6⟩
  have L6 := hide ((unhide L5).below hb6)
  have V6 := hide ((unhide V5).below hb6)
  have B6 := hide ((unhide B5).trans (hb6.mono (unhide B5).size))
  have HT6 := hide ((unhide HT).below (unhide B6))
  clear hb6 B5 V5 L5 JN HT
  obtain ⟨va, vc, rfl, hvc⟩ := unhide V6
  obtain ⟨ua, uc, rfl, huc⟩ := unhide L6
  have HV := hide hvc
  have HU := hide huc
  clear hvc huc
  go_wp2
  have PT := hide (fun V => specPointsOf t V (by omega))
  have hpt : (ptsOut t).length = (pts t).length := by unfold ptsOut; rw [if_neg (by omega)]
  rw [hpt] at PT
  have hle := (unhide FC).le
  have hpl := pts_le t
  have PX : Hid (∀ k, k < S.length → hw W (nthS S k) = false → ∀ V, Calls Tryd.prog 10 #[.string (nthS S k)] V fun e w' => ∃ v c, e = .returned (.slice v 1 c) ∧ Below V.heap.size V w') := hide (fun k hk hh V => by
    obtain ⟨h1, h2⟩ := (unhide FC).ok k hk
    refine (specPointsOf (nthS S k) V (by omega)).mono ?_
    rintro e w' ⟨v, rfl, ho, hb⟩
    obtain ⟨pa, pc, rfl, _⟩ := IntsAt.owned ho
    have : (ptsOut (nthS S k)).length = 1 := by
      unfold ptsOut
      rw [if_neg (by omega)]
      rcases h1 with h1 | h1
      · rw [hh] at h1; cases h1
      · exact h1
    rw [this]
    exact ⟨pa, pc, rfl, hb⟩)
  generalize (pts t).length = N at *
  clear hpt
  go_loopw [6, 7] (fun cv i wr => ∃ k c : Nat, k ≤ S.length ∧ c ≤ 3 * k ∧ cv = .int .i64 c ∧ i = .int .i64 k ∧ Hid (Below w6.heap.size w6 wr)) (fun _ i _ => S.length - (intOf i).toNat)
  case atStart => exact ⟨0, 0, Nat.zero_le _, Nat.le_refl _, rfl, rfl, hide (Below.refl _ _)⟩
  case round =>
    obtain ⟨k, c, hk, hck, rfl, rfl, HB⟩ := hrel
    by_cases hlt : k < S.length
    · have hlt' : (k : Int) < (S.length : Int) := by omega
      have PK := hide (fun h V => (unhide PX) k hlt h V)
      rcases unhide HU with h0 | ⟨b, off, rfl, hbl, hcell⟩
      · rw [h0] at hlt; simp at hlt
      have c0 := ((unhide HB).cell (p := ⟨b, off + k, none⟩) hbl).trans (hcell k hlt)
      have CX := hide (hcell k hlt)
      have hwa := hwk_all W (nthS S k)
      have HWZ := hide (hwk_zero W (nthS S k))
      have HWN := hide (hwk_next W (nthS S k))
      clear hcell
      generalize nthS S k = x at *
      generalize hw W x = D at *
      generalize hwk W x = hk2 at *
      go_wp2
      go_loopw [8, 9] (fun iv jv wr => ∃ j : Nat, j ≤ W.length ∧ jv = .int .i64 j ∧ iv = .bool (hk2 j) ∧ Hid (Below w6.heap.size w6 wr)) (fun _ j _ => W.length - (intOf j).toNat)
      case atStart => exact ⟨0, Nat.zero_le _, rfl, by rw [unhide HWZ], HB⟩
      case round =>
        obtain ⟨j, hj, rfl, rfl, HJ⟩ := hrel
        by_cases hjl : j < W.length
        · have hjl' : (j : Int) < (W.length : Int) := by omega
          rcases unhide HV with h0 | ⟨b2, o2, rfl, hbl2, hcell2⟩
          · rw [h0] at hjl; simp at hjl
          have c1 := ((unhide HJ).cell (p := ⟨b2, o2 + j, none⟩) hbl2).trans (hcell2 j hjl)
          have c2 := ((unhide HJ).cell (p := ⟨b, off + k, none⟩) hbl).trans (unhide CX)
          have HN := hide ((unhide HWN) j hjl)
          clear hcell2
          have hq : ((nthS W j).toList == x.toList) = decide (nthS W j = x) := str_beqF _ _
          generalize nthS W j = y at *
          generalize decide (y = x) = E at *
          generalize hB : hk2 j = B at *
          cases B
          · go_wp2
            go_quiet (fail)
            go_wp2
            go_roundw
            case rel => exact ⟨j + 1, by omega, by go_num, by rw [unhide HN]; simp, hide (bdrew (unhide HJ) _)⟩
            case measure => simp [intOf]; omega
          · go_wp2
            go_quiet (fail)
            go_wp2
            go_roundw
            case rel => exact ⟨j + 1, by omega, by go_num, by rw [unhide HN]; simp, hide (bdrew (unhide HJ) _)⟩
            case measure => simp [intOf]; omega
        · have hjl' : ¬ (j : Int) < (W.length : Int) := by omega
          obtain rfl : j = W.length := by omega
          rw [hwa]
          have c2 := ((unhide HJ).cell (p := ⟨b, off + k, none⟩) hbl).trans (unhide CX)
          cases D
          · go_wp2_with fail
            refine ((unhide PK) (by first | rfl | trivial) _).mono ?_
            rintro e w7 ⟨pv, pc, rfl, hb7⟩
            have Q7 := hide ((unhide HJ).trans (hb7.mono (unhide HJ).size))
            clear hb7
            go_wp2
            go_roundw
            case rel => exact ⟨k + 1, c + 3, by omega, by omega, by go_num, by go_num, Q7⟩
            case measure => simp [intOf]; omega
          · go_wp2
            go_roundw
            case rel => exact ⟨k + 1, c + 2, by omega, by omega, by go_num, by go_num, HJ⟩
            case measure => simp [intOf]; omega
    · have hlt' : ¬ (k : Int) < (S.length : Int) := by omega
      have hcn : ¬ (3 * (N : Int)) < (c : Int) := by omega
      have hn3 : IntKind.i64.wrap (3 * (N : Int)) = 3 * (N : Int) := by rw [show 3 * (N : Int) = ((3 * N : Nat) : Int) by omega]; exact wrapN _ (by omega)
      go_wp2_with fail
      refine ((unhide PT) _).mono ?_
      rintro e w7 ⟨pv, rfl, ho7, hb7⟩
      have e7 : ∃ pa pc, pv = .slice pa N pc := by
        obtain ⟨pa, pc, rfl, _⟩ := IntsAt.owned ho7
        have := ho7.1
        simp at this
        rw [this]
        exact ⟨pa, pc, rfl⟩
      obtain ⟨pa, pc, rfl⟩ := e7
      have Q7 := hide ((unhide HB).trans (hb7.mono (unhide HB).size))
      have U7 := hide ((unhide L6).below (unhide Q7))
      have V7 := hide ((unhide V6).below (unhide Q7))
      have HT7 := hide ((unhide HT6).below (unhide Q7))
      have B7 := hide ((unhide B6).trans ((unhide Q7).mono (unhide B6).size))
      clear hb7 ho7 HB PT
      cases S with
      | nil =>
        have hz := (unhide FC).z rfl
        rw [hz]
        go_wp2
        go_ret
        exact ⟨rfl, unhide B7⟩
      | cons x r =>
        obtain ⟨hr, hxs⟩ := (unhide FC).r x r rfl
        obtain ⟨b, off, cp, he, hbl, hcell⟩ := strs_rd (unhide U7) (by simp)
        cases he
        have c0 := hcell 0 (by simp)
        rw [show nthS (x :: r) 0 = x from rfl, Nat.add_zero] at c0
        have IMR := hide (fun V h h2 => (unhide IM) (t.extract x.size t.size) V h h2)
        rw [hr] at IMR
        have hrl : r.length ≤ 65536 := by simp at hSl; omega
        have hcap : (x :: r).length ≤ uc := by
          rcases (unhide O2).2 with ⟨hv, hn⟩ | ⟨g, cap, cur, hv, hg, hh, hn, hm, hs, ht⟩
          · cases hv
          · cases hv; omega
        have HTL : Hid (∀ V, Below w7.heap.size w7 V → ∀ c2, StrsAt V (.slice (some ⟨b, off + 1, none⟩) r.length c2) r) := hide (fun V hb c2 => (strs_tail (unhide U7)).below hb)
        have hlen : (x :: r).length = r.length + 1 := rfl
        obtain ⟨n1, hn1⟩ : ∃ n1, (x :: r).length = n1 := ⟨_, rfl⟩
        rw [hn1] at hlen hcap
        rw [hn1]
        have HCN := hide hcn
        clear hcell U7 O2 FC L6 PX HU hSl hle hcn hn3 hk hck hlt hlt'
        have hx' : (x.size : Int) ≤ (t.size : Int) := by omega
        have h1n : (1 : Int) ≤ (n1 : Int) := by omega
        have h0n : (0 : Int) < (n1 : Int) := by omega
        have hcap' : (n1 : Int) ≤ (uc : Int) := by omega
        have hnz : ((n1 : Int) == 0) = false := by simp; omega
        have hcn := unhide HCN
        have hn3 : IntKind.i64.wrap (3 * (N : Int)) = 3 * (N : Int) := by rw [show 3 * (N : Int) = ((3 * N : Nat) : Int) by omega]; exact wrapN _ (by omega)
        have hs1 : r.length + 1 ≤ uc := by omega
        have hs2 : (r.length : Int) + 1 ≤ (uc : Int) := by omega
        have hs3 : (1 : Int) ≤ (r.length : Int) + 1 := by omega
        have hs4 : (0 : Int) ≤ (r.length : Int) := by omega
        have hs5 : 1 ≤ uc := by omega
        have hs6 : (1 : Int) ≤ (uc : Int) := by omega
        have hs7 : ¬ (uc : Int) < (r.length : Int) + 1 := by omega
        have hs8 : ¬ (uc : Int) < 1 := by omega
        have hs9 : (x :: r).length = r.length + 1 := rfl
        subst hlen
        clear hn1
        go_upto_region 29 with fail
        have KS := (show (fun w' => w'.cell? ⟨b, off, none⟩ = some (.string x)) w7 from c0)
        refine wp_region_held_drew (S := (fun w' => w'.cell? ⟨b, off, none⟩ = some (.string x))) (by kernel_rfl) (by first | go_keep | exact KS) (fun hHeld => ?_)
        refine Chr.tkC (i := 0) (d := some 90) (v := ?_) rfl rfl (by kernel_rfl) (by kernel_rfl) (by kernel_rfl) (fun _ _ _ h => h) (Or.inl ⟨by rfl, ?_⟩) (by assumption) ?_
        rotate_left
        · intro w hSw; (try dsimp only at hSw); go_simp; try with_reducible rfl
        try simp only [Act.put, List.setIfInBounds_toArray, List.set_cons_zero, List.set_cons_succ]
        refine Chr.tkC (i := 1) (d := some 91) (v := ?_) rfl rfl (by kernel_rfl) (by kernel_rfl) (by kernel_rfl) (fun _ _ _ h => h) (Or.inl ⟨by rfl, ?_⟩) (by assumption) ?_
        rotate_left
        · intro w hSw; (try dsimp only at hSw); go_simp; try with_reducible rfl
        try simp only [Act.put, List.setIfInBounds_toArray, List.set_cons_zero, List.set_cons_succ]
        refine Chr.tkC (i := 2) (d := some 92) (v := ?_) rfl rfl (by kernel_rfl) (by kernel_rfl) (by kernel_rfl) (fun _ _ _ h => h) (Or.inl ⟨by rfl, ?_⟩) (by assumption) ?_
        rotate_left
        · intro w hSw; (try dsimp only at hSw); go_simp; try with_reducible rfl
        try simp only [Act.put, List.setIfInBounds_toArray, List.set_cons_zero, List.set_cons_succ]
        refine Chr.tkC (i := 3) (d := some 93) (v := ?_) rfl rfl (by kernel_rfl) (by kernel_rfl) (by kernel_rfl) (fun _ _ _ h => h) (Or.inl ⟨by rfl, ?_⟩) (by assumption) ?_
        rotate_left
        · intro w hSw; (try dsimp only at hSw); go_simp; try with_reducible rfl
        try simp only [Act.put, List.setIfInBounds_toArray, List.set_cons_zero, List.set_cons_succ]
        refine Chr.tkC (i := 4) (d := some 94) (v := ?_) rfl rfl (by kernel_rfl) (by kernel_rfl) (by kernel_rfl) (fun _ _ _ h => h) (Or.inl ⟨by rfl, ?_⟩) (by assumption) ?_
        rotate_left
        · intro w hSw; (try dsimp only at hSw); go_simp; try with_reducible rfl
        try simp only [Act.put, List.setIfInBounds_toArray, List.set_cons_zero, List.set_cons_succ]
        refine Chr.tkC (i := 5) (d := some 95) (v := ?_) rfl rfl (by kernel_rfl) (by kernel_rfl) (by kernel_rfl) (fun _ _ _ h => h) (Or.inl ⟨by rfl, ?_⟩) (by assumption) ?_
        rotate_left
        · intro w hSw; (try dsimp only at hSw); go_simp; try with_reducible rfl
        try simp only [Act.put, List.setIfInBounds_toArray, List.set_cons_zero, List.set_cons_succ]
        refine Chr.tkC (i := 6) (d := some 96) (v := ?_) rfl rfl (by kernel_rfl) (by kernel_rfl) (by kernel_rfl) (fun _ _ _ h => h) (Or.inl ⟨by rfl, ?_⟩) (by assumption) ?_
        rotate_left
        · intro w hSw; (try dsimp only at hSw); go_simp; try with_reducible rfl
        try simp only [Act.put, List.setIfInBounds_toArray, List.set_cons_zero, List.set_cons_succ]
        refine Chr.tkC (i := 8) (d := some 98) (v := ?_) rfl rfl (by kernel_rfl) (by kernel_rfl) (by kernel_rfl) (fun _ _ _ h => h) (Or.inl ⟨by rfl, ?_⟩) (by assumption) ?_
        rotate_left
        · intro w hSw; (try dsimp only at hSw); go_simp; try with_reducible rfl
        try simp only [Act.put, List.setIfInBounds_toArray, List.set_cons_zero, List.set_cons_succ]
        refine Chr.tkC (i := 9) (d := some 99) (v := ?_) rfl rfl (by kernel_rfl) (by kernel_rfl) (by kernel_rfl) (fun _ _ _ h => h) (Or.inl ⟨by rfl, ?_⟩) (by assumption) ?_
        rotate_left
        · intro w hSw; (try dsimp only at hSw); go_simp; try with_reducible rfl
        try simp only [Act.put, List.setIfInBounds_toArray, List.set_cons_zero, List.set_cons_succ]
        obtain ⟨A, hA⟩ : ∃ A : Option Addr, (if uc = 1 then some (⟨b, off, none⟩ : Addr) else some ⟨b, off + 1, none⟩) = A := ⟨_, rfl⟩
        rw [hA]
        have HA : Hid (∀ V, Below w7.heap.size w7 V → ∀ c2, StrsAt V (.slice A r.length c2) r) := hide (fun V hb c2 => by
          by_cases hu : uc = 1
          · have : r = [] := List.length_eq_zero_iff.1 (by omega)
            subst this
            exact ⟨_, _, rfl, .inl rfl⟩
          · rw [if_neg hu] at hA
            rw [← hA]
            exact (unhide HTL) V hb c2)
        clear hA HTL
        refine wpAnyH_ready (rs := [7]) (by kernel_rfl) (by simp) (AllReadyH.cons rfl (fun K hK => ?_) AllReadyH.nil)
        go_simp
        go_at_call 5
        refine ((unhide IMR) _ ((unhide HT6).below (unhide Q7).drew) ((unhide V6).below (unhide Q7).drew)).mono ?_
        rintro e w9 ⟨v9, rfl, ho9, hb9⟩
        have S9 := hide (StrsAt.owned ho9)
        have D9 := hide ((Below.refl w7.heap.size w7).drew.trans (hb9.mono (Nat.le_refl _)))
        have KS9 : (fun w' => w'.cell? ⟨b, off, none⟩ = some (.string x)) w9 := (hb9.cell (p := ⟨b, off, none⟩) hbl).trans c0
        clear ho9 hb9 IMR
        try go_wp2_with fail
        refine hK.out _ _ KS9 (fun hHeld3 => ?_)
        clear hK K hHeld
        try simp only [Act.put, List.setIfInBounds_toArray, List.set_cons_zero, List.set_cons_succ]
        refine wpAnyH_ready (rs := [10]) (by kernel_rfl) (by simp) (AllReadyH.cons rfl (fun K hK => ?_) AllReadyH.nil)
        go_simp
        go_at_call 6
        refine (lwTexts _ _ r _ (unhide S9) ((unhide HA) _ (unhide D9) _) (by omega)).mono ?_
        rintro e w10 ⟨rfl, hb10⟩
        have Q10 := hide ((unhide D9).trans (hb10.mono (unhide D9).size))
        have KS10 : (fun w' => w'.cell? ⟨b, off, none⟩ = some (.string x)) w10 := (hb10.cell (p := ⟨b, off, none⟩) (Nat.lt_of_lt_of_le hbl (unhide D9).size)).trans KS9
        clear hb10
        try go_wp2_with fail
        refine hK.out _ _ KS10 (fun hHeld4 => ?_)
        clear hK K hHeld3
        try simp only [Act.put, List.setIfInBounds_toArray, List.set_cons_zero, List.set_cons_succ]
        refine Chr.tkC (i := 11) (d := some 2) (v := ?_) rfl rfl (by kernel_rfl) (by kernel_rfl) (by kernel_rfl) (fun _ _ _ h => h) (Or.inl ⟨by rfl, ?_⟩) (by assumption) ?_
        rotate_left
        · intro w hSw; (try dsimp only at hSw); go_simp; try with_reducible rfl
        try simp only [Act.put, List.setIfInBounds_toArray, List.set_cons_zero, List.set_cons_succ]
        refine wpAnyH_done (by kernel_rfl) ?_ _
        go_wp2
        go_ret
        exact ⟨rfl, (unhide B7).trans ((unhide Q10).mono (unhide B7).size)⟩
end Fw
end Go.Proofs.YtjcgchmncgihbaaDoor
