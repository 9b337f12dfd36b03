/- Several texts in one. -/
import Derived.Test.YtjncfkcpjjnmdaaDoorGA
import Derived.Test.YtjncfkcpjjnmdaaDoorUnlA
import Derived.Test.YtjncfkcpjjnmdaaDoorGB
import Derived.Deep.WholeRow
/- Spans that are alike; marks written into spans that the call owns, and found there again. -/
namespace Go.Proofs.YtjncfkcpjjnmdaaDoor
open Go.RowKit
theorem drew_below (w : World) : Below w.heap.size w w.drew := ⟨rfl, rfl, rfl, Nat.le_refl _, fun _ _ => rfl⟩
def fl (L : List Sp) : List Int := L.flatMap fun r => [r.1, r.2.1, r.2.2]
theorem cells_fl (L : List Sp) : cells L = (fl L).map (Value.int .i64) := by
  unfold cells fl
  rw [List.map_flatMap]
  rfl
theorem fl_len (L : List Sp) : (fl L).length = L.length * 3 := by
  have := cells_len L
  rw [cells_fl, List.length_map] at this
  exact this
/-- 1, 2, .. in the first k places of l. -/
def mkL (l : List Int) (k : Nat) : List Int := (List.range k).map (fun i : Nat => 1 + (i : Int)) ++ l.drop k
def sqL (n : Nat) : List Int := (List.range n).map (fun i : Nat => 1 + (i : Int))
theorem mkL_zero (l : List Int) : mkL l 0 = l := by simp [mkL]
theorem mkL_len (l : List Int) (k : Nat) (h : k ≤ l.length) : (mkL l k).length = l.length := by simp [mkL]; omega
theorem mkL_set (l : List Int) (k : Nat) (h : k < l.length) (f : Int → Value) : ((mkL l k).map f).set k (f (1 + (k : Int))) = (mkL l (k + 1)).map f := by
  rw [← List.map_set]
  congr 1
  unfold mkL
  have hk : ((List.range k).map (fun i : Nat => 1 + (i : Int))).length = k := by simp
  rw [List.set_append_right _ _ (by omega), hk, Nat.sub_self, List.drop_eq_getElem_cons h, List.set_cons_zero, List.range_succ, List.map_append, List.append_assoc]
  rfl
theorem mkL_all (l : List Int) : mkL l l.length = sqL l.length := by simp [mkL, sqL]
theorem sq_at (n k : Nat) (h : k < n) : ((sqL n).map (Value.int .i64))[k]? = some (.int .i64 (1 + (k : Int))) := by
  simp [sqL, h]
/-- A row of n spans at block g whose cells are l. -/
def Fl (w : World) (base g cap n : Nat) (l : List Int) : Prop := w.ownsRow base 33 3 (.slice (some ⟨g, 0, none⟩) n cap) n (l.map (Value.int .i64))
theorem Fl.at {w : World} {base g cap n : Nat} {l : List Int} (h : Fl w base g cap n l) (j : Nat) (hj : j < l.length) : ∃ x, w.cell? ⟨g, j, none⟩ = some x ∧ w.frozen? ⟨g, j, none⟩ = false := by
  have hn : (l.map (Value.int .i64)).length = n * 3 := h.1
  rw [List.length_map] at hn
  have := World.ownsRow.cellAt h j (by omega)
  rw [List.getElem?_eq_getElem (by simpa using hj)] at this
  exact ⟨_, this, World.ownsRow.frozenAt h j⟩
theorem Fl.mark {w : World} {base g cap n : Nat} {l : List Int} {k : Nat} (h : Fl w base g cap n (mkL l k)) (hk : k < l.length) (z : Int) (hz : z = 1 + (k : Int)) : Fl (w.setCell ⟨g, k, none⟩ (.int .i64 z)) base g cap n (mkL l (k + 1)) := by
  subst hz
  have := (World.ownsRow.stored h k (.int .i64 (1 + (k : Int)))).1
  rw [mkL_set l k hk] at this
  exact this
theorem Fl.sq {w : World} {base g cap n : Nat} (h : Fl w base g cap n (sqL (n * 3))) (j : Nat) (hj : j < n * 3) (z : Int) (hz : z = 1 + (j : Int)) : w.cell? ⟨g, j, none⟩ = some (.int .i64 z) := by
  rw [hz]
  exact (World.ownsRow.cellAt h j (by omega)).trans (sq_at (n * 3) j hj)
/-- A row of n spans that holds the marks. -/
def Marked (w : World) (B : Nat) (v : Value) (n : Nat) : Prop := ∃ a c, v = .slice a n c ∧ (n = 0 ∨ ∃ g, a = some ⟨g, 0, none⟩ ∧ Fl w B g c n (sqL (n * 3)))
theorem Marked.below {w w' : World} {B : Nat} {v : Value} {n : Nat} (h : Marked w B v n) (hb : Below w.heap.size w w') : Marked w' B v n := by
  obtain ⟨a, c, hv, h⟩ := h
  refine ⟨a, c, hv, h.imp_right ?_⟩
  rintro ⟨g, hg, hf⟩
  exact ⟨g, hg, ownsRow_below hf hb⟩
end Go.Proofs.YtjncfkcpjjnmdaaDoor
/- Marks written into spans, told by the one block that they change; the laws of the sets. -/
namespace Go.Proofs.YtjncfkcpjjnmdaaDoor
open Go.RowKit
theorem ownsRow_at {w w' : World} {B : Nat} {e : TypeId} {s : Nat} {v : Value} {n : Nat} {xs : List Value} (h : w.ownsRow B e s v n xs) (hs : ∀ k, v.ownBlock = some k → w'.heap[k]? = w.heap[k]?) : w'.ownsRow B e s v n xs := by
  refine ⟨h.1, ?_⟩
  rcases h.2 with h' | ⟨g, cap, cur, hv, hg, hh, r⟩
  · exact .inl h'
  · exact .inr ⟨g, cap, cur, hv, hg, (hs g (by rw [hv]; rfl)).trans hh, r⟩
theorem grown_refl (w : World) (r : Option Nat) : w.grownBy w r := ⟨rfl, rfl, rfl, Nat.le_refl _, fun _ _ _ => rfl⟩
theorem grown_set {w w' : World} {g j : Nat} {u : Value} (h : w.grownBy w' (some g)) : w.grownBy (w'.setCell ⟨g, j, none⟩ u) (some g) :=
  ⟨h.os, h.tape, h.output, by simp; exact h.size, fun k hk hne => (heap_setCell_other w' ⟨g, j, none⟩ k u (fun e => hne (by rw [e]))).trans (h.block k hk hne)⟩
theorem row_grown {w w' : World} {B g : Nat} {v : Value} {L : List Sp} (h : SpRow w B v L) (hg : w.grownBy w' (some g)) (hne : ∀ k, v.ownBlock = some k → k ≠ g) : SpRow w' B v L :=
  World.ownsRow.kept h hg (.inr (fun e => by
    exact hne g e rfl))
theorem row_belowB {w w' : World} {B N : Nat} {v : Value} {L : List Sp} (h : SpRow w B v L) (hb : Below N w w') (hl : ∀ k, v.ownBlock = some k → k < N) : SpRow w' B v L :=
  ownsRow_at h (fun k hk => hb.block k (hl k hk))
theorem grown_below {w w' : World} {g B : Nat} (h : w.grownBy w' (some g)) (hB : B ≤ g) (hs : B ≤ w.heap.size) : Below B w w' :=
  (Below.refl B w).grown h hs (fun k hk => by injection hk with hk; omega)
end Go.Proofs.YtjncfkcpjjnmdaaDoor
/- Marks written into rows of numbers of the call's own, and found again. -/
namespace Go.Proofs.YtjncfkcpjjnmdaaDoor
open Go.RowKit
/-- The marks m0, m0 + 1 and so on. -/
def mkI (m0 : Int) (n : Nat) : List Value := (List.range n).map (fun (i : Nat) => Value.int .i64 (m0 + (i : Int)))
theorem mkI_len (m0 : Int) (n : Nat) : (mkI m0 n).length = n := by simp [mkI]
theorem mkI_at (m0 : Int) (n k : Nat) (h : k < n) : (mkI m0 n)[k]? = some (Value.int .i64 (m0 + (k : Int))) := by simp [mkI, h]
theorem mkI_all {m0 : Int} {n : Nat} {xs : List Value} (hl : xs.length = n) (h : ∀ j, j < n → xs[j]? = some (Value.int .i64 (m0 + (j : Int)))) : xs = mkI m0 n := by
  refine List.ext_getElem? (fun j => ?_)
  by_cases hj : j < n
  · rw [h j hj, mkI_at _ _ _ hj]
  · rw [List.getElem?_eq_none (by omega), List.getElem?_eq_none (by rw [mkI_len]; omega)]
theorem own_pos {w : World} {B n : Nat} {v : Value} {xs : List Value} (h : w.ownsRow B 2 1 v n xs) (hn : 0 < n) : ∃ g cap, v = .slice (some ⟨g, 0, none⟩) n cap := by
  rcases h.2 with ⟨_, h0⟩ | ⟨g, cap, cur, hv, _⟩
  · omega
  · exact ⟨g, cap, hv⟩
end Go.Proofs.YtjncfkcpjjnmdaaDoor
/- Rows of numbers read back. -/
namespace Go.Proofs.YtjncfkcpjjnmdaaDoor
open Go.RowKit
/-- A run begins here. -/
def StartAt (L : List Int) (i : Nat) : Prop := i = 0 ∨ nth L (i - 1) ≠ nth L i
/-- The runs of L stand in T, each at its place, and end at F. -/
def ItemsAt (T : ByteArray) (L : List Int) (P : Nat → Nat) (F : Nat) : Prop :=
  ∀ i k, StartAt L i → RunTo L i k → RunAt T (P i) (nth L i) (k - i) ∧
    (k < L.length → P i + runLen (nth L i) (k - i) < T.size ∧ hb T (P i + runLen (nth L i) (k - i)) = 44 ∧ P k = P i + runLen (nth L i) (k - i) + 1) ∧
    (k = L.length → P i + runLen (nth L i) (k - i) = F ∧ F ≤ T.size ∧ hb T F ≠ 44)
theorem run_ex (L : List Int) : ∀ (f i m : Nat), i < m → m ≤ L.length → L.length - m ≤ f → (∀ j, i ≤ j → j < m → nth L j = nth L i) → ∃ k, RunTo L i k
  | 0, i, m, h1, h2, h3, h4 => ⟨m, h1, h2, h4, .inl (by omega)⟩
  | f + 1, i, m, h1, h2, h3, h4 => by
    by_cases h5 : m = L.length
    · exact ⟨m, h1, h2, h4, .inl h5⟩
    · by_cases h6 : nth L m = nth L i
      · refine run_ex L f i (m + 1) (by omega) (by omega) (by omega) (fun j a b => ?_)
        by_cases e : j = m
        · rw [e]; exact h6
        · exact h4 j a (by omega)
      · exact ⟨m, h1, h2, h4, .inr h6⟩
theorem run_of (L : List Int) (i : Nat) (h : i < L.length) : ∃ k, RunTo L i k :=
  run_ex L L.length i (i + 1) (by omega) (by omega) (by omega) (fun j a b => by rw [show j = i by omega])
theorem RdAt.own {w wx wy : World} {g k : Nat} {T : ByteArray} {r : Option Nat} (h : RdAt w wx g T k) (hg : wx.grownBy wy r) (hgl : g < w.heap.size) (hr : ∀ m, r = some m → w.heap.size ≤ m) : RdAt w wy g T k := by
  have hs := h.2.size
  refine ⟨(hg.block g (by omega) (fun e => by have := hr g e.symm; omega)).trans h.1, ?_⟩
  exact ⟨hg.os.trans h.2.os, hg.tape.trans h.2.tape, hg.output.trans h.2.output, by have := hg.size; omega, fun i hi hne => (hg.block i (by omega) (fun e => by have := hr i e.symm; omega)).trans (h.2.block i hi hne)⟩
theorem RdAt.alloc {w wx : World} {g k : Nat} {T : ByteArray} (h : RdAt w wx g T k) (hgl : g < w.heap.size) (o : Obj) : RdAt w (wx.alloc o) g T k :=
  h.own ⟨rfl, rfl, rfl, by simp, fun k hk _ => Below.heap_alloc wx o k hk⟩ hgl (r := none) (by simp)
/-- While rows are read: the reader, and the row so far. -/
def RSt (w wr : World) (g : Nat) (T : ByteArray) (k : Nat) (s : Value) (i : Nat) (L : List Int) : Prop :=
  RdAt w wr g T k ∧ wr.ownsRow w.heap.size 2 1 s i ((L.take i).map (Value.int .i64))
theorem RSt.read {w wr w2 : World} {g k j i : Nat} {T : ByteArray} {s : Value} {L : List Int} (h : RSt w wr g T k s i L) (hgl : g < w.heap.size) (q : RdAt wr w2 g T j) : RSt w w2 g T j s i L :=
  ⟨h.1.trans q, World.ownsRow.kept h.2 q.2 (.inr (fun e => own_ge h.2 hgl e.symm))⟩
theorem own_cell {w : World} {B n g cap : Nat} {D : List Int} (h : w.ownsRow B 2 1 (.slice (some ⟨g, 0, none⟩) n cap) n (D.map (Value.int .i64))) (k : Nat) (hk : k < n) : w.cell? ⟨g, k, none⟩ = some (.int .i64 (nth D k)) := by
  have hl : D.length = n := by simpa using h.1
  have hc := h.cellAt k (by omega)
  rw [hc, List.getElem?_map]
  simp [nth, List.getD, hl, hk]
end Go.Proofs.YtjncfkcpjjnmdaaDoor
/- Rows of numbers read back: the program. -/
namespace Go.Proofs.YtjncfkcpjjnmdaaDoor
open Go.RowKit
def slLen : Value → Nat
  | .slice _ n _ => n
  | _ => 0
theorem take_app (L : List Int) (i j : Nat) (x : Int) (h : i + j < L.length) (hx : nth L (i + j) = x) : (L.take (i + j)).map (Value.int .i64) ++ [Value.int .i64 x] = (L.take (i + (j + 1))).map (Value.int .i64) := by
  have e : nth L (i + j) = L[i + j] := by unfold nth; rw [List.getD_eq_getElem?_getD, List.getElem?_eq_getElem h]; rfl
  rw [← Nat.add_assoc, List.take_succ_eq_append_getElem h, List.map_append, ← e, hx]
  rfl
set_option maxHeartbeats 4000000 in
set_option maxRecDepth 100000 in
theorem items_any (w : World) (g F : Nat) (T : ByteArray) (L : List Int) (P : Nat → Nat) (h : RdAt w w g T (P 0)) (hgl : g < w.heap.size) (hT : T.size ≤ 65536) (hL0 : 0 < L.length) (hL1 : L.length ≤ 32768)
    (hbd : ∀ j, j < L.length → -1000000000000 ≤ nth L j ∧ nth L j ≤ 1000000000000) (hI : ItemsAt T L P F) :
    Calls Tryd.prog 44 #[.pointer (some ⟨g, 0, none⟩)] w fun e w' => ∃ s, e = .returned (.tuple #[s, .bool true]) ∧ RSt w w' g T F s L.length L := by
  obtain ⟨i0, hi, hz0, hz1, hz2⟩ := info_parts info2
  obtain ⟨N, hN⟩ : ∃ N, L.length = N := ⟨_, rfl⟩
  have HI := hide hI
  have HBd := hide hbd
  have H0 : Hid (RSt w w g T (P 0) (.slice none 0 0) 0 L) := hide ⟨h, World.ownsRow_nil w _ 2 1⟩
  rw [hN] at hL0 hL1 ⊢
  have HN := hide hN
  clear h hI hbd hN
  go_enter Tryd.func44, Tryd.ntmps44
  go_wp2
  go_loopw [4] (fun sv wr => ∃ (i : Nat) (a : Option Addr) (cap : Nat), i < N ∧ sv = .slice a i cap ∧ (i = 0 ∨ ∃ gg, a = some ⟨gg, 0, none⟩) ∧ Hid (StartAt L i) ∧ Hid (RSt w wr g T (P i) sv i L)) (fun sv _ => N - slLen sv)
  case atStart => exact ⟨0, none, 0, hL0, rfl, .inl rfl, hide (.inl rfl), H0⟩
  case round =>
    obtain ⟨i, a, cap, hiN, rfl, hsh, HS, HR⟩ := hrel
    clear H0
    obtain ⟨k, hk⟩ := run_of L i (by rw [unhide HN]; exact hiN)
    obtain ⟨hr1, hr2, hr3⟩ := (unhide HI) i k (unhide HS) hk
    have hik := hk.1
    have hkN : k ≤ N := by have := hk.2.1; rw [unhide HN] at this; exact this
    have hx := (unhide HBd) i (by rw [unhide HN]; exact hiN)
    have CR := hide (fun W (q : RdAt w W g T (P i)) => run_any W g (P i) (k - i) (nth L i) T q.self hT hx.1 hx.2 hr1 (by omega) (by omega))
    have HSame : Hid (∀ j, i ≤ j → j < k → nth L j = nth L i) := hide hk.2.2.1
    have HNext : Hid (k < N → StartAt L k) := hide (fun hlt => .inr (by
      rw [hk.2.2.1 (k - 1) (by omega) (by omega)]
      rcases hk.2.2.2 with e | e
      · rw [unhide HN] at e; omega
      · exact fun e2 => e e2.symm))
    rw [unhide HN] at hr2 hr3
    have HE1 := hide hr2
    have HE2 := hide hr3
    obtain ⟨E, hE⟩ : ∃ E, P i + runLen (nth L i) (k - i) = E := ⟨_, rfl⟩
    rw [hE] at HE1 HE2 CR
    obtain ⟨x, hxe⟩ : ∃ x, nth L i = x := ⟨_, rfl⟩
    rw [hxe] at HSame hx CR
    obtain ⟨m, hm⟩ : ∃ m, k - i = m := ⟨_, rfl⟩
    rw [hm] at CR
    have hm1 : 0 < m := by omega
    have hkm : i + m = k := by omega
    clear hr1 hr2 hr3 hk hE HBd
    obtain ⟨c0, c1, f1⟩ := rd_cells (unhide HR).1.1
    by_cases hi0 : i = 0
    · have hnz : ¬ (0 : Int) < (i : Int) := by omega
      have hsum : ¬ ((32768 : Int) < (i : Int) + (m : Int)) := by omega
      have HI0 := hide hi0
      clear hsh HS hi0
      go_wp2_with fail
      refine ((unhide CR) _ (unhide HR).1).mono ?_
      rintro e w2 ⟨rfl, H4⟩
      have HR := hide ((unhide HR).read hgl (show RdAt wr w2 g T E from H4))
      clear H4 CR c0 c1 f1
      go_wp2
      go_loopw [4, 46] (fun sv jv wq => ∃ (j : Nat), j ≤ m ∧ jv = .int .i64 j ∧ Hid (RSt w wq g T E sv (i + j) L)) (fun _ jv _ => m - (intOf jv).toNat)
      case atStart => exact ⟨0, Nat.zero_le _, rfl, HR⟩
      case round =>
        obtain ⟨j, hj, rfl, HQ⟩ := hrel
        clear HR
        by_cases hjm : j < m
        · have hjm' : (j : Int) < (m : Int) := by omega
          have hsz := (unhide HQ).1.2.size
          go_wp2_with (at_builtin; refine wpList_append_own _ rfl _ _ 26 rfl w.heap.size 2 i0 (.int .i64 0) 1 8 Tryd.underlying26 hi hz0 hz1 hz2 rfl (by decide) _ _ _ rfl (World.ownsRow.alloc (unhide HQ).2 _) ⟨wr.heap.size, 0, none⟩ 1 1 [.int .i64 x] rfl rfl ?c1 ?c2 ?c3 ?c4 ?c5 ?_)
          case c1 => exact cell_one_new _ _ _
          case c2 =>
            intro x hx
            rw [List.mem_singleton] at hx
            rw [hx]
            rfl
          case c3 => unfold maxLen; omega
          case c4 => omega
          case c5 => simp; omega
          intro v' w3 hown' hgrow hnone
          have HQ2 : Hid (RSt w w3 g T E v' (i + (j + 1)) L) := hide ⟨((unhide HQ).1.alloc hgl _).own hgrow hgl (fun q hq => ((unhide HQ).2.lt q hq).1), by
            rw [← take_app L i j x (by rw [unhide HN]; omega) ((unhide HSame) (i + j) (by omega) (by omega)), List.map_take]
            exact hown'⟩
          clear hown' hgrow hnone HQ
          go_wp2
          go_roundw
          case rel => exact ⟨j + 1, by omega, by go_num, HQ2⟩
          case measure => simp [intOf]; omega
        · have hje : j = m := by omega
          subst hje
          have HQ := unhide HQ
          rw [hkm] at HQ
          have HQ := hide HQ
          obtain ⟨g3, c3, hs3⟩ := own_pos (unhide HQ).2 (by omega)
          subst hs3
          by_cases hend : k < N
          · have he := (unhide HE1) hend
            have CT := hide (fun W (q : RdAt w W g T E) => takes_yes W g E 44 T q.self he.1 hT he.2.1)
            have hP := he.2.2
            have HS2 := hide ((unhide HNext) hend)
            clear he HE1 HE2
            go_wp2_with fail
            refine ((unhide CT) _ (unhide HQ).1).mono ?_
            rintro e w4 ⟨rfl, H4⟩
            have HR2 := hide ((unhide HQ).read hgl H4)
            rw [← hP] at HR2
            clear H4 CT HQ hP
            go_wp2
            go_roundw
            case rel => exact ⟨k, _, c3, hend, rfl, .inr ⟨g3, rfl⟩, HS2, HR2⟩
            case measure => simp [slLen]; omega
          · have hke : k = N := by omega
            have he := (unhide HE2) hke
            have CT := hide (fun W (q : RdAt w W g T E) => takes_no W g E 44 T q.self (by omega) (by rw [he.1]; exact he.2.2))
            have hEF := he.1
            clear he HE1 HE2
            go_wp2_with fail
            refine ((unhide CT) _ (unhide HQ).1).mono ?_
            rintro e w4 ⟨rfl, H4⟩
            have HR2 := hide ((unhide HQ).read hgl H4)
            rw [hEF, hke] at HR2
            clear H4 CT HQ hEF
            subst hke
            go_wp2
            go_returns
            exact ⟨_, rfl, unhide HR2⟩
    · obtain ⟨gg, hgg⟩ : ∃ gg, a = some ⟨gg, 0, none⟩ := hsh.resolve_left hi0
      subst hgg
      have hne : nth L (i - 1) ≠ x := by
        rcases unhide HS with e | e
        · exact (hi0 e).elim
        · rw [hxe] at e; exact e
      obtain ⟨y, hy⟩ : ∃ y, nth L (i - 1) = y := ⟨_, rfl⟩
      rw [hy] at hne
      obtain ⟨r, hr⟩ : ∃ r, i = r + 1 := ⟨i - 1, by omega⟩
      have HC : Hid (∀ W, RSt w W g T E (.slice (some ⟨gg, 0, none⟩) i cap) i L → W.cell? ⟨gg, r, none⟩ = some (.int .i64 y)) := hide (fun W q => by
        rw [own_cell q.2 r (by omega), ← hy]
        unfold nth
        rw [List.getD_eq_getElem?_getD, List.getD_eq_getElem?_getD, List.getElem?_take_of_lt (by omega), show i - 1 = r by omega])
      have hne2 : (y == x) = false := by simpa using hne
      have hsum : ¬ ((32768 : Int) < (i : Int) + (m : Int)) := by omega
      have hpos : (0 : Int) < (i : Int) := by omega
      have hir : (i : Int) - 1 = (r : Int) := by omega
      have hrw : IntKind.i64.wrap (r : Int) = (r : Int) := by simp [IntKind.wrap, IntKind.bits, IntKind.signed]; omega
      have hr0 : (0 : Int) ≤ (r : Int) := by omega
      have hri : (r : Int) < (i : Int) := by omega
      have HRR := hide hr
      clear hy hsh HS hi0 hne hr
      go_wp2_with fail
      refine ((unhide CR) _ (unhide HR).1).mono ?_
      rintro e w2 ⟨rfl, H4⟩
      have HR := hide ((unhide HR).read hgl (show RdAt wr w2 g T E from H4))
      clear H4 CR c0 c1 f1
      have cy := (unhide HC) _ (unhide HR)
      clear HC
      go_wp2
      go_loopw [4, 46] (fun sv jv wq => ∃ (j : Nat), j ≤ m ∧ jv = .int .i64 j ∧ Hid (RSt w wq g T E sv (i + j) L)) (fun _ jv _ => m - (intOf jv).toNat)
      case atStart => exact ⟨0, Nat.zero_le _, rfl, HR⟩
      case round =>
        obtain ⟨j, hj, rfl, HQ⟩ := hrel
        clear HR
        by_cases hjm : j < m
        · have hjm' : (j : Int) < (m : Int) := by omega
          have hsz := (unhide HQ).1.2.size
          go_wp2_with (at_builtin; refine wpList_append_own _ rfl _ _ 26 rfl w.heap.size 2 i0 (.int .i64 0) 1 8 Tryd.underlying26 hi hz0 hz1 hz2 rfl (by decide) _ _ _ rfl (World.ownsRow.alloc (unhide HQ).2 _) ⟨wr.heap.size, 0, none⟩ 1 1 [.int .i64 x] rfl rfl ?c1 ?c2 ?c3 ?c4 ?c5 ?_)
          case c1 => exact cell_one_new _ _ _
          case c2 =>
            intro x hx
            rw [List.mem_singleton] at hx
            rw [hx]
            rfl
          case c3 => unfold maxLen; omega
          case c4 => omega
          case c5 => simp; omega
          intro v' w3 hown' hgrow hnone
          have HQ2 : Hid (RSt w w3 g T E v' (i + (j + 1)) L) := hide ⟨((unhide HQ).1.alloc hgl _).own hgrow hgl (fun q hq => ((unhide HQ).2.lt q hq).1), by
            rw [← take_app L i j x (by rw [unhide HN]; omega) ((unhide HSame) (i + j) (by omega) (by omega)), List.map_take]
            exact hown'⟩
          clear hown' hgrow hnone HQ
          go_wp2
          go_roundw
          case rel => exact ⟨j + 1, by omega, by go_num, HQ2⟩
          case measure => simp [intOf]; omega
        · have hje : j = m := by omega
          subst hje
          have HQ := unhide HQ
          rw [hkm] at HQ
          have HQ := hide HQ
          obtain ⟨g3, c3, hs3⟩ := own_pos (unhide HQ).2 (by omega)
          subst hs3
          by_cases hend : k < N
          · have he := (unhide HE1) hend
            have CT := hide (fun W (q : RdAt w W g T E) => takes_yes W g E 44 T q.self he.1 hT he.2.1)
            have hP := he.2.2
            have HS2 := hide ((unhide HNext) hend)
            clear he HE1 HE2
            go_wp2_with fail
            refine ((unhide CT) _ (unhide HQ).1).mono ?_
            rintro e w4 ⟨rfl, H4⟩
            have HR2 := hide ((unhide HQ).read hgl H4)
            rw [← hP] at HR2
            clear H4 CT HQ hP
            go_wp2
            go_roundw
            case rel => exact ⟨k, _, c3, hend, rfl, .inr ⟨g3, rfl⟩, HS2, HR2⟩
            case measure => simp [slLen]; omega
          · have hke : k = N := by omega
            have he := (unhide HE2) hke
            have CT := hide (fun W (q : RdAt w W g T E) => takes_no W g E 44 T q.self (by omega) (by rw [he.1]; exact he.2.2))
            have hEF := he.1
            clear he HE1 HE2
            go_wp2_with fail
            refine ((unhide CT) _ (unhide HQ).1).mono ?_
            rintro e w4 ⟨rfl, H4⟩
            have HR2 := hide ((unhide HQ).read hgl H4)
            rw [hEF, hke] at HR2
            clear H4 CT HQ hEF
            subst hke
            go_wp2
            go_returns
            exact ⟨_, rfl, unhide HR2⟩
end Go.Proofs.YtjncfkcpjjnmdaaDoor
/- A trie read back: the program. -/
namespace Go.Proofs.YtjncfkcpjjnmdaaDoor
open Go.RowKit
theorem row_low {w : World} {B B2 n : Nat} {e : TypeId} {v : Value} {xs : List Value} (h : w.ownsRow B2 e 1 v n xs) (hb : B ≤ B2) : w.ownsRow B e 1 v n xs := by
  refine ⟨h.1, ?_⟩
  rcases h.2 with h' | ⟨g, cap, cur, hv, hg, r⟩
  · exact .inl h'
  · exact .inr ⟨g, cap, cur, hv, Nat.le_trans hb hg, r⟩
theorem RdAt.blk {w wx : World} {g k b : Nat} {T : ByteArray} (h : RdAt w wx g T k) (hb : b < w.heap.size) (hne : b ≠ g) : wx.heap[b]? = w.heap[b]? := h.2.block b hb (fun e => hne (Option.some.inj e))
theorem RSt.full {w wr : World} {g k : Nat} {T : ByteArray} {s : Value} {L : List Int} (h : RSt w wr g T k s L.length L) : RdAt w wr g T k ∧ wr.ownsRow w.heap.size 2 1 s L.length (L.map (Value.int .i64)) := ⟨h.1, by have := h.2; rwa [List.take_length] at this⟩
theorem own_kept {w wx : World} {g k B n : Nat} {T : ByteArray} {v : Value} {xs : List Value} (h : w.ownsRow B 2 1 v n xs) (q : RdAt w wx g T k) (hg : g < B) : wx.ownsRow B 2 1 v n xs :=
  World.ownsRow.kept h q.2 (.inr (fun e => by have := (h.lt _ e).1; omega))
set_option maxHeartbeats 4000000 in
set_option maxRecDepth 100000 in
theorem trie_any (w : World) (g F : Nat) (T : ByteArray) (I D : List Int) (P Q : Nat → Nat) (h : RdAt w w g T (P 0)) (hgl : g < w.heap.size) (hT : T.size ≤ 65536) (hI0 : 0 < I.length) (hI1 : I.length ≤ 32768) (hD0 : 0 < D.length) (hD1 : D.length ≤ 32768)
    (hbI : ∀ j, j < I.length → -1000000000000 ≤ nth I j ∧ nth I j ≤ 1000000000000) (hbD : ∀ j, j < D.length → -1000000000000 ≤ nth D j ∧ nth D j ≤ 1000000000000) (hI : ItemsAt T I P F) (hF : F < T.size) (hF2 : hb T F = 59) (hQ : Q 0 = F + 1) (hD : ItemsAt T D Q T.size) :
    Calls Tryd.prog 28 #[.pointer (some ⟨g, 0, none⟩)] w fun e w' => ∃ vi vd, e = .returned (.tuple #[.agg #[vi, vd], .bool true]) ∧ RdAt w w' g T T.size ∧ w'.ownsRow w.heap.size 2 1 vi I.length (I.map (Value.int .i64)) ∧ w'.ownsRow w.heap.size 2 1 vd D.length (D.map (Value.int .i64)) := by
  have C1 := hide (fun W (q : RdAt w W g T (P 0)) hg => items_any W g F T I P q.self hg hT hI0 hI1 hbI hI)
  have C2 := hide (fun W (q : RdAt w W g T F) => takes_yes W g F 59 T q.self hF hT hF2)
  have C3 := hide (fun W (q : RdAt w W g T (Q 0)) hg => items_any W g T.size T D Q q.self hg hT hD0 hD1 hbD hD)
  rw [hQ] at C3
  have H0 := hide (h.alloc hgl (.cells #[.slice none 0 0, .slice none 0 0] 28))
  clear h hbI hbD hI hD hF2 hQ
  go_enter Tryd.func28, Tryd.ntmps28
  go_wp2_with fail
  have hsz0 : (w.alloc (.cells #[.slice none 0 0, .slice none 0 0] 28)).heap.size = w.heap.size + 1 := by simp
  have X0 : Hid ((w.alloc (.cells #[.slice none 0 0, .slice none 0 0] 28)).heap[w.heap.size]? = some (.cells #[.slice none 0 0, .slice none 0 0] 28 (0, 0))) := hide (heap_alloc_last w _)
  generalize hw0 : w.alloc (.cells #[.slice none 0 0, .slice none 0 0] 28) = w0 at *
  clear hw0
  refine ((unhide C1) _ (unhide H0) (by omega)).mono ?_
  rintro e w1 ⟨vi, rfl, hr1⟩
  obtain ⟨r1, o1⟩ := hr1.full
  have H1 := hide ((unhide H0).trans r1)
  have X1 := hide ((r1.blk (b := w.heap.size) (by omega) (by omega)).trans (unhide X0))
  have O1 := hide o1
  have hs1 := r1.2.size
  clear hr1 r1 o1 C1 H0 X0
  go_wp2_with fail
  refine ((unhide C2) _ (unhide H1)).mono ?_
  rintro e w2 ⟨rfl, r2⟩
  have H2 := hide ((unhide H1).trans r2)
  have X2 := hide ((r2.blk (b := w.heap.size) (by omega) (by omega)).trans (unhide X1))
  have O2 := hide (own_kept (unhide O1) r2 (by omega))
  have hs2 := r2.2.size
  clear r2 C2 H1 X1 O1
  go_wp2_with fail
  refine ((unhide C3) _ (unhide H2) (by omega)).mono ?_
  rintro e w3 ⟨vd, rfl, hr3⟩
  obtain ⟨r3, o3⟩ := hr3.full
  have H3 := hide ((unhide H2).trans r3)
  have X3 := hide ((r3.blk (b := w.heap.size) (by omega) (by omega)).trans (unhide X2))
  have O3 := hide (own_kept (unhide O2) r3 (by omega))
  have D3 := hide o3
  have hs3 := r3.2.size
  clear hr3 r3 o3 C3 H2 X2 O2
  obtain ⟨c0, c1, f1⟩ := rd_cells (unhide H3).1
  have hlt : ¬ (T.size : Int) < (T.size : Int) := by omega
  go_upto_region 5 with fail
  go_quiet (fail)
  have H4 := hide ((unhide H3).drewN nq)
  have X4 : Hid ((w3.drewN nq).heap[w.heap.size]? = some (.cells #[.slice none 0 0, .slice none 0 0] 28 (0, 0))) := hide (unhide X3)
  have hs4 : w3.heap.size = (w3.drewN nq).heap.size := rfl
  have O4 := hide (own_kept (unhide O3) ((unhide H3).self.drewN nq) (by omega))
  have D4 := hide (own_kept (unhide D3) ((unhide H3).self.drewN nq) (by omega))
  clear H3 X3 O3 D3 c0 c1 f1
  generalize w3.drewN nq = V at *
  have d0 : V.cell? ⟨w.heap.size, 0, none⟩ = some (.slice none 0 0) ∧ V.frozen? ⟨w.heap.size, 0, none⟩ = false := by simp [World.cell?, World.frozen?, unhide X4]
  have d1 : V.cell? ⟨w.heap.size, 1, none⟩ = some (.slice none 0 0) ∧ V.frozen? ⟨w.heap.size, 1, none⟩ = false := by simp [World.cell?, World.frozen?, unhide X4]
  obtain ⟨d0, e0⟩ := d0
  obtain ⟨d1, e1⟩ := d1
  obtain ⟨gi, ci, hvi⟩ := own_pos (unhide O4) (by omega)
  obtain ⟨gd, cd, hvd⟩ := own_pos (unhide D4) (by omega)
  subst hvi
  subst hvd
  have GG : Hid (V.grownBy ((V.setCell ⟨w.heap.size, 0, none⟩ (.slice (some ⟨gi, 0, none⟩) I.length ci)).setCell ⟨w.heap.size, 1, none⟩ (.slice (some ⟨gd, 0, none⟩) D.length cd)) (some w.heap.size)) := hide (Dr.grown_trans Dr.grown_set Dr.grown_set)
  have hX5 : ((V.setCell ⟨w.heap.size, 0, none⟩ (.slice (some ⟨gi, 0, none⟩) I.length ci)).setCell ⟨w.heap.size, 1, none⟩ (.slice (some ⟨gd, 0, none⟩) D.length cd)).heap[w.heap.size]? = some (.cells #[.slice (some ⟨gi, 0, none⟩) I.length ci, .slice (some ⟨gd, 0, none⟩) D.length cd] 28 (0, 0)) := by
    have a1 := heap_setCell_same V w.heap.size 0 _ 28 (.slice (some ⟨gi, 0, none⟩) I.length ci) (unhide X4)
    have a2 := heap_setCell_same _ w.heap.size 1 _ 28 (.slice (some ⟨gd, 0, none⟩) D.length cd) a1
    simpa using a2
  have X5 := hide hX5
  clear hX5
  go_upto_region 7 with fail
  go_wp2
  all_goals
    have R5 := (unhide H4).own (unhide GG) hgl (fun m hm => by cases hm; exact Nat.le_refl _)
    have O5 := World.ownsRow.kept (unhide O4) (unhide GG) (.inr (fun e => by have := ((unhide O4).lt _ e).1; omega))
    have D5 := World.ownsRow.kept (unhide D4) (unhide GG) (.inr (fun e => by have := ((unhide D4).lt _ e).1; omega))
    have O6 := row_low (B := w.heap.size) O5 (by omega)
    have D6 := row_low (B := w.heap.size) D5 (by omega)
    generalize (V.setCell ⟨w.heap.size, 0, none⟩ (.slice (some ⟨gi, 0, none⟩) I.length ci)).setCell ⟨w.heap.size, 1, none⟩ (.slice (some ⟨gd, 0, none⟩) D.length cd) = V2 at *
    obtain ⟨k0, k1, _⟩ := rd_cells (unhide X5)
    refine bodyPost_ret (by simp [results, Tryd.results28, go_sem, k0, k1]; try rfl) rfl ?_
    exact ⟨_, _, rfl, R5, O6, D6⟩
end Go.Proofs.YtjncfkcpjjnmdaaDoor
