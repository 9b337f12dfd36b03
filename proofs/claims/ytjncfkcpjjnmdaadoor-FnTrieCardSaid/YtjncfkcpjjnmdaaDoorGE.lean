/- Several texts in one. -/
import Derived.Test.YtjncfkcpjjnmdaaDoorGD
import Derived.Test.YtjncfkcpjjnmdaaDoorUnlA
/- A packed trie unpacked: the program. -/
namespace Go.Proofs.YtjncfkcpjjnmdaaDoor
open Go.RowKit
theorem below_grown {w w' : World} {r : Nat} {B : Nat} (h : w.grownBy w' (some r)) (hB : B ≤ w.heap.size) (hr : B ≤ r) : Below B w w' := ⟨h.os, h.tape, h.output, by have := h.size; omega, fun k hk => h.block k (by omega) (fun e => by have := Option.some.inj e; omega)⟩
theorem ints_set {w : World} {g n c b j : Nat} {u : Value} {l : List Int} (h : IntsAt w (.slice (some ⟨g, 0, none⟩) n c) l) (hne : g ≠ b) : IntsAt (w.setCell ⟨b, j, none⟩ u) (.slice (some ⟨g, 0, none⟩) n c) l := by
  obtain ⟨a, cap, he, h⟩ := h
  refine ⟨a, cap, he, h.imp_right ?_⟩
  rintro ⟨b2, off, rfl, hb, hc⟩
  cases he
  have hs := ((Below.refl 0 w).setCell (p := ⟨b, j, none⟩) (Nat.zero_le _) u).size
  refine ⟨g, 0, rfl, by omega, fun i hi => ?_⟩
  have e := heap_setCell_other w ⟨b, j, none⟩ g u hne
  have := hc i hi
  simp only [World.cell?, e] at this ⊢
  exact this
set_option maxHeartbeats 4000000 in
set_option maxRecDepth 100000 in
theorem unpack_any (w : World) (F : Nat) (T : ByteArray) (I D : List Int) (P Q : Nat → Nat) (hP : P 0 = 0) (hT : T.size ≤ 65536) (hI0 : 0 < I.length) (hI1 : I.length ≤ 32768) (hD0 : 0 < D.length) (hD1 : D.length ≤ 32768)
    (hbI : ∀ j, j < I.length → -1000000000000 ≤ nth I j ∧ nth I j ≤ 1000000000000) (hbD : ∀ j, j < D.length → -1000000000000 ≤ nth D j ∧ nth D j ≤ 1000000000000) (hI : ItemsAt T I P F) (hF : F < T.size) (hF2 : hb T F = 59) (hQ : Q 0 = F + 1) (hD : ItemsAt T D Q T.size) (hf : trieFault I D = 0) :
    Calls Tryd.prog 9 #[.string T] w fun e w' => ∃ vi vd, e = .returned (.agg #[.int .i64 0, .int .i64 0, vi, vd]) ∧ IntsAt w' vi I ∧ IntsAt w' vd D ∧ Below w.heap.size w w' := by
  have C1 := hide (fun W g (q : RdAt W W g T (P 0)) hg => trie_any W g F T I D P Q q hg hT hI0 hI1 hD0 hD1 hbI hbD hI hF hF2 hQ hD)
  rw [hP] at C1
  have hT' : ¬ (65536 : Int) < (T.size : Int) := by omega
  clear hbI hbD hI hD hF2 hQ
  go_enter Tryd.func9, Tryd.ntmps9
  go_wp2_with fail
  have hs00 : (w.alloc (.cells #[.int .i64 0, .int .i64 0, .slice none 0 0, .slice none 0 0] 36)).heap.size = w.heap.size + 1 := by simp
  have hs0 : ((w.alloc (.cells #[.int .i64 0, .int .i64 0, .slice none 0 0, .slice none 0 0] 36)).alloc (.cells #[.string T, .int .i64 0] 59)).heap.size = w.heap.size + 2 := by simp
  have X0 : Hid (((w.alloc (.cells #[.int .i64 0, .int .i64 0, .slice none 0 0, .slice none 0 0] 36)).alloc (.cells #[.string T, .int .i64 0] 59)).heap[w.heap.size]? = some (.cells #[.int .i64 0, .int .i64 0, .slice none 0 0, .slice none 0 0] 36 (0, 0))) := hide ((Below.heap_alloc _ _ w.heap.size (by omega)).trans (heap_alloc_last w _))
  have R0 : Hid (((w.alloc (.cells #[.int .i64 0, .int .i64 0, .slice none 0 0, .slice none 0 0] 36)).alloc (.cells #[.string T, .int .i64 0] 59)).heap[w.heap.size + 1]? = some (.cells #[.string T, .int .i64 0] 59 (0, 0))) := hide (by have := heap_alloc_last (w.alloc (.cells #[.int .i64 0, .int .i64 0, .slice none 0 0, .slice none 0 0] 36)) (.cells #[.string T, .int .i64 0] 59); rw [hs00] at this; exact this)
  have B0 : Hid (Below w.heap.size w ((w.alloc (.cells #[.int .i64 0, .int .i64 0, .slice none 0 0, .slice none 0 0] 36)).alloc (.cells #[.string T, .int .i64 0] 59))) := hide (((Below.refl w.heap.size w).alloc (Nat.le_refl _) _).alloc (by omega) _)
  generalize (w.alloc (.cells #[.int .i64 0, .int .i64 0, .slice none 0 0, .slice none 0 0] 36)).alloc (.cells #[.string T, .int .i64 0] 59) = w0 at *
  clear hs00
  refine ((unhide C1) _ _ ⟨unhide R0, Dr.grown_refl _ _⟩ (by omega)).mono ?_
  rintro e w1 ⟨vi, vd, rfl, r1, oi, od⟩
  have X1 := hide ((r1.blk (b := w.heap.size) (by omega) (by omega)).trans (unhide X0))
  have hs1 := r1.2.size
  have B1 := hide ((unhide B0).trans (below_grown r1.2 (by omega) (by omega)))
  have OI := hide oi
  have OD := hide od
  obtain ⟨gi, ci, hvi⟩ := own_pos oi (by omega)
  obtain ⟨gd, cd, hvd⟩ := own_pos od (by omega)
  subst hvi
  subst hvd
  clear r1 oi od C1 X0 R0 B0
  go_wp2_with fail
  have hs2 : (w1.alloc (.cells #[.slice (some ⟨gi, 0, none⟩) I.length ci, .slice (some ⟨gd, 0, none⟩) D.length cd] 28)).heap.size = w1.heap.size + 1 := by simp
  have Y2 : Hid ((w1.alloc (.cells #[.slice (some ⟨gi, 0, none⟩) I.length ci, .slice (some ⟨gd, 0, none⟩) D.length cd] 28)).heap[w1.heap.size]? = some (.cells #[.slice (some ⟨gi, 0, none⟩) I.length ci, .slice (some ⟨gd, 0, none⟩) D.length cd] 28 (0, 0))) := hide (heap_alloc_last w1 _)
  have X2 := hide ((Below.heap_alloc w1 (.cells #[.slice (some ⟨gi, 0, none⟩) I.length ci, .slice (some ⟨gd, 0, none⟩) D.length cd] 28) w.heap.size (by omega)).trans (unhide X1))
  have PI := hide (World.ownsRow.alloc (unhide OI) (.cells #[.slice (some ⟨gi, 0, none⟩) I.length ci, .slice (some ⟨gd, 0, none⟩) D.length cd] 28))
  have PD := hide (World.ownsRow.alloc (unhide OD) (.cells #[.slice (some ⟨gi, 0, none⟩) I.length ci, .slice (some ⟨gd, 0, none⟩) D.length cd] 28))
  have B2 := hide ((unhide B1).alloc (by omega) (.cells #[.slice (some ⟨gi, 0, none⟩) I.length ci, .slice (some ⟨gd, 0, none⟩) D.length cd] 28))
  clear X1 OI OD B1
  generalize w1.alloc (.cells #[.slice (some ⟨gi, 0, none⟩) I.length ci, .slice (some ⟨gd, 0, none⟩) D.length cd] 28) = w2 at *
  refine (implTF _ _ I D _ (DatAt.owned (unhide PI)) (DatAt.owned (unhide PD)) (by omega) (by omega)).mono ?_
  rintro e w3 ⟨rfl, hb3⟩
  rw [hf]
  have hs3 := hb3.size
  have X3 := hide ((hb3.block w.heap.size (by omega)).trans (unhide X2))
  have Y3 := hide ((hb3.block w1.heap.size (by omega)).trans (unhide Y2))
  have QI := hide ((IntsAt.owned (unhide PI)).below hb3)
  have QD := hide ((IntsAt.owned (unhide PD)).below hb3)
  have hgi := (unhide PI).lt gi rfl
  have hgd := (unhide PD).lt gd rfl
  have B3 := hide ((unhide B2).trans (hb3.mono (by omega)))
  clear hb3 X2 Y2 PI PD B2
  obtain ⟨y0, y1, _⟩ := rd_cells (unhide Y3)
  have x0 : w3.cell? ⟨w.heap.size, 0, none⟩ = some (.int .i64 0) ∧ w3.frozen? ⟨w.heap.size, 0, none⟩ = false := by simp [World.cell?, World.frozen?, unhide X3]
  have x1 : w3.cell? ⟨w.heap.size, 1, none⟩ = some (.int .i64 0) ∧ w3.frozen? ⟨w.heap.size, 1, none⟩ = false := by simp [World.cell?, World.frozen?, unhide X3]
  have x2 : w3.cell? ⟨w.heap.size, 2, none⟩ = some (.slice none 0 0) ∧ w3.frozen? ⟨w.heap.size, 2, none⟩ = false := by simp [World.cell?, World.frozen?, unhide X3]
  have x3 : w3.cell? ⟨w.heap.size, 3, none⟩ = some (.slice none 0 0) ∧ w3.frozen? ⟨w.heap.size, 3, none⟩ = false := by simp [World.cell?, World.frozen?, unhide X3]
  obtain ⟨x0, z0⟩ := x0
  obtain ⟨x1, z1⟩ := x1
  obtain ⟨x2, z2⟩ := x2
  obtain ⟨x3, z3⟩ := x3
  have E1 := heap_setCell_same w3 w.heap.size 0 _ 36 (.int .i64 0) (unhide X3)
  have E2 := heap_setCell_same _ w.heap.size 1 _ 36 (.int .i64 0) E1
  have E3 := heap_setCell_same _ w.heap.size 2 _ 36 (.slice (some ⟨gi, 0, none⟩) I.length ci) E2
  have E4 := hide (heap_setCell_same _ w.heap.size 3 _ 36 (.slice (some ⟨gd, 0, none⟩) D.length cd) E3)
  clear E1 E2 E3
  have RI := hide (ints_set (j := 3) (u := .slice (some ⟨gd, 0, none⟩) D.length cd) (ints_set (j := 2) (u := .slice (some ⟨gi, 0, none⟩) I.length ci) (ints_set (j := 1) (u := .int .i64 0) (ints_set (b := w.heap.size) (j := 0) (u := .int .i64 0) (unhide QI) (by omega)) (b := w.heap.size) (by omega)) (b := w.heap.size) (by omega)) (b := w.heap.size) (by omega))
  have RD := hide (ints_set (j := 3) (u := .slice (some ⟨gd, 0, none⟩) D.length cd) (ints_set (j := 2) (u := .slice (some ⟨gi, 0, none⟩) I.length ci) (ints_set (j := 1) (u := .int .i64 0) (ints_set (b := w.heap.size) (j := 0) (u := .int .i64 0) (unhide QD) (by omega)) (b := w.heap.size) (by omega)) (b := w.heap.size) (by omega)) (b := w.heap.size) (by omega))
  have RB := hide (((((unhide B3).setCell (p := ⟨w.heap.size, 0, none⟩) (Nat.le_refl _) (.int .i64 0)).setCell (p := ⟨w.heap.size, 1, none⟩) (Nat.le_refl _) (.int .i64 0)).setCell (p := ⟨w.heap.size, 2, none⟩) (Nat.le_refl _) (.slice (some ⟨gi, 0, none⟩) I.length ci)).setCell (p := ⟨w.heap.size, 3, none⟩) (Nat.le_refl _) (.slice (some ⟨gd, 0, none⟩) D.length cd))
  go_wp2
  generalize (((w3.setCell ⟨w.heap.size, 0, none⟩ (.int .i64 0)).setCell ⟨w.heap.size, 1, none⟩ (.int .i64 0)).setCell ⟨w.heap.size, 2, none⟩ (.slice (some ⟨gi, 0, none⟩) I.length ci)).setCell ⟨w.heap.size, 3, none⟩ (.slice (some ⟨gd, 0, none⟩) D.length cd) = V at *
  have E4 := unhide E4
  simp at E4
  have k0 : V.cell? ⟨w.heap.size, 0, none⟩ = some (.int .i64 0) := by simp [World.cell?, E4]
  have k1 : V.cell? ⟨w.heap.size, 1, none⟩ = some (.int .i64 0) := by simp [World.cell?, E4]
  have k2 : V.cell? ⟨w.heap.size, 2, none⟩ = some (.slice (some ⟨gi, 0, none⟩) I.length ci) := by simp [World.cell?, E4]
  have k3 : V.cell? ⟨w.heap.size, 3, none⟩ = some (.slice (some ⟨gd, 0, none⟩) D.length cd) := by simp [World.cell?, E4]
  refine bodyPost_ret (by simp [results, Tryd.results9, go_sem, k0, k1, k2, k3]; try rfl) rfl ?_
  exact ⟨_, _, rfl, unhide RI, unhide RD, unhide RB⟩
end Go.Proofs.YtjncfkcpjjnmdaaDoor
/- A packed text has its runs at their places: no Go in sight. -/
namespace Go.Proofs.YtjncfkcpjjnmdaaDoor
open Go.RowKit
set_option linter.unusedVariables false
/-- All are bytes. -/
def Byt (X : List Int) : Prop := ∀ x ∈ X, 0 ≤ x ∧ x < 256
theorem hb_str (X : List Int) (h : Byt X) (k : Nat) : hb (strOfNums X) k = (nth X k).toNat := by
  unfold hb
  have hs := strOfNums_size X
  split
  · rename_i hk
    have hk' : k < X.length := by omega
    have e : nth X k = X[k] := by unfold nth; rw [List.getD_eq_getElem?_getD, List.getElem?_eq_getElem hk']; rfl
    have hb := h _ (List.getElem_mem hk')
    have e2 : (strOfNums X)[k] = UInt8.ofNat (X[k]).toNat := by
      show (strOfNums X).data[k] = _
      simp [strOfNums]
    rw [e, e2]
    simp
    omega
  · rename_i hk
    have : nth X k = 0 := by unfold nth; rw [List.getD_eq_getElem?_getD, List.getElem?_eq_none (by omega)]; rfl
    rw [this]
    rfl
theorem nth_app (A Y : List Int) (j : Nat) : nth (A ++ Y) (A.length + j) = nth Y j := by
  unfold nth
  rw [List.getD_eq_getElem?_getD, List.getD_eq_getElem?_getD, List.getElem?_append_right (by omega), Nat.add_sub_cancel_left]
theorem nth_left (A Y : List Int) (j : Nat) (h : j < A.length) : nth (A ++ Y) j = nth A j := by
  unfold nth
  rw [List.getD_eq_getElem?_getD, List.getD_eq_getElem?_getD, List.getElem?_append_left h]
theorem digAt_of (A R : List Int) (u : Nat) (h : Byt (A ++ (digZ u ++ R))) (hR : nth R 0 < 48 ∨ 57 < nth R 0) : DigAt (strOfNums (A ++ (digZ u ++ R))) A.length u := by
  refine ⟨by rw [strOfNums_size]; simp, fun j hj => ?_, ?_⟩
  · rw [hb_str _ h, show A.length + (digZ u).length - 1 - j = A.length + ((digZ u).length - 1 - j) by omega, nth_app, nth_left _ _ _ (by omega), dig_nth u j hj]
    omega
  · rw [hb_str _ h, nth_app]
    have := nth_app (digZ u) R 0
    rw [Nat.add_zero] at this
    rw [this]
    omega
theorem numAt_of (A R : List Int) (x : Int) (h : Byt (A ++ (itoaZ x ++ R))) (hR : nth R 0 < 48 ∨ 57 < nth R 0) : NumAt (strOfNums (A ++ (itoaZ x ++ R))) A.length x := by
  unfold NumAt
  by_cases hx : x < 0
  · rw [if_pos hx]
    have e : A ++ (itoaZ x ++ R) = (A ++ [45]) ++ (digZ x.natAbs ++ R) := by rw [itoaZ_neg hx]; simp
    refine ⟨by rw [strOfNums_size, itoaZ_neg hx]; simp, ?_, ?_⟩
    · rw [hb_str _ h]
      have := nth_app A (itoaZ x ++ R) 0
      rw [Nat.add_zero] at this
      rw [this, itoaZ_neg hx]
      rfl
    · rw [e] at h ⊢
      have := digAt_of (A ++ [45]) R x.natAbs h hR
      simpa using this
  · rw [if_neg hx]
    rw [itoaZ_pos (by omega)] at h ⊢
    exact digAt_of A R x.toNat h hR
/-- A run as it is written. -/
def rnn (x : Int) (c : Nat) : List Int := itoaZ x ++ if 1 < c then 120 :: itoaZ (c : Int) else []
theorem rnn_len (x : Int) (c : Nat) (hc : 1 ≤ c) : (rnn x c).length = runLen x c := by
  unfold rnn runLen
  by_cases h : 1 < c
  · rw [if_pos h, if_neg (by omega), itoaZ_pos (n := (c : Int)) (by omega)]
    simp
    try omega
  · rw [if_neg h, if_pos (by omega)]
    simp
theorem runAt_of (A R : List Int) (x : Int) (c : Nat) (hc : 1 ≤ c) (h : Byt (A ++ (rnn x c ++ R))) (hR : nth R 0 < 48 ∨ 57 < nth R 0) (hR2 : nth R 0 ≠ 120) (hR3 : 0 ≤ nth R 0) : RunAt (strOfNums (A ++ (rnn x c ++ R))) A.length x c := by
  by_cases h1 : 1 < c
  · have e : rnn x c = itoaZ x ++ (120 :: digZ c) := by unfold rnn; rw [if_pos h1, itoaZ_pos (n := (c : Int)) (by omega)]; rfl
    have e1 : A ++ (rnn x c ++ R) = A ++ (itoaZ x ++ (120 :: digZ c ++ R)) := by rw [e]; simp
    have e2 : A ++ (rnn x c ++ R) = (A ++ itoaZ x ++ [120]) ++ (digZ c ++ R) := by rw [e]; simp
    refine ⟨?_, by rw [strOfNums_size, e]; simp <;> omega, ?_⟩
    · rw [e1] at h ⊢
      exact numAt_of A _ x h (.inr (by simp [nth]))
    · rw [if_neg (by omega)]
      refine ⟨by rw [strOfNums_size, e]; simp <;> omega, ?_, ?_⟩
      · rw [hb_str _ h, e1, nth_app]
        have := nth_app (itoaZ x) (120 :: digZ c ++ R) 0
        rw [Nat.add_zero] at this
        rw [this]
        rfl
      · rw [e2] at h ⊢
        have := digAt_of (A ++ itoaZ x ++ [120]) R c h hR
        simpa [Nat.add_assoc] using this
  · have e : rnn x c = itoaZ x := by unfold rnn; rw [if_neg h1]; simp
    refine ⟨?_, by rw [strOfNums_size, e]; simp <;> omega, ?_⟩
    · rw [e] at h ⊢
      exact numAt_of A R x h hR
    · rw [if_pos (by omega), hb_str _ h, e, nth_app]
      have := nth_app (itoaZ x) R 0
      rw [Nat.add_zero] at this
      rw [this]
      omega
/-- The run that ends where another begins. -/
theorem run_back (L : List Int) : ∀ i, 0 < i → ∃ j, j < i ∧ StartAt L j ∧ ∀ t, j ≤ t → t < i → nth L t = nth L j
  | 0, h => absurd h (by omega)
  | 1, _ => ⟨0, by omega, .inl rfl, fun t _ h => by rw [show t = 0 by omega]⟩
  | i + 2, _ => by
    by_cases e : nth L i = nth L (i + 1)
    · obtain ⟨j, h1, h2, h3⟩ := run_back L (i + 1) (by omega)
      refine ⟨j, by omega, h2, fun t a b => ?_⟩
      by_cases et : t = i + 1
      · rw [et, ← e]
        exact h3 i (by omega) (by omega)
      · exact h3 t a (by omega)
    · exact ⟨i + 1, by omega, .inr e, fun t a b => by rw [show t = i + 1 by omega]⟩
theorem rest_suf (L : List Int) : ∀ (n i : Nat), i ≤ n → i ≤ L.length → (i = L.length ∨ StartAt L i) → ∃ A, pkRuns L = A ++ pkRest L i
  | 0, i, h, _, _ => ⟨[], by rw [show i = 0 by omega]; rfl⟩
  | n + 1, i, h, hl, hs => by
    by_cases h0 : i = 0
    · exact ⟨[], by rw [h0]; rfl⟩
    · obtain ⟨j, h1, h2, h3⟩ := run_back L i (by omega)
      have hr : RunTo L j i := ⟨h1, hl, h3, by
        rcases hs with e | e
        · exact .inl e
        · rcases e with e | e
          · omega
          · refine .inr (fun e2 => e ?_)
            rw [h3 (i - 1) (by omega) (by omega), e2]⟩
      obtain ⟨A, hA⟩ := rest_suf L n j (by omega) (by omega) (.inr h2)
      exact ⟨A ++ pkPiece L j i, by rw [hA, pkRest_step hr, List.append_assoc]⟩
/-- Where the run that begins at i stands, the whole being written from place b on. -/
def pkP (L : List Int) (b i : Nat) : Nat := b + ((pkRuns L).length - (pkRest L i).length) + if 0 < i then 1 else 0
theorem items_of (B R L : List Int) (h : Byt (B ++ (pkRuns L ++ R))) (hR : nth R 0 < 48 ∨ 57 < nth R 0) (hR2 : nth R 0 ≠ 120) (hR3 : 0 ≤ nth R 0) (hR4 : nth R 0 ≠ 44) :
    ItemsAt (strOfNums (B ++ (pkRuns L ++ R))) L (pkP L B.length) (B.length + (pkRuns L).length) := by
  intro i k hs hr
  have h1 := hr.1
  have h2 := hr.2.1
  obtain ⟨A, hA⟩ := rest_suf L i i (Nat.le_refl _) (by omega) (.inr hs)
  have hst := pkRest_step hr
  have hp : pkPiece L i k = (if 0 < i then [44] else []) ++ rnn (nth L i) (k - i) := by unfold pkPiece rnn; rw [List.append_assoc]
  obtain ⟨C, hC⟩ : ∃ C, C = (if 0 < i then [44] else [] : List Int) := ⟨_, rfl⟩
  rw [← hC] at hp
  have hCl : C.length = if 0 < i then 1 else 0 := by rw [hC]; split <;> rfl
  have eX : B ++ (pkRuns L ++ R) = (B ++ A ++ C) ++ (rnn (nth L i) (k - i) ++ (pkRest L k ++ R)) := by
    rw [hA, hst, hp]
    simp
  have hP : pkP L B.length i = (B ++ A ++ C).length := by
    unfold pkP
    rw [hA]
    simp [hCl]
    try omega
  have hk0 : k < L.length → ∃ Z, pkRest L k = 44 :: Z := fun hlt => by
    obtain ⟨k2, hk2⟩ := run_of L k hlt
    refine ⟨rnn (nth L k) (k2 - k) ++ pkRest L k2, ?_⟩
    rw [pkRest_step hk2]
    unfold pkPiece rnn
    rw [if_pos (by omega)]
    simp
  have hke : k = L.length → pkRest L k = [] := fun e => pkRest_end (by omega)
  have hn : (nth (pkRest L k ++ R) 0 = 44 ∧ k < L.length) ∨ (nth (pkRest L k ++ R) 0 = nth R 0 ∧ k = L.length) := by
    by_cases e : k = L.length
    · rw [hke e]; exact .inr ⟨rfl, e⟩
    · obtain ⟨Z, hZ⟩ := hk0 (by omega)
      rw [hZ]
      exact .inl ⟨rfl, by omega⟩
  have hrl := rnn_len (nth L i) (k - i) (by omega)
  have hsz : (strOfNums (B ++ (pkRuns L ++ R))).size = B.length + (pkRuns L).length + R.length := by rw [strOfNums_size]; simp; omega
  have hrun : (pkRuns L).length = A.length + C.length + runLen (nth L i) (k - i) + (pkRest L k).length := by
    rw [hA, hst, hp]
    simp [hrl]
    omega
  have hEnd : hb (strOfNums (B ++ (pkRuns L ++ R))) ((B ++ A ++ C).length + runLen (nth L i) (k - i)) = (nth (pkRest L k ++ R) 0).toNat := by
    rw [hb_str _ h, eX, nth_app, ← hrl]
    have := nth_app (rnn (nth L i) (k - i)) (pkRest L k ++ R) 0
    rw [Nat.add_zero] at this
    rw [this]
  have hl3 : (B ++ A ++ C).length = B.length + A.length + C.length := by simp; try omega
  refine ⟨?_, fun hlt => ?_, fun hke2 => ?_⟩
  · rw [hP]
    have h' := h
    rw [eX] at h' ⊢
    exact runAt_of _ _ _ _ (by omega) h' (by rcases hn with ⟨e, _⟩ | ⟨e, _⟩ <;> rw [e] <;> omega) (by rcases hn with ⟨e, _⟩ | ⟨e, _⟩ <;> rw [e] <;> omega) (by rcases hn with ⟨e, _⟩ | ⟨e, _⟩ <;> rw [e] <;> omega)
  · obtain ⟨Z, hZ⟩ := hk0 hlt
    have hzl : 0 < (pkRest L k).length := by rw [hZ]; simp
    rw [hP]
    refine ⟨by rw [hsz, hl3]; omega, ?_, ?_⟩
    · rw [hEnd, hZ]; rfl
    · unfold pkP
      rw [if_pos (by omega), hl3]
      omega
  · have hz := hke2
    have hzl : (pkRest L k).length = 0 := by rw [hke hz]; rfl
    have he : (B ++ A ++ C).length + runLen (nth L i) (k - i) = B.length + (pkRuns L).length := by rw [hl3]; omega
    rw [hP]
    refine ⟨he, by rw [hsz]; omega, ?_⟩
    rw [← he, hEnd, hke hz]
    show (nth R 0).toNat ≠ 44
    omega
end Go.Proofs.YtjncfkcpjjnmdaaDoor
/- What is packed and unpacked again is the same: the program. -/
namespace Go.Proofs.YtjncfkcpjjnmdaaDoor
open Go.RowKit
set_option linter.unusedVariables false
theorem byt_itoa (x : Int) : Byt (itoaZ x) := by
  intro y hy
  unfold itoaZ at hy
  obtain ⟨b, _, rfl⟩ := List.mem_map.1 hy
  have := b.toNat_lt
  omega
theorem byt_app {A B : List Int} (h : Byt A) (k : Byt B) : Byt (A ++ B) := fun x hx => by
  rcases List.mem_append.1 hx with e | e
  · exact h x e
  · exact k x e
theorem byt_piece (L : List Int) (i k : Nat) : Byt (pkPiece L i k) := by
  unfold pkPiece
  refine byt_app (byt_app ?_ (byt_itoa _)) ?_
  · split
    · intro x hx; simp at hx; omega
    · intro x hx; simp at hx
  · split
    · intro x hx
      rcases List.mem_cons.1 hx with e | e
      · omega
      · exact byt_itoa _ x e
    · intro x hx; simp at hx
theorem byt_pk (L : List Int) : ∀ (f i : Nat), Byt (pkF L f i)
  | 0, _ => by intro x hx; simp [pkF] at hx
  | f + 1, i => by
    show Byt (if _ then _ else _)
    split
    · exact byt_app (byt_piece L i _) (byt_pk L f _)
    · intro x hx; simp at hx
theorem byt_runs (L : List Int) : Byt (pkRuns L) := byt_pk L _ _
theorem again_any (w : World) (I D : List Int) (hT : (pkRuns I ++ [59] ++ pkRuns D).length ≤ 65536) (hI0 : 0 < I.length) (hI1 : I.length ≤ 32768) (hD0 : 0 < D.length) (hD1 : D.length ≤ 32768)
    (hbI : ∀ j, j < I.length → -1000000000000 ≤ nth I j ∧ nth I j ≤ 1000000000000) (hbD : ∀ j, j < D.length → -1000000000000 ≤ nth D j ∧ nth D j ≤ 1000000000000) (hf : trieFault I D = 0) :
    Calls Tryd.prog 9 #[.string (strOfNums (pkRuns I ++ [59] ++ pkRuns D))] w fun e w' => ∃ vi vd, e = .returned (.agg #[.int .i64 0, .int .i64 0, vi, vd]) ∧ IntsAt w' vi I ∧ IntsAt w' vd D ∧ Below w.heap.size w w' := by
  have hbyt : Byt (pkRuns I ++ [59] ++ pkRuns D) := byt_app (byt_app (byt_runs I) (by intro x hx; simp at hx; omega)) (byt_runs D)
  have e1 : pkRuns I ++ [59] ++ pkRuns D = [] ++ (pkRuns I ++ ([59] ++ pkRuns D)) := by simp
  have e2 : pkRuns I ++ [59] ++ pkRuns D = (pkRuns I ++ [59]) ++ (pkRuns D ++ []) := by simp
  have i1 := items_of [] ([59] ++ pkRuns D) I (by rw [← e1]; exact hbyt) (.inr (by simp [nth])) (by simp [nth]) (by simp [nth]) (by simp [nth])
  have i2 := items_of (pkRuns I ++ [59]) [] D (by rw [← e2]; exact hbyt) (.inl (by simp [nth])) (by simp [nth]) (by simp [nth]) (by simp [nth])
  rw [← e1] at i1
  rw [← e2] at i2
  have hsz : (strOfNums (pkRuns I ++ [59] ++ pkRuns D)).size = (pkRuns I).length + 1 + (pkRuns D).length := by rw [strOfNums_size]; simp; omega
  have hlen : (pkRuns I ++ [59] : List Int).length = (pkRuns I).length + 1 := by simp
  rw [hlen, ← hsz] at i2
  rw [show ([] : List Int).length + (pkRuns I).length = (pkRuns I).length by simp] at i1
  have hP : pkP I ([] : List Int).length 0 = 0 := by
    unfold pkP
    rw [if_neg (by omega), show pkRest I 0 = pkRuns I from rfl]
    simp
  have hQ : pkP D ((pkRuns I).length + 1) 0 = (pkRuns I).length + 1 := by
    unfold pkP
    rw [if_neg (by omega), show pkRest D 0 = pkRuns D from rfl]
    omega
  have hF2 : hb (strOfNums (pkRuns I ++ [59] ++ pkRuns D)) (pkRuns I).length = 59 := by
    rw [hb_str _ hbyt, List.append_assoc]
    have := nth_app (pkRuns I) ([59] ++ pkRuns D) 0
    rw [Nat.add_zero] at this
    rw [this]
    rfl
  exact unpack_any w (pkRuns I).length _ I D _ _ hP (by rw [strOfNums_size]; exact hT) hI0 hI1 hD0 hD1 hbI hbD i1 (by rw [hsz]; omega) hF2 hQ i2 hf
end Go.Proofs.YtjncfkcpjjnmdaaDoor
