/- Blocks of a row of numbers: are they unlike? Is a trie right? The program's answer. -/
import Derived.Test.YtjncfkcpjjnmdaaDoorGC
namespace Go.Proofs.YtjncfkcpjjnmdaaDoor
open Go.RowKit
/-- A slice value that holds just the numbers l, below B. -/
def DatAt (w : World) (B : Nat) (v : Value) (l : List Int) : Prop :=
  ∃ a cap, v = .slice a l.length cap ∧ l.length ≤ cap ∧ (l = [] ∨ ∃ b off, a = some ⟨b, off, none⟩ ∧ b < B ∧ ∀ i, i < l.length → w.cell? ⟨b, off + i, none⟩ = some (.int .i64 (nth l i)))
theorem DatAt.ints {w : World} {B : Nat} {v : Value} {l : List Int} (h : DatAt w B v l) (hB : B ≤ w.heap.size) : IntsAt w v l := by
  obtain ⟨a, cap, rfl, _, h⟩ := h
  refine ⟨a, cap, rfl, h.imp_right ?_⟩
  rintro ⟨b, off, rfl, hb, hc⟩
  exact ⟨b, off, rfl, by omega, hc⟩
theorem DatAt.same {w w' : World} {B : Nat} {v : Value} {l : List Int} (h : DatAt w B v l) (hs : ∀ k, k < B → w'.heap[k]? = w.heap[k]?) : DatAt w' B v l := by
  obtain ⟨a, cap, rfl, hc, h⟩ := h
  refine ⟨a, cap, rfl, hc, h.imp_right ?_⟩
  rintro ⟨b, off, rfl, hb, hc⟩
  exact ⟨b, off, rfl, hb, fun i hi => (World.cell?_of_block (a := ⟨b, off + i, none⟩) (hs b hb)).trans (hc i hi)⟩
theorem DatAt.owned {w : World} {base : Nat} {v : Value} {l : List Int} {n : Nat} (h : w.ownsRow base 2 1 v n (l.map (Value.int .i64))) : DatAt w w.heap.size v l := by
  have hl : l.length = n := by simpa using h.1
  rcases h.2 with ⟨hv, hn⟩ | ⟨g, cap, cur, hv, hg, hh, hn, hm, hs, ht⟩
  · exact ⟨none, 0, by rw [hv, hl, hn], by omega, .inl (List.length_eq_zero_iff.1 (by omega))⟩
  · subst hv
    refine ⟨some ⟨g, 0, none⟩, cap, by rw [hl], by omega, .inr ⟨g, 0, rfl, (Array.getElem?_eq_some_iff.1 hh).1, fun i hi => ?_⟩⟩
    have hc := h.cellAt i (by omega)
    rw [Nat.zero_add, hc, List.getElem?_map]
    simp [nth, List.getD, hi]
theorem blk_cell {w : World} {B b off cap : Nat} {l : List Int} (hb : b < B) (hc : ∀ i, i < l.length → w.cell? ⟨b, off + i, none⟩ = some (.int .i64 (nth l i))) (c i : Nat) (hl : l.length = c * 64) (hi : i < c) : BlkAt w B (.slice (some ⟨b, off + i * 64, none⟩) 64 cap) (blk l i) := by
  refine ⟨blk_len l i c hl hi, b, off + i * 64, cap, rfl, hb, fun j hj => ?_⟩
  have := hc (i * 64 + j) (by omega)
  rw [← Nat.add_assoc] at this
  rw [this]
  unfold nth
  rw [blk_nth l i j hj]
set_option maxHeartbeats 1000000 in
theorem blockAt_any (b off n cap i : Nat) (w : World) (h1 : (i + 1) * 64 ≤ n) (h2 : n ≤ cap) (h3 : n ≤ 1048576) :
    Calls Tryd.prog 24 #[.slice (some ⟨b, off, none⟩) n cap, .int .i64 i] w fun e w' => e = .returned (.slice (some ⟨b, off + i * 64, none⟩) 64 (cap - i * 64)) ∧ w' = w := by
  go_enter Tryd.func24, Tryd.ntmps24
  go_wp2
  go_ret
  have e : (i + 1) * 64 - i * 64 = 64 := by omega
  refine ⟨?_, rfl⟩
  show Ending.returned (.slice (some ⟨b, off + i * 64, none⟩) ((i + 1) * 64 - i * 64) (cap - i * 64)) = _
  rw [e]
theorem wpList_allocT {ops : Array Oper} {rest : List Oper} {o : Oper} {a : Act} {w : World} {Q : Exit → Act → World → Prop} (hg : o.guard = none) (hop : o.op = Op.alloc 52)
    (h : wpList Tryd.prog ops Q rest (a.put o.dst (.pointer (some ⟨w.heap.size, 0, none⟩))) (w.alloc (.cells (Array.replicate 513 (.slice none 0 0)) 52))) : wpList Tryd.prog ops Q (o :: rest) a w := by
  refine wpList_plain hg fun K hK => ?_
  have hrun : (execOp a.eval o).run Tryd.prog w = .ok (.value (.pointer (some ⟨w.heap.size, 0, none⟩))) (w.alloc (.cells (Array.replicate 513 (.slice none 0 0)) 52)) := by
    unfold execOp
    rw [hop]
    kernel_rfl
  unfold Oper.wp
  rw [hrun, Oper.upon_value]
  exact hK _ _ h
theorem TabI.start (w : World) : TabI (w.alloc (.cells (Array.replicate 513 (.slice none 0 0)) 52)) w.heap.size w.heap.size [] [] (.slice none 0 0) [] (fun _ => .slice none 0 0) := by
  refine ⟨by simp, Nat.le_refl _, World.ownsRow_nil _ _ _ _, fun i hi => by simp at hi, List.nodup_nil, ?_, ?_, ?_, ?_, ?_, ?_⟩
  · simp
  · intro s hs
    have : 1 + s < 513 := by omega
    simp [this]
  · intro j
    simp
  · exact ⟨Array.replicate 513 (.slice none 0 0), heap_alloc_new _ _⟩
  · intro s _
    exact World.ownsRow_nil _ _ _ _
  · intro s s' _ _ _
    exact .inl rfl
set_option maxHeartbeats 2000000 in
set_option maxRecDepth 100000 in
theorem unlike_any (v : Value) (l : List Int) (c : Nat) (w : World) (h : DatAt w w.heap.size v l) (hl : l.length = c * 64) (hc : c ≤ 512) :
    Calls Tryd.prog 31 #[v, .int .i64 c] w fun e w' => e = .returned (.bool (unlikeB l c)) ∧ Below w.heap.size w w' := by
  have H := hide h
  have HL := hide hl
  have hA2 : l.length ≤ 1048576 := by omega
  clear h hl
  have hcI : (c : Int) ≤ 512 := by omega
  go_enter Tryd.func31, Tryd.ntmps31
  go_wp2_with (refine wpList_allocT rfl rfl ?_)
  have HT := hide (TabI.start w)
  have HB0 : Hid (Below w.heap.size w (w.alloc (.cells (Array.replicate 513 (.slice none 0 0)) 52))) := hide ((Below.refl _ _).alloc (Nat.le_refl _) _)
  generalize w.alloc (.cells (Array.replicate 513 (.slice none 0 0)) 52) = w1 at *
  go_wp2
  go_loopw [8] (fun i wr => ∃ k : Nat, k ≤ c ∧ i = .int .i64 k ∧ Hid (Unlike l k) ∧ Hid (∃ V bs S, TabI wr w.heap.size w.heap.size (bld l k).1 (bld l k).1 V bs S) ∧ Hid (Below w.heap.size w wr)) (fun i _ => c - (intOf i).toNat)
  case atStart => exact ⟨0, Nat.zero_le _, rfl, hide (fun i j a b => by omega), hide ⟨_, _, _, unhide HT⟩, HB0⟩
  case round =>
    obtain ⟨k, hk, rfl, HU, HI, HB⟩ := hrel
    clear HT HB0
    by_cases hlt : k < c
    · have hlt' : (k : Int) < (c : Int) := by omega
      obtain ⟨a, cap, rfl, hcap, hd⟩ := unhide H
      rcases hd with e | ⟨b, off, rfl, hbl, hcell⟩
      · have := unhide HL; rw [e] at this; simp at this; omega
      have HK : Hid (BlkAt wr w.heap.size (.slice (some ⟨b, off + k * 64, none⟩) 64 (cap - k * 64)) (blk l k)) := hide (blk_cell hbl (fun i hi => ((unhide HB).cell (p := ⟨b, off + i, none⟩) hbl).trans (hcell i hi)) c k (unhide HL) hlt)
      clear hcell
      have hA : (k + 1) * 64 ≤ l.length := by rw [unhide HL]; exact Nat.mul_le_mul_right 64 hlt
      have hbk := bld_len l k
      have HSu : Hid ((bld l (k + 1)).1 = addB (bld l k).1 (blk l k)) := hide rfl
      have HX := hide (bld_idx (unhide HU))
      have HOld := hide (bld_old (unhide HU))
      have HNew := hide (bld_new (unhide HU))
      generalize (bld l k).1 = T at *
      generalize blk l k = bb at *
      obtain ⟨V, bs, S, hT⟩ := unhide HI
      have HT := hide hT
      clear hT HI
      go_wp2_with fail
      refine (blockAt_any b off l.length cap k _ hA hcap hA2).mono ?_
      rintro e w2 ⟨rfl, rfl⟩
      go_wp2_with fail
      refine (place_any w2 w.heap.size w.heap.size T V bs S _ bb (unhide HT) (unhide HK) (by omega)).mono ?_
      rintro e w3 ⟨rfl, hT3, hb3⟩
      have HT3 : Hid (∃ V bs S, TabI w3 w.heap.size w.heap.size (bld l (k + 1)).1 (bld l (k + 1)).1 V bs S) := hide (by rw [unhide HSu]; exact hT3)
      have HB3 := hide ((unhide HB).trans hb3)
      clear hT3 hb3
      by_cases hm : bb ∈ T
      · have hne : ¬ idxF bb T = k := fun e => ((unhide HX).1 e) hm
        have hne' : ((((idxF bb T : Nat) : Int)) != (k : Int)) = true := by simp; omega
        have HN : Hid (unlikeB l c = false) := hide (unlikeB_no (fun hu => (unhide HOld) hm (unlike_mono hu (by omega))))
        clear HX hm hne HOld HNew HSu
        generalize idxF bb T = x at *
        go_wp2
        go_ret
        exact ⟨ret_bool (unhide HN).symm, unhide HB3⟩
      · have he := (unhide HX).2 hm
        rw [he]
        have hne' : ((k : Int) != (k : Int)) = false := by simp
        have HU' := hide ((unhide HNew) hm)
        clear HX hm he HOld HNew HSu
        go_wp2
        go_roundw
        case rel => exact ⟨k + 1, by omega, by go_num, HU', HT3, HB3⟩
        case measure => simp [intOf]; omega
    · obtain rfl : k = c := by omega
      have HN : Hid (unlikeB l k = true) := hide (unlikeB_yes (unhide HU))
      go_wp2
      go_ret
      exact ⟨ret_bool (unhide HN).symm, unhide HB⟩
theorem trie_no1 {ix dt : List Int} (h : ix.length ≠ 512) : trieFault ix dt = 1 := trieFault_no (fun hh => h hh.1)
theorem trie_no2 {ix dt : List Int} (h : dt.length % 64 ≠ 0) : trieFault ix dt = 1 := trieFault_no (fun hh => h hh.2.1)
theorem trie_no3 {ix dt : List Int} (h : 512 < dt.length / 64) : trieFault ix dt = 1 := trieFault_no (fun hh => by have := hh.2.2.1; omega)
theorem trie_no4 {ix dt : List Int} (h : ¬ Unlike dt (dt.length / 64)) : trieFault ix dt = 1 := trieFault_no (fun hh => h hh.2.2.2.1)
theorem trie_no5 {ix dt : List Int} (h : turns 0 ix ≠ some ((dt.length / 64 : Nat) : Int)) : trieFault ix dt = 1 := trieFault_no (fun hh => h hh.2.2.2.2)
set_option maxHeartbeats 2000000 in
set_option maxRecDepth 100000 in
theorem implTF (vi vd : Value) (ix dt : List Int) (w : World) (hi : DatAt w w.heap.size vi ix) (hd : DatAt w w.heap.size vd dt) (li : ix.length ≤ 1048576) (ld : dt.length ≤ 1048576) :
    Calls Tryd.prog 11 #[.agg #[vi, vd]] w fun e w' => e = .returned (.int .i64 (trieFault ix dt)) ∧ Below w.heap.size w w' := by
  have HI := hide hi
  have HD := hide hd
  obtain ⟨ai, ci, rfl, _, hx1⟩ := hi
  obtain ⟨ad, cd, rfl, _, hx2⟩ := hd
  clear hx1 hx2
  have HB1 : Hid (∀ o, Below w.heap.size w (w.alloc o)) := hide (fun o => (Below.refl _ _).alloc (Nat.le_refl _) o)
  obtain ⟨q, hq⟩ : ∃ q : Nat, dt.length / 64 = q := ⟨_, rfl⟩
  obtain ⟨r, hr⟩ : ∃ r : Nat, dt.length % 64 = r := ⟨_, rfl⟩
  have eq : (dt.length : Int).tdiv 64 = (q : Int) := by rw [Int.tdiv_eq_ediv_of_nonneg (by omega)]; omega
  have er : (dt.length : Int).tmod 64 = (r : Int) := by rw [Int.tmod_eq_emod_of_nonneg (by omega)]; omega
  have hq' : (q : Int) ≤ 16384 := by omega
  by_cases c1 : ix.length = 512
  · have c1' : ((ix.length : Int) != 512) = false := by simp; omega
    by_cases c2 : r = 0
    · have c2' : ((r : Int) != 0) = false := by simp; omega
      by_cases c3 : 512 < q
      · have c3' : (512 : Int) < (q : Int) := by omega
        have HN : Hid (trieFault ix dt = 1) := hide (trie_no3 (by omega))
        have HC := hide c1
        clear hq hr c1 c2
        go_enter Tryd.func11, Tryd.ntmps11
        go_wp2
        go_ret
        exact ⟨ret_int (unhide HN).symm, unhide HB1 _⟩
      · have c3' : ¬ (512 : Int) < (q : Int) := by omega
        have HL : Hid (dt.length = q * 64) := hide (by omega)
        have HC := hide c1
        have HQ := hide hq
        have HR := hide hr
        have HZ := hide c2
        clear hq hr c1 c2
        go_enter Tryd.func11, Tryd.ntmps11
        go_wp2_with fail
        refine (inTurn_any _ ix q _ (((unhide HI).ints (Nat.le_refl _)).below (unhide HB1 _)) li).mono ?_
        rintro e w2 ⟨rfl, rfl⟩
        cases ht : turnB ix q
        · have HN : Hid (trieFault ix dt = 1) := hide (trie_no5 (by rw [unhide HQ]; intro e; rw [(turnB_iff ix q).2 e] at ht; cases ht))
          go_wp2
          go_ret
          exact ⟨ret_int (unhide HN).symm, unhide HB1 _⟩
        · have HT := hide ((turnB_iff ix q).1 ht)
          have HD2 : Hid (∀ o, DatAt (w.alloc o) (w.alloc o).heap.size (.slice ad dt.length cd) dt) := hide (fun o => by
            obtain ⟨a, cap, e, hc, hd⟩ := unhide HD
            refine ⟨a, cap, e, hc, hd.imp_right ?_⟩
            rintro ⟨b, off, e2, hb, hcell⟩
            exact ⟨b, off, e2, by simp; omega, fun i hi => cell_alloc (hcell i hi) o⟩)
          go_wp2_with fail
          refine (unlike_any _ dt q _ (unhide HD2 _) (unhide HL) (by omega)).mono ?_
          rintro e w3 ⟨rfl, hb3⟩
          have HB3 := hide ((unhide HB1 _).trans (hb3.mono (unhide HB1 _).size))
          clear hb3
          cases hu : unlikeB dt q
          · have HN : Hid (trieFault ix dt = 1) := hide (trie_no4 (by rw [unhide HQ]; intro e; rw [unlikeB_yes e] at hu; cases hu))
            go_wp2
            go_ret
            exact ⟨ret_int (unhide HN).symm, unhide HB3⟩
          · have HU : Hid (Unlike dt q) := hide (Classical.byContradiction fun hn => by rw [unlikeB_no hn] at hu; cases hu)
            have HN : Hid (trieFault ix dt = 0) := hide (trieFault_ok ⟨unhide HC, by have := unhide HR; have := unhide HZ; omega, by have := unhide HQ; omega, by rw [unhide HQ]; exact unhide HU, by rw [unhide HQ]; exact unhide HT⟩)
            go_wp2
            go_ret
            exact ⟨ret_int (unhide HN).symm, unhide HB3⟩
    · have c2' : ((r : Int) != 0) = true := by simp; omega
      have HN : Hid (trieFault ix dt = 1) := hide (trie_no2 (by omega))
      clear hq hr c1 c2
      go_enter Tryd.func11, Tryd.ntmps11
      go_wp2
      go_ret
      exact ⟨ret_int (unhide HN).symm, unhide HB1 _⟩
  · have c1' : ((ix.length : Int) != 512) = true := by simp; omega
    have HN : Hid (trieFault ix dt = 1) := hide (trie_no1 c1)
    clear hq hr c1
    go_enter Tryd.func11, Tryd.ntmps11
    go_wp2
    go_ret
    exact ⟨ret_int (unhide HN).symm, unhide HB1 _⟩
end Go.Proofs.YtjncfkcpjjnmdaaDoor
