/- Several texts in one. -/
import Derived.Test.YtjncfkcpjjnmdaaDoorUnlA
import Derived.Test.YtjncfkcpjjnmdaaDoorSpnF
import Derived.ProofKit
import Derived.OpenShut
import Derived.ShutString
import Derived.ChangeOld
import Derived.Deep.Slices
/- Is a trie right? The specification's answer. -/
namespace Go.Proofs.YtjncfkcpjjnmdaaDoor
open Go.RowKit
theorem box2 (w : World) (x y : Value) (t : TypeId) : (w.alloc (.cells #[x, y] t)).cell? ⟨w.heap.size, 0, none⟩ = some x ∧ (w.alloc (.cells #[x, y] t)).cell? ⟨w.heap.size, 1, none⟩ = some y := by
  constructor <;> simp
theorem DatAt.alloc {w : World} {v : Value} {l : List Int} (h : DatAt w w.heap.size v l) (o : Obj) : DatAt (w.alloc o) (w.alloc o).heap.size v l := by
  obtain ⟨a, cap, e, hc, hd⟩ := h
  refine ⟨a, cap, e, hc, hd.imp_right ?_⟩
  rintro ⟨b, off, e2, hb, hcell⟩
  exact ⟨b, off, e2, by simp; omega, fun i hi => cell_alloc (hcell i hi) o⟩
set_option maxHeartbeats 4000000 in
set_option maxRecDepth 100000 in
theorem specTF (vi vd : Value) (ix dt : List Int) (w : World) (hi : DatAt w w.heap.size vi ix) (hd : DatAt w w.heap.size vd dt) (li : ix.length ≤ 1048576) (ld : dt.length ≤ 1048576) :
    Calls Tryd.prog 32 #[.agg #[vi, vd]] w fun e w' => e = .returned (.int .i64 (trieFault ix dt)) ∧ Below w.heap.size w w' := by
  have HI := hide hi
  have HD := hide hd
  obtain ⟨ai, ci, rfl, _, hx1⟩ := hi
  obtain ⟨ad, cd, rfl, hcap, hx2⟩ := hd
  clear hx1 hx2
  have HB1 : Hid (∀ o, Below w.heap.size w (w.alloc o)) := hide (fun o => (Below.refl _ _).alloc (Nat.le_refl _) o)
  obtain ⟨q, hq⟩ : ∃ q : Nat, dt.length / 64 = q := ⟨_, rfl⟩
  obtain ⟨r, hr⟩ : ∃ r : Nat, dt.length % 64 = r := ⟨_, rfl⟩
  have eq : (dt.length : Int).tdiv 64 = (q : Int) := by rw [Int.tdiv_eq_ediv_of_nonneg (by omega)]; omega
  have er : (dt.length : Int).tmod 64 = (r : Int) := by rw [Int.tmod_eq_emod_of_nonneg (by omega)]; omega
  have hq' : (q : Int) ≤ 16384 := by omega
  by_cases c1 : ix.length = 512
  · have c1' : ((ix.length : Int) != 512) = false := by simp; omega
    by_cases c2 : r = 0
    · have c2' : ((r : Int) != 0) = false := by simp; omega
      by_cases c3 : 512 < q
      · have c3' : (512 : Int) < (q : Int) := by omega
        have HN : Hid (trieFault ix dt = 1) := hide (trie_no3 (by omega))
        have HC := hide c1
        clear hq hr c1 c2
        go_enter Tryd.func32, Tryd.ntmps32
        go_wp2
        go_ret
        exact ⟨ret_int (unhide HN).symm, unhide HB1 _⟩
      · have c3' : ¬ (512 : Int) < (q : Int) := by omega
        have HL : Hid (dt.length = q * 64) := hide (by omega)
        have HC := hide c1
        have HQ := hide hq
        have HR := hide hr
        have HZ := hide c2
        clear hq hr c1 c2
        go_enter Tryd.func32, Tryd.ntmps32
        go_upto_region 4 with fail
        have HBw : Hid (Below w.heap.size w (w.alloc (.cells #[.slice ai ix.length ci, .slice ad dt.length cd] 28))) := hide (unhide HB1 _)
        have b0 := (box2 w (.slice ai ix.length ci) (.slice ad dt.length cd) 28).1
        have b1 := (box2 w (.slice ai ix.length ci) (.slice ad dt.length cd) 28).2
        have HI1 : Hid (DatAt (w.alloc (.cells #[.slice ai ix.length ci, .slice ad dt.length cd] 28)) (w.alloc (.cells #[.slice ai ix.length ci, .slice ad dt.length cd] 28)).heap.size (.slice ai ix.length ci) ix) := hide ((unhide HI).alloc _)
        have HD1 : Hid (DatAt (w.alloc (.cells #[.slice ai ix.length ci, .slice ad dt.length cd] 28)) (w.alloc (.cells #[.slice ai ix.length ci, .slice ad dt.length cd] 28)).heap.size (.slice ad dt.length cd) dt) := hide ((unhide HD).alloc _)
        generalize w.alloc (.cells #[.slice ai ix.length ci, .slice ad dt.length cd] 28) = w1 at *
        clear HI HD HB1
        go_wp2
        go_loopw [4] (fun a wr => ∃ k n : Nat, k ≤ q ∧ a = .int .i64 k ∧ wr = w1.drewN n ∧ Hid (Unlike dt k)) (fun a _ => q - (intOf a).toNat)
        case atStart => exact ⟨0, 0, Nat.zero_le _, rfl, rfl, hide (fun i j a b => by omega)⟩
        case round =>
          obtain ⟨k, n, hk, rfl, rfl, HU⟩ := hrel
          by_cases hlt : k < q
          · have hlt' : (k : Int) < (q : Int) := by omega
            have hlen : 0 < dt.length := by have := unhide HL; omega
            obtain ⟨ad', cap', hv, _, hx⟩ := unhide HD1
            simp only [Value.slice.injEq] at hv
            obtain ⟨rfl, _, rfl⟩ := hv
            rcases hx with e | ⟨b, off, rfl, hbl, hcell⟩
            · rw [e] at hlen; simp at hlen
            have HK := hide (fun i (hi : i < q) cap => (blk_cell (cap := cap) hbl hcell q i (unhide HL) hi).ints (Nat.le_refl _))
            clear hcell
            have hA : (k + 1) * 64 ≤ dt.length := by rw [unhide HL]; exact Nat.mul_le_mul_right 64 hlt
            go_wp2
            go_loopw [5] (fun bb wr => ∃ m n2 : Nat, m ≤ k ∧ bb = .int .i64 m ∧ wr = w1.drewN n2 ∧ Hid (∀ j, j < m → blk dt k ≠ blk dt j)) (fun bb _ => k - (intOf bb).toNat)
            case atStart => exact ⟨0, n, Nat.zero_le _, rfl, rfl, hide (fun j hj => by omega)⟩
            case round =>
              obtain ⟨m, n2, hm, rfl, rfl, HV⟩ := hrel
              by_cases hmk : m < k
              · have hmk' : (m : Int) < (k : Int) := by omega
                have hAm : (m + 1) * 64 ≤ dt.length := Nat.le_trans (Nat.mul_le_mul_right 64 (by omega)) hA
                have ek : (k + 1) * 64 - k * 64 = 64 := by omega
                have em : (m + 1) * 64 - m * 64 = 64 := by omega
                have HCall : Hid (∀ x, Calls Tryd.prog 35 #[.slice (some ⟨b, off + k * 64, none⟩) ((k + 1) * 64 - k * 64) (cd - k * 64), .slice (some ⟨b, off + m * 64, none⟩) ((m + 1) * 64 - m * 64) (cd - m * 64)] ((w1.drewN n2).drewN x) fun e w' => e = .returned (.bool (sameB (blk dt k) (blk dt m))) ∧ ∃ y, w' = ((w1.drewN n2).drewN x).drewN y) := hide (fun x => by
                  rw [ek, em]
                  have i1 := (unhide HK) k hlt (cd - k * 64)
                  have i2 := (unhide HK) m (by omega) (cd - m * 64)
                  have l1 := blk_len dt k q (unhide HL) hlt
                  have l2 := blk_len dt m q (unhide HL) (by omega)
                  exact same_any _ _ _ _ _ ((i1.drewN n2).drewN x) ((i2.drewN n2).drewN x) (by omega) (by omega))
                clear ek em
                have wk1 : IntKind.i64.wrap ((k : Int) * 64) = (k : Int) * 64 := wrap_in _ (by omega) (by omega)
                have wk2 : IntKind.i64.wrap ((k : Int) + 1) = (k : Int) + 1 := wrap_in _ (by omega) (by omega)
                have wk3 : IntKind.i64.wrap (((k : Int) + 1) * 64) = ((k : Int) + 1) * 64 := wrap_in _ (by omega) (by omega)
                have wm1 : IntKind.i64.wrap ((m : Int) * 64) = (m : Int) * 64 := wrap_in _ (by omega) (by omega)
                have wm2 : IntKind.i64.wrap ((m : Int) + 1) = (m : Int) + 1 := wrap_in _ (by omega) (by omega)
                have wm3 : IntKind.i64.wrap (((m : Int) + 1) * 64) = ((m : Int) + 1) * 64 := wrap_in _ (by omega) (by omega)
                have sk1 : (0 : Int) ≤ (k : Int) * 64 := by omega
                have sk2 : (k : Int) * 64 ≤ ((k : Int) + 1) * 64 := by omega
                have sk3 : ((k : Int) + 1) * 64 ≤ (cd : Int) := by omega
                have sk4 : ((k : Int) * 64).toNat = k * 64 := by omega
                have sk5 : (((k : Int) + 1) * 64).toNat = (k + 1) * 64 := by omega
                have sm1 : (0 : Int) ≤ (m : Int) * 64 := by omega
                have sm2 : (m : Int) * 64 ≤ ((m : Int) + 1) * 64 := by omega
                have sm3 : ((m : Int) + 1) * 64 ≤ (cd : Int) := by omega
                have sm4 : ((m : Int) * 64).toNat = m * 64 := by omega
                have sm5 : (((m : Int) + 1) * 64).toNat = (m + 1) * 64 := by omega
                have sk6 : (0 : Int) ≤ ((k : Int) + 1) * 64 := by omega
                have sk7 : (k : Int) ≤ (k : Int) + 1 := by omega
                have sk8 : ¬ cd = k * 64 := by omega
                have sm6 : (0 : Int) ≤ ((m : Int) + 1) * 64 := by omega
                have sm7 : (m : Int) ≤ (m : Int) + 1 := by omega
                have sm8 : ¬ cd = m * 64 := by omega
                have b1' : (w1.drewN n2).cell? ⟨w.heap.size, 1, none⟩ = some (.slice (some ⟨b, off, none⟩) dt.length cd) := b1
                have HBw2 : Hid (Below w.heap.size w (w1.drewN n2)) := hide (bdrew (unhide HBw) _)
                have HW2 : Hid (∀ x, (w1.drewN n2).drewN x = w1.drewN (n2 + x)) := hide (fun x => drewN_add _ _ _)
                generalize w1.drewN n2 = w2 at *
                cases hsb : sameB (blk dt k) (blk dt m)
                · have HV' : Hid (∀ j, j < m + 1 → blk dt k ≠ blk dt j) := hide (fun j hj => by
                    by_cases e : j = m
                    · rw [e]; exact (sameB_not _ _).1 hsb
                    · exact unhide HV j (by omega))
                  rw [hsb] at HCall
                  go_upto_region 10 with fail
                  go_quiet (first | (go_at_call 35; refine Calls.quiet_of ((unhide HCall) _)))
                  go_wp2
                  go_roundw
                  case rel => exact ⟨m + 1, _, by omega, by go_num, unhide HW2 _, HV'⟩
                  case measure => simp [intOf]; omega
                · have HN : Hid (trieFault ix dt = 1) := hide (trie_no4 (fun hu => by rw [unhide HQ] at hu; exact hu m k hmk hlt ((sameB_iff _ _).1 hsb).symm))
                  rw [hsb] at HCall
                  go_upto_region 10 with fail
                  go_quiet (first | (go_at_call 35; refine Calls.quiet_of ((unhide HCall) _)))
                  go_wp2
                  go_ret
                  exact ⟨ret_int (unhide HN).symm, bdrew (unhide HBw2) _⟩
              · obtain rfl : m = k := by omega
                have HU' : Hid (Unlike dt (m + 1)) := hide (fun i j hij hj => by
                  by_cases e : j = m
                  · subst e; exact fun h => unhide HV i hij h.symm
                  · exact unhide HU i j hij (by omega))
                go_wp2
                go_roundw
                case rel => exact ⟨m + 1, n2, by omega, by go_num, rfl, HU'⟩
                case measure => simp [intOf]; omega
          · obtain rfl : k = q := by omega
            go_wp2
            go_loop [6, 7] (fun nx i => ∃ (j : Nat) (m : Int), j ≤ ix.length ∧ 0 ≤ m ∧ m ≤ j ∧ i = .int .i64 j ∧ nx = .int .i64 m ∧ Hid (turns 0 ix = turnAt ix j m)) (fun _ i => ix.length - (intOf i).toNat)
            case atStart => exact ⟨0, 0, Nat.zero_le _, by omega, by omega, rfl, rfl, hide rfl⟩
            case round =>
              obtain ⟨j, m, hj, hm0, hmj, rfl, rfl, HT⟩ := hrel
              by_cases hjl : j < ix.length
              · obtain ⟨ai', cap', hv, _, hx⟩ := unhide HI1
                simp only [Value.slice.injEq] at hv
                obtain ⟨rfl, _, rfl⟩ := hv
                rcases hx with e | ⟨b, off, rfl, hbl, hcell⟩
                · rw [e] at hjl; simp at hjl
                have d1 := hcell j hjl
                have i1 : (j : Int) < (ix.length : Int) := by omega
                have HS := hide (turnAt_step ix j m hjl)
                clear hcell
                generalize nth ix j = x at *
                by_cases q1 : x < 0
                · have HN : Hid (trieFault ix dt = 1) := hide (trie_no5 (by rw [unhide HT, unhide HS, if_pos (.inl q1)]; intro e; cases e))
                  go_wp2
                  go_ret
                  exact ⟨ret_int (unhide HN).symm, bdrew (unhide HBw) _⟩
                · by_cases q2 : m < x
                  · have HN : Hid (trieFault ix dt = 1) := hide (trie_no5 (by rw [unhide HT, unhide HS, if_pos (.inr q2)]; intro e; cases e))
                    go_wp2
                    go_ret
                    exact ⟨ret_int (unhide HN).symm, bdrew (unhide HBw) _⟩
                  · by_cases q3 : x = m
                    · have HN : Hid (turns 0 ix = turnAt ix (j + 1) (m + 1)) := hide (by rw [unhide HT, unhide HS, if_neg (by omega), if_pos q3])
                      subst q3
                      have q3' : (x == x) = true := by simp
                      go_wp2
                      go_round
                      case rel => exact ⟨j + 1, x + 1, by omega, by omega, by omega, by go_num, by go_num, HN⟩
                      case measure => simp [intOf]; omega
                    · have HN : Hid (turns 0 ix = turnAt ix (j + 1) m) := hide (by rw [unhide HT, unhide HS, if_neg (by omega), if_neg q3])
                      have q3' : (x == m) = false := by simpa using q3
                      clear q3
                      go_wp2
                      go_round
                      case rel => exact ⟨j + 1, m, by omega, by omega, by omega, by go_num, by go_num, HN⟩
                      case measure => simp [intOf]; omega
              · have HM : Hid (turns 0 ix = some m) := hide (by rw [unhide HT, turnAt_end ix j m hjl])
                by_cases hmq : m = (k : Int)
                · have HN : Hid (trieFault ix dt = 0) := hide (trieFault_ok ⟨unhide HC, by have := unhide HR; have := unhide HZ; omega, by have := unhide HQ; omega, by rw [unhide HQ]; exact unhide HU, by rw [unhide HQ, unhide HM, hmq]⟩)
                  subst hmq
                  have hmq' : ((k : Int) != (k : Int)) = false := by simp
                  go_wp2
                  go_ret
                  exact ⟨ret_int (unhide HN).symm, bdrew (unhide HBw) _⟩
                · have HN : Hid (trieFault ix dt = 1) := hide (trie_no5 (by rw [unhide HQ, unhide HM]; intro e; injection e with e; exact hmq e))
                  have hmq' : (m != (k : Int)) = true := by simpa using hmq
                  clear hmq
                  go_wp2
                  go_ret
                  exact ⟨ret_int (unhide HN).symm, bdrew (unhide HBw) _⟩
    · have c2' : ((r : Int) != 0) = true := by simp; omega
      have HN : Hid (trieFault ix dt = 1) := hide (trie_no2 (by omega))
      clear hq hr c1 c2
      go_enter Tryd.func32, Tryd.ntmps32
      go_wp2
      go_ret
      exact ⟨ret_int (unhide HN).symm, unhide HB1 _⟩
  · have c1' : ((ix.length : Int) != 512) = true := by simp; omega
    have HN : Hid (trieFault ix dt = 1) := hide (trie_no1 c1)
    clear hq hr c1
    go_enter Tryd.func32, Tryd.ntmps32
    go_wp2
    go_ret
    exact ⟨ret_int (unhide HN).symm, unhide HB1 _⟩
end Go.Proofs.YtjncfkcpjjnmdaaDoor
/- Arguments that hold spans, opened. -/
namespace Go.Proofs.YtjncfkcpjjnmdaaDoor
open Go.ChangeShapes Go.WideShapes Go.ChangeAt Go.RowKit Go.Deep
section
variable {H : Type} {enc : TypeId × Value → H} {w : World} {base : Nat} {spare : Nat → Bool} {held : Bool}
theorem int_cells : Tryd.prog.cellsOf 2 = 1 := by kernel_rfl
theorem addr_add (b off i : Nat) : (⟨b, off, none⟩ : Addr).add i = ⟨b, off + i, none⟩ := by unfold Addr.add; split <;> simp_all
theorem add_spot {w : World} {a : Addr} {v : Value} (h : w.cell? (a.add 0) = some v) : ∃ b off, a = ⟨b, off, none⟩ := by
  obtain ⟨b, off, spot⟩ := a
  have hspot : spot = none := by simpa [Addr.add] using World.cell?_spot h
  exact ⟨b, off, by rw [hspot]⟩
end
end Go.Proofs.YtjncfkcpjjnmdaaDoor
/- Tries as arguments: opened, copied, held against each other. -/
namespace Go.Proofs.YtjncfkcpjjnmdaaDoor
open Go.ChangeShapes Go.WideShapes Go.ChangeAt Go.RowKit Go.Deep
/-- Two cells of a box. -/
def Box (w : World) (g : Nat) (x y : Value) : Prop := (w.cell? ⟨g, 0, none⟩ = some x ∧ w.cell? ⟨g, 1, none⟩ = some y) ∧ w.frozen? ⟨g, 0, none⟩ = false ∧ w.frozen? ⟨g, 1, none⟩ = false
theorem Box.below {w w' : World} {g : Nat} {x y : Value} (h : Box w g x y) (hb : Below w.heap.size w w') : Box w' g x y := by
  have hg : g < w.heap.size := block_lt_of_cell (a := ⟨g, 0, none⟩) h.1.1
  have e := hb.block g hg
  exact ⟨⟨(World.cell?_of_block (a := ⟨g, 0, none⟩) e).trans h.1.1, (World.cell?_of_block (a := ⟨g, 1, none⟩) e).trans h.1.2⟩, (World.frozen?_of_block (a := ⟨g, 0, none⟩) e).trans h.2.1, (World.frozen?_of_block (a := ⟨g, 1, none⟩) e).trans h.2.2⟩
theorem Box.lt {w : World} {g : Nat} {x y : Value} (h : Box w g x y) : g < w.heap.size := block_lt_of_cell (a := ⟨g, 0, none⟩) h.1.1
theorem Box.new (w : World) (x y : Value) (t : TypeId) : Box (w.alloc (.cells #[x, y] t)) w.heap.size x y := ⟨box2 w x y t, by simp, by simp⟩
theorem Box.alloc {w : World} {g : Nat} {x y : Value} (h : Box w g x y) (o : Obj) : Box (w.alloc o) g x y := h.below ((Below.refl _ _).alloc (Nat.le_refl _) o)
theorem Box.other {w : World} {g g' j : Nat} {x y u : Value} (h : Box w g x y) (hne : g ≠ g') : Box (w.setCell ⟨g', j, none⟩ u) g x y := by
  have e : (w.setCell ⟨g', j, none⟩ u).heap[g]? = w.heap[g]? := heap_setCell_other w ⟨g', j, none⟩ g u hne
  exact ⟨⟨(World.cell?_of_block (a := ⟨g, 0, none⟩) e).trans h.1.1, (World.cell?_of_block (a := ⟨g, 1, none⟩) e).trans h.1.2⟩, (World.frozen?_of_block (a := ⟨g, 0, none⟩) e).trans h.2.1, (World.frozen?_of_block (a := ⟨g, 1, none⟩) e).trans h.2.2⟩
theorem Box.set0 {w : World} {g : Nat} {x y u : Value} (h : Box w g x y) : Box (w.setCell ⟨g, 0, none⟩ u) g u y :=
  ⟨⟨World.cell?_setCell_same _ _ _ h.1.1, (World.cell?_setCell_other _ _ _ _ (by simp)).trans h.1.2⟩, by rw [World.frozen?_setCell]; exact h.2.1, by rw [World.frozen?_setCell]; exact h.2.2⟩
theorem Box.set1 {w : World} {g : Nat} {x y u : Value} (h : Box w g x y) : Box (w.setCell ⟨g, 1, none⟩ u) g x u :=
  ⟨⟨(World.cell?_setCell_other _ _ _ _ (by simp)).trans h.1.1, World.cell?_setCell_same _ _ _ h.1.2⟩, by rw [World.frozen?_setCell]; exact h.2.1, by rw [World.frozen?_setCell]; exact h.2.2⟩
theorem DatAt.below {w w' : World} {v : Value} {l : List Int} (h : DatAt w w.heap.size v l) (hb : Below w.heap.size w w') : DatAt w' w'.heap.size v l := by
  obtain ⟨a, cap, e, hc, hd⟩ := h.same hb.block
  refine ⟨a, cap, e, hc, hd.imp_right ?_⟩
  rintro ⟨b, off, e2, hb', hcell⟩
  exact ⟨b, off, e2, by have := hb.size; omega, hcell⟩
theorem DatAt.set {w : World} {g n c R j : Nat} {u : Value} {l : List Int} (h : DatAt w w.heap.size (.slice (some ⟨g, 0, none⟩) n c) l) (hne : g ≠ R) : DatAt (w.setCell ⟨R, j, none⟩ u) (w.setCell ⟨R, j, none⟩ u).heap.size (.slice (some ⟨g, 0, none⟩) n c) l := by
  obtain ⟨a, cap, e, hc, hd⟩ := h
  refine ⟨a, cap, e, hc, hd.imp_right ?_⟩
  rintro ⟨b, off, e2, hb, hcell⟩
  have hgb : b = g := by
    rw [e2] at e
    simp only [Value.slice.injEq, Option.some.injEq, Addr.mk.injEq] at e
    exact e.1.1.symm
  refine ⟨b, off, e2, by simp; omega, fun i hi => ?_⟩
  exact (World.cell?_of_block (a := ⟨b, off + i, none⟩) (heap_setCell_other w ⟨R, j, none⟩ b u (by show b ≠ R; omega))).trans (hcell i hi)
/-- What is left behind the two rows. -/
def szL (n1 n2 : Nat) : Int := if (1048576 : Int) < n1 + n2 then -1 else 1048576 - n1 - n2
end Go.Proofs.YtjncfkcpjjnmdaaDoor
/- Tries held against each other; what a trie tells of a point; the laws of TrieFault and TrieAt. -/
namespace Go.Proofs.YtjncfkcpjjnmdaaDoor
open Go.ChangeShapes Go.WideShapes Go.ChangeAt Go.RowKit Go.Deep
theorem sameB_self (l : List Int) : sameB l l = true := by simp [sameB]
theorem ints_of_trod {H : Type} {enc : TypeId × Value → H} {w : World} {held : Bool} {base fuel : Nat} {v : Value} {y : DataW H × List MemPlace} (hf : DataW.trod enc Tryd.prog w base (fun _ => true) held fuel 26 [v] = some y) : ∃ l, IntsAt w v l ∧ l.length ≤ maxLen := by
  rcases open_ints Tryd.underlying26 Tryd.underlying2 int_cells hf with ⟨hcs, _⟩ | ⟨x, len, cap, zs, hcs, _, hl, hm, hz, _, hcell, _⟩
  · simp at hcs
    subst hcs
    exact ⟨[], ⟨none, 0, rfl, .inl rfl⟩, by simp⟩
  · simp at hcs
    subst hcs
    have hz' : zs.length = cap := by simpa using hz
    have hlen : (zs.take len).length = len := by simp; omega
    refine ⟨zs.take len, ⟨some x, cap, by rw [hlen], ?_⟩, by rw [hlen]; omega⟩
    by_cases h0 : len = 0
    · exact .inl (List.length_eq_zero_iff.1 (by omega))
    · obtain ⟨b, off, rfl⟩ := add_spot (hcell 0 (by omega))
      have hb := block_lt_of_cell (hcell 0 (by omega))
      rw [addr_add] at hb
      refine .inr ⟨b, off, rfl, hb, fun i hi => ?_⟩
      have := hcell i (by omega)
      rw [addr_add] at this
      rw [this]
      have e : nth (zs.take len) i = zs.getD i 0 := by simp [nth, List.getD, show i < len by omega]
      rw [e]
theorem ints_cells : Tryd.prog.cellsOf 26 = 1 := by kernel_rfl
theorem bdrew1 {B : Nat} {a w : World} (h : Below B a w) : Below B a w.drew := h.trans ⟨rfl, rfl, rfl, Nat.le_refl _, fun _ _ => rfl⟩
end Go.Proofs.YtjncfkcpjjnmdaaDoor
/- What a trie tells of a point; the law of TrieAt. -/
namespace Go.Proofs.YtjncfkcpjjnmdaaDoor
open Go.RowKit
theorem ok_ix {ix dt : List Int} (h : TrieOk ix dt) (p : Nat) (hp : p < 32768) : ∃ x : Nat, nth ix (p / 64) = (x : Int) ∧ x < 512 ∧ x * 64 + p % 64 < dt.length ∧ nth dt (x * 64 + p % 64) = atP ix dt p := by
  obtain ⟨h1, h2, h3, _, h5⟩ := h
  have hb := (turns_bd ix 0 _ h5).2 (p / 64) (by omega)
  have hn : nth ix (p / 64) = ix.getD (p / 64) 0 := rfl
  rw [← hn] at hb
  refine ⟨(nth ix (p / 64)).toNat, by omega, by omega, by omega, ?_⟩
  rfl
theorem DatAt.at {w : World} {B : Nat} {a : Option Addr} {c : Nat} {l : List Int} (h : DatAt w B (.slice a l.length c) l) (hl : 0 < l.length) : ∃ b off, a = some ⟨b, off, none⟩ ∧ ∀ i, i < l.length → w.cell? ⟨b, off + i, none⟩ = some (.int .i64 (nth l i)) := by
  obtain ⟨a', cap, e, _, hd⟩ := h
  simp only [Value.slice.injEq] at e
  rcases hd with hn | ⟨b, off, e2, _, hc⟩
  · rw [hn] at hl; simp at hl
  · exact ⟨b, off, e.1.trans e2, hc⟩
set_option maxHeartbeats 2000000 in
theorem valueAt_any (vi vd : Value) (ix dt : List Int) (p : Nat) (w : World) (hi : DatAt w w.heap.size vi ix) (hd : DatAt w w.heap.size vd dt) (_ : ix.length ≤ 1048576) (ld : dt.length ≤ 1048576) (ho : TrieOk ix dt) (hp : p < 32768) :
    Calls Tryd.prog 27 #[.agg #[vi, vd], .int .i64 p] w fun e w' => e = .returned (.int .i64 (atP ix dt p)) ∧ Below w.heap.size w w' := by
  obtain ⟨x, hx, hx5, hxl, hxv⟩ := ok_ix ho p hp
  have h512 := ho.1
  obtain ⟨ai, ci, rfl, _, _⟩ := id hi
  obtain ⟨ad, cd, rfl, _, _⟩ := id hd
  obtain ⟨b1, o1, rfl, k1⟩ := hi.at (by omega)
  obtain ⟨b2, o2, rfl, k2⟩ := hd.at (by omega)
  have d1 := cell_alloc (k1 (p / 64) (by omega))
  have d2 := cell_alloc (k2 (x * 64 + p % 64) hxl)
  rw [hx] at d1
  rw [hxv] at d2
  have HB1 : Hid (∀ o, Below w.heap.size w (w.alloc o)) := hide (fun o => (Below.refl _ _).alloc (Nat.le_refl _) o)
  obtain ⟨q, hq⟩ : ∃ q : Nat, p / 64 = q := ⟨_, rfl⟩
  obtain ⟨r, hr⟩ : ∃ r : Nat, p % 64 = r := ⟨_, rfl⟩
  have eq : (p : Int).tdiv 64 = (q : Int) := by rw [Int.tdiv_eq_ediv_of_nonneg (by omega)]; omega
  have er : (p : Int).tmod 64 = (r : Int) := by rw [Int.tmod_eq_emod_of_nonneg (by omega)]; omega
  rw [hq] at d1
  rw [hr] at d2 hxl
  have hqi : (q : Int) < (ix.length : Int) := by omega
  have hqn : q < ix.length := by omega
  have hxi : (x : Int) * 64 + (r : Int) < (dt.length : Int) := by omega
  have w1 : IntKind.i64.wrap (q : Int) = (q : Int) := wrap_in _ (by omega) (by omega)
  have w2 : IntKind.i64.wrap ((x : Int) * 64) = (x : Int) * 64 := wrap_in _ (by omega) (by omega)
  have w3 : IntKind.i64.wrap (r : Int) = (r : Int) := wrap_in _ (by omega) (by omega)
  have w4 : IntKind.i64.wrap ((x : Int) * 64 + (r : Int)) = (x : Int) * 64 + (r : Int) := wrap_in _ (by omega) (by omega)
  have t1 : ((x : Int) * 64 + (r : Int)).toNat = x * 64 + r := by omega
  have t2 : (0 : Int) ≤ (x : Int) * 64 + (r : Int) := by omega
  clear hx hxv hq hr k1 k2 hi hd h512 ho
  generalize atP ix dt p = z at *
  go_enter Tryd.func27, Tryd.ntmps27
  go_upto_region 1 with fail
  go_quiet (fail)
  go_wp2
  go_ret
  exact ⟨rfl, bdrew (unhide HB1 _) _⟩
def tellsAt (ix dt : List Int) (p : Int) : Int := if trieFault ix dt = 0 ∧ 0 ≤ p ∧ p ≤ 32767 then atP ix dt p.toNat else 0
theorem tellsAt_yes {ix dt : List Int} {p : Int} (h : TrieOk ix dt ∧ 0 ≤ p ∧ p ≤ 32767) : tellsAt ix dt p = atP ix dt p.toNat := if_pos ⟨trieFault_ok h.1, h.2⟩
theorem tellsAt_no {ix dt : List Int} {p : Int} (h : ¬ (TrieOk ix dt ∧ 0 ≤ p ∧ p ≤ 32767)) : tellsAt ix dt p = 0 := if_neg fun g => h ⟨by
  by_cases ho : TrieOk ix dt
  · exact ho
  · rw [trieFault_no ho] at g
    exact absurd g.1 (by decide), g.2⟩
set_option maxHeartbeats 2000000 in
theorem implTA (vi vd : Value) (ix dt : List Int) (p : Int) (w : World) (hi : DatAt w w.heap.size vi ix) (hd : DatAt w w.heap.size vd dt) (li : ix.length ≤ 1048576) (ld : dt.length ≤ 1048576) :
    Calls Tryd.prog 12 #[.agg #[vi, vd], .int .i64 p] w fun e w' => e = .returned (.int .i64 (tellsAt ix dt p)) ∧ Below w.heap.size w w' := by
  have HI := hide hi
  have HD := hide hd
  obtain ⟨ai, ci, rfl, _, _⟩ := hi
  obtain ⟨ad, cd, rfl, _, _⟩ := hd
  have HB1 : Hid (∀ o, Below w.heap.size w (w.alloc o)) := hide (fun o => (Below.refl _ _).alloc (Nat.le_refl _) o)
  by_cases c1 : p < 0
  · have HN : Hid (tellsAt ix dt p = 0) := hide (tellsAt_no (by omega))
    go_enter Tryd.func12, Tryd.ntmps12
    go_wp2
    go_ret
    exact ⟨ret_int (unhide HN).symm, unhide HB1 _⟩
  · by_cases c2 : 32767 < p
    · have HN : Hid (tellsAt ix dt p = 0) := hide (tellsAt_no (by omega))
      go_enter Tryd.func12, Tryd.ntmps12
      go_wp2
      go_ret
      exact ⟨ret_int (unhide HN).symm, unhide HB1 _⟩
    · obtain ⟨n, rfl⟩ : ∃ n : Nat, p = (n : Int) := ⟨p.toNat, by omega⟩
      by_cases ho : TrieOk ix dt
      · have hf := trieFault_ok ho
        have HN : Hid (tellsAt ix dt (n : Int) = atP ix dt n) := hide (tellsAt_yes ⟨ho, by omega, by omega⟩)
        have HO := hide ho
        clear ho
        go_enter Tryd.func12, Tryd.ntmps12
        go_upto_region 1 with fail
        have X1 := hide (Box.new w (.slice ai ix.length ci) (.slice ad dt.length cd) 28)
        have P1 := hide ((unhide HI).alloc (.cells #[.slice ai ix.length ci, .slice ad dt.length cd] 28))
        have Q1 := hide ((unhide HD).alloc (.cells #[.slice ai ix.length ci, .slice ad dt.length cd] 28))
        have W1 := hide (unhide HB1 (.cells #[.slice ai ix.length ci, .slice ad dt.length cd] 28))
        clear HI HD HB1
        generalize w.alloc (.cells #[.slice ai ix.length ci, .slice ad dt.length cd] 28) = w1 at *
        obtain ⟨⟨x0, x1⟩, _, _⟩ := unhide X1
        go_wp2_with fail
        refine (implTF _ _ ix dt _ (unhide P1) (unhide Q1) li ld).mono ?_
        rintro e w2 ⟨rfl, hb⟩
        rw [hf]
        have P2 := hide ((unhide P1).below hb)
        have Q2 := hide ((unhide Q1).below hb)
        have X2 := hide ((unhide X1).below hb)
        have W2 := hide ((unhide W1).trans (hb.mono (unhide W1).size))
        clear hb P1 Q1 X1 W1 x0 x1
        obtain ⟨⟨x0, x1⟩, _, _⟩ := unhide X2
        go_wp2_with fail
        refine (valueAt_any _ _ ix dt n _ (unhide P2) (unhide Q2) li ld (unhide HO) (by omega)).mono ?_
        rintro e w3 ⟨rfl, hb⟩
        have W3 := hide ((unhide W2).trans (hb.mono (unhide W2).size))
        clear hb
        go_wp2
        go_ret
        exact ⟨ret_int (unhide HN).symm, unhide W3⟩
      · have hf := trieFault_no ho
        have HN : Hid (tellsAt ix dt (n : Int) = 0) := hide (tellsAt_no (fun h => ho h.1))
        clear ho
        go_enter Tryd.func12, Tryd.ntmps12
        go_wp2_with fail
        refine (implTF _ _ ix dt _ ((unhide HI).alloc _) ((unhide HD).alloc _) li ld).mono ?_
        rintro e w2 ⟨rfl, hb⟩
        rw [hf]
        have W2 := hide ((unhide HB1 _).trans (hb.mono (unhide HB1 _).size))
        clear hb
        go_wp2
        go_ret
        exact ⟨ret_int (unhide HN).symm, unhide W2⟩
end Go.Proofs.YtjncfkcpjjnmdaaDoor
