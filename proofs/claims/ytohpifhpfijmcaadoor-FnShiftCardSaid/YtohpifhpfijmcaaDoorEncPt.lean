/- Points and bytes: what the walks of chapter 4 share. -/
import Derived.Test.YtohpifhpfijmcaaDoorPointsC
import Derived.Test.YtohpifhpfijmcaaDoorTextB
import Derived.Lib.OthersKept
namespace Go.Proofs.YtohpifhpfijmcaaDoor
open Go.RowKit
theorem dec_pt (size pos b0 b1 b2 b3 : Nat) (hb : b0 < 256) : isPt ((dec size pos b0 b1 b2 b3).1 : Int) = true := by
  rw [isPt_iff]
  unfold dec
  repeat' split
  all_goals simp only []
  all_goals omega
theorem dP_pt (s : ByteArray) (pos : Nat) : isPt (dP s pos : Int) = true := by
  unfold dP; rw [decode_dec]; exact dec_pt _ _ _ _ _ _ (bt_lt _ _)
theorem steps_pt (s : ByteArray) (n : Nat) : ∀ x ∈ (steps s n).1, isPt x = true := by
  induction n with
  | zero => simp [steps]
  | succ n ih =>
    unfold steps
    split
    · intro x hx
      simp only [List.mem_append, List.mem_singleton] at hx
      rcases hx with hx | hx
      · exact ih x hx
      · rw [hx]; exact dP_pt _ _
    · exact ih
theorem pts_pt (s : ByteArray) : ∀ x ∈ pts s, isPt x = true := steps_pt s s.size
theorem row_cells {w : World} {base g n c : Nat} {xs : List Value} (h : w.ownsRow base 5 1 (.slice (some ⟨g, 0, none⟩) n c) n xs) : ∀ j u, xs[j]? = some u → w.cell? ((⟨g, 0, none⟩ : Addr).add j) = some u := by
  intro j u hj
  have hl : j < xs.length := (List.getElem?_eq_some_iff.1 hj).1
  have hn : xs.length = n * 1 := h.1
  have hc := h.cellAt j (by omega)
  rw [hj] at hc
  rw [← hc]
  by_cases e : j = 0
  · subst e; simp [Addr.add]
  · simp [Addr.add, e]
theorem one_cell (l : List Int) : ∀ u ∈ l.map (Value.int .u8), u.oneCell' = true := by
  intro u hu
  rw [List.mem_map] at hu
  obtain ⟨x, _, rfl⟩ := hu
  rfl
/-- Bytes of a call are laid behind those that are there. -/
theorem bytes_step {w wr w2 w3 : World} {s v' : Value} {L M : List Int} (hb : Below w.heap.size w wr) (hb2 : Below wr.heap.size wr w2)
    (ho2 : w2.ownsRow w.heap.size 5 1 s L.length (L.map (Value.int .u8)))
    (ho3 : w3.ownsRow w.heap.size 5 1 v' (L.length + M.length) (L.map (Value.int .u8) ++ M.map (Value.int .u8)))
    (hg : w2.grownBy w3 s.ownBlock) : w3.ownsRow w.heap.size 5 1 v' (L ++ M).length ((L ++ M).map (Value.int .u8)) ∧ Below w.heap.size w w3 := by
  constructor
  · rw [List.length_append, List.map_append]; exact ho3
  · exact (hb.trans (hb2.mono hb.size)).grown hg (Nat.le_trans hb.size hb2.size) (fun j hj => (ho2.lt j hj).1)
theorem nth_pt {l : List Int} (h : ∀ x ∈ l, isPt x = true) (k : Nat) (hk : k < l.length) : 0 ≤ nth l k ∧ nth l k ≤ 1114111 := by
  have e : nth l k = l[k] := by simp [nth, List.getD, hk]
  have := (isPt_iff _).1 (h _ (List.getElem_mem hk))
  rw [e]; omega
/-- No row of bytes. -/
def NotRow (o : Obj) : Prop := ∀ cs fz, o ≠ .cells cs 5 fz
/-- All that is no row of bytes stays. -/
def Keeps (w w' : World) : Prop := ∀ (K : Nat) o, w.heap[K]? = some o → NotRow o → w'.heap[K]? = some o
theorem Keeps.refl (w : World) : Keeps w w := fun _ _ h _ => h
theorem Keeps.trans {a b c : World} (h : Keeps a b) (k : Keeps b c) : Keeps a c := fun K o e n => k K o (h K o e n) n
theorem Keeps.below {w w' : World} (h : Below w.heap.size w w') : Keeps w w' := fun K _ e _ => (h.block K (Array.getElem?_eq_some_iff.1 e).1).trans e
theorem Keeps.grown {w w' : World} {B : Nat} {v : Value} {n : Nat} {xs : List Value} (ho : w.ownsRow B 5 1 v n xs) (h : w.grownBy w' v.ownBlock) : Keeps w w' := by
  intro K _ e hn
  refine (h.block K (Array.getElem?_eq_some_iff.1 e).1 ?_).trans e
  intro hk
  rcases ho.2 with ⟨rfl, _⟩ | ⟨g, cap, cur, rfl, hg, hh, r⟩
  · cases hk
  · simp only [Value.ownBlock, Option.some.injEq] at hk
    rw [← hk, e] at hh
    exact hn _ _ (Option.some.inj hh)
theorem Keeps.alloc (w : World) (o : Obj) : Keeps w (w.alloc o) := .below ((Below.refl _ _).alloc (Nat.le_refl _) o)
theorem box_cells {w : World} {X : Nat} {u v : Value} {t : TypeId} (h : w.heap[X]? = some (.cells #[u, v] t)) : w.cell? ⟨X, 0, none⟩ = some u ∧ w.cell? ⟨X, 1, none⟩ = some v := by
  constructor <;> simp [World.cell?, h]
theorem notRow80 (cs : Array Value) (t : TypeId) (ht : t ≠ 5) : NotRow (.cells cs t) := by
  intro cs' fz e
  injection e with _ e2
  exact ht e2
/-- One byte more. -/
theorem lay_step {B : Nat} {w wr w2 w3 : World} {s v' : Value} {M : List Int} {x : Int} {o : Obj} (hB : B ≤ w.heap.size) (hb : Below B w wr) (hk : Keeps w wr) (hb2 : Below wr.heap.size wr w2)
    (ho2 : w2.ownsRow B 5 1 s M.length (M.map (Value.int .u8))) (ho3 : w3.ownsRow B 5 1 v' (M.length + 1) (M.map (Value.int .u8) ++ [.int .u8 x])) (hg : (w2.alloc o).grownBy w3 s.ownBlock) :
    w3.ownsRow B 5 1 v' (M ++ [x]).length ((M ++ [x]).map (Value.int .u8)) ∧ Below B w w3 ∧ Keeps w w3 := by
  have hwr := hb.size
  have hw2 := hb2.size
  refine ⟨?_, ?_, ?_⟩
  · rw [List.length_append, List.map_append]; exact ho3
  · exact ((hb.trans (hb2.mono (by omega))).alloc (by omega) o).grown hg (by simp; omega) (fun j hj => (ho2.lt j hj).1)
  · exact hk.trans ((Keeps.below hb2).trans ((Keeps.alloc w2 o).trans (Keeps.grown (owned_alloc ho2 o) hg)))
theorem keeps_app {B : Nat} {w w' : World} {v : Value} {o : Obj} {n : Nat} {xs : List Value} (hown : w.ownsRow B 5 1 v n xs) (h : (w.alloc o).grownBy w' v.ownBlock) : Keeps w w' :=
  (Keeps.alloc w o).trans (Keeps.grown (owned_alloc hown o) h)
theorem append_all (B : Nat) (v : Value) (L : List Int) (r : Int) (hr : isPt r = true) (w : World) (hown : w.ownsRow B 5 1 v L.length (L.map (Value.int .u8))) (hlen : L.length ≤ 1000000) (hBw : B ≤ w.heap.size) :
    Calls Tryd.prog 33 #[v, .int .i32 r] w fun e w' => ∃ v', e = .returned v' ∧ w'.ownsRow B 5 1 v' (L ++ Lib.encodeRuneZ r).length ((L ++ Lib.encodeRuneZ r).map (Value.int .u8)) ∧ Below B w w' ∧ Keeps w w' := by
  have hp := (isPt_iff r).1 hr
  rw [List.length_append, List.map_append]
  by_cases h1 : r ≤ 127
  · refine (app_one B v _ _ r hp.1 h1 w hown (by omega) hBw).mono fun e w' ⟨v', he, ho, _, hg⟩ => ⟨v', he, ?_, grown_below hown hBw hg, keeps_app hown hg⟩
    rw [Lib.encodeRuneZ_one hp.1 h1]; exact ho
  by_cases h2 : r ≤ 2047
  · refine (app_two B v _ _ r (by omega) h2 w hown (by omega) hBw).mono fun e w' ⟨v', he, ho, _, hg⟩ => ⟨v', he, ?_, grown_below hown hBw hg, keeps_app hown hg⟩
    rw [Lib.encodeRuneZ_two (by omega) h2]; exact ho
  by_cases h3 : r < 55296
  · refine (app_lo B v _ _ r (by omega) h3 w hown (by omega) hBw).mono fun e w' ⟨v', he, ho, _, hg⟩ => ⟨v', he, ?_, grown_below hown hBw hg, keeps_app hown hg⟩
    rw [Lib.encodeRuneZ_three (.inl ⟨by omega, h3⟩)]; exact ho
  by_cases h4 : r ≤ 65535
  · refine (app_hi B v _ _ r (by omega) h4 w hown (by omega) hBw).mono fun e w' ⟨v', he, ho, _, hg⟩ => ⟨v', he, ?_, grown_below hown hBw hg, keeps_app hown hg⟩
    rw [Lib.encodeRuneZ_three (.inr ⟨by omega, h4⟩)]; exact ho
  · refine (app_four B v _ _ r (by omega) (by omega) w hown (by omega) hBw).mono fun e w' ⟨v', he, ho, _, hg⟩ => ⟨v', he, ?_, grown_below hown hBw hg, keeps_app hown hg⟩
    rw [Lib.encodeRuneZ_four (by omega) (by omega)]; exact ho
theorem boxed {B : Nat} {w : World} {v : Value} {L : List Int} (h : w.ownsRow B 5 1 v L.length (L.map (Value.int .u8))) (o : Obj) : (w.alloc o).ownsRow B 5 1 v L.length (L.map (Value.int .u8)) := owned_alloc h o
theorem owned_iterAt {w : World} {base K pos : Nat} {e : TypeId} {v : Value} {n : Nat} {xs : List Value} {s : ByteArray} (h : w.ownsRow base e 1 v n xs) (hk : w.heap[K]? = some (.stringIter s pos)) (pos' : Nat) : (w.iterAt K s pos').ownsRow base e 1 v n xs := by
  refine ⟨h.1, ?_⟩
  rcases h.2 with h' | ⟨g, cap, cur, hv, hg, hh, r⟩
  · exact .inl h'
  · have hne : g ≠ K := by intro e; rw [e, hk] at hh; cases hh
    exact .inr ⟨g, cap, cur, hv, hg, (Lib.iterAt_other w K g s pos' hne).trans hh, r⟩
/-- The iterator behind an append to a row of the call's own. -/
theorem iter_grown {w w2 : World} {base K pos : Nat} {e : TypeId} {v : Value} {n : Nat} {xs : List Value} {s : ByteArray} {o : Obj} (ho : w.ownsRow base e 1 v n xs) (hk : w.heap[K]? = some (.stringIter s pos)) (hg : (w.alloc o).grownBy w2 v.ownBlock) : w2.heap[K]? = some (.stringIter s pos) := by
  have hlt : K < w.heap.size := (Array.getElem?_eq_some_iff.1 hk).1
  have hne : some K ≠ v.ownBlock := by
    intro e
    rcases ho.2 with ⟨rfl, _⟩ | ⟨g, cap, cur, rfl, hg, hh, r⟩
    · cases e
    · simp only [Value.ownBlock, Option.some.injEq] at e
      rw [← e, hk] at hh; cases hh
  rw [hg.block K (by simp; omega) hne, Below.heap_alloc w o K hlt]
  exact hk
end Go.Proofs.YtohpifhpfijmcaaDoor
