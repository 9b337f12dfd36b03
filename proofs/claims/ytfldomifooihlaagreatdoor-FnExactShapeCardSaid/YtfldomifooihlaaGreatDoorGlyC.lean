/- GlyphsOf, as the program tells it, over the glyphs in the order of the text. -/
import Derived.Test.YtfldomifooihlaaGreatDoorGlyB
namespace Go.Proofs.YtfldomifooihlaaGreatDoor.Gly
open Go.RowKit Chr
set_option linter.unusedVariables false
theorem stK_succ (G : List (Int × Int × Int)) (k : Nat) (h : k < G.length) : stK G (k + 1) = lay (stK G k) (gat G k) := by
  have e : G[k]? = some (gat G k) := by unfold gat; simp [List.getD, h]
  rw [stK, e]
theorem inK_succ (G : List (Int × Int × Int)) (k : Nat) (h : k < G.length) : inK G (k + 1) = ins (inK G k) (gat G k) := by
  have e : G[k]? = some (gat G k) := by unfold gat; simp [List.getD, h]
  rw [inK, e]
theorem lay_len (s : St) (g : Int × Int × Int) : (lay s g).laid.length + (lay s g).held.length = s.laid.length + s.held.length + 1 := by
  unfold lay
  split
  · simp; omega
  · split
    · split
      · simp; omega
      · simp
    · split
      · simp; omega
      · simp; omega
theorem stK_len (G : List (Int × Int × Int)) (k : Nat) (h : k ≤ G.length) : (stK G k).laid.length + (stK G k).held.length = k := by
  induction k with
  | zero => rfl
  | succ k ih => rw [stK_succ G k (by omega), lay_len, ih (by omega)]
/-- The glyphs as they stand. -/
def ord (G : List (Int × Int × Int)) : List (Int × Int × Int) := inK G G.length
theorem ord_len (G : List (Int × Int × Int)) : (ord G).length = G.length := by
  unfold ord
  rw [← stK_in, List.length_append]
  exact stK_len G G.length (Nat.le_refl _)
/-- What glyphsInOrder lays of a text. -/
def InOrder (s : ByteArray) (G : List (Int × Int × Int)) : Prop := ∀ w : World, TabAt w →
  Calls Tryz.prog 56 #[.string s] w fun e w' => ∃ v, e = .returned v ∧ GR w' w.heap.size v G ∧ Below w.heap.size w w'
set_option maxHeartbeats 2000000 in
set_option maxRecDepth 100000 in
theorem glyphs_of (s : ByteArray) (G : List (Int × Int × Int)) (hG : G.length ≤ 65536) (IO : InOrder s G) (w : World) (ht : TabAt w) :
    Calls Tryz.prog 27 #[.string s] w fun e w' => ∃ v, e = .returned v ∧ GR w' w.heap.size v (ord G) ∧ Below w.heap.size w w' := by
  have hal : ∀ o, Below w.heap.size w (w.alloc o) := fun o => (Below.refl _ _).alloc (Nat.le_refl _) o
  have C := hide (IO (w.alloc (.cells #[.slice none 0 0, .slice none 0 0, .bool false] 100)) (ht.below (hal _)))
  have bx : (w.alloc (.cells #[.slice none 0 0, .slice none 0 0, .bool false] 100)).heap[w.heap.size]? = some (.cells #[.slice none 0 0, .slice none 0 0, .bool false] 100 (0, 0)) := heap_alloc_last _ _
  have sz1 : (w.alloc (.cells #[.slice none 0 0, .slice none 0 0, .bool false] 100)).heap.size = w.heap.size + 1 := by simp
  have HB1 := hide (hal (.cells #[.slice none 0 0, .slice none 0 0, .bool false] 100))
  clear ht IO hal
  go_enter Tryz.func27, Tryz.ntmps27
  go_wp2_with fail
  refine (unhide C).mono ?_
  rintro e w2 ⟨gv, rfl, hg, hb⟩
  have hb2 : w2.heap[w.heap.size]? = some (.cells #[.slice none 0 0, .slice none 0 0, .bool false] 100 (0, 0)) := (hb.block w.heap.size (by omega)).trans bx
  have T0 : Hid (BS w2 w2 w.heap.size (.slice none 0 0) (.slice none 0 0) (stK G 0)) := hide ⟨hb2, GR.nil _ _, GR.nil _ _, (Array.getElem?_eq_some_iff.1 hb2).1, fun b e => by simp [Value.ownBlock] at e, grown_refl _ _⟩
  have HG := hide hg
  have HB2 := hide ((unhide HB1).trans (hb.mono (unhide HB1).size))
  obtain ⟨ga, gc, rfl, hgf⟩ := hg.form
  clear hg hb bx hb2 C HB1
  go_wp2
  go_loopw [9] (fun i wr => ∃ (k : Nat) (lv hv : Value), k ≤ G.length ∧ i = .int .i64 k ∧ Hid (BS w2 wr w.heap.size lv hv (stK G k))) (fun i _ => G.length - (intOf i).toNat)
  case atStart => exact ⟨0, _, _, Nat.zero_le _, rfl, T0⟩
  case round =>
    obtain ⟨k, lv, hv, hk, rfl, T⟩ := hrel
    clear T0
    by_cases hlt : k < G.length
    · have hlt' : (k : Int) < (G.length : Int) := by omega
      obtain ⟨gb, rfl, hgb1, hgb2⟩ : ∃ b, ga = some ⟨b, 0, none⟩ ∧ w.heap.size < b ∧ b < w2.heap.size := by
        rcases hgf with ⟨_, _, e⟩ | ⟨b, e, _, h2, h3⟩
        · rw [e] at hlt; simp at hlt
        · exact ⟨b, e, by omega, h3⟩
      obtain ⟨p0, p1, p2, p3, p4⟩ := (unhide HG).five rfl k hlt
      have eb : wr.heap[gb]? = w2.heap[gb]? := (unhide T).gr.block gb hgb2 (by intro e; injection e with e; omega)
      have tr : ∀ i, wr.cell? ⟨gb, i, none⟩ = w2.cell? ⟨gb, i, none⟩ := fun i => by simp [World.cell?, eb]
      rw [← tr] at p0 p1 p2 p3 p4
      have ES := hide (stK_succ G k hlt)
      have hll := stK_len G k hk
      have CL := hide (fun W T => lay_any w2 W w.heap.size lv hv (stK G k) (gat G k).1 (gat G k).2.1 (gat G k).2.2 T (by omega))
      have TA := hide ((unhide T).below ((Below.refl _ _).alloc (Nat.le_refl _) (.cells #[.int .i64 (gat G k).1, .int .i64 (gat G k).2.1, .int .i64 (gat G k).2.2, .int .i64 0, .int .i64 0] 52)))
      have EG : (gat G k) = ((gat G k).1, (gat G k).2.1, (gat G k).2.2) := rfl
      rw [EG] at ES
      clear T eb tr EG hgf
      generalize (gat G k).1 = x at *
      generalize (gat G k).2.1 = f at *
      generalize (gat G k).2.2 = c at *
      generalize stK G k = S at *
      go_wp2_with fail
      refine ((unhide CL) _ (unhide TA)).mono ?_
      rintro e w3 ⟨rfl, lv', hv', hb3⟩
      have T3 := hide hb3
      rw [← unhide ES] at T3
      clear hb3
      go_wp2
      go_roundw
      case rel => exact ⟨k + 1, _, _, by omega, by go_num, T3⟩
      case measure => simp [intOf]; omega
    · obtain rfl : k = G.length := by omega
      have hll := stK_len G G.length (Nat.le_refl _)
      have CS := hide (settle_any w2 wr w.heap.size lv hv (stK G G.length) (unhide T) (by omega))
      have EO : Hid (ord G = (stK G G.length).laid ++ (stK G G.length).held) := hide (stK_in G G.length).symm
      clear T hgf
      go_wp2_with fail
      refine (unhide CS).mono ?_
      rintro e w3 ⟨rfl, ⟨lv', hv', hb3⟩, _, _⟩
      obtain ⟨b0, _, _, _⟩ := box3 hb3.bx
      have L3 := hide hb3.lo
      have G3 := hide hb3.gr
      have zz := (unhide HB2).size
      clear hb3 CS
      go_wp2
      go_ret
      refine ⟨_, rfl, ?_, (unhide HB2).grown (unhide G3) zz (fun j hj => by cases hj; exact Nat.le_refl _)⟩
      rw [unhide EO]
      have l := unhide L3
      unfold settle at l
      refine ⟨l.1, ?_⟩
      rcases l.2 with h' | ⟨g, cap, cur, hv, hg, r⟩
      · exact .inl h'
      · exact .inr ⟨g, cap, cur, hv, by omega, r⟩
end Go.Proofs.YtfldomifooihlaaGreatDoor.Gly
