/- A drawn region by one invariant over what has been done already: one step an operation, whatever the order. -/
import Derived.Test.YtgmpkapeemiecaaBase
import Derived.OrdersIn
namespace Go.Proofs.Ytgmpkapeemiecaa.Hyp
section
variable {F : Fence} {n : Nat} {P : Program} {ops : Array Oper} {Q : Exit → Act → World → Prop}
theorem cnt_set : ∀ (l : List Bool) (i : Nat), l[i]? = some false → (l.set i true).count false + 1 = l.count false
  | [], i, h => by simp at h
  | b :: l, 0, h => by
    simp at h
    subst h
    simp
  | b :: l, i + 1, h => by
    have ih := cnt_set l i (by simpa using h)
    rw [List.set_cons_succ, List.count_cons, List.count_cons]
    omega
/-- Each operation waits for earlier ones alone. -/
def backs (ops : Array Oper) : Bool := (List.range ops.size).all fun i => ((ops[i]?).map (·.after.all fun e => !Region.binds .any e || decide (e.on < i))).getD true
theorem ready_nil {l : Array Bool} (hb : backs ops = true) (hl : l.size = ops.size) (hr : Region.ready .any ops l = []) (i : Nat) : i < ops.size → l[i]? = some true := by
  induction i using Nat.strongRecOn with
  | _ i ih =>
    intro hi
    have hil : i < l.size := by omega
    cases e : l[i] with
    | true => rw [Array.getElem?_eq_getElem hil, e]
    | false =>
      have hm : i ∈ Region.ready .any ops l := by
        refine mem_ready.2 ⟨by simp [hil, e], ops[i], Array.getElem?_eq_getElem hi, fun d hd hbd => ?_⟩
        have h1 := List.all_eq_true.1 hb i (List.mem_range.2 hi)
        rw [Array.getElem?_eq_getElem hi] at h1
        simp only [Option.map_some, Option.getD_some] at h1
        rw [Array.all_eq_true_iff_forall_mem] at h1
        have h2 := h1 d hd
        rw [hbd] at h2
        have h3 : d.on < i := by simpa using h2
        have h4 := ih d.on h3 (by omega)
        rw [Array.getD_eq_getD_getElem?, h4]
        rfl
      rw [hr] at hm
      cases hm
theorem wpAnyIn_inv (Inv : Array Bool → Act → World → Prop) (hb : backs ops = true) (hz : ∀ l a w, Inv l a w → l.size = ops.size)
    (hs : ∀ i l a w, Inv l a w → i ∈ Region.ready .any ops l → wpOpIn F n P ops Q i (fun a' w' => Inv (l.setIfInBounds i true) a' w') a w)
    (he : ∀ a w, Inv (Array.replicate ops.size true) a w → Q .normal a w) :
    ∀ (fuel : Nat) (l : Array Bool) (a : Act) (w : World), l.toList.count false ≤ fuel → Inv l a w → wpAnyIn F n P .any ops Q fuel l a w := by
  have hend : ∀ l a w, Inv l a w → Region.ready .any ops l = [] → Q .normal a w := fun l a w h hr => by
    have h1 := ready_nil hb (hz l a w h) hr
    have e : l = Array.replicate ops.size true := by
      apply Array.ext
      · rw [hz l a w h]; simp
      · intro i h2 h3
        have := h1 i (by rw [← hz l a w h]; exact h2)
        rw [Array.getElem?_eq_getElem h2] at this
        rw [Option.some.inj this]
        simp
    rw [e] at h
    exact he a w h
  intro fuel
  induction fuel with
  | zero =>
    intro l a w hc h
    have hr : Region.ready .any ops l = [] := by
      cases e : Region.ready .any ops l with
      | nil => rfl
      | cons i t =>
        have hi := (mem_ready.1 (show i ∈ Region.ready .any ops l by rw [e]; simp)).1
        rcases Nat.lt_or_ge i l.size with h' | h'
        · have h0 : false ∈ l.toList := by
            rw [← Array.mem_def]
            simp [h'] at hi
            rw [← hi]
            exact Array.getElem_mem h'
          have := List.count_pos_iff.2 h0
          omega
        · rw [Array.getD_eq_getD_getElem?, Array.getElem?_eq_none h'] at hi
          cases hi
    exact ⟨hr, hend l a w h hr⟩
  | succ fuel ih =>
    intro l a w hc h
    refine ⟨fun hr => hend l a w h hr, fun i hi => wpOpIn_mono (fun a' w' h' => ih _ a' w' ?_ h') (hs i l a w h hi)⟩
    have h1 := (mem_ready.1 hi).1
    rcases Nat.lt_or_ge i l.size with h' | h'
    · have h2 : l.toList[i]? = some false := by
        simp [h'] at h1
        rw [Array.getElem?_toList, Array.getElem?_eq_getElem h', h1]
      have := cnt_set l.toList i h2
      rw [Array.toList_setIfInBounds]
      omega
    · rw [Array.getD_eq_getD_getElem?, Array.getElem?_eq_none h'] at h1
      cases h1
theorem region_inv {id : Nat} {a : Act} {w : World} (hm : P.follows .mixedOrders = true) (Inv : Array Bool → Act → World → Prop) (hb : backs ops = true) (hz : ∀ l a w, Inv l a w → l.size = ops.size)
    (h0 : Inv (Array.replicate ops.size false) a w.drew)
    (hs : ∀ i l a w, Inv l a w → i ∈ Region.ready .any ops l → wpOpIn F n P ops Q i (fun a' w' => Inv (l.setIfInBounds i true) a' w') a w)
    (he : ∀ a w, Inv (Array.replicate ops.size true) a w → Q .normal a w) : (Code.region id ops true).wpIn F n P Q a w :=
  wpIn_region_any hm (wpAnyIn_inv Inv hb hz hs he ops.size _ a _ (by simp) h0)
end
end Go.Proofs.Ytgmpkapeemiecaa.Hyp
