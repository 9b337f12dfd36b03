/- A scope in which the run jumps to several labels, ahead and back: what holds at each jump, and a measure that each pass lowers. -/
import Derived.Scope
import Derived.ScopeJumps
namespace Go.Proofs.YtohpifhpfijmcaaDoor
/-- As Q; by a goto to label l: J l. -/
def jumps (J : Nat → Act → World → Prop) (Q : Exit → Act → World → Prop) : Exit → Act → World → Prop
  | .goto l, a, w => J l a w
  | e, a, w => Q e a w
theorem wp_labels {P : Program} {a : Act} {w : World} {Q : Exit → Act → World → Prop} {c : Code} (R : Nat → Code) (J : Nat → Act → World → Prop) (μ : Nat → Act → World → Nat) (hf : ∀ l a w, J l a w → findLabel c l = some (R l))
    (first : c.wp P (jumps J Q) a w)
    (pass : ∀ l a w, J l a w → (R l).wp P (jumps (fun l' a' w' => J l' a' w' ∧ μ l' a' w' < μ l a w) Q) a w) : (Code.scope c).wp P Q a w := by
  intro b k cs
  have key : ∀ n l a w, μ l a w = n → J l a w → ∃ e a' w', Q e a' w' ∧ Arrives P (lone (b.at a (.code (R l) :: .inScope c :: k)) cs w) b k cs e a' w' := by
    intro n
    induction n using Nat.strongRecOn with
    | _ n ih =>
      intro l a w hn hJ
      obtain ⟨e, a₁, w₁, hq, harr⟩ := pass l a w hJ b (.inScope c :: k) cs
      cases e with
      | normal => exact ⟨.normal, a₁, w₁, hq, Steps.trans harr (.one step_inScope)⟩
      | exit id => exact ⟨.exit id, a₁, w₁, hq, fun k' hk => harr k' (by simp [exitTo, hk])⟩
      | goto l' =>
        obtain ⟨hJ', hlt⟩ := hq
        obtain ⟨e₂, a₂, w₂, hq₂, harr₂⟩ := ih _ (by omega) l' a₁ w₁ rfl hJ'
        exact ⟨e₂, a₂, w₂, hq₂, .of_steps (harr _ (by simp [gotoIn, hf _ _ _ hJ'])) harr₂⟩
      | ret => exact ⟨_, a₁, w₁, hq, harr⟩
      | panic ch => exact ⟨_, a₁, w₁, hq, harr⟩
      | outgrown => exact ⟨_, a₁, w₁, hq, harr⟩
  obtain ⟨e, a₁, w₁, hq, harr⟩ := first b (.inScope c :: k) cs
  cases e with
  | normal => exact ⟨.normal, a₁, w₁, hq, .head step_scope (Steps.trans harr (.one step_inScope))⟩
  | exit id => exact ⟨.exit id, a₁, w₁, hq, fun k' hk => .head step_scope (harr k' (by simp [exitTo, hk]))⟩
  | goto l' =>
    obtain ⟨e₂, a₂, w₂, hq₂, harr₂⟩ := key _ l' a₁ w₁ rfl hq
    exact ⟨e₂, a₂, w₂, hq₂, .of_steps (.head step_scope (harr _ (by simp [gotoIn, hf _ _ _ hq]))) harr₂⟩
  | ret => exact ⟨_, a₁, w₁, hq, .of_steps (.one step_scope) harr⟩
  | panic ch => exact ⟨_, a₁, w₁, hq, .of_steps (.one step_scope) harr⟩
  | outgrown => exact ⟨_, a₁, w₁, hq, .of_steps (.one step_scope) harr⟩
theorem wp_more {P : Program} {a : Act} {w : World} {Q Q' : Exit → Act → World → Prop} {c : Code} (h : c.wp P Q a w) (hq : ∀ e a w, Q e a w → Q' e a w) : c.wp P Q' a w := by
  intro b k cs
  obtain ⟨e, a', w', q, arr⟩ := h b k cs
  exact ⟨e, a', w', hq _ _ _ q, arr⟩
theorem jumps_more {J J' : Nat → Act → World → Prop} {Q : Exit → Act → World → Prop} (h : ∀ l a w, J l a w → J' l a w) (e : Exit) (a : Act) (w : World) (q : jumps J Q e a w) : jumps J' Q e a w := by
  cases e with
  | goto l => exact h l a w q
  | _ => exact q
theorem wp_labels4 {P : Program} {a : Act} {w : World} {Q : Exit → Act → World → Prop} {c r0 r1 r2 r3 : Code} (J : Nat → Act → World → Prop) (μ : Nat → Act → World → Nat)
    (h0 : findLabel c 0 = some r0) (h1 : findLabel c 1 = some r1) (h2 : findLabel c 2 = some r2) (h3 : findLabel c 3 = some r3) (hJ : ∀ l a w, J l a w → l < 4)
    (first : (∀ a w, J 0 a w → r0.wp P (jumps J Q) a w) → c.wp P (jumps J Q) a w)
    (p0 : ∀ a w, J 0 a w → r0.wp P (jumps (fun l' a' w' => J l' a' w' ∧ μ l' a' w' < μ 0 a w) Q) a w)
    (p1 : ∀ a w, J 1 a w → r1.wp P (jumps (fun l' a' w' => J l' a' w' ∧ μ l' a' w' < μ 1 a w) Q) a w)
    (p2 : ∀ a w, J 2 a w → r2.wp P (jumps (fun l' a' w' => J l' a' w' ∧ μ l' a' w' < μ 2 a w) Q) a w)
    (p3 : ∀ a w, J 3 a w → r3.wp P (jumps (fun l' a' w' => J l' a' w' ∧ μ l' a' w' < μ 3 a w) Q) a w) : (Code.scope c).wp P Q a w := by
  refine wp_labels (fun l => match l with | 0 => r0 | 1 => r1 | 2 => r2 | _ => r3) J μ ?_ (first fun a w h => wp_more (p0 a w h) (jumps_more fun _ _ _ x => x.1)) ?_
  · intro l a w h
    have hl := hJ l a w h
    match l, hl with
    | 0, _ => exact h0
    | 1, _ => exact h1
    | 2, _ => exact h2
    | 3, _ => exact h3
  · intro l a w h
    have hl := hJ l a w h
    match l, hl with
    | 0, _ => exact p0 a w h
    | 1, _ => exact p1 a w h
    | 2, _ => exact p2 a w h
    | 3, _ => exact p3 a w h
theorem wp_labels7 {P : Program} {a : Act} {w : World} {Q : Exit → Act → World → Prop} {c r0 r1 r2 r3 r4 r5 r6 : Code} (J : Nat → Act → World → Prop) (μ : Nat → Act → World → Nat)
    (h0 : findLabel c 0 = some r0) (h1 : findLabel c 1 = some r1) (h2 : findLabel c 2 = some r2) (h3 : findLabel c 3 = some r3) (h4 : findLabel c 4 = some r4) (h5 : findLabel c 5 = some r5) (h6 : findLabel c 6 = some r6) (hJ : ∀ l a w, J l a w → l < 7)
    (first : (∀ a w, J 0 a w → r0.wp P (jumps J Q) a w) → c.wp P (jumps J Q) a w)
    (p0 : ∀ a w, J 0 a w → r0.wp P (jumps (fun l' a' w' => J l' a' w' ∧ μ l' a' w' < μ 0 a w) Q) a w)
    (p1 : ∀ a w, J 1 a w → r1.wp P (jumps (fun l' a' w' => J l' a' w' ∧ μ l' a' w' < μ 1 a w) Q) a w)
    (p2 : ∀ a w, J 2 a w → r2.wp P (jumps (fun l' a' w' => J l' a' w' ∧ μ l' a' w' < μ 2 a w) Q) a w)
    (p3 : ∀ a w, J 3 a w → r3.wp P (jumps (fun l' a' w' => J l' a' w' ∧ μ l' a' w' < μ 3 a w) Q) a w)
    (p4 : ∀ a w, J 4 a w → r4.wp P (jumps (fun l' a' w' => J l' a' w' ∧ μ l' a' w' < μ 4 a w) Q) a w)
    (p5 : ∀ a w, J 5 a w → r5.wp P (jumps (fun l' a' w' => J l' a' w' ∧ μ l' a' w' < μ 5 a w) Q) a w)
    (p6 : ∀ a w, J 6 a w → r6.wp P (jumps (fun l' a' w' => J l' a' w' ∧ μ l' a' w' < μ 6 a w) Q) a w) : (Code.scope c).wp P Q a w := by
  refine wp_labels (fun l => match l with | 0 => r0 | 1 => r1 | 2 => r2 | 3 => r3 | 4 => r4 | 5 => r5 | _ => r6) J μ ?_ (first fun a w h => wp_more (p0 a w h) (jumps_more fun _ _ _ x => x.1)) ?_
  · intro l a w h
    have hl := hJ l a w h
    match l, hl with
    | 0, _ => exact h0
    | 1, _ => exact h1
    | 2, _ => exact h2
    | 3, _ => exact h3
    | 4, _ => exact h4
    | 5, _ => exact h5
    | 6, _ => exact h6
  · intro l a w h
    have hl := hJ l a w h
    match l, hl with
    | 0, _ => exact p0 a w h
    | 1, _ => exact p1 a w h
    | 2, _ => exact p2 a w h
    | 3, _ => exact p3 a w h
    | 4, _ => exact p4 a w h
    | 5, _ => exact p5 a w h
    | 6, _ => exact p6 a w h
theorem skip_on {P : Program} {a : Act} {w : World} {Q : Exit → Act → World → Prop} {c : Code} (h : c.wp P Q a w) : (Code.skip.seq c).wp P Q a w := wp_seq (wp_skip h)
theorem wp_fall4 {P : Program} {a : Act} {w : World} {Q : Exit → Act → World → Prop} {c t0 t1 t2 t3 : Code} (J : Nat → Act → World → Prop) (μ : Nat → Act → World → Nat)
    (h0 : findLabel c 0 = some (Code.skip.seq t0)) (h1 : findLabel c 1 = some (Code.skip.seq t1)) (h2 : findLabel c 2 = some (Code.skip.seq t2)) (h3 : findLabel c 3 = some (Code.skip.seq t3)) (hJ : ∀ l a w, J l a w → l < 4)
    (first : (∀ a w, J 0 a w → t0.wp P (jumps J Q) a w) → c.wp P (jumps J Q) a w)
    (p0 : (∀ a w, J 2 a w → t2.wp P (jumps (fun l' a' w' => J l' a' w' ∧ μ l' a' w' < μ 2 a w) Q) a w) → ∀ a w, J 0 a w → t0.wp P (jumps (fun l' a' w' => J l' a' w' ∧ μ l' a' w' < μ 0 a w) Q) a w)
    (p1 : ∀ a w, J 1 a w → t1.wp P (jumps (fun l' a' w' => J l' a' w' ∧ μ l' a' w' < μ 1 a w) Q) a w)
    (p2 : ∀ a w, J 2 a w → t2.wp P (jumps (fun l' a' w' => J l' a' w' ∧ μ l' a' w' < μ 2 a w) Q) a w)
    (p3 : ∀ a w, J 3 a w → t3.wp P (jumps (fun l' a' w' => J l' a' w' ∧ μ l' a' w' < μ 3 a w) Q) a w) : (Code.scope c).wp P Q a w :=
  wp_labels4 J μ h0 h1 h2 h3 hJ (fun _ => first fun a w h => wp_more ((p0 p2) a w h) (jumps_more fun _ _ _ x => x.1)) (fun a w h => skip_on ((p0 p2) a w h)) (fun a w h => skip_on (p1 a w h)) (fun a w h => skip_on (p2 a w h)) (fun a w h => skip_on (p3 a w h))
end Go.Proofs.YtohpifhpfijmcaaDoor
