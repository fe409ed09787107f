/- A scope with several labels: what holds at every jump to each of them, and a measure that every way from a label to a label lowers. -/
import Derived.ScopeJumps
import Derived.WalkMore
set_option linter.unusedVariables false
namespace Go.Proofs.YtagangneoibbcaaDoor
set_option maxRecDepth 100000
open Go
/-- As Q; by a goto to label l: J l. -/
def ExJ (J : Nat → Act → World → Prop) (Q : Exit → Act → World → Prop) : Exit → Act → World → Prop
  | .goto l, a, w => J l a w
  | e, a, w => Q e a w
section
variable {P : Program} {a : Act} {w : World} {Q : Exit → Act → World → Prop} {J : Nat → Act → World → Prop}
theorem ExJ_goto (l : Nat) : ExJ J Q (.goto l) a w = J l a w := rfl
theorem ExJ_ret : ExJ J Q .ret a w = Q .ret a w := rfl
theorem ExJ_normal : ExJ J Q .normal a w = Q .normal a w := rfl
theorem wp_scope_gotos {c : Code} (J : Nat → Act → World → Prop) (μ : Nat → Act → World → Nat) (R : Nat → Code) (hf : ∀ l a w, J l a w → findLabel c l = some (R l))
    (first : c.wp P (ExJ J Q) a w)
    (pass : ∀ l a w, J l a w → (R l).wp P (ExJ (fun l' a' w' => J l' a' w' ∧ μ l' a' w' < μ l a w) Q) a w) : (Code.scope c).wp P Q a w := by
  intro b k cs
  have hg : ∀ l a w, J l a w → gotoIn l (.inScope c :: k) = some (.code (R l) :: .inScope c :: k) := fun l a w h => by simp [gotoIn, hf l a w h]
  have key : ∀ n l a w, μ l a w = n → J l a w → ∃ e a' w', Q e a' w' ∧ Arrives P (lone (b.at a (.code (R l) :: .inScope c :: k)) cs w) b k cs e a' w' := by
    intro n
    induction n using Nat.strongRecOn with
    | _ n ih =>
      intro l a w hn hJ
      obtain ⟨e, a₁, w₁, hq, harr⟩ := pass l a w hJ b (.inScope c :: k) cs
      cases e with
      | normal => exact ⟨.normal, a₁, w₁, hq, Steps.trans harr (.one step_inScope)⟩
      | exit id => exact ⟨.exit id, a₁, w₁, hq, fun k' hk => harr k' (by simp [exitTo, hk])⟩
      | goto l' =>
        obtain ⟨hJ', hlt⟩ := hq
        obtain ⟨e₂, a₂, w₂, hq₂, harr₂⟩ := ih _ (by omega) l' a₁ w₁ rfl hJ'
        exact ⟨e₂, a₂, w₂, hq₂, .of_steps (harr _ (hg l' a₁ w₁ hJ')) harr₂⟩
      | ret => exact ⟨_, a₁, w₁, hq, harr⟩
      | panic ch => exact ⟨_, a₁, w₁, hq, harr⟩
      | outgrown => exact ⟨_, a₁, w₁, hq, harr⟩
  obtain ⟨e, a₁, w₁, hq, harr⟩ := first b (.inScope c :: k) cs
  cases e with
  | normal => exact ⟨.normal, a₁, w₁, hq, .head step_scope (Steps.trans harr (.one step_inScope))⟩
  | exit id => exact ⟨.exit id, a₁, w₁, hq, fun k' hk => .head step_scope (harr k' (by simp [exitTo, hk]))⟩
  | goto l' =>
    obtain ⟨e₂, a₂, w₂, hq₂, harr₂⟩ := key _ l' a₁ w₁ rfl hq
    exact ⟨e₂, a₂, w₂, hq₂, .of_steps (.head step_scope (harr _ (hg l' a₁ w₁ hq))) harr₂⟩
  | ret => exact ⟨_, a₁, w₁, hq, .of_steps (.one step_scope) harr⟩
  | panic ch => exact ⟨_, a₁, w₁, hq, .of_steps (.one step_scope) harr⟩
  | outgrown => exact ⟨_, a₁, w₁, hq, .of_steps (.one step_scope) harr⟩
theorem wp_scope_gotos3 {c : Code} {R0 R1 R2 : Code} (h0 : findLabel c 0 = some R0) (h1 : findLabel c 1 = some R1) (h2 : findLabel c 2 = some R2) (J : Nat → Act → World → Prop) (μ : Nat → Act → World → Nat) (hJ : ∀ l a w, J l a w → l < 3)
    (first : c.wp P (ExJ J Q) a w)
    (p0 : ∀ a w, J 0 a w → R0.wp P (ExJ (fun l' a' w' => J l' a' w' ∧ μ l' a' w' < μ 0 a w) Q) a w)
    (p1 : ∀ a w, J 1 a w → R1.wp P (ExJ (fun l' a' w' => J l' a' w' ∧ μ l' a' w' < μ 1 a w) Q) a w)
    (p2 : ∀ a w, J 2 a w → R2.wp P (ExJ (fun l' a' w' => J l' a' w' ∧ μ l' a' w' < μ 2 a w) Q) a w) : (Code.scope c).wp P Q a w :=
  wp_scope_gotos J μ (fun l => match l with | 0 => R0 | 1 => R1 | _ => R2) (fun l a w h => by
    have hl := hJ l a w h
    match l, hl with
    | 0, _ => exact h0
    | 1, _ => exact h1
    | 2, _ => exact h2) first (fun l a w h => by
    have hl := hJ l a w h
    match l, hl, h with
    | 0, _, h => exact p0 a w h
    | 1, _, h => exact p1 a w h
    | 2, _, h => exact p2 a w h)
theorem wp_scope_gotos5 {c : Code} {R0 R1 R2 R3 R4 : Code} (h0 : findLabel c 0 = some R0) (h1 : findLabel c 1 = some R1) (h2 : findLabel c 2 = some R2) (h3 : findLabel c 3 = some R3) (h4 : findLabel c 4 = some R4) (J : Nat → Act → World → Prop) (μ : Nat → Act → World → Nat) (hJ : ∀ l a w, J l a w → l < 5)
    (first : c.wp P (ExJ J Q) a w)
    (p0 : ∀ a w, J 0 a w → R0.wp P (ExJ (fun l' a' w' => J l' a' w' ∧ μ l' a' w' < μ 0 a w) Q) a w)
    (p1 : ∀ a w, J 1 a w → R1.wp P (ExJ (fun l' a' w' => J l' a' w' ∧ μ l' a' w' < μ 1 a w) Q) a w)
    (p2 : ∀ a w, J 2 a w → R2.wp P (ExJ (fun l' a' w' => J l' a' w' ∧ μ l' a' w' < μ 2 a w) Q) a w)
    (p3 : ∀ a w, J 3 a w → R3.wp P (ExJ (fun l' a' w' => J l' a' w' ∧ μ l' a' w' < μ 3 a w) Q) a w)
    (p4 : ∀ a w, J 4 a w → R4.wp P (ExJ (fun l' a' w' => J l' a' w' ∧ μ l' a' w' < μ 4 a w) Q) a w) : (Code.scope c).wp P Q a w :=
  wp_scope_gotos J μ (fun l => match l with | 0 => R0 | 1 => R1 | 2 => R2 | 3 => R3 | _ => R4) (fun l a w h => by
    have hl := hJ l a w h
    match l, hl with
    | 0, _ => exact h0
    | 1, _ => exact h1
    | 2, _ => exact h2
    | 3, _ => exact h3
    | 4, _ => exact h4) first (fun l a w h => by
    have hl := hJ l a w h
    match l, hl, h with
    | 0, _, h => exact p0 a w h
    | 1, _, h => exact p1 a w h
    | 2, _, h => exact p2 a w h
    | 3, _, h => exact p3 a w h
    | 4, _, h => exact p4 a w h)
end
end Go.Proofs.YtagangneoibbcaaDoor
