/- The reference's Write. -/
import Derived.Test.YtapjgancaldgaaaRRows
namespace Go.Proofs.Ytapjgancaldgaaa
set_option maxRecDepth 100000
open Go.RowKit

theorem wpList_appP {w : World} {ops : Array Oper} {rest : List Oper} {o : Oper} {a : Act} {Q : Exit → Act → World → Prop} (hgd : o.guard = none) (s x : Operand)
    (ho : o.op = .call { callee := .builtin .append, args := #[s, x], argTypes := #[29, 29] }) (vs vx v : Value) (w' : World) (hs : a.eval s = vs) (hx : a.eval x = vx)
    (hrun : (Builtin.append_ #[29, 29] o.type #[vs, vx]).run Try.prog w = .ok v w') (h : wpList Try.prog ops Q rest (a.put o.dst v) w') : wpList Try.prog ops Q (o :: rest) a w := by
  refine wpList_plain hgd fun K hK => ?_
  unfold Oper.wp
  simp [execOp, ho, resolve, invoke, builtin, hs, hx, hrun, Result.andThen]
  exact hK _ _ h

def WAt (F : Nat → Prop) (w : World) (l : List Wr) (L : List (Value × Value)) (p gd gt : Nat) : Prop :=
  ∀ (i : Nat) (x : Wr), l[i]? = some x → ∃ b cb, L[i]? = some (.int .i64 (x.p : Int), .slice (some ⟨b, 0, none⟩) 64 cb) ∧ 64 ≤ cb ∧ RB w (some ⟨b, 0, none⟩) 64 x.b ∧ b < w.heap.size ∧ F b ∧ b ≠ p ∧ b ≠ gd ∧ b ≠ gt
theorem WAt.stays {F F' : Nat → Prop} {w w' : World} {l : List Wr} {L : List (Value × Value)} {p gd gt : Nat} (h : WAt F w l L p gd gt) (hb : Below w.heap.size w w') (hF : ∀ k, F k → F' k) : WAt F' w' l L p gd gt := fun i x hx => by
  obtain ⟨b, cb, e, hc, rb, lb, fb, m⟩ := h i x hx
  exact ⟨b, cb, e, hc, rb.below' hb, Nat.lt_of_lt_of_le lb hb.size, hF b fb, m⟩

/-- The row of waiting writes once more, in memory of its own. -/
theorem wait_copy {F : Nat → Prop} {w : World} {ops : Array Oper} {rest : List Oper} {o : Oper} {a : Act} {Q : Exit → Act → World → Prop} (hgd : o.guard = none) (s x : Operand)
    (ho : o.op = .call { callee := .builtin .append, args := #[s, x], argTypes := #[29, 29] }) {vw : Value} {l : List Wr} {p gd gt : Nat} (hs : a.eval s = .slice none 0 0) (hx : a.eval x = vw) (h : RWait F w vw l p gd gt) (hm : l.length ≤ 4398046511104)
    (K : ∀ v1 w2 L, w2.ownsRow w.heap.size 114 2 v1 l.length (L.flatMap pc) → L.length = l.length → WAt F w l L p gd gt → Below w.heap.size w w2 → wpList Try.prog ops Q rest (a.put o.dst v1) w2) : wpList Try.prog ops Q (o :: rest) a w := by
  obtain ⟨i0, hi, hz0, hz1, hz2⟩ := info_parts infoP
  by_cases hn : l = []
  · subst hn
    have := h.nil_ rfl
    subst this
    have hrun := run_append_nothing (P := Try.prog) w (base := w.heap.size) (size := 2) 29 o.type i0 Try.underlying29 hi (World.ownsRow_nil _ _ _ _) 0
    exact wpList_appP hgd s x ho _ _ _ _ hs hx hrun (K _ w [] (World.ownsRow_nil _ _ _ _) rfl (fun i x hx => by simp at hx) (Below.refl _ _))
  · obtain ⟨g, cap, rfl, _⟩ := h.row hn
    obtain ⟨L, hL, hcell, hone, hat⟩ := h.list hn
    have hpos : 0 < l.length := Nat.pos_of_ne_zero (fun e => hn (List.eq_nil_of_length_eq_zero e))
    obtain ⟨g', cap', w', hrun, h1, h2, h3, -⟩ := run_append_far (P := Try.prog) w w.heap.size 29 o.type 114 i0 _ 2 32 Try.underlying29 hi hz0 hz1 hz2 (by rfl) (by decide) (.slice none 0 0) 0 [] (World.ownsRow_nil _ _ _ _) ⟨g, 0, none⟩ l.length cap (L.flatMap pc) (by rw [flat_len' (s := 2) L (fun y _ => rfl), hL]) hcell hone hpos (by simp only [maxLen]; omega) (by omega) (Nat.le_refl _)
    have hb : Below w.heap.size w w' := ⟨h2.os, h2.tape, h2.output, h2.size, fun k hk => h2.block k hk (by simp [Value.ownBlock])⟩
    refine wpList_appP hgd s x ho _ _ _ _ hs hx hrun (K _ w' L ?_ hL ?_ hb)
    · simpa using h1
    · exact hat
end Go.Proofs.Ytapjgancaldgaaa
