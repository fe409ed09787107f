/- A region that draws its order, whose operations read and whose callees lay new memory alone, walked in the order of the text, what follows behind a structure (operations that are struck by their guard are not unfolded ahead of their turn). -/
import Derived.Test.YtagangneoibbcaaDoorMem
import Derived.Lib.QuietBelow
import Derived.Deep.MidRow
set_option linter.unusedVariables false
namespace Go.Proofs.YtagangneoibbcaaDoor
open Go.RowKit Go.Sort

structure HidS (p : Prop) : Prop where
  out : p
theorem wp_region_quietH {P : Program} {id : Nat} {Q : Exit → Act → World → Prop} {a : Act} {w : World} {l : List Oper} (hm : P.follows .mixedOrders = true) (hB : Region.lexB .any l.toArray = true)
    (h : HidS (wpQuiet P l.toArray (fun w' => ∃ p : Regrown, w' = grow (redrawn w p.d) p.os) (fun a' => ∀ w', (∃ p : Regrown, w' = grow (redrawn w p.d) p.os) → Q .normal a' w') l a)) : (Code.region id l.toArray true).wp P Q a w := wp_region_quiet_below hm hB h.out
section
variable {P : Program} {ops : Array Oper} {C : World → Prop} {Q : Act → Prop} {a : Act} {o : Oper} {rest : List Oper}
theorem wpQuiet_stepH (h : ∀ K : Act → Prop, (∀ a, HidS (wpQuiet P ops C Q rest a) → K a) → if Region.wanted o (yielded ops a.tmps) then o.quiet P a C K else K (a.put o.dst undef)) : HidS (wpQuiet P ops C Q (o :: rest) a) := ⟨h _ (fun _ h => h.out)⟩
theorem wpQuiet_nilH (h : Q a) : HidS (wpQuiet P ops C Q [] a) := ⟨h⟩
theorem wpQuiet_loadH (hw : Region.wanted o (yielded ops a.tmps) = true) (ty : TypeId) (x : Operand) (ho : o.op = .load ty x)
    (b off : Nat) (hx : a.eval x = .pointer (some ⟨b, off, none⟩)) (cs : List Value) (d : TypeDesc) (hc : ∀ w, C w → w.rangeAt b off cs) (hu : P.underlying ty = some d) (hd : d.isRow = true) (hi : (P.info? ty).map (·.size) = some cs.length)
    (h : HidS (wpQuiet P ops C Q rest (a.put o.dst (.agg cs.toArray)))) : HidS (wpQuiet P ops C Q (o :: rest) a) := by
  refine ⟨?_⟩
  rw [wpQuiet, if_pos hw]
  refine ⟨_, fun w hw' => ?_, h.out⟩
  unfold Oper.quietAt execOp
  simp only [ho, hx, Instr.loadAt, Instr.sureAddr, Sem.run_bind, Sem.run_pure, Result.andThen_ok, run_loadVar_mid w b off ty cs d (hc w hw') hu hd hi]
  exact ⟨rfl, rfl⟩
end
theorem range_regrownH {w : World} {b o : Nat} {cs : List Value} (h : w.rangeAt b o cs) (w' : World) (hw : ∃ p : Regrown, w' = grow (redrawn w p.d) p.os) : w'.rangeAt b o cs := by
  obtain ⟨p, rfl⟩ := hw
  exact fun i v hv => cell_regrown (h i v hv) _ _
end Go.Proofs.YtagangneoibbcaaDoor
