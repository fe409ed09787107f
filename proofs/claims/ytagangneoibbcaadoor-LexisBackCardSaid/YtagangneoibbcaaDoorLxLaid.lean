/- Layer 12: what the listed package variables give: strconv.ErrRange is there. -/
import Derived.Test.YtagangneoibbcaaDoorLxE2
import Derived.Test.YtagangneoibbcaaDoorRows
import Derived.RowKit
import Derived.ProofKit
import Derived.LaidMore
import Derived.LaidOnce
import Derived.Stop.Joined
import Derived.MakeChecks
set_option linter.unusedVariables false
namespace Go.Proofs.YtagangneoibbcaaDoor
open Go.ChangeShapes Go.WideShapes Go.ChangeAt Go.RowKit

theorem err_name : Tryd.prog.globalNamed "strconv.ErrRange" = some 3 := by kernel_rfl
theorem err_type : (Tryd.prog.globals[3]?).map (·.type) = some 81 := by kernel_rfl
set_option maxRecDepth 100000 in
theorem err_trod {W : World} {fuel : Nat} {l : List Value} {p : List MemPlace} (h : DataW.trod (fun _ => ()) Tryd.prog W 0 (fun _ => true) false fuel 81 l = some (Rows.laid_strconv_ErrRange, p)) : ∃ te pe, l = [.iface te pe] := by
  cases fuel with
  | zero => simp [DataW.trod] at h
  | succ fuel =>
    rcases l with _ | ⟨c, l⟩
    · simp [DataW.trod, Tryd.underlying81] at h
    · rcases l with _ | ⟨c2, l⟩
      · cases c <;> simp [DataW.trod, Tryd.underlying81] at h
        all_goals first | exact ⟨_, _, rfl⟩ | (exact absurd h.1 (fun e => by cases e))
      · simp [DataW.trod, Tryd.underlying81] at h
set_option maxRecDepth 100000 in
theorem err_of_met {a b c : String × DataW Unit} {rest : List (String × DataW Unit)} {W : World} (h : laidMet Tryd.prog (a :: b :: c :: ("strconv.ErrRange", Rows.laid_strconv_ErrRange) :: rest) W) : ErrAt W := by
  obtain ⟨a1, a2⟩ := a
  obtain ⟨b1, b2⟩ := b
  obtain ⟨c1, c2⟩ := c
  obtain ⟨ps, ⟨g, t, cs, fuel, p, q, hg, ht, hv, hd, ⟨g1, t1, cs1, f1, p1, q1, hg1, ht1, hv1, hd1, ⟨g2, t2, cs2, f2, p2, q2, hg2, ht2, hv2, hd2, ⟨g3, t3, cs3, f3, p3, q3, hg3, ht3, hv3, hd3, _, _⟩, _⟩, _⟩, _⟩, _⟩ := h
  obtain rfl := Option.some.inj (err_name.symm.trans hg3)
  obtain rfl := Option.some.inj (err_type.symm.trans ht3)
  obtain ⟨te, pe, he⟩ := err_trod hd3
  have hc := World.var?_cell hg3 hv3 0
  refine ⟨te, pe, ?_⟩
  rw [hc]
  obtain ⟨l⟩ := cs3
  simp at he
  subst he
  rfl
theorem err_of_laid {a b c : String × DataW Unit} {rest : List (String × DataW Unit)} {W : World} (hp : ((a :: b :: c :: ("strconv.ErrRange", Rows.laid_strconv_ErrRange) :: rest).all fun x => x.2.handleName?.isNone) = true) (h : laidMetH Tryd.prog (a :: b :: c :: ("strconv.ErrRange", Rows.laid_strconv_ErrRange) :: rest) W) : ErrAt W := by
  rw [MakeChecks.laidMetH_plain _ _ _ hp] at h
  exact err_of_met h
theorem err_places {W : World} (h : laidMetH Tryd.prog Rows.lexisPlacesRow.laid W) : ErrAt W := err_of_laid (by kernel_rfl) h
theorem err_cuts {W : World} (h : laidMetH Tryd.prog Rows.lexisCutsRow.laid W) : ErrAt W := err_of_laid (by kernel_rfl) h
theorem err_tells {W : World} (h : laidMetH Tryd.prog Rows.lexisTellsRow.laid W) : ErrAt W := err_of_laid (by kernel_rfl) h
theorem err_names {W : World} (h : laidMetH Tryd.prog Rows.lexisNamesRow.laid W) : ErrAt W := err_of_laid (by kernel_rfl) h
theorem err_back {W : World} (h : laidMetH Tryd.prog Rows.lexisBackRow.laid W) : ErrAt W := err_of_laid (by kernel_rfl) h
theorem err_loses {W : World} (h : laidMetH Tryd.prog Rows.lexisLosesRow.laid W) : ErrAt W := err_of_laid (by kernel_rfl) h
end Go.Proofs.YtagangneoibbcaaDoor
