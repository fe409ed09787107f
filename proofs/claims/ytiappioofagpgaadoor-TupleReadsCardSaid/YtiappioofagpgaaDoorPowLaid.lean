/- What the listed package variables give: the first power of ten, in its cell. -/
import Derived.Test.YtiappioofagpgaaDoorCards
import Derived.Test.YtiappioofagpgaaDoorTie
import Derived.RowKit
import Derived.ProofKit
import Derived.LaidMore
import Derived.LaidOnce
import Derived.Stop.Joined
import Derived.MakeChecks
namespace Go.Proofs.YtiappioofagpgaaDoor
open Go.ChangeShapes Go.WideShapes Go.ChangeAt Go.RowKit

theorem laid_int {H : Type} {enc : TypeId × Value → H} {P : Program} {w : World} {base : Nat} {sp : Nat → Bool} {held : Bool} {fuel : Nat} {t : TypeId} {k : IntKind} {c : Value} {y : DataW H × List MemPlace}
    (ht : P.underlying t = some (.int k)) (h : DataW.trod enc P w base sp held fuel t [c] = some y) : ∃ n, c = .int k n ∧ y = (.lit (.int k n), []) := by
  cases fuel with
  | zero => simp [DataW.trod] at h
  | succ fuel =>
    cases c <;> simp [DataW.trod, ht] at h
    rename_i k' n
    obtain ⟨⟨rfl, _⟩, rfl⟩ := h
    exact ⟨n, rfl, rfl⟩

theorem pow_name : Tryd.prog.globalNamed "internal/strconv.uint64pow10" = some 1 := by kernel_rfl
theorem pow_type : (Tryd.prog.globals[1]?).map (·.type) = some 72 := by kernel_rfl
theorem pow_cells : Tryd.prog.cellsOf 72 = 20 := by kernel_rfl
theorem u64_cells : Tryd.prog.cellsOf 50 = 1 := by kernel_rfl

set_option maxRecDepth 100000 in
theorem pow_of_laid {W : World} (h : laidMetH Tryd.prog Rows.tupleAboveRow.laid W) : W.cell? ⟨1, 0, none⟩ = some (.int .u64 1) := by
  have hp : laidMet Tryd.prog [("math/bits.deBruijn32tab", Rows.laid_math_bits_deBruijn32tab), ("math/bits.deBruijn64tab", Rows.laid_math_bits_deBruijn64tab), ("internal/strconv.uint64pow10", Rows.laid_internal_strconv_uint64pow10)] W := by
    rw [MakeChecks.laidMetH_plain _ _ _ (by kernel_rfl)] at h; exact h
  obtain ⟨ps, ⟨g, t, cs, fuel, p, q, hg, ht, hv, hd, ⟨g1, t1, cs1, f1, p1, q1, hg1, ht1, hv1, hd1, ⟨g2, t2, cs2, f2, p2, q2, hg2, ht2, hv2, hd2, _, _⟩, _⟩, _⟩, _⟩ := hp
  clear hd hd1 hv hv1
  obtain rfl := Option.some.inj (pow_name.symm.trans hg2)
  obtain rfl := Option.some.inj (pow_type.symm.trans ht2)
  have hc := World.var?_cell hg2 hv2 0
  obtain ⟨l⟩ := cs2
  cases f2 with
  | zero => simp [DataW.trod] at hd2
  | succ f2 =>
    simp only [DataW.trod, Tryd.underlying72, pow_cells, u64_cells] at hd2
    split at hd2
    · rename_i hl
      have e : List.range 20 = 0 :: (List.range 19).map (· + 1) := rfl
      rw [e] at hd2
      simp only [Option.map_eq_some_iff, List.mapM_cons, Option.bind_eq_bind, Option.bind_eq_some_iff, Option.pure_def, Option.some.injEq] at hd2
      obtain ⟨xs, ⟨y0, h0, ys, h1, rfl⟩, hx⟩ := hd2
      rw [hc]
      obtain ⟨c, l', rfl⟩ : ∃ c l', l = c :: l' := by
        cases l with
        | nil => simp at hl
        | cons c l' => exact ⟨c, l', rfl⟩
      have h0' : DataW.trod (fun _ => ()) Tryd.prog W 0 (fun _ => true) false f2 50 [c] = some y0 := by simpa using h0
      obtain ⟨n, rfl, rfl⟩ := laid_int Tryd.underlying50 h0'
      have h3 := congrArg Prod.fst hx
      simp only [Rows.laid_internal_strconv_uint64pow10, DataW.agg.injEq, List.map_cons, List.cons.injEq, DataW.lit.injEq, Lit.int.injEq] at h3
      have hn : n = 1 := h3.1.2
      subst hn
      rfl
    · cases hd2
end Go.Proofs.YtiappioofagpgaaDoor
