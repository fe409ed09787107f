/-
  'SsiAlone' is true for every input of bulk at most 1048576, leaves its arguments as they were, and returns without a panic or a data race: the given statement Rows.SsiAloneUptoSaid.
  Conditions: none but what the statement's own row says (its bound on what is read).
-/
import Derived.Test.YtknppiebncdjmaaGreatRows
import Derived.Test.YtknppiebncdjmaaGreatSsiAloneWalk
import Derived.Test.YtknppiebncdjmaaGreatJAM
import Derived.Test.YtknppiebncdjmaaGreatJBI
import Derived.Test.YtknppiebncdjmaaGreatJBO
import Derived.JoinedCond
import Derived.Deep.CondSized
namespace Go.Proofs.YtknppiebncdjmaaGreat.ssiAlone
open Go.Joins Go.Deep Go.ChangeShapes Go.WideShapes Go.ChangeAt Go.RowKit
open Go.ChangeMaps (open_string shut_string)
set_option linter.unusedVariables false

theorem own : ownKnob Tryz.prog.godebug = none := by kernel_rfl
theorem laidOut : laidOutB Tryz.prog = true := by kernel_rfl

set_option maxRecDepth 100000 in
theorem contract (H : Type) (enc : TypeId × Value → H) (W : World) (base : Nat) (args : Array Value) (ds gs : List (DataW H)) (before : List MemPlace)
    (hval : ∀ (j : Nat) t v, Tryz.f6.params[j]? = some t → args[j]? = some v → Value.okWide Tryz.prog W .any base t v)
    (hW : DataW.Whole enc Tryz.prog Tryz.f6.params.toList Rows.ssiAloneSpec.vars false W args.toList ds gs before)
    (hsz0 : (DataW.weightsEach Tryz.prog (Tryz.f6.params.toList ++ Rows.ssiAloneSpec.plain.varTypes Tryz.prog) (ds ++ gs)).all (· ≤ reachBytes) = true)
    (hk : Rows.uptoSmall H (ds ++ gs) = true) :
    Calls Tryz.prog 6 args W fun e W' => ∃ v, e = .returned v ∧ Rows.ssiAloneSpec.post enc Tryz.prog Tryz.f6 false true false false W args v W' := by
  have hW' := hW
  obtain ⟨p, q, hA0, hV, rfl, hfz, hnd⟩ := hW
  have hA : DataW.TrodAll enc Tryz.prog W 0 (fun _ => true) true Tryz.f6.params.toList args.toList ds p := hA0
  rw [Tryz.params6] at hA hval
  obtain ⟨v0, vs0, d0, ds0, p0, q0, hargs, rfl, rfl, h0, r0⟩ := trodAll_cons hA
  obtain ⟨v1, vs1, d1, ds1, p1, q1, rfl, rfl, rfl, h1, r1⟩ := trodAll_cons r0
  obtain ⟨rfl, rfl, rfl⟩ := trodAll_nil r1
  obtain rfl : args = #[v0, v1] := by cases args; simp_all
  obtain ⟨rfl, rfl⟩ := trodVars_none hV
  have hsz : (DataW.weightsEach Tryz.prog [23, 24] [d0, d1]).all (· ≤ reachBytes) = true := by
    have e : Tryz.f6.params.toList ++ Rows.ssiAloneSpec.plain.varTypes Tryz.prog = [23, 24] := by rw [Tryz.params6]; rfl
    rw [e] at hsz0; exact hsz0
  have hb : Rows.uptoBulkAll [d0, d1] ≤ 1048576 := of_decide_eq_true hk
  have k0 := h0
  have lt0 : ∀ x ∈ p0, x.block < W.heap.size := by obtain ⟨m, hm⟩ := k0; exact DataW.trod_lt m _ _ _ hm
  have l0 := light_each hsz (j := 0) rfl rfl
  have b0 : Rows.uptoBulk d0 ≤ 1048576 := Nat.le_trans (bulk_part (l := [d0, d1]) (j := 0) rfl) hb
  have k1 := h1
  have lt1 : ∀ x ∈ p1, x.block < W.heap.size := by obtain ⟨m, hm⟩ := k1; exact DataW.trod_lt m _ _ _ hm
  have l1 := light_each hsz (j := 1) rfl rfl
  have b1 : Rows.uptoBulk d1 ≤ 1048576 := Nat.le_trans (bulk_part (l := [d0, d1]) (j := 1) rfl) hb
  obtain ⟨fv0, fy0, fm0, rfl, hvl0, hyl0, hd0, hf0⟩ := open_struct Tryz.underlying23 (by kernel_rfl) (by kernel_rfl) (hval 0 23 v0 rfl rfl) h0
  subst hd0
  match fv0, hvl0, fy0, hyl0 with
  | [g0_0, g0_1, g0_2, g0_3], _, [y0_0, y0_1, y0_2, y0_3], _ =>
    have t0_0 : DataW.trod enc Tryz.prog W 0 (fun _ => true) true fm0 3 [g0_0] = some y0_0 := hf0 0 _ rfl
    obtain ⟨a0_0, rfl, w0_0⟩ := open_num Tryz.underlying3 t0_0
    have ha0_0 := wf_i64 w0_0
    have t0_1 : DataW.trod enc Tryz.prog W 0 (fun _ => true) true fm0 3 [g0_1] = some y0_1 := hf0 1 _ rfl
    obtain ⟨a0_1, rfl, w0_1⟩ := open_num Tryz.underlying3 t0_1
    have ha0_1 := wf_i64 w0_1
    have t0_2 : DataW.trod enc Tryz.prog W 0 (fun _ => true) true fm0 3 [g0_2] = some y0_2 := hf0 2 _ rfl
    obtain ⟨a0_2, rfl, w0_2⟩ := open_num Tryz.underlying3 t0_2
    have ha0_2 := wf_i64 w0_2
    have t0_3 : DataW.trod enc Tryz.prog W 0 (fun _ => true) true fm0 3 [g0_3] = some y0_3 := hf0 3 _ rfl
    obtain ⟨a0_3, rfl, w0_3⟩ := open_num Tryz.underlying3 t0_3
    have ha0_3 := wf_i64 w0_3
    obtain ⟨fu1, hf1⟩ := h1
    obtain ⟨A1', n1', c1', rfl⟩ := okWide_slice Tryz.underlying24 (hval 1 24 v1 rfl rfl)
    obtain ⟨A1, n1, c1, z1, he1, hr1, hn1, hc1, hd1⟩ := open_opsX hf1 l1
    obtain ⟨rfl, rfl, rfl⟩ : A1' = A1 ∧ n1' = n1 ∧ c1' = c1 := by injection he1 with e1 e2 e3; exact ⟨e1, e2, e3⟩
    replace hc1 := bulk_bytes b1 hd1
    refine (walk_SsiAlone _ _ _ _ _ _ _ _ W ha0_0 ha0_1 ha0_2 ha0_3 hr1 hn1 hc1).mono fun e W' ⟨he, bel⟩ => ?_
    subst he
    exact ⟨_, rfl, _, _, _, [], _, [], hW', trodAll_mk1 (shut_bool Tryz.underlying4 _), (trodAll_cons_mk (Below.trod laidOut (by kernel_rfl) (of_decide_eq_true (by kernel_rfl)) k0 bel lt0) (trodAll_cons_mk (Below.trod laidOut (by kernel_rfl) (of_decide_eq_true (by kernel_rfl)) k1 bel lt1) trodAll_mk0)), rfl, bel.frame _, fun h => by cases h⟩

set_option maxRecDepth 100000 in
theorem lifted (os : Os) (started : os.Started) (H : Type) (enc : TypeId × Value → H) (F : Stop.Interp) :
    ReturnsInHanded {} Tryz.checked os 6 .any ((Rows.OpenSpec.upto Rows.ssiAloneSpec).pre6 enc Tryz.prog Tryz.f6 Rows.ssiAloneUptoRow.domain false) (((Rows.OpenSpec.upto Rows.ssiAloneSpec).at F).post enc Tryz.prog Tryz.f6 false true false false) := by
  refine returnsInHanded_of_cond_sized (C := Tryz.checked) (s := (Rows.OpenSpec.upto Rows.ssiAloneSpec)) (k := Rows.uptoSmall) rfl own started (by kernel_rfl) Tryz.func6
    (OpenSpec.witness (enc := enc) (C := Tryz.checked) (s := (Rows.OpenSpec.upto Rows.ssiAloneSpec)) (k := Rows.uptoSmall) rfl false ⟨#[], #[.agg #[.int .i64 0, .int .i64 0, .int .i64 0, .int .i64 0], .slice none 0 0], []⟩ 8 (by kernel_rfl) (by kernel_rfl) (by kernel_rfl)
      (x := ([.agg [.lit (.int .i64 0), .lit (.int .i64 0), .lit (.int .i64 0), .lit (.int .i64 0)], .nil], [], [])) (by kernel_rfl) rfl (by kernel_rfl)) ?_
  intro W base args ds gs before hval hW _ hk hsz _
  exact contract H enc W base args ds gs before hval hW hsz hk

theorem over : Rows.ssiAloneUptoRow.holds Tryz.pinned (Rows.OpenSpec.upto Rows.ssiAloneSpec) :=
  OpenClaim.holds_of_cond 6 Tryz.f6 rfl rfl rfl rfl rfl rfl rfl ⟨rfl, rfl, rfl, rfl, rfl⟩ rfl rfl rfl rfl rfl (by kernel_rfl) Tryz.func6 (by kernel_rfl)
    (of_decide_eq_true (by kernel_rfl)) (by unfold Func.isWrapper; first | (rw [if_pos (by decide +kernel)]; kernel_rfl) | (rw [if_neg (by decide +kernel)]; exact ⟨rfl, rfl⟩))
    (fun os started H enc _ F => lifted os started H enc F)

end Go.Proofs.YtknppiebncdjmaaGreat.ssiAlone
namespace Go.Proofs.YtknppiebncdjmaaGreat
/-- The given statement. -/
theorem ssiAlone_holds : Rows.SsiAloneUptoSaid := ssiAlone.over
end Go.Proofs.YtknppiebncdjmaaGreat
