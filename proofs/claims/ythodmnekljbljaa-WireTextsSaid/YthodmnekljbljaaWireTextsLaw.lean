/-
  'None' is true for every input, leaves its arguments as they were, and returns without a panic or a data race: the given statement Rows.WireTextsSaid.
  Conditions: none but what the statement's own row says.
-/
import Derived.Test.YthodmnekljbljaaRows
import Derived.Test.YthodmnekljbljaaWireTextsWalk
import Derived.Test.YthodmnekljbljaaOpen
namespace Go.Proofs.Ythodmnekljbljaa.wireTexts
open Go.Joins Go.Deep Go.ChangeShapes Go.WideShapes Go.ChangeAt Go.RowKit
open Go.ChangeMaps (open_string shut_string)
set_option linter.unusedVariables false

theorem own : ownKnob Try.prog.godebug = none := by kernel_rfl
theorem laidOut : laidOutB Try.prog = true := by kernel_rfl
theorem cells5 : Try.prog.cellsOf 5 = 1 := by kernel_rfl
theorem bytes5 : Try.prog.bytesOf 5 = 1 := by kernel_rfl

set_option maxRecDepth 100000 in
theorem contract (H : Type) (enc : TypeId × Value → H) (W : World) (base : Nat) (args : Array Value) (ds gs : List (DataW H)) (before : List MemPlace)
    (hval : ∀ (j : Nat) t v, Try.f5.params[j]? = some t → args[j]? = some v → Value.okWide Try.prog W .any base t v)
    (hW : DataW.Whole enc Try.prog Try.f5.params.toList Rows.wireTextsSpec.vars false W args.toList ds gs before)
    (hsz0 : (DataW.weightsEach Try.prog (Try.f5.params.toList ++ Rows.wireTextsSpec.plain.varTypes Try.prog) (ds ++ gs)).all (· ≤ reachBytes) = true) :
    Calls Try.prog 5 args W fun e W' => ∃ v, e = .returned v ∧ Rows.wireTextsSpec.post enc Try.prog Try.f5 false true false false W args v W' := by
  have hW' := hW
  obtain ⟨p, q, hA0, hV, rfl, hfz, hnd⟩ := hW
  have hA : DataW.TrodAll enc Try.prog W 0 (fun _ => true) true Try.f5.params.toList args.toList ds p := hA0
  rw [Try.params5] at hA hval
  obtain ⟨v0, vs0, d0, ds0, p0, q0, hargs, rfl, rfl, h0, r0⟩ := trodAll_cons hA
  obtain ⟨rfl, rfl, rfl⟩ := trodAll_nil r0
  obtain rfl : args = #[v0] := by cases args; simp_all
  obtain ⟨rfl, rfl⟩ := trodVars_none hV
  have hsz : (DataW.weightsEach Try.prog [36] [d0]).all (· ≤ reachBytes) = true := by
    have e : Try.f5.params.toList ++ Rows.wireTextsSpec.plain.varTypes Try.prog = [36] := by rw [Try.params5]; rfl
    rw [e] at hsz0; exact hsz0
  have k0 := h0
  have lt0 : ∀ x ∈ p0, x.block < W.heap.size := by obtain ⟨m, hm⟩ := k0; exact DataW.trod_lt m _ _ _ hm
  have l0 := light_each hsz (j := 0) rfl rfl
  obtain ⟨fv0, fy0, fm0, rfl, hvl0, hyl0, hd0, hf0⟩ := open_struct Try.underlying36 (by kernel_rfl) (by kernel_rfl) (hval 0 36 v0 rfl rfl) h0
  subst hd0
  match fv0, hvl0, fy0, hyl0 with
  | [g0_0, g0_1, g0_2, g0_3], _, [y0_0, y0_1, y0_2, y0_3], _ =>
    have t0_0 : DataW.trod enc Try.prog W 0 (fun _ => true) true fm0 9 [g0_0] = some y0_0 := hf0 0 _ rfl
    obtain ⟨a0_0, rfl, hd0_0⟩ := open_str Try.underlying9 t0_0
    have ha0_0 : a0_0.size ≤ 140737488351232 := by
      have h : Light Try.prog 9 y0_0.1 := light_field Try.underlying36 l0 (j := 0) rfl rfl; rw [hd0_0] at h; have h' := light_string h; rw [Array.length_toList] at h'; exact h'
    have t0_1 : DataW.trod enc Try.prog W 0 (fun _ => true) true fm0 25 [g0_1] = some y0_1 := hf0 1 _ rfl
    obtain ⟨A0_1, n0_1, c0_1, z0_1, rfl, hr0_1, hn0_1, _, hd0_1⟩ := open_bytes Try.underlying25 Try.underlying5 cells5 t0_1
    have hl0_1 : Light Try.prog 25 y0_1.1 := light_field Try.underlying36 l0 (j := 1) rfl rfl
    have hc0_1 := light_bytes Try.underlying25 bytes5 hl0_1 hd0_1
    have t0_2 : DataW.trod enc Try.prog W 0 (fun _ => true) true fm0 3 [g0_2] = some y0_2 := hf0 2 _ rfl
    obtain ⟨a0_2, rfl, w0_2⟩ := open_num Try.underlying3 t0_2
    have ha0_2 := wf_i64 w0_2
    have t0_3 : DataW.trod enc Try.prog W 0 (fun _ => true) true fm0 3 [g0_3] = some y0_3 := hf0 3 _ rfl
    obtain ⟨a0_3, rfl, w0_3⟩ := open_num Try.underlying3 t0_3
    have ha0_3 := wf_i64 w0_3
    refine (walk_WireTexts _ _ _ _ _ _ _ W ha0_0 hr0_1 hn0_1 hc0_1 ha0_2 ha0_3).mono fun e W' ⟨he, bel⟩ => ?_
    subst he
    exact ⟨_, rfl, _, _, _, [], _, [], hW', trodAll_mk1 (shut_bool Try.underlying4 _), (trodAll_cons_mk (Below.trod laidOut (by kernel_rfl) (of_decide_eq_true (by kernel_rfl)) k0 bel lt0) trodAll_mk0), rfl, bel.frame _, fun h => by cases h⟩

set_option maxRecDepth 100000 in
theorem lifted (os : Os) (started : os.Started) (H : Type) (enc : TypeId × Value → H) :
    ReturnsInHanded {} Try.checked os 5 .any (Rows.wireTextsSpec.pre6 enc Try.prog Try.f5 Rows.wireTextsRow.domain false) (Rows.wireTextsSpec.post enc Try.prog Try.f5 false true false false) := by
  refine returnsInHanded_of_change_sized (C := Try.checked) own started (by kernel_rfl) Try.func5
    (ChangeSpec.witness6 (enc := enc) (C := Try.checked) false ⟨#[], #[.agg #[.string .empty, .slice none 0 0, .int .i64 0, .int .i64 0]], []⟩ 8 (by kernel_rfl) (by kernel_rfl) (by kernel_rfl) (by kernel_rfl)) ?_
  intro W base args ds gs before hval hW _ hsz _
  exact contract H enc W base args ds gs before hval hW hsz

theorem over : Rows.wireTextsRow.holds Try.pinned (OpenSpec.ofChange Rows.wireTextsSpec) :=
  OpenClaim.holds_of_wide 5 Try.f5 rfl rfl rfl rfl rfl rfl rfl ⟨rfl, rfl, rfl, rfl, rfl⟩ rfl rfl rfl rfl rfl (by kernel_rfl) Try.func5 (by kernel_rfl)
    (of_decide_eq_true (by kernel_rfl)) (by unfold Func.isWrapper; first | (rw [if_pos (by decide +kernel)]; kernel_rfl) | (rw [if_neg (by decide +kernel)]; exact ⟨rfl, rfl⟩))
    (fun os started H enc _ => lifted os started H enc)

end Go.Proofs.Ythodmnekljbljaa.wireTexts
namespace Go.Proofs.Ythodmnekljbljaa
/-- The given statement. -/
theorem wireTexts_holds : Rows.WireTextsSaid := wireTexts.over
end Go.Proofs.Ythodmnekljbljaa
