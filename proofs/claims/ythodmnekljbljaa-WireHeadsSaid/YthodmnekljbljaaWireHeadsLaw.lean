/-
  'None' is true for every input, leaves its arguments as they were, and returns without a panic or a data race: the given statement Rows.WireHeadsSaid.
  Conditions: none but what the statement's own row says.
-/
import Derived.Test.YthodmnekljbljaaRows
import Derived.Test.YthodmnekljbljaaWireHeadsWalk
import Derived.Test.YthodmnekljbljaaOpen
namespace Go.Proofs.Ythodmnekljbljaa.wireHeads
open Go.Joins Go.Deep Go.ChangeShapes Go.WideShapes Go.ChangeAt Go.RowKit
open Go.ChangeMaps (open_string shut_string)
set_option linter.unusedVariables false

theorem own : ownKnob Try.prog.godebug = none := by kernel_rfl
theorem laidOut : laidOutB Try.prog = true := by kernel_rfl
theorem cells5 : Try.prog.cellsOf 5 = 1 := by kernel_rfl
theorem bytes5 : Try.prog.bytesOf 5 = 1 := by kernel_rfl

set_option maxRecDepth 100000 in
theorem contract (H : Type) (enc : TypeId × Value → H) (W : World) (base : Nat) (args : Array Value) (ds gs : List (DataW H)) (before : List MemPlace)
    (hval : ∀ (j : Nat) t v, Try.f11.params[j]? = some t → args[j]? = some v → Value.okWide Try.prog W .any base t v)
    (hW : DataW.Whole enc Try.prog Try.f11.params.toList Rows.wireHeadsSpec.vars false W args.toList ds gs before)
    (hsz0 : (DataW.weightsEach Try.prog (Try.f11.params.toList ++ Rows.wireHeadsSpec.plain.varTypes Try.prog) (ds ++ gs)).all (· ≤ reachBytes) = true) :
    Calls Try.prog 11 args W fun e W' => ∃ v, e = .returned v ∧ Rows.wireHeadsSpec.post enc Try.prog Try.f11 false true false false W args v W' := by
  have hW' := hW
  obtain ⟨p, q, hA0, hV, rfl, hfz, hnd⟩ := hW
  have hA : DataW.TrodAll enc Try.prog W 0 (fun _ => true) true Try.f11.params.toList args.toList ds p := hA0
  rw [Try.params11] at hA hval
  obtain ⟨v0, vs0, d0, ds0, p0, q0, hargs, rfl, rfl, h0, r0⟩ := trodAll_cons hA
  obtain ⟨v1, vs1, d1, ds1, p1, q1, rfl, rfl, rfl, h1, r1⟩ := trodAll_cons r0
  obtain ⟨rfl, rfl, rfl⟩ := trodAll_nil r1
  obtain rfl : args = #[v0, v1] := by cases args; simp_all
  obtain ⟨rfl, rfl⟩ := trodVars_none hV
  have hsz : (DataW.weightsEach Try.prog [52, 52] [d0, d1]).all (· ≤ reachBytes) = true := by
    have e : Try.f11.params.toList ++ Rows.wireHeadsSpec.plain.varTypes Try.prog = [52, 52] := by rw [Try.params11]; rfl
    rw [e] at hsz0; exact hsz0
  have k0 := h0
  have lt0 : ∀ x ∈ p0, x.block < W.heap.size := by obtain ⟨m, hm⟩ := k0; exact DataW.trod_lt m _ _ _ hm
  have l0 := light_each hsz (j := 0) rfl rfl
  have k1 := h1
  have lt1 : ∀ x ∈ p1, x.block < W.heap.size := by obtain ⟨m, hm⟩ := k1; exact DataW.trod_lt m _ _ _ hm
  have l1 := light_each hsz (j := 1) rfl rfl
  obtain ⟨fv0, fy0, fm0, rfl, hvl0, hyl0, hd0, hf0⟩ := open_struct Try.underlying52 (by kernel_rfl) (by kernel_rfl) (hval 0 52 v0 rfl rfl) h0
  subst hd0
  match fv0, hvl0, fy0, hyl0 with
  | [g0_0, g0_1, g0_2, g0_3, g0_4], _, [y0_0, y0_1, y0_2, y0_3, y0_4], _ =>
    have t0_0 : DataW.trod enc Try.prog W 0 (fun _ => true) true fm0 22 [g0_0] = some y0_0 := hf0 0 _ rfl
    obtain ⟨a0_0, rfl, w0_0⟩ := open_num Try.underlying22 t0_0
    have ha0_0 := wf_u64 w0_0
    have t0_1 : DataW.trod enc Try.prog W 0 (fun _ => true) true fm0 2 [g0_1] = some y0_1 := hf0 1 _ rfl
    obtain ⟨a0_1, rfl, w0_1⟩ := open_num Try.underlying2 t0_1
    have ha0_1 := wf_i64 w0_1
    have t0_2 : DataW.trod enc Try.prog W 0 (fun _ => true) true fm0 9 [g0_2] = some y0_2 := hf0 2 _ rfl
    obtain ⟨a0_2, rfl, hd0_2⟩ := open_str Try.underlying9 t0_2
    have ha0_2 : a0_2.size ≤ 140737488351232 := by
      have h : Light Try.prog 9 y0_2.1 := light_field Try.underlying52 l0 (j := 2) rfl rfl; rw [hd0_2] at h; have h' := light_string h; rw [Array.length_toList] at h'; exact h'
    have t0_3 : DataW.trod enc Try.prog W 0 (fun _ => true) true fm0 25 [g0_3] = some y0_3 := hf0 3 _ rfl
    obtain ⟨A0_3, n0_3, c0_3, z0_3, rfl, hr0_3, hn0_3, _, hd0_3⟩ := open_bytes Try.underlying25 Try.underlying5 cells5 t0_3
    have hl0_3 : Light Try.prog 25 y0_3.1 := light_field Try.underlying52 l0 (j := 3) rfl rfl
    have hc0_3 := light_bytes Try.underlying25 bytes5 hl0_3 hd0_3
    have t0_4 : DataW.trod enc Try.prog W 0 (fun _ => true) true fm0 25 [g0_4] = some y0_4 := hf0 4 _ rfl
    obtain ⟨A0_4, n0_4, c0_4, z0_4, rfl, hr0_4, hn0_4, _, hd0_4⟩ := open_bytes Try.underlying25 Try.underlying5 cells5 t0_4
    have hl0_4 : Light Try.prog 25 y0_4.1 := light_field Try.underlying52 l0 (j := 4) rfl rfl
    have hc0_4 := light_bytes Try.underlying25 bytes5 hl0_4 hd0_4
    obtain ⟨fv1, fy1, fm1, rfl, hvl1, hyl1, hd1, hf1⟩ := open_struct Try.underlying52 (by kernel_rfl) (by kernel_rfl) (hval 1 52 v1 rfl rfl) h1
    subst hd1
    match fv1, hvl1, fy1, hyl1 with
    | [g1_0, g1_1, g1_2, g1_3, g1_4], _, [y1_0, y1_1, y1_2, y1_3, y1_4], _ =>
      have t1_0 : DataW.trod enc Try.prog W 0 (fun _ => true) true fm1 22 [g1_0] = some y1_0 := hf1 0 _ rfl
      obtain ⟨a1_0, rfl, w1_0⟩ := open_num Try.underlying22 t1_0
      have ha1_0 := wf_u64 w1_0
      have t1_1 : DataW.trod enc Try.prog W 0 (fun _ => true) true fm1 2 [g1_1] = some y1_1 := hf1 1 _ rfl
      obtain ⟨a1_1, rfl, w1_1⟩ := open_num Try.underlying2 t1_1
      have ha1_1 := wf_i64 w1_1
      have t1_2 : DataW.trod enc Try.prog W 0 (fun _ => true) true fm1 9 [g1_2] = some y1_2 := hf1 2 _ rfl
      obtain ⟨a1_2, rfl, hd1_2⟩ := open_str Try.underlying9 t1_2
      have ha1_2 : a1_2.size ≤ 140737488351232 := by
        have h : Light Try.prog 9 y1_2.1 := light_field Try.underlying52 l1 (j := 2) rfl rfl; rw [hd1_2] at h; have h' := light_string h; rw [Array.length_toList] at h'; exact h'
      have t1_3 : DataW.trod enc Try.prog W 0 (fun _ => true) true fm1 25 [g1_3] = some y1_3 := hf1 3 _ rfl
      obtain ⟨A1_3, n1_3, c1_3, z1_3, rfl, hr1_3, hn1_3, _, hd1_3⟩ := open_bytes Try.underlying25 Try.underlying5 cells5 t1_3
      have hl1_3 : Light Try.prog 25 y1_3.1 := light_field Try.underlying52 l1 (j := 3) rfl rfl
      have hc1_3 := light_bytes Try.underlying25 bytes5 hl1_3 hd1_3
      have t1_4 : DataW.trod enc Try.prog W 0 (fun _ => true) true fm1 25 [g1_4] = some y1_4 := hf1 4 _ rfl
      obtain ⟨A1_4, n1_4, c1_4, z1_4, rfl, hr1_4, hn1_4, _, hd1_4⟩ := open_bytes Try.underlying25 Try.underlying5 cells5 t1_4
      have hl1_4 : Light Try.prog 25 y1_4.1 := light_field Try.underlying52 l1 (j := 4) rfl rfl
      have hc1_4 := light_bytes Try.underlying25 bytes5 hl1_4 hd1_4
      refine (walk_WireHeads _ _ _ _ _ _ _ _ _ _ _ _ _ _ _ _ _ _ _ _ _ _ W ha0_0 ha0_1 ha0_2 hr0_3 hn0_3 hc0_3 hr0_4 hn0_4 hc0_4 ha1_0 ha1_1 ha1_2 hr1_3 hn1_3 hc1_3 hr1_4 hn1_4 hc1_4).mono fun e W' ⟨he, bel⟩ => ?_
      subst he
      exact ⟨_, rfl, _, _, _, [], _, [], hW', trodAll_mk1 (shut_bool Try.underlying4 _), (trodAll_cons_mk (Below.trod laidOut (by kernel_rfl) (of_decide_eq_true (by kernel_rfl)) k0 bel lt0) (trodAll_cons_mk (Below.trod laidOut (by kernel_rfl) (of_decide_eq_true (by kernel_rfl)) k1 bel lt1) trodAll_mk0)), rfl, bel.frame _, fun h => by cases h⟩

set_option maxRecDepth 100000 in
theorem lifted (os : Os) (started : os.Started) (H : Type) (enc : TypeId × Value → H) :
    ReturnsInHanded {} Try.checked os 11 .any (Rows.wireHeadsSpec.pre6 enc Try.prog Try.f11 Rows.wireHeadsRow.domain false) (Rows.wireHeadsSpec.post enc Try.prog Try.f11 false true false false) := by
  refine returnsInHanded_of_change_sized (C := Try.checked) own started (by kernel_rfl) Try.func11
    (ChangeSpec.witness6 (enc := enc) (C := Try.checked) false ⟨#[], #[.agg #[.int .u64 0, .int .i64 0, .string .empty, .slice none 0 0, .slice none 0 0], .agg #[.int .u64 0, .int .i64 0, .string .empty, .slice none 0 0, .slice none 0 0]], []⟩ 8 (by kernel_rfl) (by kernel_rfl) (by kernel_rfl) (by kernel_rfl)) ?_
  intro W base args ds gs before hval hW _ hsz _
  exact contract H enc W base args ds gs before hval hW hsz

theorem over : Rows.wireHeadsRow.holds Try.pinned (OpenSpec.ofChange Rows.wireHeadsSpec) :=
  OpenClaim.holds_of_wide 11 Try.f11 rfl rfl rfl rfl rfl rfl rfl ⟨rfl, rfl, rfl, rfl, rfl⟩ rfl rfl rfl rfl rfl (by kernel_rfl) Try.func11 (by kernel_rfl)
    (of_decide_eq_true (by kernel_rfl)) (by unfold Func.isWrapper; first | (rw [if_pos (by decide +kernel)]; kernel_rfl) | (rw [if_neg (by decide +kernel)]; exact ⟨rfl, rfl⟩))
    (fun os started H enc _ => lifted os started H enc)

end Go.Proofs.Ythodmnekljbljaa.wireHeads
namespace Go.Proofs.Ythodmnekljbljaa
/-- The given statement. -/
theorem wireHeads_holds : Rows.WireHeadsSaid := wireHeads.over
end Go.Proofs.Ythodmnekljbljaa
