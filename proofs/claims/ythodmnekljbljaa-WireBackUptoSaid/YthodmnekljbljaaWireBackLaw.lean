/-
  'None' is true for every input of bulk at most 1048576, leaves its arguments as they were, and returns without a panic or a data race: the given statement Rows.WireBackUptoSaid.
  Conditions: none but what the statement's own row says (its bound on what is read).
-/
import Derived.Test.YthodmnekljbljaaRows
import Derived.Test.YthodmnekljbljaaWireBackWalk
import Derived.Test.YthodmnekljbljaaOpen
import Derived.Test.YthodmnekljbljaaBulk
import Derived.JoinedCond
import Derived.Deep.CondSized
namespace Go.Proofs.Ythodmnekljbljaa.wireBack
open Go.Joins Go.Deep Go.ChangeShapes Go.WideShapes Go.ChangeAt Go.RowKit
open Go.ChangeMaps (open_string shut_string)
set_option linter.unusedVariables false

theorem own : ownKnob Try.prog.godebug = none := by kernel_rfl
theorem laidOut : laidOutB Try.prog = true := by kernel_rfl
theorem cells5 : Try.prog.cellsOf 5 = 1 := by kernel_rfl
theorem bytes5 : Try.prog.bytesOf 5 = 1 := by kernel_rfl

set_option maxRecDepth 100000 in
theorem contract (H : Type) (enc : TypeId × Value → H) (W : World) (base : Nat) (args : Array Value) (ds gs : List (DataW H)) (before : List MemPlace)
    (hval : ∀ (j : Nat) t v, Try.f9.params[j]? = some t → args[j]? = some v → Value.okWide Try.prog W .any base t v)
    (hW : DataW.Whole enc Try.prog Try.f9.params.toList Rows.wireBackSpec.vars false W args.toList ds gs before)
    (hsz0 : (DataW.weightsEach Try.prog (Try.f9.params.toList ++ Rows.wireBackSpec.plain.varTypes Try.prog) (ds ++ gs)).all (· ≤ reachBytes) = true)
    (hk : Rows.uptoSmall H (ds ++ gs) = true) :
    Calls Try.prog 9 args W fun e W' => ∃ v, e = .returned v ∧ Rows.wireBackSpec.post enc Try.prog Try.f9 false true false false W args v W' := by
  have hW' := hW
  obtain ⟨p, q, hA0, hV, rfl, hfz, hnd⟩ := hW
  have hA : DataW.TrodAll enc Try.prog W 0 (fun _ => true) true Try.f9.params.toList args.toList ds p := hA0
  rw [Try.params9] at hA hval
  obtain ⟨v0, vs0, d0, ds0, p0, q0, hargs, rfl, rfl, h0, r0⟩ := trodAll_cons hA
  obtain ⟨rfl, rfl, rfl⟩ := trodAll_nil r0
  obtain rfl : args = #[v0] := by cases args; simp_all
  obtain ⟨rfl, rfl⟩ := trodVars_none hV
  have hsz : (DataW.weightsEach Try.prog [52] [d0]).all (· ≤ reachBytes) = true := by
    have e : Try.f9.params.toList ++ Rows.wireBackSpec.plain.varTypes Try.prog = [52] := by rw [Try.params9]; rfl
    rw [e] at hsz0; exact hsz0
  have hb : Rows.uptoBulkAll [d0] ≤ 1048576 := of_decide_eq_true hk
  have k0 := h0
  have lt0 : ∀ x ∈ p0, x.block < W.heap.size := by obtain ⟨m, hm⟩ := k0; exact DataW.trod_lt m _ _ _ hm
  have l0 := light_each hsz (j := 0) rfl rfl
  have b0 : Rows.uptoBulk d0 ≤ 1048576 := Nat.le_trans (bulk_part (l := [d0]) (j := 0) rfl) hb
  obtain ⟨fv0, fy0, fm0, rfl, hvl0, hyl0, hd0, hf0⟩ := open_struct Try.underlying52 (by kernel_rfl) (by kernel_rfl) (hval 0 52 v0 rfl rfl) h0
  subst hd0
  match fv0, hvl0, fy0, hyl0 with
  | [g0_0, g0_1, g0_2, g0_3, g0_4], _, [y0_0, y0_1, y0_2, y0_3, y0_4], _ =>
    have t0_0 : DataW.trod enc Try.prog W 0 (fun _ => true) true fm0 22 [g0_0] = some y0_0 := hf0 0 _ rfl
    obtain ⟨a0_0, rfl, w0_0⟩ := open_num Try.underlying22 t0_0
    have ha0_0 := wf_u64 w0_0
    have t0_1 : DataW.trod enc Try.prog W 0 (fun _ => true) true fm0 2 [g0_1] = some y0_1 := hf0 1 _ rfl
    obtain ⟨a0_1, rfl, w0_1⟩ := open_num Try.underlying2 t0_1
    have ha0_1 := wf_i64 w0_1
    have t0_2 : DataW.trod enc Try.prog W 0 (fun _ => true) true fm0 9 [g0_2] = some y0_2 := hf0 2 _ rfl
    obtain ⟨a0_2, rfl, hd0_2⟩ := open_str Try.underlying9 t0_2
    have ha0_2 : a0_2.size ≤ 1048576 := by
      have h : Rows.uptoBulk y0_2.1 ≤ 1048576 := bulk_field (l := [y0_0.1, y0_1.1, y0_2.1, y0_3.1, y0_4.1]) (j := 2) rfl b0; rw [hd0_2] at h; have h' := bulk_string h; rw [Array.length_toList] at h'; exact h'
    have t0_3 : DataW.trod enc Try.prog W 0 (fun _ => true) true fm0 25 [g0_3] = some y0_3 := hf0 3 _ rfl
    obtain ⟨A0_3, n0_3, c0_3, z0_3, rfl, hr0_3, hn0_3, _, hd0_3⟩ := open_bytes Try.underlying25 Try.underlying5 cells5 t0_3
    have hb0_3 : Rows.uptoBulk y0_3.1 ≤ 1048576 := bulk_field (l := [y0_0.1, y0_1.1, y0_2.1, y0_3.1, y0_4.1]) (j := 3) rfl b0
    have hc0_3 := bulk_bytes hb0_3 hd0_3
    have t0_4 : DataW.trod enc Try.prog W 0 (fun _ => true) true fm0 25 [g0_4] = some y0_4 := hf0 4 _ rfl
    obtain ⟨A0_4, n0_4, c0_4, z0_4, rfl, hr0_4, hn0_4, _, hd0_4⟩ := open_bytes Try.underlying25 Try.underlying5 cells5 t0_4
    have hb0_4 : Rows.uptoBulk y0_4.1 ≤ 1048576 := bulk_field (l := [y0_0.1, y0_1.1, y0_2.1, y0_3.1, y0_4.1]) (j := 4) rfl b0
    have hc0_4 := bulk_bytes hb0_4 hd0_4
    refine (walk_WireBack _ _ _ _ _ _ _ _ _ _ _ W ha0_0 ha0_1 ha0_2 hr0_3 hn0_3 hc0_3 hr0_4 hn0_4 hc0_4).mono fun e W' ⟨he, bel⟩ => ?_
    subst he
    exact ⟨_, rfl, _, _, _, [], _, [], hW', trodAll_mk1 (shut_bool Try.underlying4 _), (trodAll_cons_mk (Below.trod laidOut (by kernel_rfl) (of_decide_eq_true (by kernel_rfl)) k0 bel lt0) trodAll_mk0), rfl, bel.frame _, fun h => by cases h⟩

set_option maxRecDepth 100000 in
theorem lifted (os : Os) (started : os.Started) (H : Type) (enc : TypeId × Value → H) (F : Stop.Interp) :
    ReturnsInHanded {} Try.checked os 9 .any ((Rows.OpenSpec.upto Rows.wireBackSpec).pre6 enc Try.prog Try.f9 Rows.wireBackUptoRow.domain false) (((Rows.OpenSpec.upto Rows.wireBackSpec).at F).post enc Try.prog Try.f9 false true false false) := by
  refine returnsInHanded_of_cond_sized (C := Try.checked) (s := (Rows.OpenSpec.upto Rows.wireBackSpec)) (k := Rows.uptoSmall) rfl own started (by kernel_rfl) Try.func9
    (OpenSpec.witness (enc := enc) (C := Try.checked) (s := (Rows.OpenSpec.upto Rows.wireBackSpec)) (k := Rows.uptoSmall) rfl false ⟨#[], #[.agg #[.int .u64 0, .int .i64 0, .string .empty, .slice none 0 0, .slice none 0 0]], []⟩ 8 (by kernel_rfl) (by kernel_rfl) (by kernel_rfl)
      (x := ([.agg [.lit (.int .u64 0), .lit (.int .i64 0), .lit (.string []), .nil, .nil]], [], [])) (by kernel_rfl) rfl (by kernel_rfl)) ?_
  intro W base args ds gs before hval hW _ hk hsz _
  exact contract H enc W base args ds gs before hval hW hsz hk

theorem over : Rows.wireBackUptoRow.holds Try.pinned (Rows.OpenSpec.upto Rows.wireBackSpec) :=
  OpenClaim.holds_of_cond 9 Try.f9 rfl rfl rfl rfl rfl rfl rfl ⟨rfl, rfl, rfl, rfl, rfl⟩ rfl rfl rfl rfl rfl (by kernel_rfl) Try.func9 (by kernel_rfl)
    (of_decide_eq_true (by kernel_rfl)) (by unfold Func.isWrapper; first | (rw [if_pos (by decide +kernel)]; kernel_rfl) | (rw [if_neg (by decide +kernel)]; exact ⟨rfl, rfl⟩))
    (fun os started H enc _ F => lifted os started H enc F)

end Go.Proofs.Ythodmnekljbljaa.wireBack
namespace Go.Proofs.Ythodmnekljbljaa
/-- The given statement. -/
theorem wireBack_holds : Rows.WireBackUptoSaid := wireBack.over
end Go.Proofs.Ythodmnekljbljaa
