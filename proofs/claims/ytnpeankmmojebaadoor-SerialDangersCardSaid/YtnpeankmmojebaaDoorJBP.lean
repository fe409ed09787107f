import Derived.Test.YtnpeankmmojebaaDoorJBM
import Derived.Test.YtnpeankmmojebaaDoorJBO
import Derived.Test.YtnpeankmmojebaaDoorSeFr
import Derived.Test.YtnpeankmmojebaaDoorJBH
import Derived.Test.YtnpeankmmojebaaDoorJAA
import Derived.ProofKit
import Derived.OpenShut
import Derived.ShutString
import Derived.ChangeOld
import Derived.SizedLaws
import Derived.Lib.SmallJoins
import Derived.Deep.Fields
/- Layer 11: the reference's Ordered. -/
set_option linter.unusedVariables false
namespace Go.Proofs.YtnpeankmmojebaaDoor
set_option maxRecDepth 100000
set_option maxRecDepth 100000
open Go.RowKit

open Classical in
noncomputable def ordB (cs l : List Int) : Bool := decide (OrdP cs l)
theorem ordB_yes {cs l : List Int} (h : OrdP cs l) : ordB cs l = true := by unfold ordB; simpa using h
theorem ordB_no {cs l : List Int} (h : ¬ OrdP cs l) : ordB cs l = false := by unfold ordB; simpa using h
section
variable {w : World} {A B : Option Addr} {n c m d : Nat} {cs : List Int} {ac : List Ac}
set_option maxHeartbeats 32000000 in
theorem wrOrdered (h : Hist w A n c B m d cs ac) (hn : n ≤ 4096) {oA : Option Addr} {on oc : Nat} {l : List Int} (hs : SB w oA on (numC l)) (hl : l.length = on) :
    Calls Tryd.prog 11 #[histV A n c B m d, .slice oA on oc] w fun e w' => e = .returned (.bool (ordB cs l)) ∧ Below w.heap.size w w' := by
  obtain ⟨r, hr⟩ : ∃ r, ordB cs l = r := ⟨_, rfl⟩
  have HRR := Lib.hid hr
  rw [hr]
  clear hr
  obtain ⟨W0, hB⟩ := h.box
  have HB := Lib.hid hB
  have HW := Lib.hid hB.eq
  have x0 := hB.x0
  have x1 := hB.x1
  have HS := Lib.hid (hs.gw hB.below)
  have HL := Lib.hid hl
  have HN := Lib.hid hn
  have HCL := Lib.hid h.cl
  have CP := Lib.hid (fun (W : World) (hW : Below W0.heap.size W0 W) (t : Int) => wrPlace (hB.h.gw hW) hn t)
  unfold histV at CP ⊢
  by_cases hne : on = n
  · subst hne
    have CA := Lib.hid (fun (W : World) (hW : Below W0.heap.size W0 W) (t : Int) => wrAt (c := oc) (HS.out.gw hW) hl hn t)
    clear h hB hs hl hn
    go_enter Tryd.func11, Tryd.ntmps11
    go_upto_region 1 with fail
    rw [HW.out]
    go_upto_region 4 with fail
    go_loopw [5] (fun i wr => ∃ j : Nat, i = .int .i64 (j : Nat) ∧ j ≤ on ∧ (∀ (i : Nat) x, i < j → l[i]? = some x → x ∈ cs ∧ plcP l x = (i : Int)) ∧ Below W0.heap.size W0 wr) (fun i _ => on - (intOf i).toNat)
    case atStart => exact ⟨0, rfl, Nat.zero_le _, fun i x hi => absurd hi (Nat.not_lt_zero _), Below.refl _ _⟩
    case round =>
      rename World => wr
      obtain ⟨j, rfl, hj, ha, hb⟩ := hrel
      by_cases hlt : j < on
      · obtain ⟨x, hx⟩ : ∃ x, l[j]? = some x := ⟨_, List.getElem?_eq_getElem (by rw [HL.out]; exact hlt)⟩
        obtain ⟨g, o, rfl, c0⟩ := (HS.out.gw hb).num hx
        have k0 := cell_regrown (keep_below x0 hb)
        have k1 := cell_regrown (keep_below x1 hb)
        have k2 := cell_regrown c0
        have HBG := Lib.hid (show ∀ d os, Below W0.heap.size W0 (Go.Sort.grow (redrawn wr d) os) from fun d os => hb.trans ((below_regrown wr d os).mono hb.size))
        have i1 : (j : Int) < (on : Int) := by omega
        have l1 : (j : Int) ≤ 4096 := by have := HN.out; omega
        have l2 : (0 : Int) ≤ (j : Int) := by omega
        have HA := Lib.hid ha
        have HX := Lib.hid hx
        have HLT := Lib.hid hlt
        have HBL := Lib.hid hb
        have cP := fun d os => Calls.regrown_of (CP.out _ (HBG.out d os) x)
        have cA := fun d os => Calls.regrown_of ((CA.out _ (HBG.out d os) x).mono fun e w' h => (⟨h.1, by rw [h.2]; exact Below.refl _ _⟩ : e = .returned (.int .i64 (plcP l x)) ∧ Below (Go.Sort.grow (redrawn wr d) os).heap.size (Go.Sort.grow (redrawn wr d) os) w'))
        clear hx ha hj hlt hb
        by_cases hin : x ∈ cs
        · have h0 : decide (plcP cs x < 0) = false := by have := plcP_neg (l := cs) (n := x); simp; rw [← Int.not_lt]; exact fun k => (this.1 k) hin
          obtain ⟨p1, hp1⟩ : ∃ p, plcP cs x = p := ⟨_, rfl⟩
          rw [hp1] at cP h0
          by_cases hat : plcP l x = (j : Int)
          · rw [hat] at cA
            have HN2 := Lib.hid (show ∀ (i : Nat) z, i < j + 1 → l[i]? = some z → z ∈ cs ∧ plcP l z = (i : Int) from fun i z hi hz => by
              rcases Nat.lt_or_ge i j with k | k
              · exact HA.out i z k hz
              · have e : i = j := by omega
                rw [e, HX.out] at hz
                cases hz
                rw [e]; exact ⟨hin, hat⟩)
            clear hat hin hp1
            go_upto_region 6 with fail
            refine wp_region_quietH (by kernel_rfl) (by kernel_rfl) ?_
            iterate 17 (
              refine wpQuiet_stepH (fun K hK => ?_)
              go_simp
              first
                | (refine hK _ ?_; clear hK K)
                | (apply Exists.intro
                   refine ⟨fun _ => ?_, hK _ ?_⟩
                   · first | (go_at_call 24; exact cP _ _) | (go_at_call 27; exact cA _ _)
                   clear hK K))
            refine wpQuiet_nilH ?_
            intro _ hw'
            obtain ⟨⟨dq, osq⟩, hw''⟩ := hw'
            subst hw''
            obtain ⟨Y, hY⟩ : ∃ Y, Go.Sort.grow (redrawn wr dq) osq = Y := ⟨_, rfl⟩
            have BY := Lib.hid (show Below wr.heap.size wr Y by rw [← hY]; exact below_regrown wr dq osq)
            simp only [hY]
            clear hY k0 k1 k2 cP cA HBG
            go_wp2
            go_roundw
            case rel => exact ⟨j + 1, by go_num, HLT.out, HN2.out, below_next HBL.out BY.out⟩
            case measure => have := HLT.out; simp [intOf]; omega
          · have hat1 : (plcP l x == (j : Int)) = false := by simpa using hat
            have HNO := Lib.hid (show ¬ OrdP cs l from fun k => hat (plcP_of k.2.1 HX.out))
            obtain ⟨p2, hp2⟩ : ∃ p, plcP l x = p := ⟨_, rfl⟩
            rw [hp2] at cA hat1
            clear hat hin hp1 hp2
            go_upto_region 6 with fail
            refine wp_region_quietH (by kernel_rfl) (by kernel_rfl) ?_
            iterate 17 (
              refine wpQuiet_stepH (fun K hK => ?_)
              go_simp
              first
                | (refine hK _ ?_; clear hK K)
                | (apply Exists.intro
                   refine ⟨fun _ => ?_, hK _ ?_⟩
                   · first | (go_at_call 24; exact cP _ _) | (go_at_call 27; exact cA _ _)
                   clear hK K))
            refine wpQuiet_nilH ?_
            intro _ hw'
            obtain ⟨⟨dq, osq⟩, hw''⟩ := hw'
            subst hw''
            obtain ⟨Y, hY⟩ : ∃ Y, Go.Sort.grow (redrawn wr dq) osq = Y := ⟨_, rfl⟩
            have BY := Lib.hid (show Below wr.heap.size wr Y by rw [← hY]; exact below_regrown wr dq osq)
            simp only [hY]
            clear hY k0 k1 k2 cP cA HBG
            go_wp2
            go_ret
            exact ⟨by rw [← HRR.out, ordB_no HNO.out]; rfl, below_next (below_next HB.out.below HBL.out) BY.out⟩
        · have HNO := Lib.hid (show ¬ OrdP cs l from fun k => hin (k.2.2 x (List.mem_of_getElem? HX.out)))
          have h0 : decide (plcP cs x < 0) = true := by have := plcP_neg (l := cs) (n := x); simpa using this.2 hin
          obtain ⟨p1, hp1⟩ : ∃ p, plcP cs x = p := ⟨_, rfl⟩
          rw [hp1] at cP h0
          clear hp1
          clear hin
          go_upto_region 6 with fail
          refine wp_region_quietH (by kernel_rfl) (by kernel_rfl) ?_
          iterate 17 (
            refine wpQuiet_stepH (fun K hK => ?_)
            go_simp
            first
              | (refine hK _ ?_; clear hK K)
              | (apply Exists.intro
                 refine ⟨fun _ => ?_, hK _ ?_⟩
                 · first | (go_at_call 24; exact cP _ _) | (go_at_call 27; exact cA _ _)
                 clear hK K))
          refine wpQuiet_nilH ?_
          intro _ hw'
          obtain ⟨⟨dq, osq⟩, hw''⟩ := hw'
          subst hw''
          obtain ⟨Y, hY⟩ : ∃ Y, Go.Sort.grow (redrawn wr dq) osq = Y := ⟨_, rfl⟩
          have BY := Lib.hid (show Below wr.heap.size wr Y by rw [← hY]; exact below_regrown wr dq osq)
          simp only [hY]
          clear hY k0 k1 k2 cP cA HBG
          go_wp2
          go_ret
          exact ⟨by rw [← HRR.out, ordB_no HNO.out]; rfl, below_next (below_next HB.out.below HBL.out) BY.out⟩
      · obtain rfl : j = on := by omega
        have i1 : ¬ (j : Int) < (j : Int) := by omega
        have HO := Lib.hid (show OrdP cs l from ⟨by rw [HL.out, HCL.out], plcP_nodup.2 fun i x hx => (ha i x (by rw [← HL.out]; exact (List.getElem?_eq_some_iff.1 hx).1) hx).2, fun x hx => by
          obtain ⟨i, hi⟩ := List.mem_iff_getElem?.1 hx
          exact (ha i x (by rw [← HL.out]; exact (List.getElem?_eq_some_iff.1 hi).1) hi).1⟩)
        have HBL := Lib.hid hb
        clear ha hj hlt hb
        go_wp2
        go_ret
        exact ⟨by rw [← HRR.out, ordB_yes HO.out]; rfl, below_next HB.out.below HBL.out⟩
  · have hne1 : ((on : Int) == (n : Int)) = false := by simp; omega
    have HNO := Lib.hid (show ¬ OrdP cs l from fun k => hne (by rw [← HL.out, ← HCL.out]; exact k.1))
    clear h hB hs hl hn hne
    go_enter Tryd.func11, Tryd.ntmps11
    go_upto_region 1 with fail
    rw [HW.out]
    go_wp2
    go_ret
    exact ⟨by rw [← HRR.out, ordB_no HNO.out]; rfl, HB.out.below⟩
end
end Go.Proofs.YtnpeankmmojebaaDoor

/- Layer 11: how long a round may be. -/
namespace Go.Proofs.YtnpeankmmojebaaDoor

theorem RdIs.len {cs : List Int} {ac : List Ac} {l : List Int} (hR : Right cs ac) (h : RdIs cs ac l) : l.length ≤ 4096 := by
  obtain ⟨r, h1, -, rfl⟩ := h
  rw [List.length_map]
  have hn := hR.lc
  rcases h1 with ⟨rfl, -⟩ | ⟨f, k, a1, a2, a3, a4, a5, -⟩
  · simp
  · have : DistIs (edgesP (riseP cs) (graphP cs ac)) k f f := ⟨a2, fun i hi => a3 f i a1 hi⟩
    have := dist_le hR.edOk this
    omega
end Go.Proofs.YtnpeankmmojebaaDoor

/- How the arguments of a law are opened: bytes, texts, numbers, and what their sizes are. No program is named here. -/
namespace Go.Proofs.YtnpeankmmojebaaDoor
set_option maxRecDepth 100000
open Go.Joins Go.Deep Go.ChangeShapes Go.WideShapes Go.ChangeAt Go.RowKit

section
variable {H : Type} {enc : TypeId × Value → H} {P : Program} {w : World} {held : Bool}

theorem wf_i64 {a : Int} (h : (Lit.int .i64 a).wf = true) : -9223372036854775808 ≤ a ∧ a ≤ 9223372036854775807 := by
  simpa [Lit.wf, IntKind.min, IntKind.max, IntKind.bits, IntKind.signed] using h
theorem wf_u64 {a : Int} (h : (Lit.int .u64 a).wf = true) : 0 ≤ a ∧ a ≤ 18446744073709551615 := by
  simpa [Lit.wf, IntKind.min, IntKind.max, IntKind.bits, IntKind.signed] using h
theorem wf_u32 {a : Int} (h : (Lit.int .u32 a).wf = true) : 0 ≤ a ∧ a ≤ 4294967295 := by
  simpa [Lit.wf, IntKind.min, IntKind.max, IntKind.bits, IntKind.signed] using h
theorem wf_u8 {a : Int} (h : (Lit.int .u8 a).wf = true) : 0 ≤ a ∧ a ≤ 255 := by
  simpa [Lit.wf, IntKind.min, IntKind.max, IntKind.bits, IntKind.signed] using h

theorem open_bytes {t e : TypeId} {fuel : Nat} {v : Value} {y : DataW H × List MemPlace} (ht : P.underlying t = some (.slice e)) (he : P.underlying e = some (.int .u8)) (hc : P.cellsOf e = 1)
    (h : DataW.trod enc P w 0 (fun _ => true) held fuel t [v] = some y) :
    ∃ A len cap zs, v = .slice A len cap ∧ RB w A len zs ∧ len ≤ cap ∧ cap ≤ maxLen ∧
      ((y.1 = .nil ∧ cap = 0) ∨ ∃ elems rest, y.1 = .slice elems rest ∧ elems.length + rest.length = cap) := by
  rcases open_ints ht he hc h with ⟨hcs, hy⟩ | ⟨x, l, c, zs, hcs, _, hl, hm, hz, hy, hcell, hwz⟩
  · obtain rfl : v = .slice none 0 0 := by simpa using hcs
    exact ⟨none, 0, 0, [], rfl, RB.empty w _, Nat.le_refl _, by simp [maxLen], .inl ⟨by rw [hy], rfl⟩⟩
  · obtain rfl : v = .slice (some x) l c := by simpa using hcs
    have hz' : zs.length = c := by simpa using hz
    refine ⟨some x, l, c, zs.take l, rfl, ⟨by simp; omega, fun z hzz => ?_, fun _ => ⟨x, rfl, fun j hj => ?_⟩⟩, hl, hm, .inr ⟨_, _, by rw [hy], ?_⟩⟩
    · exact wf_u8 (hwz z (List.mem_of_mem_take hzz))
    · rw [hcell j (by omega)]
      simp [List.getD_eq_getElem?_getD, hj]
    · simp [lits]; omega

/-- A struct of one-cell fields, by value: its fields' values, and each field's reading. -/
theorem open_struct {r : Reach} {b0 : Nat} {t : TypeId} {fs : Array Field} {v : Value} {d : DataW H} {p : List MemPlace} (hs : P.underlying t = some (.struct fs)) (hone : oneCellFields P fs = true) (hC : P.cellsOf t = fs.size)
    (hv : Value.okWide P w r b0 t v) (h : DataW.Trod enc P w 0 (fun _ => true) held t v d p) :
    ∃ (vs : List Value) (ys : List (DataW H × List MemPlace)) (n : Nat), v = .agg vs.toArray ∧ vs.length = fs.size ∧ ys.length = fs.size ∧ d = .agg (ys.map (·.1)) ∧
      ∀ (j : Nat) (f : Field), fs[j]? = some f → DataW.trod enc P w 0 (fun _ => true) held n f.type [vs.getD j undef] = some (ys.getD j (.nil, [])) := by
  obtain ⟨cs, rfl, hsz⟩ := okWide_struct hs hv
  obtain ⟨fuel, hf⟩ := h
  obtain ⟨xs, n, _, hx, hcl, hlen, hg⟩ := DataW.trod_struct hs hf
  have hcl' : cs.toList.length = fs.size := by simpa [Value.cells] using hcl.trans hC
  refine ⟨cs.toList, xs, n, rfl, hcl', hlen, by rw [Prod.mk.injEq] at hx; exact hx.1, fun j f hj => ?_⟩
  obtain ⟨ho, hk⟩ := hone_of hone j f hj
  have hjl : j < fs.size := (Array.getElem?_eq_some_iff.1 hj).1
  have h1 := hg j f hj
  rw [ho, hk] at h1
  have e1 : ((Value.cells (.agg cs)).toList.drop j).take 1 = [cs.toList.getD j undef] := by
    show (cs.toList.drop j).take 1 = _
    rw [List.drop_eq_getElem_cons (by omega)]
    simp [List.getD_eq_getElem?_getD, List.getElem?_eq_getElem (show j < cs.toList.length by omega)]
  rw [e1] at h1
  rw [h1, List.getD_eq_getElem?_getD, List.getElem?_eq_getElem (show j < xs.length by omega)]
  rfl

/-- What a reading weighs is within the reach. -/
def Light (P : Program) (t : TypeId) (d : DataW H) : Prop := ∀ n ∈ d.weights P t, n ≤ reachBytes

theorem light_each {ts : List TypeId} {ds : List (DataW H)} (h : (DataW.weightsEach P ts ds).all (· ≤ reachBytes) = true) {j : Nat} {t : TypeId} {d : DataW H} (ht : ts[j]? = some t) (hd : ds[j]? = some d) : Light P t d :=
  fun n hn => by
    have := List.all_eq_true.1 h n (DataW.weights_mem_each ht hd n hn)
    simpa using this

theorem light_field {t : TypeId} {fs : Array Field} {parts : List (DataW H)} (hs : P.underlying t = some (.struct fs)) (h : Light P t (.agg parts)) {j : Nat} {t' : TypeId} {d : DataW H}
    (ht : (fs.toList.map (·.type))[j]? = some t') (hd : parts[j]? = some d) : Light P t' d :=
  fun n hn => h n (by simp only [DataW.weights, hs]; exact DataW.weights_mem_each ht hd n hn)

theorem light_bytes {t e : TypeId} {d : DataW H} {cap : Nat} (ht : P.underlying t = some (.slice e)) (hb : P.bytesOf e = 1) (h : Light P t d)
    (hd : (d = .nil ∧ cap = 0) ∨ ∃ elems rest, d = .slice elems rest ∧ elems.length + rest.length = cap) : cap ≤ 140737488351232 := by
  rcases hd with ⟨_, rfl⟩ | ⟨elems, rest, rfl, hc⟩
  · omega
  · have := h ((elems.length + rest.length) * P.bytesOf e) (by simp [DataW.weights, ht])
    rw [hb, hc] at this
    simpa [reachBytes] using this

theorem light_string {t : TypeId} {l : List UInt8} (h : Light (H := H) P t (.lit (.string l))) : l.length ≤ 140737488351232 := by
  have := h l.length (by simp [DataW.weights])
  simpa [reachBytes] using this
end

theorem open_str {H : Type} {enc : TypeId × Value → H} {P : Program} {w : World} {held : Bool} {t : TypeId} {fuel : Nat} {v : Value} {y : DataW H × List MemPlace} (ht : P.underlying t = some .string)
    (h : DataW.trod enc P w 0 (fun _ => true) held fuel t [v] = some y) : ∃ s : ByteArray, v = .string s ∧ y.1 = .lit (.string s.data.toList) := by
  obtain ⟨s, h1, h2, _⟩ := DataW.trod_string ht h
  exact ⟨s, by simpa using h1, by rw [h2]⟩
theorem open_num {H : Type} {enc : TypeId × Value → H} {P : Program} {w : World} {held : Bool} {t : TypeId} {k : IntKind} {fuel : Nat} {v : Value} {y : DataW H × List MemPlace} (ht : P.underlying t = some (.int k))
    (h : DataW.trod enc P w 0 (fun _ => true) held fuel t [v] = some y) : ∃ a, v = .int k a ∧ (Lit.int k a).wf = true := by
  obtain ⟨a, h1, h2, h3⟩ := DataW.trod_int ht h
  exact ⟨a, by simpa using h1, h3⟩
theorem open_bit {H : Type} {enc : TypeId × Value → H} {P : Program} {w : World} {held : Bool} {t : TypeId} {fuel : Nat} {v : Value} {y : DataW H × List MemPlace} (ht : P.underlying t = some .bool)
    (h : DataW.trod enc P w 0 (fun _ => true) held fuel t [v] = some y) : ∃ a, v = .bool a := by
  obtain ⟨a, h1, h2⟩ := DataW.trod_bool ht h
  exact ⟨a, by simpa using h1⟩

end Go.Proofs.YtnpeankmmojebaaDoor
