/- Layer 11: slices.Equal at Act, where both are one. -/
import Derived.Test.YtnpeankmmojebaaGreatDoorJBG
set_option linter.unusedVariables false
namespace Go.Proofs.YtnpeankmmojebaaGreatDoor
set_option maxRecDepth 100000
set_option maxRecDepth 100000
open Go.RowKit

theorem neAc (a : Ac) (w : World) : (binOp .neq 44 (.agg #[.int .i64 a.txn, .bool a.wr, .string a.item, .int .i64 a.ver]) (.agg #[.int .i64 a.txn, .bool a.wr, .string a.item, .int .i64 a.ver])).run Tryz.prog w = .ok (.bool false) w := by
  obtain ⟨x1, x2, x3, x4⟩ := a
  have hs : Tryz.prog.underlying 44 = some (.struct (Tryz.prog.fieldsOf 44)) := by kernel_rfl
  have hp : Tryz.prog.stoodInHeld 44 = false := by kernel_rfl
  have hf : (Tryz.prog.fieldsOf 44).toList.map (fun f => (f.name == "_", f.type, f.offset)) = [(false, 3, 0), (false, 4, 1), (false, 9, 2), (false, 3, 3)] := by kernel_rfl
  have hi := Tryz.underlying3
  have hb := Tryz.underlying4
  have hu := Tryz.underlying9
  rw [run_neq_struct, run_equalIn_struct w 9999 _ _ _ hs hp]
  generalize (Tryz.prog.fieldsOf 44).toList = fs at hf
  obtain ⟨f, fs1, rfl, hf1, hf⟩ := List.map_eq_cons_iff.1 hf
  obtain ⟨g, fs2, rfl, hg1, hf⟩ := List.map_eq_cons_iff.1 hf
  obtain ⟨h, fs3, rfl, hh1, hf⟩ := List.map_eq_cons_iff.1 hf
  obtain ⟨k, fs4, rfl, hk1, hf⟩ := List.map_eq_cons_iff.1 hf
  have : fs4 = [] := by simpa using hf
  subst this
  simp only [Prod.mk.injEq] at hf1 hg1 hh1 hk1
  obtain ⟨f1, f2, f3⟩ := hf1
  obtain ⟨g1, g2, g3⟩ := hg1
  obtain ⟨h1, h2, h3⟩ := hh1
  obtain ⟨k1, k2, k3⟩ := hk1
  have f1' : f.name ≠ "_" := by simpa using f1
  have g1' : g.name ≠ "_" := by simpa using g1
  have h1' : h.name ≠ "_" := by simpa using h1
  have k1' : k.name ≠ "_" := by simpa using k1
  simp only [Op.eqFields, f1', g1', h1', k1', f2, f3, g2, g3, h2, h3, k2, k3, ne_eq, not_false_eq_true, if_true, Sem.run_bind]
  have e1 : (part 3 #[Value.int .i64 x1, .bool x2, .string x3, .int .i64 x4] 0).run Tryz.prog w = .ok (.int .i64 x1) w := by go_simp
  have e2 : (part 4 #[Value.int .i64 x1, .bool x2, .string x3, .int .i64 x4] 1).run Tryz.prog w = .ok (.bool x2) w := by go_simp
  have e3 : (part 9 #[Value.int .i64 x1, .bool x2, .string x3, .int .i64 x4] 2).run Tryz.prog w = .ok (.string x3) w := by go_simp
  have e4 : (part 3 #[Value.int .i64 x1, .bool x2, .string x3, .int .i64 x4] 3).run Tryz.prog w = .ok (.int .i64 x4) w := by go_simp
  simp [e1, e2, e3, e4, Result.andThen_ok, run_equalIn_int w 9998 _ _ _ _ _ hi, run_equalIn_string w 9998 _ _ _ hu, run_equalIn_bool w 9998 _ _ _ hb, Sem.run_ite]
theorem AL.at_ {w : World} {A : Option Addr} {g : List Ac} (h : SB w A (4 * g.length) (cellsE acC g)) {j : Nat} {x : Ac} (hx : g[j]? = some x) : ∃ b o, A = some ⟨b, o, none⟩ ∧ w.cell? ⟨b, o + j * 4, none⟩ = some (.int .i64 x.txn) ∧ w.cell? ⟨b, o + j * 4 + 1, none⟩ = some (.bool x.wr) ∧ w.cell? ⟨b, o + j * 4 + 2, none⟩ = some (.string x.item) ∧ w.cell? ⟨b, o + j * 4 + 3, none⟩ = some (.int .i64 x.ver) := by
  obtain ⟨b, o, e, hc⟩ := h.elE acC_len (by omega) hx
  exact ⟨b, o, e, hc 0 _ rfl, hc 1 _ rfl, hc 2 _ rfl, hc 3 _ rfl⟩
set_option maxHeartbeats 4000000 in
theorem weqA {w : World} {A B : Option Addr} {c1 c2 : Nat} {l : List Ac} (h1 : SB w A (4 * l.length) (cellsE acC l)) (h2 : SB w B (4 * l.length) (cellsE acC l)) (hn : l.length ≤ 10000000) :
    Calls Tryz.prog 18 #[.slice A l.length c1, .slice B l.length c2] w fun e w' => e = .returned (.bool true) ∧ Below w.heap.size w w' := by
  have H1 := Lib.hid h1
  have H2 := Lib.hid h2
  have HN := Lib.hid hn
  have qE := fun W (x : Ac) => neAc x W
  clear h1 h2 hn
  go_enter Tryz.func18, Tryz.ntmps18
  go_wp2
  go_loopw [13] (fun i' wr => ∃ j : Nat, i' = .int .i64 (j : Nat) ∧ j ≤ l.length ∧ Below w.heap.size w wr) (fun i' _ => l.length - (intOf i').toNat)
  case atStart => exact ⟨0, rfl, Nat.zero_le _, Below.refl _ _⟩
  case round =>
    rename World => wr
    obtain ⟨j, rfl, hj, hb⟩ := hrel
    by_cases hlt : j < l.length
    · obtain ⟨x, hx⟩ : ∃ x, l[j]? = some x := ⟨_, List.getElem?_eq_getElem hlt⟩
      obtain ⟨g, o, rfl, x0, x1, x2, x3⟩ := AL.at_ (H1.out.gw hb) hx
      obtain ⟨g2, o2, rfl, y0, y1, y2, y3⟩ := AL.at_ (H2.out.gw hb) hx
      have i1 : (j : Int) < (l.length : Int) := by omega
      have l1 : (j : Int) ≤ 10000000 := by have := HN.out; omega
      have HLT := Lib.hid hlt
      have HB := Lib.hid hb
      clear hj hlt hx hb
      go_upto_region 6 with fail
      go_region
      go_wp2
      go_roundw
      case rel => exact ⟨j + 1, by go_num, HLT.out, HB.out.drew⟩
      case measure => have := HLT.out; simp [intOf]; omega
    · have hje : j = l.length := by omega
      subst hje
      have i1 : ¬ (l.length : Int) < (l.length : Int) := by omega
      have HB := Lib.hid hb
      clear hj hlt hb
      go_wp2
      go_ret
      exact ⟨rfl, HB.out⟩
end Go.Proofs.YtnpeankmmojebaaGreatDoor
