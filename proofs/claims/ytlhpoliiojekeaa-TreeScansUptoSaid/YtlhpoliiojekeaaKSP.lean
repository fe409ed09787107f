import Derived.Test.YtlhpoliiojekeaaWithout
import Derived.Deep.DeepCutAuto
import Derived.Test.YtlhpoliiojekeaaNewInner
/- split: two halves of a leaf. -/
namespace Go.Proofs.Ytlhpoliiojekeaa
set_option maxRecDepth 100000
open Go.RowKit

theorem keysV_take (ps : List Pr) (n : Nat) : keysV (ps.take n) = (keysV ps).take n := by simp [keysV, List.map_take]
theorem keysV_drop (ps : List Pr) (n : Nat) : keysV (ps.drop n) = (keysV ps).drop n := by simp [keysV, List.map_drop]
theorem numsV_take (ps : List Pr) (n : Nat) : numsV (ps.take n) = (numsV ps).take n := by simp [numsV, List.map_take]
theorem numsV_drop (ps : List Pr) (n : Nat) : numsV (ps.drop n) = (numsV ps).drop n := by simp [numsV, List.map_drop]
theorem LfAt.one {w : World} {g : Nat} {k : ByteArray} {z : Int} {ps : List Pr} (h : LfAt w g ((k, z) :: ps)) : ∃ ad n c, w.cell? ⟨g, 0, none⟩ = some (.slice (some ad) n c) ∧ 0 < n ∧ w.cell? (ad.add 0) = some (.string k) := by
  obtain ⟨A, c, B, e, h0, h1, -⟩ := h
  obtain ⟨ad, rfl, h2⟩ := h1.at_ (k := 0) (u := .string k) (by simp [keysV])
  exact ⟨ad, _, c, by rw [cell_of_row _ _ _ _ _ _ h0]; rfl, by simp, h2⟩
theorem LfAt.drewN {w : World} {g : Nat} {ps : List Pr} (h : LfAt w g ps) (k : Nat) : LfAt (w.drewN k) g ps := h.below (below_drewN w k)
theorem addr_add0 (a : Addr) : a.add 0 = a := by unfold Addr.add; simp

set_option maxHeartbeats 8000000 in
theorem wsplitL {w : World} {g : Nat} {ps X Y : List Pr} {k : ByteArray} {z : Int} (h : LfAt w g ps) (hx : ps.take (ps.length / 2) = X) (hy : ps.drop (ps.length / 2) = (k, z) :: Y) (hn : ps.length ≤ 990) :
    Calls Try.prog 56 #[lp g] w fun e w' => ∃ gl gr, e = .returned (.tuple #[lp gl, .string k, lp gr]) ∧ LfAt w' gl X ∧ LfAt w' gr ((k, z) :: Y) ∧ Gw w w' := by
  obtain ⟨A, c, B, e, h0, h1, h2, h3, h4⟩ := h
  have c0 : w.cell? ⟨g, 0, none⟩ = some (.slice A ps.length c) := by rw [cell_of_row _ _ _ _ _ _ h0]; rfl
  have c1 : w.cell? ⟨g, 1, none⟩ = some (.slice B ps.length e) := by rw [cell_of_row _ _ _ _ _ _ h0]; rfl
  have CE := Lib.hid fun W (hW : Gw w W) => (⟨keep_below c0 hW, keep_below c1 hW⟩ : _ ∧ _)
  obtain ⟨q, hq⟩ : ∃ q, ps.length / 2 = q := ⟨_, rfl⟩
  rw [hq] at hx hy
  have hql : q ≤ ps.length := by omega
  have ed : (ps.length : Int).tdiv 2 = (q : Int) := by rw [Int.tdiv_eq_ediv_of_nonneg (by omega)]; omega
  obtain ⟨A', hA'⟩ : ∃ A', (if c = q then A else A.map (·.add q)) = A' := ⟨_, rfl⟩
  obtain ⟨B', hB'⟩ : ∃ B', (if e = q then B else B.map (·.add q)) = B' := ⟨_, rfl⟩
  have q1 : ∀ W, (Instr.slice 36 (.slice A ps.length c) none (some (.int .i64 (q : Int))) none).run Try.prog W = .ok (.slice A q c) W := fun W => run_upto elS okS W A ps.length c q (by omega)
  have q2 : ∀ W, (Instr.slice 99 (.slice B ps.length e) none (some (.int .i64 (q : Int))) none).run Try.prog W = .ok (.slice B q e) W := fun W => run_upto elI okI W B ps.length e q (by omega)
  have q3 : ∀ W, (Instr.slice 36 (.slice A ps.length c) (some (.int .i64 (q : Int))) none none).run Try.prog W = .ok (.slice A' (ps.length - q) (c - q)) W := fun W => by rw [← hA']; exact run_from elS okS W A ps.length c q hql h2
  have q4 : ∀ W, (Instr.slice 99 (.slice B ps.length e) (some (.int .i64 (q : Int))) none none).run Try.prog W = .ok (.slice B' (ps.length - q) (e - q)) W := fun W => by rw [← hB']; exact run_from elI okI W B ps.length e q hql h4
  have S1 := Lib.hid fun (W : World) (hW : Gw w W) => wcloneS W A q c ((keysV ps).take q) ((h1.gw hW).take hql) (by omega)
  have S2 := Lib.hid fun (W : World) (hW : Gw w W) => wcloneI W B q e ((numsV ps).take q) ((h3.gw hW).take hql) (by omega)
  have S3 := Lib.hid fun (W : World) (hW : Gw w W) => wcloneS W A' (ps.length - q) (c - q) ((keysV ps).drop q) (by rw [← hA']; exact (h1.gw hW).cut hql c h2) (by omega)
  have S4 := Lib.hid fun (W : World) (hW : Gw w W) => wcloneI W B' (ps.length - q) (e - q) ((numsV ps).drop q) (by rw [← hB']; exact (h3.gw hW).cut hql e h4) (by omega)
  rw [← keysV_take, hx] at S1
  rw [← numsV_take, hx] at S2
  rw [← keysV_drop, hy] at S3
  rw [← numsV_drop, hy] at S4
  have hxl : X.length = q := by rw [← hx, List.length_take]; omega
  have hyl : ((k, z) :: Y).length = ps.length - q := by rw [← hy, List.length_drop]
  have L1 := Lib.hid (show (keysV X).length = q by rw [keysV_len, hxl])
  have L2 := Lib.hid (show (numsV X).length = q by rw [numsV_len, hxl])
  have L3 := Lib.hid (show (keysV ((k, z) :: Y)).length = ps.length - q by rw [keysV_len, hyl])
  have L4 := Lib.hid (show (numsV ((k, z) :: Y)).length = ps.length - q by rw [numsV_len, hyl])
  have HX := Lib.hid hxl
  have HY := Lib.hid hyl
  have t1 := ta_ll
  unfold lp
  clear h0 h1 h2 h3 h4 hq hA' hB' hx hy hxl hyl
  go_enter Try.func56, Try.ntmps56
  go_upto_region 5 with fail
  go_cut [7] (fun t7 wr => ∃ gl, t7 = .pointer (some ⟨gl, 0, none⟩) ∧ LfAt wr gl X ∧ Gw w wr)
  case first =>
    go_region_held3 (fun W => W.cell? ⟨g, 0, none⟩ = some (.slice A ps.length c) ∧ W.cell? ⟨g, 1, none⟩ = some (.slice B ps.length e)) (exact CE.out _ (by (repeat' (first | with_reducible exact Gw.refl _ | with_reducible exact B8.out | with_reducible exact B9.out | with_reducible refine Gw.alloc ?_ _ | with_reducible refine Gw.drew ?_ | with_reducible refine Gw.trans ?_ B8.out | with_reducible refine Gw.trans ?_ B9.out)))) (first
      | (go_at_call 60; go_loud (refine (S1.out _ (by (repeat' (first | with_reducible exact Gw.refl _ | with_reducible exact B8.out | with_reducible exact B9.out | with_reducible refine Gw.alloc ?_ _ | with_reducible refine Gw.drew ?_ | with_reducible refine Gw.trans ?_ B8.out | with_reducible refine Gw.trans ?_ B9.out)))).mono ?_; intro e w8 hm; obtain ⟨A8, c8, rfl, r8, hc8, b8⟩ := hm.got2 L1.out; have R8 := Lib.hid r8; have C8 := Lib.hid hc8; have B8 := Lib.hid b8; clear hm r8 hc8 b8))
      | (go_at_call 68; go_loud (refine (S2.out _ (by (repeat' (first | with_reducible exact Gw.refl _ | with_reducible exact B8.out | with_reducible exact B9.out | with_reducible refine Gw.alloc ?_ _ | with_reducible refine Gw.drew ?_ | with_reducible refine Gw.trans ?_ B8.out | with_reducible refine Gw.trans ?_ B9.out)))).mono ?_; intro e w9 hm; obtain ⟨A9, c9, rfl, r9, hc9, b9⟩ := hm.got2 L2.out; have R9 := Lib.hid r9; have C9 := Lib.hid hc9; have B9 := Lib.hid b9; clear hm r9 hc9 b9)))
    all_goals go_wp2
    all_goals go_meet
    all_goals exact ⟨_, rfl, LfAt.made (R8.out.gw (by (repeat' (first | with_reducible exact Gw.refl _ | with_reducible exact B8.out | with_reducible exact B9.out | with_reducible refine Gw.alloc ?_ _ | with_reducible refine Gw.drew ?_ | with_reducible refine Gw.trans ?_ B8.out | with_reducible refine Gw.trans ?_ B9.out)))) C8.out (R9.out.gw (by (repeat' (first | with_reducible exact Gw.refl _ | with_reducible exact B8.out | with_reducible exact B9.out | with_reducible refine Gw.alloc ?_ _ | with_reducible refine Gw.drew ?_ | with_reducible refine Gw.trans ?_ B8.out | with_reducible refine Gw.trans ?_ B9.out)))) C9.out HX.out, by (repeat' (first | with_reducible exact Gw.refl _ | with_reducible exact B8.out | with_reducible exact B9.out | with_reducible refine Gw.alloc ?_ _ | with_reducible refine Gw.drew ?_ | with_reducible refine Gw.trans ?_ B8.out | with_reducible refine Gw.trans ?_ B9.out))⟩
  case rest =>
    obtain ⟨gl, rfl, hl, hb⟩ := hcut
    have HL := Lib.hid hl
    have HB := Lib.hid hb
    have CE2 := Lib.hid fun W (hW : Gw wc W) => CE.out W (hb.trans hW)
    have T3 := Lib.hid fun W (hW : Gw wc W) => S3.out W (hb.trans hW)
    have T4 := Lib.hid fun W (hW : Gw wc W) => S4.out W (hb.trans hW)
    have d0 := (CE.out wc hb).1
    have d1 := (CE.out wc hb).2
    clear hl hb S1 S2 S3 S4 CE L1 L2 q1 q2 c0 c1
    go_upto_region 6 with fail
    go_cut [8] (fun t8 wr => ∃ gr, t8 = .pointer (some ⟨gr, 0, none⟩) ∧ LfAt wr gr ((k, z) :: Y) ∧ Gw wc wr)
    case first =>
      go_region_held3 (fun W => W.cell? ⟨g, 0, none⟩ = some (.slice A ps.length c) ∧ W.cell? ⟨g, 1, none⟩ = some (.slice B ps.length e)) (exact CE2.out _ (by (repeat' (first | with_reducible exact Gw.refl _ | with_reducible exact B8.out | with_reducible exact B9.out | with_reducible refine Gw.alloc ?_ _ | with_reducible refine Gw.drew ?_ | with_reducible refine Gw.trans ?_ B8.out | with_reducible refine Gw.trans ?_ B9.out)))) (first
        | (go_at_call 60; go_loud (refine (T3.out _ (by (repeat' (first | with_reducible exact Gw.refl _ | with_reducible exact B8.out | with_reducible exact B9.out | with_reducible refine Gw.alloc ?_ _ | with_reducible refine Gw.drew ?_ | with_reducible refine Gw.trans ?_ B8.out | with_reducible refine Gw.trans ?_ B9.out)))).mono ?_; intro e w8 hm; obtain ⟨A8, c8, rfl, r8, hc8, b8⟩ := hm.got2 L3.out; have R8 := Lib.hid r8; have C8 := Lib.hid hc8; have B8 := Lib.hid b8; clear hm r8 hc8 b8))
        | (go_at_call 68; go_loud (refine (T4.out _ (by (repeat' (first | with_reducible exact Gw.refl _ | with_reducible exact B8.out | with_reducible exact B9.out | with_reducible refine Gw.alloc ?_ _ | with_reducible refine Gw.drew ?_ | with_reducible refine Gw.trans ?_ B8.out | with_reducible refine Gw.trans ?_ B9.out)))).mono ?_; intro e w9 hm; obtain ⟨A9, c9, rfl, r9, hc9, b9⟩ := hm.got2 L4.out; have R9 := Lib.hid r9; have C9 := Lib.hid hc9; have B9 := Lib.hid b9; clear hm r9 hc9 b9)))
      all_goals go_wp2
      all_goals go_meet
      all_goals exact ⟨_, rfl, LfAt.made (R8.out.gw (by (repeat' (first | with_reducible exact Gw.refl _ | with_reducible exact B8.out | with_reducible exact B9.out | with_reducible refine Gw.alloc ?_ _ | with_reducible refine Gw.drew ?_ | with_reducible refine Gw.trans ?_ B8.out | with_reducible refine Gw.trans ?_ B9.out)))) C8.out (R9.out.gw (by (repeat' (first | with_reducible exact Gw.refl _ | with_reducible exact B8.out | with_reducible exact B9.out | with_reducible refine Gw.alloc ?_ _ | with_reducible refine Gw.drew ?_ | with_reducible refine Gw.trans ?_ B8.out | with_reducible refine Gw.trans ?_ B9.out)))) C9.out HY.out, by (repeat' (first | with_reducible exact Gw.refl _ | with_reducible exact B8.out | with_reducible exact B9.out | with_reducible refine Gw.alloc ?_ _ | with_reducible refine Gw.drew ?_ | with_reducible refine Gw.trans ?_ B8.out | with_reducible refine Gw.trans ?_ B9.out))⟩
    case rest =>
      rename World => wr
      obtain ⟨gr, rfl, hr2, hb2⟩ := hcut
      obtain ⟨ad, nn, cc, e0, e1, e2⟩ := hr2.one
      rw [addr_add0] at e2
      have HR := Lib.hid hr2
      have HB2 := Lib.hid hb2
      have e3 : (0 : Int) < (nn : Int) := by omega
      clear hr2 hb2 d0 d1
      go_wp2
      go_quiet (fail)
      go_wp2
      go_ret3
      exact ⟨_, _, rfl, (HL.out.gw HB2.out).drewN _, HR.out.drewN _, (HB.out.trans HB2.out).drewN _⟩
end Go.Proofs.Ytlhpoliiojekeaa

/- split: two halves of an inner node. -/
namespace Go.Proofs.Ytlhpoliiojekeaa
set_option maxRecDepth 100000
open Go.RowKit

def InMade (ord d : Nat) (W : World) (ks : List ByteArray) (kids : List Kid) (r : Ending) (w' : World) : Prop :=
  ∃ g, r = .returned (.pointer (some ⟨g, 0, none⟩)) ∧ InC (NodeAt ord w' d) w' g (kidsP kids) ks kids ∧ Gw W w'
theorem newInnerC {ord d : Nat} {W : World} {ks : List ByteArray} {kids : List Kid} {n m : Nat} (hn : ks.length = n) (hm : kids.length = m) (hN : ∀ x ∈ kids, NodeAt ord W d x.v x.ps x.m) (hnum : m = n + 1) (htok : (toks ks kids).Pairwise tr)
    (hp : (kidsP kids).length ≤ 1152921504606846976) (hk : m ≤ 100000) (A : Option Addr) (c : Nat) (hA : VB W A n (ks.map Value.string)) (hc : n ≤ c) (B : Option Addr) (e : Nat) (hB : VB W B m (kids.map Kid.v)) (he : m ≤ e) :
    Calls Try.prog 57 #[.slice A n c, .slice B m e] W (InMade ord d W ks kids) := by
  subst hn hm
  refine (wnewInner hB hN hp hk he).mono fun r w' ⟨h1, h2, h3⟩ => ⟨_, h1, ⟨⟨A, c, B, e, h3, hA.gw h2, hc, hB.gw h2, he⟩, hnum, rfl, fun x hx => (hN x hx).gw h2, htok⟩, h2⟩
theorem InC.gw {ord d : Nat} {w w' : World} {g : Nat} {ps : List Pr} {ks : List ByteArray} {kids : List Kid} (h : InC (NodeAt ord w d) w g ps ks kids) (hg : Gw w w') : InC (NodeAt ord w' d) w' g ps ks kids := h.move hg fun _ _ _ h => h.gw hg
theorem InC.cells {N : Value → List Pr → Nat → Prop} {w : World} {g : Nat} {ps : List Pr} {ks : List ByteArray} {kids : List Kid} (h : InC N w g ps ks kids) :
    ∃ A c B e, w.cell? ⟨g, 0, none⟩ = some (.slice A ks.length c) ∧ w.cell? ⟨g, 1, none⟩ = some (.slice B kids.length e) ∧ VB w A ks.length (ks.map Value.string) ∧ ks.length ≤ c ∧ VB w B kids.length (kids.map Kid.v) ∧ kids.length ≤ e := by
  obtain ⟨A, c, B, e, h0, h1, h2, h3, h4⟩ := h.row
  exact ⟨A, c, B, e, by rw [cell_of_row _ _ _ _ _ _ h0]; rfl, by rw [cell_of_row _ _ _ _ _ _ h0]; rfl, h1, h2, h3, h4⟩
theorem kidsP_le_take (kids : List Kid) (q : Nat) : (kidsP (kids.take q)).length ≤ (kidsP kids).length ∧ (kidsP (kids.drop q)).length ≤ (kidsP kids).length := by
  have : kidsP kids = kidsP (kids.take q) ++ kidsP (kids.drop q) := by rw [← kidsP_app, List.take_append_drop]
  rw [this, List.length_append]; omega

set_option maxHeartbeats 16000000 in
theorem wsplitI {ord d : Nat} {w : World} {g : Nat} {ps : List Pr} {ks S1 S2 : List ByteArray} {kids K1 K2 : List Kid} {s : ByteArray} {r : Nat} (h : InC (NodeAt ord w d) w g ps ks kids) (hr : kids.length / 2 = r + 1) (hn : kids.length ≤ 990) (hp : ps.length ≤ 1152921504606846976)
    (hs : ks[r]? = some s) (hS1 : ks.take r = S1) (hS2 : ks.drop (r + 1) = S2) (hK1 : kids.take (r + 1) = K1) (hK2 : kids.drop (r + 1) = K2) :
    Calls Try.prog 56 #[ip g] w fun e w' => ∃ gl gr, e = .returned (.tuple #[ip gl, .string s, ip gr]) ∧ InC (NodeAt ord w' d) w' gl (kidsP K1) S1 K1 ∧ InC (NodeAt ord w' d) w' gr (kidsP K2) S2 K2 ∧ Gw w w' := by
  have hnum := h.num
  have htok := h.tok
  rw [h.cutS hs, hS1, hS2, hK1, hK2] at htok
  have hkp := kidsP_le_take kids (r + 1)
  rw [hK1, hK2, ← h.all] at hkp
  obtain ⟨A, c, B, e, c0, c1, h1, h2, h3, h4⟩ := h.cells
  have CE := Lib.hid fun W (hW : Gw w W) => (⟨keep_below c0 hW, keep_below c1 hW⟩ : _ ∧ _)
  obtain ⟨q, hq⟩ : ∃ q, r + 1 = q := ⟨_, rfl⟩
  rw [hq] at hr hK1 hK2 hS2
  have hql : q ≤ kids.length := by omega
  have hqk : q ≤ ks.length := by omega
  have ed : (kids.length : Int).tdiv 2 = (q : Int) := by rw [Int.tdiv_eq_ediv_of_nonneg (by omega)]; omega
  have er1 : IntKind.i64.wrap ((q : Int) - 1) = (r : Int) := by rw [IntKind.wrap_i64]; omega
  obtain ⟨A', hA'⟩ : ∃ A', (if c = q then A else A.map (·.add q)) = A' := ⟨_, rfl⟩
  obtain ⟨B', hB'⟩ : ∃ B', (if e = q then B else B.map (·.add q)) = B' := ⟨_, rfl⟩
  have q1 : ∀ W, (Instr.slice 36 (.slice A ks.length c) none (some (.int .i64 (r : Int))) none).run Try.prog W = .ok (.slice A r c) W := fun W => run_upto elS okS W A ks.length c r (by omega)
  have q2 : ∀ W, (Instr.slice 90 (.slice B kids.length e) none (some (.int .i64 (q : Int))) none).run Try.prog W = .ok (.slice B q e) W := fun W => run_upto elN okN W B kids.length e q (by omega)
  have q3 : ∀ W, (Instr.slice 36 (.slice A ks.length c) (some (.int .i64 (q : Int))) none none).run Try.prog W = .ok (.slice A' (ks.length - q) (c - q)) W := fun W => by rw [← hA']; exact run_from elS okS W A ks.length c q hqk h2
  have q4 : ∀ W, (Instr.slice 90 (.slice B kids.length e) (some (.int .i64 (q : Int))) none none).run Try.prog W = .ok (.slice B' (kids.length - q) (e - q)) W := fun W => by rw [← hB']; exact run_from elN okN W B kids.length e q hql h4
  have S1' := Lib.hid fun (W : World) (hW : Gw w W) => wcloneS W A r c ((ks.map Value.string).take r) ((h1.gw hW).take (by omega)) (by omega)
  have S2' := Lib.hid fun (W : World) (hW : Gw w W) => wcloneN W B q e ((kids.map Kid.v).take q) ((h3.gw hW).take hql) (by omega)
  have S3' := Lib.hid fun (W : World) (hW : Gw w W) => wcloneS W A' (ks.length - q) (c - q) ((ks.map Value.string).drop q) (by rw [← hA']; exact (h1.gw hW).cut hqk c h2) (by omega)
  have S4' := Lib.hid fun (W : World) (hW : Gw w W) => wcloneN W B' (kids.length - q) (e - q) ((kids.map Kid.v).drop q) (by rw [← hB']; exact (h3.gw hW).cut hql e h4) (by omega)
  rw [← List.map_take, hS1] at S1'
  rw [← List.map_take, hK1] at S2'
  rw [← List.map_drop, hS2] at S3'
  rw [← List.map_drop, hK2] at S4'
  have l1 : S1.length = r := by rw [← hS1, List.length_take]; omega
  have l2 : K1.length = q := by rw [← hK1, List.length_take]; omega
  have l3 : S2.length = ks.length - q := by rw [← hS2, List.length_drop]
  have l4 : K2.length = kids.length - q := by rw [← hK2, List.length_drop]
  have L1 := Lib.hid (show (S1.map Value.string).length = r by rw [List.length_map, l1])
  have L2 := Lib.hid (show (K1.map Kid.v).length = q by rw [List.length_map, l2])
  have L3 := Lib.hid (show (S2.map Value.string).length = ks.length - q by rw [List.length_map, l3])
  have L4 := Lib.hid (show (K2.map Kid.v).length = kids.length - q by rw [List.length_map, l4])
  have htp := List.pairwise_append.1 htok
  have N1 := Lib.hid fun (W : World) (hW : Gw w W) => newInnerC (ord := ord) (d := d) (W := W) l1 l2 (fun x hx => (h.is x (by rw [← hK1] at hx; exact List.mem_of_mem_take hx)).gw hW) (by omega) htp.1 (by omega) (by omega)
  have N2 := Lib.hid fun (W : World) (hW : Gw w W) => newInnerC (ord := ord) (d := d) (W := W) l3 l4 (fun x hx => (h.is x (by rw [← hK2] at hx; exact List.mem_of_mem_drop hx)).gw hW) (by omega) (List.pairwise_cons.1 htp.2.1).2 (by omega) (by omega)
  obtain ⟨ad, rfl, cs⟩ := h1.at_ (k := r) (u := .string s) (by simp [hs])
  have CS := Lib.hid cs
  have rk1 : (r : Int) < (ks.length : Int) := by omega
  have t1 := ta_il
  have t2 := ta_ii
  unfold ip
  clear h h1 h2 h3 h4 hq hA' hB' l1 l2 l3 l4 htp htok hkp hK1 hK2 hS1 hS2 hs hr cs hnum
  go_enter Try.func56, Try.ntmps56
  go_upto_region 11 with fail
  go_cut [11] (fun t11 wr => ∃ gl, t11 = .pointer (some ⟨gl, 0, none⟩) ∧ InC (NodeAt ord wr d) wr gl (kidsP K1) S1 K1 ∧ Gw w wr)
  case first =>
    go_region_held3 (fun W => W.cell? ⟨g, 0, none⟩ = some (.slice (some ad) ks.length c) ∧ W.cell? ⟨g, 1, none⟩ = some (.slice B kids.length e)) (exact CE.out _ (by (repeat' (first | with_reducible exact Gw.refl _ | with_reducible exact B8.out | with_reducible exact B9.out | with_reducible refine Gw.alloc ?_ _ | with_reducible refine Gw.drew ?_ | with_reducible refine Gw.trans ?_ B8.out | with_reducible refine Gw.trans ?_ B9.out | with_reducible refine Gw.trans ?_ B7.out)))) (first
      | (go_at_call 60; go_loud (refine (S1'.out _ (by (repeat' (first | with_reducible exact Gw.refl _ | with_reducible exact B8.out | with_reducible exact B9.out | with_reducible refine Gw.alloc ?_ _ | with_reducible refine Gw.drew ?_ | with_reducible refine Gw.trans ?_ B8.out | with_reducible refine Gw.trans ?_ B9.out | with_reducible refine Gw.trans ?_ B7.out)))).mono ?_; intro e w8 hm; obtain ⟨A8, c8, rfl, r8, hc8, b8⟩ := hm.got2 L1.out; have R8 := Lib.hid r8; have C8 := Lib.hid hc8; have B8 := Lib.hid b8; clear hm r8 hc8 b8))
      | (go_at_call 69; go_loud (refine (S2'.out _ (by (repeat' (first | with_reducible exact Gw.refl _ | with_reducible exact B8.out | with_reducible exact B9.out | with_reducible refine Gw.alloc ?_ _ | with_reducible refine Gw.drew ?_ | with_reducible refine Gw.trans ?_ B8.out | with_reducible refine Gw.trans ?_ B9.out | with_reducible refine Gw.trans ?_ B7.out)))).mono ?_; intro e w9 hm; obtain ⟨A9, c9, rfl, r9, hc9, b9⟩ := hm.got2 L2.out; have R9 := Lib.hid r9; have C9 := Lib.hid hc9; have B9 := Lib.hid b9; clear hm r9 hc9 b9))
      | (go_at_call 57; go_loud (refine (N1.out _ (by (repeat' (first | with_reducible exact Gw.refl _ | with_reducible exact B8.out | with_reducible exact B9.out | with_reducible refine Gw.alloc ?_ _ | with_reducible refine Gw.drew ?_ | with_reducible refine Gw.trans ?_ B8.out | with_reducible refine Gw.trans ?_ B9.out | with_reducible refine Gw.trans ?_ B7.out))) _ _ (R8.out.gw (by (repeat' (first | with_reducible exact Gw.refl _ | with_reducible exact B8.out | with_reducible exact B9.out | with_reducible refine Gw.alloc ?_ _ | with_reducible refine Gw.drew ?_ | with_reducible refine Gw.trans ?_ B8.out | with_reducible refine Gw.trans ?_ B9.out | with_reducible refine Gw.trans ?_ B7.out)))) C8.out _ _ (R9.out.gw (by (repeat' (first | with_reducible exact Gw.refl _ | with_reducible exact B8.out | with_reducible exact B9.out | with_reducible refine Gw.alloc ?_ _ | with_reducible refine Gw.drew ?_ | with_reducible refine Gw.trans ?_ B8.out | with_reducible refine Gw.trans ?_ B9.out | with_reducible refine Gw.trans ?_ B7.out)))) C9.out).mono ?_; rintro e w7 ⟨g7, rfl, i7, b7⟩; have I7 := Lib.hid i7; have B7 := Lib.hid b7; clear i7 b7)))
    all_goals go_wp2
    all_goals go_meet
    all_goals exact ⟨_, rfl, I7.out, by (repeat' (first | with_reducible exact Gw.refl _ | with_reducible exact B8.out | with_reducible exact B9.out | with_reducible refine Gw.alloc ?_ _ | with_reducible refine Gw.drew ?_ | with_reducible refine Gw.trans ?_ B8.out | with_reducible refine Gw.trans ?_ B9.out | with_reducible refine Gw.trans ?_ B7.out))⟩
  case rest =>
    obtain ⟨gl, rfl, hl, hb⟩ := hcut
    have HL := Lib.hid hl
    have HB := Lib.hid hb
    have CE2 := Lib.hid fun W (hW : Gw wc W) => CE.out W (hb.trans hW)
    have T3 := Lib.hid fun W (hW : Gw wc W) => S3'.out W (hb.trans hW)
    have T4 := Lib.hid fun W (hW : Gw wc W) => S4'.out W (hb.trans hW)
    have M2 := Lib.hid fun W (hW : Gw wc W) => N2.out W (hb.trans hW)
    have d0 := (CE.out wc hb).1
    have d1 := (CE.out wc hb).2
    have CS2 := Lib.hid (keep_below CS.out hb)
    clear hl hb S1' S2' S3' S4' CE L1 L2 q1 q2 c0 c1 N1 N2 CS
    go_upto_region 12 with fail
    go_cut [12] (fun t8 wr => ∃ gr, t8 = .pointer (some ⟨gr, 0, none⟩) ∧ InC (NodeAt ord wr d) wr gr (kidsP K2) S2 K2 ∧ Gw wc wr)
    case first =>
      go_region_held3 (fun W => W.cell? ⟨g, 0, none⟩ = some (.slice (some ad) ks.length c) ∧ W.cell? ⟨g, 1, none⟩ = some (.slice B kids.length e)) (exact CE2.out _ (by (repeat' (first | with_reducible exact Gw.refl _ | with_reducible exact B8.out | with_reducible exact B9.out | with_reducible refine Gw.alloc ?_ _ | with_reducible refine Gw.drew ?_ | with_reducible refine Gw.trans ?_ B8.out | with_reducible refine Gw.trans ?_ B9.out | with_reducible refine Gw.trans ?_ B7.out)))) (first
        | (go_at_call 60; go_loud (refine (T3.out _ (by (repeat' (first | with_reducible exact Gw.refl _ | with_reducible exact B8.out | with_reducible exact B9.out | with_reducible refine Gw.alloc ?_ _ | with_reducible refine Gw.drew ?_ | with_reducible refine Gw.trans ?_ B8.out | with_reducible refine Gw.trans ?_ B9.out | with_reducible refine Gw.trans ?_ B7.out)))).mono ?_; intro e w8 hm; obtain ⟨A8, c8, rfl, r8, hc8, b8⟩ := hm.got2 L3.out; have R8 := Lib.hid r8; have C8 := Lib.hid hc8; have B8 := Lib.hid b8; clear hm r8 hc8 b8))
        | (go_at_call 69; go_loud (refine (T4.out _ (by (repeat' (first | with_reducible exact Gw.refl _ | with_reducible exact B8.out | with_reducible exact B9.out | with_reducible refine Gw.alloc ?_ _ | with_reducible refine Gw.drew ?_ | with_reducible refine Gw.trans ?_ B8.out | with_reducible refine Gw.trans ?_ B9.out | with_reducible refine Gw.trans ?_ B7.out)))).mono ?_; intro e w9 hm; obtain ⟨A9, c9, rfl, r9, hc9, b9⟩ := hm.got2 L4.out; have R9 := Lib.hid r9; have C9 := Lib.hid hc9; have B9 := Lib.hid b9; clear hm r9 hc9 b9))
        | (go_at_call 57; go_loud (refine (M2.out _ (by (repeat' (first | with_reducible exact Gw.refl _ | with_reducible exact B8.out | with_reducible exact B9.out | with_reducible refine Gw.alloc ?_ _ | with_reducible refine Gw.drew ?_ | with_reducible refine Gw.trans ?_ B8.out | with_reducible refine Gw.trans ?_ B9.out | with_reducible refine Gw.trans ?_ B7.out))) _ _ (R8.out.gw (by (repeat' (first | with_reducible exact Gw.refl _ | with_reducible exact B8.out | with_reducible exact B9.out | with_reducible refine Gw.alloc ?_ _ | with_reducible refine Gw.drew ?_ | with_reducible refine Gw.trans ?_ B8.out | with_reducible refine Gw.trans ?_ B9.out | with_reducible refine Gw.trans ?_ B7.out)))) C8.out _ _ (R9.out.gw (by (repeat' (first | with_reducible exact Gw.refl _ | with_reducible exact B8.out | with_reducible exact B9.out | with_reducible refine Gw.alloc ?_ _ | with_reducible refine Gw.drew ?_ | with_reducible refine Gw.trans ?_ B8.out | with_reducible refine Gw.trans ?_ B9.out | with_reducible refine Gw.trans ?_ B7.out)))) C9.out).mono ?_; rintro e w7 ⟨g7, rfl, i7, b7⟩; have I7 := Lib.hid i7; have B7 := Lib.hid b7; clear i7 b7)))
      all_goals go_wp2
      all_goals go_meet
      all_goals exact ⟨_, rfl, I7.out, by (repeat' (first | with_reducible exact Gw.refl _ | with_reducible exact B8.out | with_reducible exact B9.out | with_reducible refine Gw.alloc ?_ _ | with_reducible refine Gw.drew ?_ | with_reducible refine Gw.trans ?_ B8.out | with_reducible refine Gw.trans ?_ B9.out | with_reducible refine Gw.trans ?_ B7.out))⟩
    case rest =>
      rename World => wr
      obtain ⟨gr, rfl, hr2, hb2⟩ := hcut
      have HR := Lib.hid hr2
      have HB2 := Lib.hid hb2
      have e0 := keep_below d0 hb2
      have e2 := keep_below CS2.out hb2
      clear hr2 hb2 d0 d1
      go_wp2
      go_quiet (fail)
      go_wp2
      go_ret3
      exact ⟨_, _, rfl, (HL.out.gw HB2.out).drewN _, HR.out.drewN _, (HB.out.trans HB2.out).drewN _⟩
end Go.Proofs.Ytlhpoliiojekeaa
