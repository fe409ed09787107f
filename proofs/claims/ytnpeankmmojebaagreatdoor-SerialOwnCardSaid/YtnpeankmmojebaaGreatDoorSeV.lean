/- Layer 11: the reference's put and Graph. -/
import Derived.Test.YtnpeankmmojebaaGreatDoorJAK
import Derived.Laws.StructEq
import Derived.Deep.DeepCutAuto
import Derived.Deep.CutBlock
set_option linter.unusedVariables false
namespace Go.Proofs.YtnpeankmmojebaaGreatDoor
set_option maxRecDepth 100000
set_option maxRecDepth 100000
open Go.RowKit

/-- The value is a list of dependencies that can be read. -/
def DL (w : World) (v : Value) (g : List Dp) : Prop := ∃ A c, v = .slice A g.length c ∧ SB w A (3 * g.length) (cellsE dpC g) ∧ g.length ≤ c ∧ c ≤ maxLen
theorem DL.gw {w w' : World} {v : Value} {g : List Dp} (h : DL w v g) (hb : Below w.heap.size w w') : DL w' v g := by
  obtain ⟨A, c, e, h1, h2⟩ := h
  exact ⟨A, c, e, h1.gw hb, h2⟩
theorem DL.nil (w : World) : DL w (.slice none 0 0) [] := ⟨none, 0, rfl, SB.empty _ _, Nat.le_refl _, by simp [maxLen]⟩
theorem DL.at_ {w : World} {A : Option Addr} {g : List Dp} (h : SB w A (3 * g.length) (cellsE dpC g)) {j : Nat} {x : Dp} (hx : g[j]? = some x) : ∃ b o, A = some ⟨b, o, none⟩ ∧ w.cell? ⟨b, o + j * 3, none⟩ = some (.int .i64 x.fr) ∧ w.cell? ⟨b, o + j * 3 + 1, none⟩ = some (.int .i64 x.to) ∧ w.cell? ⟨b, o + j * 3 + 2, none⟩ = some (.int .i64 x.kd) := by
  obtain ⟨b, o, e, hc⟩ := h.elE dpC_len (by omega) hx
  exact ⟨b, o, e, hc 0 _ rfl, hc 1 _ rfl, hc 2 _ rfl⟩
theorem sb_dep (X : World) (d : Dp) : SB (X.alloc (.cells #[.int .i64 d.fr, .int .i64 d.to, .int .i64 d.kd] 51)) (some ⟨X.heap.size, 0, none⟩) (seD.s * 1) (cellsE dpC [d]) := by
  refine ⟨rfl, cellsE_one dpC_one _, fun _ => ⟨X.heap.size, 0, rfl, fun j u hj => ?_⟩⟩
  rw [cell_of_row _ _ _ _ _ _ (heap_alloc_new X _)]
  simpa [cellsE, dpC] using hj
theorem SO.dl {base : Nat} {w : World} {v : Value} {g : List Dp} {n : Nat} (h : SO seD base w v n (cellsE dpC g)) (hn : g.length = n) : DL w v g := by
  obtain ⟨A, c, e, hsb, h1, h2, -⟩ := h.form
  subst hn
  exact ⟨A, c, e, hsb, h1, h2⟩
theorem eqDp (a b : Dp) (w : World) : (binOp .eql 51 (.agg #[.int .i64 a.fr, .int .i64 a.to, .int .i64 a.kd]) (.agg #[.int .i64 b.fr, .int .i64 b.to, .int .i64 b.kd])).run Tryz.prog w = .ok (.bool (decide (a = b))) w := by
  obtain ⟨af, at_, ak⟩ := a
  obtain ⟨bf, bt, bk⟩ := b
  simp only [Dp.mk.injEq]
  have hs : Tryz.prog.underlying 51 = some (.struct (Tryz.prog.fieldsOf 51)) := by kernel_rfl
  have hp : Tryz.prog.stoodInHeld 51 = false := by kernel_rfl
  have hf : (Tryz.prog.fieldsOf 51).toList.map (fun f => (f.name == "_", f.type, f.offset)) = [(false, 3, 0), (false, 3, 1), (false, 3, 2)] := by kernel_rfl
  have hi := Tryz.underlying3
  rw [run_eql_struct, run_equalIn_struct w 9999 _ _ _ hs hp]
  generalize (Tryz.prog.fieldsOf 51).toList = fs at hf
  obtain ⟨f, fs1, rfl, hf1, hf⟩ := List.map_eq_cons_iff.1 hf
  obtain ⟨g, fs2, rfl, hg1, hf⟩ := List.map_eq_cons_iff.1 hf
  obtain ⟨h, fs3, rfl, hh1, hf⟩ := List.map_eq_cons_iff.1 hf
  have : fs3 = [] := by simpa using hf
  subst this
  simp only [Prod.mk.injEq] at hf1 hg1 hh1
  obtain ⟨f1, f2, f3⟩ := hf1
  obtain ⟨g1, g2, g3⟩ := hg1
  obtain ⟨h1, h2, h3⟩ := hh1
  have f1' : f.name ≠ "_" := by simpa using f1
  have g1' : g.name ≠ "_" := by simpa using g1
  have h1' : h.name ≠ "_" := by simpa using h1
  simp only [Op.eqFields, f1', g1', h1', f2, f3, g2, g3, h2, h3, ne_eq, not_false_eq_true, if_true, Sem.run_bind]
  have e1 : (part 3 #[Value.int .i64 af, .int .i64 at_, .int .i64 ak] 0).run Tryz.prog w = .ok (.int .i64 af) w := by go_simp
  have e2 : (part 3 #[Value.int .i64 af, .int .i64 at_, .int .i64 ak] 1).run Tryz.prog w = .ok (.int .i64 at_) w := by go_simp
  have e3 : (part 3 #[Value.int .i64 af, .int .i64 at_, .int .i64 ak] 2).run Tryz.prog w = .ok (.int .i64 ak) w := by go_simp
  have k1 : (part 3 #[Value.int .i64 bf, .int .i64 bt, .int .i64 bk] 0).run Tryz.prog w = .ok (.int .i64 bf) w := by go_simp
  have k2 : (part 3 #[Value.int .i64 bf, .int .i64 bt, .int .i64 bk] 1).run Tryz.prog w = .ok (.int .i64 bt) w := by go_simp
  have k3 : (part 3 #[Value.int .i64 bf, .int .i64 bt, .int .i64 bk] 2).run Tryz.prog w = .ok (.int .i64 bk) w := by go_simp
  simp only [e1, k1, Result.andThen_ok, run_equalIn_int w 9998 _ _ _ _ _ hi]
  have hd : decide (af = bf ∧ at_ = bt ∧ ak = bk) = ((af == bf) && ((at_ == bt) && (ak == bk))) := by
    by_cases q1 : af = bf <;> by_cases q2 : at_ = bt <;> by_cases q3 : ak = bk <;> simp [q1, q2, q3]
  rw [hd]
  cases q1 : (af == bf) <;> cases q2 : (at_ == bt) <;> cases q3 : (ak == bk) <;> simp [e2, e3, k2, k3, q2, q3, run_equalIn_int w 9998 _ _ _ _ _ hi, Sem.run_ite]
set_option maxHeartbeats 32000000 in
theorem wrPut {w : World} {v : Value} {g : List Dp} (h : DL w v g) (hg : g.length ≤ 10000) (d : Dp) :
    Calls Tryz.prog 37 #[v, dpV d] w fun e w' => ∃ v', e = .returned v' ∧ DL w' v' (putD g d) ∧ Below w.heap.size w w' := by
  obtain ⟨A, c, rfl, hsb, hgc, hcm⟩ := h
  obtain ⟨W1, hW1⟩ : ∃ W, w.alloc (.cells #[.int .i64 d.fr, .int .i64 d.to, .int .i64 d.kd] 51) = W := ⟨_, rfl⟩
  have b1 : Below w.heap.size w W1 := by rw [← hW1]; exact alloc_below11 _ _
  have q1 : W1.heap[w.heap.size]? = some (.cells #[.int .i64 d.fr, .int .i64 d.to, .int .i64 d.kd] 51 (0, 0)) := by rw [← hW1]; exact heap_alloc_new _ _
  have a0 : W1.cell? ⟨w.heap.size, 0, none⟩ = some (.int .i64 d.fr) := cell_of_row _ _ 0 _ _ _ q1
  have a1 : W1.cell? ⟨w.heap.size, 1, none⟩ = some (.int .i64 d.to) := cell_of_row _ _ 1 _ _ _ q1
  have a2 : W1.cell? ⟨w.heap.size, 2, none⟩ = some (.int .i64 d.kd) := cell_of_row _ _ 2 _ _ _ q1
  have HS := Lib.hid (hsb.gw b1)
  have HG := Lib.hid hg
  have HGC := Lib.hid hgc
  have HCM := Lib.hid hcm
  have B1 := Lib.hid b1
  have HW1 := Lib.hid hW1
  obtain ⟨n, hn⟩ : ∃ n, g.length = n := ⟨_, rfl⟩
  rw [hn] at HS HG HGC
  have HNN := Lib.hid hn
  rw [hn]
  clear hsb hg hgc hcm b1 q1 hW1 hn
  obtain ⟨df, dt, dk⟩ := d
  dsimp only at *
  unfold dpV
  dsimp only
  have hpl := plD_le g ⟨df, dt, dk⟩
  have HPD := Lib.hid (show putD g ⟨df, dt, dk⟩ = if df = 0 ∨ dt = 0 ∨ df = dt ∨ g[plD g ⟨df, dt, dk⟩]? = some ⟨df, dt, dk⟩ then g else insD g ⟨df, dt, dk⟩ from rfl)
  have HIN := Lib.hid (show insD g ⟨df, dt, dk⟩ = g.take (plD g ⟨df, dt, dk⟩) ++ [⟨df, dt, dk⟩] ++ g.drop (plD g ⟨df, dt, dk⟩) from rfl)
  obtain ⟨l', hl'⟩ : ∃ l', putD g ⟨df, dt, dk⟩ = l' := ⟨_, rfl⟩
  obtain ⟨p, hp⟩ : ∃ p, plD g ⟨df, dt, dk⟩ = p := ⟨_, rfl⟩
  rw [hl'] at HPD ⊢
  rw [hp] at HPD HIN hpl
  rw [HNN.out] at hpl
  have HP := Lib.hid hpl
  have HPP := Lib.hid hp
  clear hpl hl' hp
  go_enter Tryz.func37, Tryz.ntmps37
  go_upto_region 1 with fail
  rw [HW1.out]
  go_upto_block 0 with fail
  go_cut [5] (fun v5 wx => v5 = .int .i64 (p : Nat) ∧ Below W1.heap.size W1 wx)
  case first =>
    go_upto_region 2 with fail
    go_loopw [5] (fun i wr => ∃ j : Nat, i = .int .i64 (j : Nat) ∧ j ≤ n ∧ (∀ i a, i < j → g[i]? = some a → lessD a ⟨df, dt, dk⟩ = true) ∧ Below W1.heap.size W1 wr) (fun i _ => n - (intOf i).toNat)
    case atStart => exact ⟨0, rfl, Nat.zero_le _, fun i a hi => absurd hi (Nat.not_lt_zero _), Below.refl _ _⟩
    case round =>
      rename World => wr
      obtain ⟨j, rfl, hj, ha, hbl⟩ := hrel
      have e0 := keep_below a0 hbl
      have e1 := keep_below a1 hbl
      have e2 := keep_below a2 hbl
      by_cases hlt : j < n
      · obtain ⟨x, hx⟩ : ∃ x, g[j]? = some x := ⟨_, List.getElem?_eq_getElem (by rw [HNN.out]; exact hlt)⟩
        have hsb := HS.out.gw hbl
        rw [← HNN.out] at hsb
        obtain ⟨b, o, rfl, c0, c1, c2⟩ := DL.at_ hsb hx
        have CL := Lib.hid (wrLess wr.drew x ⟨df, dt, dk⟩)
        have i1 : (j : Int) < (n : Int) := by omega
        have i1' : decide ((j : Int) < (n : Int)) = true := by simpa using i1
        have l1 : (j : Int) ≤ 10000 := by have := HG.out; omega
        have l2 : (0 : Int) ≤ (j : Int) := by omega
        have HA := Lib.hid ha
        have HX := Lib.hid hx
        have HLT := Lib.hid hlt
        have HBL := Lib.hid hbl
        have HST := Lib.hid (show lessD x ⟨df, dt, dk⟩ = false → p = j from fun k => HPP.out.symm.trans (plD_stop ha (by rw [HNN.out]; exact hj) fun y hy => by rw [hx] at hy; cases hy; exact k))
        obtain ⟨xf, xt, xk⟩ := x
        dsimp only at c0 c1 c2
        unfold dpV at CL
        dsimp only at CL
        have S0 : wr.cell? ⟨b, o + j * 3, none⟩ = some (.int .i64 xf) ∧ wr.cell? ⟨b, o + j * 3 + 1, none⟩ = some (.int .i64 xt) ∧ wr.cell? ⟨b, o + j * 3 + 2, none⟩ = some (.int .i64 xk) ∧ wr.cell? ⟨w.heap.size, 0, none⟩ = some (.int .i64 df) ∧ wr.cell? ⟨w.heap.size, 1, none⟩ = some (.int .i64 dt) ∧ wr.cell? ⟨w.heap.size, 2, none⟩ = some (.int .i64 dk) := ⟨c0, c1, c2, e0, e1, e2⟩
        have S2 : ∀ W : World, Below wr.heap.size wr.drew W → W.cell? ⟨b, o + j * 3, none⟩ = some (.int .i64 xf) ∧ W.cell? ⟨b, o + j * 3 + 1, none⟩ = some (.int .i64 xt) ∧ W.cell? ⟨b, o + j * 3 + 2, none⟩ = some (.int .i64 xk) ∧ W.cell? ⟨w.heap.size, 0, none⟩ = some (.int .i64 df) ∧ W.cell? ⟨w.heap.size, 1, none⟩ = some (.int .i64 dt) ∧ W.cell? ⟨w.heap.size, 2, none⟩ = some (.int .i64 dk) := fun W hW => ⟨keep_below (w := wr.drew) S0.1 hW, keep_below (w := wr.drew) S0.2.1 hW, keep_below (w := wr.drew) S0.2.2.1 hW, keep_below (w := wr.drew) S0.2.2.2.1 hW, keep_below (w := wr.drew) S0.2.2.2.2.1 hW, keep_below (w := wr.drew) S0.2.2.2.2.2 hW⟩
        clear hx ha hj hlt hbl hsb
        cases hq : lessD ⟨xf, xt, xk⟩ ⟨df, dt, dk⟩
        · have HPJ := Lib.hid (HST.out hq)
          rw [hq] at CL
          clear hq
          go_upto_region 2 with fail
          go_region_held3 (fun W => W.cell? ⟨b, o + j * 3, none⟩ = some (.int .i64 xf) ∧ W.cell? ⟨b, o + j * 3 + 1, none⟩ = some (.int .i64 xt) ∧ W.cell? ⟨b, o + j * 3 + 2, none⟩ = some (.int .i64 xk) ∧ W.cell? ⟨w.heap.size, 0, none⟩ = some (.int .i64 df) ∧ W.cell? ⟨w.heap.size, 1, none⟩ = some (.int .i64 dt) ∧ W.cell? ⟨w.heap.size, 2, none⟩ = some (.int .i64 dk)) (first | exact S0 | exact S2 _ B2.out) (first | (go_at_call 60; go_loud (refine CL.out.mono ?_; rintro e w2 ⟨rfl, b2⟩; have B2 := Lib.hid (show Below wr.heap.size wr.drew w2 from b2); clear b2)))
          all_goals
            go_wp2
            go_meet
            exact ⟨by rw [HPJ.out], HBL.out.trans ((((Below.refl _ _).drew).trans B2.out).mono HBL.out.size)⟩
        · have HT := Lib.hid (show (∀ i a, i < j + 1 → g[i]? = some a → lessD a ⟨df, dt, dk⟩ = true) from fun i a hi h => by
            rcases Nat.lt_or_ge i j with h1 | h1
            · exact HA.out i a h1 h
            · have : i = j := by omega
              subst this
              rw [HX.out] at h
              cases h; exact hq)
          rw [hq] at CL
          clear hq
          go_upto_region 2 with fail
          go_region_held3 (fun W => W.cell? ⟨b, o + j * 3, none⟩ = some (.int .i64 xf) ∧ W.cell? ⟨b, o + j * 3 + 1, none⟩ = some (.int .i64 xt) ∧ W.cell? ⟨b, o + j * 3 + 2, none⟩ = some (.int .i64 xk) ∧ W.cell? ⟨w.heap.size, 0, none⟩ = some (.int .i64 df) ∧ W.cell? ⟨w.heap.size, 1, none⟩ = some (.int .i64 dt) ∧ W.cell? ⟨w.heap.size, 2, none⟩ = some (.int .i64 dk)) (first | exact S0 | exact S2 _ B2.out) (first | (go_at_call 60; go_loud (refine CL.out.mono ?_; rintro e w2 ⟨rfl, b2⟩; have B2 := Lib.hid (show Below wr.heap.size wr.drew w2 from b2); clear b2)))
          all_goals
            go_wp2
            go_roundw
            case rel => exact ⟨j + 1, by go_num, HLT.out, HT.out, HBL.out.trans ((((Below.refl _ _).drew).trans B2.out).mono HBL.out.size)⟩
            case measure => have := HLT.out; simp [intOf]; omega
      · obtain rfl : j = n := by omega
        have i1 : decide ((j : Int) < (j : Int)) = false := by simp
        have HPJ := Lib.hid (show p = j from HPP.out.symm.trans (plD_stop ha (by rw [HNN.out]; exact Nat.le_refl _) fun y hy => by rw [List.getElem?_eq_none (by rw [HNN.out]; exact Nat.le_refl _)] at hy; cases hy))
        have HBL := Lib.hid hbl
        clear ha hj hlt hbl
        go_upto_region 2 with fail
        go_quiet (fail)
        go_wp2
        go_meet
        exact ⟨by rw [HPJ.out], HBL.out.trans ⟨rfl, rfl, rfl, Nat.le_refl _, fun _ _ => rfl⟩⟩
  case rest =>
    rename World => wx
    obtain ⟨rfl, hbl⟩ := hcut
    have e0 := keep_below a0 hbl
    have e1 := keep_below a1 hbl
    have e2 := keep_below a2 hbl
    have HSX := Lib.hid (HS.out.gw hbl)
    have BX := Lib.hid (below_next B1.out hbl)
    have l2 : (0 : Int) ≤ (p : Int) := by omega
    have l1 : (p : Int) ≤ 10000 := by have := HG.out; have := HP.out; omega
    clear hbl a0 a1 a2
    by_cases h1 : df = 0
    · subst h1
      have HT := Lib.hid (show l' = g by rw [HPD.out, if_pos (.inl rfl)])
      go_upto_region 4 with fail
      go_quiet (fail)
      go_wp2
      go_ret
      exact ⟨_, rfl, ⟨A, c, by rw [HT.out, HNN.out]; rfl, by rw [HT.out, HNN.out]; exact HSX.out.gw ⟨rfl, rfl, rfl, Nat.le_refl _, fun _ _ => rfl⟩, by rw [HT.out, HNN.out]; exact HGC.out, HCM.out⟩, BX.out.trans ⟨rfl, rfl, rfl, Nat.le_refl _, fun _ _ => rfl⟩⟩
    · have h1' : (df == 0) = false := by simpa using h1
      by_cases h2 : dt = 0
      · subst h2
        have HT := Lib.hid (show l' = g by rw [HPD.out, if_pos (.inr (.inl rfl))])
        go_upto_region 4 with fail
        go_quiet (fail)
        go_wp2
        go_ret
        exact ⟨_, rfl, ⟨A, c, by rw [HT.out, HNN.out]; rfl, by rw [HT.out, HNN.out]; exact HSX.out.gw ⟨rfl, rfl, rfl, Nat.le_refl _, fun _ _ => rfl⟩, by rw [HT.out, HNN.out]; exact HGC.out, HCM.out⟩, BX.out.trans ⟨rfl, rfl, rfl, Nat.le_refl _, fun _ _ => rfl⟩⟩
      · have h2' : (dt == 0) = false := by simpa using h2
        by_cases h3 : df = dt
        · subst h3
          have HT := Lib.hid (show l' = g by rw [HPD.out, if_pos (.inr (.inr (.inl rfl)))])
          go_upto_region 4 with fail
          go_quiet (fail)
          go_wp2
          go_ret
          exact ⟨_, rfl, ⟨A, c, by rw [HT.out, HNN.out]; rfl, by rw [HT.out, HNN.out]; exact HSX.out.gw ⟨rfl, rfl, rfl, Nat.le_refl _, fun _ _ => rfl⟩, by rw [HT.out, HNN.out]; exact HGC.out, HCM.out⟩, BX.out.trans ⟨rfl, rfl, rfl, Nat.le_refl _, fun _ _ => rfl⟩⟩
        · have h3' : (df == dt) = false := by simpa using h3
          by_cases hlt : p < n
          · obtain ⟨x, hx⟩ : ∃ x, g[p]? = some x := ⟨_, List.getElem?_eq_getElem (by rw [HNN.out]; exact hlt)⟩
            have hsb := HSX.out
            rw [← HNN.out] at hsb
            obtain ⟨b, o, rfl, c0, c1, c2⟩ := DL.at_ hsb hx
            have i1 : (p : Int) < (n : Int) := by omega
            have i1' : decide ((p : Int) < (n : Int)) = true := by simpa using i1
            have HLT := Lib.hid hlt
            have EQ := fun W => eqDp x ⟨df, dt, dk⟩ W
            have HX := Lib.hid hx
            obtain ⟨xf, xt, xk⟩ := x
            dsimp only at c0 c1 c2 EQ
            clear hx hlt hsb
            by_cases hq : (⟨xf, xt, xk⟩ : Dp) = ⟨df, dt, dk⟩
            · rw [show decide ((⟨xf, xt, xk⟩ : Dp) = ⟨df, dt, dk⟩) = true by simpa using hq] at EQ
              have HT := Lib.hid (show l' = g by rw [HPD.out, if_pos (.inr (.inr (.inr (by rw [HX.out, hq]))))])
              clear hq
              go_upto_region 4 with fail
              go_quiet (fail)
              go_wp2
              go_ret
              exact ⟨_, rfl, ⟨(some ⟨b, o, none⟩), c, by rw [HT.out, HNN.out]; rfl, by rw [HT.out, HNN.out]; exact HSX.out.gw ⟨rfl, rfl, rfl, Nat.le_refl _, fun _ _ => rfl⟩, by rw [HT.out, HNN.out]; exact HGC.out, HCM.out⟩, BX.out.trans ⟨rfl, rfl, rfl, Nat.le_refl _, fun _ _ => rfl⟩⟩
            · rw [show decide ((⟨xf, xt, xk⟩ : Dp) = ⟨df, dt, dk⟩) = false by simpa using hq] at EQ
              have HT := Lib.hid (show l' = g.take p ++ [⟨df, dt, dk⟩] ++ g.drop p by
                rw [HPD.out, if_neg (fun k => by
                  rcases k with k | k | k | k
                  · exact h1 k
                  · exact h2 k
                  · exact h3 k
                  · rw [HX.out] at k; exact hq (Option.some.inj k)), HIN.out])
              clear hq
              obtain ⟨A2, hA2⟩ : ∃ (A2 : Option Addr), (if c = p then (some ⟨b, o, none⟩ : Option Addr) else (some ⟨b, o, none⟩ : Option Addr).map (·.add (p * seD.s))) = A2 := ⟨_, rfl⟩
              have RF : ∀ W, (Instr.slice 45 (.slice (some ⟨b, o, none⟩) n c) (some (.int .i64 (p : Int))) none none).run Tryz.prog W = .ok (.slice A2 (n - p) (c - p)) W := fun W => by rw [← hA2]; exact run_fromE seD_ok W (some ⟨b, o, none⟩) n c p HP.out HGC.out
              have RU : ∀ W, (Instr.slice 45 (.slice (some ⟨b, o, none⟩) n c) none (some (.int .i64 (p : Int))) none).run Tryz.prog W = .ok (.slice (some ⟨b, o, none⟩) p c) W := fun W => run_uptoE seD_ok W (some ⟨b, o, none⟩) n c p (Nat.le_trans HP.out HGC.out)
              have P1 := Lib.hid (show ∀ W, Below wx.heap.size wx W → SB W (some ⟨b, o, none⟩) (seD.s * p) (cellsE dpC (g.take p)) from fun W hW => by
                rw [cellsE_take dpC_len]
                exact (HSX.out.gw hW).take (Nat.mul_le_mul_left 3 HP.out))
              have P2 := Lib.hid (show ∀ W, Below wx.heap.size wx W → SB W A2 (seD.s * (n - p)) (cellsE dpC (g.drop p)) from fun W hW => by
                rw [cellsE_drop dpC_len, ← hA2]
                exact (HSX.out.gw hW).cut HP.out HGC.out)
              have L1 := Lib.hid (show (g.take p).length = p by rw [List.length_take, HNN.out]; have := HP.out; omega)
              have L2 := Lib.hid (show (g.drop p).length = n - p by rw [List.length_drop, HNN.out])
              have BQ : ∀ q, Below wx.heap.size wx (wx.drewN q) := fun q => ⟨rfl, rfl, rfl, Nat.le_refl _, fun _ _ => rfl⟩
              have BQ := Lib.hid BQ
              clear hA2
              go_upto_region 4 with fail
              go_quiet (fail)
              go_upto_region 8 with (at_builtin; go_loud (refine so_append seD_ok (by rfl) (.tmp 51) (.tmp 54) (by rfl) _ (by rfl) (SO.nil seD wx.heap.size _) (some ⟨b, o, none⟩) p c (cellsE dpC (g.take p)) (by rfl) (P1.out _ (BQ.out _)) (by have := HP.out; have := HG.out; omega) (by exact Nat.le_refl _) ?_; intro v3 w3 o3 b3; have O3 := Lib.hid o3; have b4 := (BQ.out _).trans b3; have B3 := Lib.hid b4; have f0 := keep_below e0 b4; have f1 := keep_below e1 b4; have f2 := keep_below e2 b4; clear b4; clear o3 b3))
              clear e0 e1 e2 c0 c1 c2 EQ
              go_upto_region 9 with (at_builtin; go_loud (refine so_append seD_ok (by rfl) (.tmp 56) (.tmp 58) (by rfl) _ (by rfl) (O3.out.alloc _) (some ⟨w3.heap.size, 0, none⟩) 1 1 (cellsE dpC [⟨df, dt, dk⟩]) (by rfl) (sb_dep w3 ⟨df, dt, dk⟩) (by have := HP.out; have := HG.out; omega) (by have := B3.out.size; simp; omega) ?_; intro v5 w5 o5 b5; have O5 := Lib.hid o5; have B5 := Lib.hid ((B3.out.alloc B3.out.size _).trans b5); clear o5 b5))
              go_wp2_with (at_builtin; go_loud (refine so_append seD_ok (by rfl) (.tmp 60) (.tmp 63) (by rfl) _ (by rfl) O5.out A2 (n - p) (c - p) (cellsE dpC (g.drop p)) (by rfl) (P2.out _ B5.out) (by have := HP.out; have := HG.out; omega) B5.out.size ?_; intro v7 w7 o7 b7; have O7 := Lib.hid o7; have B7 := Lib.hid (B5.out.trans b7); clear o7 b7))
              go_ret
              refine ⟨_, rfl, ?_, BX.out.trans (B7.out.mono BX.out.size)⟩
              rw [HT.out]
              refine SO.dl (n := 0 + p + 1 + (n - p)) (by rw [cellsE_app, cellsE_app]; exact O7.out) (by rw [List.length_append, List.length_append, L1.out, L2.out, Nat.zero_add]; rfl)
          · have i1 : ¬ (p : Int) < (n : Int) := by omega
            have i1' : decide ((p : Int) < (n : Int)) = false := by simpa using i1
            have HT := Lib.hid (show l' = g.take p ++ [⟨df, dt, dk⟩] ++ g.drop p by
              rw [HPD.out, if_neg (fun k => by
                rcases k with k | k | k | k
                · exact h1 k
                · exact h2 k
                · exact h3 k
                · rw [List.getElem?_eq_none (by rw [HNN.out]; omega)] at k; cases k), HIN.out])
            clear hlt
            obtain ⟨A2, hA2⟩ : ∃ (A2 : Option Addr), (if c = p then (A : Option Addr) else (A : Option Addr).map (·.add (p * seD.s))) = A2 := ⟨_, rfl⟩
            have RF : ∀ W, (Instr.slice 45 (.slice (A) n c) (some (.int .i64 (p : Int))) none none).run Tryz.prog W = .ok (.slice A2 (n - p) (c - p)) W := fun W => by rw [← hA2]; exact run_fromE seD_ok W (A) n c p HP.out HGC.out
            have RU : ∀ W, (Instr.slice 45 (.slice (A) n c) none (some (.int .i64 (p : Int))) none).run Tryz.prog W = .ok (.slice (A) p c) W := fun W => run_uptoE seD_ok W (A) n c p (Nat.le_trans HP.out HGC.out)
            have P1 := Lib.hid (show ∀ W, Below wx.heap.size wx W → SB W (A) (seD.s * p) (cellsE dpC (g.take p)) from fun W hW => by
              rw [cellsE_take dpC_len]
              exact (HSX.out.gw hW).take (Nat.mul_le_mul_left 3 HP.out))
            have P2 := Lib.hid (show ∀ W, Below wx.heap.size wx W → SB W A2 (seD.s * (n - p)) (cellsE dpC (g.drop p)) from fun W hW => by
              rw [cellsE_drop dpC_len, ← hA2]
              exact (HSX.out.gw hW).cut HP.out HGC.out)
            have L1 := Lib.hid (show (g.take p).length = p by rw [List.length_take, HNN.out]; have := HP.out; omega)
            have L2 := Lib.hid (show (g.drop p).length = n - p by rw [List.length_drop, HNN.out])
            have BQ : ∀ q, Below wx.heap.size wx (wx.drewN q) := fun q => ⟨rfl, rfl, rfl, Nat.le_refl _, fun _ _ => rfl⟩
            have BQ := Lib.hid BQ
            clear hA2
            go_upto_region 4 with fail
            go_quiet (fail)
            go_upto_region 8 with (at_builtin; go_loud (refine so_append seD_ok (by rfl) (.tmp 51) (.tmp 54) (by rfl) _ (by rfl) (SO.nil seD wx.heap.size _) (A) p c (cellsE dpC (g.take p)) (by rfl) (P1.out _ (BQ.out _)) (by have := HP.out; have := HG.out; omega) (by exact Nat.le_refl _) ?_; intro v3 w3 o3 b3; have O3 := Lib.hid o3; have b4 := (BQ.out _).trans b3; have B3 := Lib.hid b4; have f0 := keep_below e0 b4; have f1 := keep_below e1 b4; have f2 := keep_below e2 b4; clear b4; clear o3 b3))
            clear e0 e1 e2
            go_upto_region 9 with (at_builtin; go_loud (refine so_append seD_ok (by rfl) (.tmp 56) (.tmp 58) (by rfl) _ (by rfl) (O3.out.alloc _) (some ⟨w3.heap.size, 0, none⟩) 1 1 (cellsE dpC [⟨df, dt, dk⟩]) (by rfl) (sb_dep w3 ⟨df, dt, dk⟩) (by have := HP.out; have := HG.out; omega) (by have := B3.out.size; simp; omega) ?_; intro v5 w5 o5 b5; have O5 := Lib.hid o5; have B5 := Lib.hid ((B3.out.alloc B3.out.size _).trans b5); clear o5 b5))
            go_wp2_with (at_builtin; go_loud (refine so_append seD_ok (by rfl) (.tmp 60) (.tmp 63) (by rfl) _ (by rfl) O5.out A2 (n - p) (c - p) (cellsE dpC (g.drop p)) (by rfl) (P2.out _ B5.out) (by have := HP.out; have := HG.out; omega) B5.out.size ?_; intro v7 w7 o7 b7; have O7 := Lib.hid o7; have B7 := Lib.hid (B5.out.trans b7); clear o7 b7))
            go_ret
            refine ⟨_, rfl, ?_, BX.out.trans (B7.out.mono BX.out.size)⟩
            rw [HT.out]
            refine SO.dl (n := 0 + p + 1 + (n - p)) (by rw [cellsE_app, cellsE_app]; exact O7.out) (by rw [List.length_append, List.length_append, L1.out, L2.out, Nat.zero_add]; rfl)
end Go.Proofs.YtnpeankmmojebaaGreatDoor
