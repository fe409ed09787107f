/- Layer 11: the program's steps. -/
import Derived.Test.YtnpeankmmojebaaGreatDoorSeQu
import Derived.Deep.LoopGhost
import Derived.Deep.DeepCutAuto
set_option linter.unusedVariables false
namespace Go.Proofs.YtnpeankmmojebaaGreatDoor
set_option maxRecDepth 100000
set_option maxRecDepth 100000
open Go.RowKit

theorem nodup_lt_len : ∀ (n : Nat) (l : List Nat), l.Nodup → (∀ v ∈ l, v < n) → l.length ≤ n
  | 0, l, _, h => by
    cases l with
    | nil => exact Nat.le_refl _
    | cons a l => exact absurd (h a (List.mem_cons_self ..)) (Nat.not_lt_zero _)
  | n + 1, l, hd, h => by
    have h1 : (l.erase n).length ≤ n := nodup_lt_len n (l.erase n) (hd.erase n) fun v hv => by
      have h2 := (hd.mem_erase_iff).1 hv
      have := h v h2.2
      have := h2.1
      omega
    rw [List.length_erase] at h1
    split at h1 <;> omega
theorem Bf.len_le {E : Eg} {n aim p : Nat} {st all : List Nat} (h : Bf E n aim st all p) : all.length ≤ n := nodup_lt_len n all h.nd h.lt
theorem numN_gN {st : List Nat} {v : Nat} (h : v < st.length) : (numN st)[v]? = some (.int .i64 (gN st v : Nat)) :=
  numN_at (by unfold gN; rw [List.getD_eq_getElem?_getD, List.getElem?_eq_getElem h]; rfl)
theorem numN_rep (n : Nat) : numN (List.replicate n 0) = List.replicate n (.int .i64 0) := by simp [numN, numC]
theorem numN_set (st : List Nat) (v x : Nat) : numN (st.set v x) = (numN st).set v (.int .i64 (x : Nat)) := by simp [numN, numC, List.map_set]
theorem so_make0 {E : SEl} (hE : E.Ok) (w : World) (n : Nat) (hn : n ≤ 1000000) (base : Nat) (hb : base ≤ w.heap.size) :
    ∃ w', (Instr.makeSlice E.t (.int .i64 0) (.int .i64 (n : Int))).run Tryz.prog w = .ok (.slice (some ⟨w.heap.size, 0, none⟩) 0 n) w' ∧ SO E base w' (.slice (some ⟨w.heap.size, 0, none⟩) 0 n) 0 [] ∧ Below w.heap.size w w' ∧ w.heap.size < w'.heap.size := by
  obtain ⟨i0, hi, hz0, hz1, hz2⟩ := info_parts hE.info
  have hb1 := hE.b1
  obtain ⟨w', hr, how, hg⟩ := run_make_own (P := Tryz.prog) w base E.t E.e i0 E.z E.s hE.und hi hz0 hz1 .i64 .i64 n (by rw [hz2]; exact Nat.le_trans (Nat.mul_le_mul hb1 hn) (by omega)) (by simp only [maxLen]; omega) hb
  exact ⟨w', hr, ⟨how, by simp, by simp⟩, (Below.refl _ w).grown hg (Nat.le_refl _) (fun k e => by cases e), (how.lt _ rfl).2⟩
/-- A list of ins, wherever it lies. -/
theorem NetB.inAt {W W' : World} {gb go gi base n cn : Nat} {An : Option Addr} {ns : List Int} {vo vi : List Value} {E : Eg} (h : NetB W gb go gi base n An cn ns vo vi (LOf E n) (LIf E n)) (hb : Below W.heap.size W W') {x : Nat} (hx : x < n) :
    ∃ A c, W'.cell? ⟨gi, x, none⟩ = some (.slice A (insP E x).length c) ∧ SB W' A (insP E x).length (numN (insP E x)) := by
  obtain ⟨v, hv⟩ : ∃ v, vi[x]? = some v := ⟨_, List.getElem?_eq_getElem (by rw [h.vil]; exact hx)⟩
  obtain ⟨A, c, rfl, hs, -⟩ := (h.inL hv (LIf_at hx)).form
  refine ⟨A, c, keep_below (h.inC hv) hb, ?_⟩
  have := hs.gw hb
  have e : seI.s * (insP E x).length = (insP E x).length := Nat.one_mul _
  rwa [e] at this
theorem NetB.outAt {W W' : World} {gb go gi base n cn : Nat} {An : Option Addr} {ns : List Int} {vo vi : List Value} {E : Eg} (h : NetB W gb go gi base n An cn ns vo vi (LOf E n) (LIf E n)) (hb : Below W.heap.size W W') {x : Nat} (hx : x < n) :
    ∃ A c, W'.cell? ⟨go, x, none⟩ = some (.slice A (outsP E x).length c) ∧ SB W' A (outsP E x).length (numN (outsP E x)) := by
  obtain ⟨v, hv⟩ : ∃ v, vo[x]? = some v := ⟨_, List.getElem?_eq_getElem (by rw [h.vol]; exact hx)⟩
  obtain ⟨A, c, rfl, hs, -⟩ := (h.outL hv (LOf_at hx)).form
  refine ⟨A, c, keep_below (h.outC hv) hb, ?_⟩
  have := hs.gw hb
  have e : seI.s * (outsP E x).length = (outsP E x).length := Nat.one_mul _
  rwa [e] at this
theorem Bf.fold {E : Eg} {n aim p : Nat} {st all : List Nat} (hE : EdOk E n) (h : Bf E n aim st all p) (hb : ∀ v, gN st v ≤ p) {x : Nat} (hx : all[p]? = some x) (j : Nat) {st' L' : List Nat} (he : ((insP E x).take j).foldl (bfsI x) (st, all.drop (p + 1)) = (st', L')) :
    st'.length = n ∧ (∀ v, gN st' v ≤ p + 1) ∧ p + 1 ≤ n ∧ gN st' x ≤ p ∧ L'.length ≤ 2 * n := by
  have hxn : x ∉ (insP E x).take j := fun k => hE.ne _ (mem_ins.1 (List.mem_of_mem_take k)) rfl
  obtain ⟨s2, new, e1, e2, e3, e4, e5⟩ := bfsI_fold x ((insP E x).take j) st (all.drop (p + 1)) hxn (fun u hu => by rw [h.len]; exact (hE.lt _ (mem_ins.1 (List.mem_of_mem_take hu))).1)
  rw [he] at e1
  cases e1
  have hpl : p < all.length := (List.getElem?_eq_some_iff.1 hx).1
  have hal := h.len_le
  refine ⟨e2.trans h.len, fun v => ?_, by omega, ?_, ?_⟩
  · rw [e5]
    have h1 := hb v
    have h2 := hb x
    split <;> omega
  · rw [e5, if_neg (fun k => hxn k.1)]; exact hb x
  · have : new.length ≤ n := nodup_lt_len n new e3 fun v hv => (hE.lt _ (mem_ins.1 (List.mem_of_mem_take ((e4 v).1 hv).1))).1
    rw [List.length_append, List.length_drop]; omega
theorem Bf.next {E : Eg} {n aim p : Nat} {st all : List Nat} (hE : EdOk E n) (h : Bf E n aim st all p) {x : Nat} (hx : all[p]? = some x) {st' L' : List Nat} (he : (insP E x).foldl (bfsI x) (st, all.drop (p + 1)) = (st', L')) :
    (gN st' aim = 0 ∧ ∃ all', Bf E n aim st' all' (p + 1) ∧ L' = all'.drop (p + 1)) ∨ (0 < gN st' aim ∧ StepsIs E n aim st') := by
  have hxn : x ∉ insP E x := fun k => hE.ne _ (mem_ins.1 k) rfl
  obtain ⟨s2, new, e1, e2, e3, e4, e5⟩ := bfsI_fold x (insP E x) st (all.drop (p + 1)) hxn (fun u hu => by rw [h.len]; exact (hE.lt _ (mem_ins.1 hu)).1)
  rw [he] at e1
  cases e1
  have hs := h.step hE hx e2 e3 e4 e5
  have hpl : p < all.length := (List.getElem?_eq_some_iff.1 hx).1
  rcases Nat.eq_zero_or_pos (gN st' aim) with k | k
  · exact .inl ⟨k, all ++ new, hs.1 k, by rw [List.drop_append_of_le_length (by omega)]⟩
  · exact .inr ⟨k, hs.2 k⟩
theorem SO.numAt {base n c g : Nat} {w : World} {st : List Nat} (h : SO seI base w (.slice (some ⟨g, 0, none⟩) n c) n (numN st)) {v : Nat} (hv : v < st.length) : w.cell? ⟨g, v, none⟩ = some (.int .i64 (gN st v : Nat)) := by
  rcases h.cell1 v with k | k
  · exact k.trans (numN_gN hv)
  · rw [numN_len] at k; omega
section
variable {w : World} {gb go gi base n cn : Nat} {An : Option Addr} {ns : List Int} {vo vi : List Value} {E : Eg} {aim : Nat}
set_option maxHeartbeats 64000000 in
theorem wsSteps (h : NetB w gb go gi base n An cn ns vo vi (LOf E n) (LIf E n)) (hE : EdOk E n) (hl : E.length ≤ 8192) (hn : n ≤ 4096) (ha : aim < n) :
    Calls Tryz.prog 57 #[.pointer (some ⟨gb, 0, none⟩), .int .i64 (aim : Nat)] w fun e w' => ∃ g st, e = .returned (.slice (some ⟨g, 0, none⟩) n n) ∧ StepsIs E n aim st ∧ (∀ v, gN st v ≤ n) ∧ SO seI w.heap.size w' (.slice (some ⟨g, 0, none⟩) n n) n (numN st) ∧ Below w.heap.size w w' := by
  have x0 := h.cells.1
  have x2 := h.cells.2.2
  have H := Lib.hid h
  have HE := Lib.hid hE
  have HL := Lib.hid hl
  have HN := Lib.hid hn
  have HA := Lib.hid ha
  obtain ⟨w1, mk1, so1, b1, l1⟩ := so_make seI_ok rfl rfl rfl w n (by omega) w.heap.size (Nat.le_refl _)
  have mk1 : (Instr.makeSlice 22 (.int .i64 (n : Int)) (.int .i64 (n : Int))).run Tryz.prog w = .ok (.slice (some ⟨w.heap.size, 0, none⟩) n n) w1 := mk1
  obtain ⟨w2, mk2, so2, b2, l2⟩ := so_make0 seI_ok w1 n (by omega) w1.heap.size (Nat.le_refl _)
  have mk2 : (Instr.makeSlice 22 (.int .i64 0) (.int .i64 (n : Int))).run Tryz.prog w1 = .ok (.slice (some ⟨w1.heap.size, 0, none⟩) 0 n) w2 := mk2
  have y0 := keep_below x0 b1
  have B1 := Lib.hid b1
  have B2 := Lib.hid b2
  have SO1 := Lib.hid (show SO seI w.heap.size w1 _ n (numN (List.replicate n 0)) by rw [numN_rep]; exact so1)
  have SO2 := Lib.hid so2
  have L1 := Lib.hid l1
  have L2 := Lib.hid l2
  have SBA := Lib.hid (sb_int11 w2 aim)
  have hmax : (1 : Nat) * 8 ≤ 140737488355328 := by omega
  clear h hE hl hn ha so1 b1 l1 so2 b2 l2
  go_enter Tryz.func57, Tryz.ntmps57
  go_upto_region 3 with (at_builtin; go_loud (refine so_appendL seI_ok (by rfl) (.tmp 21) (.tmp 23) (by rfl) _ (by rfl) ((SO2.out.below (alloc_below11 _ _)) : SO seI w1.heap.size (w2.alloc (.cells #[.int .i64 (aim : Nat)] 3)) _ 0 []) w2.heap.size 1 [.int .i64 (aim : Nat)] (by rfl) SBA.out (by simp only [seI]; omega) (by simp only [maxLen]; omega) (by have := L2.out; have := B2.out.size; simp; omega) ?_; intro g4 c4 w4 o4 hg4 hl4; have O4 := Lib.hid o4; have G4 := Lib.hid (And.intro hg4 hl4); clear o4 hg4 hl4))
  have hL1 := L1.out
  have hL2 := L2.out
  have hB1s := B1.out.size
  have hB2s := B2.out.size
  have BX := Lib.hid (show Below w1.heap.size w1 w4 from (B2.out.trans ((alloc_below11 w2 _).mono hB2s)).trans ((Below.refl _ _).grown G4.out.1 (by simp; omega) (fun k e => by
    have : w1.heap.size = k := by simpa [Value.ownBlock] using e
    omega)))
  have BW := Lib.hid (show Below w.heap.size w w4 from B1.out.trans (BX.out.mono hB1s))
  have Q4 := Lib.hid (show Qu w1.heap.size w4 g4 0 c4 [aim] from Qu.of_so (n := 1) O4.out rfl)
  have S4 := Lib.hid (show SO seI w.heap.size w4 (.slice (some ⟨w.heap.size, 0, none⟩) n n) n (numN (List.replicate n 0)) from SO1.out.below BX.out)
  clear hL1 hL2 hB1s hB2s
  go_loopg [6] (n + 2) (fun gk far wr => ∃ (st : List Nat) (m g q c : Nat) (L : List Nat), far = .slice (some ⟨g, q, none⟩) m c ∧ L.length = m ∧ Qu w1.heap.size wr g q c L ∧ SO seI w.heap.size wr (.slice (some ⟨w.heap.size, 0, none⟩) n n) n (numN st) ∧ Below w.heap.size w wr ∧ w1.heap.size ≤ wr.heap.size ∧ st.length = n ∧ (∀ v, gN st v ≤ n) ∧ 0 < gk ∧ ((∃ all p, Bf E n aim st all p ∧ L = all.drop p ∧ (∀ v, gN st v ≤ p) ∧ gk + p = n + 2) ∨ (0 < gN st aim ∧ StepsIs E n aim st)))
  case atStart => exact ⟨List.replicate n 0, 1, g4, 0, c4, [aim], rfl, rfl, Q4.out, S4.out, BW.out, BX.out.size, List.length_replicate .., fun v => by rw [gN_rep]; exact Nat.zero_le _, by omega, .inl ⟨[aim], 0, Bf.start HA.out, rfl, fun v => by rw [gN_rep]; exact Nat.le_refl _, rfl⟩⟩
  case round =>
    rename World => wr
    obtain ⟨st, m, g, q, c, L, rfl, hm, hq, hs, hb, hsz, hstl, hbn, hgk, hcase⟩ := hrel
    have cA := hs.numAt (v := aim) (by rw [hstl]; exact HA.out)
    have aN : (aim : Int) < (n : Int) := by have := HA.out; omega
    have exitF : ∀ (K : StepsIs E n aim st), True := fun _ => trivial
    by_cases hm0 : m = 0
    · subst hm0
      have hst : StepsIs E n aim st := by
        rcases hcase with ⟨all, p, hbf, hd, -, -⟩ | ⟨-, k⟩
        · refine hbf.over HE.out (List.getElem?_eq_none ?_)
          rw [List.length_eq_zero_iff] at hm
          rw [hm] at hd
          have := congrArg List.length hd
          rw [List.length_drop, List.length_nil] at this
          omega
        · exact k
      have HST := Lib.hid hst
      have HS := Lib.hid hs
      have HB := Lib.hid hb
      have HBN := Lib.hid hbn
      clear hm hq hs hb hsz hstl hbn hgk hcase cA hst exitF
      go_wp2
      go_ret
      exact ⟨_, st, rfl, HST.out, HBN.out, HS.out, HB.out⟩
    · by_cases hz : gN st aim = 0
      · obtain ⟨all, p, hbf, hd, hbp, hgp⟩ : ∃ all p, Bf E n aim st all p ∧ L = all.drop p ∧ (∀ v, gN st v ≤ p) ∧ gk + p = n + 2 := hcase.elim id fun k => absurd k.1 (by omega)
        rw [hz] at cA
        obtain ⟨x, L2, rfl⟩ : ∃ x L2, L = x :: L2 := by
          cases L with
          | nil => simp at hm; omega
          | cons a l => exact ⟨a, l, rfl⟩
        obtain ⟨m, rfl⟩ : ∃ k, m = k + 1 := ⟨m - 1, by omega⟩
        have hL2m : L2.length = m := by simpa using hm
        have hxp : all[p]? = some x := by
          have := congrArg (fun l => l[0]?) hd
          simpa using this.symm
        have hL2 : L2 = all.drop (p + 1) := by
          have := congrArg List.tail hd
          simpa using this
        have hxn : x < n := hbf.lt x (List.mem_of_getElem? hxp)
        have hqc := hq.cell (j := 0) (x := x) rfl
        rw [Nat.add_zero] at hqc
        have hmc : m + 1 ≤ c := by rw [← hm]; exact hq.lc
        have hcm := hq.cm
        have Q2 := Lib.hid hq.cut
        have hq0 := hq.cut0
        obtain ⟨IA, ic, hia0, hsb⟩ := H.out.inAt (Below.refl _ _) hxn
        have hia := keep_below hia0 hb
        have z2 := keep_below x2 hb
        have SBI := Lib.hid hsb
        have HX := Lib.hid hxn
        have HXP := Lib.hid hxp
        have HBF := Lib.hid hbf
        have HBP := Lib.hid hbp
        have HS := Lib.hid hs
        have HB := Lib.hid hb
        have HSZ := Lib.hid hsz
        have HGP := Lib.hid hgp
        have HL2 := Lib.hid hL2
        have HLM := Lib.hid hL2m
        have HC := Lib.hid (And.intro hmc hcm)
        obtain ⟨us, hus⟩ : ∃ us, insP E x = us := ⟨_, rfl⟩
        obtain ⟨k, hk⟩ : ∃ k, us.length = k := ⟨_, rfl⟩
        rw [hus, hk] at hia
        have HUS := Lib.hid hus
        have HK := Lib.hid hk
        have HK2 := Lib.hid (show k ≤ 8192 by rw [← hk, ← hus]; exact Nat.le_trans (insP_len _ _) HL.out)
        rw [hus, hk] at SBI
        have i1 : (0 : Int) < (m : Int) + 1 := by omega
        have i2 : (1 : Int) ≤ (m : Int) + 1 := by omega
        have i3 : ((m : Int) + 1) ≤ (c : Int) := by omega
        have i4 : (x : Int) < (n : Int) := by omega
        clear hm hq hs hb hsz hstl hbn hgk hcase exitF hm0 hd hbp hgp hL2m hxp hL2 hxn hmc hcm hsb hus hk hbf hia0
        have HQ := Lib.hid hq0
        clear hq0
        go_upto_region 5 with fail
        go_cut [6] (fun far wx => wx = wr ∧ ∃ q' c', far = .slice (some ⟨g, q', none⟩) m c' ∧ Qu w1.heap.size wr g q' c' L2)
        case first =>
          go_wp2_with fail
          all_goals go_meet
          · refine ⟨rfl, q, 0, rfl, ?_⟩
            have h1 := HC.out
            have h2 := HLM.out
            have h3 : L2 = [] := List.eq_nil_of_length_eq_zero (by omega)
            rw [h3]
            exact HQ.out
          · exact ⟨rfl, q + 1, c - 1, rfl, Q2.out⟩
        case rest =>
          obtain ⟨e, q', c', rfl, hq2⟩ := hcut
          subst e
          rename World => wr
          have Q3 := Lib.hid hq2
          clear hq2
          have HAIM := Lib.hid hz
          clear hz
          go_upto_region 7 with fail
          go_loopw [6, 48] (fun far i wy => ∃ (j : Nat) (st' L' : List Nat) (m' g' q' c' : Nat), i = .int .i64 (j : Nat) ∧ j ≤ k ∧ ((insP E x).take j).foldl (bfsI x) (st, all.drop (p + 1)) = (st', L') ∧ far = .slice (some ⟨g', q', none⟩) m' c' ∧ L'.length = m' ∧ Qu w1.heap.size wy g' q' c' L' ∧ SO seI w.heap.size wy (.slice (some ⟨w.heap.size, 0, none⟩) n n) n (numN st') ∧ Below w.heap.size w wy ∧ w1.heap.size ≤ wy.heap.size) (fun _ i _ => k - (intOf i).toNat)
          case atStart => exact ⟨0, st, L2, m, g, q', c', rfl, Nat.zero_le _, by rw [← HL2.out]; rfl, rfl, HLM.out, Q3.out, HS.out, HB.out, HSZ.out⟩
          case round =>
            rename World => wy
            obtain ⟨j, st', L', m', g', q1, c1, rfl, hj, hf, rfl, hm', hq', hs', hb', hsz'⟩ := hrel
            obtain ⟨f1, f2, f3, f4, f5⟩ := HBF.out.fold HE.out HBP.out HXP.out j hf
            by_cases hlt : j < k
            · obtain ⟨u, hu⟩ : ∃ u, us[j]? = some u := ⟨_, List.getElem?_eq_getElem (by rw [HK.out]; exact hlt)⟩
              obtain ⟨gu, ou, rfl, hcu⟩ := (SBI.out.gw hb').at_ (numN_at hu)
              have hun : u < n := (HE.out.lt _ (mem_ins.1 (by rw [HUS.out]; exact List.mem_of_getElem? hu))).1
              have cu := hs'.numAt (v := u) (by rw [f1]; exact hun)
              have cx := hs'.numAt (v := x) (by rw [f1]; exact HX.out)
              have fu := hs'.own.frozenAt u
              have HNX := Lib.hid (show ((insP E x).take (j + 1)).foldl (bfsI x) (st, all.drop (p + 1)) = bfsI x (st', L') u by rw [bfsI_next (by rw [HUS.out]; exact hu), hf])
              have j1 : (j : Int) < (k : Int) := by omega
              have j2 : (u : Int) < (n : Int) := by omega
              have j3 : (j : Int) ≤ 8192 := by have := HK2.out; omega
              have HJ := Lib.hid hlt
              have HQ' := Lib.hid hq'
              have HS' := Lib.hid hs'
              have HB' := Lib.hid hb'
              have HSZ' := Lib.hid hsz'
              have HM' := Lib.hid hm'
              have HF1 := Lib.hid f1
              have HF5 := Lib.hid f5
              have HUN := Lib.hid hun
              have z0' := keep_below x0 hb'
              by_cases hz : gN st' u = 0
              · have HNX2 := Lib.hid (show ((insP E x).take (j + 1)).foldl (bfsI x) (st, all.drop (p + 1)) = (st'.set u (gN st' x + 1), L' ++ [u]) by rw [HNX.out]; unfold bfsI; rw [if_pos hz])
                rw [hz] at cu
                have v1 : ((gN st' x : Nat) : Int) ≤ 4096 := by have := HN.out; omega
                obtain ⟨vx, hvx⟩ : ∃ vx, gN st' x = vx := ⟨_, rfl⟩
                rw [hvx] at cx v1 HNX2
                obtain ⟨Y, hY⟩ : ∃ Y, wy.setCell ⟨w.heap.size, u, none⟩ (.int .i64 ((vx : Int) + 1)) = Y := ⟨_, rfl⟩
                have oY : Out (fun k => k = w.heap.size) wy Y := hY ▸ Out.setCell (F := fun k => k = w.heap.size) (Out.refl _ wy) (p := ⟨w.heap.size, u, none⟩) (.inl rfl) _
                have SY := Lib.hid (show SO seI w.heap.size Y (.slice (some ⟨w.heap.size, 0, none⟩) n n) n (numN (st'.set u (vx + 1))) by
                  rw [numN_set, ← hY, Int.natCast_add]
                  exact hs'.set1 u _ rfl)
                have QY := Lib.hid (hq'.out oY (by have := L1.out; have := hq'.lo; omega))
                have BY := Lib.hid (show Below w.heap.size w Y from hb'.trans (oY.below hb'.size fun i hi e => by omega))
                have sY : Y.heap.size = wy.heap.size := by have := congrArg (fun W => W.heap.size) hY; simpa using this.symm
                have SZY := Lib.hid (show w1.heap.size ≤ Y.heap.size by omega)
                have cuY : (Y.alloc (.cells #[.int .i64 (u : Nat)] 3)).cell? ⟨Y.heap.size, 0, none⟩ = some (.int .i64 (u : Nat)) := cell_of_row _ _ 0 _ _ _ (heap_alloc_new Y _)
                have CUY := Lib.hid cuY
                have QZ := Lib.hid (show Qu w1.heap.size (Y.alloc (.cells #[.int .i64 (u : Nat)] 3)) g' q1 c1 L' from QY.out.below (alloc_below11 _ _))
                have HY := Lib.hid hY
                subst hm'
                clear hu hun hf hq' hs' hb' hsz' f1 f2 f3 f4 f5 hz hlt hj hvx oY sY cuY hY
                go_upto_region 11 with fail
                rw [HY.out]
                clear cu cx fu z0'
                go_wp2_with (at_builtin; go_loud (refine qu_append (by rfl) (.tmp 65) (.tmp 67) (by rfl) QZ.out (by rfl) (by have := HF5.out; have := HN.out; omega) ⟨Y.heap.size, 0, none⟩ 1 u (by rfl) CUY.out (by have := SZY.out; simp; omega) ?_; intro g9 q9 c9 w9 q9' o9 l9; have Q9 := Lib.hid q9'; have O9 := Lib.hid o9; clear q9' o9 l9))
                go_roundw
                case rel =>
                  have b9 : Below w.heap.size w w9 := by
                    have h1 := BY.out.trans ((alloc_below11 Y (.cells #[.int .i64 (u : Nat)] 3)).mono BY.out.size)
                    refine h1.trans (O9.out.below h1.size fun i hi e => ?_)
                    have := QZ.out.lo; have := L1.out; omega
                  refine ⟨j + 1, _, _, _, g9, q9, c9, by go_num, HJ.out, HNX2.out, rfl, by simp, Q9.out, ?_, b9, ?_⟩
                  · refine (SY.out.below (alloc_below11 _ _)).out11 O9.out fun k hk e => ?_
                    have : w.heap.size = k := by simpa [Value.ownBlock] using hk
                    have := QZ.out.lo; have := L1.out; omega
                  · have h1 := O9.out.size
                    have h2 := SZY.out
                    simp at h1
                    omega
                case measure => have := HJ.out; simp [intOf]; omega
              · have HNX2 := Lib.hid (show ((insP E x).take (j + 1)).foldl (bfsI x) (st, all.drop (p + 1)) = (st', L') by rw [HNX.out]; unfold bfsI; rw [if_neg hz])
                obtain ⟨vu, hvu⟩ : ∃ vu, gN st' u = vu := ⟨_, rfl⟩
                rw [hvu] at cu hz
                have j4 : ¬ (vu : Int) = 0 := by omega
                clear hu hun cx fu hf hm' hq' hs' hb' hsz' f1 f2 f3 f4 f5 hz hlt hj hvu
                go_wp2
                go_roundw
                case rel => exact ⟨j + 1, st', L', m', g', q1, c1, by go_num, HJ.out, HNX2.out, rfl, HM'.out, HQ'.out, HS'.out, HB'.out, HSZ'.out⟩
                case measure => have := HJ.out; simp [intOf]; omega
            · obtain rfl : j = k := by omega
              have hall : (insP E x).take j = insP E x := by rw [HUS.out, ← HK.out, List.take_length]
              rw [hall] at hf
              have hnx := HBF.out.next HE.out HXP.out hf
              have HNX := Lib.hid hnx
              have j1 : ¬ (j : Int) < (j : Int) := by omega
              have HQ' := Lib.hid hq'
              have HS' := Lib.hid hs'
              have HB' := Lib.hid hb'
              have HSZ' := Lib.hid hsz'
              have HM' := Lib.hid hm'
              have HF1 := Lib.hid f1
              have HF2 := Lib.hid f2
              have HF3 := Lib.hid f3
              clear hf hall hnx hm' hq' hs' hb' hsz' f1 f2 f3 f4 f5 hlt hj
              go_wp2
              go_roundg (gk - 1)
              case measure => have := HGP.out; have := HF3.out; omega
              case rel =>
                have h1 := HGP.out
                have h3 := HF3.out
                refine ⟨st', m', g', q1, c1, L', rfl, HM'.out, HQ'.out, HS'.out, HB'.out, HSZ'.out, HF1.out, fun v => Nat.le_trans (HF2.out v) h3, by omega, ?_⟩
                rcases HNX.out with ⟨k1, all', k2, k3⟩ | k1
                · exact .inl ⟨all', p + 1, k2, k3, HF2.out, by omega⟩
                · exact .inr k1
      · have hst : StepsIs E n aim st := by
          rcases hcase with ⟨all, p, hbf, hd, -, -⟩ | ⟨-, k⟩
          · exact absurd hbf.zero hz
          · exact k
        obtain ⟨z, hzz⟩ : ∃ z, gN st aim = z := ⟨_, rfl⟩
        rw [hzz] at cA hz
        have i1 : ¬ (z : Int) = 0 := by omega
        have i2 : (0 : Int) < (m : Int) := by omega
        have HST := Lib.hid hst
        have HS := Lib.hid hs
        have HB := Lib.hid hb
        have HBN := Lib.hid hbn
        clear hm hq hs hb hsz hstl hbn hgk hcase hst exitF hzz hz hm0
        go_wp2
        go_ret
        exact ⟨_, st, rfl, HST.out, HBN.out, HS.out, HB.out⟩
end
end Go.Proofs.YtnpeankmmojebaaGreatDoor
