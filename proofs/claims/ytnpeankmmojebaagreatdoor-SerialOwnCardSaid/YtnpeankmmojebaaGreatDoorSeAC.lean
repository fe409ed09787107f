import Derived.Test.YtnpeankmmojebaaGreatDoorJAQ
import Derived.Test.YtnpeankmmojebaaGreatDoorJAR
/- Layer 11: the program's dependencies. -/
set_option linter.unusedVariables false
namespace Go.Proofs.YtnpeankmmojebaaGreatDoor
set_option maxRecDepth 100000
set_option maxRecDepth 100000
open Go.RowKit Go.Maps Go.ChangeMaps Go.MapKept

theorem succP_mem : ∀ (L : List Int) (v n : Int), succP L v = some n → n ∈ L.tail
  | [], _, _, h => by simp [succP] at h
  | [_], _, _, h => by simp [succP] at h
  | a :: b :: L, v, n, h => by
    by_cases e : v = a
    · have : some b = some n := by rw [← h]; show _ = if v = a then some b else _; rw [if_pos e]
      rw [List.tail_cons, ← Option.some.inj this]; exact List.mem_cons_self ..
    · have : succP (b :: L) v = some n := by rw [← h]; show _ = if v = a then some b else _; rw [if_neg e]
      have := succP_mem (b :: L) v n this
      exact List.mem_cons_of_mem _ this
theorem succP_ne : ∀ (L : List Int) (v n : Int), L.Nodup → succP L v = some n → n ≠ v
  | [], _, _, _, h => by simp [succP] at h
  | [_], _, _, _, h => by simp [succP] at h
  | a :: b :: L, v, n, hd, h => by
    obtain ⟨h1, h2⟩ := List.nodup_cons.1 hd
    by_cases e : v = a
    · have : some b = some n := by rw [← h]; show _ = if v = a then some b else _; rw [if_pos e]
      rw [← Option.some.inj this, e]
      rintro rfl
      exact h1 (List.mem_cons_self ..)
    · have : succP (b :: L) v = some n := by rw [← h]; show _ = if v = a then some b else _; rw [if_neg e]
      exact succP_ne (b :: L) v n h2 this
section
variable {cs : List Int} {ac : List Ac}
/-- What the program lays down for an act. -/
def pdA (cs : List Int) (ac : List Ac) (a : Ac) : List Dp :=
  if a.wr then ((succP (0 :: wrs cs ac a.item) a.txn).elim [] fun n => [⟨a.txn, n, 2⟩])
  else if a.ver = a.txn then [] else (if a.ver = 0 then [] else [⟨a.ver, a.txn, 1⟩]) ++ ((succP (0 :: wrs cs ac a.item) a.ver).elim [] fun n => if n = a.txn then [] else [⟨a.txn, n, 3⟩])
def pdL (cs : List Int) (ac l : List Ac) : List Dp := l.flatMap (pdA cs ac)
theorem pdL_next {l : List Ac} {j : Nat} {a : Ac} (h : l[j]? = some a) : pdL cs ac (l.take (j + 1)) = pdL cs ac (l.take j) ++ pdA cs ac a := by
  unfold pdL
  rw [List.take_add_one, h, Option.toList_some, List.flatMap_append]
  simp
theorem pdA_len (a : Ac) : (pdA cs ac a).length ≤ 2 := by
  unfold pdA
  split
  · cases succP (0 :: wrs cs ac a.item) a.txn <;> simp
  · split
    · simp
    · cases succP (0 :: wrs cs ac a.item) a.ver with
      | none => split <;> simp
      | some n => simp only [Option.elim_some]; split <;> split <;> simp
theorem pdL_len (l : List Ac) : (pdL cs ac l).length ≤ 2 * l.length := by
  unfold pdL
  induction l with
  | nil => simp
  | cons a l ih => rw [List.flatMap_cons, List.length_append, List.length_cons]; have := pdA_len (cs := cs) (ac := ac) a; omega
theorem Right.succ_ok (h : Right cs ac) {it : ByteArray} {v n : Int} (hs : succP (0 :: wrs cs ac it) v = some n) : n ≠ 0 ∧ n ≠ v := by
  refine ⟨?_, succP_ne _ _ _ (h.wrs_ok it) hs⟩
  rintro rfl
  exact (List.nodup_cons.1 (h.wrs_ok it)).1 (succP_mem _ _ _ hs)
theorem Right.pdA_is (h : Right cs ac) {a : Ac} (ha : a ∈ ac) (y : Dp) : y ∈ pdA cs ac a ↔ y ∈ depsA cs ac a ∧ okD y := by
  have ht := h.pos _ (h.txn a ha)
  unfold pdA depsA
  cases hw : a.wr
  · simp only [Bool.false_eq_true, if_false]
    by_cases hv : a.ver = a.txn
    · rw [if_pos hv, if_pos hv]; simp
    · rw [if_neg hv, if_neg hv]
      have hvw : a.ver = 0 ∨ writesP ac a.ver a.item = true := (h.rd a ha hw).imp id (·.2)
      rw [h.next_is hvw]
      have e1 : y ∈ (if a.ver = 0 then [] else [(⟨a.ver, a.txn, 1⟩ : Dp)]) ↔ y = ⟨a.ver, a.txn, 1⟩ ∧ okD y := by
        by_cases h0 : a.ver = 0
        · rw [if_pos h0]
          constructor
          · intro k; cases k
          · rintro ⟨rfl, k, -⟩; exact absurd h0 k
        · rw [if_neg h0, List.mem_singleton]
          exact ⟨fun k => ⟨k, by rw [k]; exact ⟨h0, by show a.txn ≠ 0; omega, hv⟩⟩, fun k => k.1⟩
      have e2 : y ∈ ((succP (0 :: wrs cs ac a.item) a.ver).elim [] fun n => if n = a.txn then [] else [(⟨a.txn, n, 3⟩ : Dp)]) ↔ y = ⟨a.txn, (succP (0 :: wrs cs ac a.item) a.ver).getD 0, 3⟩ ∧ okD y := by
        cases hs : succP (0 :: wrs cs ac a.item) a.ver with
        | none =>
          simp only [Option.elim_none, Option.getD_none]
          constructor
          · intro k; cases k
          · rintro ⟨rfl, -, k, -⟩; exact absurd rfl k
        | some n =>
          obtain ⟨n0, n1⟩ := h.succ_ok hs
          simp only [Option.elim_some, Option.getD_some]
          by_cases hn : n = a.txn
          · rw [if_pos hn]
            constructor
            · intro k; cases k
            · rintro ⟨rfl, -, -, k⟩; exact absurd hn.symm k
          · rw [if_neg hn, List.mem_singleton]
            exact ⟨fun k => ⟨k, by rw [k]; exact ⟨by show a.txn ≠ 0; omega, n0, fun e => hn e.symm⟩⟩, fun k => k.1⟩
      rw [List.mem_append, e1, e2]
      simp only [List.mem_cons, List.not_mem_nil, or_false]
      constructor
      · rintro (⟨k, m⟩ | ⟨k, m⟩)
        · exact ⟨.inl k, m⟩
        · exact ⟨.inr k, m⟩
      · rintro ⟨k | k, m⟩
        · exact .inl ⟨k, m⟩
        · exact .inr ⟨k, m⟩
  · simp only [if_true]
    rw [h.next_is (.inr (writesP_is.2 ⟨a, ha, hw, rfl, rfl⟩)), List.mem_singleton]
    cases hs : succP (0 :: wrs cs ac a.item) a.txn with
    | none =>
      simp only [Option.elim_none, Option.getD_none]
      constructor
      · intro k; cases k
      · rintro ⟨rfl, -, k, -⟩; exact absurd rfl k
    | some n =>
      obtain ⟨n0, n1⟩ := h.succ_ok hs
      simp only [Option.elim_some, Option.getD_some, List.mem_singleton]
      exact ⟨fun k => ⟨k, by rw [k]; exact ⟨by show a.txn ≠ 0; omega, n0, fun e => n1 e.symm⟩⟩, fun k => k.1⟩
/-- Sorted, each once: the graph. -/
theorem Right.graph_of (h : Right cs ac) {ms : List Dp} (hp : ms.Perm (pdL cs ac ac)) (hs : ms.Pairwise fun a b => lessD b a = false) : cpD ms ms.length = graphP cs ac := by
  obtain ⟨c1, c2⟩ := cpD_is hs ms.length (Nat.le_refl _)
  obtain ⟨g1, g2⟩ := graph_is cs ac
  refine strict_ext lessD_irr lessD_asy _ _ c1 g1 fun y => ?_
  rw [c2, List.take_length, hp.mem_iff, g2]
  unfold pdL
  rw [List.mem_flatMap]
  constructor
  · rintro ⟨a, ha, k⟩
    obtain ⟨k1, k2⟩ := (h.pdA_is ha y).1 k
    exact ⟨⟨a, ha, k1⟩, k2⟩
  · rintro ⟨⟨a, ha, k1⟩, k2⟩
    exact ⟨a, ha, (h.pdA_is ha y).2 ⟨k1, k2⟩⟩
end
section
variable {w : World} {A B : Option Addr} {n c m d : Nat} {cs : List Int} {ac : List Ac}
set_option maxHeartbeats 64000000 in
theorem wsDeps (h : Hist w A n c B m d cs ac) (hR : Right cs ac) :
    Calls Tryz.prog 35 #[histV A n c B m d] w fun e w' => ∃ v, e = .returned v ∧ SO seD w.heap.size w' v (graphP cs ac).length (cellsE dpC (graphP cs ac)) ∧ Below w.heap.size w w' := by
  obtain ⟨W0, hB⟩ := h.box
  have HB := Lib.hid hB
  have HW := Lib.hid hB.eq
  have x0 := hB.x0
  have x1 := hB.x1
  have hm : m ≤ 4096 := by rw [← h.al]; exact hR.la
  have HM := Lib.hid hm
  have HR := Lib.hid hR
  have CN := Lib.hid (wsNext hB.h hR)
  obtain ⟨GR, hGR⟩ : ∃ G, graphP cs ac = G := ⟨_, rfl⟩
  rw [hGR]
  have HGR := Lib.hid hGR
  clear h hB hm hR hGR
  unfold histV
  unfold histV at CN
  go_enter Tryz.func35, Tryz.ntmps35
  go_upto_region 1 with fail
  rw [HW.out]
  go_upto_region 4 with (go_at_call 51; go_loud (refine CN.out.mono ?_; rintro e w2 ⟨r, hs, rfl, m2, f2, g2, b2⟩; have M2 := Lib.hid m2; have F2 := Lib.hid f2; have B2 := Lib.hid b2; have y0 := keep_below x0 b2; have y1 := keep_below x1 b2; clear m2 f2 b2))
  clear x0 x1
  go_loopw [3, 16] (fun lv i wr => ∃ j : Nat, i = .int .i64 (j : Nat) ∧ j ≤ m ∧ SO seD w2.heap.size wr lv (pdL cs ac (ac.take j)).length (cellsE dpC (pdL cs ac (ac.take j))) ∧ Below w2.heap.size w2 wr) (fun _ i _ => m - (intOf i).toNat)
  case atStart => exact ⟨0, rfl, Nat.zero_le _, SO.nil _ _ _, Below.refl _ _⟩
  case round =>
    rename World => wr
    obtain ⟨j, rfl, hj, hso, hbl⟩ := hrel
    have z1 := keep_below y1 hbl
    by_cases hlt : j < m
    · obtain ⟨a, hx⟩ : ∃ a, ac[j]? = some a := ⟨_, List.getElem?_eq_getElem (by rw [HB.out.h.al]; exact hlt)⟩
      obtain ⟨g, o, rfl, c0, c1, c2, c3⟩ := (HB.out.h.gw (below_next B2.out hbl)).act hx
      obtain ⟨X, hX⟩ := a.box wr
      have HX := Lib.hid hX.eq
      have d0 := hX.d0
      have d1 := hX.d1
      have d2 := hX.d2
      have d3 := hX.d3
      have i1 : (j : Int) < (m : Int) := by omega
      have l1 : (j : Int) ≤ 4096 := by have := HM.out; omega
      have HAW := Lib.hid (HB.out.h.aw a (List.mem_of_getElem? hx))
      have hBX : Below w2.heap.size w2 X := hbl.trans (hX.below.mono hbl.size)
      have HBX := Lib.hid hBX
      have HT := Lib.hid (pdL_next (cs := cs) (ac := ac) hx)
      have hln := pdL_len (cs := cs) (ac := ac) (ac.take j)
      have hgl : (pdL cs ac (ac.take j)).length ≤ 8192 := by
        have := List.length_take_le j ac
        omega
      have HGL := Lib.hid hgl
      have SO' := Lib.hid (hso.below hX.below)
      have HLT := Lib.hid hlt
      obtain ⟨lA, lc, rfl, -⟩ := hso.form
      have HOB := Lib.hid (fun k e => hso.own.lt k e)
      obtain ⟨G, hG⟩ : ∃ G, pdL cs ac (ac.take j) = G := ⟨_, rfl⟩
      rw [hG] at HT HGL SO' HOB ⊢
      have LK := Lib.hid (fun W (hW : Below w2.heap.size w2 W) v (hv : wfI v) => (M2.out.block (hW.block _ M2.out.lt)).look11 mapVI_und (zeroI W) (x := (a.item, v)) ⟨HAW.out.2.2, hv⟩)
      have hpd : pdA cs ac a = pdA cs ac a := rfl
      have HPA := Lib.hid (show pdA cs ac a = if a.wr then ((succP (0 :: wrs cs ac a.item) a.txn).elim [] fun n => [⟨a.txn, n, 2⟩]) else if a.ver = a.txn then [] else (if a.ver = 0 then [] else [⟨a.ver, a.txn, 1⟩]) ++ ((succP (0 :: wrs cs ac a.item) a.ver).elim [] fun n => if n = a.txn then [] else [⟨a.txn, n, 3⟩]) from rfl)
      obtain ⟨at_, aw, ai, av⟩ := a
      dsimp only at d0 d1 d2 d3 HX c0 c1 c2 c3 HAW LK HPA
      have F2' := F2.out ai
      clear hx hX hj hlt hbl hso hG hln hgl hBX hpd
      cases aw
      · rw [if_neg (by simp)] at HPA
        by_cases hv : av = at_
        · subst hv
          have HS := Lib.hid (show pdA cs ac ⟨av, false, ai, av⟩ = [] by rw [HPA.out, if_pos rfl])
          go_upto_region 6 with fail
          rw [HX.out]
          clear c0 c1 c2 c3 z1
          go_wp2
          go_roundw
          case rel => exact ⟨j + 1, by go_num, HLT.out, by rw [HT.out, HS.out, List.append_nil]; exact SO'.out, HBX.out⟩
          case measure => have := HLT.out; simp [intOf]; omega
        · rw [if_neg hv] at HPA
          have hv' : (av == at_) = false := by simpa using hv
          have F3 := F2' av
          clear F2'
          by_cases h0 : av = 0
          · subst h0
            rw [if_pos rfl, List.nil_append] at HPA
            cases hs3 : succP (0 :: wrs cs ac ai) 0 with
            | none =>
              have HS := Lib.hid (show pdA cs ac ⟨at_, false, ai, 0⟩ = [] by rw [HPA.out, hs3]; simp)
              have lk := (show (Instr.lookup mapVI (.map (some r)) (.agg #[.string ai, .int .i64 0]) true).run Tryz.prog X = .ok (.tuple #[.int .i64 0, .bool false]) X from by have := LK.out X (HBX.out) 0 (HAW.out.2.1); rw [F3, hs3] at this; exact this)
              go_upto_region 6 with fail
              rw [HX.out]
              clear c0 c1 c2 c3 z1
              go_wp2
              go_roundw
              case rel => exact ⟨j + 1, by go_num, HLT.out, by rw [HT.out, HS.out, List.append_nil]; exact SO'.out, HBX.out⟩
              case measure => have := HLT.out; simp [intOf]; omega
            | some nx =>
              by_cases hne : nx = at_
              · subst hne
                have HS := Lib.hid (show pdA cs ac ⟨nx, false, ai, 0⟩ = [] by rw [HPA.out, hs3]; simp)
                have lk := (show (Instr.lookup mapVI (.map (some r)) (.agg #[.string ai, .int .i64 0]) true).run Tryz.prog X = .ok (.tuple #[.int .i64 nx, .bool true]) X from by have := LK.out X (HBX.out) 0 (HAW.out.2.1); rw [F3, hs3] at this; exact this)
                go_upto_region 6 with fail
                rw [HX.out]
                clear c0 c1 c2 c3 z1
                go_wp2
                go_roundw
                case rel => exact ⟨j + 1, by go_num, HLT.out, by rw [HT.out, HS.out, List.append_nil]; exact SO'.out, HBX.out⟩
                case measure => have := HLT.out; simp [intOf]; omega
              · have hne' : (nx != at_) = true := by simpa using hne
                have HS := Lib.hid (show pdA cs ac ⟨at_, false, ai, 0⟩ = [⟨at_, nx, 3⟩] by rw [HPA.out, hs3]; simp [hne])
                have lk := (show (Instr.lookup mapVI (.map (some r)) (.agg #[.string ai, .int .i64 0]) true).run Tryz.prog X = .ok (.tuple #[.int .i64 nx, .bool true]) X from by have := LK.out X (HBX.out) 0 (HAW.out.2.1); rw [F3, hs3] at this; exact this)
                go_upto_region 6 with fail
                rw [HX.out]
                clear c0 c1 c2 c3 z1
                go_wp2_with (at_builtin; go_loud (refine so_append seD_ok (by rfl) (.tmp 73) (.tmp 78) (by rfl) _ (by rfl) (SO'.out.alloc _) (some ⟨X.heap.size, 0, none⟩) 1 1 (cellsE dpC [⟨at_, nx, 3⟩]) (by rfl) (sb_dep X ⟨at_, nx, 3⟩) (by have := HGL.out; simp; omega) (by have := HBX.out.size; simp; omega) ?_; intro v7 w7 o7 b7; have O7 := Lib.hid o7; have B7 := Lib.hid b7; clear o7 b7))
                go_roundw
                case rel => exact ⟨j + 1, by go_num, HLT.out, by rw [HT.out, HS.out, cellsE_app, List.length_append]; exact O7.out, (HBX.out.alloc HBX.out.size _).trans B7.out⟩
                case measure => have := HLT.out; simp [intOf]; omega
          · have h0' : (av != 0) = true := by simpa using h0
            rw [if_neg h0] at HPA
            have SO5 := SO'
            cases hs3 : succP (0 :: wrs cs ac ai) av with
            | none =>
              have HS := Lib.hid (show pdA cs ac ⟨at_, false, ai, av⟩ = [⟨av, at_, 1⟩] by rw [HPA.out, hs3]; simp)
              go_upto_region 6 with fail
              rw [HX.out]
              clear c0 c1 c2 c3 z1
              go_upto_region 13 with (at_builtin; go_loud (refine so_appendL seD_ok (by rfl) (.tmp 48) (.tmp 54) (by rfl) _ (by rfl) (SO'.out.alloc _) X.heap.size 1 (cellsE dpC [⟨av, at_, 1⟩]) (by rfl) (sb_dep X ⟨av, at_, 1⟩) (by have := HGL.out; simp only [seD]; omega) (by have := HGL.out; simp only [maxLen]; omega) (by have := HBX.out.size; simp; omega) ?_; intro g5 cap5 w5 o5 hg5 _; have O5 := Lib.hid o5; have q5 : Out (fun k => (Value.slice lA G.length lc).ownBlock = some k) (X.alloc (.cells #[.int .i64 av, .int .i64 at_, .int .i64 1] 51)) w5 := (Out.refl _ _).grown hg5 (fun k e => .inl e); have b5 : Below w2.heap.size w2 w5 := HBX.out.trans (((alloc_below11 X _).mono HBX.out.size).trans (q5.below (by have := HBX.out.size; simp; omega) fun i hi e => by have := (HOB.out i e).1; omega)); have B5 := Lib.hid b5; have f0 := q5.cell (keep_below d0 (alloc_below11 X _)) (fun e => Nat.lt_irrefl _ (HOB.out _ e).2); have f2 := q5.cell (keep_below d2 (alloc_below11 X _)) (fun e => Nat.lt_irrefl _ (HOB.out _ e).2); have f3 := q5.cell (keep_below d3 (alloc_below11 X _)) (fun e => Nat.lt_irrefl _ (HOB.out _ e).2); have lk := (show (Instr.lookup mapVI (.map (some r)) (.agg #[.string ai, .int .i64 av]) true).run Tryz.prog w5 = .ok (.tuple #[.int .i64 0, .bool false]) w5 from by have := LK.out w5 (b5) av (HAW.out.2.1); rw [F3, hs3] at this; exact this); clear o5 hg5 q5 b5))
              clear d0 d1 d2 d3
              go_wp2
              go_roundw
              case rel => exact ⟨j + 1, by go_num, HLT.out, by rw [HT.out, HS.out, cellsE_app, List.length_append]; exact O5.out, B5.out⟩
              case measure => have := HLT.out; simp [intOf]; omega
            | some nx =>
              by_cases hne : nx = at_
              · subst hne
                have HS := Lib.hid (show pdA cs ac ⟨nx, false, ai, av⟩ = [⟨av, nx, 1⟩] by rw [HPA.out, hs3]; simp)
                go_upto_region 6 with fail
                rw [HX.out]
                clear c0 c1 c2 c3 z1
                go_upto_region 13 with (at_builtin; go_loud (refine so_appendL seD_ok (by rfl) (.tmp 48) (.tmp 54) (by rfl) _ (by rfl) (SO'.out.alloc _) X.heap.size 1 (cellsE dpC [⟨av, nx, 1⟩]) (by rfl) (sb_dep X ⟨av, nx, 1⟩) (by have := HGL.out; simp only [seD]; omega) (by have := HGL.out; simp only [maxLen]; omega) (by have := HBX.out.size; simp; omega) ?_; intro g5 cap5 w5 o5 hg5 _; have O5 := Lib.hid o5; have q5 : Out (fun k => (Value.slice lA G.length lc).ownBlock = some k) (X.alloc (.cells #[.int .i64 av, .int .i64 nx, .int .i64 1] 51)) w5 := (Out.refl _ _).grown hg5 (fun k e => .inl e); have b5 : Below w2.heap.size w2 w5 := HBX.out.trans (((alloc_below11 X _).mono HBX.out.size).trans (q5.below (by have := HBX.out.size; simp; omega) fun i hi e => by have := (HOB.out i e).1; omega)); have B5 := Lib.hid b5; have f0 := q5.cell (keep_below d0 (alloc_below11 X _)) (fun e => Nat.lt_irrefl _ (HOB.out _ e).2); have f2 := q5.cell (keep_below d2 (alloc_below11 X _)) (fun e => Nat.lt_irrefl _ (HOB.out _ e).2); have f3 := q5.cell (keep_below d3 (alloc_below11 X _)) (fun e => Nat.lt_irrefl _ (HOB.out _ e).2); have lk := (show (Instr.lookup mapVI (.map (some r)) (.agg #[.string ai, .int .i64 av]) true).run Tryz.prog w5 = .ok (.tuple #[.int .i64 nx, .bool true]) w5 from by have := LK.out w5 (b5) av (HAW.out.2.1); rw [F3, hs3] at this; exact this); clear o5 hg5 q5 b5))
                clear d0 d1 d2 d3
                go_wp2
                go_roundw
                case rel => exact ⟨j + 1, by go_num, HLT.out, by rw [HT.out, HS.out, cellsE_app, List.length_append]; exact O5.out, B5.out⟩
                case measure => have := HLT.out; simp [intOf]; omega
              · have hne' : (nx != at_) = true := by simpa using hne
                have HS := Lib.hid (show pdA cs ac ⟨at_, false, ai, av⟩ = [⟨av, at_, 1⟩] ++ [⟨at_, nx, 3⟩] by rw [HPA.out, hs3]; simp [hne])
                go_upto_region 6 with fail
                rw [HX.out]
                clear c0 c1 c2 c3 z1
                go_upto_region 13 with (at_builtin; go_loud (refine so_appendL seD_ok (by rfl) (.tmp 48) (.tmp 54) (by rfl) _ (by rfl) (SO'.out.alloc _) X.heap.size 1 (cellsE dpC [⟨av, at_, 1⟩]) (by rfl) (sb_dep X ⟨av, at_, 1⟩) (by have := HGL.out; simp only [seD]; omega) (by have := HGL.out; simp only [maxLen]; omega) (by have := HBX.out.size; simp; omega) ?_; intro g5 cap5 w5 o5 hg5 _; have O5 := Lib.hid o5; have q5 : Out (fun k => (Value.slice lA G.length lc).ownBlock = some k) (X.alloc (.cells #[.int .i64 av, .int .i64 at_, .int .i64 1] 51)) w5 := (Out.refl _ _).grown hg5 (fun k e => .inl e); have b5 : Below w2.heap.size w2 w5 := HBX.out.trans (((alloc_below11 X _).mono HBX.out.size).trans (q5.below (by have := HBX.out.size; simp; omega) fun i hi e => by have := (HOB.out i e).1; omega)); have B5 := Lib.hid b5; have f0 := q5.cell (keep_below d0 (alloc_below11 X _)) (fun e => Nat.lt_irrefl _ (HOB.out _ e).2); have f2 := q5.cell (keep_below d2 (alloc_below11 X _)) (fun e => Nat.lt_irrefl _ (HOB.out _ e).2); have f3 := q5.cell (keep_below d3 (alloc_below11 X _)) (fun e => Nat.lt_irrefl _ (HOB.out _ e).2); have lk := (show (Instr.lookup mapVI (.map (some r)) (.agg #[.string ai, .int .i64 av]) true).run Tryz.prog w5 = .ok (.tuple #[.int .i64 nx, .bool true]) w5 from by have := LK.out w5 (b5) av (HAW.out.2.1); rw [F3, hs3] at this; exact this); clear o5 hg5 q5 b5))
                clear d0 d1 d2 d3
                go_wp2_with (at_builtin; go_loud (refine so_append seD_ok (by rfl) (.tmp 73) (.tmp 78) (by rfl) _ (by rfl) (O5.out.alloc _) (some ⟨w5.heap.size, 0, none⟩) 1 1 (cellsE dpC [⟨at_, nx, 3⟩]) (by rfl) (sb_dep w5 ⟨at_, nx, 3⟩) (by have := HGL.out; simp; omega) (by have := B5.out.size; simp; omega) ?_; intro v7 w7 o7 b7; have O7 := Lib.hid o7; have B7 := Lib.hid b7; clear o7 b7))
                go_roundw
                case rel => exact ⟨j + 1, by go_num, HLT.out, by rw [HT.out, HS.out, cellsE_app, List.length_append]; exact O7.out.base (Nat.le_refl _) (by rw [cellsE_app, List.append_assoc]) (by simp), (B5.out.alloc B5.out.size _).trans B7.out⟩
                case measure => have := HLT.out; simp [intOf]; omega
      · rw [if_pos rfl] at HPA
        have F3 := F2' at_
        clear F2'
        cases hs3 : succP (0 :: wrs cs ac ai) at_ with
        | none =>
          have HS := Lib.hid (show pdA cs ac ⟨at_, true, ai, av⟩ = [] by rw [HPA.out, hs3]; rfl)
          have lk := (show (Instr.lookup mapVI (.map (some r)) (.agg #[.string ai, .int .i64 at_]) true).run Tryz.prog X = .ok (.tuple #[.int .i64 0, .bool false]) X from by have := LK.out X (HBX.out) at_ (HAW.out.1); rw [F3, hs3] at this; exact this)
          go_upto_region 6 with fail
          rw [HX.out]
          clear c0 c1 c2 c3 z1
          go_wp2
          go_roundw
          case rel => exact ⟨j + 1, by go_num, HLT.out, by rw [HT.out, HS.out, List.append_nil]; exact SO'.out, HBX.out⟩
          case measure => have := HLT.out; simp [intOf]; omega
        | some nx =>
          have HS := Lib.hid (show pdA cs ac ⟨at_, true, ai, av⟩ = [⟨at_, nx, 2⟩] by rw [HPA.out, hs3]; rfl)
          have lk := (show (Instr.lookup mapVI (.map (some r)) (.agg #[.string ai, .int .i64 at_]) true).run Tryz.prog X = .ok (.tuple #[.int .i64 nx, .bool true]) X from by have := LK.out X (HBX.out) at_ (HAW.out.1); rw [F3, hs3] at this; exact this)
          go_upto_region 6 with fail
          rw [HX.out]
          clear c0 c1 c2 c3 z1
          go_wp2_with (at_builtin; go_loud (refine so_append seD_ok (by rfl) (.tmp 33) (.tmp 38) (by rfl) _ (by rfl) (SO'.out.alloc _) (some ⟨X.heap.size, 0, none⟩) 1 1 (cellsE dpC [⟨at_, nx, 2⟩]) (by rfl) (sb_dep X ⟨at_, nx, 2⟩) (by have := HGL.out; simp; omega) (by have := HBX.out.size; simp; omega) ?_; intro v7 w7 o7 b7; have O7 := Lib.hid o7; have B7 := Lib.hid b7; clear o7 b7))
          go_roundw
          case rel => exact ⟨j + 1, by go_num, HLT.out, by rw [HT.out, HS.out, cellsE_app, List.length_append]; exact O7.out, (HBX.out.alloc HBX.out.size _).trans B7.out⟩
          case measure => have := HLT.out; simp [intOf]; omega
    · obtain rfl : j = m := by omega
      have i1 : ¬ (j : Int) < (j : Int) := by omega
      have hall : ac.take j = ac := by rw [← HB.out.h.al]; exact List.take_length
      rw [hall] at hso
      have hln := pdL_len (cs := cs) (ac := ac) ac
      have hle : (pdL cs ac ac).length ≤ 8192 := by have := HB.out.h.al; have := HM.out; omega
      have CS := Lib.hid (wsortD hso (by omega))
      have HBL := Lib.hid hbl
      have HLE := Lib.hid hle
      obtain ⟨lA, lc, rfl, -⟩ := hso.form
      clear hj hlt hbl hso hall hln hle z1
      go_wp2_with (first
        | (go_at_call 52; go_loud (refine CS.out.mono ?_; rintro e w3 ⟨rfl, ⟨ms, hp, hs3, so3⟩, b3⟩; have B3 := Lib.hid b3; have HG := Lib.hid ((HR.out.graph_of hp hs3).trans HGR.out); have so4 := so3; rw [← hp.length_eq] at so4; have CC := Lib.hid (wcompactD so4 (by rw [hp.length_eq]; have := HLE.out; omega)); rw [HG.out, hp.length_eq] at CC; clear so3 so4 b3 hp hs3))
        | (go_at_call 56; go_loud (refine CC.out.mono ?_; rintro e w4 ⟨v4, rfl, s4, b4⟩; have S4 := Lib.hid s4; have B4 := Lib.hid b4; clear s4 b4)))
      go_ret
      have e1 := HB.out.below.size
      have e2 := B2.out.size
      have e3 := HBL.out.size
      exact ⟨_, rfl, S4.out.base (by omega) rfl rfl, below_next (below_next HB.out.below B2.out) (HBL.out.trans (B3.out.trans B4.out))⟩
end
end Go.Proofs.YtnpeankmmojebaaGreatDoor
