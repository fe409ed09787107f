import Derived.Test.YtknppiebncdjmaaGreatJBQ
import Derived.Test.YtknppiebncdjmaaGreatJBR
import Derived.Test.YtknppiebncdjmaaGreatJBK
/- Layer 10: do: Commit. -/
namespace Go.Proofs.YtknppiebncdjmaaGreat
set_option maxRecDepth 100000
set_option maxRecDepth 100000
open Go.RowKit

section
variable {P : Nat → Prop} {wf w0 w w' : World} {G K : Nat → Prop} {p b : Nat} {V : WdV} {rows : List Lk} {vs : List Ver10} {ms : List RunM} {c : Cp10} {S S' : St10}
theorem owners_set {i : Nat} {x x' : RunM} (hi : ms[i]? = some x) (hr : runOwn x' = runOwn x) : ownersW V (ms.set i x') = ownersW V ms := by
  obtain ⟨a, b, e1, -, e2⟩ := flat_set_own (x' := x') hi
  unfold ownersW
  rw [e2, e1]
  simp only [List.flatMap_append, List.flatMap_cons, List.flatMap_nil, List.append_nil, hr]
set_option maxHeartbeats 16000000 in
theorem wDoCommit (h : Do10 P wf w0 w G K p b V rows vs ms c S) (hb : Bd10 S) (hn : ms.length ≤ 1048576) (o : OpX) (ho : o.do_ = 4) (mo : Nat) {i : Nat} {x : RunM} (hi : ms[i]? = some x) (hof : ofW (ms.map (·.r)) o.tx = (i : Int)) (hx : (Lit.int .i64 o.tx).wf = true) (hn2 : vs.length + x.r.writes.length ≤ 1500000000000) (hS0 : 0 ≤ S.last)
    (hs : (commit10 c S o.tx).1.2 = 0 → (commit10 c S o.tx).1.1 = (if x.r.writes = [] then S.last else S.last + 1) ∧ (commit10 c S o.tx).2.last = (commit10 c S o.tx).1.1) (hb' : Bd10 (commit10 c S o.tx).2) :
    Calls Tryz.prog 22 #[.pointer (some ⟨p, 0, none⟩), .agg #[.int .i64 o.do_, .int .i64 o.tx, .string o.at_.1, .string o.at_.2, .string o.to_, .int .i64 o.last], .int .i64 (mo : Int)] w fun e w' => e = .returned (.int .i64 (commit10 c S o.tx).1.2) ∧ DoEx P wf w0 p b rows c (commit10 c S o.tx).2 (if (commit10 c S o.tx).1.2 = 0 then layP vs (commit10 c S o.tx).1.1 i x.r.writes else vs) ((ms.map (·.r)).set i (if (commit10 c S o.tx).1.2 = 0 then overR { x.r with com := true } mo else overR x.r mo)) w' := by
  obtain ⟨do_, tx, ⟨tb, ky⟩, to_, last⟩ := o
  dsimp only at ho hof hx hs hb' ⊢
  subst ho
  obtain ⟨W, hW⟩ : ∃ W, w.alloc (.cells #[.int .i64 4, .int .i64 tx, .string tb, .string ky, .string to_, .int .i64 last] 44) = W := ⟨_, rfl⟩
  obtain ⟨hB, o0, o1, -⟩ := op_row ⟨4, tx, (tb, ky), to_, last⟩ W hW
  dsimp only at o0 o1
  have HW := Lib.hid hW
  have hD := h.bel hB
  have CO := Lib.hid (hD.d.of (by omega) tx)
  rw [hof] at CO
  obtain ⟨⟨⟨num, er⟩, S'⟩, hq⟩ : ∃ q, commit10 c S tx = q := ⟨_, rfl⟩
  have CA := Lib.hid (fun (W1 : World) (D : Do10 P wf w0 W1 G K p b V rows vs ms c S) => w10Commit D.m hb hx)
  simp only [hq] at CA
  rw [hq] at hs hb' ⊢
  dsimp only at hs hb' ⊢
  have CN := Lib.hid (fun (W1 : World) (D : Do10 P wf w0 W1 G K p b V rows vs ms c S) => w10Now D.m hb)
  have CN2 := Lib.hid (fun (W1 : World) (G1 K1 : Nat → Prop) (D : Do10 P wf w0 W1 G1 K1 p b V rows vs ms c S') => w10Now D.m hb')
  have CC := Lib.hid (fun (W1 : World) (G1 K1 : Nat → Prop) (D : Do10 P wf w0 W1 G1 K1 p b V rows vs ms c S') => wCommit10 D.d D.glt D.z.size hi hn hn2 num)
  have hwrap : IntKind.i64.wrap (S.last + 1) = S.last + 1 := by have := hb.l; rw [IntKind.wrap_i64]; omega
  have HOW := Lib.hid (fun hg => Nat.lt_irrefl _ (h.d.lt w.heap.size hg).2 : ¬ w.heap.size ∈ p :: ownersW V ms)
  have HOS := Lib.hid (owners_set (V := V) (x' := { x with r := { x.r with com := true } }) hi rfl)
  have HI5 := Lib.hid (List.getElem?_set_self (List.getElem?_eq_some_iff.1 hi).1 : (ms.set i { x with r := { x.r with com := true } })[i]? = some { x with r := { x.r with com := true } })
  have HD := Lib.hid hD
  have HI := Lib.hid hi
  have HGW := Lib.hid (fun hg => Nat.lt_irrefl _ (h.mlt w.heap.size hg) : ¬ G w.heap.size)
  have hil := (List.getElem?_eq_some_iff.1 hi).1
  have i1 : (i : Int) < (ms.length : Int) := by omega
  have i1' : (0 : Int) ≤ (i : Int) := by omega
  have i1'' : ¬ (i : Int) < 0 := by omega
  obtain ⟨g, hg, -, -⟩ := hD.d.place hi
  have p3 : ∀ W2, Do10 P wf w0 W2 G K p b V rows vs ms c S → W2.cell? ⟨p, 3, none⟩ = some (.slice (some ⟨g, 0, none⟩) ms.length V.lc) := fun W2 D => by rw [← hg]; exact D.d.cells.2.2.2.1
  have P3 := Lib.hid p3
  have HG := Lib.hid hg
  clear h hb hn hW hB hD hof hq hx hi hil hg p3 hn2 hS0 hb'
  go_enter Tryz.func22, Tryz.ntmps22
  go_upto_region 1 with fail
  rw [HW.out]
  go_upto_region 37 with (first | (go_at_call 34; go_loud (refine (CN.out _ D2.out).mono ?_; rintro e w9 ⟨rfl, hw⟩; replace hw := hw.symm; subst hw)) | (go_at_call 26; go_loud (refine CO.out.mono ?_; rintro e w2 ⟨rfl, b2⟩; replace o0 := keep_below o0 b2; replace o1 := keep_below o1 b2; have D2 := Lib.hid (HD.out.bel b2); have q3 := P3.out _ D2.out; have q0 := D2.out.d.cells.1; clear b2)))
  have S0 : w2.cell? ⟨p, 0, none⟩ = some (.pointer (some ⟨b, 0, none⟩)) ∧ w2.cell? ⟨w.heap.size, 1, none⟩ = some (.int .i64 tx) := ⟨q0, o1⟩
  clear q3
  go_region_held3 (fun w' => w'.cell? ⟨p, 0, none⟩ = some (.pointer (some ⟨b, 0, none⟩)) ∧ w'.cell? ⟨w.heap.size, 1, none⟩ = some (.int .i64 tx))
    (first | exact S0 | exact SA)
    (first | (go_at_call 32; go_loud (refine (CA.out _ (D2.out.bel (Below.refl _ _).drew)).mono ?_; rintro e w3 ⟨rfl, l3⟩; obtain ⟨G3, K3, d3⟩ := (D2.out.bel (Below.refl _ _).drew).call l3; obtain ⟨-, -, -, -, -, out3⟩ := l3; have r0 := out3.cell (p := ⟨w.heap.size, 0, none⟩) o0 HGW.out; have SA : w3.cell? ⟨p, 0, none⟩ = some (.pointer (some ⟨b, 0, none⟩)) ∧ w3.cell? ⟨w.heap.size, 1, none⟩ = some (.int .i64 tx) := ⟨d3.d.cells.1, out3.cell (p := ⟨w.heap.size, 1, none⟩) o1 HGW.out⟩; have D3 := Lib.hid d3; clear d3 out3)))
  all_goals
    clear S0 o0 o1 q0
    obtain ⟨g', hg', hcell, hfro⟩ := D3.out.d.place HI.out
    obtain rfl : g' = g := by have := HG.out; rw [hg'] at this; simpa using this
    have c5 : w3.cell? ⟨g', i * 8 + 5, none⟩ = some (.bool x.r.over) := hcell 5 _ rfl
    have c3 : w3.cell? ⟨g', i * 8 + 3, none⟩ = some (.int .i64 x.r.ended) := hcell 3 _ rfl
    have f5 : w3.frozen? ⟨g', i * 8 + 5, none⟩ = false := hfro _
    have f3 : w3.frozen? ⟨g', i * 8 + 3, none⟩ = false := hfro _
    have c7 : w3.cell? ⟨g', i * 8 + 7, none⟩ = some (.slice x.wa x.r.writes.length x.wc) := hcell 7 _ rfl
    clear hcell hfro SA hg'
    by_cases he : er = 0
    · subst he
      obtain ⟨hs1, hs2⟩ := hs rfl
      clear hs c5 c3 f5 f3
      have n0 := D3.out.d.cells.1
      have n4 := D3.out.d.cells.2.2.2.2
      have nf : w3.frozen? ⟨p, 4, none⟩ = false := frozen_of_row _ _ _ _ _ D3.out.d.blk
      have DB := Lib.hid (D3.out.own (Out.setCell (F := fun k => k ∈ p :: ownersW V ms) (p := ⟨p, 4, none⟩) (Out.refl _ _) (.inl (List.mem_cons_self ..)) _) (D3.out.d.setBad false))
      have rB : (w3.setCell ⟨p, 4, none⟩ (.bool false)).cell? ⟨w.heap.size, 0, none⟩ = some (.int .i64 4) := (Out.setCell (F := fun k => k ∈ p :: ownersW V ms) (p := ⟨p, 4, none⟩) (Out.refl _ w3) (.inl (List.mem_cons_self ..)) _).cell r0 HOW.out
      rcases (show x.r.writes = [] ∨ ∃ l0 ls0, x.r.writes = l0 :: ls0 by cases x.r.writes <;> simp) with hwr | ⟨l0, ls0, hwr⟩
      · rw [if_pos hwr] at hs1
        subst hs1
        rw [hwr, List.length_nil] at c7
        clear hwr
        go_upto_region 47 with (first
          | (go_at_call 34; go_loud (refine (CN2.out _ _ _ D3.out).mono ?_; rintro e w9 ⟨rfl, hw⟩; replace hw := hw.symm; subst hw))
          | (go_at_call 69; go_loud (refine (CC.out _ _ _ DB.out).mono ?_; rintro e w5 ⟨rfl, va5, vc5, d5, -, out5⟩; rw [HOS.out] at out5; have D5 := Lib.hid (DB.out.own out5 d5); have t0 := out5.cell (p := ⟨w.heap.size, 0, none⟩) rB HOW.out; clear d5 out5)))
        obtain ⟨g5, hg5, hcell5, hfro5⟩ := D5.out.d.place HI5.out
        obtain rfl : g5 = g' := by have := HG.out; have h5 : V.la = some ⟨g5, 0, none⟩ := hg5; rw [h5] at this; simpa using this
        have e5 : w5.cell? ⟨g5, i * 8 + 5, none⟩ = some (.bool x.r.over) := hcell5 5 _ rfl
        have e3 : w5.cell? ⟨g5, i * 8 + 3, none⟩ = some (.int .i64 x.r.ended) := hcell5 3 _ rfl
        have k5 : w5.frozen? ⟨g5, i * 8 + 5, none⟩ = false := hfro5 _
        have k3 : w5.frozen? ⟨g5, i * 8 + 3, none⟩ = false := hfro5 _
        clear hcell5 hfro5 hg5 r0 rB n0 n4 nf c7
        go_wp2
        go_ret
        exact ⟨rfl, by have := D5.out.over HI5.out HG.out (mo : Int); rw [List.map_set, List.set_set] at this; exact this⟩
      · rw [if_neg (by rw [hwr]; simp)] at hs1
        subst hs1
        obtain ⟨nw, hnw⟩ : ∃ nw : Nat, x.r.writes.length = nw := ⟨_, rfl⟩
        have hpos : (0 : Int) < (nw : Int) := by rw [← hnw, hwr, List.length_cons]; omega
        rw [hnw] at c7
        clear hnw
        clear hwr
        go_upto_region 47 with (first
          | (go_at_call 34; go_loud (refine (CN2.out _ _ _ D3.out).mono ?_; rintro e w9 ⟨rfl, hw⟩; replace hw := hw.symm; subst hw))
          | (go_at_call 69; go_loud (refine (CC.out _ _ _ DB.out).mono ?_; rintro e w5 ⟨rfl, va5, vc5, d5, -, out5⟩; rw [HOS.out] at out5; have D5 := Lib.hid (DB.out.own out5 d5); have t0 := out5.cell (p := ⟨w.heap.size, 0, none⟩) rB HOW.out; clear d5 out5)))
        obtain ⟨g5, hg5, hcell5, hfro5⟩ := D5.out.d.place HI5.out
        obtain rfl : g5 = g' := by have := HG.out; have h5 : V.la = some ⟨g5, 0, none⟩ := hg5; rw [h5] at this; simpa using this
        have e5 : w5.cell? ⟨g5, i * 8 + 5, none⟩ = some (.bool x.r.over) := hcell5 5 _ rfl
        have e3 : w5.cell? ⟨g5, i * 8 + 3, none⟩ = some (.int .i64 x.r.ended) := hcell5 3 _ rfl
        have k5 : w5.frozen? ⟨g5, i * 8 + 5, none⟩ = false := hfro5 _
        have k3 : w5.frozen? ⟨g5, i * 8 + 3, none⟩ = false := hfro5 _
        clear hcell5 hfro5 hg5 r0 rB n0 n4 nf c7
        go_wp2
        go_ret
        exact ⟨rfl, by have := D5.out.over HI5.out HG.out (mo : Int); rw [List.map_set, List.set_set] at this; exact this⟩
    · clear hs
      go_wp2
      go_ret
      exact ⟨rfl, D3.out.over HI.out HG.out _⟩
end
end Go.Proofs.YtknppiebncdjmaaGreat

/- Layer 10: do: an operation of no kind. -/
namespace Go.Proofs.YtknppiebncdjmaaGreat
set_option maxRecDepth 100000
set_option maxRecDepth 100000
open Go.RowKit

section
variable {P : Nat → Prop} {wf w0 w w' : World} {G K : Nat → Prop} {p b : Nat} {V : WdV} {rows : List Lk} {vs : List Ver10} {ms : List RunM} {c : Cp10} {S S' : St10}
set_option maxHeartbeats 16000000 in
theorem wDoElse (h : Do10 P wf w0 w G K p b V rows vs ms c S) (hn : ms.length ≤ 1048576) (o : OpX) (ho : o.do_ ≠ 0 ∧ o.do_ ≠ 1 ∧ o.do_ ≠ 2 ∧ o.do_ ≠ 3 ∧ o.do_ ≠ 4 ∧ o.do_ ≠ 5) (mo : Nat) {i : Nat} {x : RunM} (hi : ms[i]? = some x) (hno : ofW (ms.map (·.r)) o.tx = (i : Int)) :
    Calls Tryz.prog 22 #[.pointer (some ⟨p, 0, none⟩), .agg #[.int .i64 o.do_, .int .i64 o.tx, .string o.at_.1, .string o.at_.2, .string o.to_, .int .i64 o.last], .int .i64 (mo : Int)] w fun e w' => e = .returned (.int .i64 0) ∧ DoEx P wf w0 p b rows c S vs (ms.map (·.r)) w' := by
  obtain ⟨do_, tx, ⟨tb, ky⟩, to_, last⟩ := o
  dsimp only at ho hno ⊢
  obtain ⟨W, hW⟩ : ∃ W, w.alloc (.cells #[.int .i64 do_, .int .i64 tx, .string tb, .string ky, .string to_, .int .i64 last] 44) = W := ⟨_, rfl⟩
  obtain ⟨hB, o0, o1, -⟩ := op_row ⟨do_, tx, (tb, ky), to_, last⟩ W hW
  dsimp only at o0 o1
  have HW := Lib.hid hW
  have hD := h.bel hB
  have CO := Lib.hid (hD.d.of (by omega) tx)
  rw [hno] at CO
  obtain ⟨h0, h1, h2, h3, h4, h5⟩ := ho
  obtain ⟨g, hg, -, -⟩ := hD.d.place hi
  have hil := (List.getElem?_eq_some_iff.1 hi).1
  have i1 : (i : Int) < (ms.length : Int) := by omega
  have i1' : (0 : Int) ≤ (i : Int) := by omega
  have i1'' : ¬ (i : Int) < 0 := by omega
  have P3 := Lib.hid (fun W2 (D : Do10 P wf w0 W2 G K p b V rows vs ms c S) => (show W2.cell? ⟨p, 3, none⟩ = some (.slice (some ⟨g, 0, none⟩) ms.length V.lc) by rw [← hg]; exact D.d.cells.2.2.2.1))
  have HD := Lib.hid hD
  clear h hn hW hB hD hno hi hg hil
  go_enter Tryz.func22, Tryz.ntmps22
  go_upto_region 1 with fail
  rw [HW.out]
  go_wp2_with (go_at_call 26; go_loud (refine CO.out.mono ?_; rintro e w2 ⟨rfl, b2⟩; replace o0 := keep_below o0 b2; have D2 := Lib.hid (HD.out.bel b2); have q3 := P3.out _ D2.out; clear b2))
  go_ret
  exact ⟨rfl, G, K, V, ms, D2.out, rfl⟩
end
end Go.Proofs.YtknppiebncdjmaaGreat

/- Layer 10: do, of any kind: from what a loop over a script keeps to the same. -/
namespace Go.Proofs.YtknppiebncdjmaaGreat
set_option maxRecDepth 100000
set_option maxRecDepth 100000
open Go.RowKit

theorem wf_ofX {x : Int} (h : -9223372036854775808 ≤ x ∧ x ≤ 9223372036854775807) : (Lit.int .i64 x).wf = true := by
  simpa [Lit.wf, IntKind.min, IntKind.max, IntKind.bits, IntKind.signed] using h
/-- A law's world in memory, as plain lists say it. -/
def DoIs (P : Nat → Prop) (wf w0 : World) (p b : Nat) (rows : List Lk) (c : Cp10) (X : Pl10) (w : World) : Prop := DoEx P wf w0 p b rows c X.S X.vs X.rs w
/-- What a loop keeps: with moments of one's own, gs. -/
structure Lp10 (R a q d : Nat) (c : Cp10) (X : Pl10) (gs : List Run10) (now : Int) : Prop where
  inv : Inv10 c X.S X.vs gs now
  tw : X.rs.map strip = gs.map strip
  cnt : Cnt10 R a q d X
section
variable {R a q d : Nat} {c : Cp10} {rows : List Lk} {X : Pl10} {gs : List Run10} {now : Int} {o : OpX} {mo : Int}
theorem Lp10.step (L : Lp10 R a q d c X gs now) (h0 : 0 ≤ now) (hn : now ≤ 4611686018427387904) {a' q' d' : Nat} (hc : Cnt10 R a' q' d' (doP c rows X o mo).2) : Lp10 R a' q' d' c (doP c rows X o mo).2 (doP c rows ⟨X.S, X.vs, gs⟩ o now).2.rs (now + 1) := by
  have hs : X.strip = (⟨X.S, X.vs, gs⟩ : Pl10).strip := by unfold Pl10.strip; rw [L.tw]
  have ht := (doP_twin (c := c) (rows := rows) (o := o) hs mo now).2
  have I := Inv10.do (X := ⟨X.S, X.vs, gs⟩) (rows := rows) (o := o) L.inv h0 hn
  unfold Pl10.strip at ht
  simp only [Pl10.mk.injEq] at ht
  obtain ⟨e1, e2, e3⟩ := ht
  rw [← e1, ← e2] at I
  exact ⟨I, e3, hc⟩
/-- Where moments are the law's own. -/
theorem Lp10.own (L : Lp10 R a q d c X X.rs now) (h0 : 0 ≤ now) (hn : now ≤ 4611686018427387904) (hR : 1 ≤ R) (hrow : rows.length ≤ R) : Lp10 R (a + 1) (q + 1) (d + 1) c (doP c rows X o now).2 (doP c rows X o now).2.rs (now + 1) :=
  L.step h0 hn (L.cnt.all hR hrow)
theorem Inv10.bd (h : Inv10 c X.S X.vs gs now) (hl : gs.length ≤ 999999999999999999) (hn : now ≤ 1000000000000000000) : Bd10 X.S := ⟨by have := h.nx; omega, by have := h.lc; omega⟩
theorem strip_at {rs gs : List Run10} (h : rs.map strip = gs.map strip) {i : Nat} {r : Run10} (hi : rs[i]? = some r) : ∃ g, gs[i]? = some g ∧ strip r = strip g := by
  have h1 := congrArg (fun l => l[i]?) h
  simp only [List.getElem?_map, hi, Option.map_some] at h1
  cases hg : gs[i]? with
  | none => rw [hg] at h1; simp at h1
  | some g => rw [hg] at h1; exact ⟨g, rfl, by simpa using h1⟩
theorem wDo {P : Nat → Prop} {wf w0 w : World} {p b : Nat} (h : DoIs P wf w0 p b rows c X w) (L : Lp10 R a q d c X gs now) (h0 : 0 ≤ now) (hn : now ≤ 1000000000000000) (ha : a ≤ 1048576) (hq : q ≤ 1048576) (hd : d ≤ 1048576) (hR : R ≤ 1048576) (hrow : rows.length ≤ R) (o : OpX) (ho : OpXIs o) (mo : Nat) :
    Calls Tryz.prog 22 #[.pointer (some ⟨p, 0, none⟩), .agg #[.int .i64 o.do_, .int .i64 o.tx, .string o.at_.1, .string o.at_.2, .string o.to_, .int .i64 o.last], .int .i64 (mo : Int)] w fun e w' => e = .returned (.int .i64 (doP c rows X o mo).1) ∧ DoIs P wf w0 p b rows c (doP c rows X o mo).2 w' := by
  obtain ⟨S, vs, rs⟩ := X
  obtain ⟨G, K, V, ms, D, hms⟩ := h
  simp only at hms D
  subst hms
  obtain ⟨I, tw, cnt⟩ := L
  simp only at I tw
  have hlen : gs.length = ms.length := by
    have := congrArg List.length tw
    simpa using this.symm
  have c1 : ms.length ≤ a := by simpa using cnt.n
  have hb : Bd10 S := Inv10.bd (X := ⟨S, vs, gs⟩) I (by omega) (by omega)
  have hv : vs.length ≤ 1048576 * 1048576 := Nat.le_trans cnt.v (Nat.mul_le_mul hd hq)
  have hr : ((ms.map (·.r)).map (·.reads.length)).sum ≤ 1048576 * 1048576 := Nat.le_trans cnt.r (Nat.mul_le_mul hq hR)
  have hx := wf_ofX ho.rt
  have hs : (⟨S, vs, ms.map (·.r)⟩ : Pl10).strip = (⟨S, vs, gs⟩ : Pl10).strip := by unfold Pl10.strip; rw [tw]
  have step : Bd10 (doP c rows ⟨S, vs, ms.map (·.r)⟩ o mo).2.S := by
    have ht := (doP_twin (c := c) (rows := rows) (o := o) hs mo now).2
    have I' := Inv10.do (X := ⟨S, vs, gs⟩) (rows := rows) (o := o) I h0 (by omega)
    unfold Pl10.strip at ht
    simp only [Pl10.mk.injEq] at ht
    obtain ⟨e1, -, e3⟩ := ht
    rw [e1]
    refine I'.bd ?_ (by omega)
    have hl2 := congrArg List.length e3
    simp only [List.length_map] at hl2
    rw [← hl2]
    by_cases hd0 : o.do_ = 0
    · have := (cnt.begin (c := c) (rows := rows) (mo := mo) hd0).n; omega
    · unfold doP
      rw [if_neg hd0]
      split
      · simp; omega
      · split
        · simp; omega
        · unfold doR
          split
          · simp; omega
          split
          · simp; omega
          split
          · simp; omega
          split
          · simp; omega
          split
          · simp; omega
          · simp; omega
  by_cases hd0 : o.do_ = 0
  · unfold doP at step ⊢
    rw [if_pos hd0] at step ⊢
    simp only at step ⊢
    exact wDoBegin D hb (by omega) o hd0 mo (fun e => by
      obtain ⟨k1, -⟩ := I.began h0
      obtain ⟨k1, k2, -⟩ := k1 e
      rw [k1, k2]) step
  rcases ofW_is (ms.map (·.r)) o.tx with ⟨h1, -⟩ | ⟨i, r, h1, hi, htx, hov⟩
  · rw [doP_none hd0 h1]
    exact wDoNone D (by omega) o hd0 mo h1
  obtain ⟨x, hxi, rfl⟩ : ∃ x, ms[i]? = some x ∧ x.r = r := by
    rw [List.getElem?_map] at hi
    cases hm : ms[i]? with
    | none => rw [hm] at hi; cases hi
    | some x => rw [hm] at hi; exact ⟨x, rfl, by simpa using hi⟩
  have hrd := sum_at hi
  have hwr := cnt.w x.r (List.mem_of_getElem? hi)
  rw [doP_some hd0 h1 hi] at step ⊢
  unfold doR at step ⊢
  by_cases k1 : o.do_ = 1
  · rw [if_pos k1]
    exact wDoRead D hb (by omega) o k1 mo hxi h1 hx ⟨ho.tb, ho.ky⟩ (by omega) (by omega) (by omega)
  rw [if_neg k1] at step ⊢
  by_cases k2 : o.do_ = 2
  · rw [if_pos k2]
    exact wDoScan D hb (by omega) o k2 mo hxi h1 hx ho.tb ho.ky (by omega) (by omega) (by omega) (by omega)
  rw [if_neg k2] at step ⊢
  by_cases k3 : o.do_ = 3
  · rw [if_pos k3]
    exact wDoWrite D hb (by omega) o k3 mo hxi h1 hx ⟨ho.tb, ho.ky⟩ (by omega) (by omega) (by omega)
  rw [if_neg k3] at step ⊢
  by_cases k4 : o.do_ = 4
  · rw [if_pos k4] at step ⊢
    refine wDoCommit D hb (by omega) o k4 mo hxi h1 hx (by omega) I.lc.1 (fun e => ?_) step
    obtain ⟨g, hg, eg⟩ := strip_at tw hi
    have gov : g.over = false := by rw [← hov]; exact (strip_is eg).2.1.symm
    have gtx : g.tx = o.tx := by rw [← htx]; exact (strip_is eg).1.symm
    have gwr : g.writes = x.r.writes := (strip_is eg).2.2.2.2.symm
    have k := (I.committed hg gov).1
    rw [gtx, gwr] at k
    exact ⟨(k e).1, (k e).2.1⟩
  rw [if_neg k4] at step ⊢
  by_cases k5 : o.do_ = 5
  · rw [if_pos k5]
    exact wDoAbort D hb (by omega) o k5 mo hxi h1 hx
  rw [if_neg k5]
  exact wDoElse D (by omega) o ⟨hd0, k1, k2, k3, k4, k5⟩ mo hxi h1
end
end Go.Proofs.YtknppiebncdjmaaGreat

/- Layer 10: at a script's end: the dependencies have an order. -/
namespace Go.Proofs.YtknppiebncdjmaaGreat
set_option maxRecDepth 100000
set_option maxRecDepth 100000
open Go.RowKit

theorem flat_le {α β : Type} (f : α → List β) (g : α → Nat) : ∀ (l : List α), (∀ x ∈ l, (f x).length ≤ g x) → (l.flatMap f).length ≤ (l.map g).sum
  | [], _ => Nat.le_refl _
  | x :: l, h => by
    rw [List.flatMap_cons, List.length_append, List.map_cons, List.sum_cons]
    have := flat_le f g l fun y hy => h y (List.mem_cons_of_mem _ hy)
    have := h x (List.mem_cons_self ..)
    omega
theorem sum_two {α : Type} (g : α → Nat) : ∀ l : List α, (l.map fun x => 2 * g x).sum = 2 * (l.map g).sum
  | [] => rfl
  | x :: l => by
    have := sum_two g l
    simp only [List.map_cons, List.sum_cons]
    omega
theorem sum_const {α : Type} : ∀ l : List α, (l.map fun _ => 1).sum = l.length
  | [] => rfl
  | x :: l => by
    have := sum_const l
    simp only [List.map_cons, List.sum_cons, List.length_cons]
    omega
theorem deps_len (vs : List Ver10) (rs : List Run10) : (depsP vs rs).length ≤ 2 * (rs.map (·.reads.length)).sum + vs.length := by
  unfold depsP
  rw [List.length_append]
  have h1 := flat_le (depRun vs) (fun p => 2 * p.1.reads.length) rs.zipIdx fun p _ => by
    unfold depRun
    split
    · have h2 := flat_le (depRead vs (p.2 : Int)) (fun _ => 2 * 1) p.1.reads fun x _ => by
        unfold depRead
        split
        · split <;> simp
        · split <;> simp
      rw [sum_two (fun _ => 1), sum_const] at h2
      exact h2
    · exact Nat.zero_le _
  have h3 := flat_le (depVer vs) (fun _ => 1) vs fun v _ => by
    unfold depVer
    split <;> simp
  rw [sum_const] at h3
  rw [sum_two fun p : Run10 × Nat => p.1.reads.length] at h1
  have e : (rs.zipIdx.map fun p : Run10 × Nat => p.1.reads.length) = rs.map (·.reads.length) := by
    have : (rs.zipIdx.map Prod.fst).map (fun r : Run10 => r.reads.length) = rs.map (·.reads.length) := by rw [List.zipIdx_map_fst]
    rw [← this, List.map_map]
    rfl
  rw [e] at h1
  omega
section
variable {R a q d : Nat} {c : Cp10} {rows : List Lk} {X : Pl10} {gs : List Run10} {now : Int} {o : OpX} {mo : Int} {P : Nat → Prop} {wf w0 w : World} {p b : Nat}
theorem next_lt (I : Inv10 c X.S X.vs gs now) {v : Ver10} (hv : v ∈ X.vs) : v.next < (X.vs.length : Int) := by
  obtain ⟨k, hk⟩ := List.mem_iff_getElem?.1 hv
  rcases I.vn k v hk with ⟨e, -⟩ | ⟨m, u, e, -, hm, -⟩
  · omega
  · have := (List.getElem?_eq_some_iff.1 hm).1
    omega
theorem verNext_lt (I : Inv10 c X.S X.vs gs now) {k : Int} (h : k < (X.vs.length : Int)) (h0 : 0 ≤ k) : verNext X.vs k < (X.vs.length : Int) := by
  unfold verNext
  have hk : k.toNat < X.vs.length := by omega
  rw [List.getElem?_eq_getElem hk, Option.elim_some]
  exact next_lt I (List.getElem_mem hk)
theorem DoIs.deps (h : DoIs P wf w0 p b rows c X w) (L : Lp10 R a q d c X gs now) (ha : a ≤ 1048576) (hq : q ≤ 1048576) (hd : d ≤ 1048576) (hR : R ≤ 1048576) :
    Calls Tryz.prog 24 #[.pointer (some ⟨p, 0, none⟩)] w fun e w' => ∃ v, e = .returned v ∧ SO seE w.heap.size w' v (depsP X.vs X.rs).length (cellsF depC (depsP X.vs X.rs)) ∧ Below w.heap.size w w' := by
  obtain ⟨S, vs, rs⟩ := X
  obtain ⟨G, K, V, ms, D, hms⟩ := h
  simp only at hms D
  subst hms
  obtain ⟨I, tw, cnt⟩ := L
  have hv : vs.length ≤ 1048576 * 1048576 := Nat.le_trans cnt.v (Nat.mul_le_mul hd hq)
  have hr : ((ms.map (·.r)).map (·.reads.length)).sum ≤ 1048576 * 1048576 := Nat.le_trans cnt.r (Nat.mul_le_mul hq hR)
  have hn : ms.length ≤ a := by simpa using cnt.n
  refine wDeps D.d.cells.2.2.1 D.d.vers.sb10 D.d.cells.2.2.2.1 D.d.list.sb10 (fun m hm => ⟨(D.d.runs m hm).1.sb10, ?_⟩) (show vs.length ≤ 1599289640354 by omega) (show ms.length ≤ 1048576 by omega) ?_ (fun m hm hc q hq2 => ?_) fun v hv2 => next_lt (X := ⟨S, vs, gs⟩) I hv2
  · obtain ⟨i, hi⟩ := List.mem_iff_getElem?.1 hm
    have := sum_at (rs := ms.map (·.r)) (i := i) (r := m.r) (by rw [List.getElem?_map, hi]; rfl)
    omega
  · have := deps_len vs (ms.map (·.r))
    show (depsP vs (ms.map (·.r))).length ≤ 4000000000000
    omega
  · obtain ⟨i, hi⟩ := List.mem_iff_getElem?.1 hm
    obtain ⟨g, hg, eg⟩ := strip_at tw (i := i) (r := m.r) (by simp only; rw [List.getElem?_map, hi]; rfl)
    have erd : g.reads = m.r.reads := (strip_is eg).2.2.2.1.symm
    have hq3 := I.rd i g hg q (by rw [erd]; exact hq2)
    have h1 : q.2 < (vs.length : Int) := by
      rw [hq3]
      rcases newest_is vs q.1 g.snap with ⟨e, -⟩ | ⟨k, v, e, hk, -⟩
      · simp only; rw [e]; omega
      · simp only; rw [e]; have := (List.getElem?_eq_some_iff.1 hk).1; omega
    exact ⟨h1, fun h0 => verNext_lt (X := ⟨S, vs, gs⟩) I h1 h0⟩
theorem Lp10.goes (L : Lp10 R a q d c X gs now) : ∃ key : Nat → Int, ∀ x ∈ depsP X.vs X.rs, Goes X.rs key x := by
  obtain ⟨key, hk⟩ := L.inv.key
  have e1 : depsP X.vs X.rs = depsP X.vs gs := by rw [← deps_strip X.vs X.rs, ← deps_strip X.vs gs, L.tw]
  have e2 : X.rs.length = gs.length := by have := congrArg List.length L.tw; simpa using this
  refine ⟨key, fun x hx => ?_⟩
  rw [e1] at hx
  obtain ⟨a, b, h1, h2, h3, h4⟩ := hk x hx
  exact ⟨a, b, h1, by omega, by omega, h4⟩
theorem Lp10.ordered (L : Lp10 R a q d c X gs now) (ha : a ≤ 1048576) (hq : q ≤ 1048576) (hd : d ≤ 1048576) (hR : R ≤ 1048576) {w : World} {A : Option Addr} {cc : Nat} (h : SB w A (2 * (depsP X.vs X.rs).length) (cellsF depC (depsP X.vs X.rs))) :
    Calls Tryz.prog 23 #[.int .i64 (X.rs.length : Nat), .slice A (depsP X.vs X.rs).length cc] w fun e w' => e = .returned (.bool true) ∧ Below w.heap.size w w' := by
  obtain ⟨key, hk⟩ := L.goes
  have hv : X.vs.length ≤ 1048576 * 1048576 := Nat.le_trans L.cnt.v (Nat.mul_le_mul hd hq)
  have hr : (X.rs.map (·.reads.length)).sum ≤ 1048576 * 1048576 := Nat.le_trans L.cnt.r (Nat.mul_le_mul hq hR)
  have hl := deps_len X.vs X.rs
  have hO : orderedP X.rs.length (depsP X.vs X.rs) = true := ordered_of (key := key) hk
  have := wOrdered (n := X.rs.length) (c := cc) h (Nat.le_trans L.cnt.n ha) (by omega) fun x hx => by
    obtain ⟨a, b, h1, h2, h3, -⟩ := hk x hx
    exact ⟨a, b, h1, h2, h3⟩
  rw [hO] at this
  exact this
/-- The length of the law's list. -/
theorem DoIs.cells (h : DoIs P wf w0 p b rows c X w) : ∃ A2 c2 A3 c3, w.cell? ⟨p, 0, none⟩ = some (.pointer (some ⟨b, 0, none⟩)) ∧ w.cell? ⟨p, 2, none⟩ = some (.slice A2 X.vs.length c2) ∧ w.cell? ⟨p, 3, none⟩ = some (.slice A3 X.rs.length c3) ∧ w.cell? ⟨p, 4, none⟩ = some (.bool false) := by
  obtain ⟨G, K, V, ms, D, hms⟩ := h
  have e : X.rs.length = ms.length := by rw [← hms, List.length_map]
  rw [e]
  exact ⟨V.va, V.vc, V.la, V.lc, D.d.cells.1, D.d.cells.2.2.1, D.d.cells.2.2.2.1, D.d.cells.2.2.2.2⟩
theorem DoIs.below (h : DoIs P wf w0 p b rows c X w) {w' : World} (g : Below w.heap.size w w') : DoIs P wf w0 p b rows c X w' := by
  obtain ⟨G, K, V, ms, D, hms⟩ := h
  exact ⟨G, K, V, ms, D.bel g, hms⟩
theorem DoIs.bel (h : DoIs P wf w0 p b rows c X w) : Below w0.heap.size w0 w := by
  obtain ⟨G, K, V, ms, D, hms⟩ := h
  exact D.z
/-- At the start. -/
theorem DoIs.new {c : Cp10} {rows : List Lk} {G K : Nat → Prop} {V : WdV} (m : M10 w G K b c (new10 0)) (h : WdAt w0 w (fun k => G k ∨ K k) p b V rows [] [] false) (hg : ∀ k, G k → w0.heap.size ≤ k) (hk : ∀ k, K k → w0.heap.size ≤ k) (z : Below w0.heap.size w0 w) : DoIs (fun _ => False) w w0 p b rows c ⟨new10 0, [], []⟩ w :=
  ⟨G, K, V, [], ⟨m, h.keep (fun _ _ => rfl) fun k hk hg => hg.elim (h.ap k hk) id, fun k h => h.elim (hg k) (hk k), z, Out.refl _ _, fun _ h => h.elim⟩, rfl⟩
theorem Lp10.new {c : Cp10} (hc : 1 ≤ c.reads) (R a q d : Nat) : Lp10 R a q d c ⟨new10 0, [], []⟩ [] 0 :=
  ⟨Inv10.new c hc, rfl, ⟨Nat.zero_le _, Nat.zero_le _, fun _ h => (by cases h), Nat.zero_le _⟩⟩
end
end Go.Proofs.YtknppiebncdjmaaGreat

/- Layer 10: Tracked. -/
namespace Go.Proofs.YtknppiebncdjmaaGreat
set_option maxRecDepth 100000
set_option maxRecDepth 100000
open Go.RowKit Go.Maps Go.ChangeMaps Go.MapKept

theorem row4_set {w : World} {b : Nat} {t : TypeId} {u0 u1 u2 u3 : Value} (h : w.heap[b]? = some (.cells #[u0, u1, u2, u3] t (0, 0))) (x0 x1 x2 x3 : Value) : ((((w.setCell ⟨b, 0, none⟩ x0).setCell ⟨b, 1, none⟩ x1).setCell ⟨b, 2, none⟩ x2).setCell ⟨b, 3, none⟩ x3).heap[b]? = some (.cells #[x0, x1, x2, x3] t (0, 0)) := by
  have h1 := heap_setCell_same w b 0 _ _ x0 h
  have h2 := heap_setCell_same _ b 1 _ _ x1 h1
  have h3 := heap_setCell_same _ b 2 _ _ x2 h2
  have h4 := heap_setCell_same _ b 3 _ _ x3 h3
  rw [h4]
  rfl
section
variable {M : MF} {w : World} {b ab kb fb lm lr rr : Nat} {GR : Nat → Prop} {c : Cp10} {P : Pg}
set_option maxHeartbeats 8000000 in
theorem wxTrack (I : Api9 M) (h : Mem10 M w b ab kb fb lm lr rr GR c P) (hc : PgOk c P) :
    Calls Tryz.prog 27 #[.pointer (some ⟨b, 0, none⟩)] w fun e w' => e = .returned (.agg #[.int .i64 (P.act.length : Nat), .int .i64 (P.kep.length : Nat), .int .i64 (P.L.length : Nat), .int .i64 (P.H.length : Nat)]) ∧ Below w.heap.size w w' := by
  obtain ⟨W, hW⟩ : ∃ W, w.alloc (.cells #[.int .i64 0, .int .i64 0, .int .i64 0, .int .i64 0] 73) = W := ⟨_, rfl⟩
  have hB : Below w.heap.size w W := by rw [← hW]; exact (Below.refl _ _).alloc (Nat.le_refl _) _
  have q0 : W.heap[w.heap.size]? = some (.cells #[.int .i64 0, .int .i64 0, .int .i64 0, .int .i64 0] 73 (0, 0)) := by rw [← hW]; exact heap_alloc_new _ _
  have m1 := h.below I hB
  have CM := Lib.hid (wxMade m1 hc)
  have CL := Lib.hid (fun (w1 : World) (m : Mem10 M w1 b ab kb fb lm lr rr GR c P) => wkLen m.lok)
  have CR := Lib.hid (fun (w1 : World) (m : Mem10 M w1 b ab kb fb lm lr rr GR c P) => I.len m.rds)
  have QA := Lib.hid (fun (w1 : World) (m : Mem10 M w1 b ab kb fb lm lr rr GR c P) => act_len m)
  have QK := Lib.hid (fun (w1 : World) (m : Mem10 M w1 b ab kb fb lm lr rr GR c P) => kep_len m)
  have M1 := Lib.hid m1
  have HB := Lib.hid hB
  obtain ⟨-, -, -, -, -, -, c6, c7, -, c9, c10⟩ := m1.cells
  have z0 : W.cell? ⟨w.heap.size, 0, none⟩ = some (.int .i64 0) := cell_of_row _ _ 0 _ _ _ q0
  have z1 : W.cell? ⟨w.heap.size, 1, none⟩ = some (.int .i64 0) := cell_of_row _ _ 1 _ _ _ q0
  have z2 : W.cell? ⟨w.heap.size, 2, none⟩ = some (.int .i64 0) := cell_of_row _ _ 2 _ _ _ q0
  have z3 : W.cell? ⟨w.heap.size, 3, none⟩ = some (.int .i64 0) := cell_of_row _ _ 3 _ _ _ q0
  have HBL := Lib.hid h.blt.1
  obtain ⟨na, hna⟩ : ∃ n, P.act.length = n := ⟨_, rfl⟩
  obtain ⟨nk, hnk⟩ : ∃ n, P.kep.length = n := ⟨_, rfl⟩
  obtain ⟨nl, hnl⟩ : ∃ n, P.L.length = n := ⟨_, rfl⟩
  obtain ⟨nh, hnh⟩ : ∃ n, P.H.length = n := ⟨_, rfl⟩
  rw [hna] at QA
  rw [hnk] at QK
  rw [hnl] at CR
  rw [hnh] at CL
  rw [hna, hnk, hnl, hnh]
  have M0 := Lib.hid h
  clear h hc m1 hB hna hnk hnl hnh
  go_enter Tryz.func27, Tryz.ntmps27
  go_upto_region 3 with (go_at_call 40; go_loud (refine CM.out.mono ?_; rintro e w1 ⟨rfl, hw⟩; replace hw := hw.symm; subst hw))
  try rw [hW]
  have MD := Lib.hid (M1.out.below I (Below.refl W.heap.size W).drew)
  have qA := QA.out _ MD.out
  have qK := QK.out _ MD.out
  have f0 : ∀ j, W.frozen? ⟨w.heap.size, j, none⟩ = false := fun j => frozen_of_row _ _ _ _ _ q0
  have hS : W.cell? ⟨b, 6, none⟩ = some (.map (some ab)) ∧ W.cell? ⟨b, 7, none⟩ = some (.map (some kb)) ∧ W.cell? ⟨b, 9, none⟩ = some (.pointer (some ⟨lm, 0, none⟩)) ∧ W.cell? ⟨b, 10, none⟩ = some (.pointer (some ⟨rr, 0, none⟩)) ∧ (Builtin.len_ #[86] 3 #[.map (some ab)]).run Tryz.prog W = .ok (.int .i64 (na : Nat)) W ∧ (Builtin.len_ #[87] 3 #[.map (some kb)]).run Tryz.prog W = .ok (.int .i64 (nk : Nat)) W := ⟨c6, c7, c9, c10, QA.out _ M1.out _, QK.out _ M1.out _⟩
  have SB2 := Lib.hid (show ∀ V, Below W.heap.size W V → (V.cell? ⟨b, 6, none⟩ = some (.map (some ab)) ∧ V.cell? ⟨b, 7, none⟩ = some (.map (some kb)) ∧ V.cell? ⟨b, 9, none⟩ = some (.pointer (some ⟨lm, 0, none⟩)) ∧ V.cell? ⟨b, 10, none⟩ = some (.pointer (some ⟨rr, 0, none⟩)) ∧ (Builtin.len_ #[86] 3 #[.map (some ab)]).run Tryz.prog V = .ok (.int .i64 (na : Nat)) V ∧ (Builtin.len_ #[87] 3 #[.map (some kb)]).run Tryz.prog V = .ok (.int .i64 (nk : Nat)) V) ∧ V.heap[w.heap.size]? = some (.cells #[.int .i64 0, .int .i64 0, .int .i64 0, .int .i64 0] 73 (0, 0)) from fun V g => ⟨⟨keep_below c6 g, keep_below c7 g, keep_below c9 g, keep_below c10 g, QA.out _ (M1.out.below I g) _, QK.out _ (M1.out.below I g) _⟩, (g.block _ (Array.getElem?_eq_some_iff.1 q0).1).trans q0⟩)
  have hD := (SB2.out _ (Below.refl W.heap.size W).drew).1
  clear hW q0 f0 hS
  have SE := Lib.hid (show ∀ V, Below W.heap.size W V → ∀ x0 x1 x2 x3 : Value, ((((V.setCell ⟨w.heap.size, 0, none⟩ x0).setCell ⟨w.heap.size, 1, none⟩ x1).setCell ⟨w.heap.size, 2, none⟩ x2).setCell ⟨w.heap.size, 3, none⟩ x3).cell? ⟨b, 6, none⟩ = some (.map (some ab)) ∧ ((((V.setCell ⟨w.heap.size, 0, none⟩ x0).setCell ⟨w.heap.size, 1, none⟩ x1).setCell ⟨w.heap.size, 2, none⟩ x2).setCell ⟨w.heap.size, 3, none⟩ x3).cell? ⟨b, 7, none⟩ = some (.map (some kb)) ∧ ((((V.setCell ⟨w.heap.size, 0, none⟩ x0).setCell ⟨w.heap.size, 1, none⟩ x1).setCell ⟨w.heap.size, 2, none⟩ x2).setCell ⟨w.heap.size, 3, none⟩ x3).cell? ⟨b, 9, none⟩ = some (.pointer (some ⟨lm, 0, none⟩)) ∧ ((((V.setCell ⟨w.heap.size, 0, none⟩ x0).setCell ⟨w.heap.size, 1, none⟩ x1).setCell ⟨w.heap.size, 2, none⟩ x2).setCell ⟨w.heap.size, 3, none⟩ x3).cell? ⟨b, 10, none⟩ = some (.pointer (some ⟨rr, 0, none⟩)) ∧ (Builtin.len_ #[86] 3 #[.map (some ab)]).run Tryz.prog ((((V.setCell ⟨w.heap.size, 0, none⟩ x0).setCell ⟨w.heap.size, 1, none⟩ x1).setCell ⟨w.heap.size, 2, none⟩ x2).setCell ⟨w.heap.size, 3, none⟩ x3) = .ok (.int .i64 (na : Nat)) ((((V.setCell ⟨w.heap.size, 0, none⟩ x0).setCell ⟨w.heap.size, 1, none⟩ x1).setCell ⟨w.heap.size, 2, none⟩ x2).setCell ⟨w.heap.size, 3, none⟩ x3) ∧ (Builtin.len_ #[87] 3 #[.map (some kb)]).run Tryz.prog ((((V.setCell ⟨w.heap.size, 0, none⟩ x0).setCell ⟨w.heap.size, 1, none⟩ x1).setCell ⟨w.heap.size, 2, none⟩ x2).setCell ⟨w.heap.size, 3, none⟩ x3) = .ok (.int .i64 (nk : Nat)) ((((V.setCell ⟨w.heap.size, 0, none⟩ x0).setCell ⟨w.heap.size, 1, none⟩ x1).setCell ⟨w.heap.size, 2, none⟩ x2).setCell ⟨w.heap.size, 3, none⟩ x3) from fun V g x0 x1 x2 x3 => by
    obtain ⟨⟨a1, a2, a3, a4, -, -⟩, -⟩ := SB2.out V g
    have mm := M0.out.below I (show Below w.heap.size w ((((V.setCell ⟨w.heap.size, 0, none⟩ x0).setCell ⟨w.heap.size, 1, none⟩ x1).setCell ⟨w.heap.size, 2, none⟩ x2).setCell ⟨w.heap.size, 3, none⟩ x3) from ((((below_next HB.out g).setCell (by exact Nat.le_refl _) x0).setCell (by exact Nat.le_refl _) x1).setCell (by exact Nat.le_refl _) x2).setCell (by exact Nat.le_refl _) x3)
    have hb : Out (fun k => k = w.heap.size) V ((((V.setCell ⟨w.heap.size, 0, none⟩ x0).setCell ⟨w.heap.size, 1, none⟩ x1).setCell ⟨w.heap.size, 2, none⟩ x2).setCell ⟨w.heap.size, 3, none⟩ x3) := by
      refine Out.setCell (F := fun k => k = w.heap.size) (Out.setCell (F := fun k => k = w.heap.size) (Out.setCell (F := fun k => k = w.heap.size) (Out.setCell (F := fun k => k = w.heap.size) (Out.refl _ V) ?_ _) ?_ _) ?_ _) ?_ _ <;> exact .inl rfl
    have hne : ¬ b = w.heap.size := by have := HBL.out; omega
    exact ⟨hb.cell a1 hne, hb.cell a2 hne, hb.cell a3 hne, hb.cell a4 hne, QA.out _ mm _, QK.out _ mm _⟩)
  go_region_held3 (fun w' => w'.cell? ⟨b, 6, none⟩ = some (.map (some ab)) ∧ w'.cell? ⟨b, 7, none⟩ = some (.map (some kb)) ∧ w'.cell? ⟨b, 9, none⟩ = some (.pointer (some ⟨lm, 0, none⟩)) ∧ w'.cell? ⟨b, 10, none⟩ = some (.pointer (some ⟨rr, 0, none⟩)) ∧ (Builtin.len_ #[86] 3 #[.map (some ab)]).run Tryz.prog w' = .ok (.int .i64 (na : Nat)) w' ∧ (Builtin.len_ #[87] 3 #[.map (some kb)]).run Tryz.prog w' = .ok (.int .i64 (nk : Nat)) w') (first | exact hD | exact S2 | exact SE.out _ BV.out _ _ _ _)
    (first
      | (go_at_call 72; go_loud (refine (CL.out _ MV.out).mono ?_; rintro e w1 ⟨rfl, hw⟩; replace hw := hw.symm; subst hw))
      | (go_at_call 72; go_loud (refine (CL.out _ MD.out).mono ?_; rintro e w1 ⟨rfl, hw⟩; replace hw := hw.symm; subst hw))
      | (go_at_call 71; go_loud (refine (CR.out _ MD.out).mono ?_; rintro e V ⟨rfl, g⟩; have bv : Below W.heap.size W V := (Below.refl W.heap.size W).drew.trans g; have MV := Lib.hid (M1.out.below I bv); have BV := Lib.hid bv; obtain ⟨S2, hz⟩ := SB2.out _ bv; have HZ := Lib.hid hz; have qA := QA.out _ MV.out; have qK := QK.out _ MV.out; have y0 : V.cell? ⟨w.heap.size, 0, none⟩ = some (.int .i64 0) := cell_of_row _ _ 0 _ _ _ hz; have y1 : V.cell? ⟨w.heap.size, 1, none⟩ = some (.int .i64 0) := cell_of_row _ _ 1 _ _ _ hz; have y2 : V.cell? ⟨w.heap.size, 2, none⟩ = some (.int .i64 0) := cell_of_row _ _ 2 _ _ _ hz; have y3 : V.cell? ⟨w.heap.size, 3, none⟩ = some (.int .i64 0) := cell_of_row _ _ 3 _ _ _ hz; have g0 : V.frozen? ⟨w.heap.size, 0, none⟩ = false := frozen_of_row _ _ _ _ _ hz; have g1 : V.frozen? ⟨w.heap.size, 1, none⟩ = false := frozen_of_row _ _ _ _ _ hz; have g2 : V.frozen? ⟨w.heap.size, 2, none⟩ = false := frozen_of_row _ _ _ _ _ hz; have g3 : V.frozen? ⟨w.heap.size, 3, none⟩ = false := frozen_of_row _ _ _ _ _ hz; clear g bv hz)))
  all_goals
    have r4 := row4_set HZ.out (.int .i64 (na : Nat)) (.int .i64 (nk : Nat)) (.int .i64 (nl : Nat)) (.int .i64 (nh : Nat))
    have v0 := cell_of_row _ _ 0 _ _ _ r4
    have v1 := cell_of_row _ _ 1 _ _ _ r4
    have v2 := cell_of_row _ _ 2 _ _ _ r4
    have v3 := cell_of_row _ _ 3 _ _ _ r4
    go_wp2
    refine bodyPost_ret (v := .agg #[.int .i64 (na : Nat), .int .i64 (nk : Nat), .int .i64 (nl : Nat), .int .i64 (nh : Nat)]) (by simp [results, Tryz.results27, go_sem, v0, v1, v2, v3]; first | done | rfl) rfl ⟨rfl, ?_⟩
    have hb := below_next HB.out BV.out
    exact (((hb.setCell (by exact Nat.le_refl _) _).setCell (by exact Nat.le_refl _) _).setCell (by exact Nat.le_refl _) _).setCell (by exact Nat.le_refl _) _
end
end Go.Proofs.YtknppiebncdjmaaGreat

/- Layer 10: the law's begun. -/
namespace Go.Proofs.YtknppiebncdjmaaGreat
set_option maxRecDepth 100000
set_option maxRecDepth 100000
open Go.RowKit Go.Maps Go.ChangeMaps Go.MapKept

theorem w10Track {w : World} {G K : Nat → Prop} {b : Nat} {c : Cp10} {S : St10} (h : M10 w G K b c S) (hb : Bd10 S) :
    Calls Tryz.prog 27 #[.pointer (some ⟨b, 0, none⟩)] w fun e w' => e = .returned (.agg #[.int .i64 (activeP S.list : Nat), .int .i64 ((S.list.length : Int) - activeP S.list), .int .i64 (S.L.length : Nat), .int .i64 (S.H.length : Nat)]) ∧ Below w.heap.size w w' := by
  obtain ⟨ab, kb, fb, lm, lr, rr, GR, P, m, s, hc, rfl, rfl⟩ := h
  refine (wxTrack api9 m (s.pgok hc hb)).mono ?_
  rintro e w' ⟨rfl, g⟩
  exact ⟨by rw [s.actN, s.kepN, s.L, s.H], g⟩
theorem Left10.m {w w' : World} {G K : Nat → Prop} {b : Nat} {c : Cp10} {S' : St10} (h : Left10 w w' G K b c S') {B : Nat} (hB : B ≤ w.heap.size) (hG : ∀ k, G k → B ≤ k) (hK : ∀ k, K k → B ≤ k) : ∃ G' K', M10 w' G' K' b c S' ∧ (∀ k, G' k → B ≤ k) ∧ (∀ k, K' k → B ≤ k) ∧ Below B w w' := by
  obtain ⟨G', K', m, hg, hk, o⟩ := h
  refine ⟨G', K', m, fun k h => (hg k h).elim (hG k) (fun h => by omega), fun k h => (hk k h).elim (hK k) (fun h => by omega), o.below hB fun i hi h => by have := hG i h; omega⟩
def cp2 : Cp10 := ⟨2, 2, 2, 2⟩
def stB1 : St10 := (begin10 cp2 (new10 5)).2
def stB2 : St10 := (write10 cp2 stB1 1 (⟨#[116]⟩, ⟨#[]⟩) 0).2
theorem begB : (begin10 cp2 (new10 5)).1 = (1, 5, 0) := by rfl
theorem wriB : (write10 cp2 stB1 1 (⟨#[116]⟩, ⟨#[]⟩) 0).1 = 0 ∧ stB2.H.length = 1 ∧ stB2.next = 1 ∧ stB2.last = 5 ∧ stB1.next = 1 ∧ stB1.last = 5 := by
  refine ⟨?_, ?_, ?_, ?_, rfl, rfl⟩ <;> rfl
set_option maxHeartbeats 8000000 in
theorem wbegun10 (w : World) : Calls Tryz.prog 13 #[] w fun e w' => e = .returned (.bool true) ∧ Below w.heap.size w w' := by
  have CN := Lib.hid (show Calls Tryz.prog 11 #[.agg #[.int .i64 2, .int .i64 2, .int .i64 2, .int .i64 2], .int .i64 5] w fun e w' => ∃ b G K, e = .returned (.tuple #[.pointer (some ⟨b, 0, none⟩), .int .i64 0]) ∧ M10 w' G K b cp2 (new10 5) ∧ (∀ x, G x → w.heap.size ≤ x) ∧ (∀ x, K x → w.heap.size ≤ x) ∧ Below w.heap.size w w' from w10New w 2 2 2 2 5 ⟨⟨by decide, by decide⟩, ⟨by decide, by decide⟩, ⟨by decide, by decide⟩, by decide, by decide⟩ (by decide))
  have CB := Lib.hid (fun (w1 : World) (G K : Nat → Prop) (b : Nat) (m : M10 w1 G K b cp2 (new10 5)) => show Calls Tryz.prog 15 #[.pointer (some ⟨b, 0, none⟩)] w1 fun e w' => e = .returned (.tuple #[.int .i64 1, .int .i64 5, .int .i64 0]) ∧ Left10 w1 w' G K b cp2 stB1 from by
    have := w10Begin m ⟨by decide, by decide⟩
    rw [begB] at this
    exact this)
  have CW := Lib.hid (fun (w1 : World) (G K : Nat → Prop) (b : Nat) (m : M10 w1 G K b cp2 stB1) => show Calls Tryz.prog 16 #[.pointer (some ⟨b, 0, none⟩), .int .i64 1, .agg #[.string ⟨#[116]⟩, .string ⟨#[]⟩], .int .i64 0] w1 fun e w' => e = .returned (.int .i64 0) ∧ Left10 w1 w' G K b cp2 stB2 from by
    have := w10Write m ⟨by rw [wriB.2.2.2.2.1]; decide, by rw [wriB.2.2.2.2.2]; decide⟩ (tx := 1) (by decide) (l := (⟨#[116]⟩, ⟨#[]⟩)) ⟨by decide, by decide⟩ 0
    rw [wriB.1] at this
    exact this)
  have CT := Lib.hid (fun (w1 : World) (G K : Nat → Prop) (b : Nat) (m : M10 w1 G K b cp2 stB2) => show Calls Tryz.prog 27 #[.pointer (some ⟨b, 0, none⟩)] w1 fun e w' => ∃ a k l, e = .returned (.agg #[.int .i64 a, .int .i64 k, .int .i64 l, .int .i64 1]) ∧ Below w1.heap.size w1 w' from by
    refine (w10Track m ⟨by rw [wriB.2.2.1]; decide, by rw [wriB.2.2.2.1]; decide⟩).mono ?_
    rintro e w' ⟨rfl, g⟩
    exact ⟨_, _, _, by rw [wriB.2.1]; rfl, g⟩)
  have qF : ∀ (W : World) (a k l : Int), (Instr.field 73 (.agg #[.int .i64 a, .int .i64 k, .int .i64 l, .int .i64 1]) 3).run Tryz.prog W = .ok (.int .i64 1) W := fun W a k l => by kernel_rfl
  go_enter Tryz.func13, Tryz.ntmps13
  go_wp2_with (first
    | (go_at_call 11; go_loud (refine CN.out.mono ?_; rintro e w1 ⟨b, G, K, rfl, m1, g1, k1, b1⟩; have M1 := Lib.hid m1; have GK1 := Lib.hid (And.intro g1 k1); have B1 := Lib.hid b1; clear m1 g1 k1 b1))
    | (go_at_call 15; go_loud (refine (CB.out _ _ _ _ M1.out).mono ?_; rintro e w2 ⟨rfl, l2⟩; obtain ⟨G2, K2, m2, g2, k2, b2⟩ := l2.m B1.out.size GK1.out.1 GK1.out.2; have M2 := Lib.hid m2; have GK2 := Lib.hid (And.intro g2 k2); have B2 := Lib.hid (B1.out.trans b2); clear m2 g2 k2 b2 l2))
    | (go_at_call 16; go_loud (refine (CW.out _ _ _ _ M2.out).mono ?_; rintro e w3 ⟨rfl, l3⟩; obtain ⟨G3, K3, m3, g3, k3, b3⟩ := l3.m B2.out.size GK2.out.1 GK2.out.2; have M3 := Lib.hid m3; have B3 := Lib.hid (B2.out.trans b3); clear m3 g3 k3 b3 l3))
    | (go_at_call 27; go_loud (refine (CT.out _ _ _ _ M3.out).mono ?_; rintro e w4 ⟨a4, k4, l4, rfl, b4⟩; have B4 := Lib.hid (below_next B3.out b4); clear b4)))
  go_ret
  exact ⟨rfl, B4.out⟩
end Go.Proofs.YtknppiebncdjmaaGreat
