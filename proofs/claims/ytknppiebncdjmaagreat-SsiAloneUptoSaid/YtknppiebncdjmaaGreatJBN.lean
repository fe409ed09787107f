import Derived.Test.YtknppiebncdjmaaGreatJBM
set_option linter.unusedVariables false
namespace Go.Proofs.YtknppiebncdjmaaGreat
set_option maxRecDepth 100000
open Go.RowKit

section
variable {P : Nat → Prop} {wf w0 w w' : World} {G K : Nat → Prop} {p b : Nat} {V : WdV} {rows : List Lk} {vs : List Ver10} {ms : List RunM} {c : Cp10} {S S' : St10}
set_option maxHeartbeats 16000000 in
theorem wDoScan (h : Do10 P wf w0 w G K p b V rows vs ms c S) (hb : Bd10 S) (hn : ms.length ≤ 1048576) (o : OpX) (ho : o.do_ = 2) (mo : Nat) {i : Nat} {x : RunM} (hi : ms[i]? = some x) (hof : ofW (ms.map (·.r)) o.tx = (i : Int)) (hx : (Lit.int .i64 o.tx).wf = true) (hl1 : o.at_.1.size ≤ 140737488351232) (hl2 : o.at_.2.size ≤ 140737488351232) (hnr : rows.length ≤ 1048576) (hn2 : vs.length ≤ 1599289640354) (hn3 : x.r.writes.length ≤ 1599289640354) (hn4 : x.r.reads.length + rows.length ≤ 3000000000000) :
    Calls Tryz.prog 22 #[.pointer (some ⟨p, 0, none⟩), .agg #[.int .i64 o.do_, .int .i64 o.tx, .string o.at_.1, .string o.at_.2, .string o.to_, .int .i64 o.last], .int .i64 (mo : Int)] w fun e w' => e = .returned (.int .i64 (scan10 c S o.tx o.at_.1 o.at_.2 o.to_).1) ∧ DoEx P wf w0 p b rows c (scan10 c S o.tx o.at_.1 o.at_.2 o.to_).2 vs ((ms.map (·.r)).set i (if (scan10 c S o.tx o.at_.1 o.at_.2 o.to_).1 = 0 then (rows.filter (inS o.at_.1 o.at_.2 o.to_)).foldl (seesP vs) x.r else overR x.r mo)) w' := by
  obtain ⟨do_, tx, ⟨tb, ky⟩, to_, last⟩ := o
  obtain ⟨ra, rc, va, vc, la, lc⟩ := V
  dsimp only at ho hof hx hl1 hl2 ⊢
  subst ho
  obtain ⟨W, hW⟩ : ∃ W, w.alloc (.cells #[.int .i64 2, .int .i64 tx, .string tb, .string ky, .string to_, .int .i64 last] 44) = W := ⟨_, rfl⟩
  have q0 : W.heap[w.heap.size]? = some (.cells #[.int .i64 2, .int .i64 tx, .string tb, .string ky, .string to_, .int .i64 last] 44 (0, 0)) := by rw [← hW]; exact heap_alloc_new _ _
  obtain ⟨hB, o0, o1, o2, o3, o4, -⟩ := op_row ⟨2, tx, (tb, ky), to_, last⟩ W hW
  dsimp only at o0 o1 o2 o3 o4
  have HW := Lib.hid hW
  have hD := h.bel hB
  have CO := Lib.hid (hD.d.of (by omega) tx)
  rw [hof] at CO
  obtain ⟨⟨er, S'⟩, hq⟩ : ∃ q, scan10 c S tx tb ky to_ = q := ⟨_, rfl⟩
  have CA := Lib.hid (fun (W1 : World) (D : Do10 P wf w0 W1 G K p b ⟨ra, rc, va, vc, la, lc⟩ rows vs ms c S) => w10Scan (hi := to_) D.m hb hx hl1 hl2)
  simp only [hq] at CA
  rw [hq]
  dsimp only
  have HOW := Lib.hid (fun hg => Nat.lt_irrefl _ (h.d.lt w.heap.size hg).2 : ¬ w.heap.size ∈ p :: ownersW ⟨ra, rc, va, vc, la, lc⟩ ms)
  have HB0 := Lib.hid (And.intro hn (And.intro hn2 (And.intro hn3 (And.intro hn4 hnr))))
  have HOL := Lib.hid (Array.getElem?_eq_some_iff.1 q0).1
  have HD := Lib.hid hD
  have HI := Lib.hid hi
  have HGW := Lib.hid (fun hg => Nat.lt_irrefl _ (h.mlt w.heap.size hg) : ¬ G w.heap.size)
  have hil := (List.getElem?_eq_some_iff.1 hi).1
  have i1 : (i : Int) < (ms.length : Int) := by omega
  have i1' : (0 : Int) ≤ (i : Int) := by omega
  have i1'' : ¬ (i : Int) < 0 := by omega
  obtain ⟨g, hg, -, -⟩ := hD.d.place hi
  have p3 : ∀ W2, Do10 P wf w0 W2 G K p b ⟨ra, rc, va, vc, la, lc⟩ rows vs ms c S → W2.cell? ⟨p, 3, none⟩ = some (.slice (some ⟨g, 0, none⟩) ms.length lc) := fun W2 D => by rw [← hg]; exact D.d.cells.2.2.2.1
  have P3 := Lib.hid p3
  have HG := Lib.hid hg
  clear h hb hn hW hB hD hof hq hx hi hil p3 hl1 hl2 hn2 hn3 hn4 hnr
  go_enter Tryz.func22, Tryz.ntmps22
  go_upto_region 1 with fail
  rw [HW.out]
  go_upto_region 19 with (go_at_call 26; go_loud (refine CO.out.mono ?_; rintro e w2 ⟨rfl, b2⟩; replace o0 := keep_below o0 b2; replace o1 := keep_below o1 b2; replace o2 := keep_below o2 b2; replace o3 := keep_below o3 b2; replace o4 := keep_below o4 b2; replace q0 := (b2.block _ HOL.out).trans q0; have D2 := Lib.hid (HD.out.bel b2); have q3 := P3.out _ D2.out; have qp := D2.out.d.cells.1; have HOL2 := Lib.hid (Nat.lt_of_lt_of_le HOL.out b2.size); clear b2))
  have S0 : w2.cell? ⟨p, 0, none⟩ = some (.pointer (some ⟨b, 0, none⟩)) ∧ w2.cell? ⟨w.heap.size, 1, none⟩ = some (.int .i64 tx) ∧ w2.cell? ⟨w.heap.size, 2, none⟩ = some (.string tb) ∧ w2.cell? ⟨w.heap.size, 3, none⟩ = some (.string ky) ∧ w2.cell? ⟨w.heap.size, 4, none⟩ = some (.string to_) := ⟨qp, o1, o2, o3, o4⟩
  clear q3
  go_region_held3 (fun w' => w'.cell? ⟨p, 0, none⟩ = some (.pointer (some ⟨b, 0, none⟩)) ∧ w'.cell? ⟨w.heap.size, 1, none⟩ = some (.int .i64 tx) ∧ w'.cell? ⟨w.heap.size, 2, none⟩ = some (.string tb) ∧ w'.cell? ⟨w.heap.size, 3, none⟩ = some (.string ky) ∧ w'.cell? ⟨w.heap.size, 4, none⟩ = some (.string to_))
    (first | exact S0 | exact SA)
    (first | (go_at_call 33; go_loud (refine (CA.out _ (D2.out.bel (Below.refl _ _).drew)).mono ?_; rintro e w3 ⟨rfl, l3⟩; obtain ⟨G3, K3, d3⟩ := (D2.out.bel (Below.refl _ _).drew).call l3; obtain ⟨-, -, -, -, -, out3⟩ := l3; have r0 := out3.cell (p := ⟨w.heap.size, 0, none⟩) o0 HGW.out; have SA : w3.cell? ⟨p, 0, none⟩ = some (.pointer (some ⟨b, 0, none⟩)) ∧ w3.cell? ⟨w.heap.size, 1, none⟩ = some (.int .i64 tx) ∧ w3.cell? ⟨w.heap.size, 2, none⟩ = some (.string tb) ∧ w3.cell? ⟨w.heap.size, 3, none⟩ = some (.string ky) ∧ w3.cell? ⟨w.heap.size, 4, none⟩ = some (.string to_) := ⟨d3.d.cells.1, out3.cell (p := ⟨w.heap.size, 1, none⟩) o1 HGW.out, out3.cell (p := ⟨w.heap.size, 2, none⟩) o2 HGW.out, out3.cell (p := ⟨w.heap.size, 3, none⟩) o3 HGW.out, out3.cell (p := ⟨w.heap.size, 4, none⟩) o4 HGW.out⟩; have q3 := (out3.block _ HOL2.out HGW.out).trans q0;  have D3 := Lib.hid d3; have HS3 := Lib.hid out3.size; clear d3 out3)))
  all_goals
    obtain ⟨-, -, r2, r3, r4⟩ := SA
    clear S0 o0 o1 o2 o3 o4 qp
    obtain ⟨g', hg', hcell, hfro⟩ := D3.out.d.place HI.out
    obtain rfl : g' = g := by have := HG.out; first | (rw [hg'] at this; simpa using this) | (have h9 : la = some ⟨g', 0, none⟩ := hg'; rw [h9] at this; simpa using this)
    have c5 : w3.cell? ⟨g', i * 8 + 5, none⟩ = some (.bool x.r.over) := hcell 5 _ rfl
    have c3 : w3.cell? ⟨g', i * 8 + 3, none⟩ = some (.int .i64 x.r.ended) := hcell 3 _ rfl
    have f5 : w3.frozen? ⟨g', i * 8 + 5, none⟩ = false := hfro _
    have f3 : w3.frozen? ⟨g', i * 8 + 3, none⟩ = false := hfro _
    clear hcell hfro hg'
    by_cases he : er = 0
    · subst he
      clear c5 c3 f5 f3
      have e1 := D3.out.d.cells.2.1
      have HQ3 := Lib.hid q3
      have HSS := Lib.hid (show ms.set i x = ms by obtain ⟨hl, he⟩ := List.getElem?_eq_some_iff.1 HI.out; rw [← he]; exact List.set_getElem_self hl)
      have HIL := Lib.hid (List.getElem?_eq_some_iff.1 HI.out).1
      have HPG := Lib.hid (fun k hp => (D3.out.pg k hp).1)
      clear q3 r0 r2 r3 r4
      go_upto_region 22 with fail
      clear e1
      go_loopw [121] (fun i2 wr => ∃ (j : Nat) (x' : RunM), i2 = .int .i64 (j : Nat) ∧ j ≤ rows.length ∧ x'.r = ((rows.take j).filter (inS tb ky to_)).foldl (seesP vs) x.r ∧ M10 wr G3 K3 b c S' ∧ WdAt w0 wr (fun k => ((G3 k ∨ K3 k) ∨ P k) ∨ k = w.heap.size) p b ⟨ra, rc, va, vc, la, lc⟩ rows vs (ms.set i x') false ∧ Below w0.heap.size w0 wr ∧ Out (fun k => ¬ P k) wf wr ∧ wr.heap[w.heap.size]? = some (.cells #[.int .i64 2, .int .i64 tx, .string tb, .string ky, .string to_, .int .i64 last] 44 (0, 0))) (fun i2 _ => rows.length - (intOf i2).toNat)
      case atStart => exact ⟨0, x, rfl, Nat.zero_le _, by simp, D3.out.m, by rw [HSS.out]; exact D3.out.d.keep (fun _ _ => rfl) fun k hk hg => hg.elim (D3.out.d.ap k hk) (fun e => HOW.out (e ▸ hk)), D3.out.z, D3.out.f, HQ3.out⟩
      case round =>
        rename World => wr
        obtain ⟨j, x', rfl, hj, hxr, hm, hd, hz, hf, hq⟩ := hrel
        by_cases hlt : j < rows.length
        · obtain ⟨l, hl⟩ : ∃ l, rows[j]? = some l := ⟨_, List.getElem?_eq_getElem hlt⟩
          obtain ⟨tb2, ky2⟩ := l
          have htake : (rows.take (j + 1)).filter (inS tb ky to_) = (rows.take j).filter (inS tb ky to_) ++ (if inS tb ky to_ (tb2, ky2) = true then [(tb2, ky2)] else []) := by
            rw [List.take_add_one, hl, Option.toList_some, List.filter_append]
            congr 1
            simp [List.filter_cons]
          have HTK := Lib.hid (fun (hf : inS tb ky to_ (tb2, ky2) = false) => show (rows.take (j + 1)).filter (inS tb ky to_) = (rows.take j).filter (inS tb ky to_) by rw [htake, hf]; simp)
          have HTK1 := Lib.hid (fun (hf : inS tb ky to_ (tb2, ky2) = true) => show (rows.take (j + 1)).filter (inS tb ky to_) = (rows.take j).filter (inS tb ky to_) ++ [(tb2, ky2)] by rw [htake, hf]; simp)
          obtain ⟨gr, orr, hra, hc⟩ := hd.rows_.sb10.el lkC_len (by omega) hl
          dsimp only at hra
          subst hra
          have c0 : wr.cell? ⟨gr, orr + j * 2, none⟩ = some (.string tb2) := hc 0 _ rfl
          have c1 : wr.cell? ⟨gr, orr + j * 2 + 1, none⟩ = some (.string ky2) := hc 1 _ rfl
          obtain ⟨Y, hY⟩ : ∃ Y, wr.alloc (.cells #[.string tb2, .string ky2] 42) = Y := ⟨_, rfl⟩
          have HY := Lib.hid hY
          have gY : Below wr.heap.size wr Y := by rw [← hY]; exact alloc_below10 _ _
          have rY : Y.heap[wr.heap.size]? = some (.cells #[.string tb2, .string ky2] 42 (0, 0)) := by rw [← hY]; exact heap_alloc_new _ _
          have y0 : Y.cell? ⟨wr.heap.size, 0, none⟩ = some (.string tb2) := cell_of_row _ _ 0 _ _ _ rY
          have y1 : Y.cell? ⟨wr.heap.size, 1, none⟩ = some (.string ky2) := cell_of_row _ _ 1 _ _ _ rY
          have qY := (gY.block _ (Array.getElem?_eq_some_iff.1 hq).1).trans hq
          have s2 : Y.cell? ⟨w.heap.size, 2, none⟩ = some (.string tb) := cell_of_row _ _ 2 _ _ _ qY
          have s3 : Y.cell? ⟨w.heap.size, 3, none⟩ = some (.string ky) := cell_of_row _ _ 3 _ _ _ qY
          have s4 : Y.cell? ⟨w.heap.size, 4, none⟩ = some (.string to_) := cell_of_row _ _ 4 _ _ _ qY
          have i2 : (j : Int) < (rows.length : Int) := by omega
          have l2 : (j : Int) ≤ 1048576 := by have := HB0.out.2.2.2.2; omega
          have MY := Lib.hid (hm.below gY)
          have DY := Lib.hid (hd.below gY)
          have ZY := Lib.hid (below_next hz gY)
          have FY := Lib.hid (hf.then (Out.of_below gY _))
          have QY := Lib.hid qY
          have HOY := Lib.hid (Array.getElem?_eq_some_iff.1 qY).1
          have HLT := Lib.hid hlt
          have HXR := Lib.hid hxr
          have hsf := sees_fields vs ((rows.take j).filter (inS tb ky to_)) x.r
          have hsl := sees_len vs ((rows.take j).filter (inS tb ky to_)) x.r
          have hfl : ((rows.take j).filter (inS tb ky to_)).length ≤ rows.length := Nat.le_trans (List.length_filter_le _ _) (by rw [List.length_take]; omega)
          have CS := Lib.hid (wSees DY.out (fun k hk => hk.elim (fun h1 => h1.elim (fun h2 => h2.elim (MY.out.lt.1 k) (MY.out.lt.2 k)) fun h2 => Nat.lt_of_lt_of_le (HPG.out k h2) FY.out.size) (fun e => e ▸ HOY.out)) ZY.out.size (x := x') (List.getElem?_set_self HIL.out) (by rw [List.length_set]; exact HB0.out.1) HB0.out.2.1 (by rw [hxr, hsf.2.2.2.2.2.2.1]; exact HB0.out.2.2.1) (by rw [hxr]; have := HB0.out.2.2.2.1; omega) (tb2, ky2))
          dsimp only at CS
          clear hlt hj hl htake hc gY rY hY hq qY hm hd hz hf hxr hsf hsl hfl
          go_upto_region 24 with fail
          rw [HY.out]
          clear c0 c1
          cases hT : (tb2.toList == tb.toList) <;> cases hlo : klB ky2 ky <;> cases hE : (to_.toList == []) <;> cases h3 : klB ky2 to_
          all_goals
            have HI4 := Lib.hid (show inS tb ky to_ (tb2, ky2) = _ by unfold inS withinB; rw [hT, hlo, hE, h3])
            simp only [Bool.and_true, Bool.and_false, Bool.or_true, Bool.or_false, Bool.not_true, Bool.not_false] at HI4
            have HIN := HI4.out
            unfold klB at hlo h3
            clear HI4
            first
              | (clear HTK1 CS
                 go_wp2
                 go_roundw
                 case rel => exact ⟨j + 1, x', by go_num, HLT.out, by rw [HTK.out HIN]; exact HXR.out, MY.out, DY.out, ZY.out, FY.out, QY.out⟩
                 case measure => have := HLT.out; simp [intOf]; omega)
              | (clear HTK
                 go_wp2_with (go_at_call 67; go_loud (refine CS.out.mono ?_; rintro e w4 ⟨⟨u4, rfl⟩, x4, hx4, d4, out4⟩; have X4 := Lib.hid hx4; have D4 := Lib.hid d4; have O4 := Lib.hid out4; clear d4 out4 hx4))
                 go_roundw
                 case rel => exact ⟨j + 1, x4, by go_num, HLT.out, by rw [HTK1.out HIN, List.foldl_append, ← HXR.out]; exact X4.out, MY.out.stays O4.out fun k hk => ⟨fun hg => DY.out.ap k hk (.inl (.inl (.inl hg))), fun hg => DY.out.ap k hk (.inl (.inl (.inr hg)))⟩, by have := D4.out; rw [List.set_set] at this; exact this, ZY.out.trans (O4.out.below ZY.out.size fun k hk hi => by have := (DY.out.lt k hi).1; omega), FY.out.then (O4.out.mono fun k _ hk hp => DY.out.ap k hk (.inl (.inr hp))), (O4.out.block _ HOY.out fun hk => DY.out.ap _ hk (.inr rfl)).trans QY.out⟩
                 case measure => have := HLT.out; simp [intOf]; omega)
        · obtain rfl : j = rows.length := by omega
          have i2 : ¬ (rows.length : Int) < (rows.length : Int) := by omega
          rw [List.take_length] at hxr
          have s0 : wr.cell? ⟨w.heap.size, 0, none⟩ = some (.int .i64 2) := cell_of_row _ _ 0 _ _ _ hq
          have HXR := Lib.hid hxr
          have HM := Lib.hid hm
          have HDD := Lib.hid hd
          have HZ := Lib.hid hz
          have HF := Lib.hid hf
          clear hj hlt hxr hm hd hz hf hq
          go_wp2
          go_ret
          exact ⟨rfl, G3, K3, _, _, ⟨HM.out, HDD.out.keep (fun _ _ => rfl) fun k hk hg => HDD.out.ap k hk (.inl hg), D3.out.g, HZ.out, HF.out, D3.out.pg⟩, by rw [List.map_set, HXR.out]⟩
    · go_wp2
      go_ret
      exact ⟨rfl, D3.out.over HI.out hg _⟩
end
end Go.Proofs.YtknppiebncdjmaaGreat

namespace Go.Proofs.YtknppiebncdjmaaGreat
set_option maxRecDepth 100000
open Go.RowKit

section
variable {P : Nat → Prop} {wf w0 w w' : World} {G K : Nat → Prop} {p b : Nat} {V : WdV} {rows : List Lk} {vs : List Ver10} {ms : List RunM} {c : Cp10} {S S' : St10}
theorem owners_set {i : Nat} {x x' : RunM} (hi : ms[i]? = some x) (hr : runOwn x' = runOwn x) : ownersW V (ms.set i x') = ownersW V ms := by
  obtain ⟨a, b, e1, -, e2⟩ := flat_set_own (x' := x') hi
  unfold ownersW
  rw [e2, e1]
  simp only [List.flatMap_append, List.flatMap_cons, List.flatMap_nil, List.append_nil, hr]
set_option maxHeartbeats 16000000 in
theorem wDoCommit (h : Do10 P wf w0 w G K p b V rows vs ms c S) (hb : Bd10 S) (hn : ms.length ≤ 1048576) (o : OpX) (ho : o.do_ = 4) (mo : Nat) {i : Nat} {x : RunM} (hi : ms[i]? = some x) (hof : ofW (ms.map (·.r)) o.tx = (i : Int)) (hx : (Lit.int .i64 o.tx).wf = true) (hn2 : vs.length + x.r.writes.length ≤ 1500000000000) (hS0 : 0 ≤ S.last)
    (hs : (commit10 c S o.tx).1.2 = 0 → (commit10 c S o.tx).1.1 = (if x.r.writes = [] then S.last else S.last + 1) ∧ (commit10 c S o.tx).2.last = (commit10 c S o.tx).1.1) (hb' : Bd10 (commit10 c S o.tx).2) :
    Calls Tryz.prog 22 #[.pointer (some ⟨p, 0, none⟩), .agg #[.int .i64 o.do_, .int .i64 o.tx, .string o.at_.1, .string o.at_.2, .string o.to_, .int .i64 o.last], .int .i64 (mo : Int)] w fun e w' => e = .returned (.int .i64 (commit10 c S o.tx).1.2) ∧ DoEx P wf w0 p b rows c (commit10 c S o.tx).2 (if (commit10 c S o.tx).1.2 = 0 then layP vs (commit10 c S o.tx).1.1 i x.r.writes else vs) ((ms.map (·.r)).set i (if (commit10 c S o.tx).1.2 = 0 then overR { x.r with com := true } mo else overR x.r mo)) w' := by
  obtain ⟨do_, tx, ⟨tb, ky⟩, to_, last⟩ := o
  dsimp only at ho hof hx hs hb' ⊢
  subst ho
  obtain ⟨W, hW⟩ : ∃ W, w.alloc (.cells #[.int .i64 4, .int .i64 tx, .string tb, .string ky, .string to_, .int .i64 last] 44) = W := ⟨_, rfl⟩
  obtain ⟨hB, o0, o1, -⟩ := op_row ⟨4, tx, (tb, ky), to_, last⟩ W hW
  dsimp only at o0 o1
  have HW := Lib.hid hW
  have hD := h.bel hB
  have CO := Lib.hid (hD.d.of (by omega) tx)
  rw [hof] at CO
  obtain ⟨⟨⟨num, er⟩, S'⟩, hq⟩ : ∃ q, commit10 c S tx = q := ⟨_, rfl⟩
  have CA := Lib.hid (fun (W1 : World) (D : Do10 P wf w0 W1 G K p b V rows vs ms c S) => w10Commit D.m hb hx)
  simp only [hq] at CA
  rw [hq] at hs hb' ⊢
  dsimp only at hs hb' ⊢
  have CN := Lib.hid (fun (W1 : World) (D : Do10 P wf w0 W1 G K p b V rows vs ms c S) => w10Now D.m hb)
  have CN2 := Lib.hid (fun (W1 : World) (G1 K1 : Nat → Prop) (D : Do10 P wf w0 W1 G1 K1 p b V rows vs ms c S') => w10Now D.m hb')
  have CC := Lib.hid (fun (W1 : World) (G1 K1 : Nat → Prop) (D : Do10 P wf w0 W1 G1 K1 p b V rows vs ms c S') => wCommit10 D.d D.glt D.z.size hi hn hn2 num)
  have hwrap : IntKind.i64.wrap (S.last + 1) = S.last + 1 := by have := hb.l; rw [IntKind.wrap_i64]; omega
  have HOW := Lib.hid (fun hg => Nat.lt_irrefl _ (h.d.lt w.heap.size hg).2 : ¬ w.heap.size ∈ p :: ownersW V ms)
  have HOS := Lib.hid (owners_set (V := V) (x' := { x with r := { x.r with com := true } }) hi rfl)
  have HI5 := Lib.hid (List.getElem?_set_self (List.getElem?_eq_some_iff.1 hi).1 : (ms.set i { x with r := { x.r with com := true } })[i]? = some { x with r := { x.r with com := true } })
  have HD := Lib.hid hD
  have HI := Lib.hid hi
  have HGW := Lib.hid (fun hg => Nat.lt_irrefl _ (h.mlt w.heap.size hg) : ¬ G w.heap.size)
  have hil := (List.getElem?_eq_some_iff.1 hi).1
  have i1 : (i : Int) < (ms.length : Int) := by omega
  have i1' : (0 : Int) ≤ (i : Int) := by omega
  have i1'' : ¬ (i : Int) < 0 := by omega
  obtain ⟨g, hg, -, -⟩ := hD.d.place hi
  have p3 : ∀ W2, Do10 P wf w0 W2 G K p b V rows vs ms c S → W2.cell? ⟨p, 3, none⟩ = some (.slice (some ⟨g, 0, none⟩) ms.length V.lc) := fun W2 D => by rw [← hg]; exact D.d.cells.2.2.2.1
  have P3 := Lib.hid p3
  have HG := Lib.hid hg
  clear h hb hn hW hB hD hof hq hx hi hil hg p3 hn2 hS0 hb'
  go_enter Tryz.func22, Tryz.ntmps22
  go_upto_region 1 with fail
  rw [HW.out]
  go_upto_region 37 with (first | (go_at_call 34; go_loud (refine (CN.out _ D2.out).mono ?_; rintro e w9 ⟨rfl, hw⟩; replace hw := hw.symm; subst hw)) | (go_at_call 26; go_loud (refine CO.out.mono ?_; rintro e w2 ⟨rfl, b2⟩; replace o0 := keep_below o0 b2; replace o1 := keep_below o1 b2; have D2 := Lib.hid (HD.out.bel b2); have q3 := P3.out _ D2.out; have q0 := D2.out.d.cells.1; clear b2)))
  have S0 : w2.cell? ⟨p, 0, none⟩ = some (.pointer (some ⟨b, 0, none⟩)) ∧ w2.cell? ⟨w.heap.size, 1, none⟩ = some (.int .i64 tx) := ⟨q0, o1⟩
  clear q3
  go_region_held3 (fun w' => w'.cell? ⟨p, 0, none⟩ = some (.pointer (some ⟨b, 0, none⟩)) ∧ w'.cell? ⟨w.heap.size, 1, none⟩ = some (.int .i64 tx))
    (first | exact S0 | exact SA)
    (first | (go_at_call 32; go_loud (refine (CA.out _ (D2.out.bel (Below.refl _ _).drew)).mono ?_; rintro e w3 ⟨rfl, l3⟩; obtain ⟨G3, K3, d3⟩ := (D2.out.bel (Below.refl _ _).drew).call l3; obtain ⟨-, -, -, -, -, out3⟩ := l3; have r0 := out3.cell (p := ⟨w.heap.size, 0, none⟩) o0 HGW.out; have SA : w3.cell? ⟨p, 0, none⟩ = some (.pointer (some ⟨b, 0, none⟩)) ∧ w3.cell? ⟨w.heap.size, 1, none⟩ = some (.int .i64 tx) := ⟨d3.d.cells.1, out3.cell (p := ⟨w.heap.size, 1, none⟩) o1 HGW.out⟩; have D3 := Lib.hid d3; clear d3 out3)))
  all_goals
    clear S0 o0 o1 q0
    obtain ⟨g', hg', hcell, hfro⟩ := D3.out.d.place HI.out
    obtain rfl : g' = g := by have := HG.out; rw [hg'] at this; simpa using this
    have c5 : w3.cell? ⟨g', i * 8 + 5, none⟩ = some (.bool x.r.over) := hcell 5 _ rfl
    have c3 : w3.cell? ⟨g', i * 8 + 3, none⟩ = some (.int .i64 x.r.ended) := hcell 3 _ rfl
    have f5 : w3.frozen? ⟨g', i * 8 + 5, none⟩ = false := hfro _
    have f3 : w3.frozen? ⟨g', i * 8 + 3, none⟩ = false := hfro _
    have c7 : w3.cell? ⟨g', i * 8 + 7, none⟩ = some (.slice x.wa x.r.writes.length x.wc) := hcell 7 _ rfl
    clear hcell hfro SA hg'
    by_cases he : er = 0
    · subst he
      obtain ⟨hs1, hs2⟩ := hs rfl
      clear hs c5 c3 f5 f3
      have n0 := D3.out.d.cells.1
      have n4 := D3.out.d.cells.2.2.2.2
      have nf : w3.frozen? ⟨p, 4, none⟩ = false := frozen_of_row _ _ _ _ _ D3.out.d.blk
      have DB := Lib.hid (D3.out.own (Out.setCell (F := fun k => k ∈ p :: ownersW V ms) (p := ⟨p, 4, none⟩) (Out.refl _ _) (.inl (List.mem_cons_self ..)) _) (D3.out.d.setBad false))
      have rB : (w3.setCell ⟨p, 4, none⟩ (.bool false)).cell? ⟨w.heap.size, 0, none⟩ = some (.int .i64 4) := (Out.setCell (F := fun k => k ∈ p :: ownersW V ms) (p := ⟨p, 4, none⟩) (Out.refl _ w3) (.inl (List.mem_cons_self ..)) _).cell r0 HOW.out
      rcases (show x.r.writes = [] ∨ ∃ l0 ls0, x.r.writes = l0 :: ls0 by cases x.r.writes <;> simp) with hwr | ⟨l0, ls0, hwr⟩
      · rw [if_pos hwr] at hs1
        subst hs1
        rw [hwr, List.length_nil] at c7
        clear hwr
        go_upto_region 47 with (first
          | (go_at_call 34; go_loud (refine (CN2.out _ _ _ D3.out).mono ?_; rintro e w9 ⟨rfl, hw⟩; replace hw := hw.symm; subst hw))
          | (go_at_call 69; go_loud (refine (CC.out _ _ _ DB.out).mono ?_; rintro e w5 ⟨rfl, va5, vc5, d5, -, out5⟩; rw [HOS.out] at out5; have D5 := Lib.hid (DB.out.own out5 d5); have t0 := out5.cell (p := ⟨w.heap.size, 0, none⟩) rB HOW.out; clear d5 out5)))
        obtain ⟨g5, hg5, hcell5, hfro5⟩ := D5.out.d.place HI5.out
        obtain rfl : g5 = g' := by have := HG.out; have h5 : V.la = some ⟨g5, 0, none⟩ := hg5; rw [h5] at this; simpa using this
        have e5 : w5.cell? ⟨g5, i * 8 + 5, none⟩ = some (.bool x.r.over) := hcell5 5 _ rfl
        have e3 : w5.cell? ⟨g5, i * 8 + 3, none⟩ = some (.int .i64 x.r.ended) := hcell5 3 _ rfl
        have k5 : w5.frozen? ⟨g5, i * 8 + 5, none⟩ = false := hfro5 _
        have k3 : w5.frozen? ⟨g5, i * 8 + 3, none⟩ = false := hfro5 _
        clear hcell5 hfro5 hg5 r0 rB n0 n4 nf c7
        go_wp2
        go_ret
        exact ⟨rfl, by have := D5.out.over HI5.out HG.out (mo : Int); rw [List.map_set, List.set_set] at this; exact this⟩
      · rw [if_neg (by rw [hwr]; simp)] at hs1
        subst hs1
        obtain ⟨nw, hnw⟩ : ∃ nw : Nat, x.r.writes.length = nw := ⟨_, rfl⟩
        have hpos : (0 : Int) < (nw : Int) := by rw [← hnw, hwr, List.length_cons]; omega
        rw [hnw] at c7
        clear hnw
        clear hwr
        go_upto_region 47 with (first
          | (go_at_call 34; go_loud (refine (CN2.out _ _ _ D3.out).mono ?_; rintro e w9 ⟨rfl, hw⟩; replace hw := hw.symm; subst hw))
          | (go_at_call 69; go_loud (refine (CC.out _ _ _ DB.out).mono ?_; rintro e w5 ⟨rfl, va5, vc5, d5, -, out5⟩; rw [HOS.out] at out5; have D5 := Lib.hid (DB.out.own out5 d5); have t0 := out5.cell (p := ⟨w.heap.size, 0, none⟩) rB HOW.out; clear d5 out5)))
        obtain ⟨g5, hg5, hcell5, hfro5⟩ := D5.out.d.place HI5.out
        obtain rfl : g5 = g' := by have := HG.out; have h5 : V.la = some ⟨g5, 0, none⟩ := hg5; rw [h5] at this; simpa using this
        have e5 : w5.cell? ⟨g5, i * 8 + 5, none⟩ = some (.bool x.r.over) := hcell5 5 _ rfl
        have e3 : w5.cell? ⟨g5, i * 8 + 3, none⟩ = some (.int .i64 x.r.ended) := hcell5 3 _ rfl
        have k5 : w5.frozen? ⟨g5, i * 8 + 5, none⟩ = false := hfro5 _
        have k3 : w5.frozen? ⟨g5, i * 8 + 3, none⟩ = false := hfro5 _
        clear hcell5 hfro5 hg5 r0 rB n0 n4 nf c7
        go_wp2
        go_ret
        exact ⟨rfl, by have := D5.out.over HI5.out HG.out (mo : Int); rw [List.map_set, List.set_set] at this; exact this⟩
    · clear hs
      go_wp2
      go_ret
      exact ⟨rfl, D3.out.over HI.out HG.out _⟩
end
end Go.Proofs.YtknppiebncdjmaaGreat

namespace Go.Proofs.YtknppiebncdjmaaGreat
set_option maxRecDepth 100000
open Go.RowKit

section
variable {P : Nat → Prop} {wf w0 w w' : World} {G K : Nat → Prop} {p b : Nat} {V : WdV} {rows : List Lk} {vs : List Ver10} {ms : List RunM} {c : Cp10} {S S' : St10}
set_option maxHeartbeats 16000000 in
theorem wDoElse (h : Do10 P wf w0 w G K p b V rows vs ms c S) (hn : ms.length ≤ 1048576) (o : OpX) (ho : o.do_ ≠ 0 ∧ o.do_ ≠ 1 ∧ o.do_ ≠ 2 ∧ o.do_ ≠ 3 ∧ o.do_ ≠ 4 ∧ o.do_ ≠ 5) (mo : Nat) {i : Nat} {x : RunM} (hi : ms[i]? = some x) (hno : ofW (ms.map (·.r)) o.tx = (i : Int)) :
    Calls Tryz.prog 22 #[.pointer (some ⟨p, 0, none⟩), .agg #[.int .i64 o.do_, .int .i64 o.tx, .string o.at_.1, .string o.at_.2, .string o.to_, .int .i64 o.last], .int .i64 (mo : Int)] w fun e w' => e = .returned (.int .i64 0) ∧ DoEx P wf w0 p b rows c S vs (ms.map (·.r)) w' := by
  obtain ⟨do_, tx, ⟨tb, ky⟩, to_, last⟩ := o
  dsimp only at ho hno ⊢
  obtain ⟨W, hW⟩ : ∃ W, w.alloc (.cells #[.int .i64 do_, .int .i64 tx, .string tb, .string ky, .string to_, .int .i64 last] 44) = W := ⟨_, rfl⟩
  obtain ⟨hB, o0, o1, -⟩ := op_row ⟨do_, tx, (tb, ky), to_, last⟩ W hW
  dsimp only at o0 o1
  have HW := Lib.hid hW
  have hD := h.bel hB
  have CO := Lib.hid (hD.d.of (by omega) tx)
  rw [hno] at CO
  obtain ⟨h0, h1, h2, h3, h4, h5⟩ := ho
  obtain ⟨g, hg, -, -⟩ := hD.d.place hi
  have hil := (List.getElem?_eq_some_iff.1 hi).1
  have i1 : (i : Int) < (ms.length : Int) := by omega
  have i1' : (0 : Int) ≤ (i : Int) := by omega
  have i1'' : ¬ (i : Int) < 0 := by omega
  have P3 := Lib.hid (fun W2 (D : Do10 P wf w0 W2 G K p b V rows vs ms c S) => (show W2.cell? ⟨p, 3, none⟩ = some (.slice (some ⟨g, 0, none⟩) ms.length V.lc) by rw [← hg]; exact D.d.cells.2.2.2.1))
  have HD := Lib.hid hD
  clear h hn hW hB hD hno hi hg hil
  go_enter Tryz.func22, Tryz.ntmps22
  go_upto_region 1 with fail
  rw [HW.out]
  go_wp2_with (go_at_call 26; go_loud (refine CO.out.mono ?_; rintro e w2 ⟨rfl, b2⟩; replace o0 := keep_below o0 b2; have D2 := Lib.hid (HD.out.bel b2); have q3 := P3.out _ D2.out; clear b2))
  go_ret
  exact ⟨rfl, G, K, V, ms, D2.out, rfl⟩
end
end Go.Proofs.YtknppiebncdjmaaGreat

namespace Go.Proofs.YtknppiebncdjmaaGreat
set_option maxRecDepth 100000
open Go.RowKit

theorem wf_ofX {x : Int} (h : -9223372036854775808 ≤ x ∧ x ≤ 9223372036854775807) : (Lit.int .i64 x).wf = true := by
  simpa [Lit.wf, IntKind.min, IntKind.max, IntKind.bits, IntKind.signed] using h
def DoIs (P : Nat → Prop) (wf w0 : World) (p b : Nat) (rows : List Lk) (c : Cp10) (X : Pl10) (w : World) : Prop := DoEx P wf w0 p b rows c X.S X.vs X.rs w
structure Lp10 (R a q d : Nat) (c : Cp10) (X : Pl10) (gs : List Run10) (now : Int) : Prop where
  inv : Inv10 c X.S X.vs gs now
  tw : X.rs.map strip = gs.map strip
  cnt : Cnt10 R a q d X
section
variable {R a q d : Nat} {c : Cp10} {rows : List Lk} {X : Pl10} {gs : List Run10} {now : Int} {o : OpX} {mo : Int}
theorem Lp10.step (L : Lp10 R a q d c X gs now) (h0 : 0 ≤ now) (hn : now ≤ 4611686018427387904) {a' q' d' : Nat} (hc : Cnt10 R a' q' d' (doP c rows X o mo).2) : Lp10 R a' q' d' c (doP c rows X o mo).2 (doP c rows ⟨X.S, X.vs, gs⟩ o now).2.rs (now + 1) := by
  have hs : X.strip = (⟨X.S, X.vs, gs⟩ : Pl10).strip := by unfold Pl10.strip; rw [L.tw]
  have ht := (doP_twin (c := c) (rows := rows) (o := o) hs mo now).2
  have I := Inv10.do (X := ⟨X.S, X.vs, gs⟩) (rows := rows) (o := o) L.inv h0 hn
  unfold Pl10.strip at ht
  simp only [Pl10.mk.injEq] at ht
  obtain ⟨e1, e2, e3⟩ := ht
  rw [← e1, ← e2] at I
  exact ⟨I, e3, hc⟩
theorem Lp10.own (L : Lp10 R a q d c X X.rs now) (h0 : 0 ≤ now) (hn : now ≤ 4611686018427387904) (hR : 1 ≤ R) (hrow : rows.length ≤ R) : Lp10 R (a + 1) (q + 1) (d + 1) c (doP c rows X o now).2 (doP c rows X o now).2.rs (now + 1) :=
  L.step h0 hn (L.cnt.all hR hrow)
theorem Inv10.bd (h : Inv10 c X.S X.vs gs now) (hl : gs.length ≤ 999999999999999999) (hn : now ≤ 1000000000000000000) : Bd10 X.S := ⟨by have := h.nx; omega, by have := h.lc; omega⟩
theorem strip_at {rs gs : List Run10} (h : rs.map strip = gs.map strip) {i : Nat} {r : Run10} (hi : rs[i]? = some r) : ∃ g, gs[i]? = some g ∧ strip r = strip g := by
  have h1 := congrArg (fun l => l[i]?) h
  simp only [List.getElem?_map, hi, Option.map_some] at h1
  cases hg : gs[i]? with
  | none => rw [hg] at h1; simp at h1
  | some g => rw [hg] at h1; exact ⟨g, rfl, by simpa using h1⟩
theorem wDo {P : Nat → Prop} {wf w0 w : World} {p b : Nat} (h : DoIs P wf w0 p b rows c X w) (L : Lp10 R a q d c X gs now) (h0 : 0 ≤ now) (hn : now ≤ 1000000000000000) (ha : a ≤ 1048576) (hq : q ≤ 1048576) (hd : d ≤ 1048576) (hR : R ≤ 1048576) (hrow : rows.length ≤ R) (o : OpX) (ho : OpXIs o) (mo : Nat) :
    Calls Tryz.prog 22 #[.pointer (some ⟨p, 0, none⟩), .agg #[.int .i64 o.do_, .int .i64 o.tx, .string o.at_.1, .string o.at_.2, .string o.to_, .int .i64 o.last], .int .i64 (mo : Int)] w fun e w' => e = .returned (.int .i64 (doP c rows X o mo).1) ∧ DoIs P wf w0 p b rows c (doP c rows X o mo).2 w' := by
  obtain ⟨S, vs, rs⟩ := X
  obtain ⟨G, K, V, ms, D, hms⟩ := h
  simp only at hms D
  subst hms
  obtain ⟨I, tw, cnt⟩ := L
  simp only at I tw
  have hlen : gs.length = ms.length := by
    have := congrArg List.length tw
    simpa using this.symm
  have c1 : ms.length ≤ a := by simpa using cnt.n
  have hb : Bd10 S := Inv10.bd (X := ⟨S, vs, gs⟩) I (by omega) (by omega)
  have hv : vs.length ≤ 1048576 * 1048576 := Nat.le_trans cnt.v (Nat.mul_le_mul hd hq)
  have hr : ((ms.map (·.r)).map (·.reads.length)).sum ≤ 1048576 * 1048576 := Nat.le_trans cnt.r (Nat.mul_le_mul hq hR)
  have hx := wf_ofX ho.rt
  have hs : (⟨S, vs, ms.map (·.r)⟩ : Pl10).strip = (⟨S, vs, gs⟩ : Pl10).strip := by unfold Pl10.strip; rw [tw]
  have step : Bd10 (doP c rows ⟨S, vs, ms.map (·.r)⟩ o mo).2.S := by
    have ht := (doP_twin (c := c) (rows := rows) (o := o) hs mo now).2
    have I' := Inv10.do (X := ⟨S, vs, gs⟩) (rows := rows) (o := o) I h0 (by omega)
    unfold Pl10.strip at ht
    simp only [Pl10.mk.injEq] at ht
    obtain ⟨e1, -, e3⟩ := ht
    rw [e1]
    refine I'.bd ?_ (by omega)
    have hl2 := congrArg List.length e3
    simp only [List.length_map] at hl2
    rw [← hl2]
    by_cases hd0 : o.do_ = 0
    · have := (cnt.begin (c := c) (rows := rows) (mo := mo) hd0).n; omega
    · unfold doP
      rw [if_neg hd0]
      split
      · simp; omega
      · split
        · simp; omega
        · unfold doR
          split
          · simp; omega
          split
          · simp; omega
          split
          · simp; omega
          split
          · simp; omega
          split
          · simp; omega
          · simp; omega
  by_cases hd0 : o.do_ = 0
  · unfold doP at step ⊢
    rw [if_pos hd0] at step ⊢
    simp only at step ⊢
    exact wDoBegin D hb (by omega) o hd0 mo (fun e => by
      obtain ⟨k1, -⟩ := I.began h0
      obtain ⟨k1, k2, -⟩ := k1 e
      rw [k1, k2]) step
  rcases ofW_is (ms.map (·.r)) o.tx with ⟨h1, -⟩ | ⟨i, r, h1, hi, htx, hov⟩
  · rw [doP_none hd0 h1]
    exact wDoNone D (by omega) o hd0 mo h1
  obtain ⟨x, hxi, rfl⟩ : ∃ x, ms[i]? = some x ∧ x.r = r := by
    rw [List.getElem?_map] at hi
    cases hm : ms[i]? with
    | none => rw [hm] at hi; cases hi
    | some x => rw [hm] at hi; exact ⟨x, rfl, by simpa using hi⟩
  have hrd := sum_at hi
  have hwr := cnt.w x.r (List.mem_of_getElem? hi)
  rw [doP_some hd0 h1 hi] at step ⊢
  unfold doR at step ⊢
  by_cases k1 : o.do_ = 1
  · rw [if_pos k1]
    exact wDoRead D hb (by omega) o k1 mo hxi h1 hx ⟨ho.tb, ho.ky⟩ (by omega) (by omega) (by omega)
  rw [if_neg k1] at step ⊢
  by_cases k2 : o.do_ = 2
  · rw [if_pos k2]
    exact wDoScan D hb (by omega) o k2 mo hxi h1 hx ho.tb ho.ky (by omega) (by omega) (by omega) (by omega)
  rw [if_neg k2] at step ⊢
  by_cases k3 : o.do_ = 3
  · rw [if_pos k3]
    exact wDoWrite D hb (by omega) o k3 mo hxi h1 hx ⟨ho.tb, ho.ky⟩ (by omega) (by omega) (by omega)
  rw [if_neg k3] at step ⊢
  by_cases k4 : o.do_ = 4
  · rw [if_pos k4] at step ⊢
    refine wDoCommit D hb (by omega) o k4 mo hxi h1 hx (by omega) I.lc.1 (fun e => ?_) step
    obtain ⟨g, hg, eg⟩ := strip_at tw hi
    have gov : g.over = false := by rw [← hov]; exact (strip_is eg).2.1.symm
    have gtx : g.tx = o.tx := by rw [← htx]; exact (strip_is eg).1.symm
    have gwr : g.writes = x.r.writes := (strip_is eg).2.2.2.2.symm
    have k := (I.committed hg gov).1
    rw [gtx, gwr] at k
    exact ⟨(k e).1, (k e).2.1⟩
  rw [if_neg k4] at step ⊢
  by_cases k5 : o.do_ = 5
  · rw [if_pos k5]
    exact wDoAbort D hb (by omega) o k5 mo hxi h1 hx
  rw [if_neg k5]
  exact wDoElse D (by omega) o ⟨hd0, k1, k2, k3, k4, k5⟩ mo hxi h1
end
end Go.Proofs.YtknppiebncdjmaaGreat

namespace Go.Proofs.YtknppiebncdjmaaGreat
set_option maxRecDepth 100000
open Go.RowKit

theorem flat_le {α β : Type} (f : α → List β) (g : α → Nat) : ∀ (l : List α), (∀ x ∈ l, (f x).length ≤ g x) → (l.flatMap f).length ≤ (l.map g).sum
  | [], _ => Nat.le_refl _
  | x :: l, h => by
    rw [List.flatMap_cons, List.length_append, List.map_cons, List.sum_cons]
    have := flat_le f g l fun y hy => h y (List.mem_cons_of_mem _ hy)
    have := h x (List.mem_cons_self ..)
    omega
theorem sum_two {α : Type} (g : α → Nat) : ∀ l : List α, (l.map fun x => 2 * g x).sum = 2 * (l.map g).sum
  | [] => rfl
  | x :: l => by
    have := sum_two g l
    simp only [List.map_cons, List.sum_cons]
    omega
theorem sum_const {α : Type} : ∀ l : List α, (l.map fun _ => 1).sum = l.length
  | [] => rfl
  | x :: l => by
    have := sum_const l
    simp only [List.map_cons, List.sum_cons, List.length_cons]
    omega
theorem deps_len (vs : List Ver10) (rs : List Run10) : (depsP vs rs).length ≤ 2 * (rs.map (·.reads.length)).sum + vs.length := by
  unfold depsP
  rw [List.length_append]
  have h1 := flat_le (depRun vs) (fun p => 2 * p.1.reads.length) rs.zipIdx fun p _ => by
    unfold depRun
    split
    · have h2 := flat_le (depRead vs (p.2 : Int)) (fun _ => 2 * 1) p.1.reads fun x _ => by
        unfold depRead
        split
        · split <;> simp
        · split <;> simp
      rw [sum_two (fun _ => 1), sum_const] at h2
      exact h2
    · exact Nat.zero_le _
  have h3 := flat_le (depVer vs) (fun _ => 1) vs fun v _ => by
    unfold depVer
    split <;> simp
  rw [sum_const] at h3
  rw [sum_two fun p : Run10 × Nat => p.1.reads.length] at h1
  have e : (rs.zipIdx.map fun p : Run10 × Nat => p.1.reads.length) = rs.map (·.reads.length) := by
    have : (rs.zipIdx.map Prod.fst).map (fun r : Run10 => r.reads.length) = rs.map (·.reads.length) := by rw [List.zipIdx_map_fst]
    rw [← this, List.map_map]
    rfl
  rw [e] at h1
  omega
section
variable {R a q d : Nat} {c : Cp10} {rows : List Lk} {X : Pl10} {gs : List Run10} {now : Int} {o : OpX} {mo : Int} {P : Nat → Prop} {wf w0 w : World} {p b : Nat}
theorem next_lt (I : Inv10 c X.S X.vs gs now) {v : Ver10} (hv : v ∈ X.vs) : v.next < (X.vs.length : Int) := by
  obtain ⟨k, hk⟩ := List.mem_iff_getElem?.1 hv
  rcases I.vn k v hk with ⟨e, -⟩ | ⟨m, u, e, -, hm, -⟩
  · omega
  · have := (List.getElem?_eq_some_iff.1 hm).1
    omega
theorem verNext_lt (I : Inv10 c X.S X.vs gs now) {k : Int} (h : k < (X.vs.length : Int)) (h0 : 0 ≤ k) : verNext X.vs k < (X.vs.length : Int) := by
  unfold verNext
  have hk : k.toNat < X.vs.length := by omega
  rw [List.getElem?_eq_getElem hk, Option.elim_some]
  exact next_lt I (List.getElem_mem hk)
theorem DoIs.deps (h : DoIs P wf w0 p b rows c X w) (L : Lp10 R a q d c X gs now) (ha : a ≤ 1048576) (hq : q ≤ 1048576) (hd : d ≤ 1048576) (hR : R ≤ 1048576) :
    Calls Tryz.prog 24 #[.pointer (some ⟨p, 0, none⟩)] w fun e w' => ∃ v, e = .returned v ∧ SO seE w.heap.size w' v (depsP X.vs X.rs).length (cellsF depC (depsP X.vs X.rs)) ∧ Below w.heap.size w w' := by
  obtain ⟨S, vs, rs⟩ := X
  obtain ⟨G, K, V, ms, D, hms⟩ := h
  simp only at hms D
  subst hms
  obtain ⟨I, tw, cnt⟩ := L
  have hv : vs.length ≤ 1048576 * 1048576 := Nat.le_trans cnt.v (Nat.mul_le_mul hd hq)
  have hr : ((ms.map (·.r)).map (·.reads.length)).sum ≤ 1048576 * 1048576 := Nat.le_trans cnt.r (Nat.mul_le_mul hq hR)
  have hn : ms.length ≤ a := by simpa using cnt.n
  refine wDeps D.d.cells.2.2.1 D.d.vers.sb10 D.d.cells.2.2.2.1 D.d.list.sb10 (fun m hm => ⟨(D.d.runs m hm).1.sb10, ?_⟩) (show vs.length ≤ 1599289640354 by omega) (show ms.length ≤ 1048576 by omega) ?_ (fun m hm hc q hq2 => ?_) fun v hv2 => next_lt (X := ⟨S, vs, gs⟩) I hv2
  · obtain ⟨i, hi⟩ := List.mem_iff_getElem?.1 hm
    have := sum_at (rs := ms.map (·.r)) (i := i) (r := m.r) (by rw [List.getElem?_map, hi]; rfl)
    omega
  · have := deps_len vs (ms.map (·.r))
    show (depsP vs (ms.map (·.r))).length ≤ 4000000000000
    omega
  · obtain ⟨i, hi⟩ := List.mem_iff_getElem?.1 hm
    obtain ⟨g, hg, eg⟩ := strip_at tw (i := i) (r := m.r) (by simp only; rw [List.getElem?_map, hi]; rfl)
    have erd : g.reads = m.r.reads := (strip_is eg).2.2.2.1.symm
    have hq3 := I.rd i g hg q (by rw [erd]; exact hq2)
    have h1 : q.2 < (vs.length : Int) := by
      rw [hq3]
      rcases newest_is vs q.1 g.snap with ⟨e, -⟩ | ⟨k, v, e, hk, -⟩
      · simp only; rw [e]; omega
      · simp only; rw [e]; have := (List.getElem?_eq_some_iff.1 hk).1; omega
    exact ⟨h1, fun h0 => verNext_lt (X := ⟨S, vs, gs⟩) I h1 h0⟩
theorem Lp10.goes (L : Lp10 R a q d c X gs now) : ∃ key : Nat → Int, ∀ x ∈ depsP X.vs X.rs, Goes X.rs key x := by
  obtain ⟨key, hk⟩ := L.inv.key
  have e1 : depsP X.vs X.rs = depsP X.vs gs := by rw [← deps_strip X.vs X.rs, ← deps_strip X.vs gs, L.tw]
  have e2 : X.rs.length = gs.length := by have := congrArg List.length L.tw; simpa using this
  refine ⟨key, fun x hx => ?_⟩
  rw [e1] at hx
  obtain ⟨a, b, h1, h2, h3, h4⟩ := hk x hx
  exact ⟨a, b, h1, by omega, by omega, h4⟩
theorem Lp10.ordered (L : Lp10 R a q d c X gs now) (ha : a ≤ 1048576) (hq : q ≤ 1048576) (hd : d ≤ 1048576) (hR : R ≤ 1048576) {w : World} {A : Option Addr} {cc : Nat} (h : SB w A (2 * (depsP X.vs X.rs).length) (cellsF depC (depsP X.vs X.rs))) :
    Calls Tryz.prog 23 #[.int .i64 (X.rs.length : Nat), .slice A (depsP X.vs X.rs).length cc] w fun e w' => e = .returned (.bool true) ∧ Below w.heap.size w w' := by
  obtain ⟨key, hk⟩ := L.goes
  have hv : X.vs.length ≤ 1048576 * 1048576 := Nat.le_trans L.cnt.v (Nat.mul_le_mul hd hq)
  have hr : (X.rs.map (·.reads.length)).sum ≤ 1048576 * 1048576 := Nat.le_trans L.cnt.r (Nat.mul_le_mul hq hR)
  have hl := deps_len X.vs X.rs
  have hO : orderedP X.rs.length (depsP X.vs X.rs) = true := ordered_of (key := key) hk
  have := wOrdered (n := X.rs.length) (c := cc) h (Nat.le_trans L.cnt.n ha) (by omega) fun x hx => by
    obtain ⟨a, b, h1, h2, h3, -⟩ := hk x hx
    exact ⟨a, b, h1, h2, h3⟩
  rw [hO] at this
  exact this
theorem DoIs.cells (h : DoIs P wf w0 p b rows c X w) : ∃ A2 c2 A3 c3, w.cell? ⟨p, 0, none⟩ = some (.pointer (some ⟨b, 0, none⟩)) ∧ w.cell? ⟨p, 2, none⟩ = some (.slice A2 X.vs.length c2) ∧ w.cell? ⟨p, 3, none⟩ = some (.slice A3 X.rs.length c3) ∧ w.cell? ⟨p, 4, none⟩ = some (.bool false) := by
  obtain ⟨G, K, V, ms, D, hms⟩ := h
  have e : X.rs.length = ms.length := by rw [← hms, List.length_map]
  rw [e]
  exact ⟨V.va, V.vc, V.la, V.lc, D.d.cells.1, D.d.cells.2.2.1, D.d.cells.2.2.2.1, D.d.cells.2.2.2.2⟩
theorem DoIs.below (h : DoIs P wf w0 p b rows c X w) {w' : World} (g : Below w.heap.size w w') : DoIs P wf w0 p b rows c X w' := by
  obtain ⟨G, K, V, ms, D, hms⟩ := h
  exact ⟨G, K, V, ms, D.bel g, hms⟩
theorem DoIs.bel (h : DoIs P wf w0 p b rows c X w) : Below w0.heap.size w0 w := by
  obtain ⟨G, K, V, ms, D, hms⟩ := h
  exact D.z
theorem DoIs.new {c : Cp10} {rows : List Lk} {G K : Nat → Prop} {V : WdV} (m : M10 w G K b c (new10 0)) (h : WdAt w0 w (fun k => G k ∨ K k) p b V rows [] [] false) (hg : ∀ k, G k → w0.heap.size ≤ k) (hk : ∀ k, K k → w0.heap.size ≤ k) (z : Below w0.heap.size w0 w) : DoIs (fun _ => False) w w0 p b rows c ⟨new10 0, [], []⟩ w :=
  ⟨G, K, V, [], ⟨m, h.keep (fun _ _ => rfl) fun k hk hg => hg.elim (h.ap k hk) id, fun k h => h.elim (hg k) (hk k), z, Out.refl _ _, fun _ h => h.elim⟩, rfl⟩
theorem Lp10.new {c : Cp10} (hc : 1 ≤ c.reads) (R a q d : Nat) : Lp10 R a q d c ⟨new10 0, [], []⟩ [] 0 :=
  ⟨Inv10.new c hc, rfl, ⟨Nat.zero_le _, Nat.zero_le _, fun _ h => (by cases h), Nat.zero_le _⟩⟩
end
end Go.Proofs.YtknppiebncdjmaaGreat
