import Derived.Test.YtknppiebncdjmaaGreatJBL
import Derived.BigQuiet
set_option linter.unusedVariables false
namespace Go.Proofs.YtknppiebncdjmaaGreat
set_option maxRecDepth 100000
open Go.RowKit

section
variable {P : Nat → Prop} {wf w0 w w' : World} {G K : Nat → Prop} {p b : Nat} {V : WdV} {rows : List Lk} {vs : List Ver10} {ms : List RunM} {c : Cp10} {S S' : St10}
theorem Do10.over (h : Do10 P wf w0 w G K p b V rows vs ms c S) {i g : Nat} {x : RunM} (hi : ms[i]? = some x) (hg : V.la = some ⟨g, 0, none⟩) (mo : Int) :
    DoEx P wf w0 p b rows c S vs ((ms.map (·.r)).set i (overR x.r mo)) ((w.setCell ⟨g, i * 8 + 5, none⟩ (.bool true)).setCell ⟨g, i * 8 + 3, none⟩ (.int .i64 mo)) := by
  have hil := (List.getElem?_eq_some_iff.1 hi).1
  have hgo : g ∈ p :: ownersW V ms := List.mem_cons_of_mem _ ((own_in V ms).2.2.1 g (by rw [hg]; simp [ownA]))
  have d1 := h.d.flag hi hg (k := 5) (x' := { x with r := { x.r with over := true } }) (u := .bool true) (by omega) rfl rfl ⟨rfl, rfl, rfl, rfl, rfl, rfl⟩
  have hi1 : (ms.set i { x with r := { x.r with over := true } })[i]? = some { x with r := { x.r with over := true } } := List.getElem?_set_self hil
  have d2 := d1.flag hi1 hg (k := 3) (x' := { x with r := overR x.r mo }) (u := .int .i64 mo) (by omega) rfl rfl ⟨rfl, rfl, rfl, rfl, rfl, rfl⟩
  rw [List.set_set] at d2
  refine ⟨G, K, V, _, h.own (Out.setCell (F := fun k => k ∈ p :: ownersW V ms) (p := ⟨g, i * 8 + 3, none⟩) (Out.setCell (F := fun k => k ∈ p :: ownersW V ms) (p := ⟨g, i * 8 + 5, none⟩) (Out.refl _ _) (.inl hgo) _) (.inl hgo) _) d2, ?_⟩
  rw [List.map_set]
theorem Do10.mlt (h : Do10 P wf w0 w G K p b V rows vs ms c S) : ∀ k, G k → k < w.heap.size := h.m.lt.1
set_option maxHeartbeats 16000000 in
theorem wDoNone (h : Do10 P wf w0 w G K p b V rows vs ms c S) (hn : ms.length ≤ 1048576) (o : OpX) (ho : o.do_ ≠ 0) (mo : Nat) (hno : ofW (ms.map (·.r)) o.tx = -1) :
    Calls Tryz.prog 22 #[.pointer (some ⟨p, 0, none⟩), .agg #[.int .i64 o.do_, .int .i64 o.tx, .string o.at_.1, .string o.at_.2, .string o.to_, .int .i64 o.last], .int .i64 (mo : Int)] w fun e w' => e = .returned (.int .i64 0) ∧ DoEx P wf w0 p b rows c S vs (ms.map (·.r)) w' := by
  obtain ⟨do_, tx, ⟨tb, ky⟩, to_, last⟩ := o
  dsimp only at ho hno ⊢
  obtain ⟨W, hW⟩ : ∃ W, w.alloc (.cells #[.int .i64 do_, .int .i64 tx, .string tb, .string ky, .string to_, .int .i64 last] 44) = W := ⟨_, rfl⟩
  obtain ⟨hB, o0, o1, -⟩ := op_row ⟨do_, tx, (tb, ky), to_, last⟩ W hW
  dsimp only at o0 o1
  have HW := Lib.hid hW
  have hD := h.bel hB
  have CO := Lib.hid (hD.d.of (by omega) tx)
  rw [hno] at CO
  have HD := Lib.hid hD
  clear h hn hW hB hD hno
  go_enter Tryz.func22, Tryz.ntmps22
  go_upto_region 1 with fail
  rw [HW.out]
  go_wp2_with (go_at_call 26; go_loud (refine CO.out.mono ?_; rintro e w2 ⟨rfl, b2⟩; have D2 := Lib.hid (HD.out.bel b2); clear b2))
  go_ret
  exact ⟨rfl, G, K, V, ms, D2.out, rfl⟩
set_option maxHeartbeats 16000000 in
theorem wDoAbort (h : Do10 P wf w0 w G K p b V rows vs ms c S) (hb : Bd10 S) (hn : ms.length ≤ 1048576) (o : OpX) (ho : o.do_ = 5) (mo : Nat) {i : Nat} {x : RunM} (hi : ms[i]? = some x) (hof : ofW (ms.map (·.r)) o.tx = (i : Int)) (hx : (Lit.int .i64 o.tx).wf = true) :
    Calls Tryz.prog 22 #[.pointer (some ⟨p, 0, none⟩), .agg #[.int .i64 o.do_, .int .i64 o.tx, .string o.at_.1, .string o.at_.2, .string o.to_, .int .i64 o.last], .int .i64 (mo : Int)] w fun e w' => e = .returned (.int .i64 (abort10 S o.tx).1) ∧ DoEx P wf w0 p b rows c (abort10 S o.tx).2 vs ((ms.map (·.r)).set i (overR x.r mo)) w' := by
  obtain ⟨do_, tx, ⟨tb, ky⟩, to_, last⟩ := o
  dsimp only at ho hof hx ⊢
  subst ho
  obtain ⟨W, hW⟩ : ∃ W, w.alloc (.cells #[.int .i64 5, .int .i64 tx, .string tb, .string ky, .string to_, .int .i64 last] 44) = W := ⟨_, rfl⟩
  obtain ⟨hB, o0, o1, -⟩ := op_row ⟨5, tx, (tb, ky), to_, last⟩ W hW
  dsimp only at o0 o1
  have HW := Lib.hid hW
  have hD := h.bel hB
  have CO := Lib.hid (hD.d.of (by omega) tx)
  rw [hof] at CO
  obtain ⟨⟨er, S'⟩, hq⟩ : ∃ q, abort10 S tx = q := ⟨_, rfl⟩
  have CA := Lib.hid (fun (W1 : World) (D : Do10 P wf w0 W1 G K p b V rows vs ms c S) => w10Abort D.m hb hx)
  simp only [hq] at CA
  rw [hq]
  dsimp only
  have HD := Lib.hid hD
  have HI := Lib.hid hi
  have HGW := Lib.hid (fun hg => Nat.lt_irrefl _ (h.mlt w.heap.size hg) : ¬ G w.heap.size)
  have hil := (List.getElem?_eq_some_iff.1 hi).1
  have i1 : (i : Int) < (ms.length : Int) := by omega
  have i1' : (0 : Int) ≤ (i : Int) := by omega
  have i1'' : ¬ (i : Int) < 0 := by omega
  obtain ⟨g, hg, -, -⟩ := hD.d.place hi
  have p3 : ∀ W2, Do10 P wf w0 W2 G K p b V rows vs ms c S → W2.cell? ⟨p, 3, none⟩ = some (.slice (some ⟨g, 0, none⟩) ms.length V.lc) := fun W2 D => by rw [← hg]; exact D.d.cells.2.2.2.1
  have P3 := Lib.hid p3
  have HG := Lib.hid hg
  clear h hb hn hW hB hD hof hq hx hi hil hg p3
  go_enter Tryz.func22, Tryz.ntmps22
  go_upto_region 1 with fail
  rw [HW.out]
  go_upto_region 46 with (go_at_call 26; go_loud (refine CO.out.mono ?_; rintro e w2 ⟨rfl, b2⟩; replace o0 := keep_below o0 b2; replace o1 := keep_below o1 b2; have D2 := Lib.hid (HD.out.bel b2); have q3 := P3.out _ D2.out; have q0 := D2.out.d.cells.1; clear b2))
  have S0 : w2.cell? ⟨p, 0, none⟩ = some (.pointer (some ⟨b, 0, none⟩)) ∧ w2.cell? ⟨w.heap.size, 1, none⟩ = some (.int .i64 tx) := ⟨q0, o1⟩
  clear q3
  go_region_held3 (fun w' => w'.cell? ⟨p, 0, none⟩ = some (.pointer (some ⟨b, 0, none⟩)) ∧ w'.cell? ⟨w.heap.size, 1, none⟩ = some (.int .i64 tx))
    (first | exact S0 | exact SA)
    (first | (go_at_call 17; go_loud (refine (CA.out _ (D2.out.bel (Below.refl _ _).drew)).mono ?_; rintro e w3 ⟨rfl, l3⟩; obtain ⟨G3, K3, d3⟩ := (D2.out.bel (Below.refl _ _).drew).call l3; obtain ⟨-, -, -, -, -, out3⟩ := l3; have r0 := out3.cell (p := ⟨w.heap.size, 0, none⟩) o0 HGW.out; have SA : w3.cell? ⟨p, 0, none⟩ = some (.pointer (some ⟨b, 0, none⟩)) ∧ w3.cell? ⟨w.heap.size, 1, none⟩ = some (.int .i64 tx) := ⟨d3.d.cells.1, out3.cell (p := ⟨w.heap.size, 1, none⟩) o1 HGW.out⟩; have D3 := Lib.hid d3; clear d3 out3)))
  all_goals
    clear S0 o0 o1 q0
    obtain ⟨g', hg', hcell, hfro⟩ := D3.out.d.place HI.out
    obtain rfl : g' = g := by have := HG.out; rw [hg'] at this; simpa using this
    have c5 : w3.cell? ⟨g', i * 8 + 5, none⟩ = some (.bool x.r.over) := hcell 5 _ rfl
    have c3 : w3.cell? ⟨g', i * 8 + 3, none⟩ = some (.int .i64 x.r.ended) := hcell 3 _ rfl
    have f5 : w3.frozen? ⟨g', i * 8 + 5, none⟩ = false := hfro _
    have f3 : w3.frozen? ⟨g', i * 8 + 3, none⟩ = false := hfro _
    clear hcell hfro SA hg'
    by_cases he : er = 0
    · subst he
      go_wp2
      go_ret
      exact ⟨rfl, D3.out.over HI.out HG.out _⟩
    · go_wp2
      go_ret
      exact ⟨rfl, D3.out.over HI.out HG.out _⟩
end
end Go.Proofs.YtknppiebncdjmaaGreat

namespace Go.Proofs.YtknppiebncdjmaaGreat
set_option maxRecDepth 100000
open Go.RowKit

section
variable {P : Nat → Prop} {wf w0 w w' : World} {G K : Nat → Prop} {p b : Nat} {V : WdV} {rows : List Lk} {vs : List Ver10} {ms : List RunM} {c : Cp10} {S S' : St10}
set_option maxHeartbeats 16000000 in
theorem wDoRead (h : Do10 P wf w0 w G K p b V rows vs ms c S) (hb : Bd10 S) (hn : ms.length ≤ 1048576) (o : OpX) (ho : o.do_ = 1) (mo : Nat) {i : Nat} {x : RunM} (hi : ms[i]? = some x) (hof : ofW (ms.map (·.r)) o.tx = (i : Int)) (hx : (Lit.int .i64 o.tx).wf = true) (hl : Sz2 o.at_) (hn2 : vs.length ≤ 1599289640354) (hn3 : x.r.writes.length ≤ 1599289640354) (hn4 : x.r.reads.length ≤ 3000000000000) :
    Calls Tryz.prog 22 #[.pointer (some ⟨p, 0, none⟩), .agg #[.int .i64 o.do_, .int .i64 o.tx, .string o.at_.1, .string o.at_.2, .string o.to_, .int .i64 o.last], .int .i64 (mo : Int)] w fun e w' => e = .returned (.int .i64 (read10 c S o.tx o.at_).1) ∧ DoEx P wf w0 p b rows c (read10 c S o.tx o.at_).2 vs ((ms.map (·.r)).set i (if (read10 c S o.tx o.at_).1 = 0 then seesP vs x.r o.at_ else overR x.r mo)) w' := by
  obtain ⟨do_, tx, ⟨tb, ky⟩, to_, last⟩ := o
  dsimp only at ho hof hx hl ⊢
  subst ho
  obtain ⟨W, hW⟩ : ∃ W, w.alloc (.cells #[.int .i64 1, .int .i64 tx, .string tb, .string ky, .string to_, .int .i64 last] 44) = W := ⟨_, rfl⟩
  obtain ⟨hB, o0, o1, o2, o3, -⟩ := op_row ⟨1, tx, (tb, ky), to_, last⟩ W hW
  dsimp only at o0 o1 o2 o3
  have HW := Lib.hid hW
  have hD := h.bel hB
  have CO := Lib.hid (hD.d.of (by omega) tx)
  rw [hof] at CO
  obtain ⟨⟨er, S'⟩, hq⟩ : ∃ q, read10 c S tx (tb, ky) = q := ⟨_, rfl⟩
  have CA := Lib.hid (fun (W1 : World) (D : Do10 P wf w0 W1 G K p b V rows vs ms c S) => w10Read D.m hb hx hl)
  simp only [hq] at CA
  rw [hq]
  dsimp only
  have HOW := Lib.hid (fun hg => Nat.lt_irrefl _ (h.d.lt w.heap.size hg).2 : ¬ w.heap.size ∈ p :: ownersW V ms)
  have CS := Lib.hid (fun (W1 : World) (G1 K1 : Nat → Prop) (D : Do10 P wf w0 W1 G1 K1 p b V rows vs ms c S') => wSees D.d D.glt D.z.size hi hn hn2 hn3 hn4 (tb, ky))
  unfold lkV at CA
  dsimp only at CA CS
  have HD := Lib.hid hD
  have HI := Lib.hid hi
  have HGW := Lib.hid (fun hg => Nat.lt_irrefl _ (h.mlt w.heap.size hg) : ¬ G w.heap.size)
  have hil := (List.getElem?_eq_some_iff.1 hi).1
  have i1 : (i : Int) < (ms.length : Int) := by omega
  have i1' : (0 : Int) ≤ (i : Int) := by omega
  have i1'' : ¬ (i : Int) < 0 := by omega
  obtain ⟨g, hg, -, -⟩ := hD.d.place hi
  have p3 : ∀ W2, Do10 P wf w0 W2 G K p b V rows vs ms c S → W2.cell? ⟨p, 3, none⟩ = some (.slice (some ⟨g, 0, none⟩) ms.length V.lc) := fun W2 D => by rw [← hg]; exact D.d.cells.2.2.2.1
  have P3 := Lib.hid p3
  have HG := Lib.hid hg
  clear h hb hn hW hB hD hof hq hx hi hil hg p3 hl hn2 hn3 hn4
  go_enter Tryz.func22, Tryz.ntmps22
  go_upto_region 1 with fail
  rw [HW.out]
  go_upto_region 15 with (go_at_call 26; go_loud (refine CO.out.mono ?_; rintro e w2 ⟨rfl, b2⟩; replace o0 := keep_below o0 b2; replace o1 := keep_below o1 b2; replace o2 := keep_below o2 b2; replace o3 := keep_below o3 b2; have D2 := Lib.hid (HD.out.bel b2); have q3 := P3.out _ D2.out; have q0 := D2.out.d.cells.1; clear b2))
  have S0 : w2.cell? ⟨p, 0, none⟩ = some (.pointer (some ⟨b, 0, none⟩)) ∧ w2.cell? ⟨w.heap.size, 1, none⟩ = some (.int .i64 tx) ∧ w2.cell? ⟨w.heap.size, 2, none⟩ = some (.string tb) ∧ w2.cell? ⟨w.heap.size, 3, none⟩ = some (.string ky) := ⟨q0, o1, o2, o3⟩
  clear q3
  go_region_held3 (fun w' => w'.cell? ⟨p, 0, none⟩ = some (.pointer (some ⟨b, 0, none⟩)) ∧ w'.cell? ⟨w.heap.size, 1, none⟩ = some (.int .i64 tx) ∧ w'.cell? ⟨w.heap.size, 2, none⟩ = some (.string tb) ∧ w'.cell? ⟨w.heap.size, 3, none⟩ = some (.string ky))
    (first | exact S0 | exact SA)
    (first | (go_at_call 31; go_loud (refine (CA.out _ (D2.out.bel (Below.refl _ _).drew)).mono ?_; rintro e w3 ⟨rfl, l3⟩; obtain ⟨G3, K3, d3⟩ := (D2.out.bel (Below.refl _ _).drew).call l3; obtain ⟨-, -, -, -, -, out3⟩ := l3; have r0 := out3.cell (p := ⟨w.heap.size, 0, none⟩) o0 HGW.out; have SA : w3.cell? ⟨p, 0, none⟩ = some (.pointer (some ⟨b, 0, none⟩)) ∧ w3.cell? ⟨w.heap.size, 1, none⟩ = some (.int .i64 tx) ∧ w3.cell? ⟨w.heap.size, 2, none⟩ = some (.string tb) ∧ w3.cell? ⟨w.heap.size, 3, none⟩ = some (.string ky) := ⟨d3.d.cells.1, out3.cell (p := ⟨w.heap.size, 1, none⟩) o1 HGW.out, out3.cell (p := ⟨w.heap.size, 2, none⟩) o2 HGW.out, out3.cell (p := ⟨w.heap.size, 3, none⟩) o3 HGW.out⟩; have D3 := Lib.hid d3; clear d3 out3)))
  all_goals
    obtain ⟨-, -, r2, r3⟩ := SA
    clear S0 o0 o1 o2 o3 q0
    obtain ⟨g', hg', hcell, hfro⟩ := D3.out.d.place HI.out
    obtain rfl : g' = g := by have := HG.out; rw [hg'] at this; simpa using this
    have c5 : w3.cell? ⟨g', i * 8 + 5, none⟩ = some (.bool x.r.over) := hcell 5 _ rfl
    have c3 : w3.cell? ⟨g', i * 8 + 3, none⟩ = some (.int .i64 x.r.ended) := hcell 3 _ rfl
    have f5 : w3.frozen? ⟨g', i * 8 + 5, none⟩ = false := hfro _
    have f3 : w3.frozen? ⟨g', i * 8 + 3, none⟩ = false := hfro _
    clear hcell hfro hg'
    by_cases he : er = 0
    · subst he
      clear c5 c3 f5 f3
      go_wp2_with (go_at_call 67; go_loud (refine (CS.out _ _ _ D3.out).mono ?_; rintro e w4 ⟨⟨u4, rfl⟩, x4, hx4, d4, out4⟩; replace r0 := out4.cell (p := ⟨w.heap.size, 0, none⟩) r0 HOW.out; have D4 := Lib.hid (D3.out.own out4 d4); have X4 := Lib.hid hx4; clear d4 out4 hx4))
      go_ret
      exact ⟨rfl, G3, K3, V, _, D4.out, by rw [List.map_set, X4.out]⟩
    · go_wp2
      go_ret
      exact ⟨rfl, D3.out.over HI.out HG.out _⟩
end
end Go.Proofs.YtknppiebncdjmaaGreat

namespace Go.Proofs.YtknppiebncdjmaaGreat
set_option maxRecDepth 100000
open Go.RowKit

theorem bel_drewN (w : World) (n : Nat) : Below w.heap.size w (w.drewN n) := ⟨rfl, rfl, rfl, Nat.le_refl _, fun _ _ => rfl⟩
theorem sb_lk (X : World) (l : Lk) : SB (X.alloc (.cells #[.string l.1, .string l.2] 42)) (some ⟨X.heap.size, 0, none⟩) (seL.s * 1) (cellsF lkC [l]) := by
  refine ⟨rfl, ?_, fun _ => ⟨X.heap.size, 0, rfl, fun j u hj => ?_⟩⟩
  · intro u hu
    simp [cellsF, lkC] at hu
    rcases hu with rfl | rfl <;> rfl
  · rw [cell_of_row _ _ _ _ _ _ (heap_alloc_new X _)]
    simpa [cellsF, lkC] using hj
section
variable {P : Nat → Prop} {wf w0 w w' : World} {G K : Nat → Prop} {p b : Nat} {V : WdV} {rows : List Lk} {vs : List Ver10} {ms : List RunM} {c : Cp10} {S S' : St10}
set_option maxHeartbeats 16000000 in
theorem wDoWrite (h : Do10 P wf w0 w G K p b V rows vs ms c S) (hb : Bd10 S) (hn : ms.length ≤ 1048576) (o : OpX) (ho : o.do_ = 3) (mo : Nat) {i : Nat} {x : RunM} (hi : ms[i]? = some x) (hof : ofW (ms.map (·.r)) o.tx = (i : Int)) (hx : (Lit.int .i64 o.tx).wf = true) (hl : Sz2 o.at_) (hn2 : vs.length ≤ 1599289640354) (hn3 : x.r.writes.length ≤ 1599289640354) (hn4 : x.r.reads.length ≤ 3000000000000) :
    Calls Tryz.prog 22 #[.pointer (some ⟨p, 0, none⟩), .agg #[.int .i64 o.do_, .int .i64 o.tx, .string o.at_.1, .string o.at_.2, .string o.to_, .int .i64 o.last], .int .i64 (mo : Int)] w fun e w' => e = .returned (.int .i64 (write10 c S o.tx o.at_ (lastW vs o.at_)).1) ∧ DoEx P wf w0 p b rows c (write10 c S o.tx o.at_ (lastW vs o.at_)).2 vs ((ms.map (·.r)).set i (if (write10 c S o.tx o.at_ (lastW vs o.at_)).1 = 0 then wroteR x.r o.at_ else overR x.r mo)) w' := by
  obtain ⟨do_, tx, ⟨tb, ky⟩, to_, last⟩ := o
  dsimp only at ho hof hx hl ⊢
  subst ho
  obtain ⟨W, hW⟩ : ∃ W, w.alloc (.cells #[.int .i64 3, .int .i64 tx, .string tb, .string ky, .string to_, .int .i64 last] 44) = W := ⟨_, rfl⟩
  obtain ⟨hB, o0, o1, o2, o3, -⟩ := op_row ⟨3, tx, (tb, ky), to_, last⟩ W hW
  dsimp only at o0 o1 o2 o3
  have HW := Lib.hid hW
  have hD := h.bel hB
  have CO := Lib.hid (hD.d.of (by omega) tx)
  rw [hof] at CO
  obtain ⟨⟨er, S'⟩, hq⟩ : ∃ q, write10 c S tx (tb, ky) (lastW vs (tb, ky)) = q := ⟨_, rfl⟩
  have CA := Lib.hid (fun (W1 : World) (D : Do10 P wf w0 W1 G K p b V rows vs ms c S) => w10Write D.m hb hx hl (lastW vs (tb, ky)))
  simp only [hq] at CA
  rw [hq]
  dsimp only
  have HOW := Lib.hid (fun hg => Nat.lt_irrefl _ (h.d.lt w.heap.size hg).2 : ¬ w.heap.size ∈ p :: ownersW V ms)
  have CH := Lib.hid (fun (W1 : World) (G1 K1 : Nat → Prop) (D : Do10 P wf w0 W1 G1 K1 p b V rows vs ms c S') => wHas10 (c := x.wc) (D.d.runs x (List.mem_of_getElem? hi)).2.sb10 hn3 (tb, ky))
  have CN := Lib.hid (fun (W1 : World) (D : Do10 P wf w0 W1 G K p b V rows vs ms c S) => D.d.newest hn2 (tb, ky) 4611686018427387904)
  have HN2 := Lib.hid hn2
  have HN3 := Lib.hid hn3
  obtain ⟨N, hN⟩ : ∃ N, newestP vs (tb, ky) 4611686018427387904 = N := ⟨_, rfl⟩
  obtain ⟨la, hla⟩ : ∃ la, lastW vs (tb, ky) = la := ⟨_, rfl⟩
  have hla2 := hla
  unfold lastW at hla2
  rw [hN] at hla2
  have hge := newest_ge vs (tb, ky) 4611686018427387904
  rw [hN] at CN hge
  rw [hla] at CA
  unfold lkV at CA
  dsimp only at CA CH CN
  have HD := Lib.hid hD
  have HI := Lib.hid hi
  have HGW := Lib.hid (fun hg => Nat.lt_irrefl _ (h.mlt w.heap.size hg) : ¬ G w.heap.size)
  have hil := (List.getElem?_eq_some_iff.1 hi).1
  have i1 : (i : Int) < (ms.length : Int) := by omega
  have i1' : (0 : Int) ≤ (i : Int) := by omega
  have i1'' : ¬ (i : Int) < 0 := by omega
  obtain ⟨g, hg, -, -⟩ := hD.d.place hi
  have p3 : ∀ W2, Do10 P wf w0 W2 G K p b V rows vs ms c S → W2.cell? ⟨p, 3, none⟩ = some (.slice (some ⟨g, 0, none⟩) ms.length V.lc) := fun W2 D => by rw [← hg]; exact D.d.cells.2.2.2.1
  have P3 := Lib.hid p3
  have HG := Lib.hid hg
  clear h hb hn hW hB hD hof hq hx hi hil hg p3 hl hn2 hn3 hn4
  go_enter Tryz.func22, Tryz.ntmps22
  go_upto_region 1 with fail
  rw [HW.out]
  go_upto_region 30 with (first
    | (go_at_call 26; go_loud (refine CO.out.mono ?_; rintro e w1 ⟨rfl, b2⟩; replace o0 := keep_below o0 b2; replace o1 := keep_below o1 b2; replace o2 := keep_below o2 b2; replace o3 := keep_below o3 b2; have D1 := Lib.hid (HD.out.bel b2); have q3 := P3.out _ D1.out; clear b2))
    | (go_at_call 68; go_loud (refine (CN.out _ D1.out).mono ?_; rintro e w2 ⟨rfl, b2⟩; replace o0 := keep_below o0 b2; replace o1 := keep_below o1 b2; replace o2 := keep_below o2 b2; replace o3 := keep_below o3 b2; have D2 := Lib.hid (D1.out.bel b2); clear b2)))
  clear q3
  by_cases hneg : 0 ≤ N
  · obtain ⟨k, rfl⟩ : ∃ k : Nat, N = (k : Int) := ⟨N.toNat, by omega⟩
    have hk : k < vs.length := by omega
    obtain ⟨v, hv⟩ : ∃ v, vs[k]? = some v := ⟨_, List.getElem?_eq_getElem hk⟩
    rw [if_pos hneg, Int.toNat_natCast, hv] at hla2
    obtain rfl : v.num = la := hla2
    obtain ⟨gv, hgv, -⟩ := D2.out.d.vers.addr10 (by omega)
    have p2 := D2.out.d.cells.2.2.1
    have cv : w2.cell? ⟨gv, k * 5 + 2, none⟩ = some (.int .i64 v.num) := by
      obtain ⟨g1, o1', e1, hc1⟩ := D2.out.d.vers.sb10.el verC_len (by omega) hv
      rw [hgv] at e1
      cases e1
      have := hc1 2 _ rfl
      rwa [Nat.zero_add] at this
    rw [hgv] at p2
    have i3 : (k : Int) < (vs.length : Int) := by omega
    have i3' : (0 : Int) ≤ (k : Int) := by omega
    clear hge hk hv hN hgv
    go_upto_region 32 with fail
    clear p2 cv
    have S0 : w2.cell? ⟨p, 0, none⟩ = some (.pointer (some ⟨b, 0, none⟩)) ∧ w2.cell? ⟨w.heap.size, 1, none⟩ = some (.int .i64 tx) ∧ w2.cell? ⟨w.heap.size, 2, none⟩ = some (.string tb) ∧ w2.cell? ⟨w.heap.size, 3, none⟩ = some (.string ky) := ⟨D2.out.d.cells.1, o1, o2, o3⟩
    go_region_held3 (fun w' => w'.cell? ⟨p, 0, none⟩ = some (.pointer (some ⟨b, 0, none⟩)) ∧ w'.cell? ⟨w.heap.size, 1, none⟩ = some (.int .i64 tx) ∧ w'.cell? ⟨w.heap.size, 2, none⟩ = some (.string tb) ∧ w'.cell? ⟨w.heap.size, 3, none⟩ = some (.string ky))
      (first | exact S0 | exact SA)
      (first | (go_at_call 16; go_loud (refine (CA.out _ (D2.out.bel (Below.refl _ _).drew)).mono ?_; rintro e w3 ⟨rfl, l3⟩; obtain ⟨G3, K3, d3⟩ := (D2.out.bel (Below.refl _ _).drew).call l3; obtain ⟨-, -, -, -, -, out3⟩ := l3; have r0 := out3.cell (p := ⟨w.heap.size, 0, none⟩) o0 HGW.out; have SA : w3.cell? ⟨p, 0, none⟩ = some (.pointer (some ⟨b, 0, none⟩)) ∧ w3.cell? ⟨w.heap.size, 1, none⟩ = some (.int .i64 tx) ∧ w3.cell? ⟨w.heap.size, 2, none⟩ = some (.string tb) ∧ w3.cell? ⟨w.heap.size, 3, none⟩ = some (.string ky) := ⟨d3.d.cells.1, out3.cell (p := ⟨w.heap.size, 1, none⟩) o1 HGW.out, out3.cell (p := ⟨w.heap.size, 2, none⟩) o2 HGW.out, out3.cell (p := ⟨w.heap.size, 3, none⟩) o3 HGW.out⟩; have D3 := Lib.hid d3; clear d3 out3)))
    all_goals
      obtain ⟨-, -, r2, r3⟩ := SA
      clear S0 o0 o1 o2 o3
      obtain ⟨g', hg', hcell, hfro⟩ := D3.out.d.place HI.out
      obtain rfl : g' = g := by have := HG.out; rw [hg'] at this; simpa using this
      have c5 : w3.cell? ⟨g', i * 8 + 5, none⟩ = some (.bool x.r.over) := hcell 5 _ rfl
      have c3 : w3.cell? ⟨g', i * 8 + 3, none⟩ = some (.int .i64 x.r.ended) := hcell 3 _ rfl
      have c7 : w3.cell? ⟨g', i * 8 + 7, none⟩ = some (.slice x.wa x.r.writes.length x.wc) := hcell 7 _ rfl
      have f5 : w3.frozen? ⟨g', i * 8 + 5, none⟩ = false := hfro _
      have f3 : w3.frozen? ⟨g', i * 8 + 3, none⟩ = false := hfro _
      clear hcell hfro hg'
      by_cases he : er = 0
      · subst he
        clear c5 c3 f5 f3
        have HST := Lib.hid (show (ms.map (·.r)).set i x.r = ms.map (·.r) from set_same (by rw [List.getElem?_map, HI.out]; rfl))
        have S1 : w3.cell? ⟨g', i * 8 + 7, none⟩ = some (.slice x.wa x.r.writes.length x.wc) ∧ w3.cell? ⟨w.heap.size, 2, none⟩ = some (.string tb) ∧ w3.cell? ⟨w.heap.size, 3, none⟩ = some (.string ky) := ⟨c7, r2, r3⟩
        have SK := Lib.hid (fun (W' : World) (hb : Below w3.heap.size w3 W') => (⟨keep_below S1.1 hb, keep_below S1.2.1 hb, keep_below S1.2.2 hb⟩ : W'.cell? ⟨g', i * 8 + 7, none⟩ = some (.slice x.wa x.r.writes.length x.wc) ∧ W'.cell? ⟨w.heap.size, 2, none⟩ = some (.string tb) ∧ W'.cell? ⟨w.heap.size, 3, none⟩ = some (.string ky)))
        have R0 := Lib.hid r0
        clear c7 r2 r3 r0
        go_upto_region 33 with fail
        go_region_held3 (fun w' => w'.cell? ⟨g', i * 8 + 7, none⟩ = some (.slice x.wa x.r.writes.length x.wc) ∧ w'.cell? ⟨w.heap.size, 2, none⟩ = some (.string tb) ∧ w'.cell? ⟨w.heap.size, 3, none⟩ = some (.string ky))
          (first | exact S1 | exact SB1)
          (first | (go_at_call 25; go_loud (refine (CH.out _ _ _ (D3.out.bel (Below.refl _ _).drew)).mono ?_; rintro e w4 ⟨rfl, b4⟩; have G4 := Lib.hid ((Below.refl w3.heap.size w3).drew.trans b4); have SB1 := SK.out w4 G4.out; have D4 := Lib.hid (D3.out.bel G4.out); clear b4)))
        all_goals
          clear S1
          have r0 := keep_below R0.out G4.out
          cases hh : hasLk x.r.writes (tb, ky)
          · have HWR := Lib.hid (show wroteR x.r (tb, ky) = { x.r with writes := x.r.writes ++ [(tb, ky)] } by unfold wroteR; rw [hh]; rfl)
            have hmem := List.mem_of_getElem? HI.out
            have DX := D4.out.bel ((alloc_below10 w4 (.cells #[.string tb, .string ky] 42)).drew)
            have z7 : (w4.alloc (.cells #[.string tb, .string ky] 42)).cell? ⟨g', i * 8 + 7, none⟩ = some (.slice x.wa x.r.writes.length x.wc) := keep_below SB1.1 (alloc_below10 w4 (.cells #[.string tb, .string ky] 42))
            have HZ7 := Lib.hid (show (w4.alloc (.cells #[.string tb, .string ky] 42)).drew.cell? ⟨g', i * 8 + 7, none⟩ = some (.slice x.wa x.r.writes.length x.wc) from z7)
            have fz : (w4.alloc (.cells #[.string tb, .string ky] 42)).drew.frozen? ⟨g', i * 8 + 7, none⟩ = false := by
              obtain ⟨g9, hg9, -, hfro⟩ := DX.d.place HI.out
              obtain rfl : g9 = g' := by have := HG.out; rw [hg9] at this; simpa using this
              exact hfro _
            have fz' : (w4.alloc (.cells #[.string tb, .string ky] 42)).frozen? ⟨g', i * 8 + 7, none⟩ = false := fz
            have HNE := Lib.hid (show some g' ≠ (Value.slice x.wa x.r.writes.length x.wc).ownBlock from fun e => (DX.d.far.1 g' (by rw [HG.out]; simp [ownA])).2.2.2 x hmem (List.mem_append.2 (.inr (ownA_mem e.symm))))
            have HSO := Lib.hid (((D4.out.d.runs x hmem).2.alloc (.cells #[.string tb, .string ky] 42)).drew)
            have HSB := Lib.hid ((sb_lk w4 (tb, ky)).gw (Below.refl _ _).drew)
            have HSZ := Lib.hid DX.z.size
            have HPX := Lib.hid (World.block_lt_of_cell? _ _ HZ7.out)
            have HDX := Lib.hid DX
            have R0X := Lib.hid (keep_below r0 ((alloc_below10 w4 (.cells #[.string tb, .string ky] 42)).drew))
            have y7 := SB1.1
            have y2 := SB1.2.1
            have y3 := SB1.2.2
            clear DX SB1 hmem r0
            go_upto_region 34 with fail
            go_region_law (refine so_stepL seL_ok (by rfl) (.tmp 198) (.tmp 201) (by rfl) _ (by rfl) HSO.out w4.heap.size 1 (cellsF lkC [(tb, ky)]) (by rfl) HSB.out (by have := HN3.out; show _ * 32 ≤ _; omega) (by have := HN3.out; simp only [maxLen]; omega) HSZ.out ?_; intro g5 c5 w5 o5 b5 l5; have O5 := Lib.hid o5; have B5 := Lib.hid b5; have L5 := Lib.hid l5; have v6 := grown_keep b5 HZ7.out HNE.out; have v7 := (World.frozen?_of_block (a := ⟨g', i * 8 + 7, none⟩) (b5.block g' HPX.out HNE.out)).trans fz; clear o5 b5 l5)
            all_goals
              have hmem := List.mem_of_getElem? HI.out
              have dw := HDX.out.d.writes HDX.out.glt HI.out HG.out O5.out B5.out (L5.out.imp id fun e => by omega)
              have ow : Out (fun k => k ∈ p :: ownersW V ms) (w4.alloc (.cells #[.string tb, .string ky] 42)).drew (w5.setCell ⟨g', i * 8 + 7, none⟩ (.slice (some ⟨g5, 0, none⟩) (x.r.writes.length + 1) c5)) := Out.setCell (F := fun k => k ∈ p :: ownersW V ms) (p := ⟨g', i * 8 + 7, none⟩) (Out.grown (Out.refl _ _) B5.out fun k hk => .inl (List.mem_cons_of_mem _ ((own_in V ms).2.2.2 x hmem k (List.mem_append.2 (.inr (ownA_mem hk)))))) (.inl (List.mem_cons_of_mem _ ((own_in V ms).2.2.1 g' (by rw [HG.out]; simp [ownA])))) _
              have D5 := Lib.hid (HDX.out.own ow dw)
              have t0 := ow.cell (p := ⟨w.heap.size, 0, none⟩) R0X.out HOW.out
              clear hmem dw ow z7 fz fz' v6 v7 y7 y2 y3
              go_wp2
              go_ret
              exact ⟨rfl, G3, K3, V, _, D5.out, by rw [List.map_set, HWR.out]⟩
          · have HWR := Lib.hid (show wroteR x.r (tb, ky) = x.r by unfold wroteR; rw [hh]; rfl)
            clear SB1
            go_wp2
            go_ret
            exact ⟨rfl, G3, K3, V, ms, D4.out, by rw [HWR.out, HST.out]⟩
      · go_upto_region 33 with fail
        go_quiet (fail)
        go_wp2
        go_ret
        exact ⟨rfl, (D3.out.bel (bel_drewN _ _)).over HI.out HG.out _⟩
  · rw [if_neg hneg] at hla2
    subst hla2
    go_upto_region 32 with fail
    have S0 : w2.cell? ⟨p, 0, none⟩ = some (.pointer (some ⟨b, 0, none⟩)) ∧ w2.cell? ⟨w.heap.size, 1, none⟩ = some (.int .i64 tx) ∧ w2.cell? ⟨w.heap.size, 2, none⟩ = some (.string tb) ∧ w2.cell? ⟨w.heap.size, 3, none⟩ = some (.string ky) := ⟨D2.out.d.cells.1, o1, o2, o3⟩
    go_region_held3 (fun w' => w'.cell? ⟨p, 0, none⟩ = some (.pointer (some ⟨b, 0, none⟩)) ∧ w'.cell? ⟨w.heap.size, 1, none⟩ = some (.int .i64 tx) ∧ w'.cell? ⟨w.heap.size, 2, none⟩ = some (.string tb) ∧ w'.cell? ⟨w.heap.size, 3, none⟩ = some (.string ky))
      (first | exact S0 | exact SA)
      (first | (go_at_call 16; go_loud (refine (CA.out _ (D2.out.bel (Below.refl _ _).drew)).mono ?_; rintro e w3 ⟨rfl, l3⟩; obtain ⟨G3, K3, d3⟩ := (D2.out.bel (Below.refl _ _).drew).call l3; obtain ⟨-, -, -, -, -, out3⟩ := l3; have r0 := out3.cell (p := ⟨w.heap.size, 0, none⟩) o0 HGW.out; have SA : w3.cell? ⟨p, 0, none⟩ = some (.pointer (some ⟨b, 0, none⟩)) ∧ w3.cell? ⟨w.heap.size, 1, none⟩ = some (.int .i64 tx) ∧ w3.cell? ⟨w.heap.size, 2, none⟩ = some (.string tb) ∧ w3.cell? ⟨w.heap.size, 3, none⟩ = some (.string ky) := ⟨d3.d.cells.1, out3.cell (p := ⟨w.heap.size, 1, none⟩) o1 HGW.out, out3.cell (p := ⟨w.heap.size, 2, none⟩) o2 HGW.out, out3.cell (p := ⟨w.heap.size, 3, none⟩) o3 HGW.out⟩; have D3 := Lib.hid d3; clear d3 out3)))
    all_goals
      obtain ⟨-, -, r2, r3⟩ := SA
      clear S0 o0 o1 o2 o3
      obtain ⟨g', hg', hcell, hfro⟩ := D3.out.d.place HI.out
      obtain rfl : g' = g := by have := HG.out; rw [hg'] at this; simpa using this
      have c5 : w3.cell? ⟨g', i * 8 + 5, none⟩ = some (.bool x.r.over) := hcell 5 _ rfl
      have c3 : w3.cell? ⟨g', i * 8 + 3, none⟩ = some (.int .i64 x.r.ended) := hcell 3 _ rfl
      have c7 : w3.cell? ⟨g', i * 8 + 7, none⟩ = some (.slice x.wa x.r.writes.length x.wc) := hcell 7 _ rfl
      have f5 : w3.frozen? ⟨g', i * 8 + 5, none⟩ = false := hfro _
      have f3 : w3.frozen? ⟨g', i * 8 + 3, none⟩ = false := hfro _
      clear hcell hfro hg'
      by_cases he : er = 0
      · subst he
        clear c5 c3 f5 f3
        have HST := Lib.hid (show (ms.map (·.r)).set i x.r = ms.map (·.r) from set_same (by rw [List.getElem?_map, HI.out]; rfl))
        have S1 : w3.cell? ⟨g', i * 8 + 7, none⟩ = some (.slice x.wa x.r.writes.length x.wc) ∧ w3.cell? ⟨w.heap.size, 2, none⟩ = some (.string tb) ∧ w3.cell? ⟨w.heap.size, 3, none⟩ = some (.string ky) := ⟨c7, r2, r3⟩
        have SK := Lib.hid (fun (W' : World) (hb : Below w3.heap.size w3 W') => (⟨keep_below S1.1 hb, keep_below S1.2.1 hb, keep_below S1.2.2 hb⟩ : W'.cell? ⟨g', i * 8 + 7, none⟩ = some (.slice x.wa x.r.writes.length x.wc) ∧ W'.cell? ⟨w.heap.size, 2, none⟩ = some (.string tb) ∧ W'.cell? ⟨w.heap.size, 3, none⟩ = some (.string ky)))
        have R0 := Lib.hid r0
        clear c7 r2 r3 r0
        go_upto_region 33 with fail
        go_region_held3 (fun w' => w'.cell? ⟨g', i * 8 + 7, none⟩ = some (.slice x.wa x.r.writes.length x.wc) ∧ w'.cell? ⟨w.heap.size, 2, none⟩ = some (.string tb) ∧ w'.cell? ⟨w.heap.size, 3, none⟩ = some (.string ky))
          (first | exact S1 | exact SB1)
          (first | (go_at_call 25; go_loud (refine (CH.out _ _ _ (D3.out.bel (Below.refl _ _).drew)).mono ?_; rintro e w4 ⟨rfl, b4⟩; have G4 := Lib.hid ((Below.refl w3.heap.size w3).drew.trans b4); have SB1 := SK.out w4 G4.out; have D4 := Lib.hid (D3.out.bel G4.out); clear b4)))
        all_goals
          clear S1
          have r0 := keep_below R0.out G4.out
          cases hh : hasLk x.r.writes (tb, ky)
          · have HWR := Lib.hid (show wroteR x.r (tb, ky) = { x.r with writes := x.r.writes ++ [(tb, ky)] } by unfold wroteR; rw [hh]; rfl)
            have hmem := List.mem_of_getElem? HI.out
            have DX := D4.out.bel ((alloc_below10 w4 (.cells #[.string tb, .string ky] 42)).drew)
            have z7 : (w4.alloc (.cells #[.string tb, .string ky] 42)).cell? ⟨g', i * 8 + 7, none⟩ = some (.slice x.wa x.r.writes.length x.wc) := keep_below SB1.1 (alloc_below10 w4 (.cells #[.string tb, .string ky] 42))
            have HZ7 := Lib.hid (show (w4.alloc (.cells #[.string tb, .string ky] 42)).drew.cell? ⟨g', i * 8 + 7, none⟩ = some (.slice x.wa x.r.writes.length x.wc) from z7)
            have fz : (w4.alloc (.cells #[.string tb, .string ky] 42)).drew.frozen? ⟨g', i * 8 + 7, none⟩ = false := by
              obtain ⟨g9, hg9, -, hfro⟩ := DX.d.place HI.out
              obtain rfl : g9 = g' := by have := HG.out; rw [hg9] at this; simpa using this
              exact hfro _
            have fz' : (w4.alloc (.cells #[.string tb, .string ky] 42)).frozen? ⟨g', i * 8 + 7, none⟩ = false := fz
            have HNE := Lib.hid (show some g' ≠ (Value.slice x.wa x.r.writes.length x.wc).ownBlock from fun e => (DX.d.far.1 g' (by rw [HG.out]; simp [ownA])).2.2.2 x hmem (List.mem_append.2 (.inr (ownA_mem e.symm))))
            have HSO := Lib.hid (((D4.out.d.runs x hmem).2.alloc (.cells #[.string tb, .string ky] 42)).drew)
            have HSB := Lib.hid ((sb_lk w4 (tb, ky)).gw (Below.refl _ _).drew)
            have HSZ := Lib.hid DX.z.size
            have HPX := Lib.hid (World.block_lt_of_cell? _ _ HZ7.out)
            have HDX := Lib.hid DX
            have R0X := Lib.hid (keep_below r0 ((alloc_below10 w4 (.cells #[.string tb, .string ky] 42)).drew))
            have y7 := SB1.1
            have y2 := SB1.2.1
            have y3 := SB1.2.2
            clear DX SB1 hmem r0
            go_upto_region 34 with fail
            go_region_law (refine so_stepL seL_ok (by rfl) (.tmp 198) (.tmp 201) (by rfl) _ (by rfl) HSO.out w4.heap.size 1 (cellsF lkC [(tb, ky)]) (by rfl) HSB.out (by have := HN3.out; show _ * 32 ≤ _; omega) (by have := HN3.out; simp only [maxLen]; omega) HSZ.out ?_; intro g5 c5 w5 o5 b5 l5; have O5 := Lib.hid o5; have B5 := Lib.hid b5; have L5 := Lib.hid l5; have v6 := grown_keep b5 HZ7.out HNE.out; have v7 := (World.frozen?_of_block (a := ⟨g', i * 8 + 7, none⟩) (b5.block g' HPX.out HNE.out)).trans fz; clear o5 b5 l5)
            all_goals
              have hmem := List.mem_of_getElem? HI.out
              have dw := HDX.out.d.writes HDX.out.glt HI.out HG.out O5.out B5.out (L5.out.imp id fun e => by omega)
              have ow : Out (fun k => k ∈ p :: ownersW V ms) (w4.alloc (.cells #[.string tb, .string ky] 42)).drew (w5.setCell ⟨g', i * 8 + 7, none⟩ (.slice (some ⟨g5, 0, none⟩) (x.r.writes.length + 1) c5)) := Out.setCell (F := fun k => k ∈ p :: ownersW V ms) (p := ⟨g', i * 8 + 7, none⟩) (Out.grown (Out.refl _ _) B5.out fun k hk => .inl (List.mem_cons_of_mem _ ((own_in V ms).2.2.2 x hmem k (List.mem_append.2 (.inr (ownA_mem hk)))))) (.inl (List.mem_cons_of_mem _ ((own_in V ms).2.2.1 g' (by rw [HG.out]; simp [ownA])))) _
              have D5 := Lib.hid (HDX.out.own ow dw)
              have t0 := ow.cell (p := ⟨w.heap.size, 0, none⟩) R0X.out HOW.out
              clear hmem dw ow z7 fz fz' v6 v7 y7 y2 y3
              go_wp2
              go_ret
              exact ⟨rfl, G3, K3, V, _, D5.out, by rw [List.map_set, HWR.out]⟩
          · have HWR := Lib.hid (show wroteR x.r (tb, ky) = x.r by unfold wroteR; rw [hh]; rfl)
            clear SB1
            go_wp2
            go_ret
            exact ⟨rfl, G3, K3, V, ms, D4.out, by rw [HWR.out, HST.out]⟩
      · go_upto_region 33 with fail
        go_quiet (fail)
        go_wp2
        go_ret
        exact ⟨rfl, (D3.out.bel (bel_drewN _ _)).over HI.out HG.out _⟩
end
end Go.Proofs.YtknppiebncdjmaaGreat
