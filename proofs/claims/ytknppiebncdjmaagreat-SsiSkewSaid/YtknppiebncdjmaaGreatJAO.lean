import Derived.Test.YtknppiebncdjmaaGreatJAN
import Derived.Test.YtknppiebncdjmaaGreatJAM
import Derived.BigQuiet
import Derived.StillTailTactics
import Derived.Test.YtknppiebncdjmaaGreatProg
import Derived.Shelf.SlGeneric
import Derived.Shelf.SlSorted.Search
import Derived.Ground.SlsoProg
import Derived.Test.YtknppiebncdjmaaGreatJAF
set_option linter.unusedVariables false
namespace Go.Proofs.YtknppiebncdjmaaGreat
set_option maxRecDepth 100000
open Go.RowKit Go.Maps Go.ChangeMaps Go.MapKept

section
variable {M : MF} {w : World} {b ab kb fb lm lr rr : Nat} {GR : Nat → Prop} {c : Cp10} {P : Pg}
set_option maxHeartbeats 1000000 in
theorem wxMade (h : Mem10 M w b ab kb fb lm lr rr GR c P) (hc : PgOk c P) :
    Calls Tryz.prog 40 #[.pointer (some ⟨b, 0, none⟩)] w fun e w' => e = .returned (.bool true) ∧ w' = w := by
  have c0 := h.cells.1
  have i1 : ¬ c.act = 0 := by have := hc.ca; omega
  clear h hc
  go_enter Tryz.func40, Tryz.ntmps40
  go_wp2
  go_ret
  exact ⟨by simp [i1], rfl⟩
set_option maxHeartbeats 1000000 in
theorem wxIs (h : Mem10 M w b ab kb fb lm lr rr GR c P) {x : Int} (hx : (Lit.int .i64 x).wf = true) :
    Calls Tryz.prog 102 #[.pointer (some ⟨b, 0, none⟩), .int .i64 x] w fun e w' => e = .returned (.bool (isAct P x)) ∧ w' = w := by
  have c6 := h.cells.2.2.2.2.2.2.1
  have qA : (Instr.lookup 86 (.map (some ab)) (.int .i64 x) true).run Tryz.prog w = .ok (.tuple #[.int .i64 ((getA P.act x).getD 0), .bool (isAct P x)]) w := look_act2 h.act hx
  clear h
  go_enter Tryz.func102, Tryz.ntmps102
  go_wp2
  go_ret
  exact ⟨by first | rfl | simp, rfl⟩
def refG (P : Pg) (x : Int) : Int := if isAct P x = true then 0 else 101
set_option maxHeartbeats 1000000 in
theorem wxRef (h : Mem10 M w b ab kb fb lm lr rr GR c P) (hc : PgOk c P) {x : Int} (hx : (Lit.int .i64 x).wf = true) :
    Calls Tryz.prog 48 #[.pointer (some ⟨b, 0, none⟩), .int .i64 x] w fun e w' => e = .returned (.int .i64 (refG P x)) ∧ w' = w := by
  have CM := Lib.hid (wxMade h hc)
  have CI := Lib.hid (wxIs h hx)
  clear h
  unfold refG
  cases ha : isAct P x
  · rw [ha] at CI
    go_enter Tryz.func48, Tryz.ntmps48
    go_wp2_with (first
      | (go_at_call 40; go_loud (refine CM.out.mono ?_; rintro e w1 ⟨rfl, hw⟩; replace hw := hw.symm; subst hw))
      | (go_at_call 102; go_loud (refine CI.out.mono ?_; rintro e w1 ⟨rfl, hw⟩; replace hw := hw.symm; subst hw)))
    go_ret
    exact ⟨rfl, rfl⟩
  · rw [ha] at CI
    go_enter Tryz.func48, Tryz.ntmps48
    go_wp2_with (first
      | (go_at_call 40; go_loud (refine CM.out.mono ?_; rintro e w1 ⟨rfl, hw⟩; replace hw := hw.symm; subst hw))
      | (go_at_call 102; go_loud (refine CI.out.mono ?_; rintro e w1 ⟨rfl, hw⟩; replace hw := hw.symm; subst hw)))
    go_ret
    exact ⟨rfl, rfl⟩
set_option maxHeartbeats 2000000 in
theorem wxHolds (h : Mem10 M w b ab kb fb lm lr rr GR c P) {l : Lk} (hl : Sz l) (tx : Int) :
    Calls Tryz.prog 49 #[.pointer (some ⟨b, 0, none⟩), .int .i64 tx, lkV l] w fun e w' => e = .returned (.bool (decide (holderP P.H l = some tx))) ∧ Below w.heap.size w w' := by
  obtain ⟨W, hW⟩ : ∃ W, w.alloc (.cells #[.string l.1, .string l.2] 42) = W := ⟨_, rfl⟩
  have hB : Below w.heap.size w W := by rw [← hW]; exact (Below.refl _ _).alloc (Nat.le_refl _) _
  have HB := Lib.hid hB
  have q0 : W.heap[w.heap.size]? = some (.cells #[.string l.1, .string l.2] 42 (0, 0)) := by rw [← hW]; exact heap_alloc_new _ _
  have q1 : W.cell? ⟨w.heap.size, 0, none⟩ = some (.string l.1) := cell_of_row _ _ 0 _ _ _ q0
  have q2 : W.cell? ⟨w.heap.size, 1, none⟩ = some (.string l.2) := cell_of_row _ _ 1 _ _ _ q0
  have c9 : W.cell? ⟨b, 9, none⟩ = some (.pointer (some ⟨lm, 0, none⟩)) := keep_below h.cells.2.2.2.2.2.2.2.2.2.1 hB
  have CH := Lib.hid (wkHolder ((h.lok.below hB).below (Below.refl _ _).drew) hl)
  have HW := Lib.hid hW
  clear h hW q0 hl hB
  unfold lkV at CH ⊢
  obtain ⟨ho, hh⟩ : ∃ q, holderP P.H l = q := ⟨_, rfl⟩
  rw [hh] at CH
  rw [hh]
  clear hh
  go_enter Tryz.func49, Tryz.ntmps49
  go_upto_region 1 with fail
  rw [HW.out]
  cases ho with
  | none =>
    go_region_held3 (fun w' => w'.cell? ⟨b, 9, none⟩ = some (.pointer (some ⟨lm, 0, none⟩)) ∧ w'.cell? ⟨w.heap.size, 0, none⟩ = some (.string l.1) ∧ w'.cell? ⟨w.heap.size, 1, none⟩ = some (.string l.2)) (first | exact ⟨c9, q1, q2⟩ | exact S2)
      (first | (go_at_call 75; go_loud (refine CH.out.mono ?_; rintro e w2 ⟨rfl, g2⟩; have S2 : w2.cell? ⟨b, 9, none⟩ = some (.pointer (some ⟨lm, 0, none⟩)) ∧ w2.cell? ⟨w.heap.size, 0, none⟩ = some (.string l.1) ∧ w2.cell? ⟨w.heap.size, 1, none⟩ = some (.string l.2) := ⟨keep_below (w := W.drew) c9 g2, keep_below (w := W.drew) q1 g2, keep_below (w := W.drew) q2 g2⟩; have G2 := Lib.hid (below_next HB.out ((Below.refl W.heap.size W).drew.trans g2)); clear g2)))
    go_wp2
    go_ret
    exact ⟨by first | rfl | simp, G2.out⟩
  | some x =>
    go_region_held3 (fun w' => w'.cell? ⟨b, 9, none⟩ = some (.pointer (some ⟨lm, 0, none⟩)) ∧ w'.cell? ⟨w.heap.size, 0, none⟩ = some (.string l.1) ∧ w'.cell? ⟨w.heap.size, 1, none⟩ = some (.string l.2)) (first | exact ⟨c9, q1, q2⟩ | exact S2)
      (first | (go_at_call 75; go_loud (refine CH.out.mono ?_; rintro e w2 ⟨rfl, g2⟩; have S2 : w2.cell? ⟨b, 9, none⟩ = some (.pointer (some ⟨lm, 0, none⟩)) ∧ w2.cell? ⟨w.heap.size, 0, none⟩ = some (.string l.1) ∧ w2.cell? ⟨w.heap.size, 1, none⟩ = some (.string l.2) := ⟨keep_below (w := W.drew) c9 g2, keep_below (w := W.drew) q1 g2, keep_below (w := W.drew) q2 g2⟩; have G2 := Lib.hid (below_next HB.out ((Below.refl W.heap.size W).drew.trans g2)); clear g2)))
    go_wp2
    go_ret
    exact ⟨by simp only [Option.some.injEq, Ending.returned.injEq]; first | rfl | exact (Bool.beq_eq_decide_eq _ _) | (by_cases e : x = tx <;> simp [e]), G2.out⟩
set_option maxHeartbeats 2000000 in
theorem wxConc (h : Mem10 M w b ab kb fb lm lr rr GR c P) (tx : Int) {o : Int} (ho : (Lit.int .i64 o).wf = true) :
    Calls Tryz.prog 132 #[.pointer (some ⟨b, 0, none⟩), .int .i64 tx, .int .i64 o] w fun e w' => e = .returned (.bool (concG P tx o)) ∧ w' = w := by
  have CI := Lib.hid (wxIs h ho)
  have c7 := h.cells.2.2.2.2.2.2.2.1
  obtain ⟨k, hk⟩ : ∃ k, (getA P.kep o).getD ⟨.slice none 0 0, [], 0⟩ = k := ⟨_, rfl⟩
  have hu : ((getA P.kep o).map (·.upto)).getD 0 = k.upto := by rw [← hk]; cases getA P.kep o <;> rfl
  have qK : (Instr.lookup 87 (.map (some kb)) (.int .i64 o) false).run Tryz.prog w = .ok (.agg #[k.val, .int .i64 k.upto]) w := by rw [← hk]; exact look_kep h.kep ho
  unfold concG
  rw [hu]
  obtain ⟨u, hu2⟩ : ∃ u, k.upto = u := ⟨_, rfl⟩
  obtain ⟨v, hv2⟩ : ∃ v, k.val = v := ⟨_, rfl⟩
  rw [hu2, hv2] at qK
  rw [hu2]
  have qF : ∀ W : World, (Instr.field 108 (.agg #[v, .int .i64 u]) 1).run Tryz.prog W = .ok (.int .i64 u) W := fun W => by kernel_rfl
  clear h hk hu hu2 hv2
  cases ha : isAct P o
  · rw [ha] at CI
    go_enter Tryz.func132, Tryz.ntmps132
    go_wp2_with (go_at_call 102; go_loud (refine CI.out.mono ?_; rintro e w1 ⟨rfl, hw⟩; replace hw := hw.symm; subst hw))
    go_ret
    exact ⟨by simp, rfl⟩
  · rw [ha] at CI
    go_enter Tryz.func132, Tryz.ntmps132
    go_wp2_with (go_at_call 102; go_loud (refine CI.out.mono ?_; rintro e w1 ⟨rfl, hw⟩; replace hw := hw.symm; subst hw))
    go_ret
    exact ⟨by simp, rfl⟩
set_option maxHeartbeats 1000000 in
theorem wxBoth (w : World) (x y : Bool) : Calls Tryz.prog 79 #[.agg #[.bool x, .bool y]] w fun e w' => e = .returned (.bool (x && y)) ∧ Below w.heap.size w w' := by
  obtain ⟨W, hW⟩ : ∃ W, w.alloc (.cells #[.bool x, .bool y] 79) = W := ⟨_, rfl⟩
  have HB := Lib.hid (show Below w.heap.size w W by rw [← hW]; exact (Below.refl _ _).alloc (Nat.le_refl _) _)
  have q0 : W.heap[w.heap.size]? = some (.cells #[.bool x, .bool y] 79 (0, 0)) := by rw [← hW]; exact heap_alloc_new _ _
  have q1 : W.cell? ⟨w.heap.size, 0, none⟩ = some (.bool x) := cell_of_row _ _ 0 _ _ _ q0
  have q2 : W.cell? ⟨w.heap.size, 1, none⟩ = some (.bool y) := cell_of_row _ _ 1 _ _ _ q0
  have HW := Lib.hid hW
  clear hW q0
  go_enter Tryz.func79, Tryz.ntmps79
  go_upto_region 1 with fail
  rw [HW.out]
  cases x
  · go_wp2
    go_ret
    exact ⟨rfl, HB.out⟩
  · go_wp2
    go_ret
    exact ⟨by simp, HB.out⟩
end
end Go.Proofs.YtknppiebncdjmaaGreat

namespace Go.Proofs.YtknppiebncdjmaaGreat
set_option maxRecDepth 100000
open Go.RowKit Go.Maps Go.ChangeMaps Go.MapKept

theorem row2_set {w : World} {b : Nat} {t : TypeId} {u v : Value} (h : w.heap[b]? = some (.cells #[u, v] t (0, 0))) (x y : Value) : ((w.setCell ⟨b, 0, none⟩ x).setCell ⟨b, 1, none⟩ y).heap[b]? = some (.cells #[x, y] t (0, 0)) := by
  have h1 := heap_setCell_same w b 0 _ _ x h
  have h2 := heap_setCell_same (w.setCell ⟨b, 0, none⟩ x) b 1 _ _ y h1
  rw [h2]
  rfl
set_option maxHeartbeats 4000000 in
theorem wxWith (w : World) (x y x2 y2 : Bool) : Calls Tryz.prog 145 #[.agg #[.bool x, .bool y], .agg #[.bool x2, .bool y2]] w fun e w' => e = .returned (.agg #[.bool (x || x2), .bool (y || y2)]) ∧ Below w.heap.size w w' := by
  obtain ⟨W1, hW1⟩ : ∃ W, w.alloc (.cells #[.bool x, .bool y] 79) = W := ⟨_, rfl⟩
  have s1 : W1.heap.size = w.heap.size + 1 := by rw [← hW1]; simp
  have b1 : Below w.heap.size w W1 := by rw [← hW1]; exact (Below.refl _ _).alloc (Nat.le_refl _) _
  have q1 : W1.heap[w.heap.size]? = some (.cells #[.bool x, .bool y] 79 (0, 0)) := by rw [← hW1]; exact heap_alloc_new _ _
  obtain ⟨W2, hW2⟩ : ∃ W, W1.alloc (.cells #[.bool x2, .bool y2] 79) = W := ⟨_, rfl⟩
  have s2 : W2.heap.size = w.heap.size + 1 + 1 := by rw [← hW2]; simp [s1]
  have b2 : Below W1.heap.size W1 W2 := by rw [← hW2]; exact (Below.refl _ _).alloc (Nat.le_refl _) _
  have q2 : W2.heap[w.heap.size + 1]? = some (.cells #[.bool x2, .bool y2] 79 (0, 0)) := by rw [← hW2, ← s1]; exact heap_alloc_new _ _
  obtain ⟨W3, hW3⟩ : ∃ W, W2.alloc (.cells #[.bool false, .bool false] 79) = W := ⟨_, rfl⟩
  have b3 : Below W2.heap.size W2 W3 := by rw [← hW3]; exact (Below.refl _ _).alloc (Nat.le_refl _) _
  have q3 : W3.heap[w.heap.size + 1 + 1]? = some (.cells #[.bool false, .bool false] 79 (0, 0)) := by rw [← hW3, ← s2]; exact heap_alloc_new _ _
  have q1' : W3.heap[w.heap.size]? = some (.cells #[.bool x, .bool y] 79 (0, 0)) := (b3.block _ (by omega)).trans ((b2.block _ (by omega)).trans q1)
  have q2' : W3.heap[w.heap.size + 1]? = some (.cells #[.bool x2, .bool y2] 79 (0, 0)) := (b3.block _ (by omega)).trans q2
  have x0 : W3.cell? ⟨w.heap.size, 0, none⟩ = some (.bool x) := cell_of_row _ _ 0 _ _ _ q1'
  have x1 : W3.cell? ⟨w.heap.size, 1, none⟩ = some (.bool y) := cell_of_row _ _ 1 _ _ _ q1'
  have y0 : W3.cell? ⟨w.heap.size + 1, 0, none⟩ = some (.bool x2) := cell_of_row _ _ 0 _ _ _ q2'
  have y1 : W3.cell? ⟨w.heap.size + 1, 1, none⟩ = some (.bool y2) := cell_of_row _ _ 1 _ _ _ q2'
  have z0 : W3.cell? ⟨w.heap.size + 1 + 1, 0, none⟩ = some (.bool false) := cell_of_row _ _ 0 _ _ _ q3
  have z1 : W3.cell? ⟨w.heap.size + 1 + 1, 1, none⟩ = some (.bool false) := cell_of_row _ _ 1 _ _ _ q3
  have f0 : W3.frozen? ⟨w.heap.size + 1 + 1, 0, none⟩ = false := frozen_of_row _ _ _ _ _ q3
  have f1 : W3.frozen? ⟨w.heap.size + 1 + 1, 1, none⟩ = false := frozen_of_row _ _ _ _ _ q3
  have B3 := Lib.hid (show Below w.heap.size w W3 from (b1.trans (b2.mono (by omega))).trans (b3.mono (by omega)))
  have Q3 := Lib.hid q3
  have HS := Lib.hid (And.intro s1 s2)
  have HW1 := Lib.hid hW1
  have HW2 := Lib.hid hW2
  have HW3 := Lib.hid hW3
  clear hW1 hW2 hW3 s1 s2 b1 b2 b3 q1 q2 q3 q1' q2'
  go_enter Tryz.func145, Tryz.ntmps145
  go_upto_region 1 with fail
  rw [HW1.out, HW2.out, HW3.out]
  obtain ⟨V, hV⟩ : ∃ V, (W3.setCell ⟨w.heap.size + 1 + 1, 0, none⟩ (.bool (x || x2))).setCell ⟨w.heap.size + 1 + 1, 1, none⟩ (.bool (y || y2)) = V := ⟨_, rfl⟩
  have BV := Lib.hid (show Below w.heap.size w V by rw [← hV]; exact (B3.out.setCell (by show w.heap.size ≤ w.heap.size + 1 + 1; omega) _).setCell (by show w.heap.size ≤ w.heap.size + 1 + 1; omega) _)
  have r0 : V.heap[w.heap.size + 1 + 1]? = some (.cells #[.bool (x || x2), .bool (y || y2)] 79 (0, 0)) := by rw [← hV]; exact row2_set Q3.out _ _
  have v0 : V.cell? ⟨w.heap.size + 1 + 1, 0, none⟩ = some (.bool (x || x2)) := cell_of_row _ _ 0 _ _ _ r0
  have v1 : V.cell? ⟨w.heap.size + 1 + 1, 1, none⟩ = some (.bool (y || y2)) := cell_of_row _ _ 1 _ _ _ r0
  have HV := Lib.hid hV
  clear hV r0
  cases x <;> cases y <;> (
    go_wp2
    first
      | rw [HV.out]
      | (simp only [Bool.true_or, Bool.false_or] at HV ⊢; rw [HV.out])
    refine bodyPost_ret (v := .agg #[.bool _, .bool _]) (by simp [results, Tryz.results145, go_sem, v0, v1]; first | done | rfl) rfl ⟨rfl, BV.out⟩)
end Go.Proofs.YtknppiebncdjmaaGreat

namespace Go.Proofs.YtknppiebncdjmaaGreat
set_option maxRecDepth 100000
open Go.RowKit Go.Maps Go.ChangeMaps Go.MapKept

section
variable {M : MF} {w w' : World} {b ab kb fb lm lr rr : Nat} {GR : Nat → Prop} {c : Cp10} {P : Pg}
theorem Mem10.ne (h : Mem10 M w b ab kb fb lm lr rr GR c P) : (b ≠ ab ∧ b ≠ kb ∧ b ≠ fb ∧ b ≠ lm ∧ b ≠ lr) ∧ (ab ≠ kb ∧ ab ≠ fb ∧ ab ≠ lm ∧ ab ≠ lr) ∧ (kb ≠ fb ∧ kb ≠ lm ∧ kb ≠ lr) ∧ (fb ≠ lm ∧ fb ≠ lr) ∧ lm ≠ lr := by
  have := h.nod
  simp only [List.nodup_cons, List.mem_cons, List.not_mem_nil, or_false, not_or, List.nodup_nil, not_false_eq_true, and_true] at this
  obtain ⟨⟨a1, a2, a3, a4, a5⟩, ⟨b1, b2, b3, b4⟩, ⟨c1, c2, c3⟩, ⟨d1, d2⟩, e1⟩ := this
  exact ⟨⟨a1, a2, a3, a4, a5⟩, ⟨b1, b2, b3, b4⟩, ⟨c1, c2, c3⟩, ⟨d1, d2⟩, e1⟩
theorem Mem10.blt (h : Mem10 M w b ab kb fb lm lr rr GR c P) : b < w.heap.size ∧ ab < w.heap.size ∧ kb < w.heap.size ∧ fb < w.heap.size ∧ lm < w.heap.size ∧ lr < w.heap.size :=
  ⟨(Array.getElem?_eq_some_iff.1 h.blk).1, h.act.lt, h.kep.lt, h.flg.lt, (Array.getElem?_eq_some_iff.1 h.lok.blk).1, h.lok.map.lt⟩
theorem Mem10.rows_kept (h : Mem10 M w b ab kb fb lm lr rr GR c P) {x : Nat} (hx : x ∈ [b, ab, kb, fb, lr]) (o : Out (fun k => k = x) w w') : ∀ p ∈ P.kep, KpOk w' p.2 := fun p hp =>
  (h.row p hp).kept (fun g hg => o.block g ((h.row p hp).lt g hg) fun e => (h.nrow p hp g hg).1 (by rw [show g = x from e]; exact hx)) o.size
theorem Mem10.notes_kept (I : Api9 M) (h : Mem10 M w b ab kb fb lm lr rr GR c P) {x : Nat} (hx : x ∈ [b, ab, kb, fb, lm, lr]) (o : Out (fun k => k = x) w w') : M w' GR rr c.reads P.L := I.stays h.rds (o.mono fun k _ e hg => h.ngr x hx (by rw [← show k = x from e]; exact hg))
theorem Mem10.setFlg (I : Api9 M) (h : Mem10 M w b ab kb fb lm lr rr GR c P) (o : Out (fun k => k = fb) w w') {F' : List (Int × (Bool × Bool))} (hm : MapM KI w' fb (flgM F')) : Mem10 M w' b ab kb fb lm lr rr GR c { P with flg := F' } := by
  obtain ⟨⟨a1, a2, a3, a4, a5⟩, ⟨b1, b2, b3, b4⟩, ⟨c1, c2, c3⟩, ⟨d1, d2⟩, e1⟩ := h.ne
  obtain ⟨l1, l2, l3, l4, l5, l6⟩ := h.blt
  have nk : M w' GR rr c.reads P.L := h.notes_kept I (x := fb) (by simp) o
  have rk := h.rows_kept (x := fb) (by simp) o
  exact ⟨(o.block b l1 a3).trans h.blk, h.act.block (o.block ab l2 b2), h.kep.block (o.block kb l3 c1), hm, h.lok.kept (o.block lm l5 (Ne.symm d1)) (o.block lr l6 (Ne.symm d2)), nk, rk, h.nod, h.ngr, h.nrow⟩
theorem Mem10.setAct (I : Api9 M) (h : Mem10 M w b ab kb fb lm lr rr GR c P) (o : Out (fun k => k = ab) w w') {A' : List (Int × Int)} (hm : MapM KI w' ab (actM A')) : Mem10 M w' b ab kb fb lm lr rr GR c { P with act := A' } := by
  obtain ⟨⟨a1, a2, a3, a4, a5⟩, ⟨b1, b2, b3, b4⟩, ⟨c1, c2, c3⟩, ⟨d1, d2⟩, e1⟩ := h.ne
  obtain ⟨l1, l2, l3, l4, l5, l6⟩ := h.blt
  have nk : M w' GR rr c.reads P.L := h.notes_kept I (x := ab) (by simp) o
  have rk := h.rows_kept (x := ab) (by simp) o
  exact ⟨(o.block b l1 a1).trans h.blk, hm, h.kep.block (o.block kb l3 (Ne.symm b1)), h.flg.block (o.block fb l4 (Ne.symm b2)), h.lok.kept (o.block lm l5 (Ne.symm b3)) (o.block lr l6 (Ne.symm b4)), nk, rk, h.nod, h.ngr, h.nrow⟩
theorem Mem10.setKep (I : Api9 M) (h : Mem10 M w b ab kb fb lm lr rr GR c P) (o : Out (fun k => k = kb) w w') {K' : List (Int × KpR)} (hm : MapM KI w' kb (kepM K')) (hK : ∀ p ∈ K', p ∈ P.kep ∨ (KpOk w' p.2 ∧ ∀ g, BlV p.2.val g → g ∉ [b, ab, kb, fb, lr] ∧ ¬ GR g)) : Mem10 M w' b ab kb fb lm lr rr GR c { P with kep := K' } := by
  obtain ⟨⟨a1, a2, a3, a4, a5⟩, ⟨b1, b2, b3, b4⟩, ⟨c1, c2, c3⟩, ⟨d1, d2⟩, e1⟩ := h.ne
  obtain ⟨l1, l2, l3, l4, l5, l6⟩ := h.blt
  have nk : M w' GR rr c.reads P.L := h.notes_kept I (x := kb) (by simp) o
  have rk := h.rows_kept (x := kb) (by simp) o
  exact ⟨(o.block b l1 a2).trans h.blk, h.act.block (o.block ab l2 b1), hm, h.flg.block (o.block fb l4 (Ne.symm c1)), h.lok.kept (o.block lm l5 (Ne.symm c2)) (o.block lr l6 (Ne.symm c3)), nk, fun p hp => (hK p hp).elim (fun h1 => rk p h1) (fun h1 => h1.1), h.nod, h.ngr, fun p hp => (hK p hp).elim (fun h1 => h.nrow p h1) (fun h1 => h1.2)⟩
theorem Mem10.setLok (I : Api9 M) (h : Mem10 M w b ab kb fb lm lr rr GR c P) (o : Out (fun k => k = lr) w w') {H' : List Hd} (hm : MG w' lm lr c.locks H') : Mem10 M w' b ab kb fb lm lr rr GR c { P with H := H' } := by
  obtain ⟨⟨a1, a2, a3, a4, a5⟩, ⟨b1, b2, b3, b4⟩, ⟨c1, c2, c3⟩, ⟨d1, d2⟩, e1⟩ := h.ne
  obtain ⟨l1, l2, l3, l4, l5, l6⟩ := h.blt
  have nk : M w' GR rr c.reads P.L := h.notes_kept I (x := lr) (by simp) o
  have rk := h.rows_kept (x := lr) (by simp) o
  exact ⟨(o.block b l1 a5).trans h.blk, h.act.block (o.block ab l2 b4), h.kep.block (o.block kb l3 c3), h.flg.block (o.block fb l4 d2), hm, nk, rk, h.nod, h.ngr, h.nrow⟩
theorem Mem10.setBlk (I : Api9 M) (h : Mem10 M w b ab kb fb lm lr rr GR c P) (o : Out (fun k => k = b) w w') {now begun : Int} (hb : w'.heap[b]? = some (.cells #[.int .i64 c.act, .int .i64 c.kept, .int .i64 (c.reads : Nat), .int .i64 c.locks, .int .i64 now, .int .i64 begun, .map (some ab), .map (some kb), .map (some fb), .pointer (some ⟨lm, 0, none⟩), .pointer (some ⟨rr, 0, none⟩)] 92 (0, 0))) : Mem10 M w' b ab kb fb lm lr rr GR c { P with now := now, begun := begun } := by
  obtain ⟨⟨a1, a2, a3, a4, a5⟩, ⟨b1, b2, b3, b4⟩, ⟨c1, c2, c3⟩, ⟨d1, d2⟩, e1⟩ := h.ne
  obtain ⟨l1, l2, l3, l4, l5, l6⟩ := h.blt
  have nk : M w' GR rr c.reads P.L := h.notes_kept I (x := b) (by simp) o
  have rk := h.rows_kept (x := b) (by simp) o
  exact ⟨hb, h.act.block (o.block ab l2 (Ne.symm a1)), h.kep.block (o.block kb l3 (Ne.symm a2)), h.flg.block (o.block fb l4 (Ne.symm a3)), h.lok.kept (o.block lm l5 (Ne.symm a4)) (o.block lr l6 (Ne.symm a5)), nk, rk, h.nod, h.ngr, h.nrow⟩
theorem Mem10.putNow (I : Api9 M) (h : Mem10 M w b ab kb fb lm lr rr GR c P) (n : Int) : Mem10 M (w.setCell ⟨b, 4, none⟩ (.int .i64 n)) b ab kb fb lm lr rr GR c { P with now := n } :=
  h.setBlk I (Out.setCell (F := fun k => k = b) (Out.refl _ w) (.inl rfl) _) (by rw [heap_setCell_same w b 4 _ _ _ h.blk]; rfl)
theorem Mem10.putBegun (I : Api9 M) (h : Mem10 M w b ab kb fb lm lr rr GR c P) (n : Int) : Mem10 M (w.setCell ⟨b, 5, none⟩ (.int .i64 n)) b ab kb fb lm lr rr GR c { P with begun := n } :=
  h.setBlk I (Out.setCell (F := fun k => k = b) (Out.refl _ w) (.inl rfl) _) (by rw [heap_setCell_same w b 5 _ _ _ h.blk]; rfl)
end
end Go.Proofs.YtknppiebncdjmaaGreat

namespace Go.Proofs.YtknppiebncdjmaaGreat
set_option maxRecDepth 100000
open Go.RowKit Go.Maps Go.ChangeMaps Go.MapKept

section
variable {M : MF} {w : World} {b ab kb fb lm lr rr : Nat} {GR : Nat → Prop} {c : Cp10} {P : Pg}
set_option maxHeartbeats 1000000 in
theorem wxNow (h : Mem10 M w b ab kb fb lm lr rr GR c P) (hc : PgOk c P) :
    Calls Tryz.prog 34 #[.pointer (some ⟨b, 0, none⟩)] w fun e w' => e = .returned (.int .i64 P.now) ∧ w' = w := by
  have CM := Lib.hid (wxMade h hc)
  have c4 := h.cells.2.2.2.2.1
  clear h hc
  go_enter Tryz.func34, Tryz.ntmps34
  go_wp2_with (go_at_call 40; go_loud (refine CM.out.mono ?_; rintro e w1 ⟨rfl, hw⟩; replace hw := hw.symm; subst hw))
  go_ret
  exact ⟨rfl, rfl⟩
set_option maxHeartbeats 2000000 in
theorem wxSnap (h : Mem10 M w b ab kb fb lm lr rr GR c P) (hc : PgOk c P) {x : Int} (hx : (Lit.int .i64 x).wf = true) :
    Calls Tryz.prog 30 #[.pointer (some ⟨b, 0, none⟩), .int .i64 x] w fun e w' => e = .returned (.tuple #[.int .i64 ((getA P.act x).getD 0), .int .i64 (refG P x)]) ∧ w' = w := by
  have CR := Lib.hid (wxRef h hc hx)
  have c6 := h.cells.2.2.2.2.2.2.1
  have qA : (Instr.lookup 86 (.map (some ab)) (.int .i64 x) false).run Tryz.prog w = .ok (.int .i64 ((getA P.act x).getD 0)) w := look_act h.act hx
  have HN := Lib.hid (show isAct P x = false → (getA P.act x).getD 0 = 0 from fun e => by unfold isAct at e; cases e2 : getA P.act x with | none => rfl | some v => rw [e2] at e; cases e)
  clear h
  unfold refG at CR ⊢
  cases ha : isAct P x
  · rw [ha] at CR
    have i1 : ¬ ((101 : Int) = 0) := by decide
    rw [HN.out ha]
    go_enter Tryz.func30, Tryz.ntmps30
    go_wp2_with (go_at_call 48; go_loud (refine CR.out.mono ?_; rintro e w1 ⟨rfl, hw⟩; replace hw := hw.symm; subst hw))
    refine bodyPost_ret (v := .tuple #[.int .i64 0, .int .i64 101]) (by simp [results, Tryz.results30, go_sem]) rfl ⟨rfl, rfl⟩
  · rw [ha] at CR
    go_enter Tryz.func30, Tryz.ntmps30
    go_wp2_with (go_at_call 48; go_loud (refine CR.out.mono ?_; rintro e w1 ⟨rfl, hw⟩; replace hw := hw.symm; subst hw))
    refine bodyPost_ret (v := .tuple #[.int .i64 ((getA P.act x).getD 0), .int .i64 0]) (by simp [results, Tryz.results30, go_sem]) rfl ⟨rfl, rfl⟩
set_option maxHeartbeats 4000000 in
theorem wxFlags (I : Api9 M) (h : Mem10 M w b ab kb fb lm lr rr GR c P) (hc : PgOk c P) {x : Int} (hx : (Lit.int .i64 x).wf = true) :
    Calls Tryz.prog 29 #[.pointer (some ⟨b, 0, none⟩), .int .i64 x] w fun e w' => e = .returned (.tuple #[flagV (if isAct P x = true then flgOf P x else (false, false)), .int .i64 (refG P x)]) ∧ Below w.heap.size w w' := by
  obtain ⟨W, hW⟩ : ∃ W, w.alloc (.cells #[.bool false, .bool false] 79) = W := ⟨_, rfl⟩
  have hB : Below w.heap.size w W := by rw [← hW]; exact (Below.refl _ _).alloc (Nat.le_refl _) _
  have q0 : W.heap[w.heap.size]? = some (.cells #[.bool false, .bool false] 79 (0, 0)) := by rw [← hW]; exact heap_alloc_new _ _
  have h2 := h.below I hB
  have CR := Lib.hid (wxRef h2 hc hx)
  have c8 := h2.cells.2.2.2.2.2.2.2.2.1
  have z0 : W.cell? ⟨w.heap.size, 0, none⟩ = some (.bool false) := cell_of_row _ _ 0 _ _ _ q0
  have z1 : W.cell? ⟨w.heap.size, 1, none⟩ = some (.bool false) := cell_of_row _ _ 1 _ _ _ q0
  have f0 : W.frozen? ⟨w.heap.size, 0, none⟩ = false := frozen_of_row _ _ _ _ _ q0
  have f1 : W.frozen? ⟨w.heap.size, 1, none⟩ = false := frozen_of_row _ _ _ _ _ q0
  obtain ⟨f, hf⟩ : ∃ f, flgOf P x = f := ⟨_, rfl⟩
  have qF : (Instr.lookup 88 (.map (some fb)) (.int .i64 x) false).run Tryz.prog W = .ok (.agg #[.bool f.1, .bool f.2]) W := by rw [← hf]; exact look_flg h2.flg hx
  have HB := Lib.hid hB
  have HW := Lib.hid hW
  have Q0 := Lib.hid q0
  clear h h2 hB hW q0
  unfold refG flagV at *
  rw [hf]
  clear hf
  cases ha : isAct P x
  · simp only [ha] at CR
    have i1 : ¬ ((101 : Int) = 0) := by decide
    obtain ⟨V, hV⟩ : ∃ V, (W.setCell ⟨w.heap.size, 0, none⟩ (.bool false)).setCell ⟨w.heap.size, 1, none⟩ (.bool false) = V := ⟨_, rfl⟩
    have BV := Lib.hid (show Below w.heap.size w V by rw [← hV]; exact (HB.out.setCell (Nat.le_refl _) _).setCell (Nat.le_refl _) _)
    have r0 : V.heap[w.heap.size]? = some (.cells #[.bool false, .bool false] 79 (0, 0)) := by rw [← hV]; exact row2_set Q0.out _ _
    have v0 : V.cell? ⟨w.heap.size, 0, none⟩ = some (.bool false) := cell_of_row _ _ 0 _ _ _ r0
    have v1 : V.cell? ⟨w.heap.size, 1, none⟩ = some (.bool false) := cell_of_row _ _ 1 _ _ _ r0
    have HV := Lib.hid hV
    clear hV r0
    go_enter Tryz.func29, Tryz.ntmps29
    go_upto_region 1 with fail
    rw [HW.out]
    go_wp2_with (go_at_call 48; go_loud (refine CR.out.mono ?_; rintro e w1 ⟨rfl, hw⟩; replace hw := hw.symm; subst hw))
    rw [HV.out]
    refine bodyPost_ret (v := .tuple #[.agg #[.bool false, .bool false], .int .i64 101]) (by simp [results, Tryz.results29, go_sem, v0, v1]) rfl ⟨rfl, BV.out⟩
  · simp only [ha] at CR
    obtain ⟨V, hV⟩ : ∃ V, (W.setCell ⟨w.heap.size, 0, none⟩ (.bool f.1)).setCell ⟨w.heap.size, 1, none⟩ (.bool f.2) = V := ⟨_, rfl⟩
    have BV := Lib.hid (show Below w.heap.size w V by rw [← hV]; exact (HB.out.setCell (Nat.le_refl _) _).setCell (Nat.le_refl _) _)
    have r0 : V.heap[w.heap.size]? = some (.cells #[.bool f.1, .bool f.2] 79 (0, 0)) := by rw [← hV]; exact row2_set Q0.out _ _
    have v0 : V.cell? ⟨w.heap.size, 0, none⟩ = some (.bool f.1) := cell_of_row _ _ 0 _ _ _ r0
    have v1 : V.cell? ⟨w.heap.size, 1, none⟩ = some (.bool f.2) := cell_of_row _ _ 1 _ _ _ r0
    have HV := Lib.hid hV
    clear hV r0
    go_enter Tryz.func29, Tryz.ntmps29
    go_upto_region 1 with fail
    rw [HW.out]
    go_wp2_with (go_at_call 48; go_loud (refine CR.out.mono ?_; rintro e w1 ⟨rfl, hw⟩; replace hw := hw.symm; subst hw))
    rw [HV.out]
    refine bodyPost_ret (v := .tuple #[.agg #[.bool f.1, .bool f.2], .int .i64 0]) (by simp [results, Tryz.results29, go_sem, v0, v1]) rfl ⟨rfl, BV.out⟩
set_option maxHeartbeats 4000000 in
theorem wxForget (I : Api9 M) (h : Mem10 M w b ab kb fb lm lr rr GR c P) {x : Int} (hx : (Lit.int .i64 x).wf = true) :
    Calls Tryz.prog 81 #[.pointer (some ⟨b, 0, none⟩), .int .i64 x] w fun e w' => e = .returned (.tuple #[]) ∧ ∃ GR', Mem10 M w' b ab kb fb lm lr rr GR' c (forgetG P x) ∧ (∀ k, GR' k → GR k ∨ w.heap.size ≤ k) ∧ Out (fun k => k = fb ∨ GR k) w w' := by
  obtain ⟨-, -, -, -, -, -, -, -, c8, -, c10⟩ := h.cells
  obtain ⟨q, hq⟩ : ∃ q : Int, (if x < 1 then 1 else 0) = q := ⟨_, rfl⟩
  have cd := I.drop h.rds x hx
  rw [hq] at cd
  change Calls _ _ _ _ (fun e w' => e = .returned (.int .i64 q) ∧ ∃ G', M w' G' rr c.reads (dropN P.L x) ∧ _) at cd
  have CD := Lib.hid cd
  clear cd hq
  have HM := Lib.hid h
  have HX := Lib.hid (show KI.ok x from hx)
  have HC := Lib.hid (show b < w.heap.size ∧ ¬ GR b from ⟨h.blt.1, h.ngr b (by simp)⟩)
  clear h
  go_enter Tryz.func81, Tryz.ntmps81
  go_wp2_with (first
    | (go_at_call 129; go_loud (refine CD.out.mono ?_; rintro e w2 ⟨rfl, GR', m2, g2, o2⟩; have M2 := Lib.hid (HM.out.notes I m2 g2 o2); have G2 := Lib.hid g2; have O2 := Lib.hid o2; replace c8 := o2.cell c8 HC.out.2; clear m2 g2 o2 c10))
    | (at_delete; go_loud (refine wp_delM KI (by rfl) (.tmp 13) (.tmp 14) (by rfl) (by rfl) M2.out.flg Tryz.underlying88 x HX.out (by rfl) ?_; intro w3 m3 g3 s3; have M3 := Lib.hid m3; have G3 := Lib.hid g3; clear m3 g3 s3)))
  go_end0
  have o3 : Out (fun k => k = fb) w2 w3 := (Out.refl _ w2).grown G3.out (fun k e => .inl (Option.some.inj e).symm)
  have m4 := M2.out.setFlg I o3 (F' := delA P.flg x) (by have := M3.out; unfold flgM at this ⊢; rw [← enc_del]; exact this)
  exact ⟨rfl, GR', m4, G2.out, (O2.out.mono fun _ _ h => .inr h).then (o3.mono fun _ _ h => .inl h)⟩
end
end Go.Proofs.YtknppiebncdjmaaGreat

namespace Go.Proofs
set_option maxRecDepth 100000
open Go.Shelf
def Tryz.searchL_ren : Go.Shelf.Ren := ⟨fun | 16 => 157 | n => n, fun | 3 => 3 | 35 => 208 | 4 => 4 | 38 => 206 | n => n, fun | n => n⟩
theorem Tryz.searchL : Go.Proofs.SlLaysO.n16 Tryz.prog Tryz.searchL_ren := {
  mixed := by kernel_rfl
  f16 := Tryz.func157.trans (congrArg some (by kernel_rfl))
  t3 := Tryz.underlying3
  a3 := Tryz.isAgg3
  z3 := Tryz.sizeOf3
  v3 := Tryz.zeroValue3
  t4 := Tryz.underlying4
  a4 := Tryz.isAgg4
  z4 := Tryz.sizeOf4
  v4 := Tryz.zeroValue4
  t35 := Tryz.underlying208
  a35 := Tryz.isAgg208
  z35 := Tryz.sizeOf208
  v35 := Tryz.zeroValue208
  t38 := Tryz.underlying206
  a38 := Tryz.isAgg206
  z38 := Tryz.sizeOf206
  v38 := Tryz.zeroValue206 }
end Go.Proofs

namespace Go.Proofs.YtknppiebncdjmaaGreat
set_option maxRecDepth 100000
open Go.RowKit

set_option maxHeartbeats 4000000 in
theorem wpMay (w : World) (x : Rd) : Calls Tryz.prog 96 #[rdV x] w fun e w' => e = .returned (.bool (mayP x)) ∧ Below w.heap.size w w' := by
  obtain ⟨tb, kd, lo, hi⟩ := x
  obtain ⟨W, hW⟩ : ∃ W, w.alloc (.cells #[.string tb, .int .i64 kd, .string lo, .string hi] 114) = W := ⟨_, rfl⟩
  have HW := Lib.hid hW
  have HB := Lib.hid (show Below w.heap.size w W by rw [← hW]; exact below_alloc9 _ _)
  have q := rd_box w ⟨tb, kd, lo, hi⟩
  rw [hW] at q
  have x1 : W.cell? ⟨w.heap.size, 1, none⟩ = some (.int .i64 kd) := cell_of_row _ _ 1 _ _ _ q
  have x2 : W.cell? ⟨w.heap.size, 2, none⟩ = some (.string lo) := cell_of_row _ _ 2 _ _ _ q
  have x3 : W.cell? ⟨w.heap.size, 3, none⟩ = some (.string hi) := cell_of_row _ _ 3 _ _ _ q
  clear q hW
  unfold rdV
  by_cases k1 : kd = 1
  · subst k1
    cases e1 : (hi.toList == [])
    all_goals
      have HM := Lib.hid (show mayP ⟨tb, 1, lo, hi⟩ = _ by rw [may_1, e1])
      go_enter Tryz.func96, Tryz.ntmps96
      go_upto_region 1 with fail
      rw [HW.out]
      go_wp2
      go_ret
      exact ⟨by rw [HM.out] <;> rfl, HB.out⟩
  · have k1' : (kd == 1) = false := by simpa using k1
    by_cases k2 : kd = 2
    · subst k2
      cases e1 : (hi.toList == []) <;> cases e2 : Op.bytesLess hi.toList lo.toList <;> cases e3 : (hi.toList == lo.toList)
      all_goals
        have HM := Lib.hid (show mayP ⟨tb, 2, lo, hi⟩ = _ by rw [may_2, e1, e2, e3])
        go_enter Tryz.func96, Tryz.ntmps96
        go_upto_region 1 with fail
        rw [HW.out]
        go_wp2
        go_ret
        exact ⟨by rw [HM.out] <;> rfl, HB.out⟩
    · have k2' : (kd == 2) = false := by simpa using k2
      by_cases k3 : kd = 3
      · subst k3
        cases e1 : (lo.toList == []) <;> cases e2 : (hi.toList == [])
        all_goals
          have HM := Lib.hid (show mayP ⟨tb, 3, lo, hi⟩ = _ by rw [may_3, e1, e2])
          go_enter Tryz.func96, Tryz.ntmps96
          go_upto_region 1 with fail
          rw [HW.out]
          go_wp2
          go_ret
          exact ⟨by rw [HM.out] <;> rfl, HB.out⟩
      · have k3' : (kd == 3) = false := by simpa using k3
        have HM := Lib.hid (show mayP ⟨tb, kd, lo, hi⟩ = false by unfold mayP; rw [if_neg k1, if_neg k2, if_neg k3])
        clear k1 k2 k3
        go_enter Tryz.func96, Tryz.ntmps96
        go_upto_region 1 with fail
        rw [HW.out]
        go_wp2
        go_ret
        exact ⟨by rw [HM.out] <;> rfl, HB.out⟩
set_option maxHeartbeats 4000000 in
theorem wpSpan (w : World) (x : Rd) (hz : x.lo.size ≤ 140737488355328) : Calls Tryz.prog 180 #[rdV x] w fun e w' => e = .returned (.tuple #[.string (endsP x).1, .string (endsP x).2.1]) ∧ Below w.heap.size w w' := by
  obtain ⟨tb, kd, lo, hi⟩ := x
  dsimp only at hz
  obtain ⟨W, hW⟩ : ∃ W, w.alloc (.cells #[.string tb, .int .i64 kd, .string lo, .string hi] 114) = W := ⟨_, rfl⟩
  have HW := Lib.hid hW
  have HB := Lib.hid (show Below w.heap.size w W by rw [← hW]; exact below_alloc9 _ _)
  have q := rd_box w ⟨tb, kd, lo, hi⟩
  rw [hW] at q
  have Q := Lib.hid q
  have x1 : W.cell? ⟨w.heap.size, 1, none⟩ = some (.int .i64 kd) := cell_of_row _ _ 1 _ _ _ q
  have x2 : W.cell? ⟨w.heap.size, 2, none⟩ = some (.string lo) := cell_of_row _ _ 2 _ _ _ q
  have x3 : W.cell? ⟨w.heap.size, 3, none⟩ = some (.string hi) := cell_of_row _ _ 3 _ _ _ q
  have f3 : W.frozen? ⟨w.heap.size, 3, none⟩ = false := frozen_of_row _ _ _ _ _ q
  clear q hW
  unfold rdV
  by_cases k1 : kd = 1
  · subst k1
    have HM := Lib.hid (show endsP ⟨tb, 1, lo, hi⟩ = (lo, lo ++ ⟨#[0]⟩, true) from rfl)
    have hs : ¬ 9223372036854775807 < lo.size + 1 := by omega
    obtain ⟨V, hV⟩ : ∃ V, W.setCell ⟨w.heap.size, 3, none⟩ (.string (lo ++ ⟨#[0]⟩)) = V := ⟨_, rfl⟩
    have HV := Lib.hid hV
    have v2 : V.cell? ⟨w.heap.size, 2, none⟩ = some (.string lo) := by rw [← hV]; exact (World.cell?_setCell_other _ _ _ _ (by simp)).trans x2
    have v3 : V.cell? ⟨w.heap.size, 3, none⟩ = some (.string (lo ++ ⟨#[0]⟩)) := by rw [← hV]; exact World.cell?_setCell_same _ _ _ x3
    have BV := Lib.hid (show Below w.heap.size w V by rw [← hV]; exact HB.out.setCell (Nat.le_refl _) _)
    clear hV
    go_enter Tryz.func180, Tryz.ntmps180
    go_upto_region 1 with fail
    rw [HW.out]
    go_upto_region 5 with fail
    rw [HV.out]
    clear x1 x2 x3 f3
    go_quiet (fail)
    go_wp2
    refine bodyPost_ret (v := .tuple #[.string lo, .string (lo ++ ⟨#[0]⟩)]) (by simp [results, Tryz.results180, go_sem]) rfl ⟨by rw [HM.out], below_next BV.out (below_drewN9 _ _)⟩
  · have k1' : (kd == 1) = false := by simpa using k1
    by_cases k2 : kd = 2
    · subst k2
      have HM := Lib.hid (show endsP ⟨tb, 2, lo, hi⟩ = _ by rw [ends_2])
      go_enter Tryz.func180, Tryz.ntmps180
      go_upto_region 1 with fail
      rw [HW.out]
      go_upto_region 5 with fail
      go_quiet (fail)
      go_wp2
      refine bodyPost_ret (v := .tuple #[.string lo, .string hi]) (by simp [results, Tryz.results180, go_sem]) rfl ⟨by rw [HM.out] <;> rfl, below_next HB.out (below_drewN9 _ _)⟩
    · have k2' : (kd == 2) = false := by simpa using k2
      have HM := Lib.hid (show endsP ⟨tb, kd, lo, hi⟩ = (⟨#[]⟩, ⟨#[]⟩, false) by unfold endsP; rw [if_neg k1, if_neg k2])
      clear k1 k2
      go_enter Tryz.func180, Tryz.ntmps180
      go_upto_region 6 with fail
      rw [HW.out]
      go_wp2
      refine bodyPost_ret (v := .tuple #[.string ⟨#[]⟩, .string ⟨#[]⟩]) (by simp [results, Tryz.results180, go_sem]) rfl ⟨by rw [HM.out], HB.out⟩
theorem ends_d (x : Rd) : (endsP x).2.2 = !((endsP x).2.1.toList == []) := by
  unfold endsP
  by_cases h1 : x.kd = 1
  · rw [if_pos h1]
    obtain ⟨l⟩ := x.lo
    simp [ByteArray.toList_eq]
  · rw [if_neg h1]
    by_cases h2 : x.kd = 2
    · rw [if_pos h2]; rfl
    · rw [if_neg h2]; simp [ByteArray.toList_eq]
set_option maxHeartbeats 8000000 in
theorem wpCovers (w : World) (a b : Rd) (ha : a.lo.size ≤ 140737488355328) (hb : b.lo.size ≤ 140737488355328) : Calls Tryz.prog 142 #[rdV a, rdV b] w fun e w' => e = .returned (.bool (coversP a b)) ∧ Below w.heap.size w w' := by
  obtain ⟨W1, hW1⟩ : ∃ W, w.alloc (.cells #[.string a.tb, .int .i64 a.kd, .string a.lo, .string a.hi] 114) = W := ⟨_, rfl⟩
  obtain ⟨W, hW⟩ : ∃ W, W1.alloc (.cells #[.string b.tb, .int .i64 b.kd, .string b.lo, .string b.hi] 114) = W := ⟨_, rfl⟩
  have HW1 := Lib.hid hW1
  have HW := Lib.hid hW
  have b1 : Below w.heap.size w W1 := by rw [← hW1]; exact below_alloc9 _ _
  have b2 : Below W1.heap.size W1 W := by rw [← hW]; exact below_alloc9 _ _
  have HB := Lib.hid (below_next b1 b2)
  have hz1 : W1.heap.size = w.heap.size + 1 := by rw [← hW1]; simp
  have q1 := rd_box w a
  rw [hW1] at q1
  have q1 := (b2.block _ (by omega)).trans q1
  have q2 := rd_box W1 b
  rw [hW, hz1] at q2
  have Q1 := Lib.hid q1
  have Q2 := Lib.hid q2
  have x0 : W.cell? ⟨w.heap.size, 0, none⟩ = some (.string a.tb) := cell_of_row _ _ 0 _ _ _ q1
  have x1 : W.cell? ⟨w.heap.size, 1, none⟩ = some (.int .i64 a.kd) := cell_of_row _ _ 1 _ _ _ q1
  have x2 : W.cell? ⟨w.heap.size, 2, none⟩ = some (.string a.lo) := cell_of_row _ _ 2 _ _ _ q1
  have x3 : W.cell? ⟨w.heap.size, 3, none⟩ = some (.string a.hi) := cell_of_row _ _ 3 _ _ _ q1
  have y0 : W.cell? ⟨w.heap.size + 1, 0, none⟩ = some (.string b.tb) := cell_of_row _ _ 0 _ _ _ q2
  have y1 : W.cell? ⟨w.heap.size + 1, 1, none⟩ = some (.int .i64 b.kd) := cell_of_row _ _ 1 _ _ _ q2
  have y2 : W.cell? ⟨w.heap.size + 1, 2, none⟩ = some (.string b.lo) := cell_of_row _ _ 2 _ _ _ q2
  have y3 : W.cell? ⟨w.heap.size + 1, 3, none⟩ = some (.string b.hi) := cell_of_row _ _ 3 _ _ _ q2
  have CA := Lib.hid (fun W => wpMay W a)
  have CB := Lib.hid (fun W => wpMay W b)
  have EA := Lib.hid (fun W => wpSpan W a ha)
  have EB := Lib.hid (fun W => wpSpan W b hb)
  have da := ends_d a
  have db := ends_d b
  obtain ⟨ma, hma⟩ : ∃ m, mayP a = m := ⟨_, rfl⟩
  obtain ⟨mb, hmb⟩ : ∃ m, mayP b = m := ⟨_, rfl⟩
  obtain ⟨ea, hea⟩ : ∃ m, endsP a = m := ⟨_, rfl⟩
  obtain ⟨eb, heb⟩ : ∃ m, endsP b = m := ⟨_, rfl⟩
  rw [hma] at CA
  rw [hmb] at CB
  rw [hea] at EA da
  rw [heb] at EB db
  have HC : coversP a b = (ma && mb && (a.tb.toList == b.tb.toList) && !klB eb.1 ea.1 && (!ea.2.2 || (eb.2.2 && !klB ea.2.1 eb.2.1))) := by unfold coversP; rw [hma, hmb, hea, heb]
  obtain ⟨f1, t1, d1⟩ := ea
  obtain ⟨f2, t2, d2⟩ := eb
  dsimp only at HC EA EB da db
  subst da db
  have HC := Lib.hid HC
  unfold rdV at CA CB EA EB
  clear hW1 hW b1 b2 hz1 q1 q2 hma hmb hea heb ha hb
  unfold rdV
  cases ma
  · have HM := Lib.hid (show coversP a b = false by rw [HC.out]; rfl)
    go_enter Tryz.func142, Tryz.ntmps142
    go_upto_region 1 with fail
    rw [HW1.out, HW.out]
    go_wp2_with (go_at_call 96; refine (CA.out _).mono ?_; rintro e w3 ⟨rfl, g3⟩; have G3 := Lib.hid (below_next HB.out g3); clear g3 CA)
    go_ret
    exact ⟨by rw [HM.out] <;> rfl, G3.out⟩
  · cases mb
    · have HM := Lib.hid (show coversP a b = false by rw [HC.out]; rfl)
      go_enter Tryz.func142, Tryz.ntmps142
      go_upto_region 1 with fail
      rw [HW1.out, HW.out]
      go_wp2_with (first
        | (go_at_call 96; refine (CA.out _).mono ?_; rintro e w3 ⟨rfl, g3⟩; have G3 := Lib.hid (below_next HB.out g3); replace y0 := keep_below y0 g3; replace y1 := keep_below y1 g3; replace y2 := keep_below y2 g3; replace y3 := keep_below y3 g3; clear g3 CA)
        | (go_at_call 96; refine (CB.out _).mono ?_; rintro e w4 ⟨rfl, g4⟩; have G4 := Lib.hid (below_next G3.out g4); clear g4 CB))
      go_ret
      exact ⟨by rw [HM.out] <;> rfl, G4.out⟩
    · cases e0 : (a.tb.toList == b.tb.toList)
      · have HM := Lib.hid (show coversP a b = false by rw [HC.out, e0]; rfl)
        go_enter Tryz.func142, Tryz.ntmps142
        go_upto_region 1 with fail
        rw [HW1.out, HW.out]
        go_wp2_with (first
          | (go_at_call 96; refine (CA.out _).mono ?_; rintro e w3 ⟨rfl, g3⟩; have G3 := Lib.hid (below_next HB.out g3); replace x0 := keep_below x0 g3; replace y0 := keep_below y0 g3; replace y1 := keep_below y1 g3; replace y2 := keep_below y2 g3; replace y3 := keep_below y3 g3; clear g3 CA)
          | (go_at_call 96; refine (CB.out _).mono ?_; rintro e w4 ⟨rfl, g4⟩; have G4 := Lib.hid (below_next G3.out g4); replace x0 := keep_below x0 g4; replace y0 := keep_below y0 g4; clear g4 CB))
        go_ret
        exact ⟨by rw [HM.out] <;> rfl, G4.out⟩
      · go_enter Tryz.func142, Tryz.ntmps142
        go_upto_region 1 with fail
        rw [HW1.out, HW.out]
        go_upto_region 5 with (first
          | (go_at_call 96; refine (CA.out _).mono ?_; rintro e w3 ⟨rfl, g3⟩; have G3 := Lib.hid (below_next HB.out g3); replace x0 := keep_below x0 g3; replace x1 := keep_below x1 g3; replace x2 := keep_below x2 g3; replace x3 := keep_below x3 g3; replace y0 := keep_below y0 g3; replace y1 := keep_below y1 g3; replace y2 := keep_below y2 g3; replace y3 := keep_below y3 g3; clear g3 CA)
          | (go_at_call 96; refine (CB.out _).mono ?_; rintro e w4 ⟨rfl, g4⟩; have G4 := Lib.hid (below_next G3.out g4); replace x0 := keep_below x0 g4; replace x1 := keep_below x1 g4; replace x2 := keep_below x2 g4; replace x3 := keep_below x3 g4; replace y0 := keep_below y0 g4; replace y1 := keep_below y1 g4; replace y2 := keep_below y2 g4; replace y3 := keep_below y3 g4; clear g4 CB)
          | (go_at_call 180; refine (EA.out _).mono ?_; rintro e w5 ⟨rfl, g5⟩; have G5 := Lib.hid (below_next G4.out g5); replace y0 := keep_below y0 g5; replace y1 := keep_below y1 g5; replace y2 := keep_below y2 g5; replace y3 := keep_below y3 g5; clear g5 EA)
          | (go_at_call 180; refine (EB.out _).mono ?_; rintro e w6 ⟨rfl, g6⟩; have G6 := Lib.hid (below_next G5.out g6); clear g6 EB))
        clear x0 x1 x2 x3 y0 y1 y2 y3 Q1 Q2
        cases c1 : Op.bytesLess f1.toList f2.toList <;> cases c4 : (f1.toList == f2.toList) <;> cases d1 : (t1.toList == []) <;> cases d2 : (t2.toList == []) <;> cases c2 : Op.bytesLess t2.toList t1.toList <;> cases c3 : (t2.toList == t1.toList)
        all_goals
          have HM := Lib.hid (show coversP a b = _ by rw [HC.out, e0, bl_le8 f1 f2, c1, c4, d1, d2, bl_le8 t2 t1, c2, c3])
          go_wp2
          go_ret
          exact ⟨by rw [HM.out] <;> rfl, G6.out⟩
end Go.Proofs.YtknppiebncdjmaaGreat
