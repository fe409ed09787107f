import Derived.Test.YtknppiebncdjmaaGreatJBG
import Derived.Test.YtknppiebncdjmaaGreatRows
import Derived.Test.YtknppiebncdjmaaGreatJAM
set_option linter.unusedVariables false
namespace Go.Proofs.YtknppiebncdjmaaGreat
set_option maxRecDepth 100000
open Go.RowKit Go.Maps Go.ChangeMaps Go.MapKept

theorem row4_set {w : World} {b : Nat} {t : TypeId} {u0 u1 u2 u3 : Value} (h : w.heap[b]? = some (.cells #[u0, u1, u2, u3] t (0, 0))) (x0 x1 x2 x3 : Value) : ((((w.setCell ⟨b, 0, none⟩ x0).setCell ⟨b, 1, none⟩ x1).setCell ⟨b, 2, none⟩ x2).setCell ⟨b, 3, none⟩ x3).heap[b]? = some (.cells #[x0, x1, x2, x3] t (0, 0)) := by
  have h1 := heap_setCell_same w b 0 _ _ x0 h
  have h2 := heap_setCell_same _ b 1 _ _ x1 h1
  have h3 := heap_setCell_same _ b 2 _ _ x2 h2
  have h4 := heap_setCell_same _ b 3 _ _ x3 h3
  rw [h4]
  rfl
section
variable {M : MF} {w : World} {b ab kb fb lm lr rr : Nat} {GR : Nat → Prop} {c : Cp10} {P : Pg}
set_option maxHeartbeats 8000000 in
theorem wxTrack (I : Api9 M) (h : Mem10 M w b ab kb fb lm lr rr GR c P) (hc : PgOk c P) :
    Calls Tryz.prog 27 #[.pointer (some ⟨b, 0, none⟩)] w fun e w' => e = .returned (.agg #[.int .i64 (P.act.length : Nat), .int .i64 (P.kep.length : Nat), .int .i64 (P.L.length : Nat), .int .i64 (P.H.length : Nat)]) ∧ Below w.heap.size w w' := by
  obtain ⟨W, hW⟩ : ∃ W, w.alloc (.cells #[.int .i64 0, .int .i64 0, .int .i64 0, .int .i64 0] 73) = W := ⟨_, rfl⟩
  have hB : Below w.heap.size w W := by rw [← hW]; exact (Below.refl _ _).alloc (Nat.le_refl _) _
  have q0 : W.heap[w.heap.size]? = some (.cells #[.int .i64 0, .int .i64 0, .int .i64 0, .int .i64 0] 73 (0, 0)) := by rw [← hW]; exact heap_alloc_new _ _
  have m1 := h.below I hB
  have CM := Lib.hid (wxMade m1 hc)
  have CL := Lib.hid (fun (w1 : World) (m : Mem10 M w1 b ab kb fb lm lr rr GR c P) => wkLen m.lok)
  have CR := Lib.hid (fun (w1 : World) (m : Mem10 M w1 b ab kb fb lm lr rr GR c P) => I.len m.rds)
  have QA := Lib.hid (fun (w1 : World) (m : Mem10 M w1 b ab kb fb lm lr rr GR c P) => act_len m)
  have QK := Lib.hid (fun (w1 : World) (m : Mem10 M w1 b ab kb fb lm lr rr GR c P) => kep_len m)
  have M1 := Lib.hid m1
  have HB := Lib.hid hB
  obtain ⟨-, -, -, -, -, -, c6, c7, -, c9, c10⟩ := m1.cells
  have z0 : W.cell? ⟨w.heap.size, 0, none⟩ = some (.int .i64 0) := cell_of_row _ _ 0 _ _ _ q0
  have z1 : W.cell? ⟨w.heap.size, 1, none⟩ = some (.int .i64 0) := cell_of_row _ _ 1 _ _ _ q0
  have z2 : W.cell? ⟨w.heap.size, 2, none⟩ = some (.int .i64 0) := cell_of_row _ _ 2 _ _ _ q0
  have z3 : W.cell? ⟨w.heap.size, 3, none⟩ = some (.int .i64 0) := cell_of_row _ _ 3 _ _ _ q0
  have HBL := Lib.hid h.blt.1
  obtain ⟨na, hna⟩ : ∃ n, P.act.length = n := ⟨_, rfl⟩
  obtain ⟨nk, hnk⟩ : ∃ n, P.kep.length = n := ⟨_, rfl⟩
  obtain ⟨nl, hnl⟩ : ∃ n, P.L.length = n := ⟨_, rfl⟩
  obtain ⟨nh, hnh⟩ : ∃ n, P.H.length = n := ⟨_, rfl⟩
  rw [hna] at QA
  rw [hnk] at QK
  rw [hnl] at CR
  rw [hnh] at CL
  rw [hna, hnk, hnl, hnh]
  have M0 := Lib.hid h
  clear h hc m1 hB hna hnk hnl hnh
  go_enter Tryz.func27, Tryz.ntmps27
  go_upto_region 3 with (go_at_call 40; go_loud (refine CM.out.mono ?_; rintro e w1 ⟨rfl, hw⟩; replace hw := hw.symm; subst hw))
  try rw [hW]
  have MD := Lib.hid (M1.out.below I (Below.refl W.heap.size W).drew)
  have qA := QA.out _ MD.out
  have qK := QK.out _ MD.out
  have f0 : ∀ j, W.frozen? ⟨w.heap.size, j, none⟩ = false := fun j => frozen_of_row _ _ _ _ _ q0
  have hS : W.cell? ⟨b, 6, none⟩ = some (.map (some ab)) ∧ W.cell? ⟨b, 7, none⟩ = some (.map (some kb)) ∧ W.cell? ⟨b, 9, none⟩ = some (.pointer (some ⟨lm, 0, none⟩)) ∧ W.cell? ⟨b, 10, none⟩ = some (.pointer (some ⟨rr, 0, none⟩)) ∧ (Builtin.len_ #[86] 3 #[.map (some ab)]).run Tryz.prog W = .ok (.int .i64 (na : Nat)) W ∧ (Builtin.len_ #[87] 3 #[.map (some kb)]).run Tryz.prog W = .ok (.int .i64 (nk : Nat)) W := ⟨c6, c7, c9, c10, QA.out _ M1.out _, QK.out _ M1.out _⟩
  have SB2 := Lib.hid (show ∀ V, Below W.heap.size W V → (V.cell? ⟨b, 6, none⟩ = some (.map (some ab)) ∧ V.cell? ⟨b, 7, none⟩ = some (.map (some kb)) ∧ V.cell? ⟨b, 9, none⟩ = some (.pointer (some ⟨lm, 0, none⟩)) ∧ V.cell? ⟨b, 10, none⟩ = some (.pointer (some ⟨rr, 0, none⟩)) ∧ (Builtin.len_ #[86] 3 #[.map (some ab)]).run Tryz.prog V = .ok (.int .i64 (na : Nat)) V ∧ (Builtin.len_ #[87] 3 #[.map (some kb)]).run Tryz.prog V = .ok (.int .i64 (nk : Nat)) V) ∧ V.heap[w.heap.size]? = some (.cells #[.int .i64 0, .int .i64 0, .int .i64 0, .int .i64 0] 73 (0, 0)) from fun V g => ⟨⟨keep_below c6 g, keep_below c7 g, keep_below c9 g, keep_below c10 g, QA.out _ (M1.out.below I g) _, QK.out _ (M1.out.below I g) _⟩, (g.block _ (Array.getElem?_eq_some_iff.1 q0).1).trans q0⟩)
  have hD := (SB2.out _ (Below.refl W.heap.size W).drew).1
  clear hW q0 f0 hS
  have SE := Lib.hid (show ∀ V, Below W.heap.size W V → ∀ x0 x1 x2 x3 : Value, ((((V.setCell ⟨w.heap.size, 0, none⟩ x0).setCell ⟨w.heap.size, 1, none⟩ x1).setCell ⟨w.heap.size, 2, none⟩ x2).setCell ⟨w.heap.size, 3, none⟩ x3).cell? ⟨b, 6, none⟩ = some (.map (some ab)) ∧ ((((V.setCell ⟨w.heap.size, 0, none⟩ x0).setCell ⟨w.heap.size, 1, none⟩ x1).setCell ⟨w.heap.size, 2, none⟩ x2).setCell ⟨w.heap.size, 3, none⟩ x3).cell? ⟨b, 7, none⟩ = some (.map (some kb)) ∧ ((((V.setCell ⟨w.heap.size, 0, none⟩ x0).setCell ⟨w.heap.size, 1, none⟩ x1).setCell ⟨w.heap.size, 2, none⟩ x2).setCell ⟨w.heap.size, 3, none⟩ x3).cell? ⟨b, 9, none⟩ = some (.pointer (some ⟨lm, 0, none⟩)) ∧ ((((V.setCell ⟨w.heap.size, 0, none⟩ x0).setCell ⟨w.heap.size, 1, none⟩ x1).setCell ⟨w.heap.size, 2, none⟩ x2).setCell ⟨w.heap.size, 3, none⟩ x3).cell? ⟨b, 10, none⟩ = some (.pointer (some ⟨rr, 0, none⟩)) ∧ (Builtin.len_ #[86] 3 #[.map (some ab)]).run Tryz.prog ((((V.setCell ⟨w.heap.size, 0, none⟩ x0).setCell ⟨w.heap.size, 1, none⟩ x1).setCell ⟨w.heap.size, 2, none⟩ x2).setCell ⟨w.heap.size, 3, none⟩ x3) = .ok (.int .i64 (na : Nat)) ((((V.setCell ⟨w.heap.size, 0, none⟩ x0).setCell ⟨w.heap.size, 1, none⟩ x1).setCell ⟨w.heap.size, 2, none⟩ x2).setCell ⟨w.heap.size, 3, none⟩ x3) ∧ (Builtin.len_ #[87] 3 #[.map (some kb)]).run Tryz.prog ((((V.setCell ⟨w.heap.size, 0, none⟩ x0).setCell ⟨w.heap.size, 1, none⟩ x1).setCell ⟨w.heap.size, 2, none⟩ x2).setCell ⟨w.heap.size, 3, none⟩ x3) = .ok (.int .i64 (nk : Nat)) ((((V.setCell ⟨w.heap.size, 0, none⟩ x0).setCell ⟨w.heap.size, 1, none⟩ x1).setCell ⟨w.heap.size, 2, none⟩ x2).setCell ⟨w.heap.size, 3, none⟩ x3) from fun V g x0 x1 x2 x3 => by
    obtain ⟨⟨a1, a2, a3, a4, -, -⟩, -⟩ := SB2.out V g
    have mm := M0.out.below I (show Below w.heap.size w ((((V.setCell ⟨w.heap.size, 0, none⟩ x0).setCell ⟨w.heap.size, 1, none⟩ x1).setCell ⟨w.heap.size, 2, none⟩ x2).setCell ⟨w.heap.size, 3, none⟩ x3) from ((((below_next HB.out g).setCell (by exact Nat.le_refl _) x0).setCell (by exact Nat.le_refl _) x1).setCell (by exact Nat.le_refl _) x2).setCell (by exact Nat.le_refl _) x3)
    have hb : Out (fun k => k = w.heap.size) V ((((V.setCell ⟨w.heap.size, 0, none⟩ x0).setCell ⟨w.heap.size, 1, none⟩ x1).setCell ⟨w.heap.size, 2, none⟩ x2).setCell ⟨w.heap.size, 3, none⟩ x3) := by
      refine Out.setCell (F := fun k => k = w.heap.size) (Out.setCell (F := fun k => k = w.heap.size) (Out.setCell (F := fun k => k = w.heap.size) (Out.setCell (F := fun k => k = w.heap.size) (Out.refl _ V) ?_ _) ?_ _) ?_ _) ?_ _ <;> exact .inl rfl
    have hne : ¬ b = w.heap.size := by have := HBL.out; omega
    exact ⟨hb.cell a1 hne, hb.cell a2 hne, hb.cell a3 hne, hb.cell a4 hne, QA.out _ mm _, QK.out _ mm _⟩)
  go_region_held3 (fun w' => w'.cell? ⟨b, 6, none⟩ = some (.map (some ab)) ∧ w'.cell? ⟨b, 7, none⟩ = some (.map (some kb)) ∧ w'.cell? ⟨b, 9, none⟩ = some (.pointer (some ⟨lm, 0, none⟩)) ∧ w'.cell? ⟨b, 10, none⟩ = some (.pointer (some ⟨rr, 0, none⟩)) ∧ (Builtin.len_ #[86] 3 #[.map (some ab)]).run Tryz.prog w' = .ok (.int .i64 (na : Nat)) w' ∧ (Builtin.len_ #[87] 3 #[.map (some kb)]).run Tryz.prog w' = .ok (.int .i64 (nk : Nat)) w') (first | exact hD | exact S2 | exact SE.out _ BV.out _ _ _ _)
    (first
      | (go_at_call 72; go_loud (refine (CL.out _ MV.out).mono ?_; rintro e w1 ⟨rfl, hw⟩; replace hw := hw.symm; subst hw))
      | (go_at_call 72; go_loud (refine (CL.out _ MD.out).mono ?_; rintro e w1 ⟨rfl, hw⟩; replace hw := hw.symm; subst hw))
      | (go_at_call 71; go_loud (refine (CR.out _ MD.out).mono ?_; rintro e V ⟨rfl, g⟩; have bv : Below W.heap.size W V := (Below.refl W.heap.size W).drew.trans g; have MV := Lib.hid (M1.out.below I bv); have BV := Lib.hid bv; obtain ⟨S2, hz⟩ := SB2.out _ bv; have HZ := Lib.hid hz; have qA := QA.out _ MV.out; have qK := QK.out _ MV.out; have y0 : V.cell? ⟨w.heap.size, 0, none⟩ = some (.int .i64 0) := cell_of_row _ _ 0 _ _ _ hz; have y1 : V.cell? ⟨w.heap.size, 1, none⟩ = some (.int .i64 0) := cell_of_row _ _ 1 _ _ _ hz; have y2 : V.cell? ⟨w.heap.size, 2, none⟩ = some (.int .i64 0) := cell_of_row _ _ 2 _ _ _ hz; have y3 : V.cell? ⟨w.heap.size, 3, none⟩ = some (.int .i64 0) := cell_of_row _ _ 3 _ _ _ hz; have g0 : V.frozen? ⟨w.heap.size, 0, none⟩ = false := frozen_of_row _ _ _ _ _ hz; have g1 : V.frozen? ⟨w.heap.size, 1, none⟩ = false := frozen_of_row _ _ _ _ _ hz; have g2 : V.frozen? ⟨w.heap.size, 2, none⟩ = false := frozen_of_row _ _ _ _ _ hz; have g3 : V.frozen? ⟨w.heap.size, 3, none⟩ = false := frozen_of_row _ _ _ _ _ hz; clear g bv hz)))
  all_goals
    have r4 := row4_set HZ.out (.int .i64 (na : Nat)) (.int .i64 (nk : Nat)) (.int .i64 (nl : Nat)) (.int .i64 (nh : Nat))
    have v0 := cell_of_row _ _ 0 _ _ _ r4
    have v1 := cell_of_row _ _ 1 _ _ _ r4
    have v2 := cell_of_row _ _ 2 _ _ _ r4
    have v3 := cell_of_row _ _ 3 _ _ _ r4
    go_wp2
    refine bodyPost_ret (v := .agg #[.int .i64 (na : Nat), .int .i64 (nk : Nat), .int .i64 (nl : Nat), .int .i64 (nh : Nat)]) (by simp [results, Tryz.results27, go_sem, v0, v1, v2, v3]; first | done | rfl) rfl ⟨rfl, ?_⟩
    have hb := below_next HB.out BV.out
    exact (((hb.setCell (by exact Nat.le_refl _) _).setCell (by exact Nat.le_refl _) _).setCell (by exact Nat.le_refl _) _).setCell (by exact Nat.le_refl _) _
end
end Go.Proofs.YtknppiebncdjmaaGreat

namespace Go.Proofs.YtknppiebncdjmaaGreat
set_option maxRecDepth 100000
open Go.RowKit Go.Maps Go.ChangeMaps Go.MapKept

theorem w10Track {w : World} {G K : Nat → Prop} {b : Nat} {c : Cp10} {S : St10} (h : M10 w G K b c S) (hb : Bd10 S) :
    Calls Tryz.prog 27 #[.pointer (some ⟨b, 0, none⟩)] w fun e w' => e = .returned (.agg #[.int .i64 (activeP S.list : Nat), .int .i64 ((S.list.length : Int) - activeP S.list), .int .i64 (S.L.length : Nat), .int .i64 (S.H.length : Nat)]) ∧ Below w.heap.size w w' := by
  obtain ⟨ab, kb, fb, lm, lr, rr, GR, P, m, s, hc, rfl, rfl⟩ := h
  refine (wxTrack api9 m (s.pgok hc hb)).mono ?_
  rintro e w' ⟨rfl, g⟩
  exact ⟨by rw [s.actN, s.kepN, s.L, s.H], g⟩
theorem Left10.m {w w' : World} {G K : Nat → Prop} {b : Nat} {c : Cp10} {S' : St10} (h : Left10 w w' G K b c S') {B : Nat} (hB : B ≤ w.heap.size) (hG : ∀ k, G k → B ≤ k) (hK : ∀ k, K k → B ≤ k) : ∃ G' K', M10 w' G' K' b c S' ∧ (∀ k, G' k → B ≤ k) ∧ (∀ k, K' k → B ≤ k) ∧ Below B w w' := by
  obtain ⟨G', K', m, hg, hk, o⟩ := h
  refine ⟨G', K', m, fun k h => (hg k h).elim (hG k) (fun h => by omega), fun k h => (hk k h).elim (hK k) (fun h => by omega), o.below hB fun i hi h => by have := hG i h; omega⟩
def cp2 : Cp10 := ⟨2, 2, 2, 2⟩
def stB1 : St10 := (begin10 cp2 (new10 5)).2
def stB2 : St10 := (write10 cp2 stB1 1 (⟨#[116]⟩, ⟨#[]⟩) 0).2
theorem begB : (begin10 cp2 (new10 5)).1 = (1, 5, 0) := by rfl
theorem wriB : (write10 cp2 stB1 1 (⟨#[116]⟩, ⟨#[]⟩) 0).1 = 0 ∧ stB2.H.length = 1 ∧ stB2.next = 1 ∧ stB2.last = 5 ∧ stB1.next = 1 ∧ stB1.last = 5 := by
  refine ⟨?_, ?_, ?_, ?_, rfl, rfl⟩ <;> rfl
set_option maxHeartbeats 8000000 in
theorem wbegun10 (w : World) : Calls Tryz.prog 13 #[] w fun e w' => e = .returned (.bool true) ∧ Below w.heap.size w w' := by
  have CN := Lib.hid (show Calls Tryz.prog 11 #[.agg #[.int .i64 2, .int .i64 2, .int .i64 2, .int .i64 2], .int .i64 5] w fun e w' => ∃ b G K, e = .returned (.tuple #[.pointer (some ⟨b, 0, none⟩), .int .i64 0]) ∧ M10 w' G K b cp2 (new10 5) ∧ (∀ x, G x → w.heap.size ≤ x) ∧ (∀ x, K x → w.heap.size ≤ x) ∧ Below w.heap.size w w' from w10New w 2 2 2 2 5 ⟨⟨by decide, by decide⟩, ⟨by decide, by decide⟩, ⟨by decide, by decide⟩, by decide, by decide⟩ (by decide))
  have CB := Lib.hid (fun (w1 : World) (G K : Nat → Prop) (b : Nat) (m : M10 w1 G K b cp2 (new10 5)) => show Calls Tryz.prog 15 #[.pointer (some ⟨b, 0, none⟩)] w1 fun e w' => e = .returned (.tuple #[.int .i64 1, .int .i64 5, .int .i64 0]) ∧ Left10 w1 w' G K b cp2 stB1 from by
    have := w10Begin m ⟨by decide, by decide⟩
    rw [begB] at this
    exact this)
  have CW := Lib.hid (fun (w1 : World) (G K : Nat → Prop) (b : Nat) (m : M10 w1 G K b cp2 stB1) => show Calls Tryz.prog 16 #[.pointer (some ⟨b, 0, none⟩), .int .i64 1, .agg #[.string ⟨#[116]⟩, .string ⟨#[]⟩], .int .i64 0] w1 fun e w' => e = .returned (.int .i64 0) ∧ Left10 w1 w' G K b cp2 stB2 from by
    have := w10Write m ⟨by rw [wriB.2.2.2.2.1]; decide, by rw [wriB.2.2.2.2.2]; decide⟩ (tx := 1) (by decide) (l := (⟨#[116]⟩, ⟨#[]⟩)) ⟨by decide, by decide⟩ 0
    rw [wriB.1] at this
    exact this)
  have CT := Lib.hid (fun (w1 : World) (G K : Nat → Prop) (b : Nat) (m : M10 w1 G K b cp2 stB2) => show Calls Tryz.prog 27 #[.pointer (some ⟨b, 0, none⟩)] w1 fun e w' => ∃ a k l, e = .returned (.agg #[.int .i64 a, .int .i64 k, .int .i64 l, .int .i64 1]) ∧ Below w1.heap.size w1 w' from by
    refine (w10Track m ⟨by rw [wriB.2.2.1]; decide, by rw [wriB.2.2.2.1]; decide⟩).mono ?_
    rintro e w' ⟨rfl, g⟩
    exact ⟨_, _, _, by rw [wriB.2.1]; rfl, g⟩)
  have qF : ∀ (W : World) (a k l : Int), (Instr.field 73 (.agg #[.int .i64 a, .int .i64 k, .int .i64 l, .int .i64 1]) 3).run Tryz.prog W = .ok (.int .i64 1) W := fun W a k l => by kernel_rfl
  go_enter Tryz.func13, Tryz.ntmps13
  go_wp2_with (first
    | (go_at_call 11; go_loud (refine CN.out.mono ?_; rintro e w1 ⟨b, G, K, rfl, m1, g1, k1, b1⟩; have M1 := Lib.hid m1; have GK1 := Lib.hid (And.intro g1 k1); have B1 := Lib.hid b1; clear m1 g1 k1 b1))
    | (go_at_call 15; go_loud (refine (CB.out _ _ _ _ M1.out).mono ?_; rintro e w2 ⟨rfl, l2⟩; obtain ⟨G2, K2, m2, g2, k2, b2⟩ := l2.m B1.out.size GK1.out.1 GK1.out.2; have M2 := Lib.hid m2; have GK2 := Lib.hid (And.intro g2 k2); have B2 := Lib.hid (B1.out.trans b2); clear m2 g2 k2 b2 l2))
    | (go_at_call 16; go_loud (refine (CW.out _ _ _ _ M2.out).mono ?_; rintro e w3 ⟨rfl, l3⟩; obtain ⟨G3, K3, m3, g3, k3, b3⟩ := l3.m B2.out.size GK2.out.1 GK2.out.2; have M3 := Lib.hid m3; have B3 := Lib.hid (B2.out.trans b3); clear m3 g3 k3 b3 l3))
    | (go_at_call 27; go_loud (refine (CT.out _ _ _ _ M3.out).mono ?_; rintro e w4 ⟨a4, k4, l4, rfl, b4⟩; have B4 := Lib.hid (below_next B3.out b4); clear b4)))
  go_ret
  exact ⟨rfl, B4.out⟩
end Go.Proofs.YtknppiebncdjmaaGreat

namespace Go.Proofs.YtknppiebncdjmaaGreat
set_option maxRecDepth 100000

theorem bulk_pos {H : Type} (d : DataW H) : 1 ≤ Rows.uptoBulk d := by
  cases d with
  | lit l => cases l <;> simp [Rows.uptoBulk]
  | _ => simp [Rows.uptoBulk]
theorem bulk_len {H : Type} (l : List (DataW H)) : l.length ≤ Rows.uptoBulkAll l := by
  induction l with
  | nil => simp
  | cons x r ih => have := bulk_pos x; simp only [Rows.uptoBulkAll, List.length_cons]; omega
theorem bulk_part {H : Type} {d : DataW H} {l : List (DataW H)} {j : Nat} (h : l[j]? = some d) : Rows.uptoBulk d ≤ Rows.uptoBulkAll l := by
  induction l generalizing j with
  | nil => simp at h
  | cons x r ih =>
    cases j with
    | zero => simp at h; subst h; simp only [Rows.uptoBulkAll]; omega
    | succ j => have := ih (j := j) (by simpa using h); simp only [Rows.uptoBulkAll]; omega
theorem bulk_bytes {H : Type} {d : DataW H} {cap B : Nat} (hb : Rows.uptoBulk d ≤ B) (hd : (d = .nil ∧ cap = 0) ∨ ∃ elems rest, d = .slice elems rest ∧ elems.length + rest.length = cap) : cap ≤ B := by
  rcases hd with ⟨_, rfl⟩ | ⟨elems, rest, rfl, hc⟩
  · omega
  · have h1 := bulk_len elems
    have h2 := bulk_len rest
    simp only [Rows.uptoBulk] at hb
    omega
end Go.Proofs.YtknppiebncdjmaaGreat
