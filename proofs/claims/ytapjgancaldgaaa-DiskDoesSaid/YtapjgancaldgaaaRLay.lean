/- The reference's Plan, tear and lay. -/
import Derived.Test.YtapjgancaldgaaaRSmall
import Derived.Deep.RegionHeld3
namespace Go.Proofs.Ytapjgancaldgaaa
set_option maxRecDepth 100000
open Go.RowKit

section
variable {F : Nat → Prop} {w : World} {p : Nat} {S : St} {vs : List Value} {gd cd gt ct : Nat} {vw : Value}
theorem Rf.tornAt (h : Rf F w p S vs gd cd gt ct vw) {n : Nat} {c : Cn} (hc : S.last[n]? = some c) : w.cell? ⟨gt, n, none⟩ = some (.bool c.t) ∧ w.frozen? ⟨gt, n, none⟩ = false := by
  have hn : n < S.last.length := (List.getElem?_eq_some_iff.1 hc).1
  exact ⟨by rw [h.torn.cellAt n (by omega)]; simp [hc], h.torn.frozenAt n⟩
theorem Rf.dataAt (h : Rf F w p S vs gd cd gt ct vw) {n : Nat} {v : Value} (hc : vs[n]? = some v) : w.cell? ⟨gd, n, none⟩ = some v ∧ w.frozen? ⟨gd, n, none⟩ = false := by
  have hn : n < vs.length := (List.getElem?_eq_some_iff.1 hc).1
  have := h.data.1
  exact ⟨by rw [h.data.cellAt n (by omega)]; exact hc, h.data.frozenAt n⟩

set_option maxHeartbeats 1000000 in
theorem rtear (h : Rf F w p S vs gd cd gt ct vw) (n : Nat) (hn : n < S.last.length) :
    Calls Try.prog 68 #[.pointer (some ⟨p, 0, none⟩), .int .i64 (n : Int)] w fun e w' => e = .returned (.tuple #[]) ∧ (∃ vs', Rf (Gr F w) w' p { S with last := S.last.set n ⟨zero64, true⟩ } vs' gd cd gt ct vw) ∧ Out F w w' := by
  obtain ⟨c, hc⟩ : ∃ c, S.last[n]? = some c := ⟨_, List.getElem?_eq_getElem hn⟩
  obtain ⟨k1, k2⟩ := h.tornAt hc
  have c3 := h.cell 3
  have c4 := h.cell 4
  have hvl : n < vs.length := by have := h.data.1; omega
  obtain ⟨d1, d2⟩ := h.dataAt (List.getElem?_eq_getElem hvl)
  obtain ⟨v0, hv0⟩ : ∃ v0, v0 = vs[n] := ⟨_, rfl⟩
  rw [← hv0] at d1
  clear hv0
  have hni : (n : Int) < (S.last.length : Int) := by omega
  -- behind the first store
  obtain ⟨w1, hw1⟩ : ∃ W, W = w.setCell ⟨gt, n, none⟩ (.bool true) := ⟨_, rfl⟩
  have hw1r := hw1.symm
  have m3 : w1.cell? ⟨p, 3, none⟩ = some (.slice (some ⟨gd, 0, none⟩) S.last.length cd) := by rw [hw1, World.cell?_setCell_far _ _ _ _ (by simpa using h.pt.symm)]; exact c3
  have e1 : w1.cell? ⟨gd, n, none⟩ = some v0 := by rw [hw1, World.cell?_setCell_far _ _ _ _ (by simpa using h.dt.symm)]; exact d1
  have f1 : w1.frozen? ⟨gd, n, none⟩ = false := by rw [hw1]; simpa using d2
  have hmk := run_make_bytes w1.drew 64 64 (by omega) (by omega) (by omega)
  rw [show (64 : Int).toNat = 64 from rfl] at hmk
  obtain ⟨w2, hw2⟩ : ∃ W, W = w1.drew.alloc (.cells (madeCells #[.int .u8 0] 64) 5) := ⟨_, rfl⟩
  rw [← hw2] at hmk
  have hsz1 : w1.drew.heap.size = w.heap.size := by rw [hw1]; simp [World.setCell]
  have hb2 : Below w.heap.size w1 w2 := by rw [hw2]; exact ((Below.refl _ _).drew).alloc (by omega) _
  have HS := Lib.hid (h.setBlock n hn ⟨zero64, true⟩ b64_zero w2 (by rw [← hw1]; exact hb2) w1.drew.heap.size 64 (by rw [hw2]; exact rb_zeros w1.drew 64 (by omega)) (by omega) (by rw [hw2]; simp) (by omega))
  have g1 : w2.cell? ⟨gd, n, none⟩ = some v0 := (World.cell?_of_block (a := ⟨gd, n, none⟩) (hb2.block gd h.dlt)).trans e1
  have own2 : w2.ownsRow 0 34 1 (.slice (some ⟨gd, 0, none⟩) S.last.length cd) S.last.length vs := own_stays h.data fun k e => by
    have : gd = k := by simpa [Value.ownBlock] using e
    subst this
    exact (hb2.block gd h.dlt).trans (by rw [hw1]; exact heap_setCell_ne _ _ _ _ gd h.dt)
  have g2 := own2.frozenAt n
  have g3 : w2.cell? ⟨p, 3, none⟩ = some (.slice (some ⟨gd, 0, none⟩) S.last.length cd) := (World.cell?_of_block (a := ⟨p, 3, none⟩) (hb2.block p h.plt)).trans m3
  have HO := Lib.hid (show Out F w (w2.setCell ⟨gd, n, none⟩ (.slice (some ⟨w1.drew.heap.size, 0, none⟩) 64 64)) by
    refine Out.setCell ?_ (.inl h.fd) _
    refine (show Out F w w1 by rw [hw1]; exact (Out.refl F w).setCell (.inl h.ft) _).then ?_
    rw [hw2]; exact ((Out.refl F w1).drew).alloc _)
  clear hw1 hw2 hb2 hsz1 h hc own2 f1
  go_enter Try.func68, Try.ntmps68
  go_upto_region 1 with fail
  go_region
  all_goals go_wp2
  all_goals go_end0
  all_goals exact ⟨rfl, ⟨_, HS.out⟩, HO.out⟩

set_option maxHeartbeats 1000000 in
theorem rlay (h : Rf F w p S vs gd cd gt ct vw) (x : Wr) (hn : x.p < S.last.length) (hxb : B64 x.b) (b cb : Nat) (hr : RB w (some ⟨b, 0, none⟩) 64 x.b) (hbt : b ≠ gt) :
    Calls Try.prog 71 #[.pointer (some ⟨p, 0, none⟩), .agg #[.int .i64 (x.p : Int), .slice (some ⟨b, 0, none⟩) 64 cb]] w fun e w' => e = .returned (.tuple #[]) ∧ (∃ vs', Rf (Gr F w) w' p { S with last := S.last.set x.p ⟨x.b, false⟩ } vs' gd cd gt ct vw) ∧ Out F w w' := by
  obtain ⟨n, hxn⟩ : ∃ n, n = x.p := ⟨_, rfl⟩
  rw [← hxn] at hn ⊢
  obtain ⟨w0, hw0⟩ : ∃ W, W = w.alloc (.cells #[.int .i64 (n : Int), .slice (some ⟨b, 0, none⟩) 64 cb] 114) := ⟨_, rfl⟩
  have hbk : w0.heap[w.heap.size]? = some (.cells #[.int .i64 (n : Int), .slice (some ⟨b, 0, none⟩) 64 cb] 114 (0, 0)) := by rw [hw0]; exact heap_alloc_new _ _
  have bw0 : Below w.heap.size w w0 := by rw [hw0]; exact (Below.refl _ _).alloc (Nat.le_refl _) _
  have hw0r := hw0.symm
  have sz0 : w.heap.size < w0.heap.size := (Array.getElem?_eq_some_iff.1 hbk).1
  have h0 : Rf F w0 p S vs gd cd gt ct vw := h.below bw0
  obtain ⟨c, hc⟩ : ∃ c, S.last[n]? = some c := ⟨_, List.getElem?_eq_getElem hn⟩
  obtain ⟨k1, k2⟩ := h0.tornAt hc
  have c3 := h0.cell 3
  have c4 := h0.cell 4
  have x0 : w0.cell? ⟨w.heap.size, 0, none⟩ = some (.int .i64 (n : Int)) := by rw [cell_of_row _ _ _ _ _ _ hbk]; rfl
  have x1 : w0.cell? ⟨w.heap.size, 1, none⟩ = some (.slice (some ⟨b, 0, none⟩) 64 cb) := by rw [cell_of_row _ _ _ _ _ _ hbk]; rfl
  have hvl : n < vs.length := by have := h.data.1; omega
  have hni : (n : Int) < (S.last.length : Int) := by omega
  have H0 := Lib.hid h0
  have H := Lib.hid h
  have R0 := Lib.hid (hr.below' bw0)
  have BW0 := Lib.hid bw0
  have XB := Lib.hid hxb
  have XN := Lib.hid hxn
  have hpg : p < w.heap.size := h.plt
  have hdg : gd < w.heap.size := h.dlt
  have htg : gt < w.heap.size := h.tlt
  clear hw0 hbk bw0 h0 h hr hc hxn hxb
  go_enter Try.func71, Try.ntmps71
  go_upto_region 1 with fail
  go_region
  obtain ⟨w1, hw1⟩ : ∃ W, W = (w0.setCell ⟨gt, n, none⟩ (.bool false)).drew := ⟨_, rfl⟩
  rw [← hw1]
  have hsz1 : w1.heap.size = w0.heap.size := by rw [hw1]; simp [World.setCell]
  have hk1 : ∀ k, k ≠ gt → w1.heap[k]? = w0.heap[k]? := fun k hk => by rw [hw1]; exact heap_setCell_ne _ _ _ _ k hk
  have y0 : w1.cell? ⟨w.heap.size, 0, none⟩ = some (.int .i64 (n : Int)) := (World.cell?_of_block (a := ⟨w.heap.size, 0, none⟩) (hk1 w.heap.size (by omega))).trans x0
  have y1 : w1.cell? ⟨w.heap.size, 1, none⟩ = some (.slice (some ⟨b, 0, none⟩) 64 cb) := (World.cell?_of_block (a := ⟨w.heap.size, 1, none⟩) (hk1 w.heap.size (by omega))).trans x1
  have y3 : w1.cell? ⟨p, 3, none⟩ = some (.slice (some ⟨gd, 0, none⟩) S.last.length cd) := (World.cell?_of_block (a := ⟨p, 3, none⟩) (hk1 _ H.out.pt)).trans c3
  have rb1 : RB w1 (some ⟨b, 0, none⟩) 64 x.b := rb_stays R0.out (hk1 b hbt)
  have own1 : w1.ownsRow 0 34 1 (.slice (some ⟨gd, 0, none⟩) S.last.length cd) S.last.length vs := own_stays H0.out.data fun k e => by
    have : gd = k := by simpa [Value.ownBlock] using e
    subst this
    exact hk1 _ H0.out.dt
  have OW1 := Lib.hid own1
  have RB1 := Lib.hid rb1
  have HW1 := Lib.hid hw1
  have HK1 := Lib.hid hk1
  have HSZ := Lib.hid hsz1
  have hS1 : w1.drew.cell? ⟨w.heap.size, 0, none⟩ = some (.int .i64 (n : Int)) ∧ w1.drew.cell? ⟨w.heap.size, 1, none⟩ = some (.slice (some ⟨b, 0, none⟩) 64 cb) ∧ w1.drew.cell? ⟨p, 3, none⟩ = some (.slice (some ⟨gd, 0, none⟩) S.last.length cd) := ⟨y0, y1, y3⟩
  clear hw1 hk1 hsz1 own1 rb1 k1 k2 c3 c4 x0 x1 y0 y1 y3 hw0r
  go_wp2
  go_region_held3 (fun w' => w'.cell? ⟨w.heap.size, 0, none⟩ = some (.int .i64 (n : Int)) ∧ w'.cell? ⟨w.heap.size, 1, none⟩ = some (.slice (some ⟨b, 0, none⟩) 64 cb) ∧ w'.cell? ⟨p, 3, none⟩ = some (.slice (some ⟨gd, 0, none⟩) S.last.length cd)) (first | exact hS1 | exact hS4 | exact hS5)
    (first
      | (go_at_call 70; refine (rcopied w1.drew _ cb x.b (RB.drew RB1.out)).mono ?_; rintro e w4 ⟨cap, rfl, hcap, rb4, b4, l4⟩; have hS4 : w4.cell? ⟨w.heap.size, 0, none⟩ = some (.int .i64 (n : Int)) ∧ w4.cell? ⟨w.heap.size, 1, none⟩ = some (.slice (some ⟨b, 0, none⟩) 64 cb) ∧ w4.cell? ⟨p, 3, none⟩ = some (.slice (some ⟨gd, 0, none⟩) S.last.length cd) := ⟨keep_below hS1.1 b4, keep_below hS1.2.1 b4, keep_below hS1.2.2 b4⟩; have own4 := own_stays (w' := w4) OW1.out (fun k e => b4.block k (OW1.out.lt k e).2); have hT := own_there own4 n 1 (by have := own4.1; omega); have hk0 := (hT 0 (by omega)).1; have hf0 := (hT 0 (by omega)).2; obtain ⟨u0, hu0⟩ := Option.isSome_iff_exists.1 hk0; rw [Nat.add_zero] at hu0 hf0; have hS5 : (w4.setCell ⟨gd, n, none⟩ (.slice (some ⟨w1.drew.heap.size, 0, none⟩) 64 cap)).cell? ⟨w.heap.size, 0, none⟩ = some (.int .i64 (n : Int)) ∧ (w4.setCell ⟨gd, n, none⟩ (.slice (some ⟨w1.drew.heap.size, 0, none⟩) 64 cap)).cell? ⟨w.heap.size, 1, none⟩ = some (.slice (some ⟨b, 0, none⟩) 64 cb) ∧ (w4.setCell ⟨gd, n, none⟩ (.slice (some ⟨w1.drew.heap.size, 0, none⟩) 64 cap)).cell? ⟨p, 3, none⟩ = some (.slice (some ⟨gd, 0, none⟩) S.last.length cd) := (by rw [World.cell?_setCell_far _ _ _ _ (by simpa using Nat.ne_of_lt hdg), World.cell?_setCell_far _ _ _ _ (by simpa using Nat.ne_of_lt hdg), World.cell?_setCell_far _ _ _ _ (by simpa using H.out.pd.symm)]; exact hS4); have RB4 := Lib.hid rb4; have B4 := Lib.hid b4; have L4 := Lib.hid l4; clear hT hk0 own4 rb4 b4 l4))
  have sz : w1.drew.heap.size = w0.heap.size := HSZ.out
  have hbel : Below w0.heap.size (w0.setCell ⟨gt, n, none⟩ (.bool false)) w4 := by
    have h1 : Below w1.drew.heap.size w1.drew w4 := B4.out
    rw [sz] at h1
    refine Below.trans ?_ h1
    rw [HW1.out]
    exact ((Below.refl _ _).drew).drew
  have HS := Lib.hid ((H0.out.setBlock n hn ⟨x.b, false⟩ XB.out w4 hbel w1.drew.heap.size cap RB4.out (by omega) L4.out hcap).mono (F' := Gr F w) (fun k _ hf => by rcases hf with h1 | h1; exact .inl h1; exact .inr (by omega)))
  have HO := Lib.hid (show Out F w (w4.setCell ⟨gd, n, none⟩ (.slice (some ⟨w1.drew.heap.size, 0, none⟩) 64 cap)) by
    refine Out.setCell ?_ (.inl H.out.fd) _
    have o1 : Out F w (w0.setCell ⟨gt, n, none⟩ (.bool false)) := (Out.of_below BW0.out F).setCell (p := ⟨gt, n, none⟩) (.inl H.out.ft) _
    exact o1.then ⟨hbel.os, hbel.tape, hbel.output, hbel.size, fun i hi _ => by
      have : (w0.setCell ⟨gt, n, none⟩ (.bool false)).heap.size = w0.heap.size := by simp [World.setCell]
      exact hbel.block i (by omega)⟩)
  clear hS1 hS4 hS5 hu0 hf0 hbel
  go_wp2
  go_end0
  exact ⟨rfl, ⟨_, HS.out⟩, HO.out⟩
end
end Go.Proofs.Ytapjgancaldgaaa
