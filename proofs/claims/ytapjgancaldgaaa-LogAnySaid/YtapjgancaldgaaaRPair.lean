/- The program's disk and the reference's, beside each other: images. -/
import Derived.Test.YtapjgancaldgaaaRNew
import Derived.Test.YtapjgancaldgaaaDLoad
import Derived.Test.YtapjgancaldgaaaDChoosesMath
import Derived.Test.YtapjgancaldgaaaDiskLastsWalk
namespace Go.Proofs.Ytapjgancaldgaaa
set_option maxRecDepth 100000
open Go.RowKit

theorem RD.stays {F : Nat → Prop} {w w' : World} {p : Nat} {S : St} (h : RD F w p S) (hk : ∀ k, k < w.heap.size → F k → w'.heap[k]? = w.heap[k]?) (hs : w.heap.size ≤ w'.heap.size) : RD F w' p S := by
  obtain ⟨vs, gd, cd, gt, ct, vw, h⟩ := h
  exact ⟨vs, gd, cd, gt, ct, vw, h.stays hk hs⟩
theorem RD.mono {F F' : Nat → Prop} {w : World} {p : Nat} {S : St} (h : RD F w p S) (hF : ∀ k, k < w.heap.size → F k → F' k) : RD F' w p S := by
  obtain ⟨vs, gd, cd, gt, ct, vw, h⟩ := h
  exact ⟨vs, gd, cd, gt, ct, vw, h.mono hF⟩

/-- The program's disk d holds S, the reference's disk p holds T. -/
structure BM (w : World) (d p : Nat) (S T : St) (F G : Nat → Prop) : Prop where
  a : PD F w d S
  b : RD G w p T
  dis : ∀ k, F k → ¬ G k
  flt : ∀ k, F k → k < w.heap.size
  glt : ∀ k, G k → k < w.heap.size
section
variable {w w' : World} {d p : Nat} {S T S' : St} {F G : Nat → Prop}
theorem BM.grow (h : BM w d p S T F G) (hk : ∀ k, k < w.heap.size → w'.heap[k]? = w.heap[k]?) (hs : w.heap.size ≤ w'.heap.size) : BM w' d p S T F G :=
  ⟨h.a.stays fun k hk' _ => hk k hk', h.b.stays (fun k hk' _ => hk k hk') hs, h.dis, fun k hf => Nat.lt_of_lt_of_le (h.flt k hf) hs, fun k hf => Nat.lt_of_lt_of_le (h.glt k hf) hs⟩
theorem BM.below (h : BM w d p S T F G) (hb : Below w.heap.size w w') : BM w' d p S T F G := h.grow (fun k hk => hb.block k hk) hb.size
theorem BM.drew (h : BM w d p S T F G) : BM w.drew d p S T F G := h.grow (fun _ _ => rfl) (Nat.le_refl _)
/-- The program's disk went on. -/
theorem BM.stepA (h : BM w d p S T F G) (hp : PD (Gr F w) w' d S') (ho : Out F w w') : BM w' d p S' T (fun j => Gr F w j ∧ j < w'.heap.size) G :=
  ⟨hp.shut, h.b.stays (fun k hk hg => ho.block k hk (fun hf => h.dis k hf hg)) ho.size, fun k hk hg => by
    rcases hk.1 with h1 | h1
    · exact h.dis k h1 hg
    · have := h.glt k hg; omega, fun k hk => hk.2, fun k hg => Nat.lt_of_lt_of_le (h.glt k hg) ho.size⟩
/-- The reference's disk went on. -/
theorem BM.stepB (h : BM w d p S T F G) (hp : RD (Gr G w) w' p S') (ho : Out G w w') : BM w' d p S S' F (fun j => Gr G w j ∧ j < w'.heap.size) :=
  ⟨h.a.stays (fun k hk hf => ho.block k hk (fun hg => h.dis k hf hg)), hp.mono (fun k hk hg => ⟨hg, hk⟩), fun k hf hk => by
    rcases hk.1 with h1 | h1
    · exact h.dis k hf h1
    · have := h.flt k hf; omega, fun k hf => Nat.lt_of_lt_of_le (h.flt k hf) ho.size, fun k hk => hk.2⟩
end

theorem drewN_heap (w : World) (n : Nat) : (w.drewN n).heap = w.heap := by
  induction n generalizing w with
  | zero => rfl
  | succ n ih => simp [World.drewN]

set_option maxHeartbeats 4000000 in
theorem limages {w : World} {d p : Nat} {S : St} {F G : Nat → Prop} (h : BM w d p S S F G) (hm : S.pend.length < 2199023255552) :
    Calls Try.prog 21 #[.pointer (some ⟨d, 0, none⟩), .pointer (some ⟨p, 0, none⟩)] w fun e w' => e = .returned (.bool true) ∧ Below w.heap.size w w' := by
  have wf := h.a.wf
  have ci := dimage h.a
  have HB := Lib.hid h
  have WF := Lib.hid wf
  have HM := Lib.hid hm
  clear h hm wf
  go_enter Try.func21, Try.ntmps21
  go_upto_region 2 with (go_at_call 64; refine ci.mono ?_; intro e w1 hI; obtain ⟨g1, cap1, A1, n1, c1, hE, I1, b1⟩ := image_at hI WF.out.lo WF.out.hi WF.out.lb; subst hE; have I1 := Lib.hid I1; have B1 := Lib.hid b1; have M1 := Lib.hid (HB.out.below b1); clear hI b1 ci)
  go_upto_region 3 with (go_at_call 65; refine (rimage M1.out.b).mono ?_; intro e w2 hI; obtain ⟨g2, cap2, A2, n2, c2, hE, I2, b2⟩ := image_at hI WF.out.lo WF.out.hi WF.out.lb; subst hE; have I2 := Lib.hid I2; have B2 := Lib.hid b2; have M2 := Lib.hid (M1.out.below b2); clear hI b2)
  go_upto_region 4 with (go_at_call 36; refine (pcounts M2.out.a).mono ?_; rintro e w3 ⟨rfl, hw3⟩; subst hw3)
  have SR := M2.out.b
  obtain ⟨vs, gd, cd, gt, ct, vw, R2⟩ := SR
  have HR1 := Lib.hid (show ∀ W : World, W.heap = w2.heap → RB W (some ⟨g1, 0, none⟩) (S.last.length * 64) (imgB S.last) ∧ RB W (some ⟨g2, 0, none⟩) (S.last.length * 64) (imgB S.last) ∧ RI W A1 n1 (tornN S.last S.last.length) ∧ RI W A2 n2 (tornN S.last S.last.length) ∧ BM W d p S S F G from fun W hW => by
    have hk : ∀ (q : Addr) v, w2.cell? q = some v → W.cell? q = some v := fun q v hq => (World.cell?_of_block (by rw [hW])).trans hq
    exact ⟨(I1.out.rb.below' B2.out).keep hk, I2.out.rb.keep hk, (I1.out.ri.below B2.out).keep hk, I2.out.ri.keep hk, M2.out.grow (fun k _ => by rw [hW]) (by rw [hW]; exact Nat.le_refl _)⟩)
  have HS := Lib.hid (show ∀ W : World, Below w2.heap.size w2 W → (W.cell? ⟨p, 1, none⟩ = some (.bool S.off) ∧ W.cell? ⟨p, 3, none⟩ = some (.slice (some ⟨gd, 0, none⟩) S.last.length cd) ∧ W.cell? ⟨p, 5, none⟩ = some vw ∧ W.cell? ⟨p, 6, none⟩ = some (.int .i64 S.writes) ∧ W.cell? ⟨p, 7, none⟩ = some (.int .i64 S.syncs)) ∧ RWait G W vw S.pend p gd gt from fun W hW =>
    ⟨⟨keep_below (R2.cell 1) hW, keep_below (R2.cell 3) hW, keep_below (R2.cell 5) hW, keep_below (R2.cell 6) hW, keep_below (R2.cell 7) hW⟩, R2.wait.stays (fun k hk _ _ _ _ => hW.block k hk) hW.size (fun _ _ h => h)⟩)
  have hS3 := (HS.out w2.drew.drew ((Below.refl _ _).drew.drew)).1
  have HNN := Lib.hid I1.out.nt_
  have HNL := Lib.hid (show n1 = n2 from I1.out.ri.len.symm.trans I2.out.ri.len)
  clear R2
  obtain rfl : n1 = n2 := HNL.out
  go_region_held3 (fun W => W.cell? ⟨p, 1, none⟩ = some (.bool S.off) ∧ W.cell? ⟨p, 3, none⟩ = some (.slice (some ⟨gd, 0, none⟩) S.last.length cd) ∧ W.cell? ⟨p, 5, none⟩ = some vw ∧ W.cell? ⟨p, 6, none⟩ = some (.int .i64 S.writes) ∧ W.cell? ⟨p, 7, none⟩ = some (.int .i64 S.syncs))
    (first | exact hS3 | exact hS4 | exact hS5 | exact hS6)
    (first
      | (go_at_call 61; refine (lalike_same cap1 cap2 (HR1.out _ (by rfl)).1 (HR1.out _ (by rfl)).2.1).mono ?_; rintro e w' ⟨rfl, hw⟩; subst hw)
      | (go_at_call 66; go_loud (refine (lints (HR1.out _ (by rfl)).2.2.1 (HR1.out _ (by rfl)).2.2.2.1 _ _ (by have := HNN.out; omega)).mono ?_; rintro e w4 ⟨rfl, m4, hw4⟩; have E4 := Lib.hid (show w4.heap = w2.heap by rw [hw4, drewN_heap]; rfl); have B4 := Lib.hid (show Below w2.heap.size w2 w4 by rw [hw4]; exact ⟨rfl, rfl, rfl, Nat.le_refl _, fun _ _ => rfl⟩); have hS4 := (HS.out w4 B4.out).1; clear hw4))
      | (go_at_call 25; refine (poff (HR1.out _ (by exact E4.out)).2.2.2.2.a).mono ?_; rintro e w' ⟨rfl, rfl⟩)
      | (go_at_call 63; go_loud (refine (dpending (HR1.out _ (by exact E4.out)).2.2.2.2.a HM.out).mono ?_; rintro e w5 ⟨L5, G5, hE, pr5, b5⟩; obtain rfl : e = .returned (.slice (some ⟨w4.heap.size, 0, none⟩) S.pend.length S.pend.length) := hE; have PR5 := Lib.hid pr5; have B5 := Lib.hid (show Below w2.heap.size w2 w5 from B4.out.trans (b5.mono B4.out.size)); have RW5 := Lib.hid (HS.out w5 B5.out).2; have hS5 := (HS.out w5 B5.out).1; clear pr5 b5))
      | (go_at_call 62; go_loud (refine (lpendR PR5.out RW5.out WF.out.pb (by have := HM.out; omega)).mono ?_; rintro e w6 ⟨rfl, m6, hw6⟩; have B6 := Lib.hid (show Below w2.heap.size w2 w6 by rw [hw6]; exact B5.out.trans ⟨rfl, rfl, rfl, Nat.le_refl _, fun _ _ => rfl⟩); have hS6 := (HS.out w6 B6.out).1; have M6 := Lib.hid (M2.out.below B6.out); clear hw6))
      | (go_at_call 39; refine (pblocks M6.out.a).mono ?_; rintro e w' ⟨rfl, rfl⟩))
  all_goals
    go_wp2
    go_ret
    exact ⟨by simp, ((B1.out.trans (B2.out.mono B1.out.size)).trans (B6.out.mono (Nat.le_trans B1.out.size B2.out.size)))⟩
end Go.Proofs.Ytapjgancaldgaaa
