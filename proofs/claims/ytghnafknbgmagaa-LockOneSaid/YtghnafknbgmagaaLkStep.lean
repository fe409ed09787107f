/- Layer 8: the law's step: Take (with a trial manager's contract). -/
import Derived.Test.YtghnafknbgmagaaLkMan3
import Derived.Test.YtghnafknbgmagaaLkSame
import Derived.Test.YtghnafknbgmagaaLkOpen
import Derived.Deep.RegionHeld3
namespace Go.Proofs.Ytghnafknbgmagaa
set_option maxRecDepth 100000
set_option maxRecDepth 100000
open Go.RowKit Go.Maps Go.ChangeMaps Go.MapKept

theorem no_map {w : World} {p : Addr} {v : Value} (h : w.cell? p = some v) {es : Array MapEntry} {c : Nat} : w.heap[p.block]? ≠ some (.map es c) := by
  intro e
  unfold World.cell? at h
  rw [e] at h
  simp at h
theorem RM.out_map {w w' : World} {b r : Nat} {most : Int} {hs hs0 : List Hd} (h : RM w b most hs) (hm : MapAt w r hs0) (ho : Out (fun k => k = r) w w') : RM w' b most hs := by
  obtain ⟨A, c, h1, h2, h3⟩ := h.ex
  obtain ⟨D, ⟨es, cl, hr, -⟩, -⟩ := hm
  have hb : b ≠ r := by rintro rfl; rw [h1] at hr; cases hr
  refine ⟨A, c, (ho.block b (Array.getElem?_eq_some_iff.1 h1).1 hb).trans h1, ⟨h2.len, h2.one, fun h0 => ?_⟩, h3⟩
  obtain ⟨g, o, e, hc⟩ := h2.cell h0
  refine ⟨g, o, e, fun j u hj => ?_⟩
  have hcj := hc j u hj
  refine ho.cell hcj ?_
  show ¬ (g = r)
  rintro rfl
  exact no_map hcj hr
theorem MG.out_ref {w w' : World} {m r b : Nat} {most most0 : Int} {hs hs0 : List Hd} (h : MG w m r most hs) (hm : RM w b most0 hs0) (ho : Out (fun k => k = b) w w') : MG w' m r most hs := by
  obtain ⟨A, c, h1, -⟩ := hm.ex
  have hmb : m ≠ b := by
    rintro rfl
    have := h.blk
    rw [h1] at this
    simp at this
  have hrb : r ≠ b := fun e => h.map.no h1 e.symm
  exact ⟨(ho.block m (Array.getElem?_eq_some_iff.1 h.blk).1 hmb).trans h.blk, h.map.block (ho.block r h.map.lt hrb), h.m1, h.m2, h.len⟩
/-- What the script's manager and the reference's one hold alike. -/
structure Two8 (w : World) (m r b : Nat) (most : Int) (hs : List Hd) : Prop where
  mg : MG w m r most hs
  rm : RM w b most hs

set_option maxHeartbeats 8000000 in
theorem wstep_take {w : World} {m r b : Nat} {most : Int} {hs : List Hd} (h : Two8 w m r b most hs) (o : OpK) (hk : o.kind = 0) (hz : Sz o.at_) (ht : (Lit.int .i64 o.tx).wf = true) :
    Calls Try.prog 14 #[.pointer (some ⟨m, 0, none⟩), .pointer (some ⟨b, 0, none⟩), .agg #[.int .i64 o.kind, .int .i64 o.tx, .int .i64 o.snap, .int .i64 o.last, .string o.at_.1, .string o.at_.2, .string o.hi]] w
      fun e w' => e = .returned (.bool true) ∧ Two8 w' m r b most (takeP most hs o.tx o.snap o.last o.at_).2 ∧ Out (fun k => k = r ∨ k = b) w w' := by
  obtain ⟨kind, tx, snap, last, ⟨tb, ky⟩, hi⟩ := o
  simp only at hk hz ht ⊢
  subst hk
  obtain ⟨W, hW⟩ : ∃ W, w.alloc (.cells #[.int .i64 0, .int .i64 tx, .int .i64 snap, .int .i64 last, .string tb, .string ky, .string hi] 36) = W := ⟨_, rfl⟩
  have HW := Lib.hid hW
  have hB : Below w.heap.size w W := by rw [← hW]; exact (Below.refl _ _).alloc (Nat.le_refl _) _
  have q0 : W.heap[w.heap.size]? = some (.cells #[.int .i64 0, .int .i64 tx, .int .i64 snap, .int .i64 last, .string tb, .string ky, .string hi] 36 (0, 0)) := by rw [← hW]; exact heap_alloc_new _ _
  have x0 : W.cell? ⟨w.heap.size, 0, none⟩ = some (.int .i64 0) := cell_of_row _ _ 0 _ _ _ q0
  have S0 : W.cell? ⟨w.heap.size, 1, none⟩ = some (.int .i64 tx) ∧ W.cell? ⟨w.heap.size, 2, none⟩ = some (.int .i64 snap) ∧ W.cell? ⟨w.heap.size, 3, none⟩ = some (.int .i64 last) ∧ W.cell? ⟨w.heap.size, 4, none⟩ = some (.string tb) ∧ W.cell? ⟨w.heap.size, 5, none⟩ = some (.string ky) :=
    ⟨cell_of_row _ _ 1 _ _ _ q0, cell_of_row _ _ 2 _ _ _ q0, cell_of_row _ _ 3 _ _ _ q0, cell_of_row _ _ 4 _ _ _ q0, cell_of_row _ _ 5 _ _ _ q0⟩
  have M1 : MG W.drew m r most hs := h.mg.below (hB.drew)
  have R1 : RM W.drew b most hs := h.rm.gw hB.drew
  have CP := Lib.hid (wkTake M1 hz tx snap last ht)
  have hlen : hs.length ≤ 4000000 := by have := h.mg.len; have := h.mg.m2; omega
  have CR := Lib.hid (fun w2 (R2 : RM w2 b most hs) => wrTake R2 hlen tx snap last (tb, ky))
  have HM := Lib.hid M1
  have HR := Lib.hid R1
  have HB := Lib.hid hB
  have LT := Lib.hid (show r < w.heap.size ∧ b < w.heap.size by
    obtain ⟨A, c, h1, -⟩ := h.rm.ex
    exact ⟨h.mg.map.lt, (Array.getElem?_eq_some_iff.1 h1).1⟩)
  obtain ⟨an, han⟩ : ∃ an, takeP most hs tx snap last (tb, ky) = an := ⟨_, rfl⟩
  rw [han] at CP CR
  clear h hW hB q0 M1 R1 hlen hz ht
  go_enter Try.func14, Try.ntmps14
  go_upto_region 3 with fail
  rw [HW.out]
  unfold lkV at CP CR
  go_region_held3 (fun w' => w'.cell? ⟨w.heap.size, 1, none⟩ = some (.int .i64 tx) ∧ w'.cell? ⟨w.heap.size, 2, none⟩ = some (.int .i64 snap) ∧ w'.cell? ⟨w.heap.size, 3, none⟩ = some (.int .i64 last) ∧ w'.cell? ⟨w.heap.size, 4, none⟩ = some (.string tb) ∧ w'.cell? ⟨w.heap.size, 5, none⟩ = some (.string ky))
    (first | exact S0 | exact S2 | exact S3)
    (first
      | (go_at_call 12; go_loud (refine CP.out.mono ?_; rintro e w2 ⟨rfl, m2, o2⟩; have M2 := Lib.hid m2; have O2 := Lib.hid o2; have R2 := Lib.hid (HR.out.out_map HM.out.map o2); have S2 : w2.cell? ⟨w.heap.size, 1, none⟩ = some (.int .i64 tx) ∧ w2.cell? ⟨w.heap.size, 2, none⟩ = some (.int .i64 snap) ∧ w2.cell? ⟨w.heap.size, 3, none⟩ = some (.int .i64 last) ∧ w2.cell? ⟨w.heap.size, 4, none⟩ = some (.string tb) ∧ w2.cell? ⟨w.heap.size, 5, none⟩ = some (.string ky) := ⟨o2.cell S0.1 (by have := LT.out.1; show ¬ _ = _; simp; omega), o2.cell S0.2.1 (by have := LT.out.1; show ¬ _ = _; simp; omega), o2.cell S0.2.2.1 (by have := LT.out.1; show ¬ _ = _; simp; omega), o2.cell S0.2.2.2.1 (by have := LT.out.1; show ¬ _ = _; simp; omega), o2.cell S0.2.2.2.2 (by have := LT.out.1; show ¬ _ = _; simp; omega)⟩; clear m2 o2 CP))
      | (go_at_call 28; go_loud (refine (CR.out _ R2.out).mono ?_; rintro e w3 ⟨rfl, r3, o3⟩; have R3 := Lib.hid r3; have O3 := Lib.hid o3; have M3 := Lib.hid (M2.out.out_ref R2.out o3); have S3 : w3.cell? ⟨w.heap.size, 1, none⟩ = some (.int .i64 tx) ∧ w3.cell? ⟨w.heap.size, 2, none⟩ = some (.int .i64 snap) ∧ w3.cell? ⟨w.heap.size, 3, none⟩ = some (.int .i64 last) ∧ w3.cell? ⟨w.heap.size, 4, none⟩ = some (.string tb) ∧ w3.cell? ⟨w.heap.size, 5, none⟩ = some (.string ky) := ⟨o3.cell S2.1 (by have := LT.out.2; show ¬ _ = _; simp; omega), o3.cell S2.2.1 (by have := LT.out.2; show ¬ _ = _; simp; omega), o3.cell S2.2.2.1 (by have := LT.out.2; show ¬ _ = _; simp; omega), o3.cell S2.2.2.2.1 (by have := LT.out.2; show ¬ _ = _; simp; omega), o3.cell S2.2.2.2.2 (by have := LT.out.2; show ¬ _ = _; simp; omega)⟩; clear r3 o3 CR)))
  all_goals
    go_wp2
    go_ret
    rw [han]
    refine ⟨by first | rfl | simp, ⟨M3.out, R3.out⟩, ?_⟩
    exact ((Out.of_below HB.out.drew _).then (O2.out.mono fun _ _ h => .inl h)).then (O3.out.mono fun _ _ h => .inr h)
end Go.Proofs.Ytghnafknbgmagaa
