/- Layer 9: the law's begun; both sides' notes when they are new. -/
import Derived.Test.YtcpifanhmkblmaaJAR
namespace Go.Proofs.Ytcpifanhmkblmaa
set_option maxRecDepth 100000
set_option maxRecDepth 100000
open Go.RowKit

def refCells (m : Int) : Obj := .cells #[.int .i64 m, .slice none 0 0] 26
theorem rc_cells {w : World} {b : Nat} {m : Int} (h : w.heap[b]? = some (refCells m)) : w.cell? ⟨b, 0, none⟩ = some (.int .i64 m) ∧ w.cell? ⟨b, 1, none⟩ = some (.slice none 0 0) ∧ w.frozen? ⟨b, 0, none⟩ = false ∧ w.frozen? ⟨b, 1, none⟩ = false :=
  ⟨cell_of_row _ _ 0 _ _ _ h, cell_of_row _ _ 1 _ _ _ h, frozen_of_row _ _ _ _ _ h, frozen_of_row _ _ _ _ _ h⟩
theorem rc_set {w : World} {b : Nat} {m : Int} (h : w.heap[b]? = some (refCells m)) (q : Int) : ((w.setCell ⟨b, 0, none⟩ (.int .i64 q)).setCell ⟨b, 1, none⟩ (.slice none 0 0)).heap[b]? = some (refCells q) := by
  have h1 := heap_setCell_same w b 0 _ _ (.int .i64 q) h
  have h2 := heap_setCell_same (w.setCell ⟨b, 0, none⟩ (.int .i64 q)) b 1 _ _ (.slice none 0 0) h1
  exact h2
section
variable {M : World → (Nat → Prop) → Nat → Nat → List Nt → Prop}
/-- What begun answers where there may be such a cap. -/
def BegRes (M : World → (Nat → Prop) → Nat → Nat → List Nt → Prop) (m : Nat) (w : World) (e : Ending) (w' : World) : Prop :=
  ∃ r G, e = .returned (.tuple #[.pointer (some ⟨r, 0, none⟩), .agg #[.int .i64 (m : Int), .slice none 0 0], .bool true]) ∧ M w' G r m [] ∧ (∀ k, G k → w.heap.size ≤ k) ∧ Below w.heap.size w w'
set_option maxHeartbeats 8000000 in
theorem wbegun9_no (I : Api9 M) (w : World) (m : Int) (hm : capP m = false) :
    Calls Try.prog 10 #[.int .i64 m] w fun e w' => e = .returned (.tuple #[.pointer none, .agg #[.int .i64 m, .slice none 0 0], .bool true]) ∧ Below w.heap.size w w' := by
  obtain ⟨W, hW⟩ : ∃ W, w.alloc (.cells #[.int .i64 0, .slice none 0 0] 26) = W := ⟨_, rfl⟩
  have HW := Lib.hid hW
  have hB : Below w.heap.size w W := by rw [← hW]; exact below_alloc9 _ _
  have q : W.heap[w.heap.size]? = some (refCells 0) := by rw [← hW]; exact heap_alloc_new _ _
  have HB := Lib.hid hB
  have HQ := Lib.hid q
  have CN := Lib.hid (fun W => I.bad W m hm)
  have CR := Lib.hid (fun W => wrNew9 W m)
  rw [hm] at CR
  clear hW hB q I hm
  go_enter Try.func10, Try.ntmps10
  go_upto_region 1 with fail
  rw [HW.out]
  go_upto_region 2 with (go_at_call 20; go_loud (refine (CN.out _).mono ?_; rintro e w1 ⟨rfl, b1⟩; have B1 := Lib.hid (below_next HB.out b1); have Q1 := Lib.hid ((b1.block _ (Array.getElem?_eq_some_iff.1 HQ.out).1).trans HQ.out); clear b1))
  go_upto_region 3 with (go_at_call 30; go_loud (refine (CR.out _).mono ?_; rintro e w2 ⟨rfl, b2⟩; have B2 := Lib.hid (below_next B1.out b2); have Q2 := Lib.hid ((b2.block _ (Array.getElem?_eq_some_iff.1 Q1.out).1).trans Q1.out); clear b2))
  obtain ⟨W3, hW3⟩ : ∃ W, w2.alloc (.cells #[.int .i64 m, .slice none 0 0] 26) = W := ⟨_, rfl⟩
  have HW3 := Lib.hid hW3
  have b3 : Below w2.heap.size w2 W3 := by rw [← hW3]; exact below_alloc9 _ _
  have B3 := Lib.hid (below_next B2.out b3)
  have q3 : W3.heap[w2.heap.size]? = some (refCells m) := by rw [← hW3]; exact heap_alloc_new _ _
  have q0 := (b3.block _ (Array.getElem?_eq_some_iff.1 Q2.out).1).trans Q2.out
  obtain ⟨x0, x1, -, -⟩ := rc_cells q3
  obtain ⟨z0, z1, f0, f1⟩ := rc_cells q0
  have hq := rc_set q0 m
  have BV := Lib.hid (show Below w.heap.size w ((W3.setCell ⟨w.heap.size, 0, none⟩ (.int .i64 m)).setCell ⟨w.heap.size, 1, none⟩ (.slice none 0 0)) from (B3.out.setCell (Nat.le_refl _) _).setCell (Nat.le_refl _) _)
  have HQ5 := Lib.hid hq
  rw [HW3.out]
  clear hW3 b3 q3 q0 hq
  go_wp2
  go_region
  all_goals
    go_wp2
    obtain ⟨v0, v1, -, -⟩ := rc_cells HQ5.out
    refine bodyPost_ret (v := .tuple #[.pointer none, .agg #[.int .i64 m, .slice none 0 0], .bool true]) (by simp [results, Try.results10, go_sem, v0, v1]) rfl ⟨rfl, BV.out.drew⟩
set_option maxHeartbeats 8000000 in
theorem wbegun9 (I : Api9 M) (w : World) (m : Nat) (h1 : 1 ≤ m) (h2 : m ≤ 65536) :
    Calls Try.prog 10 #[.int .i64 (m : Int)] w (BegRes M m w) := by
  obtain ⟨W, hW⟩ : ∃ W, w.alloc (.cells #[.int .i64 0, .slice none 0 0] 26) = W := ⟨_, rfl⟩
  have HW := Lib.hid hW
  have hB : Below w.heap.size w W := by rw [← hW]; exact below_alloc9 _ _
  have q : W.heap[w.heap.size]? = some (refCells 0) := by rw [← hW]; exact heap_alloc_new _ _
  have HZ := Lib.hid (show W.heap.size = w.heap.size + 1 by rw [← hW]; simp)
  have HB := Lib.hid hB
  have HQ := Lib.hid q
  have CN := Lib.hid (fun W => I.new W m h1 h2)
  have CR := Lib.hid (fun W => wrNew9 W (m : Int))
  rw [show capP (m : Int) = true by unfold capP; simp; omega] at CR
  have IB := Lib.hid I
  clear hW hB q I h1 h2
  go_enter Try.func10, Try.ntmps10
  go_upto_region 1 with fail
  rw [HW.out]
  go_upto_region 2 with (go_at_call 20; go_loud (refine (CN.out _).mono ?_; rintro e w1 ⟨r, G, rfl, m1, g1, b1⟩; have M1 := Lib.hid m1; have G1 := Lib.hid g1; have B1 := Lib.hid (below_next HB.out b1); have Q1 := Lib.hid ((b1.block _ (Array.getElem?_eq_some_iff.1 HQ.out).1).trans HQ.out); clear b1 m1 g1))
  go_upto_region 3 with (go_at_call 30; go_loud (refine (CR.out _).mono ?_; rintro e w2 ⟨rfl, b2⟩; have B2 := Lib.hid (below_next B1.out b2); have M2 := Lib.hid (IB.out.below M1.out b2); have Q2 := Lib.hid ((b2.block _ (Array.getElem?_eq_some_iff.1 Q1.out).1).trans Q1.out); clear b2))
  obtain ⟨W3, hW3⟩ : ∃ W, w2.alloc (.cells #[.int .i64 (m : Int), .slice none 0 0] 26) = W := ⟨_, rfl⟩
  have HW3 := Lib.hid hW3
  have b3 : Below w2.heap.size w2 W3 := by rw [← hW3]; exact below_alloc9 _ _
  have B3 := Lib.hid (below_next B2.out b3)
  have M3 := Lib.hid (IB.out.below M2.out b3)
  have q3 : W3.heap[w2.heap.size]? = some (refCells m) := by rw [← hW3]; exact heap_alloc_new _ _
  have q0 := (b3.block _ (Array.getElem?_eq_some_iff.1 Q2.out).1).trans Q2.out
  obtain ⟨x0, x1, -, -⟩ := rc_cells q3
  obtain ⟨z0, z1, f0, f1⟩ := rc_cells q0
  have hq := rc_set q0 m
  have BV := Lib.hid (show Below w.heap.size w ((W3.setCell ⟨w.heap.size, 0, none⟩ (.int .i64 m)).setCell ⟨w.heap.size, 1, none⟩ (.slice none 0 0)) from (B3.out.setCell (Nat.le_refl _) _).setCell (Nat.le_refl _) _)
  have OV : Out (fun k => ¬ G k) W3 ((W3.setCell ⟨w.heap.size, 0, none⟩ (.int .i64 m)).setCell ⟨w.heap.size, 1, none⟩ (.slice none 0 0)) := by
    have hg : ¬ G w.heap.size := fun hg => by have := G1.out _ hg; have := HZ.out; omega
    exact ((Out.refl _ _).setCell (.inl hg) _).setCell (.inl hg) _
  have M5 := Lib.hid (IB.out.stays M3.out OV)
  have HQ5 := Lib.hid hq
  have G5 := Lib.hid (fun k (hk : G k) => (show w.heap.size ≤ k by have := G1.out _ hk; have := HZ.out; omega))
  rw [HW3.out]
  clear hW3 b3 q3 q0 hq OV
  go_wp2
  go_region
  all_goals
    go_wp2
    obtain ⟨v0, v1, -, -⟩ := rc_cells HQ5.out
    refine bodyPost_ret (v := .tuple #[.pointer (some ⟨r, 0, none⟩), .agg #[.int .i64 (m : Int), .slice none 0 0], .bool true]) (by simp [results, Try.results10, go_sem, v0, v1]) rfl ⟨r, G, rfl, IB.out.below M5.out (Below.refl _ _).drew, G5.out, BV.out.drew⟩
theorem rn_new (F : Nat → Prop) (w : World) (m : Nat) : RN F (w.alloc (.cells #[.int .i64 (m : Int), .slice none 0 0] 26)) w.heap.size m [] :=
  ⟨none, 0, heap_alloc_new _ _, SB.empty _ _, Nat.le_refl _, by simp [maxLen], by simp⟩
/-- Both sides' notes are new. -/
theorem two9_new (I : Api9 M) {w0 w : World} {G : Nat → Prop} {r m : Nat} (h1 : 1 ≤ m) (h2 : m ≤ 65536) (hm : M w G r m []) (hG : ∀ k, G k → w0.heap.size ≤ k) (hb : Below w0.heap.size w0 w) :
    Two9 M w0 (w.alloc (.cells #[.int .i64 (m : Int), .slice none 0 0] 26)) G r w.heap.size m [] [] :=
  ⟨I.below hm (below_alloc9 _ _), rn_new _ _ _, ⟨Inv9.nil m, by simp [SzL], h1, h2⟩, hG, fun hg => by have := I.lt hm _ hg; omega, hb.alloc hb.size _, hb.size⟩
end
end Go.Proofs.Ytcpifanhmkblmaa
