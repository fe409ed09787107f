import Derived.Test.YtknppiebncdjmaaGreatJAX
import Derived.Test.YtknppiebncdjmaaGreatJAC
import Derived.Lib.Overlaps
import Derived.Lib.AppendZerosOnto
import Derived.Laws.OwnMore
import Derived.Laws.Externs
import Derived.Laws.IdiomCopy
import Derived.Shelf.RegionOpenPlain
set_option linter.unusedVariables false
namespace Go.Proofs.YtknppiebncdjmaaGreat
set_option maxRecDepth 100000
open Go.RowKit Go.Maps Go.ChangeMaps Go.MapKept

def capOk (a k r l : Int) : Prop := (1 ≤ a ∧ a ≤ 64) ∧ (0 ≤ k ∧ k ≤ 1024) ∧ (1 ≤ r ∧ r ≤ 65536) ∧ 1 ≤ l ∧ l ≤ 4096
section
variable {M : MF}
set_option maxHeartbeats 8000000 in
theorem wxNew_no (I : Api9 M) (w : World) (a k r l now : Int) (h : ¬ (capOk a k r l ∧ 0 ≤ now)) :
    Calls Tryz.prog 11 #[.agg #[.int .i64 a, .int .i64 k, .int .i64 r, .int .i64 l], .int .i64 now] w fun e w' => e = .returned (.tuple #[.pointer none, .int .i64 1]) ∧ Below w.heap.size w w' := by
  obtain ⟨W, hW⟩ : ∃ W, w.alloc (.cells #[.int .i64 a, .int .i64 k, .int .i64 r, .int .i64 l] 23) = W := ⟨_, rfl⟩
  have hB : Below w.heap.size w W := by rw [← hW]; exact (Below.refl _ _).alloc (Nat.le_refl _) _
  have q0 : W.heap[w.heap.size]? = some (.cells #[.int .i64 a, .int .i64 k, .int .i64 r, .int .i64 l] 23 (0, 0)) := by rw [← hW]; exact heap_alloc_new _ _
  have x0 : W.cell? ⟨w.heap.size, 0, none⟩ = some (.int .i64 a) := cell_of_row _ _ 0 _ _ _ q0
  have x1 : W.cell? ⟨w.heap.size, 1, none⟩ = some (.int .i64 k) := cell_of_row _ _ 1 _ _ _ q0
  have x2 : W.cell? ⟨w.heap.size, 2, none⟩ = some (.int .i64 r) := cell_of_row _ _ 2 _ _ _ q0
  have x3 : W.cell? ⟨w.heap.size, 3, none⟩ = some (.int .i64 l) := cell_of_row _ _ 3 _ _ _ q0
  have HB := Lib.hid hB
  obtain ⟨e1, he1⟩ : ∃ e1 : Int, (if 1 ≤ l ∧ l ≤ 4096 then 0 else 1) = e1 := ⟨_, rfl⟩
  obtain ⟨e2, he2⟩ : ∃ e2 : Int, (if 1 ≤ r ∧ r ≤ 65536 then 0 else 1) = e2 := ⟨_, rfl⟩
  have CL := Lib.hid (show Calls Tryz.prog 36 #[.int .i64 l] W fun e w' => ∃ q1, e = .returned (.tuple #[.pointer q1, .int .i64 e1]) ∧ Below W.heap.size W w' from by
    by_cases hl : 1 ≤ l ∧ l ≤ 4096
    · rw [if_pos hl] at he1
      refine (wkNew (by omega)).mono ?_
      rintro e w' ⟨rfl, -, b⟩
      exact ⟨_, by rw [← he1], b⟩
    · rw [if_neg hl] at he1
      refine (wkNew_no (by omega)).mono ?_
      rintro e w' ⟨rfl, rfl⟩
      exact ⟨_, by rw [← he1], Below.refl _ _⟩)
  have CR := Lib.hid (show ∀ W1, Calls Tryz.prog 37 #[.int .i64 r] W1 fun e w' => ∃ q1, e = .returned (.tuple #[.pointer q1, .int .i64 e2]) ∧ Below W1.heap.size W1 w' from fun W1 => by
    by_cases hl : 1 ≤ r ∧ r ≤ 65536
    · rw [if_pos hl] at he2
      obtain ⟨m, rfl⟩ : ∃ m : Nat, r = (m : Int) := ⟨r.toNat, by omega⟩
      refine (I.new W1 m (by omega) (by omega)).mono ?_
      rintro e w' ⟨_, _, rfl, -, -, b⟩
      exact ⟨_, by rw [← he2], b⟩
    · rw [if_neg hl] at he2
      refine (I.bad W1 r ?_).mono ?_
      · unfold capP
        simp only [Bool.and_eq_false_iff, decide_eq_false_iff_not]
        omega
      · rintro e w' ⟨rfl, b⟩
        exact ⟨_, by rw [← he2], b⟩)
  have HE := Lib.hid (And.intro he1 he2)
  clear hB q0 he1 he2
  by_cases i1 : a < 1
  · clear h
    go_enter Tryz.func11, Tryz.ntmps11
    go_upto_region 1 with fail
    try rw [hW]
    go_wp2_with (first
      | (go_at_call 36; go_loud (refine CL.out.mono ?_; rintro e w2 ⟨q1, rfl, b2⟩; have B2 := Lib.hid (below_next HB.out b2); replace x0 := keep_below x0 b2; replace x1 := keep_below x1 b2; replace x2 := keep_below x2 b2; clear b2))
      | (go_at_call 37; go_loud (refine (CR.out _).mono ?_; rintro e w3 ⟨q2, rfl, b3⟩; have B3 := Lib.hid (below_next B2.out b3); replace x0 := keep_below x0 b3; replace x1 := keep_below x1 b3; clear b3)))
    refine bodyPost_ret (v := .tuple #[.pointer none, .int .i64 1]) (by simp [results, Tryz.results11, go_sem]) rfl ⟨rfl, B3.out⟩
  by_cases i2 : 64 < a
  · clear h
    go_enter Tryz.func11, Tryz.ntmps11
    go_upto_region 1 with fail
    try rw [hW]
    go_wp2_with (first
      | (go_at_call 36; go_loud (refine CL.out.mono ?_; rintro e w2 ⟨q1, rfl, b2⟩; have B2 := Lib.hid (below_next HB.out b2); replace x0 := keep_below x0 b2; replace x1 := keep_below x1 b2; replace x2 := keep_below x2 b2; clear b2))
      | (go_at_call 37; go_loud (refine (CR.out _).mono ?_; rintro e w3 ⟨q2, rfl, b3⟩; have B3 := Lib.hid (below_next B2.out b3); replace x0 := keep_below x0 b3; replace x1 := keep_below x1 b3; clear b3)))
    refine bodyPost_ret (v := .tuple #[.pointer none, .int .i64 1]) (by simp [results, Tryz.results11, go_sem]) rfl ⟨rfl, B3.out⟩
  by_cases i3 : k < 0
  · clear h
    go_enter Tryz.func11, Tryz.ntmps11
    go_upto_region 1 with fail
    try rw [hW]
    go_wp2_with (first
      | (go_at_call 36; go_loud (refine CL.out.mono ?_; rintro e w2 ⟨q1, rfl, b2⟩; have B2 := Lib.hid (below_next HB.out b2); replace x0 := keep_below x0 b2; replace x1 := keep_below x1 b2; replace x2 := keep_below x2 b2; clear b2))
      | (go_at_call 37; go_loud (refine (CR.out _).mono ?_; rintro e w3 ⟨q2, rfl, b3⟩; have B3 := Lib.hid (below_next B2.out b3); replace x0 := keep_below x0 b3; replace x1 := keep_below x1 b3; clear b3)))
    refine bodyPost_ret (v := .tuple #[.pointer none, .int .i64 1]) (by simp [results, Tryz.results11, go_sem]) rfl ⟨rfl, B3.out⟩
  by_cases i4 : 1024 < k
  · clear h
    go_enter Tryz.func11, Tryz.ntmps11
    go_upto_region 1 with fail
    try rw [hW]
    go_wp2_with (first
      | (go_at_call 36; go_loud (refine CL.out.mono ?_; rintro e w2 ⟨q1, rfl, b2⟩; have B2 := Lib.hid (below_next HB.out b2); replace x0 := keep_below x0 b2; replace x1 := keep_below x1 b2; replace x2 := keep_below x2 b2; clear b2))
      | (go_at_call 37; go_loud (refine (CR.out _).mono ?_; rintro e w3 ⟨q2, rfl, b3⟩; have B3 := Lib.hid (below_next B2.out b3); replace x0 := keep_below x0 b3; replace x1 := keep_below x1 b3; clear b3)))
    refine bodyPost_ret (v := .tuple #[.pointer none, .int .i64 1]) (by simp [results, Tryz.results11, go_sem]) rfl ⟨rfl, B3.out⟩
  by_cases i5 : 1 ≤ r ∧ r ≤ 65536
  · have e5 := HE.out.2
    rw [if_pos i5] at e5
    subst e5
    by_cases i6 : 1 ≤ l ∧ l ≤ 4096
    · have e6 := HE.out.1
      rw [if_pos i6] at e6
      subst e6
      by_cases i7 : now < 0
      · clear h
        go_enter Tryz.func11, Tryz.ntmps11
        go_upto_region 1 with fail
        try rw [hW]
        go_wp2_with (first
          | (go_at_call 36; go_loud (refine CL.out.mono ?_; rintro e w2 ⟨q1, rfl, b2⟩; have B2 := Lib.hid (below_next HB.out b2); replace x0 := keep_below x0 b2; replace x1 := keep_below x1 b2; replace x2 := keep_below x2 b2; clear b2))
          | (go_at_call 37; go_loud (refine (CR.out _).mono ?_; rintro e w3 ⟨q2, rfl, b3⟩; have B3 := Lib.hid (below_next B2.out b3); replace x0 := keep_below x0 b3; replace x1 := keep_below x1 b3; clear b3)))
        refine bodyPost_ret (v := .tuple #[.pointer none, .int .i64 1]) (by simp [results, Tryz.results11, go_sem]) rfl ⟨rfl, B3.out⟩
      · exact absurd ⟨⟨⟨by omega, by omega⟩, ⟨by omega, by omega⟩, i5, i6⟩, by omega⟩ h
    · have e6 := HE.out.1
      rw [if_neg i6] at e6
      subst e6
      clear h
      go_enter Tryz.func11, Tryz.ntmps11
      go_upto_region 1 with fail
      try rw [hW]
      go_wp2_with (first
        | (go_at_call 36; go_loud (refine CL.out.mono ?_; rintro e w2 ⟨q1, rfl, b2⟩; have B2 := Lib.hid (below_next HB.out b2); replace x0 := keep_below x0 b2; replace x1 := keep_below x1 b2; replace x2 := keep_below x2 b2; clear b2))
        | (go_at_call 37; go_loud (refine (CR.out _).mono ?_; rintro e w3 ⟨q2, rfl, b3⟩; have B3 := Lib.hid (below_next B2.out b3); replace x0 := keep_below x0 b3; replace x1 := keep_below x1 b3; clear b3)))
      refine bodyPost_ret (v := .tuple #[.pointer none, .int .i64 1]) (by simp [results, Tryz.results11, go_sem]) rfl ⟨rfl, B3.out⟩
  · have e5 := HE.out.2
    rw [if_neg i5] at e5
    subst e5
    clear h
    go_enter Tryz.func11, Tryz.ntmps11
    go_upto_region 1 with fail
    try rw [hW]
    go_wp2_with (first
      | (go_at_call 36; go_loud (refine CL.out.mono ?_; rintro e w2 ⟨q1, rfl, b2⟩; have B2 := Lib.hid (below_next HB.out b2); replace x0 := keep_below x0 b2; replace x1 := keep_below x1 b2; replace x2 := keep_below x2 b2; clear b2))
      | (go_at_call 37; go_loud (refine (CR.out _).mono ?_; rintro e w3 ⟨q2, rfl, b3⟩; have B3 := Lib.hid (below_next B2.out b3); replace x0 := keep_below x0 b3; replace x1 := keep_below x1 b3; clear b3)))
    refine bodyPost_ret (v := .tuple #[.pointer none, .int .i64 1]) (by simp [results, Tryz.results11, go_sem]) rfl ⟨rfl, B3.out⟩
set_option maxHeartbeats 8000000 in
theorem wxNew (I : Api9 M) (w : World) (a k : Int) (r : Nat) (l now : Int) (h : capOk a k r l) (hnow : 0 ≤ now) :
    Calls Tryz.prog 11 #[.agg #[.int .i64 a, .int .i64 k, .int .i64 (r : Int), .int .i64 l], .int .i64 now] w fun e w' => ∃ b ab kb fb lm lr rr GR, e = .returned (.tuple #[.pointer (some ⟨b, 0, none⟩), .int .i64 0]) ∧ Mem10 M w' b ab kb fb lm lr rr GR ⟨a, k, r, l⟩ ⟨now, 0, [], [], [], [], []⟩ ∧ (∀ x, BlG b ab kb fb lr GR x → w.heap.size ≤ x) ∧ w.heap.size ≤ lm ∧ Below w.heap.size w w' := by
  obtain ⟨⟨h1, h2⟩, ⟨h3, h4⟩, ⟨h5, h6⟩, h7, h8⟩ := h
  obtain ⟨W, hW⟩ : ∃ W, w.alloc (.cells #[.int .i64 a, .int .i64 k, .int .i64 (r : Int), .int .i64 l] 23) = W := ⟨_, rfl⟩
  have hB : Below w.heap.size w W := by rw [← hW]; exact (Below.refl _ _).alloc (Nat.le_refl _) _
  have q0 : W.heap[w.heap.size]? = some (.cells #[.int .i64 a, .int .i64 k, .int .i64 (r : Int), .int .i64 l] 23 (0, 0)) := by rw [← hW]; exact heap_alloc_new _ _
  have x0 : W.cell? ⟨w.heap.size, 0, none⟩ = some (.int .i64 a) := cell_of_row _ _ 0 _ _ _ q0
  have x1 : W.cell? ⟨w.heap.size, 1, none⟩ = some (.int .i64 k) := cell_of_row _ _ 1 _ _ _ q0
  have x2 : W.cell? ⟨w.heap.size, 2, none⟩ = some (.int .i64 (r : Int)) := cell_of_row _ _ 2 _ _ _ q0
  have x3 : W.cell? ⟨w.heap.size, 3, none⟩ = some (.int .i64 l) := cell_of_row _ _ 3 _ _ _ q0
  have HB := Lib.hid hB
  have CL := Lib.hid (wkNew (w := W) (most := l) (by omega))
  have CR := Lib.hid (fun W1 => I.new W1 r (by omega) (by omega))
  have hmm := @run_makeMap Tryz.prog
  have i1 : ¬ a < 1 := by omega
  have i2 : ¬ 64 < a := by omega
  have i3 : ¬ k < 0 := by omega
  have i4 : ¬ 1024 < k := by omega
  have i7 : ¬ now < 0 := by omega
  have HH := Lib.hid (And.intro h5 h6)
  clear hB q0 h1 h2 h3 h4 h5 h6 h7 h8 hnow
  go_enter Tryz.func11, Tryz.ntmps11
  go_upto_region 1 with fail
  try rw [hW]
  clear hW
  go_upto_region 3 with (first
    | (go_at_call 36; go_loud (refine CL.out.mono ?_; rintro e w2 ⟨rfl, l2, b2⟩; have L2 := Lib.hid l2; have B2 := Lib.hid (below_next HB.out b2); have HS2 := Lib.hid b2; replace x0 := keep_below x0 b2; replace x1 := keep_below x1 b2; replace x2 := keep_below x2 b2; replace x3 := keep_below x3 b2; clear b2 l2))
    | (go_at_call 37; go_loud (refine (CR.out _).mono ?_; rintro e w3 ⟨rr, GR, rfl, m3, g3, b3⟩; have M3 := Lib.hid m3; have G3 := Lib.hid g3; have B3 := Lib.hid (below_next B2.out b3); have L3 := Lib.hid (L2.out.below b3); have HS3 := Lib.hid b3; replace x0 := keep_below x0 b3; replace x1 := keep_below x1 b3; replace x2 := keep_below x2 b3; replace x3 := keep_below x3 b3; clear b3 m3 g3)))
  obtain ⟨n0, hn0⟩ : ∃ n, w3.heap.size = n := ⟨_, rfl⟩
  obtain ⟨n1, hn1⟩ : ∃ n, n0 + 1 = n := ⟨_, rfl⟩
  obtain ⟨n2, hn2⟩ : ∃ n, n1 + 1 = n := ⟨_, rfl⟩
  obtain ⟨n3, hn3⟩ : ∃ n, n2 + 1 = n := ⟨_, rfl⟩
  obtain ⟨W5, hW5⟩ : ∃ W, w3.alloc (.map #[] 0) = W := ⟨_, rfl⟩
  obtain ⟨W6, hW6⟩ : ∃ W, W5.alloc (.map #[] 0) = W := ⟨_, rfl⟩
  obtain ⟨W7, hW7⟩ : ∃ W, W6.alloc (.map #[] 0) = W := ⟨_, rfl⟩
  have s5 : W5.heap.size = n1 := by rw [← hW5]; simp [hn0, hn1]
  have s6 : W6.heap.size = n2 := by rw [← hW6]; simp [s5, hn2]
  have s7 : W7.heap.size = n3 := by rw [← hW7]; simp [s6, hn3]
  obtain ⟨W8, hW8⟩ : ∃ U, W7.alloc (.cells #[.int .i64 a, .int .i64 k, .int .i64 (r : Int), .int .i64 l, .int .i64 now, .int .i64 0, .map (some n0), .map (some n1), .map (some n2), .pointer (some ⟨W.heap.size + 1, 0, none⟩), .pointer (some ⟨rr, 0, none⟩)] 92) = U := ⟨_, rfl⟩
  have b5 : Below w3.heap.size w3 W5 := by rw [← hW5]; exact (Below.refl _ _).alloc (Nat.le_refl _) _
  have b6 : Below W5.heap.size W5 W6 := by rw [← hW6]; exact (Below.refl _ _).alloc (Nat.le_refl _) _
  have b7 : Below W6.heap.size W6 W7 := by rw [← hW7]; exact (Below.refl _ _).alloc (Nat.le_refl _) _
  have b8 : Below W7.heap.size W7 W8 := by rw [← hW8]; exact (Below.refl _ _).alloc (Nat.le_refl _) _
  have b38 : Below w3.heap.size w3 W8 := below_next (below_next (below_next b5 b6) b7) b8
  have q8 : W8.heap[n3]? = some (.cells #[.int .i64 a, .int .i64 k, .int .i64 (r : Int), .int .i64 l, .int .i64 now, .int .i64 0, .map (some n0), .map (some n1), .map (some n2), .pointer (some ⟨W.heap.size + 1, 0, none⟩), .pointer (some ⟨rr, 0, none⟩)] 92 (0, 0)) := by rw [← hW8, ← s7]; exact heap_alloc_new _ _
  have ma : MapM KI W8 n0 (actM []) := by
    have : MapM KI W5 n0 [] := by rw [← hW5, ← hn0]; exact MapM.new KI w3
    exact ((this.block (b6.block _ (by omega))).block (b7.block _ (by omega))).block (b8.block _ (by omega))
  have mb : MapM KI W8 n1 (kepM []) := by
    have : MapM KI W6 n1 [] := by rw [← hW6, ← s5]; exact MapM.new KI W5
    exact (this.block (b7.block _ (by omega))).block (b8.block _ (by omega))
  have mc : MapM KI W8 n2 (flgM []) := by
    have : MapM KI W7 n2 [] := by rw [← hW7, ← s6]; exact MapM.new KI W6
    exact this.block (b8.block _ (by omega))
  have ll : MG W8 (W.heap.size + 1) W.heap.size l [] := L3.out.below b38
  have mr : M W8 GR rr r [] := I.below M3.out b38
  have hg2 := G3.out
  have hg3 := I.lt M3.out
  have hl2 : W.heap.size + 1 < w2.heap.size := (Array.getElem?_eq_some_iff.1 L2.out.blk).1
  have hs3 := HS3.out.size
  have hsz := HB.out.size
  have hMem : Mem10 M W8 n3 n0 n1 n2 (W.heap.size + 1) W.heap.size rr GR ⟨a, k, r, l⟩ ⟨now, 0, [], [], [], [], []⟩ := by
    refine ⟨q8, ma, mb, mc, ll, mr, by simp, ?_, fun x hx hg => ?_, by simp⟩
    · simp only [List.nodup_cons, List.mem_cons, List.not_mem_nil, or_false, not_or, List.nodup_nil, not_false_eq_true, and_true]
      omega
    · have h1 := hg2 x hg
      have h2 := hg3 x hg
      simp only [List.mem_cons, List.not_mem_nil, or_false] at hx
      omega
  have HM := Lib.hid hMem
  have HBL := Lib.hid (show (∀ x, BlG n3 n0 n1 n2 W.heap.size GR x → w.heap.size ≤ x) ∧ w.heap.size ≤ W.heap.size + 1 ∧ Below w.heap.size w W8 from by
    refine ⟨fun x hx => ?_, by omega, below_next B3.out b38⟩
    have h3 := B2.out.size
    rcases hx with hx | hx
    · simp only [List.mem_cons, List.not_mem_nil, or_false] at hx
      have := B3.out.size
      omega
    · have := hg2 x hx; omega)
  clear b5 b6 b7 b8 b38 q8 ma mb mc ll mr hg2 hg3 hl2 hs3 hsz hMem
  go_wp2
  refine bodyPost_ret (v := .tuple #[.pointer (some ⟨n3, 0, none⟩), .int .i64 0]) (by simp [results, Tryz.results11, go_sem]) rfl ⟨n3, n0, n1, n2, W.heap.size + 1, W.heap.size, rr, GR, rfl, HM.out, HBL.out.1, HBL.out.2.1, HBL.out.2.2⟩
end
end Go.Proofs.YtknppiebncdjmaaGreat

namespace Go.Proofs.YtknppiebncdjmaaGreat
set_option maxRecDepth 100000
open Go.RowKit

def ptV (p : Nat) : Value := .pointer (some ⟨p, 0, none⟩)
def ptC (ps : List Nat) : List Value := ps.map ptV
theorem ptC_len (ps : List Nat) : (ptC ps).length = ps.length := by simp [ptC]
theorem ptC_one (ps : List Nat) : ∀ u ∈ ptC ps, u.oneCell' = true := fun u hu => by
  obtain ⟨p, -, rfl⟩ := List.mem_map.1 hu
  rfl
abbrev Rw (w : World) (g c : Nat) (cur : List Value) : Prop := w.ownsRow 0 163 1 (.slice (some ⟨g, 0, none⟩) c c) c cur
theorem Rw.len {w : World} {g c : Nat} {cur : List Value} (h : Rw w g c cur) : cur.length = c := by have := h.1; omega
theorem Rw.heap {w : World} {g c : Nat} {cur : List Value} (h : Rw w g c cur) : w.heap[g]? = some (.cells cur.toArray 163 (0, 0)) ∧ c ≤ maxLen := by
  rcases h.2 with ⟨h0, -⟩ | ⟨g', cap, cu, e, -, hh, h1, h2, h3, h4⟩
  · cases h0
  · obtain ⟨rfl, rfl⟩ : g = g' ∧ c = cap := by simpa using e
    have : cur = cu.toList := by rw [← h4, List.take_of_length_le (by simp [h3])]
    rw [this]
    exact ⟨hh, h2⟩
theorem Rw.of {w : World} {g : Nat} {cur : List Value} (h : w.heap[g]? = some (.cells cur.toArray 163 (0, 0))) (hm : cur.length ≤ maxLen) : Rw w g cur.length cur :=
  ⟨by simp, .inr ⟨g, cur.length, cur.toArray, rfl, Nat.zero_le _, h, Nat.le_refl _, hm, by simp, by simp⟩⟩
theorem Rw.cell {w : World} {g c : Nat} {cur : List Value} (h : Rw w g c cur) {j : Nat} {u : Value} (hj : cur[j]? = some u) : w.cell? ⟨g, j, none⟩ = some u := by
  rw [h.cellAt j (by rw [← h.1]; exact (List.getElem?_eq_some_iff.1 hj).1), hj]
theorem Rw.there {w : World} {g c : Nat} {cur : List Value} (h : Rw w g c cur) {j : Nat} (hj : j < c) : (w.cell? ⟨g, j, none⟩).isSome = true := by
  rw [h.cellAt j (by omega), List.getElem?_eq_getElem (by rw [h.len]; exact hj)]; rfl
theorem Rw.set {w : World} {g c : Nat} {cur : List Value} (h : Rw w g c cur) (o : Nat) (vs : List Value) : Rw (w.setCells g o vs) g c (putL cur o vs) := own_setCells vs o h
theorem Rw.drew {w : World} {g c : Nat} {cur : List Value} (h : Rw w g c cur) : Rw w.drew g c cur := h
theorem Rw.block {w w' : World} {g c : Nat} {cur : List Value} (h : Rw w g c cur) (hb : w'.heap[g]? = w.heap[g]?) : Rw w' g c cur := own_stays h fun k hk => by cases hk; exact hb
theorem Rw.shape {w : World} {g c : Nat} {cur : List Value} (h : Rw w g c cur) : w.shape? g = some (163, c) := by
  unfold World.shape?
  rw [h.heap.1]
  simp [h.len]
theorem Rw.new (w : World) (cur : List Value) (hm : cur.length ≤ maxLen) : Rw (w.alloc (.cells cur.toArray 163)) w.heap.size cur.length cur := by
  have := World.ownsRow_lit (base := 0) (e := 163) (size := 1) w cur.toArray cur.length (Nat.zero_le _) hm (by simp)
  simpa using this
def PV (w : World) (v : Value) (ps : List Nat) : Prop := (v = .slice none 0 0 ∧ ps = []) ∨ ∃ g c cur, v = .slice (some ⟨g, 0, none⟩) ps.length c ∧ Rw w g c cur ∧ ps.length ≤ c ∧ cur.take ps.length = ptC ps
theorem PV.nil (w : World) : PV w (.slice none 0 0) [] := .inl ⟨rfl, rfl⟩
theorem PV.block {w w' : World} {v : Value} {ps : List Nat} (h : PV w v ps) (hb : ∀ k, v.ownBlock = some k → w'.heap[k]? = w.heap[k]?) : PV w' v ps := by
  rcases h with h | ⟨g, c, cur, rfl, h1, h2⟩
  · exact .inl h
  · exact .inr ⟨g, c, cur, rfl, h1.block (hb g rfl), h2⟩
theorem PV.lt {w : World} {v : Value} {ps : List Nat} (h : PV w v ps) : ∀ k, v.ownBlock = some k → k < w.heap.size := by
  rcases h with ⟨rfl, -⟩ | ⟨g, c, cur, rfl, h1, -⟩
  · intro k hk; cases hk
  · intro k hk; cases hk; exact (Array.getElem?_eq_some_iff.1 h1.heap.1).1
theorem PV.sb {w : World} {v : Value} {ps : List Nat} (h : PV w v ps) : ∃ A c, v = .slice A ps.length c ∧ SB w A ps.length (ptC ps) ∧ ps.length ≤ c ∧ c ≤ maxLen := by
  rcases h with ⟨rfl, rfl⟩ | ⟨g, c, cur, rfl, h1, h2, h3⟩
  · exact ⟨none, 0, rfl, SB.empty _ _, Nat.le_refl _, by simp [maxLen]⟩
  · refine ⟨_, c, rfl, ⟨ptC_len _, ptC_one _, fun h0 => ⟨g, 0, rfl, fun j u hj => ?_⟩⟩, h2, h1.heap.2⟩
    rw [← h3, List.getElem?_take] at hj
    split at hj
    · rw [Nat.zero_add]; exact h1.cell hj
    · cases hj

section
variable {P : Program} {w : World}
theorem wp_copyP {ops : Array Oper} {rest : List Oper} {o : Oper} {a : Act} {Q : Exit → Act → World → Prop} (hgd : o.guard = none) (d s : Operand) (t t' : TypeId)
    (ho : o.op = .call { callee := .builtin .copy, args := #[d, s], argTypes := #[t, t'] }) (v u : Value) (hd : a.eval d = v) (hs : a.eval s = u) {v' : Value} {w' : World}
    (hr : (Builtin.copy_ #[t, t'] o.type #[v, u]).run P w = .ok v' w') (h : wpList P ops Q rest (a.put o.dst v') w') : wpList P ops Q (o :: rest) a w := by
  refine wpList_plain hgd fun K hK => ?_
  unfold Oper.wp execOp
  simp only [ho, resolve, invoke, builtin, Sem.run_bind, Sem.run_pure, Result.andThen_ok, List.map_toArray, List.map_cons, List.map_nil, hd, hs, hr]
  exact hK _ _ h
theorem step_copyP {ops : Array Oper} {o : Oper} {a : Act} {K : Act → World → Prop} {Q : Exit → Act → World → Prop} {E : Prop}
    (hg : o.guard = none) (d x : Operand) (dT sT : TypeId) (hop : o.op = Op.call { callee := Callee.builtin Builtin.copy, args := #[d, x], argTypes := #[dT, sT] })
    (v u : Value) (hd : a.eval d = v) (hx : a.eval x = u) {v' : Value} {w' : World} (hr : (Builtin.copy_ #[dT, sT] o.type #[v, u]).run P w = .ok v' w') (hK : K (a.put o.dst v') w') :
    if Region.wanted o (yielded ops a.tmps) = true then Oper.wp P o a w K Q else E := by
  rw [if_pos (by simp [Region.wanted, hg])]
  unfold Oper.wp
  simp [execOp, hop, resolve, invoke, builtin, hd, hx, hr, Result.andThen]
  exact hK
theorem wp_clearP {ops : Array Oper} {rest : List Oper} {o : Oper} {a : Act} {Q : Exit → Act → World → Prop} (hgd : o.guard = none) (d : Operand) (t : TypeId)
    (ho : o.op = .call { callee := .builtin .clear, args := #[d], argTypes := #[t] }) (v : Value) (hd : a.eval d = v) {v' : Value} {w' : World}
    (hr : (Builtin.clear_ #[t] o.type #[v]).run P w = .ok v' w') (h : wpList P ops Q rest (a.put o.dst v') w') : wpList P ops Q (o :: rest) a w := by
  refine wpList_plain hgd fun K hK => ?_
  unfold Oper.wp execOp
  simp only [ho, resolve, invoke, builtin, Sem.run_bind, Sem.run_pure, Result.andThen_ok, List.map_toArray, List.map_cons, List.map_nil, hd, hr]
  exact hK _ _ h
end

theorem ptInfo : (Tryz.prog.info? 163).map (fun i => (i.zero, i.size, i.bytes)) = some (some (.pointer none), 1, 8) := by kernel_rfl
theorem ptSize : (Tryz.prog.info? 163).map (·.size) = some 1 := by kernel_rfl
section
variable {w : World}
theorem run_appP {g n c : Nat} {cur : List Value} (h : Rw w g c cur) (hr : n + 1 ≤ c) {vb : Nat} {u : Value} (hvb : w.cell? ⟨vb, 0, none⟩ = some u) (hu : u.oneCell' = true) (vc : Nat) (ty : TypeId) :
    (Builtin.append_ #[162, 161] ty #[.slice (some ⟨g, 0, none⟩) n c, .slice (some ⟨vb, 0, none⟩) 1 vc]).run Tryz.prog w = .ok (.slice (some ⟨g, 0, none⟩) (n + 1) c) (w.setCells g n [u]) := by
  obtain ⟨i0, hi, hz0, hz1, hz2⟩ := info_parts ptInfo
  have hsrc : Src Tryz.prog i0.size 161 (.slice (some ⟨vb, 0, none⟩) 1 vc) 1 [u] w := by
    rw [hz1]
    refine Src.ofSlice w Tryz.underlying161 ⟨vb, 0, none⟩ 1 vc [u] rfl (fun j v hj => ?_) (by simpa using hu)
    match j, hj with
    | 0, hj => cases hj; exact hvb
  have := run_append_room_src w 162 161 ty 163 i0 Tryz.underlying162 hi g 0 n c _ 1 [u] hsrc hr
    (fun j hj => by rw [hz1]; exact h.there (by simp at hj; omega)) (fun j hj => h.frozenAt _)
  rw [hz1] at this
  simpa using this
theorem run_newP {v : Value} {ps : List Nat} (h : PV w v ps) {c : Nat} {A : Option Addr} (hv : v = .slice A ps.length c) (hr : c < ps.length + 1) (hn : ps.length ≤ 100000) {vb : Nat} {u : Value} (hvb : w.cell? ⟨vb, 0, none⟩ = some u) (hu : u.oneCell' = true) (vc : Nat) (ty : TypeId) :
    ∃ (row : List Value) (c' : Nat), row.length = c' ∧ c' ≤ maxLen ∧ ps.length + 1 ≤ c' ∧ row.take (ps.length + 1) = ptC ps ++ [u] ∧ (Builtin.append_ #[162, 161] ty #[v, .slice (some ⟨vb, 0, none⟩) 1 vc]).run Tryz.prog w = .ok (.slice (some ⟨w.heap.size, 0, none⟩) (ps.length + 1) c') (w.drew.alloc (.cells row.toArray 163)) := by
  obtain ⟨i0, hi, hz0, hz1, hz2⟩ := info_parts ptInfo
  have hsrc : Src Tryz.prog i0.size 161 (.slice (some ⟨vb, 0, none⟩) 1 vc) 1 [u] w := by
    rw [hz1]
    refine Src.ofSlice w Tryz.underlying161 ⟨vb, 0, none⟩ 1 vc [u] rfl (fun j v hj => ?_) (by simpa using hu)
    match j, hj with
    | 0, hj => cases hj; exact hvb
  obtain ⟨A', c', e, hsb, hc1, hc2⟩ := h.sb
  rw [hv] at e
  obtain ⟨rfl, rfl⟩ : A = A' ∧ c = c' := by simpa using e
  have hold : (Builtin.firstCells i0.size ps.length (.slice A ps.length c)).run Tryz.prog w.drew = .ok (ptC ps).toArray w.drew := by
    rw [hz1]
    rcases Nat.eq_zero_or_pos ps.length with h0 | h0
    · rw [List.eq_nil_of_length_eq_zero h0]
      cases A with
      | none => exact run_firstCells_none w.drew 1 0 0 c
      | some a => exact run_firstCells_some w.drew 1 0 a 0 c [] rfl (fun j v hj => by simp at hj)
    · obtain ⟨g, o, rfl, hcell⟩ := hsb.addr h0
      exact run_firstCells_some w.drew 1 ps.length ⟨g, o, none⟩ ps.length c (ptC ps) (by rw [ptC_len, Nat.mul_one]) hcell
  have hrun := run_append_grow_src w 162 161 ty 163 i0 _ Tryz.underlying162 hi hz0 A ps.length c (ptC ps) hold _ 1 [u] hsrc hr (by omega) (by rw [hz2]; exact growslice_fits hr (by omega))
  have hG := grownCap_ge w (ps.length + 1) c 163
  have hG2 := grownCap_le_maxLen w (ps.length + 1) c 163 (by simp only [maxLen]; omega)
  refine ⟨ptC ps ++ [u] ++ (Builtin.zeroCells (Value.pointer none).cells (grownCap w (ps.length + 1) c 163 - (ps.length + 1))).toList, _, ?_, hG2, hG, ?_, ?_⟩
  · simp [ptC_len, Builtin.zeroCells, Value.cells]; omega
  · rw [List.take_left' (by simp [ptC_len])]
  · rw [hv, hrun]
    congr 4
    apply Array.ext'
    simp
end
end Go.Proofs.YtknppiebncdjmaaGreat

namespace Go.Proofs.YtknppiebncdjmaaGreat
set_option maxRecDepth 100000
open Go.RowKit

section
variable {w : World}
set_option maxHeartbeats 2000000 in
theorem wIns_end {g n c : Nat} {cur : List Value} (h : Rw w g c cur) (hr : n + 1 ≤ c) {vb : Nat} {u : Value} (hvb : w.cell? ⟨vb, 0, none⟩ = some u) (hu : u.oneCell' = true) :
    Calls Tryz.prog 181 #[.slice (some ⟨g, 0, none⟩) n c, .int .i64 (n : Nat), .slice (some ⟨vb, 0, none⟩) 1 1] w fun e w' => e = .returned (.slice (some ⟨g, 0, none⟩) (n + 1) c) ∧ w' = w.setCells g n [u] := by
  have hrun := fun ty => run_appP h hr hvb hu 1 ty
  have hc : c ≤ 9223372036854775807 := by have := h.heap.2; unfold maxLen at this; omega
  go_enter Tryz.func181, Tryz.ntmps181
  go_wp2_with (at_builtin; refine Lib.wpList_append_run _ rfl _ _ _ _ rfl _ _ rfl rfl _ _ (hrun _) ?_)
  go_ret
  exact ⟨rfl, rfl⟩
set_option maxHeartbeats 2000000 in
theorem wIns_new {v : Value} {ps : List Nat} (h : PV w v ps) {c : Nat} {A : Option Addr} (hv : v = .slice A ps.length c) (hr : c < ps.length + 1) (hn : ps.length ≤ 100000) {vb : Nat} {u : Value} (hvb : w.cell? ⟨vb, 0, none⟩ = some u) (hu : u.oneCell' = true) :
    Calls Tryz.prog 181 #[v, .int .i64 (ps.length : Nat), .slice (some ⟨vb, 0, none⟩) 1 1] w fun e w' => ∃ (row : List Value), (row.length ≤ maxLen ∧ ps.length + 1 ≤ row.length ∧ row.take (ps.length + 1) = ptC ps ++ [u]) ∧
      e = .returned (.slice (some ⟨w.heap.size, 0, none⟩) (ps.length + 1) row.length) ∧ w' = w.drew.alloc (.cells row.toArray 163) := by
  obtain ⟨row, c', r1, r2, r3, r4⟩ : ∃ (row : List Value) (c' : Nat), row.length = c' ∧ c' ≤ maxLen ∧ ps.length + 1 ≤ c' ∧ row.take (ps.length + 1) = ptC ps ++ [u] ∧ ∀ ty, (Builtin.append_ #[162, 161] ty #[v, .slice (some ⟨vb, 0, none⟩) 1 1]).run Tryz.prog w = .ok (.slice (some ⟨w.heap.size, 0, none⟩) (ps.length + 1) c') (w.drew.alloc (.cells row.toArray 163)) := by
    obtain ⟨row, c', r1, r2, r3, r4, r5⟩ := run_newP h hv hr hn hvb hu 1 0
    exact ⟨row, c', r1, r2, r3, r4, fun ty => r5⟩
  obtain ⟨r4, hrun⟩ := r4
  have hc : c ≤ 9223372036854775807 := by omega
  obtain ⟨n, hN⟩ : ∃ n, ps.length = n := ⟨_, rfl⟩
  subst r1
  have R := Lib.hid (And.intro r2 (And.intro r3 r4))
  have hn2 : n ≤ 100000 := by omega
  have hcn : n ≤ c := by
    obtain ⟨A', c'', e, -, h1, h2⟩ := h.sb
    rw [hv] at e
    simp only [Value.slice.injEq] at e
    omega
  subst hv
  clear r2 r3 r4 h hr hn
  simp only [hN] at *
  cases A with
  | none =>
    go_enter Tryz.func181, Tryz.ntmps181
    go_wp2_with (at_builtin; refine Lib.wpList_append_run _ rfl _ _ _ _ rfl _ _ rfl rfl _ _ (hrun _) ?_)
    go_ret
    exact ⟨row, R.out, rfl, rfl⟩
  | some a =>
    obtain ⟨ab, ao, asp⟩ := a
    go_enter Tryz.func181, Tryz.ntmps181
    go_wp2_with (at_builtin; refine Lib.wpList_append_run _ rfl _ _ _ _ rfl _ _ rfl rfl _ _ (hrun _) ?_)
    all_goals
      go_ret
      exact ⟨row, R.out, rfl, rfl⟩
end
end Go.Proofs.YtknppiebncdjmaaGreat

namespace Go.Proofs.YtknppiebncdjmaaGreat
set_option maxRecDepth 100000
open Go.RowKit

section
variable {w : World}
theorem ins_take {cur cs : List Value} {n i : Nat} {u : Value} (hc : cur.take n = cs) (hl : cs.length = n) (hi : i < n) (hr : n + 1 ≤ cur.length) : (putL (putL cur (i + 1) (cs.drop i)) i [u]).take (n + 1) = cs.take i ++ [u] ++ cs.drop i := by
  apply List.ext_getElem?
  intro j
  have hd : (cs.drop i).length = n - i := by rw [List.length_drop, hl]
  have hp1 := putL_len (cs.drop i) cur (i + 1)
  have hcj : ∀ j, j < n → cs[j]? = cur[j]? := fun j hj => by rw [← hc, List.getElem?_take, if_pos hj]
  rw [List.getElem?_take]
  by_cases hj : j < n + 1
  · rw [if_pos hj, putL_get _ _ _ _ (by rw [hp1]; simp; omega), putL_get _ _ _ _ (by rw [hd]; omega), hd]
    simp only [List.length_singleton]
    rcases Nat.lt_trichotomy j i with h1 | h1 | h1
    · rw [if_neg (by omega), if_neg (by omega), List.append_assoc, List.getElem?_append_left (by rw [List.length_take]; omega), List.getElem?_take, if_pos h1, hcj j (by omega)]
    · subst h1
      rw [if_pos (by omega), List.append_assoc, List.getElem?_append_right (by rw [List.length_take]; omega), List.length_take, hl]
      simp [show j - min j n = 0 by omega]
    · rw [if_neg (by omega), if_pos (by omega), List.append_assoc, List.getElem?_append_right (by rw [List.length_take]; omega), List.length_take, hl, List.getElem?_append_right (by simp; omega)]
      congr 1
      simp; omega
  · rw [if_neg hj, List.getElem?_eq_none (by simp [hl]; omega)]
theorem run_ovP {g c : Nat} {cur : List Value} (h : Rw w g c cur) (h0 : c ≠ 0) {vb : Nat} {u : Value} (hvb : w.heap[vb]? = some (.cells #[u] 163 (0, 0))) (hne : vb ≠ g) (k lb cb : Nat) :
    (callFunc 182 #[.slice (some ⟨vb, 0, none⟩) 1 1, .slice (some ⟨g, k, none⟩) lb cb]).run Tryz.prog w = .ok (.value (.bool false)) w := by
  obtain ⟨i0, hi, hz0, hz1, hz2⟩ := info_parts ptInfo
  rw [run_callFunc_extern Tryz.func182 (by kernel_rfl) (by kernel_rfl) (by kernel_rfl) (e := Extern.SlicesOverlaps.overlaps #[161, 161] #[4]) (by kernel_rfl),
    Lib.run_overlaps_apart w 161 4 163 Tryz.underlying161 1 (fun w => by simp [sizeOf, typeInfo, hi, hz1]) ⟨vb, 0, none⟩ ⟨g, k, none⟩ 1 1 lb cb hne 163 163 1 c
      (by unfold World.shape?; rw [hvb]; rfl) h.shape h0 (frozen_of_row _ _ _ _ _ hvb) (frozen_of_row _ _ _ _ _ hvb)]
  rfl
theorem run_cpP {g c : Nat} {cur : List Value} (h : Rw w g c cur) {o m : Nat} {cs : List Value} (hm : cs.length = m) (ho : o + m ≤ c) (a : Addr) (dL dC sL sC : Nat) (hmin : m = Nat.min sL dL) (hsrc : ∀ j v, cs[j]? = some v → w.cell? (a.add j) = some v) (h1 : ∀ v ∈ cs, v.oneCell' = true) (sT ty : TypeId) :
    (Builtin.copy_ #[162, sT] ty #[.slice (some ⟨g, o, none⟩) dL dC, .slice (some a) sL sC]).run Tryz.prog w = .ok (goInt cs.length) (w.setCells g o cs) :=
  run_copy_cells w _ _ ty 163 g o dL dC a sL sC cs Tryz.underlying162 ptSize (by rw [hm, hmin]) hsrc (fun j hj => h.there (by omega)) (fun j hj => h.frozenAt _) h1
set_option maxHeartbeats 4000000 in
theorem wIns_shift {g n c i : Nat} {cur cs : List Value} (h : Rw w g c cur) (hcs : cur.take n = cs) (hi : i < n) (hr : n + 1 ≤ c) (h1 : ∀ v ∈ cs, v.oneCell' = true) {vb : Nat} {u : Value} (hvb : w.heap[vb]? = some (.cells #[u] 163 (0, 0))) (hne : vb ≠ g) (hu : u.oneCell' = true) :
    Calls Tryz.prog 181 #[.slice (some ⟨g, 0, none⟩) n c, .int .i64 (i : Nat), .slice (some ⟨vb, 0, none⟩) 1 1] w fun e w' => e = .returned (.slice (some ⟨g, 0, none⟩) (n + 1) c) ∧ w' = (w.drew.setCells g (i + 1) (cs.drop i)).setCells g i [u] := by
  have hov := run_ovP (w := w) h (by omega) hvb hne (i + 1)
  have hlen := h.len
  have hcl : cs.length = n := by rw [← hcs, List.length_take]; omega
  have hdl : (cs.drop i).length = n - i := by rw [List.length_drop, hcl]
  have hc63 : c ≤ 9223372036854775807 := by have := h.heap.2; unfold maxLen at this; omega
  have hw1 : IntKind.i64.wrap ((i : Int) + 1) = (i : Int) + 1 := by rw [IntKind.wrap_i64]; omega
  have hb1 : (0 : Int) ≤ (i : Int) + 1 := by omega
  have hin : i ≤ n := by omega
  have htn : ((i : Int) + 1).toNat = i + 1 := by omega
  have hb2 : ¬ (c = i + 1) := by omega
  have hb3 : (i : Int) + 1 ≤ (n : Int) + 1 := by omega
  have hb4 : ¬ (c = i) := by omega
  have hb5 : (i : Int) ≤ (n : Int) + 1 := by omega
  have mixed : Tryz.prog.follows Departure.mixedOrders = true := by kernel_rfl
  have hz2 : ¬ ((i : Int) = (n : Int)) := by omega
  have hcp1 : ∀ ty dc sc, (Builtin.copy_ #[162, 162] ty #[.slice (some ⟨g, i + 1, none⟩) (n - i) dc, .slice (some ⟨g, i, none⟩) (n + 1 - i) sc]).run Tryz.prog w.drew = .ok (goInt (cs.drop i).length) (w.drew.setCells g (i + 1) (cs.drop i)) := fun ty dc sc =>
    run_cpP h.drew hdl (by omega) _ _ _ _ _ (by simp only [Nat.min_def]; split <;> omega) (fun j v hj => by
      rw [Addr.add_lit]
      rw [List.getElem?_drop, ← hcs, List.getElem?_take] at hj
      split at hj
      · exact h.drew.cell hj
      · cases hj) (fun v hv => h1 v (List.mem_of_mem_drop hv)) _ _
  obtain ⟨W1, hW1⟩ : ∃ W1, W1 = w.drew.setCells g (i + 1) (cs.drop i) := ⟨_, rfl⟩
  have R1 : Rw W1 g c (putL cur (i + 1) (cs.drop i)) := by rw [hW1]; exact h.drew.set _ _
  have hv1 : W1.cell? ⟨vb, 0, none⟩ = some u := by
    refine (World.cell?_of_block (w := w) ?_).trans (cell_of_row _ _ 0 _ _ _ hvb)
    rw [hW1]
    exact heap_setCells _ _ _ _ _ hne
  have hcp2 : ∀ (W : World), W.heap = W1.heap → ∀ ty dc, (Builtin.copy_ #[162, 161] ty #[.slice (some ⟨g, i, none⟩) (n + 1 - i) dc, .slice (some ⟨vb, 0, none⟩) 1 1]).run Tryz.prog W = .ok (goInt [u].length) (W.setCells g i [u]) := fun W hh ty dc => by
    refine run_cpP (g := g) (c := c) (R1.block (by rw [hh])) (m := 1) rfl (by omega) _ _ _ _ _ (by simp only [Nat.min_def]; split <;> omega) (fun j v hj => ?_) (by simpa using hu) _ _
    match j, hj with
    | 0, hj => cases hj; rw [Addr.add_lit]; exact (World.cell?_of_block (w := W1) (by rw [hh])).trans hv1
  rw [← hW1] at hcp1
  clear R1 hv1 h hvb
  go_enter Tryz.func181, Tryz.ntmps181
  go_wp2_with (simp only [hov])
  go_region_law_o (refine step_copyP rfl _ _ 162 162 rfl _ _ (by simp [Act.eval, Act.put]) (by simp [Act.eval, Act.put]) (hcp1 _ _ _) ?_)
  go_wp2_with (at_builtin; refine wp_copyP rfl _ _ 162 161 rfl _ _ rfl rfl (hcp2 _ rfl _ _) ?_)
  go_ret
  first | exact ⟨rfl, rfl⟩ | exact ⟨rfl, by rw [hW1]⟩
end
end Go.Proofs.YtknppiebncdjmaaGreat

namespace Go.Proofs.YtknppiebncdjmaaGreat
set_option maxRecDepth 100000
open Go.RowKit

section
variable {w : World}
set_option maxHeartbeats 4000000 in
theorem wIns_grow {g n c i : Nat} {cur cs : List Value} (h : Rw w g c cur) (hcs : cur.take n = cs) (hi : i < n) (hnc : n ≤ c) (hr : c < n + 1) (hn : n ≤ 100000) (h1 : ∀ v ∈ cs, v.oneCell' = true) {vb : Nat} {u : Value} (hvb : w.cell? ⟨vb, 0, none⟩ = some u) (hu : u.oneCell' = true) :
    Calls Tryz.prog 181 #[.slice (some ⟨g, 0, none⟩) n c, .int .i64 (i : Nat), .slice (some ⟨vb, 0, none⟩) 1 1] w fun e w' => ∃ (G : Nat) (row : List Value), (row.length = G ∧ G ≤ maxLen ∧ n + 1 ≤ G ∧ row.take i = cs.take i) ∧
      e = .returned (.slice (some ⟨w.heap.size, 0, none⟩) (n + 1) G) ∧ w' = (((w.alloc (.cells row.toArray 163)).drew.setCells w.heap.size i [u]).drew).setCells w.heap.size (i + 1) (cs.drop i) := by
  obtain ⟨i0, hi0, hz0, hz1, hz2⟩ := info_parts ptInfo
  have hlen := h.len
  have hcl : cs.length = n := by rw [← hcs, List.length_take]; omega
  have hdl : (cs.drop i).length = n - i := by rw [List.length_drop, hcl]
  have hcell : ∀ j v, cs[j]? = some v → w.cell? ⟨g, j, none⟩ = some v := fun j v hj => by
    rw [← hcs, List.getElem?_take] at hj
    split at hj
    · exact h.cell hj
    · cases hj
  have hbw := (Array.getElem?_eq_some_iff.1 h.heap.1).1
  have hvw : vb < w.heap.size := World.block_lt_of_cell? _ _ hvb
  have hold : (Builtin.firstCells i0.size i (.slice (some ⟨g, 0, none⟩) i c)).run Tryz.prog w.drew = .ok (cs.take i).toArray w.drew := by
    rw [hz1]
    exact run_firstCells_some w.drew 1 i ⟨g, 0, none⟩ i c (cs.take i) (by rw [List.length_take]; omega) (fun j v hj => by
      rw [Addr.add_lit, Nat.zero_add]
      rw [List.getElem?_take] at hj
      split at hj
      · exact hcell j v hj
      · cases hj)
  obtain ⟨G, row, r1, r2, r3, r4, hrz⟩ : ∃ (G : Nat) (row : List Value), row.length = G ∧ G ≤ maxLen ∧ n + 1 ≤ G ∧ row.take i = cs.take i ∧ ∀ ty, (Builtin.append_ #[162, 3] ty #[.slice (some ⟨g, 0, none⟩) i c, .int .i64 ((n : Int) + 1 - (i : Int))]).run Tryz.prog w =
      .ok (.slice (some ⟨w.heap.size, 0, none⟩) (n + 1) G) (w.drew.alloc (.cells row.toArray 163)) := by
    have hG := grownCap_ge w (n + 1) c 163
    have hG2 := grownCap_le_maxLen w (n + 1) c 163 (by simp only [maxLen]; omega)
    refine ⟨grownCap w (n + 1) c 163, cs.take i ++ (Builtin.zeroCells (Value.pointer none).cells (n + 1 - i)).toList ++ (Builtin.zeroCells (Value.pointer none).cells (grownCap w (n + 1) c 163 - (n + 1))).toList, ?_, hG2, hG, ?_, fun ty => ?_⟩
    · simp [Builtin.zeroCells, Value.cells, hcl]; omega
    · rw [List.append_assoc, List.take_left' (by simp [hcl]; omega)]
    · have hx := Lib.run_append_grow_zeros w 162 3 ty 163 i0 _ .i64 .i64 Tryz.underlying162 Tryz.underlying3 hi0 hz0 (some ⟨g, 0, none⟩) i c (cs.take i) hold (n + 1 - i) (by omega) (by omega) (by omega) (by omega) (by rw [hz2]; omega)
        (by rw [hz2, show i + (n + 1 - i) = n + 1 by omega]; exact growslice_fits hr (by omega))
      rw [show i + (n + 1 - i) = n + 1 by omega] at hx
      rw [show (n : Int) + 1 - (i : Int) = ((n + 1 - i : Nat) : Int) by omega, hx]
      congr 4
      apply Array.ext'
      simp
  obtain ⟨W1, hW1⟩ : ∃ W1, W1 = w.drew.alloc (.cells row.toArray 163) := ⟨_, rfl⟩
  rw [← hW1] at hrz
  have R1 : Rw W1 w.heap.size G row := by
    rw [hW1, ← r1]
    exact Rw.new w.drew row (by rw [r1]; exact r2)
  have hO : ∀ b j v, b < w.heap.size → w.cell? ⟨b, j, none⟩ = some v → W1.cell? ⟨b, j, none⟩ = some v := fun b j v hb hc => by
    rw [hW1]
    exact keep_below hc ((Below.refl w.heap.size w).drew.alloc (Nat.le_refl _) _)
  have hcpA : ∀ (W : World), W.heap = W1.heap → ∀ ty dc, (Builtin.copy_ #[162, 161] ty #[.slice (some ⟨w.heap.size, i, none⟩) (n + 1 - i) dc, .slice (some ⟨vb, 0, none⟩) 1 1]).run Tryz.prog W = .ok (goInt [u].length) (W.setCells w.heap.size i [u]) := fun W hh ty dc => by
    refine run_cpP (g := w.heap.size) (c := G) (R1.block (by rw [hh])) (m := 1) rfl (by omega) _ _ _ _ _ (by simp only [Nat.min_def]; split <;> omega) (fun j v hj => ?_) (by simpa using hu) _ _
    match j, hj with
    | 0, hj => cases hj; rw [Addr.add_lit]; exact (World.cell?_of_block (w := W1) (by rw [hh])).trans (hO vb 0 _ hvw hvb)
  have hcpB : ∀ (W : World), W.heap = (W1.setCells w.heap.size i [u]).heap → ∀ ty dc sc, (Builtin.copy_ #[162, 162] ty #[.slice (some ⟨w.heap.size, i + 1, none⟩) (n - i) dc, .slice (some ⟨g, i, none⟩) (n - i) sc]).run Tryz.prog W = .ok (goInt (cs.drop i).length) (W.setCells w.heap.size (i + 1) (cs.drop i)) := fun W hh ty dc sc => by
    refine run_cpP (g := w.heap.size) (c := G) ((R1.set i [u]).block (by rw [hh])) hdl (by omega) _ _ _ _ _ (by simp only [Nat.min_def]; split <;> omega) (fun j v hj => ?_) (fun v hv => h1 v (List.mem_of_mem_drop hv)) _ _
    rw [Addr.add_lit]
    rw [List.getElem?_drop] at hj
    refine (World.cell?_of_block (w := W1) ?_).trans (hO g _ _ hbw (hcell _ _ hj))
    rw [hh]
    exact heap_setCells _ _ _ _ _ (by show g ≠ _; omega)
  have hG63 : G ≤ 9223372036854775807 := by unfold maxLen at r2; omega
  have hz2 : ¬ ((i : Int) = (n : Int)) := by omega
  have hz3 : (c : Int) < (n : Int) + 1 := by omega
  have hw1 : IntKind.i64.wrap ((i : Int) + 1) = (i : Int) + 1 := by rw [IntKind.wrap_i64]; omega
  have hb1 : (0 : Int) ≤ (i : Int) + 1 := by omega
  have hin : i ≤ n := by omega
  have htn : ((i : Int) + 1).toNat = i + 1 := by omega
  have hGi : ¬ (G = i) := by omega
  have hGim : ¬ (G = i + 1) := by omega
  have hci : ¬ (c = i) := by omega
  have hb3 : (i : Int) ≤ (n : Int) + 1 := by omega
  have hb4 : (i : Int) + 1 ≤ (n : Int) + 1 := by omega
  have hb5 : (i : Int) ≤ (n : Int) := by omega
  have mixed : Tryz.prog.follows Departure.mixedOrders = true := by kernel_rfl
  have RR := Lib.hid (And.intro r1 (And.intro r2 (And.intro r3 r4)))
  subst hW1
  have hE1 : ((w.alloc (.cells row.toArray 163)).drew).heap = (w.drew.alloc (.cells row.toArray 163)).heap := rfl
  have hF1 : (((w.alloc (.cells row.toArray 163)).drew.setCells w.heap.size i [u]).drew).heap = ((w.drew.alloc (.cells row.toArray 163)).setCells w.heap.size i [u]).heap := rfl
  clear R1 hO r1 r2 r3 r4 h hvb hold hi0 hz0 hz1 hcell hbw hvw hlen hcl hdl hcs
  go_enter Tryz.func181, Tryz.ntmps181
  go_wp2_with (first
    | (at_builtin; refine Lib.wpList_append_run _ rfl _ _ _ _ rfl _ _ rfl rfl _ _ (hrz _) ?_)
    | (at_builtin; refine wp_copyP rfl _ _ 162 161 rfl _ _ rfl rfl (hcpA _ hE1 _ _) ?_))
  go_region_law_o (refine step_copyP rfl _ _ 162 162 rfl (.slice (some ⟨w.heap.size, i + 1, none⟩) (n - i) (G - (i + 1))) (.slice (some ⟨g, i, none⟩) (n - i) (c - i)) (by simp [Act.eval, Act.put]) (by simp [Act.eval, Act.put]) (hcpB _ hF1 3 (G - (i + 1)) (c - i)) ?_)
  go_wp2
  go_ret
  exact ⟨G, row, RR.out, rfl, rfl⟩
end
end Go.Proofs.YtknppiebncdjmaaGreat
