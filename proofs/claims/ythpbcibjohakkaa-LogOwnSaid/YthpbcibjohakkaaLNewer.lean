/- there, next, newer, place; readBlock. -/
import Derived.Test.YthpbcibjohakkaaJAO
import Derived.Test.YthpbcibjohakkaaJAR
namespace Go.Proofs.Ythpbcibjohakkaa
set_option maxRecDepth 100000
set_option maxRecDepth 100000
open Go.RowKit

/-- An operation that is not wanted, taken first. -/
theorem take_skip {P : Program} {ops : Array Oper} {Q : Exit → Act → World → Prop} {md : Region.Mode} {S : World → Prop} (i : Nat) (k : Tmp) {oi : Oper} {fuel : Nat} {listed : Array Bool} {a : Act} {w : World} (hi : ops[i]? = some oi) (hk : oi.dst = some k)
    (hs : Region.noSelect ops = true) (hf : Region.free md ops listed i = true) (hr : (Region.ready md ops listed).contains i = true)
    (hQ : ∀ c a w, Q (.panic c) (a.put (some k) undef) w → Q (.panic c) a w) (hw : Region.wanted oi (yielded ops a.tmps) = false) (hS : S w)
    (h : wpAnyH P md ops Q S fuel (listed.setIfInBounds i true) (a.put (some k) undef) w) : wpAnyH P md ops Q S (fuel + 1) listed a w :=
  wpAnyH_take hi hs hf hr (by rw [hk]; exact hQ) (.inr ⟨hw, rfl⟩) hS (by rw [hk]; exact h)
theorem wthere (w : World) (t a s : Nat) :
    Calls Try.prog 42 #[.agg #[.int .i64 (t : Int), .int .i64 (a : Int), .int .u64 (s : Int)]] w fun e w' => e = .returned (.bool (decide (0 < s))) ∧ Below w.heap.size w w' := by
  by_cases h : 0 < s
  · have h1 : (0 : Int) < (s : Int) := by omega
    rw [decide_eq_true h]
    go_enter Try.func42, Try.ntmps42
    go_wp2
    go_ret
    exact ⟨rfl, (Below.refl _ _).alloc (Nat.le_refl _) _⟩
  · have h1 : decide ((0 : Int) < (s : Int)) = false := by simp; omega
    rw [decide_eq_false h]
    go_enter Try.func42, Try.ntmps42
    go_wp2
    go_ret
    exact ⟨rfl, (Below.refl _ _).alloc (Nat.le_refl _) _⟩
theorem wnext (w : World) (m : Mk) (ht : m.turn ≤ 2) :
    Calls Try.prog 55 #[.agg #[.int .i64 (m.turn : Int), .int .i64 (m.area : Int), .int .u64 (m.since : Int)]] w fun e w' => e = .returned (.int .i64 (m.next : Int)) ∧ Below w.heap.size w w' := by
  have h1 : (m.turn : Int) ≤ 2 := by omega
  have HE := Lib.hid (show ((m.turn : Int) + 1) % 3 = (m.next : Int) by unfold Mk.next; omega)
  go_enter Try.func55, Try.ntmps55
  go_wp2
  go_ret
  exact ⟨by rw [← HE.out]; rfl, (Below.refl _ _).alloc (Nat.le_refl _) _⟩

set_option maxHeartbeats 40000000 in
theorem wnewer (w : World) (m o : Mk) (ht : o.turn ≤ 2) :
    Calls Try.prog 51 #[.agg #[.int .i64 (m.turn : Int), .int .i64 (m.area : Int), .int .u64 (m.since : Int)], .agg #[.int .i64 (o.turn : Int), .int .i64 (o.area : Int), .int .u64 (o.since : Int)]] w fun e w' => e = .returned (.bool (m.newer o)) ∧ Below w.heap.size w w' := by
  obtain ⟨W2, hW2⟩ : ∃ W, (w.alloc (.cells #[.int .i64 (m.turn : Int), .int .i64 (m.area : Int), .int .u64 (m.since : Int)] 76)).alloc (.cells #[.int .i64 (o.turn : Int), .int .i64 (o.area : Int), .int .u64 (o.since : Int)] 76) = W := ⟨_, rfl⟩
  have q0 : W2.heap[w.heap.size]? = some (.cells #[.int .i64 (m.turn : Int), .int .i64 (m.area : Int), .int .u64 (m.since : Int)] 76 (0, 0)) := by rw [← hW2]; exact heap_alloc2_old _ _ _
  have q1 : W2.heap[w.heap.size + 1]? = some (.cells #[.int .i64 (o.turn : Int), .int .i64 (o.area : Int), .int .u64 (o.since : Int)] 76 (0, 0)) := by rw [← hW2]; exact heap_alloc2_new _ _ _
  have HB2 := Lib.hid (show Below w.heap.size w W2 by rw [← hW2]; exact ((Below.refl _ _).alloc (Nat.le_refl _) _).alloc (by simp) _)
  have HS := Lib.hid (show ∀ W : World, Below W2.heap.size W2 W → W.cell? ⟨w.heap.size, 0, none⟩ = some (.int .i64 (m.turn : Int)) ∧ W.cell? ⟨w.heap.size, 1, none⟩ = some (.int .i64 (m.area : Int)) ∧ W.cell? ⟨w.heap.size, 2, none⟩ = some (.int .u64 (m.since : Int)) ∧ W.cell? ⟨w.heap.size + 1, 0, none⟩ = some (.int .i64 (o.turn : Int)) ∧ W.cell? ⟨w.heap.size + 1, 1, none⟩ = some (.int .i64 (o.area : Int)) ∧ W.cell? ⟨w.heap.size + 1, 2, none⟩ = some (.int .u64 (o.since : Int)) from fun W hb =>
    ⟨keep_below (by rw [cell_of_row _ _ _ _ _ _ q0]; rfl) hb, keep_below (by rw [cell_of_row _ _ _ _ _ _ q0]; rfl) hb, keep_below (by rw [cell_of_row _ _ _ _ _ _ q0]; rfl) hb, keep_below (by rw [cell_of_row _ _ _ _ _ _ q1]; rfl) hb, keep_below (by rw [cell_of_row _ _ _ _ _ _ q1]; rfl) hb, keep_below (by rw [cell_of_row _ _ _ _ _ _ q1]; rfl) hb⟩)
  have hS2 := HS.out W2.drew ⟨rfl, rfl, rfl, Nat.le_refl _, fun _ _ => rfl⟩
  clear q0 q1
  have hcase : (¬ 0 < m.since ∧ m.newer o = false) ∨ (0 < m.since ∧ ¬ 0 < o.since ∧ m.newer o = true) ∨ (0 < m.since ∧ 0 < o.since ∧ m.newer o = decide (m.turn = o.next)) := by
    unfold Mk.newer
    by_cases h1 : 0 < m.since
    · by_cases h2 : 0 < o.since
      · right; right; exact ⟨h1, h2, by simp [h1, h2]⟩
      · right; left; exact ⟨h1, h2, by simp [h1, h2]⟩
    · left; exact ⟨h1, by simp [h1]⟩
  rcases hcase with ⟨h1, hN⟩ | ⟨h1, h2, hN⟩ | ⟨h1, h2, hN⟩
  · have C1 := Lib.hid (fun w' => wthere w' m.turn m.area m.since)
    rw [decide_eq_false h1] at C1
    have HN := Lib.hid hN
    clear h1 hN
    go_enter Try.func51, Try.ntmps51
    go_upto_region 1 with fail
    obtain ⟨Sp, hSp⟩ : ∃ Sp : World → Prop, ∀ w', Sp w' ↔ (w'.cell? ⟨w.heap.size, 0, none⟩ = some (.int .i64 (m.turn : Int)) ∧ w'.cell? ⟨w.heap.size, 1, none⟩ = some (.int .i64 (m.area : Int)) ∧ w'.cell? ⟨w.heap.size, 2, none⟩ = some (.int .u64 (m.since : Int)) ∧ w'.cell? ⟨w.heap.size + 1, 0, none⟩ = some (.int .i64 (o.turn : Int)) ∧ w'.cell? ⟨w.heap.size + 1, 1, none⟩ = some (.int .i64 (o.area : Int)) ∧ w'.cell? ⟨w.heap.size + 1, 2, none⟩ = some (.int .u64 (o.since : Int))) := ⟨_, fun _ => Iff.rfl⟩
    have hS0 : Sp W2.drew := (hSp _).2 hS2
    clear hS2
    refine wp_region_noPanic ?_
    refine wp_region_held (S := Sp) (by kernel_rfl) ?_
    change wpAnyH _ _ _ _ _ _ _ _ W2.drew
    refine take_read 0 5 (.agg #[.int .i64 (m.turn : Int), .int .i64 (m.area : Int), .int .u64 (m.since : Int)]) rfl rfl (by kernel_rfl) (by kernel_rfl) (by kernel_rfl) (fun _ _ _ h => h) (by rfl) hS0 (fun w' hS => by obtain ⟨e0, e1, e2, e3, e4, e5⟩ := (hSp w').1 hS; go_simp) ?_
    simp only [Act.put, List.setIfInBounds_toArray, List.set_cons_zero, List.set_cons_succ]
    refine wpAnyH_ready (rs := [1]) (by kernel_rfl) (by simp) ?_
    refine AllReadyH.cons rfl (fun K hK => ?_) AllReadyH.nil
    go_simp
    go_at_call 42
    refine (C1.out _).mono ?_
    rintro e w4 ⟨rfl, b4_⟩
    have B4 := Lib.hid (show Below W2.heap.size W2 w4 from ⟨b4_.os, b4_.tape, b4_.output, b4_.size, b4_.block⟩)
    clear b4_
    have hS4 : Sp w4 := (hSp _).2 (HS.out w4 B4.out)
    refine hK.out _ _ hS4 (fun _ => ?_)
    clear hK K
    try simp only [Act.put, List.setIfInBounds_toArray, List.set_cons_zero, List.set_cons_succ]
    refine take_read 2 7 (.bool false) rfl rfl (by kernel_rfl) (by kernel_rfl) (by kernel_rfl) (fun _ _ _ h => h) (by rfl) hS4 (fun w' hS => by obtain ⟨e0, e1, e2, e3, e4, e5⟩ := (hSp w').1 hS; go_simp) ?_
    simp only [Act.put, List.setIfInBounds_toArray, List.set_cons_zero, List.set_cons_succ]
    refine take_skip 3 8 rfl rfl (by kernel_rfl) (by kernel_rfl) (by kernel_rfl) (fun _ _ _ h => h) (by rfl) hS4 ?_
    simp only [Act.put, List.setIfInBounds_toArray, List.set_cons_zero, List.set_cons_succ]
    refine take_skip 4 9 rfl rfl (by kernel_rfl) (by kernel_rfl) (by kernel_rfl) (fun _ _ _ h => h) (by rfl) hS4 ?_
    simp only [Act.put, List.setIfInBounds_toArray, List.set_cons_zero, List.set_cons_succ]
    refine take_skip 5 10 rfl rfl (by kernel_rfl) (by kernel_rfl) (by kernel_rfl) (fun _ _ _ h => h) (by rfl) hS4 ?_
    simp only [Act.put, List.setIfInBounds_toArray, List.set_cons_zero, List.set_cons_succ]
    refine take_skip 6 11 rfl rfl (by kernel_rfl) (by kernel_rfl) (by kernel_rfl) (fun _ _ _ h => h) (by rfl) hS4 ?_
    simp only [Act.put, List.setIfInBounds_toArray, List.set_cons_zero, List.set_cons_succ]
    refine take_skip 7 12 rfl rfl (by kernel_rfl) (by kernel_rfl) (by kernel_rfl) (fun _ _ _ h => h) (by rfl) hS4 ?_
    simp only [Act.put, List.setIfInBounds_toArray, List.set_cons_zero, List.set_cons_succ]
    refine take_skip 8 13 rfl rfl (by kernel_rfl) (by kernel_rfl) (by kernel_rfl) (fun _ _ _ h => h) (by rfl) hS4 ?_
    simp only [Act.put, List.setIfInBounds_toArray, List.set_cons_zero, List.set_cons_succ]
    refine take_skip 9 14 rfl rfl (by kernel_rfl) (by kernel_rfl) (by kernel_rfl) (fun _ _ _ h => h) (by rfl) hS4 ?_
    simp only [Act.put, List.setIfInBounds_toArray, List.set_cons_zero, List.set_cons_succ]
    refine take_skip 10 15 rfl rfl (by kernel_rfl) (by kernel_rfl) (by kernel_rfl) (fun _ _ _ h => h) (by rfl) hS4 ?_
    simp only [Act.put, List.setIfInBounds_toArray, List.set_cons_zero, List.set_cons_succ]
    refine take_skip 11 16 rfl rfl (by kernel_rfl) (by kernel_rfl) (by kernel_rfl) (fun _ _ _ h => h) (by rfl) hS4 ?_
    simp only [Act.put, List.setIfInBounds_toArray, List.set_cons_zero, List.set_cons_succ]
    refine take_skip 12 17 rfl rfl (by kernel_rfl) (by kernel_rfl) (by kernel_rfl) (fun _ _ _ h => h) (by rfl) hS4 ?_
    simp only [Act.put, List.setIfInBounds_toArray, List.set_cons_zero, List.set_cons_succ]
    refine take_read 13 18 (.bool false) rfl rfl (by kernel_rfl) (by kernel_rfl) (by kernel_rfl) (fun _ _ _ h => h) (by rfl) hS4 (fun w' hS => by obtain ⟨e0, e1, e2, e3, e4, e5⟩ := (hSp w').1 hS; go_simp) ?_
    simp only [Act.put, List.setIfInBounds_toArray, List.set_cons_zero, List.set_cons_succ]
    refine take_read 14 4 (.bool false) rfl rfl (by kernel_rfl) (by kernel_rfl) (by kernel_rfl) (fun _ _ _ h => h) (by rfl) hS4 (fun w' hS => by obtain ⟨e0, e1, e2, e3, e4, e5⟩ := (hSp w').1 hS; go_simp) ?_
    simp only [Act.put, List.setIfInBounds_toArray, List.set_cons_zero, List.set_cons_succ]
    refine wpAnyH_done (by kernel_rfl) ?_ _
    refine NoPanic.normal ?_
    all_goals
      go_wp2
      go_ret
      exact ⟨by rw [HN.out]; rfl, HB2.out.trans (B4.out.mono HB2.out.size)⟩
  · have C1 := Lib.hid (fun w' => wthere w' m.turn m.area m.since)
    rw [decide_eq_true h1] at C1
    have C2 := Lib.hid (fun w' => wthere w' o.turn o.area o.since)
    rw [decide_eq_false h2] at C2
    have HN := Lib.hid hN
    clear h1 hN h2
    go_enter Try.func51, Try.ntmps51
    go_upto_region 1 with fail
    obtain ⟨Sp, hSp⟩ : ∃ Sp : World → Prop, ∀ w', Sp w' ↔ (w'.cell? ⟨w.heap.size, 0, none⟩ = some (.int .i64 (m.turn : Int)) ∧ w'.cell? ⟨w.heap.size, 1, none⟩ = some (.int .i64 (m.area : Int)) ∧ w'.cell? ⟨w.heap.size, 2, none⟩ = some (.int .u64 (m.since : Int)) ∧ w'.cell? ⟨w.heap.size + 1, 0, none⟩ = some (.int .i64 (o.turn : Int)) ∧ w'.cell? ⟨w.heap.size + 1, 1, none⟩ = some (.int .i64 (o.area : Int)) ∧ w'.cell? ⟨w.heap.size + 1, 2, none⟩ = some (.int .u64 (o.since : Int))) := ⟨_, fun _ => Iff.rfl⟩
    have hS0 : Sp W2.drew := (hSp _).2 hS2
    clear hS2
    refine wp_region_noPanic ?_
    refine wp_region_held (S := Sp) (by kernel_rfl) ?_
    change wpAnyH _ _ _ _ _ _ _ _ W2.drew
    refine take_read 0 5 (.agg #[.int .i64 (m.turn : Int), .int .i64 (m.area : Int), .int .u64 (m.since : Int)]) rfl rfl (by kernel_rfl) (by kernel_rfl) (by kernel_rfl) (fun _ _ _ h => h) (by rfl) hS0 (fun w' hS => by obtain ⟨e0, e1, e2, e3, e4, e5⟩ := (hSp w').1 hS; go_simp) ?_
    simp only [Act.put, List.setIfInBounds_toArray, List.set_cons_zero, List.set_cons_succ]
    refine wpAnyH_ready (rs := [1]) (by kernel_rfl) (by simp) ?_
    refine AllReadyH.cons rfl (fun K hK => ?_) AllReadyH.nil
    go_simp
    go_at_call 42
    refine (C1.out _).mono ?_
    rintro e w4 ⟨rfl, b4_⟩
    have B4 := Lib.hid (show Below W2.heap.size W2 w4 from ⟨b4_.os, b4_.tape, b4_.output, b4_.size, b4_.block⟩)
    clear b4_
    have hS4 : Sp w4 := (hSp _).2 (HS.out w4 B4.out)
    refine hK.out _ _ hS4 (fun _ => ?_)
    clear hK K
    try simp only [Act.put, List.setIfInBounds_toArray, List.set_cons_zero, List.set_cons_succ]
    refine take_read 2 7 (.bool true) rfl rfl (by kernel_rfl) (by kernel_rfl) (by kernel_rfl) (fun _ _ _ h => h) (by rfl) hS4 (fun w' hS => by obtain ⟨e0, e1, e2, e3, e4, e5⟩ := (hSp w').1 hS; go_simp) ?_
    simp only [Act.put, List.setIfInBounds_toArray, List.set_cons_zero, List.set_cons_succ]
    refine take_read 3 8 (.agg #[.int .i64 (o.turn : Int), .int .i64 (o.area : Int), .int .u64 (o.since : Int)]) rfl rfl (by kernel_rfl) (by kernel_rfl) (by kernel_rfl) (fun _ _ _ h => h) (by rfl) hS4 (fun w' hS => by obtain ⟨e0, e1, e2, e3, e4, e5⟩ := (hSp w').1 hS; go_simp) ?_
    simp only [Act.put, List.setIfInBounds_toArray, List.set_cons_zero, List.set_cons_succ]
    refine wpAnyH_ready (rs := [4]) (by kernel_rfl) (by simp) ?_
    refine AllReadyH.cons rfl (fun K hK => ?_) AllReadyH.nil
    go_simp
    go_at_call 42
    refine (C2.out _).mono ?_
    rintro e w5 ⟨rfl, b4_⟩
    have B5 := Lib.hid (show Below W2.heap.size W2 w5 from B4.out.trans (b4_.mono B4.out.size))
    clear b4_
    have hS5 : Sp w5 := (hSp _).2 (HS.out w5 B5.out)
    refine hK.out _ _ hS5 (fun _ => ?_)
    clear hK K
    try simp only [Act.put, List.setIfInBounds_toArray, List.set_cons_zero, List.set_cons_succ]
    refine take_read 5 10 (.bool true) rfl rfl (by kernel_rfl) (by kernel_rfl) (by kernel_rfl) (fun _ _ _ h => h) (by rfl) hS5 (fun w' hS => by obtain ⟨e0, e1, e2, e3, e4, e5⟩ := (hSp w').1 hS; go_simp) ?_
    simp only [Act.put, List.setIfInBounds_toArray, List.set_cons_zero, List.set_cons_succ]
    refine take_read 6 11 (.bool true) rfl rfl (by kernel_rfl) (by kernel_rfl) (by kernel_rfl) (fun _ _ _ h => h) (by rfl) hS5 (fun w' hS => by obtain ⟨e0, e1, e2, e3, e4, e5⟩ := (hSp w').1 hS; go_simp) ?_
    simp only [Act.put, List.setIfInBounds_toArray, List.set_cons_zero, List.set_cons_succ]
    refine take_skip 7 12 rfl rfl (by kernel_rfl) (by kernel_rfl) (by kernel_rfl) (fun _ _ _ h => h) (by rfl) hS5 ?_
    simp only [Act.put, List.setIfInBounds_toArray, List.set_cons_zero, List.set_cons_succ]
    refine take_skip 8 13 rfl rfl (by kernel_rfl) (by kernel_rfl) (by kernel_rfl) (fun _ _ _ h => h) (by rfl) hS5 ?_
    simp only [Act.put, List.setIfInBounds_toArray, List.set_cons_zero, List.set_cons_succ]
    refine take_skip 9 14 rfl rfl (by kernel_rfl) (by kernel_rfl) (by kernel_rfl) (fun _ _ _ h => h) (by rfl) hS5 ?_
    simp only [Act.put, List.setIfInBounds_toArray, List.set_cons_zero, List.set_cons_succ]
    refine take_skip 10 15 rfl rfl (by kernel_rfl) (by kernel_rfl) (by kernel_rfl) (fun _ _ _ h => h) (by rfl) hS5 ?_
    simp only [Act.put, List.setIfInBounds_toArray, List.set_cons_zero, List.set_cons_succ]
    refine take_skip 11 16 rfl rfl (by kernel_rfl) (by kernel_rfl) (by kernel_rfl) (fun _ _ _ h => h) (by rfl) hS5 ?_
    simp only [Act.put, List.setIfInBounds_toArray, List.set_cons_zero, List.set_cons_succ]
    refine take_read 12 17 (.bool true) rfl rfl (by kernel_rfl) (by kernel_rfl) (by kernel_rfl) (fun _ _ _ h => h) (by rfl) hS5 (fun w' hS => by obtain ⟨e0, e1, e2, e3, e4, e5⟩ := (hSp w').1 hS; go_simp) ?_
    simp only [Act.put, List.setIfInBounds_toArray, List.set_cons_zero, List.set_cons_succ]
    refine take_read 13 18 (.bool true) rfl rfl (by kernel_rfl) (by kernel_rfl) (by kernel_rfl) (fun _ _ _ h => h) (by rfl) hS5 (fun w' hS => by obtain ⟨e0, e1, e2, e3, e4, e5⟩ := (hSp w').1 hS; go_simp) ?_
    simp only [Act.put, List.setIfInBounds_toArray, List.set_cons_zero, List.set_cons_succ]
    refine take_read 14 4 (.bool true) rfl rfl (by kernel_rfl) (by kernel_rfl) (by kernel_rfl) (fun _ _ _ h => h) (by rfl) hS5 (fun w' hS => by obtain ⟨e0, e1, e2, e3, e4, e5⟩ := (hSp w').1 hS; go_simp) ?_
    simp only [Act.put, List.setIfInBounds_toArray, List.set_cons_zero, List.set_cons_succ]
    refine wpAnyH_done (by kernel_rfl) ?_ _
    refine NoPanic.normal ?_
    all_goals
      go_wp2
      go_ret
      exact ⟨by rw [HN.out]; rfl, HB2.out.trans (B5.out.mono HB2.out.size)⟩
  · have C1 := Lib.hid (fun w' => wthere w' m.turn m.area m.since)
    rw [decide_eq_true h1] at C1
    have C2 := Lib.hid (fun w' => wthere w' o.turn o.area o.since)
    rw [decide_eq_true h2] at C2
    have C3 := Lib.hid (fun w' => wnext w' o ht)
    have HN := Lib.hid hN
    clear h1 hN h2
    go_enter Try.func51, Try.ntmps51
    go_upto_region 1 with fail
    go_region_held3 (fun W => W.cell? ⟨w.heap.size, 0, none⟩ = some (.int .i64 (m.turn : Int)) ∧ W.cell? ⟨w.heap.size, 1, none⟩ = some (.int .i64 (m.area : Int)) ∧ W.cell? ⟨w.heap.size, 2, none⟩ = some (.int .u64 (m.since : Int)) ∧ W.cell? ⟨w.heap.size + 1, 0, none⟩ = some (.int .i64 (o.turn : Int)) ∧ W.cell? ⟨w.heap.size + 1, 1, none⟩ = some (.int .i64 (o.area : Int)) ∧ W.cell? ⟨w.heap.size + 1, 2, none⟩ = some (.int .u64 (o.since : Int))) (first | exact hS2 | exact hS4 | exact hS5 | exact hS6)
      (first
        | (go_at_call_of 42 (Value.agg #[.int .i64 (m.turn : Int), .int .i64 (m.area : Int), .int .u64 (m.since : Int)]); (refine (C1.out _).mono ?_; rintro e w4 ⟨rfl, b4⟩; have B4 := Lib.hid (show Below W2.heap.size W2 w4 from ⟨b4.os, b4.tape, b4.output, b4.size, b4.block⟩); have hS4 := HS.out w4 B4.out; clear b4 C1))
        | (go_at_call 42; go_loud (refine (C2.out _).mono ?_; rintro e w5 ⟨rfl, b5⟩; have B5 := Lib.hid (show Below W2.heap.size W2 w5 from B4.out.trans (b5.mono B4.out.size)); have hS5 := HS.out w5 B5.out; clear b5))
        | (go_at_call 55; go_loud (refine (C3.out _).mono ?_; rintro e w6 ⟨rfl, b6⟩; have B6 := Lib.hid (show Below W2.heap.size W2 w6 from B5.out.trans (b6.mono B5.out.size)); have hS6 := HS.out w6 B6.out; clear b6)))
    all_goals
      go_wp2
      go_ret
      refine ⟨?_, HB2.out.trans (B6.out.mono HB2.out.size)⟩
      rw [HN.out]
      simp
      rw [Bool.eq_iff_iff]
      simp
      try omega
end Go.Proofs.Ythpbcibjohakkaa
