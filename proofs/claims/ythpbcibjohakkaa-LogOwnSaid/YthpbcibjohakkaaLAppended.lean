/- The reference: Appended. -/
import Derived.Test.YthpbcibjohakkaaJBH
import Derived.Deep.RegionLaw
namespace Go.Proofs.Ythpbcibjohakkaa
set_option maxRecDepth 100000
set_option maxRecDepth 100000
open Go.RowKit

set_option maxHeartbeats 4000000 in
theorem rappended_long (w : World) (k : Nat) (A : Option Addr) (m cap : Nat) (B : Option Addr) (n c : Nat) (hn2 : 65536 < n) (hn3 : n ≤ 9223372036854775807) :
    Calls Try.prog 32 #[.agg #[.int .i64 (k : Int), .slice A m cap], .slice B n c] w fun e w' => e = .returned (.tuple #[.agg #[.int .i64 (k : Int), .slice A m cap], .int .i64 3]) ∧ Below w.heap.size w w' := by
  have h1 : (65536 : Int) < (n : Int) := by omega
  go_enter Try.func32, Try.ntmps32
  go_wp2
  refine bodyPost_ret (v := .tuple #[.agg #[.int .i64 (k : Int), .slice A m cap], .int .i64 3]) (by simp [results, Try.results32, go_sem]) rfl ⟨rfl, ?_⟩
  exact ((Below.refl _ _).alloc (Nat.le_refl _) _).alloc (by simp) _
set_option maxHeartbeats 4000000 in
theorem rappended_full (w : World) (k : Nat) (G : Nat → Prop) (base : Nat) (A : Option Addr) (cap : Nat) (rs : List (List Int)) (vs : List Value) (h : Recs G w base (.slice A rs.length cap) rs vs) (hl : ∀ r ∈ rs, r.length ≤ 655360) (hu : usedOf rs ≤ k) (B : Option Addr) (n c : Nat) (hn2 : n ≤ 65536) (hk : k ≤ 16384) (hfull : k < usedOf rs + nblocks n) :
    Calls Try.prog 32 #[.agg #[.int .i64 (k : Int), .slice A rs.length cap], .slice B n c] w fun e w' => e = .returned (.tuple #[.agg #[.int .i64 (k : Int), .slice A rs.length cap], .int .i64 4]) ∧ Below w.heap.size w w' := by
  have h1 : ¬ (65536 : Int) < (n : Int) := by omega
  have NB := Lib.hid fun W => rblocksN n W (by omega)
  obtain ⟨nb, hnb⟩ : ∃ nb, nblocks n = nb := ⟨_, rfl⟩
  rw [hnb] at hfull NB
  obtain ⟨rm, hrm⟩ : ∃ rm, k - usedOf rs = rm := ⟨_, rfl⟩
  have h2 : (rm : Int) < (nb : Int) := by omega
  obtain ⟨W2, hW2⟩ : ∃ W, (w.alloc (Obj.cells #[.int .i64 (k : Int), .slice A rs.length cap] 27)).alloc (Obj.cells #[.int .i64 0, .slice none 0 0] 27) = W := ⟨_, rfl⟩
  have HW2 := Lib.hid hW2
  have hs2 : W2.heap.size = w.heap.size + 2 := by rw [← hW2]; simp
  have q0 := Lib.hid (show W2.heap[w.heap.size]? = some (.cells #[.int .i64 (k : Int), .slice A rs.length cap] 27 (0, 0)) by rw [← hW2]; exact heap_alloc2_old _ _ _)
  have q1 := Lib.hid (show W2.heap[w.heap.size + 1]? = some (.cells #[.int .i64 0, .slice none 0 0] 27 (0, 0)) by rw [← hW2]; exact heap_alloc2_new _ _ _)
  have HB := Lib.hid (show Below w.heap.size w W2 by rw [← hW2]; exact ((Below.refl _ _).alloc (Nat.le_refl _) _).alloc (by simp) _)
  have HS2 := Lib.hid hs2
  have RM := Lib.hid (show ∀ W, Below W2.heap.size W2 W → Calls Try.prog 20 #[.agg #[.int .i64 (k : Int), .slice A rs.length cap]] W fun e w' => e = .returned (.int .i64 (rm : Int)) ∧ Below W.heap.size W w' from fun W hb => by
    rw [← hrm]
    exact rroom W G base k _ rs vs ((h.below HB.out).below hb) hu hk hl)
  clear hW2 hs2 h hnb hrm
  go_enter Try.func32, Try.ntmps32
  go_upto_region 3 with fail
  rw [HW2.out]
  have c0 : W2.cell? ⟨w.heap.size, 0, none⟩ = some (.int .i64 (k : Int)) := cell_of_row _ _ 0 _ _ _ q0.out
  have c1 : W2.cell? ⟨w.heap.size, 1, none⟩ = some (.slice A rs.length cap) := cell_of_row _ _ 1 _ _ _ q0.out
  go_cut [17] (fun v17 wx => v17 = .bool true ∧ Below W2.heap.size W2 wx)
  · go_region_with (first
      | (go_at_call 13; refine (NB.out _).mono ?_; rintro e w1 ⟨rfl, rfl⟩)
      | (go_at_call 20; refine (RM.out _ (by first | exact Below.refl _ _ | exact Joins.below_draws _ _ _ | exact (Below.refl _ _).drew)).mono ?_; rintro e w1 ⟨rfl, hb1⟩; have HB1 := Lib.hid hb1; clear hb1))
    all_goals
      have HZ := Lib.hid (show Below W2.heap.size W2 w1 by first | exact HB1.out | exact (show Below W2.heap.size W2 W2.drew from (Below.refl _ _).drew).trans HB1.out)
      clear HB1
      go_wp2
      go_meet
      first | exact ⟨rfl, HZ.out⟩ | exact HZ.out
  · obtain ⟨rfl, hbc⟩ := hcut
    have z0 : wc.heap[w.heap.size]? = some (.cells #[.int .i64 (k : Int), .slice A rs.length cap] 27 (0, 0)) := (hbc.block _ (by rw [HS2.out]; omega)).trans q0.out
    have z1 : wc.heap[w.heap.size + 1]? = some (.cells #[.int .i64 0, .slice none 0 0] 27 (0, 0)) := (hbc.block _ (by rw [HS2.out]; omega)).trans q1.out
    have k0 : wc.cell? ⟨w.heap.size, 0, none⟩ = some (.int .i64 (k : Int)) := cell_of_row _ _ 0 _ _ _ z0
    have k1 : wc.cell? ⟨w.heap.size, 1, none⟩ = some (.slice A rs.length cap) := cell_of_row _ _ 1 _ _ _ z0
    have j0 : wc.cell? ⟨w.heap.size + 1, 0, none⟩ = some (.int .i64 0) := cell_of_row _ _ 0 _ _ _ z1
    have j1 : wc.cell? ⟨w.heap.size + 1, 1, none⟩ = some (.slice none 0 0) := cell_of_row _ _ 1 _ _ _ z1
    have f0 : wc.frozen? ⟨w.heap.size + 1, 0, none⟩ = false := frozen_of_row _ _ _ _ _ z1
    have f1 : wc.frozen? ⟨w.heap.size + 1, 1, none⟩ = false := frozen_of_row _ _ _ _ _ z1
    have HBC := Lib.hid (show Below w.heap.size w wc from HB.out.trans (hbc.mono HB.out.size))
    clear c0 c1 z0 z1 hbc
    go_wp2
    refine bodyPost_ret (v := .tuple #[.agg #[.int .i64 (k : Int), .slice A rs.length cap], .int .i64 4]) (by simp [results, Try.results32, go_sem, j0, j1]) rfl ⟨rfl, ?_⟩
    exact (HBC.out.setCell (p := ⟨w.heap.size + 1, 0, none⟩) (by simp) _).setCell (p := ⟨w.heap.size + 1, 1, none⟩) (by simp) _

/-- The loop that copies: a records stand in the new row. -/
structure AMid (w : World) (o k : Nat) (A : Option Addr) (n cap : Nat) (vs : List Value) (wr : World) (a : Nat) (v : Value) : Prop where
  box : wr.heap[w.heap.size]? = some (.cells #[.int .i64 (k : Int), .slice A n cap] 27 (0, 0))
  res : wr.heap[w.heap.size + 1]? = some (.cells #[.int .i64 0, .slice none 0 0] 27 (0, 0))
  out : wr.heap[o]? = some (.cells #[.int .i64 (k : Int), v] 27 (0, 0))
  own : wr.ownsRow (o + 1) 33 1 v a (vs.take a)
  below : Below w.heap.size w wr
theorem AMid.more {w : World} {o k : Nat} {A : Option Addr} {n cap : Nat} {vs : List Value} {wr W1 w5 : World} {a g c5 : Nat} {v u : Value} (h : AMid w o k A n cap vs wr a v) (ho : w.heap.size + 2 ≤ o) (hb : Below wr.heap.size wr W1) (hu : vs[a]? = some u)
    (own5 : w5.ownsRow (o + 1) 33 1 (.slice (some ⟨g, 0, none⟩) (a + 1) c5) (a + 1) (vs.take a ++ [u])) (gr : W1.grownBy w5 v.ownBlock) :
    AMid w o k A n cap vs (w5.setCell ⟨o, 1, none⟩ (.slice (some ⟨g, 0, none⟩) (a + 1) c5)) (a + 1) (.slice (some ⟨g, 0, none⟩) (a + 1) c5) := by
  have hlt : o < wr.heap.size := (Array.getElem?_eq_some_iff.1 h.out).1
  have old : ∀ j, j ≤ o → w5.heap[j]? = wr.heap[j]? := fun j hj => by
    have hbs := hb.size
    exact (gr.block j (by omega) (fun e => by have := (h.own.lt j e.symm).1; omega)).trans (hb.block j (by omega))
  have hset := heap_setCell_ne w5 o 1 (.slice (some ⟨g, 0, none⟩) (a + 1) c5)
  have hg : ∀ j, (Value.slice (some ⟨g, 0, none⟩) (a + 1) c5).ownBlock = some j → j ≠ o := fun j e => by have := (own5.lt j e).1; omega
  refine ⟨(hset _ (by omega)).trans ((old _ (by omega)).trans h.box), (hset _ (by omega)).trans ((old _ (by omega)).trans h.res), ?_, ?_, ?_⟩
  · have h5 := (old o (Nat.le_refl _)).trans h.out
    rw [blk_set h5]; rfl
  · rw [List.take_add_one, hu]
    exact own_stays own5 fun j e => hset j (hg j e)
  · have h1 : Below w.heap.size w W1 := h.below.trans (hb.mono h.below.size)
    have h2 : Below w.heap.size w w5 := h1.grown gr h1.size (fun j e => by have := (h.own.lt j e).1; omega)
    exact h2.setCell (p := ⟨o, 1, none⟩) (by simp only; omega) _
theorem AMid.drew {w : World} {o k : Nat} {A : Option Addr} {n cap : Nat} {vs : List Value} {wr : World} {a : Nat} {v : Value} (h : AMid w o k A n cap vs wr a v) : AMid w o k A n cap vs wr.drew a v := ⟨h.box, h.res, h.out, own_stays h.own fun _ _ => rfl, h.below.drew⟩

theorem lstep_app_sl {w : World} {ops : Array Oper} {o : Oper} {a : Act} {K : Act → World → Prop} {Q : Exit → Act → World → Prop} {E : Prop} (hgd : o.guard = none) (s x : Operand)
    (ho : o.op = .call { callee := .builtin .append, args := #[s, x], argTypes := #[25, 25] }) (base : Nat) (v : Value) (n : Nat) (xs : List Value) (hs : a.eval s = v) (own : w.ownsRow base 33 1 v n xs)
    (B c : Nat) (u : Value) (hx : a.eval x = .slice (some ⟨B, 0, none⟩) 1 c) (hb : w.heap[B]? = some (.cells #[u] 33 (0, 0))) (hu : u.oneCell' = true) (hn : n ≤ 4398046511104) (hbase : base ≤ w.heap.size)
    (h : ∀ g cap w', w'.ownsRow base 33 1 (.slice (some ⟨g, 0, none⟩) (n + 1) cap) (n + 1) (xs ++ [u]) → w.grownBy w' v.ownBlock → (v.ownBlock = some g ∨ g = w.heap.size) → K (a.put o.dst (.slice (some ⟨g, 0, none⟩) (n + 1) cap)) w') :
    if Region.wanted o (yielded ops a.tmps) = true then Oper.wp Try.prog o a w K Q else E := by
  obtain ⟨i0, hi, hz0, hz1, hz2⟩ := info_parts infoSl
  exact step_append_far w hgd s x 25 ho base 33 i0 _ 1 24 Try.underlying25 hi hz0 hz1 hz2 (by rfl) (by decide) v n xs hs own ⟨B, 0, none⟩ 1 c [u] hx rfl
    (World.news_of_block (cs := #[u]) hb) (by simpa using hu) (by decide) (by simp only [maxLen]; omega) (by omega) hbase h

set_option maxHeartbeats 8000000 in
theorem rappended_do (w : World) (k : Nat) (G : Nat → Prop) (base : Nat) (A : Option Addr) (cap : Nat) (rs : List (List Int)) (vs : List Value) (h : Recs G w base (.slice A rs.length cap) rs vs) (hl : ∀ r ∈ rs, r.length ≤ 655360) (hu : usedOf rs ≤ k) (B : Option Addr) (n c : Nat) (zs : List Int) (hr : RB w B n zs) (hn : n ≤ c) (hc : c ≤ 9223372036854775807) (hn2 : n ≤ 65536) (hk : k ≤ 16384) (hfit : usedOf rs + nblocks n ≤ k) :
    Calls Try.prog 32 #[.agg #[.int .i64 (k : Int), .slice A rs.length cap], .slice B n c] w fun e w' => ∃ v vs', e = .returned (.tuple #[.agg #[.int .i64 (k : Int), v], .int .i64 0]) ∧ Recs (FreshOr G w B) w' w.heap.size v (rs ++ [zs]) vs' ∧ Below w.heap.size w w' := by
  have h1 : ¬ (65536 : Int) < (n : Int) := by omega
  have NB := Lib.hid fun W => rblocksN n W (by omega)
  obtain ⟨nb, hnb⟩ : ∃ nb, nblocks n = nb := ⟨_, rfl⟩
  rw [hnb] at hfit NB
  obtain ⟨rm, hrm⟩ : ∃ rm, k - usedOf rs = rm := ⟨_, rfl⟩
  have h2 : ¬ (rm : Int) < (nb : Int) := by omega
  have hnl : rs.length ≤ 16384 := by have := usedOf_ge rs; omega
  have hnli : (rs.length : Int) ≤ 16384 := by omega
  obtain ⟨A2, cap2, hform, hA⟩ := h.form
  injection hform with hf1 hf2 hf3
  subst hf1
  subst hf3
  have HR := Lib.hid hr
  have HREC := Lib.hid h
  obtain ⟨W2, hW2⟩ : ∃ W, (w.alloc (Obj.cells #[.int .i64 (k : Int), .slice A rs.length cap] 27)).alloc (Obj.cells #[.int .i64 0, .slice none 0 0] 27) = W := ⟨_, rfl⟩
  have HW2 := Lib.hid hW2
  have hs2 : W2.heap.size = w.heap.size + 2 := by rw [← hW2]; simp
  have q0 := Lib.hid (show W2.heap[w.heap.size]? = some (.cells #[.int .i64 (k : Int), .slice A rs.length cap] 27 (0, 0)) by rw [← hW2]; exact heap_alloc2_old _ _ _)
  have q1 := Lib.hid (show W2.heap[w.heap.size + 1]? = some (.cells #[.int .i64 0, .slice none 0 0] 27 (0, 0)) by rw [← hW2]; exact heap_alloc2_new _ _ _)
  have HB := Lib.hid (show Below w.heap.size w W2 by rw [← hW2]; exact ((Below.refl _ _).alloc (Nat.le_refl _) _).alloc (by simp) _)
  have HS2 := Lib.hid hs2
  have RM := Lib.hid (show ∀ W, Below W2.heap.size W2 W → Calls Try.prog 20 #[.agg #[.int .i64 (k : Int), .slice A rs.length cap]] W fun e w' => e = .returned (.int .i64 (rm : Int)) ∧ Below W.heap.size W w' from fun W hb => by
    rw [← hrm]
    exact rroom W G base k _ rs vs ((h.below HB.out).below hb) hu hk hl)
  clear hW2 hs2 h hnb hrm hr hl
  go_enter Try.func32, Try.ntmps32
  go_upto_region 3 with fail
  rw [HW2.out]
  have c0 : W2.cell? ⟨w.heap.size, 0, none⟩ = some (.int .i64 (k : Int)) := cell_of_row _ _ 0 _ _ _ q0.out
  have c1 : W2.cell? ⟨w.heap.size, 1, none⟩ = some (.slice A rs.length cap) := cell_of_row _ _ 1 _ _ _ q0.out
  go_cut [17] (fun v17 wx => v17 = .bool false ∧ Below W2.heap.size W2 wx)
  · go_region_with (first
      | (go_at_call 13; refine (NB.out _).mono ?_; rintro e w1 ⟨rfl, rfl⟩)
      | (go_at_call 20; refine (RM.out _ (by first | exact Below.refl _ _ | exact Joins.below_draws _ _ _ | exact (Below.refl _ _).drew)).mono ?_; rintro e w1 ⟨rfl, hb1⟩; have HB1 := Lib.hid hb1; clear hb1))
    all_goals
      have HZ := Lib.hid (show Below W2.heap.size W2 w1 by first | exact HB1.out | exact (show Below W2.heap.size W2 W2.drew from (Below.refl _ _).drew).trans HB1.out)
      clear HB1
      go_wp2
      go_meet
      first | exact ⟨rfl, HZ.out⟩ | exact ⟨by rw [decide_eq_false (by omega)], HZ.out⟩ | exact HZ.out
  · obtain ⟨rfl, hbc⟩ := hcut
    have z0 : wc.heap[w.heap.size]? = some (.cells #[.int .i64 (k : Int), .slice A rs.length cap] 27 (0, 0)) := (hbc.block _ (by rw [HS2.out]; omega)).trans q0.out
    have z1 : wc.heap[w.heap.size + 1]? = some (.cells #[.int .i64 0, .slice none 0 0] 27 (0, 0)) := (hbc.block _ (by rw [HS2.out]; omega)).trans q1.out
    have k0 : wc.cell? ⟨w.heap.size, 0, none⟩ = some (.int .i64 (k : Int)) := cell_of_row _ _ 0 _ _ _ z0
    have hbs := hbc.size
    have hBC : Below w.heap.size w wc := HB.out.trans (hbc.mono HB.out.size)
    obtain ⟨W5, hW5⟩ : ∃ W, wc.alloc (Obj.cells #[.int .i64 (k : Int), .slice none 0 0] 27) = W := ⟨_, rfl⟩
    have HW5 := Lib.hid hW5
    have HO := Lib.hid (show w.heap.size + 2 ≤ wc.heap.size by rw [← HS2.out]; exact hbs)
    have b5 : Below wc.heap.size wc W5 := by rw [← hW5]; exact (Below.refl _ _).alloc (Nat.le_refl _) _
    have M0 := Lib.hid (show AMid w wc.heap.size k A rs.length cap vs W5 0 (.slice none 0 0) from
      ⟨(b5.block _ (by have := HO.out; omega)).trans z0, (b5.block _ (by have := HO.out; omega)).trans z1, by rw [← hW5]; exact heap_alloc_new _ _, World.ownsRow_nil _ _ _ _, hBC.trans (b5.mono hBC.size)⟩)
    clear c0 c1 z0 z1 hbc hbs hBC hW5 b5
    go_upto_region 7 with fail
    rw [HW5.out]
    have HN := Lib.hid hA
    clear HW2 q0 q1 HB HS2 RM NB k0 hA
    go_loopw [7] (fun i wr => ∃ (a : Nat) (v : Value), i = .int .i64 (a : Nat) ∧ a ≤ rs.length ∧ AMid w wc.heap.size k A rs.length cap vs wr a v) (fun i _ => rs.length - (intOf i).toNat)
    case atStart => exact ⟨0, _, rfl, Nat.zero_le _, M0.out⟩
    case round =>
      obtain ⟨a, v, rfl, ha, hM⟩ := hrel
      have k1 : wr.cell? ⟨w.heap.size, 1, none⟩ = some (.slice A rs.length cap) := cell_of_row _ _ 1 _ _ _ hM.box
      by_cases hlt : a < rs.length
      · have hai : (a : Int) < (rs.length : Int) := by omega
        obtain ⟨g, rfl⟩ := HN.out (by omega)
        obtain ⟨r, hra⟩ : ∃ r, rs[a]? = some r := ⟨_, List.getElem?_eq_getElem hlt⟩
        have hRc := HREC.out.below hM.below
        obtain ⟨X, cx, e1, -⟩ := hRc.at_ a r hra
        have hd := hM.drew
        have hRd := HREC.out.below hd.below
        have d1 : wr.drew.cell? ⟨w.heap.size, 1, none⟩ = some (.slice (some ⟨g, 0, none⟩) rs.length cap) := cell_of_row _ _ 1 _ _ _ hd.box
        have d2 : wr.drew.cell? ⟨g, a, none⟩ = some (.slice X r.length cx) := by rw [hRd.own.cellAt a (by omega)]; exact e1
        have d3 : wr.drew.cell? ⟨wc.heap.size, 1, none⟩ = some v := cell_of_row _ _ 1 _ _ _ hd.out
        obtain ⟨W1, hW1⟩ : ∃ W, wr.drew.alloc (.cells #[.slice X r.length cx] 33) = W := ⟨_, rfl⟩
        have b1 : Below wr.drew.heap.size wr.drew W1 := by rw [← hW1]; exact (Below.refl _ _).alloc (Nat.le_refl _) _
        have n1 : W1.heap[wr.drew.heap.size]? = some (.cells #[.slice X r.length cx] 33 (0, 0)) := by rw [← hW1]; exact heap_alloc_new _ _
        have d4 : W1.cell? ⟨wc.heap.size, 1, none⟩ = some v := keep_below d3 b1
        have d5 : W1.cell? ⟨w.heap.size, 1, none⟩ = some (.slice (some ⟨g, 0, none⟩) rs.length cap) := keep_below d1 b1
        have d6 : W1.cell? ⟨g, a, none⟩ = some (.slice X r.length cx) := keep_below d2 b1
        have o1 : W1.ownsRow (wc.heap.size + 1) 33 1 v a (vs.take a) := own_stays hd.own fun j e => b1.block j (hd.own.lt j e).2
        have hlo : wc.heap.size < wr.drew.heap.size := (Array.getElem?_eq_some_iff.1 hd.out).1
        have HF := Lib.hid (show ∀ w5, W1.grownBy w5 v.ownBlock → w5.cell? ⟨wc.heap.size, 1, none⟩ = some v ∧ w5.frozen? ⟨wc.heap.size, 1, none⟩ = false from fun w5 gr => by
          have h5 : w5.heap[wc.heap.size]? = _ := ((gr.block _ (by have := b1.size; omega) (fun e => by have := (hd.own.lt _ e.symm).1; omega)).trans (b1.block _ hlo)).trans hd.out
          exact ⟨cell_of_row _ _ 1 _ _ _ h5, frozen_of_row _ _ _ _ _ h5⟩)
        have HM := Lib.hid hd
        have HO1 := Lib.hid o1
        have HN1 := Lib.hid n1
        have HB1 := Lib.hid b1
        have HE := Lib.hid e1
        have HLT := Lib.hid hlt
        have HSZ := Lib.hid (show wc.heap.size + 1 ≤ W1.heap.size by have := b1.size; omega)
        clear hd o1 n1 b1 e1 hRc hRd hM hra M0 hlo
        go_wp2
        go_region_law
          (first
            | ((refine lstep_app_sl (by rfl) (.tmp 30) (.tmp 36) (by rfl) (wc.heap.size + 1) v a _ (by rfl) HO1.out wr.heap.size 1 _ (by rfl) HN1.out rfl (by omega) HSZ.out ?_; intro g5 c5 w5 own5 gr5 at5; have MM := Lib.hid (HM.out.more HO.out HB1.out HE.out own5 gr5); have x1 := (HF.out w5 gr5).1; have f1 := (HF.out w5 gr5).2; clear own5 gr5 at5)))
        all_goals
          go_wp2
          go_roundw
          case rel => exact ⟨a + 1, _, by go_num, HLT.out, MM.out⟩
          case measure => have := HLT.out; simp [intOf]; omega
      · obtain rfl : a = rs.length := by omega
        have HM := Lib.hid hM
        have d3 : wr.cell? ⟨wc.heap.size, 1, none⟩ = some v := cell_of_row _ _ 1 _ _ _ hM.out
        obtain ⟨W1, hW1⟩ : ∃ W, wr.alloc (.cells #[.slice B n c] 33) = W := ⟨_, rfl⟩
        have b1 : Below wr.heap.size wr W1 := by rw [← hW1]; exact (Below.refl _ _).alloc (Nat.le_refl _) _
        have n1 : W1.heap[wr.heap.size]? = some (.cells #[.slice B n c] 33 (0, 0)) := by rw [← hW1]; exact heap_alloc_new _ _
        have o1 : W1.ownsRow (wc.heap.size + 1) 33 1 v rs.length (vs.take rs.length) := own_stays hM.own fun j e => b1.block j (hM.own.lt j e).2
        have hlo : wc.heap.size < wr.heap.size := (Array.getElem?_eq_some_iff.1 hM.out).1
        have HF := Lib.hid (show ∀ w5, W1.grownBy w5 v.ownBlock → w5.heap[wc.heap.size]? = some (.cells #[.int .i64 (k : Int), v] 27 (0, 0)) ∧ w5.heap[w.heap.size + 1]? = some (.cells #[.int .i64 0, .slice none 0 0] 27 (0, 0)) ∧ Below w.heap.size w w5 from fun w5 gr => by
          have hb := b1.size
          have ho := HO.out
          refine ⟨((gr.block _ (by omega) (fun e => by have := (hM.own.lt _ e.symm).1; omega)).trans (b1.block _ hlo)).trans hM.out, ((gr.block _ (by omega) (fun e => by have := (hM.own.lt _ e.symm).1; omega)).trans (b1.block _ (by omega))).trans hM.res, ?_⟩
          have hb1 : Below w.heap.size w W1 := hM.below.trans (b1.mono hM.below.size)
          exact hb1.grown gr hb1.size (fun j e => by have := (hM.own.lt j e).1; omega))
        have HW1 := Lib.hid hW1
        have HO1 := Lib.hid o1
        have HN1 := Lib.hid n1
        have HSZ := Lib.hid (show wc.heap.size + 1 ≤ W1.heap.size by have := b1.size; omega)
        have hne1 : ¬ wc.heap.size = w.heap.size + 1 := by have := HO.out; omega
        have hne2 : ¬ w.heap.size + 1 = wc.heap.size := by have := HO.out; omega
        clear hM M0 hW1 b1 n1 o1 hlo hlt ha
        go_wp2_with (at_builtin; rw [HW1.out]; refine list_app_sl (by rfl) (.tmp 40) (.tmp 42) (by rfl) (wc.heap.size + 1) v rs.length _ (by rfl) HO1.out wr.heap.size 1 (.slice B n c) (by rfl) HN1.out rfl (by omega) HSZ.out ?_; intro g6 c6 w6 own6 gr6 at6; have R6 := (HF.out w6 gr6).1; have P6 := (HF.out w6 gr6).2.1; have B6 := Lib.hid (HF.out w6 gr6).2.2; have OWN6 := Lib.hid own6; have x1 : w6.cell? ⟨wc.heap.size, 1, none⟩ = some v := cell_of_row _ _ 1 _ _ _ R6; have f1 : w6.frozen? ⟨wc.heap.size, 1, none⟩ = false := frozen_of_row _ _ _ _ _ R6; have x0 : w6.cell? ⟨wc.heap.size, 0, none⟩ = some (.int .i64 (k : Int)) := cell_of_row _ _ 0 _ _ _ R6; have j0 : w6.cell? ⟨w.heap.size + 1, 0, none⟩ = some (.int .i64 0) := cell_of_row _ _ 0 _ _ _ P6; have j1 : w6.cell? ⟨w.heap.size + 1, 1, none⟩ = some (.slice none 0 0) := cell_of_row _ _ 1 _ _ _ P6; have g0 : w6.frozen? ⟨w.heap.size + 1, 0, none⟩ = false := frozen_of_row _ _ _ _ _ P6; have g1 : w6.frozen? ⟨w.heap.size + 1, 1, none⟩ = false := frozen_of_row _ _ _ _ _ P6; clear own6 gr6 at6 R6 P6 d3)
        have HO9 := HO.out
        have HB9 := Lib.hid (((B6.out.setCell (p := ⟨wc.heap.size, 1, none⟩) (by simp only; omega) (Value.slice (some ⟨g6, 0, none⟩) (rs.length + 1) c6)).setCell (p := ⟨w.heap.size + 1, 0, none⟩) (by simp) (.int .i64 (k : Int))).setCell (p := ⟨w.heap.size + 1, 1, none⟩) (by simp) (Value.slice (some ⟨g6, 0, none⟩) (rs.length + 1) c6))
        have hvl : vs.length = rs.length := by have := HREC.out.own.1; omega
        have HG6 := Lib.hid (OWN6.out.lt g6 rfl).1
        have hzl := HR.out.len
        refine bodyPost_ret (v := .tuple #[.agg #[.int .i64 (k : Int), .slice (some ⟨g6, 0, none⟩) (rs.length + 1) c6], .int .i64 0]) (by simp [results, Try.results32, go_sem, j0, j1]) rfl ⟨_, vs ++ [.slice B n c], rfl, ⟨?_, ?_, ?_⟩, HB9.out⟩
        · have ho := OWN6.out
          rw [List.take_of_length_le (by omega)] at ho
          rw [List.length_append, List.length_singleton]
          refine own_base (own_stays ho fun j e => ?_) (fun j e => ?_)
          · have e : g6 = j := by simpa [Value.ownBlock] using e
            have := HG6.out
            rw [heap_setCell_ne _ _ _ _ _ (by omega), heap_setCell_ne _ _ _ _ _ (by omega), heap_setCell_ne _ _ _ _ _ (by omega)]
          · have e : g6 = j := by simpa [Value.ownBlock] using e
            have := HG6.out
            omega
        · intro j e
          have e : g6 = j := by simpa [Value.ownBlock] using e
          have := HG6.out
          exact .inr (.inl (by omega))
        · intro j r hj
          by_cases hlt : j < rs.length
          · rw [List.getElem?_append_left hlt] at hj
            obtain ⟨X, cx, e1, e2, e3, e4, e5⟩ := HREC.out.at_ j r hj
            exact ⟨X, cx, by rw [List.getElem?_append_left (by omega)]; exact e1, e2, e3, e4.below' HB9.out, fun ad e0 h0 => .inl (e5 ad e0 h0)⟩
          · have hj2 : j = rs.length := by have := (List.getElem?_eq_some_iff.1 hj).1; simp at this; omega
            subst hj2
            rw [List.getElem?_append_right (Nat.le_refl _), Nat.sub_self] at hj
            simp only [List.getElem?_cons_zero, Option.some.injEq] at hj
            subst hj
            rw [hzl]
            exact ⟨B, c, by rw [List.getElem?_append_right (by omega), hvl, Nat.sub_self]; rfl, hn, hc, HR.out.below' HB9.out, fun ad e0 h0 => .inr (.inr ⟨ad, e0, rfl⟩)⟩
end Go.Proofs.Ythpbcibjohakkaa
