/- The call gather. -/
import Derived.Test.YthpbcibjohakkaaLPieces
namespace Go.Proofs.Ythpbcibjohakkaa
set_option maxRecDepth 100000
set_option maxRecDepth 100000
open Go.RowKit

/-! ### Over lists -/
theorem starts_iff (since : Nat) (f : Pc) (t : List Pc) : starts since (f :: t) = true ↔ since ≤ f.stamp ∧ nblocks f.len ≤ (f :: t).length ∧ ∀ i, i < nblocks f.len → ((f :: t).getD i Pc.no).stamp = f.stamp ∧ ((f :: t).getD i Pc.no).num = i := by
  unfold starts
  simp only [Bool.and_eq_true, decide_eq_true_eq, List.all_eq_true, List.mem_range]
  constructor
  · rintro ⟨⟨h1, h2⟩, h3⟩; exact ⟨h1, h2, h3⟩
  · rintro ⟨h1, h2, h3⟩; exact ⟨⟨h1, h2⟩, h3⟩
theorem buildRec_snoc (p : Pc) : ∀ (l : List Pc) (r : List Int) (i : Nat), buildRec r i (l ++ [p]) = putB (buildRec r i l) ((i + l.length) * 40) p.bytes
  | [], r, i => by simp [buildRec]
  | q :: l, r, i => by
    rw [List.cons_append, buildRec, buildRec_snoc p l, buildRec]
    congr 2
    simp; omega
theorem putB_len (r : List Int) (o : Nat) (b : List Int) (h : o ≤ r.length) : (putB r o b).length = r.length := by
  unfold putB
  exact length_splice _ _ _ (by rw [List.length_take]; omega)
theorem putB_byte (r : List Int) (o : Nat) (b : List Int) (h1 : ∀ z ∈ r, 0 ≤ z ∧ z ≤ 255) (h2 : ∀ z ∈ b, 0 ≤ z ∧ z ≤ 255) : ∀ z ∈ putB r o b, 0 ≤ z ∧ z ≤ 255 :=
  splice_byte h1 (fun z hz => h2 z (List.mem_of_mem_take hz))

/-! ### In memory -/
/-- Pieces as a part of a row. -/
structure PcsV (w : World) (g o n : Nat) (xs : List PV) : Prop where
  len : xs.length = n
  row : ∀ (i : Nat) (x : PV), xs[i]? = some x → w.rangeAt g (o + i * 4) x.cells
  is : ∀ x ∈ xs, PcIs w x.p x.A x.n x.c
theorem PcsV.below {w w' : World} {g o n : Nat} {xs : List PV} (h : PcsV w g o n xs) (hb : Below w.heap.size w w') : PcsV w' g o n xs :=
  ⟨h.len, fun i x hx => rangeAt_below (h.row i x hx) hb, fun x hx => pcis_below (h.is x hx) hb⟩
theorem PcsAt.part {w : World} {base g K : Nat} {xs : List PV} (h : PcsAt w base g K xs) (a n : Nat) (han : a + n ≤ K) : PcsV w g (a * 4) n ((xs.drop a).take n) := by
  refine ⟨by simp [h.len]; omega, fun i x hx => ?_, fun x hx => h.is x (List.mem_of_mem_drop (List.mem_of_mem_take hx))⟩
  rw [List.getElem?_take] at hx
  split at hx
  · rw [List.getElem?_drop] at hx
    intro j v hv
    have hj : j < 4 := (List.getElem?_eq_some_iff.1 hv).1
    have := h.at_ hx j hj
    rw [show a * 4 + i * 4 + j = (a + i) * 4 + j by omega, this, hv]
  · cases hx

/-- Records in memory: each in a block of its own. -/
structure RecAt (w : World) (base : Nat) (v : Value) (rs : List (List Int)) (vs : List Value) : Prop where
  own : w.ownsRow base 33 1 v rs.length vs
  at_ : ∀ (i : Nat) (r : List Int), rs[i]? = some r → ∃ g, vs[i]? = some (.slice (some ⟨g, 0, none⟩) r.length r.length) ∧ Row w g r ∧ base ≤ g ∧ v.ownBlock ≠ some g
  nd : vs.Nodup
  byte : ∀ r ∈ rs, ∀ z ∈ r, 0 ≤ z ∧ z ≤ 255
theorem RecAt.nil (w : World) (base : Nat) : RecAt w base (.slice none 0 0) [] [] := ⟨World.ownsRow_nil _ _ _ _, fun i r h => by simp at h, List.nodup_nil, by simp⟩
theorem RecAt.below {w w' : World} {base B : Nat} {v : Value} {rs : List (List Int)} {vs : List Value} (h : RecAt w base v rs vs) (hb : Below B w w') (hB : w.heap.size ≤ B) : RecAt w' base v rs vs :=
  ⟨own_stays h.own fun k e => hb.block k (by have := (h.own.lt k e).2; omega), fun i r hr => by
    obtain ⟨g, e, hrow, m⟩ := h.at_ i r hr
    exact ⟨g, e, hrow.keep (hb.block g (by have := hrow.lt; omega)), m⟩, h.nd, h.byte⟩
/-- A record more. -/
theorem RecAt.more {w W w5 : World} {base g cap B : Nat} {v : Value} {rs : List (List Int)} {vs : List Value} (h : RecAt w base v rs vs) (hb : Below w.heap.size w W) {r : List Int} (hr : Row W B r) (hB : w.heap.size ≤ B) (hbase : base ≤ w.heap.size) (hrb : ∀ z ∈ r, 0 ≤ z ∧ z ≤ 255)
    (own5 : w5.ownsRow base 33 1 (.slice (some ⟨g, 0, none⟩) (rs.length + 1) cap) (rs.length + 1) (vs ++ [.slice (some ⟨B, 0, none⟩) r.length r.length])) (gr : W.grownBy w5 v.ownBlock) (hat : v.ownBlock = some g ∨ g = W.heap.size) :
    RecAt w5 base (.slice (some ⟨g, 0, none⟩) (rs.length + 1) cap) (rs ++ [r]) (vs ++ [.slice (some ⟨B, 0, none⟩) r.length r.length]) := by
  have hrl := hr.lt
  have hs := hb.size
  have hvl : vs.length = rs.length := by have := h.own.1; omega
  have hgB : g ≠ B := by
    rcases hat with e | e
    · have := (h.own.lt g e).2; omega
    · omega
  have hvB : v.ownBlock ≠ some B := fun e => by have := (h.own.lt B e).2; omega
  refine ⟨by rw [List.length_append]; exact own5, fun i x hx => ?_, ?_, fun x hx => ?_⟩
  · by_cases hi : i < rs.length
    · rw [List.getElem?_append_left hi] at hx
      obtain ⟨g', e, hrow, m1, m2⟩ := h.at_ i x hx
      have hl := hrow.lt
      refine ⟨g', by rw [List.getElem?_append_left (by omega)]; exact e, (hrow.keep (hb.block g' hl)).keep (gr.block g' (by omega) (fun e2 => m2 e2.symm)), m1, ?_⟩
      intro e2
      have e3 : g = g' := by simpa [Value.ownBlock] using e2
      subst e3
      rcases hat with e4 | e4
      · exact m2 e4
      · omega
    · have hil := (List.getElem?_eq_some_iff.1 hx).1
      simp at hil
      obtain rfl : i = rs.length := by omega
      rw [List.getElem?_append_right (Nat.le_refl _)] at hx
      simp at hx
      subst hx
      exact ⟨B, by rw [List.getElem?_append_right (by omega), hvl]; simp, hr.keep (gr.block B hrl (fun e => hvB e.symm)), by omega, by simpa [Value.ownBlock] using hgB⟩
  · rw [List.nodup_append]
    refine ⟨h.nd, by simp, fun a ha b hb2 e => ?_⟩
    simp at hb2
    subst hb2
    subst e
    obtain ⟨i, hi⟩ := List.getElem?_of_mem ha
    have hil : i < rs.length := by have := (List.getElem?_eq_some_iff.1 hi).1; omega
    obtain ⟨g', e', hrow, _⟩ := h.at_ i _ (List.getElem?_eq_getElem hil)
    rw [hi] at e'
    have hl := hrow.lt
    injection e' with e'
    injection e' with e' _ _
    injection e' with e'
    injection e' with e' _ _
    omega
  · rcases List.mem_append.1 hx with hx | hx
    · exact h.byte x hx
    · simp at hx; subst hx; exact hrb

theorem list_app_sl {w : World} {ops : Array Oper} {rest : List Oper} {o : Oper} {a : Act} {Q : Exit → Act → World → Prop} (hgd : o.guard = none) (s x : Operand)
    (ho : o.op = .call { callee := .builtin .append, args := #[s, x], argTypes := #[25, 25] }) (base : Nat) (v : Value) (n : Nat) (xs : List Value) (hs : a.eval s = v) (own : w.ownsRow base 33 1 v n xs)
    (B c : Nat) (u : Value) (hx : a.eval x = .slice (some ⟨B, 0, none⟩) 1 c) (hb : w.heap[B]? = some (.cells #[u] 33 (0, 0))) (hu : u.oneCell' = true) (hn : n ≤ 4398046511104) (hbase : base ≤ w.heap.size)
    (h : ∀ g cap w', w'.ownsRow base 33 1 (.slice (some ⟨g, 0, none⟩) (n + 1) cap) (n + 1) (xs ++ [u]) → w.grownBy w' v.ownBlock → (v.ownBlock = some g ∨ g = w.heap.size) → wpList Try.prog ops Q rest (a.put o.dst (.slice (some ⟨g, 0, none⟩) (n + 1) cap)) w') :
    wpList Try.prog ops Q (o :: rest) a w := by
  obtain ⟨i0, hi, hz0, hz1, hz2⟩ := info_parts infoSl
  exact wpList_append_far w hgd s x 25 ho base 33 i0 _ 1 24 Try.underlying25 hi hz0 hz1 hz2 (by rfl) (by decide) v n xs hs own ⟨B, 0, none⟩ 1 c [u] hx rfl
    (World.news_of_block (cs := #[u]) hb) (by simpa using hu) (by decide) (by simp only [maxLen]; omega) (by omega) hbase h

theorem wpStill_sliceFrom {ops : Array Oper} {w : World} {Q : Act → Prop} {a : Act} {o : Oper} {rest : List Oper} (hgd : o.guard = none) (x lo : Operand) (ho : o.op = .slice 33 x (some lo) none none)
    (b L C k : Nat) (hx : a.eval x = .slice (some ⟨b, 0, none⟩) L C) (z : Int) (hlo : a.eval lo = .int .i64 z) (hz : z = (k : Int)) (hk : k ≤ L)
    (h : ∀ dp, (¬ C = k → dp = some ⟨b, k, none⟩) → wpStill Try.prog ops w Q rest (a.put o.dst (.slice dp (L - k) (C - k)))) : wpStill Try.prog ops w Q (o :: rest) a := by
  obtain ⟨i0, hi, hz0, hz1, hz2⟩ := info_parts info_u8
  subst hz
  refine wpStill_step (fun K hK => ?_)
  rw [if_pos (by simp [Region.wanted, hgd])]
  have hrun : (Instr.slice 33 (.slice (some ⟨b, 0, none⟩) L C) (some (.int .i64 (k : Int))) none none).run Try.prog w = .ok (.slice (if C = k then some ⟨b, 0, none⟩ else some ⟨b, k, none⟩) (L - k) (C - k)) w := by
    rw [run_slice_l w 33 _ L C Try.underlying33 .i64 (k : Int) (by omega) (by omega)]
    rw [show Try.prog.elem 33 = 5 by kernel_rfl]
    have hs : (sizeOf 5).run Try.prog w = .ok 1 w := by simp [sizeOf, typeInfo, hi, hz1]
    rw [hs]
    simp only [sliced, Result.andThen_ok, Int.toNat_natCast, Nat.mul_one]
    split
    · rfl
    · rw [Option.map_some, Addr.add_mid, Nat.zero_add]
  have hrun2 : (Instr.sliceAt 33 (.slice (some ⟨b, 0, none⟩) L C) (some (.int .i64 (k : Int))) none none).run Try.prog w = .ok (.slice (if C = k then some ⟨b, 0, none⟩ else some ⟨b, k, none⟩) (L - k) (C - k)) w := by
    rw [run_sliceAt_slice w 33 _ _ _ _ Try.underlying33]; exact hrun
  unfold Oper.still execOp
  simp only [ho, hx, hlo, Sem.run_bind, Sem.run_pure, Result.andThen_ok, Option.map_some, Option.map_none]
  rw [hrun2]
  simp only [Result.andThen_ok, Oper.stillUpon_value]
  exact hK _ (h _ (fun e => if_neg e))

def GatherIs (w : World) (rs : List (List Int)) (e : Ending) (w' : World) : Prop :=
  ∃ v vs, e = .returned v ∧ RecAt w' w.heap.size v rs vs ∧ Below w.heap.size w w'

set_option maxHeartbeats 8000000 in
theorem wgather (w : World) (g o n c : Nat) (xs : List PV) (h : PcsV w g o n xs) (hnc : n ≤ c) (hn : n ≤ 16384) (hc : c ≤ 65536) (since : Nat) (hsn : since < 18446744073709551616) (HLEN : ∀ x ∈ xs, x.p.len ≤ 65536) :
    Calls Try.prog 44 #[.slice (some ⟨g, o, none⟩) n c, .int .u64 (since : Int)] w (GatherIs w (gather since (xs.map PV.p))) := by
  obtain ⟨ps, hps⟩ : ∃ ps, ps = xs.map PV.p := ⟨_, rfl⟩
  have HPS := Lib.hid hps
  have HLEN0 := Lib.hid HLEN
  clear HLEN
  have HV := Lib.hid h
  have hpl : ps.length = n := by rw [hps, List.length_map]; exact h.len
  have HPL := Lib.hid hpl
  have HNC := Lib.hid hnc
  have HN := Lib.hid hn
  have HC := Lib.hid hc
  rw [← hps]
  clear hps h hpl
  have hni : (n : Int) ≤ 16384 := by omega
  have hci : (c : Int) ≤ 65536 := by omega
  have hnci : (n : Int) ≤ (c : Int) := by omega
  go_enter Try.func44, Try.ntmps44
  go_wp2
  go_step3
  go_wp2
  go_step3
  go_wp2
  go_loopg [5, 6] n (fun gk v i wr => ∃ (a : Nat) (done : List (List Int)) (vs : List Value), a + gk = n ∧ i = .int .i64 (a : Nat) ∧ done.length ≤ a ∧ RecAt wr w.heap.size v done vs ∧ done ++ gather since (ps.drop a) = gather since ps ∧ Below w.heap.size w wr)
  case atStart => exact ⟨0, [], [], Nat.zero_add _, rfl, Nat.le_refl _, RecAt.nil _ _, by simp, Below.refl _ _⟩
  case round =>
    obtain ⟨a, done, vs, hag, rfl, hdl, hR, hG, hB⟩ := hrel
    by_cases hlt : a < n
    · obtain ⟨x, hx⟩ : ∃ x, xs[a]? = some x := ⟨_, List.getElem?_eq_getElem (by rw [HV.out.len]; exact hlt)⟩
      have hrow := (HV.out.below hB).row a x hx
      have HRow := Lib.hid (show wr.rangeAt g (o + a * 4) [.int .u64 (x.p.stamp : Int), .int .i64 (x.p.len : Int), .int .i64 (x.p.num : Int), .slice x.A x.n x.c] from hrow)
      have HI := Lib.hid (show (Try.prog.info? 86).map (·.size) = some [Value.int .u64 (x.p.stamp : Int), .int .i64 (x.p.len : Int), .int .i64 (x.p.num : Int), .slice x.A x.n x.c].length by rfl)
      have HDROP := Lib.hid (show ps.drop a = x.p :: ps.drop (a + 1) by
        have hpa : ps[a]? = some x.p := by rw [HPS.out, List.getElem?_map, hx]; rfl
        have hal := (List.getElem?_eq_some_iff.1 hpa).1
        rw [List.drop_eq_getElem_cons hal, (List.getElem?_eq_some_iff.1 hpa).2])
      have hai : (a : Int) < (n : Int) := by omega
      have HA := Lib.hid hlt
      have HAG := Lib.hid hag
      have HR := Lib.hid hR
      have HG := Lib.hid hG
      have HB := Lib.hid hB
      have HDL := Lib.hid hdl
      have HLE := Lib.hid (HLEN0.out x (List.mem_of_getElem? hx))
      obtain ⟨W1, hW1⟩ : ∃ W, wr.alloc (.cells #[.int .u64 (x.p.stamp : Int), .int .i64 (x.p.len : Int), .int .i64 (x.p.num : Int), .slice x.A x.n x.c] 86) = W := ⟨_, rfl⟩
      have HW1 := Lib.hid hW1
      have Q1 := Lib.hid (show W1.heap[wr.heap.size]? = some (.cells #[.int .u64 (x.p.stamp : Int), .int .i64 (x.p.len : Int), .int .i64 (x.p.num : Int), .slice x.A x.n x.c] 86 (0, 0)) by rw [← hW1]; exact heap_alloc_new _ _)
      have B1 := Lib.hid (show Below wr.heap.size wr W1 by rw [← hW1]; exact (Below.refl _ _).alloc (Nat.le_refl _) _)
      have HS1 := Lib.hid (show W1.heap.size = wr.heap.size + 1 by rw [← hW1]; simp)
      clear hrow hR hG hB hx hlt hdl hag hW1
      go_upto_region 5 with (with_reducible refine wpList_load_mid rfl 86 (.tmp 18) rfl g (o + a * 4) rfl [.int .u64 (x.p.stamp : Int), .int .i64 (x.p.len : Int), .int .i64 (x.p.num : Int), .slice x.A x.n x.c] _ HRow.out Try.underlying86 rfl HI.out ?_)
      rw [HW1.out]
      have k0 : W1.cell? ⟨wr.heap.size, 0, none⟩ = some (.int .u64 (x.p.stamp : Int)) := cell_of_row _ _ 0 _ _ _ Q1.out
      have k1 : W1.cell? ⟨wr.heap.size, 1, none⟩ = some (.int .i64 (x.p.len : Int)) := cell_of_row _ _ 1 _ _ _ Q1.out
      obtain ⟨m, hm⟩ : ∃ m, m = nblocks x.p.len := ⟨_, rfl⟩
      have CB := Lib.hid (wblocksN x.p.len W1 (by have := HLE.out; omega))
      rw [← hm] at CB
      have HM := Lib.hid hm
      have hm16 : (m : Int) ≤ 1639 := by have := nblocks_big x.p.len HLE.out; omega
      have hm1 : (1 : Int) ≤ (m : Int) := by have := nblocks_pos x.p.len; omega
      clear hm HRow HI HW1
      by_cases hst : x.p.stamp < since
      · have h1 : (x.p.stamp : Int) < (since : Int) := by omega
        have h1n : decide (x.p.stamp < since) = true := by simpa using hst
        have HNO := Lib.hid (show starts since (ps.drop a) = false by
          rw [HDROP.out, ← Bool.not_eq_true, starts_iff]
          rintro ⟨h, -⟩; omega)
        clear hst
        go_wp2_with (go_at_call 28; go_loud (refine CB.out.mono ?_; rintro e w' ⟨rfl, rfl⟩))
        try rw [Exit.noGoto_ret]
        go_ret
        exact ⟨_, vs, rfl, by rw [← HG.out, gather_no HNO.out, List.append_nil]; exact HR.out.below B1.out (Nat.le_refl _), HB.out.trans (B1.out.mono HB.out.size)⟩
      · have h1 : decide ((x.p.stamp : Int) < (since : Int)) = false := by simp; omega
        have h1n : decide (x.p.stamp < since) = false := by simpa using hst
        by_cases hend : n < a + m
        · have h2 : (n : Int) < (a : Int) + (m : Int) := by omega
          have HNO := Lib.hid (show starts since (ps.drop a) = false by
            rw [HDROP.out, ← Bool.not_eq_true, starts_iff]
            rintro ⟨-, h, -⟩
            rw [← HM.out] at h
            have hl : (ps.drop (a + 1)).length = n - (a + 1) := by rw [List.length_drop, HPL.out]
            simp only [List.length_cons, hl] at h
            have := HA.out
            omega)
          clear hst hend
          go_wp2_with (go_at_call 28; go_loud (refine CB.out.mono ?_; rintro e w' ⟨rfl, rfl⟩))
          try rw [Exit.noGoto_ret]
          go_ret
          exact ⟨_, vs, rfl, by rw [← HG.out, gather_no HNO.out, List.append_nil]; exact HR.out.below B1.out (Nat.le_refl _), HB.out.trans (B1.out.mono HB.out.size)⟩
        · have h2 : decide ((n : Int) < (a : Int) + (m : Int)) = false := by simp; omega
          have HEND := Lib.hid (show a + m ≤ n by omega)
          have HST := Lib.hid (show since ≤ x.p.stamp by omega)
          clear hst hend
          have hmk : (Instr.makeSlice 33 (.int .i64 (x.p.len : Int)) (.int .i64 (x.p.len : Int))).run Try.prog W1 = .ok (.slice (some ⟨W1.heap.size, 0, none⟩) x.p.len x.p.len) (W1.alloc (.cells (madeCells #[.int .u8 0] x.p.len) 5)) := run_make_bytes W1 (x.p.len : Int) (x.p.len : Int) (by omega) (Int.le_refl _) (by have := HLE.out; omega)
          obtain ⟨W2, hW2⟩ : ∃ W, W1.alloc (.cells (madeCells #[.int .u8 0] x.p.len) 5) = W := ⟨_, rfl⟩
          rw [hW2] at hmk
          obtain ⟨R, hRR⟩ : ∃ R, R = W1.heap.size := ⟨_, rfl⟩
          have HRR := Lib.hid hRR
          have RW2 := Lib.hid (show Row W2 R (List.replicate x.p.len 0) by rw [← hW2, hRR]; exact row_made W1 x.p.len)
          have B2 := Lib.hid (show Below R W1 W2 by rw [← hW2, hRR]; exact (Below.refl W1.heap.size W1).alloc (Nat.le_refl W1.heap.size) _)
          rw [← hRR] at hmk
          clear hW2 hRR
          have hac : ¬ c = a := by have := HA.out; omega
          have hae0 : (a : Int) ≤ (a : Int) + (m : Int) := by omega
          have hae1 : (a : Int) + (m : Int) ≤ (n : Int) := by have := HEND.out; omega
          have hae2 : (a : Int) + (m : Int) ≤ (c : Int) := by omega
          have hae3 : ((a : Int) + (m : Int)).toNat = a + m := by omega
          have hae4 : a + m ≤ c := by omega
          have hae5 : a + m - a = m := by omega
          go_upto_region 9 with (go_at_call 28; go_loud (refine CB.out.mono ?_; rintro e w' ⟨rfl, rfl⟩))
          clear hmk k1 hac hae0 hae1 hae2 hae3 hae4 hae5 CB h1 h1n h2
          obtain ⟨gp, hgp⟩ : ∃ gp, gp = (ps.drop a).take m := ⟨_, rfl⟩
          have HGP := Lib.hid hgp
          have hgl : gp.length = m := by rw [hgp, List.length_take, List.length_drop, HPL.out]; have := HEND.out; omega
          have HGL := Lib.hid hgl
          have HGAT := Lib.hid (show ∀ j y, xs[a + j]? = some y → j < m → gp[j]? = some y.p from fun j y hy hj => by
            rw [hgp, List.getElem?_take, if_pos hj, List.getElem?_drop, HPS.out, List.getElem?_map, hy]; rfl)
          have HRW := Lib.hid (show wr.heap.size < R by rw [HRR.out, HS1.out]; omega)
          have HR2 := Lib.hid (show R < W2.heap.size from RW2.out.lt)
          have BW2 := Lib.hid (show Below wr.heap.size wr W2 from B1.out.trans (B2.out.mono (Nat.le_of_lt HRW.out)))
          clear hgp hgl
          have HX0 := Lib.hid (show ps.drop a = x.p :: ps.drop (a + 1) from HDROP.out)
          go_loopg [43] m (fun gk2 i wy => ∃ (j : Nat) (r : List Int), j + gk2 = m ∧ i = .int .i64 (j : Nat) ∧ r = buildRec (List.replicate x.p.len 0) 0 (gp.take j) ∧ r.length = x.p.len ∧ (∀ z ∈ r, 0 ≤ z ∧ z ≤ 255) ∧ Row wy R r ∧ (∀ i', i' < j → (gp.getD i' Pc.no).stamp = x.p.stamp ∧ (gp.getD i' Pc.no).num = i') ∧ Below R W2 wy)
          case atStart => exact ⟨0, _, Nat.zero_add _, rfl, rfl, by simp [buildRec], by intro z hz; simp [buildRec] at hz; omega, RW2.out, fun i' h => absurd h (Nat.not_lt_zero _), Below.refl _ _⟩
          case round =>
            rename World => wy
            rename Nat => gkI
            obtain ⟨j, r, hjg, rfl, hr, hrl, hrb, hRow, hVal, hBy⟩ := hrel
            have BY := Lib.hid (show Below wr.heap.size wr wy from BW2.out.trans (hBy.mono (Nat.le_of_lt HRW.out)))
            have BYW := Lib.hid (show Below w.heap.size w wy from HB.out.trans (BY.out.mono HB.out.size))
            have HSY := Lib.hid (show R < wy.heap.size from Nat.lt_of_lt_of_le HR2.out hBy.size)
            have QXY := Lib.hid (show wy.heap[wr.heap.size]? = some (.cells #[.int .u64 (x.p.stamp : Int), .int .i64 (x.p.len : Int), .int .i64 (x.p.num : Int), .slice x.A x.n x.c] 86 (0, 0)) from (hBy.block _ HRW.out).trans ((B2.out.block _ HRW.out).trans Q1.out))
            have HRE := Lib.hid hr
            have HRL := Lib.hid hrl
            have HRB := Lib.hid hrb
            have HROWR := Lib.hid hRow
            have HVAL := Lib.hid hVal
            have HBY := Lib.hid hBy
            have HJG := Lib.hid hjg
            clear hr hrl hrb hRow hVal hBy hjg k0
            by_cases hjm : j < m
            · obtain ⟨y, hy⟩ : ∃ y, xs[a + j]? = some y := ⟨_, List.getElem?_eq_getElem (by rw [HV.out.len]; have := HEND.out; omega)⟩
              have hrow := (HV.out.below BYW.out).row (a + j) y hy
              have HRow := Lib.hid (show wy.rangeAt g (o + a * 4 + j * 4) [.int .u64 (y.p.stamp : Int), .int .i64 (y.p.len : Int), .int .i64 (y.p.num : Int), .slice y.A y.n y.c] by rw [show o + a * 4 + j * 4 = o + (a + j) * 4 by omega]; exact hrow)
              have HI := Lib.hid (show (Try.prog.info? 86).map (·.size) = some [Value.int .u64 (y.p.stamp : Int), .int .i64 (y.p.len : Int), .int .i64 (y.p.num : Int), .slice y.A y.n y.c].length by rfl)
              have HPI := Lib.hid (show PcIs wy y.p y.A y.n y.c from pcis_below (HV.out.is y (List.mem_of_getElem? hy)) BYW.out)
              have HGJ := Lib.hid (show gp[j]? = some y.p from HGAT.out j y hy hjm)
              have HDJ := Lib.hid (show (ps.drop a).getD j Pc.no = y.p by
                rw [List.getD_eq_getElem?_getD, List.getElem?_drop, HPS.out, List.getElem?_map, hy]; rfl)
              have HJ := Lib.hid hjm
              have hji : (j : Int) < (m : Int) := by omega
              obtain ⟨W3, hW3⟩ : ∃ W, wy.alloc (.cells #[.int .u64 (y.p.stamp : Int), .int .i64 (y.p.len : Int), .int .i64 (y.p.num : Int), .slice y.A y.n y.c] 86) = W := ⟨_, rfl⟩
              have HW3 := Lib.hid hW3
              have QY := Lib.hid (show W3.heap[wy.heap.size]? = some (.cells #[.int .u64 (y.p.stamp : Int), .int .i64 (y.p.len : Int), .int .i64 (y.p.num : Int), .slice y.A y.n y.c] 86 (0, 0)) by rw [← hW3]; exact heap_alloc_new _ _)
              have B3 := Lib.hid (show Below wy.heap.size wy W3 by rw [← hW3]; exact (Below.refl _ _).alloc (Nat.le_refl _) _)
              have QX := Lib.hid (show W3.heap[wr.heap.size]? = some (.cells #[.int .u64 (x.p.stamp : Int), .int .i64 (x.p.len : Int), .int .i64 (x.p.num : Int), .slice x.A x.n x.c] 86 (0, 0)) from (B3.out.block _ (by have h1 := HRW.out; have h2 := HSY.out; omega)).trans QXY.out)
              clear hrow hy hjm hW3
              go_upto_region 11 with (with_reducible refine wpList_load_mid rfl 86 (.tmp 46) rfl g (o + a * 4 + j * 4) rfl [.int .u64 (y.p.stamp : Int), .int .i64 (y.p.len : Int), .int .i64 (y.p.num : Int), .slice y.A y.n y.c] _ HRow.out Try.underlying86 rfl HI.out ?_)
              rw [HW3.out]
              have x0 : W3.cell? ⟨wr.heap.size, 0, none⟩ = some (.int .u64 (x.p.stamp : Int)) := cell_of_row _ _ 0 _ _ _ QX.out
              have y0 : W3.cell? ⟨wy.heap.size, 0, none⟩ = some (.int .u64 (y.p.stamp : Int)) := cell_of_row _ _ 0 _ _ _ QY.out
              have y2 : W3.cell? ⟨wy.heap.size, 2, none⟩ = some (.int .i64 (y.p.num : Int)) := cell_of_row _ _ 2 _ _ _ QY.out
              have HDONE := Lib.hid (show ∀ W, W = W3 → starts since (ps.drop a) = false → GatherIs w (gather since ps) (.returned u5) W from fun W e hno => by
                subst e
                exact ⟨_, vs, rfl, by rw [← HG.out, gather_no hno, List.append_nil]; exact HR.out.below (BY.out.trans (B3.out.mono BY.out.size)) (Nat.le_refl _), BYW.out.trans (B3.out.mono BYW.out.size)⟩)
              clear HRow HI HW3
              by_cases hse : y.p.stamp = x.p.stamp
              · rw [hse] at y0
                by_cases hne : y.p.num = j
                · rw [hne] at y2
                  have HSE := Lib.hid hse
                  have HNE := Lib.hid hne
                  clear hse hne
                  have hq0 : j * 40 < x.p.len ∨ (x.p.len = 0 ∧ j = 0) := by
                    have h1 := HJ.out
                    rw [HM.out] at h1
                    unfold nblocks at h1
                    split at h1 <;> omega
                  have hq2 : (j : Int) * 40 ≤ (x.p.len : Int) := by omega
                  have hq5 : (j : Int) * 40 ≤ 9223372036854775807 := by have := HLE.out; omega
                  have hq6 : j * 40 ≤ x.p.len := by omega
                  have hq7 : ((j : Int) * 40).toNat = j * 40 := by omega
                  have hq8 : IntKind.i64.wrap ((j : Int) * 40) = (j : Int) * 40 := by rw [IntKind.wrap_i64]; have := HLE.out; omega
                  have hq9 : (0 : Int) ≤ (j : Int) * 40 := by omega
                  have HQ6 := Lib.hid hq6
                  have y3 : W3.drew.cell? ⟨wy.heap.size, 3, none⟩ = some (.slice y.A y.n y.c) := cell_of_row _ _ 3 _ _ _ QY.out
                  have ROW3 := Lib.hid (show Row W3.drew R r from (HROWR.out.keep (B3.out.block R HSY.out)).drew)
                  have hby := HPI.out.1.below' B3.out
                  obtain ⟨mm, hmm⟩ : ∃ mm, Nat.min y.n (x.p.len - j * 40) = mm := ⟨_, rfl⟩
                  have hm1 : mm ≤ y.n ∧ mm ≤ x.p.len - j * 40 ∧ (mm = y.n ∨ mm = x.p.len - j * 40) := by
                    rcases Nat.le_total y.n (x.p.len - j * 40) with h | h
                    · have e : Nat.min y.n (x.p.len - j * 40) = y.n := Nat.min_eq_left h
                      rw [e] at hmm; omega
                    · have e : Nat.min y.n (x.p.len - j * 40) = x.p.len - j * 40 := Nat.min_eq_right h
                      rw [e] at hmm; omega
                  have HMM := Lib.hid hmm
                  have HM1 := Lib.hid hm1
                  have RB3 := Lib.hid (show RB W3.drew y.A mm (y.p.bytes.take (x.p.len - j * 40)) by
                    have h1 := (hby.take (k := mm) hm1.1).drew
                    have h2 : y.p.bytes.take mm = y.p.bytes.take (x.p.len - j * 40) := by
                      have h3 := hby.len
                      rw [List.take_eq_take_iff]
                      omega
                    rw [h2] at h1
                    exact h1)
                  have HBB := Lib.hid hby.byte
                  have HFIT := Lib.hid (show j * 40 + mm ≤ r.length by
                    rw [HRL.out]; have := HQ6.out; omega)
                  have HNX := Lib.hid (show putB r (j * 40) y.p.bytes = buildRec (List.replicate x.p.len 0) 0 (gp.take (j + 1)) by
                    rw [List.take_add_one, HGJ.out, Option.toList_some, buildRec_snoc, ← HRE.out, List.length_take, HGL.out, Nat.min_eq_left (Nat.le_of_lt HJ.out), Nat.zero_add])
                  have HNV := Lib.hid (show ∀ i', i' < j + 1 → (gp.getD i' Pc.no).stamp = x.p.stamp ∧ (gp.getD i' Pc.no).num = i' from fun i' hi' => by
                    by_cases e : i' = j
                    · subst e
                      rw [List.getD_eq_getElem?_getD, HGJ.out]
                      exact ⟨HSE.out, HNE.out⟩
                    · exact HVAL.out i' (by omega))
                  clear hby hmm hm1
                  clear hq0
                  go_upto_region 12 with fail
                  clear x0 y0 y2
                  refine wp_region_still_tail 6 (by kernel_rfl) (by kernel_rfl) ?_
                  simp only [List.take_succ_cons, List.take_zero, List.drop_succ_cons, List.drop_zero]
                  change wpStill _ _ W3.drew _ _ _
                  iterate 3 still_step
                  refine wpStill_sliceFrom rfl (.tmp 59) (.tmp 61) rfl R x.p.len x.p.len (j * 40) rfl ((j : Int) * 40) rfl (by omega) HQ6.out (fun dp hdp => ?_)
                  have HDP := Lib.hid hdp
                  clear hdp
                  iterate 2 still_step
                  refine wpStill_nil ?_
                  change wpList _ _ _ _ _ W3.drew
                  refine row_copy rfl (.tmp 62) (.tmp 64) rfl dp y.A (x.p.len - j * 40) (x.p.len - j * 40) y.n y.c mm rfl rfl R (j * 40) r ROW3.out (y.p.bytes.take (x.p.len - j * 40)) RB3.out HMM.out (fun h => HDP.out (by have := HM1.out; omega)) HFIT.out ?_
                  intro w5 h5 hb5
                  have H5 := Lib.hid (show Row w5 R (putB r (j * 40) y.p.bytes) by
                    rw [show putB r (j * 40) y.p.bytes = splice r (j * 40) (y.p.bytes.take (x.p.len - j * 40)) by unfold putB; rw [HRL.out]]
                    exact h5)
                  have B5 := Lib.hid (show Below R W2 w5 from (HBY.out.trans (B3.out.mono (Nat.le_of_lt HSY.out)).drew).trans hb5)
                  clear h5 hb5 y3
                  go_wp2
                  go_roundg (m - (j + 1))
                  case measure => have := HJ.out; have := HJG.out; omega
                  case rel => exact ⟨j + 1, _, by have := HJ.out; omega, by go_num, HNX.out, by rw [putB_len _ _ _ (by rw [HRL.out]; exact HQ6.out)]; exact HRL.out, putB_byte _ _ _ HRB.out HBB.out, H5.out, HNV.out, B5.out⟩
                · have h1 : ¬ (y.p.num : Int) = (j : Int) := by omega
                  have h1n : ¬ y.p.num = j := hne
                  have HNO := Lib.hid (show starts since (ps.drop a) = false by
                    rw [HX0.out, ← Bool.not_eq_true, starts_iff]
                    rintro ⟨-, -, h⟩
                    have h2 := (h j (by rw [← HM.out]; exact HJ.out)).2
                    rw [← HX0.out, HDJ.out] at h2
                    exact hne h2)
                  clear hse hne
                  go_wp2
                  try rw [Exit.noGoto_ret]
                  go_ret
                  exact HDONE.out _ rfl HNO.out
              · have h1 : ¬ (y.p.stamp : Int) = (x.p.stamp : Int) := by omega
                have h1n : ¬ y.p.stamp = x.p.stamp := hse
                have HNO := Lib.hid (show starts since (ps.drop a) = false by
                  rw [HX0.out, ← Bool.not_eq_true, starts_iff]
                  rintro ⟨-, -, h⟩
                  have h2 := (h j (by rw [← HM.out]; exact HJ.out)).1
                  rw [← HX0.out, HDJ.out] at h2
                  exact hse h2)
                clear hse
                go_wp2
                try rw [Exit.noGoto_ret]
                go_ret
                exact HDONE.out _ rfl HNO.out
            · obtain rfl : j = m := by have := HJG.out; omega
              have HST2 := Lib.hid (show starts since (ps.drop a) = true by
                rw [HX0.out, starts_iff]
                refine ⟨HST.out, ?_, fun i hi => ?_⟩
                · rw [← HX0.out, ← HM.out, List.length_drop, HPL.out]; have := HEND.out; omega
                · rw [← HM.out] at hi
                  have h1 := HVAL.out i hi
                  rw [HGP.out, List.getD_eq_getElem?_getD, List.getElem?_take, if_pos hi, ← List.getD_eq_getElem?_getD] at h1
                  rw [← HX0.out]
                  exact h1)
              have HREC := Lib.hid (show recOf (ps.drop a) = r by
                unfold recOf
                rw [HX0.out]
                simp only [List.headD_cons]
                rw [← HM.out, ← HX0.out, ← HGP.out, HRE.out, List.take_of_length_le (by rw [HGL.out]; exact Nat.le_refl _)])
              have HGA := Lib.hid (show (done ++ [r]) ++ gather since (ps.drop (a + j)) = gather since ps by
                rw [List.append_assoc, ← HREC.out, ← HG.out, gather_yes HST2.out, HX0.out]
                simp only [List.headD_cons]
                rw [← HM.out, ← HX0.out, List.drop_drop]
                rfl)
              obtain ⟨W4, hW4⟩ : ∃ W, wy.alloc (.cells #[.slice (some ⟨R, 0, none⟩) x.p.len x.p.len] 33) = W := ⟨_, rfl⟩
              have HW4 := Lib.hid hW4
              have Q4 := Lib.hid (show W4.heap[wy.heap.size]? = some (.cells #[.slice (some ⟨R, 0, none⟩) x.p.len x.p.len] 33 (0, 0)) by rw [← hW4]; exact heap_alloc_new _ _)
              have B4 := Lib.hid (show Below wy.heap.size wy W4 by rw [← hW4]; exact (Below.refl _ _).alloc (Nat.le_refl _) _)
              have B4R := Lib.hid (show Below wr.heap.size wr W4 from BY.out.trans (B4.out.mono BY.out.size))
              have O4 := Lib.hid (show W4.ownsRow w.heap.size 33 1 u5 done.length vs from own_stays HR.out.own fun k e => B4R.out.block k (HR.out.own.lt k e).2)
              have ROW4 := Lib.hid (show Row W4 R r from HROWR.out.keep (B4.out.block R HSY.out))
              have HSR := Lib.hid (show wr.heap.size ≤ R from Nat.le_of_lt HRW.out)
              clear hW4 hjm
              go_wp2_with (at_builtin; rw [HW4.out]; refine list_app_sl (by rfl) (.tmp 67) (.tmp 69) (by rfl) w.heap.size u5 done.length _ (by rfl) O4.out wy.heap.size 1 (.slice (some ⟨R, 0, none⟩) x.p.len x.p.len) (by rfl) Q4.out rfl (by have := HDL.out; have := HN.out; have := HA.out; omega) (Nat.le_trans HB.out.size B4R.out.size) ?_; intro g5 cap5 w5 own5 gr5 at5; have HR5 := Lib.hid (HR.out.more B4R.out ROW4.out HSR.out HB.out.size HRB.out (by rw [HRL.out]; exact own5) gr5 at5); have HB5 := Lib.hid (show Below w.heap.size w w5 from (HB.out.trans (B4R.out.mono HB.out.size)).trans (below_of_grown gr5 (Nat.le_trans HB.out.size B4R.out.size) (fun k e => (HR.out.own.lt k e).1))); clear own5 gr5 at5)
              go_roundg (n - (a + j))
              case measure => have := HAG.out; have := HA.out; omega
              case rel => exact ⟨a + j, _, _, by have := HEND.out; omega, by go_num, by rw [List.length_append]; have := HDL.out; simp; omega, HR5.out, HGA.out, HB5.out⟩
    · obtain rfl : a = n := by omega
      have hd : ps.drop a = [] := List.drop_eq_nil_of_le (by rw [HPL.out]; exact Nat.le_refl _)
      have HE := Lib.hid (show done = gather since ps by rw [← hG, hd]; simp [gather, gatherN])
      have HR := Lib.hid hR
      have HB := Lib.hid hB
      clear hG hR hB hlt hd hdl
      go_wp2
      try rw [Exit.noGoto_ret]
      go_ret
      exact ⟨_, vs, rfl, by rw [← HE.out]; exact HR.out, HB.out⟩
end Go.Proofs.Ythpbcibjohakkaa
