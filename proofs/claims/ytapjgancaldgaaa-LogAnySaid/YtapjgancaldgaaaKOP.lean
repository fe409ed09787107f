import Derived.Test.YtapjgancaldgaaaLPieces
import Derived.Test.YtapjgancaldgaaaDLoad
/- The call gather. -/
namespace Go.Proofs.Ytapjgancaldgaaa
set_option maxRecDepth 100000
open Go.RowKit

/-! ### Over lists -/
theorem starts_iff (since : Nat) (f : Pc) (t : List Pc) : starts since (f :: t) = true ↔ since ≤ f.stamp ∧ nblocks f.len ≤ (f :: t).length ∧ ∀ i, i < nblocks f.len → ((f :: t).getD i Pc.no).stamp = f.stamp ∧ ((f :: t).getD i Pc.no).num = i := by
  unfold starts
  simp only [Bool.and_eq_true, decide_eq_true_eq, List.all_eq_true, List.mem_range]
  constructor
  · rintro ⟨⟨h1, h2⟩, h3⟩; exact ⟨h1, h2, h3⟩
  · rintro ⟨h1, h2, h3⟩; exact ⟨⟨h1, h2⟩, h3⟩
theorem buildRec_snoc (p : Pc) : ∀ (l : List Pc) (r : List Int) (i : Nat), buildRec r i (l ++ [p]) = putB (buildRec r i l) ((i + l.length) * 40) p.bytes
  | [], r, i => by simp [buildRec]
  | q :: l, r, i => by
    rw [List.cons_append, buildRec, buildRec_snoc p l, buildRec]
    congr 2
    simp; omega
theorem putB_len (r : List Int) (o : Nat) (b : List Int) (h : o ≤ r.length) : (putB r o b).length = r.length := by
  unfold putB
  exact length_splice _ _ _ (by rw [List.length_take]; omega)
theorem putB_byte (r : List Int) (o : Nat) (b : List Int) (h1 : ∀ z ∈ r, 0 ≤ z ∧ z ≤ 255) (h2 : ∀ z ∈ b, 0 ≤ z ∧ z ≤ 255) : ∀ z ∈ putB r o b, 0 ≤ z ∧ z ≤ 255 :=
  splice_byte h1 (fun z hz => h2 z (List.mem_of_mem_take hz))

/-! ### In memory -/
/-- Pieces as a part of a row. -/
structure PcsV (w : World) (g o n : Nat) (xs : List PV) : Prop where
  len : xs.length = n
  row : ∀ (i : Nat) (x : PV), xs[i]? = some x → w.rangeAt g (o + i * 4) x.cells
  is : ∀ x ∈ xs, PcIs w x.p x.A x.n x.c
theorem PcsV.below {w w' : World} {g o n : Nat} {xs : List PV} (h : PcsV w g o n xs) (hb : Below w.heap.size w w') : PcsV w' g o n xs :=
  ⟨h.len, fun i x hx => rangeAt_below (h.row i x hx) hb, fun x hx => pcis_below (h.is x hx) hb⟩
theorem PcsAt.part {w : World} {base g K : Nat} {xs : List PV} (h : PcsAt w base g K xs) (a n : Nat) (han : a + n ≤ K) : PcsV w g (a * 4) n ((xs.drop a).take n) := by
  refine ⟨by simp [h.len]; omega, fun i x hx => ?_, fun x hx => h.is x (List.mem_of_mem_drop (List.mem_of_mem_take hx))⟩
  rw [List.getElem?_take] at hx
  split at hx
  · rw [List.getElem?_drop] at hx
    intro j v hv
    have hj : j < 4 := (List.getElem?_eq_some_iff.1 hv).1
    have := h.at_ hx j hj
    rw [show a * 4 + i * 4 + j = (a + i) * 4 + j by omega, this, hv]
  · cases hx

/-- Records in memory: each in a block of its own. -/
structure RecAt (w : World) (base : Nat) (v : Value) (rs : List (List Int)) (vs : List Value) : Prop where
  own : w.ownsRow base 34 1 v rs.length vs
  at_ : ∀ (i : Nat) (r : List Int), rs[i]? = some r → ∃ g, vs[i]? = some (.slice (some ⟨g, 0, none⟩) r.length r.length) ∧ Row w g r ∧ base ≤ g ∧ v.ownBlock ≠ some g
  nd : vs.Nodup
  byte : ∀ r ∈ rs, ∀ z ∈ r, 0 ≤ z ∧ z ≤ 255
theorem RecAt.nil (w : World) (base : Nat) : RecAt w base (.slice none 0 0) [] [] := ⟨World.ownsRow_nil _ _ _ _, fun i r h => by simp at h, List.nodup_nil, by simp⟩
theorem RecAt.below {w w' : World} {base B : Nat} {v : Value} {rs : List (List Int)} {vs : List Value} (h : RecAt w base v rs vs) (hb : Below B w w') (hB : w.heap.size ≤ B) : RecAt w' base v rs vs :=
  ⟨own_stays h.own fun k e => hb.block k (by have := (h.own.lt k e).2; omega), fun i r hr => by
    obtain ⟨g, e, hrow, m⟩ := h.at_ i r hr
    exact ⟨g, e, hrow.keep (hb.block g (by have := hrow.lt; omega)), m⟩, h.nd, h.byte⟩
/-- A record more. -/
theorem RecAt.more {w W w5 : World} {base g cap B : Nat} {v : Value} {rs : List (List Int)} {vs : List Value} (h : RecAt w base v rs vs) (hb : Below w.heap.size w W) {r : List Int} (hr : Row W B r) (hB : w.heap.size ≤ B) (hbase : base ≤ w.heap.size) (hrb : ∀ z ∈ r, 0 ≤ z ∧ z ≤ 255)
    (own5 : w5.ownsRow base 34 1 (.slice (some ⟨g, 0, none⟩) (rs.length + 1) cap) (rs.length + 1) (vs ++ [.slice (some ⟨B, 0, none⟩) r.length r.length])) (gr : W.grownBy w5 v.ownBlock) (hat : v.ownBlock = some g ∨ g = W.heap.size) :
    RecAt w5 base (.slice (some ⟨g, 0, none⟩) (rs.length + 1) cap) (rs ++ [r]) (vs ++ [.slice (some ⟨B, 0, none⟩) r.length r.length]) := by
  have hrl := hr.lt
  have hs := hb.size
  have hvl : vs.length = rs.length := by have := h.own.1; omega
  have hgB : g ≠ B := by
    rcases hat with e | e
    · have := (h.own.lt g e).2; omega
    · omega
  have hvB : v.ownBlock ≠ some B := fun e => by have := (h.own.lt B e).2; omega
  refine ⟨by rw [List.length_append]; exact own5, fun i x hx => ?_, ?_, fun x hx => ?_⟩
  · by_cases hi : i < rs.length
    · rw [List.getElem?_append_left hi] at hx
      obtain ⟨g', e, hrow, m1, m2⟩ := h.at_ i x hx
      have hl := hrow.lt
      refine ⟨g', by rw [List.getElem?_append_left (by omega)]; exact e, (hrow.keep (hb.block g' hl)).keep (gr.block g' (by omega) (fun e2 => m2 e2.symm)), m1, ?_⟩
      intro e2
      have e3 : g = g' := by simpa [Value.ownBlock] using e2
      subst e3
      rcases hat with e4 | e4
      · exact m2 e4
      · omega
    · have hil := (List.getElem?_eq_some_iff.1 hx).1
      simp at hil
      obtain rfl : i = rs.length := by omega
      rw [List.getElem?_append_right (Nat.le_refl _)] at hx
      simp at hx
      subst hx
      exact ⟨B, by rw [List.getElem?_append_right (by omega), hvl]; simp, hr.keep (gr.block B hrl (fun e => hvB e.symm)), by omega, by simpa [Value.ownBlock] using hgB⟩
  · rw [List.nodup_append]
    refine ⟨h.nd, by simp, fun a ha b hb2 e => ?_⟩
    simp at hb2
    subst hb2
    subst e
    obtain ⟨i, hi⟩ := List.getElem?_of_mem ha
    have hil : i < rs.length := by have := (List.getElem?_eq_some_iff.1 hi).1; omega
    obtain ⟨g', e', hrow, _⟩ := h.at_ i _ (List.getElem?_eq_getElem hil)
    rw [hi] at e'
    have hl := hrow.lt
    injection e' with e'
    injection e' with e' _ _
    injection e' with e'
    injection e' with e' _ _
    omega
  · rcases List.mem_append.1 hx with hx | hx
    · exact h.byte x hx
    · simp at hx; subst hx; exact hrb

theorem list_app_sl {w : World} {ops : Array Oper} {rest : List Oper} {o : Oper} {a : Act} {Q : Exit → Act → World → Prop} (hgd : o.guard = none) (s x : Operand)
    (ho : o.op = .call { callee := .builtin .append, args := #[s, x], argTypes := #[27, 27] }) (base : Nat) (v : Value) (n : Nat) (xs : List Value) (hs : a.eval s = v) (own : w.ownsRow base 34 1 v n xs)
    (B c : Nat) (u : Value) (hx : a.eval x = .slice (some ⟨B, 0, none⟩) 1 c) (hb : w.heap[B]? = some (.cells #[u] 34 (0, 0))) (hu : u.oneCell' = true) (hn : n ≤ 4398046511104) (hbase : base ≤ w.heap.size)
    (h : ∀ g cap w', w'.ownsRow base 34 1 (.slice (some ⟨g, 0, none⟩) (n + 1) cap) (n + 1) (xs ++ [u]) → w.grownBy w' v.ownBlock → (v.ownBlock = some g ∨ g = w.heap.size) → wpList Try.prog ops Q rest (a.put o.dst (.slice (some ⟨g, 0, none⟩) (n + 1) cap)) w') :
    wpList Try.prog ops Q (o :: rest) a w := by
  obtain ⟨i0, hi, hz0, hz1, hz2⟩ := info_parts infoSl
  exact wpList_append_far w hgd s x 27 ho base 34 i0 _ 1 24 Try.underlying27 hi hz0 hz1 hz2 (by rfl) (by decide) v n xs hs own ⟨B, 0, none⟩ 1 c [u] hx rfl
    (World.news_of_block (cs := #[u]) hb) (by simpa using hu) (by decide) (by simp only [maxLen]; omega) (by omega) hbase h

theorem wpStill_sliceFrom {ops : Array Oper} {w : World} {Q : Act → Prop} {a : Act} {o : Oper} {rest : List Oper} (hgd : o.guard = none) (x lo : Operand) (ho : o.op = .slice 34 x (some lo) none none)
    (b L C k : Nat) (hx : a.eval x = .slice (some ⟨b, 0, none⟩) L C) (z : Int) (hlo : a.eval lo = .int .i64 z) (hz : z = (k : Int)) (hk : k ≤ L)
    (h : ∀ dp, (¬ C = k → dp = some ⟨b, k, none⟩) → wpStill Try.prog ops w Q rest (a.put o.dst (.slice dp (L - k) (C - k)))) : wpStill Try.prog ops w Q (o :: rest) a := by
  obtain ⟨i0, hi, hz0, hz1, hz2⟩ := info_parts info_u8
  subst hz
  refine wpStill_step (fun K hK => ?_)
  rw [if_pos (by simp [Region.wanted, hgd])]
  have hrun : (Instr.slice 34 (.slice (some ⟨b, 0, none⟩) L C) (some (.int .i64 (k : Int))) none none).run Try.prog w = .ok (.slice (if C = k then some ⟨b, 0, none⟩ else some ⟨b, k, none⟩) (L - k) (C - k)) w := by
    rw [run_slice_l w 34 _ L C Try.underlying34 .i64 (k : Int) (by omega) (by omega)]
    rw [show Try.prog.elem 34 = 5 by kernel_rfl]
    have hs : (sizeOf 5).run Try.prog w = .ok 1 w := by simp [sizeOf, typeInfo, hi, hz1]
    rw [hs]
    simp only [sliced, Result.andThen_ok, Int.toNat_natCast, Nat.mul_one]
    split
    · rfl
    · rw [Option.map_some, Addr.add_mid, Nat.zero_add]
  have hrun2 : (Instr.sliceAt 34 (.slice (some ⟨b, 0, none⟩) L C) (some (.int .i64 (k : Int))) none none).run Try.prog w = .ok (.slice (if C = k then some ⟨b, 0, none⟩ else some ⟨b, k, none⟩) (L - k) (C - k)) w := by
    rw [run_sliceAt_slice w 34 _ _ _ _ Try.underlying34]; exact hrun
  unfold Oper.still execOp
  simp only [ho, hx, hlo, Sem.run_bind, Sem.run_pure, Result.andThen_ok, Option.map_some, Option.map_none]
  rw [hrun2]
  simp only [Result.andThen_ok, Oper.stillUpon_value]
  exact hK _ (h _ (fun e => if_neg e))

def GatherIs (w : World) (rs : List (List Int)) (e : Ending) (w' : World) : Prop :=
  ∃ v vs, e = .returned v ∧ RecAt w' w.heap.size v rs vs ∧ Below w.heap.size w w'

set_option maxHeartbeats 8000000 in
theorem wgather (w : World) (g o n c : Nat) (xs : List PV) (h : PcsV w g o n xs) (hnc : n ≤ c) (hn : n ≤ 16384) (hc : c ≤ 65536) (since : Nat) (hsn : since < 18446744073709551616) (HLEN : ∀ x ∈ xs, x.p.len ≤ 65536) :
    Calls Try.prog 77 #[.slice (some ⟨g, o, none⟩) n c, .int .u64 (since : Int)] w (GatherIs w (gather since (xs.map PV.p))) := by
  obtain ⟨ps, hps⟩ : ∃ ps, ps = xs.map PV.p := ⟨_, rfl⟩
  have HPS := Lib.hid hps
  have HLEN0 := Lib.hid HLEN
  clear HLEN
  have HV := Lib.hid h
  have hpl : ps.length = n := by rw [hps, List.length_map]; exact h.len
  have HPL := Lib.hid hpl
  have HNC := Lib.hid hnc
  have HN := Lib.hid hn
  have HC := Lib.hid hc
  rw [← hps]
  clear hps h hpl
  have hni : (n : Int) ≤ 16384 := by omega
  have hci : (c : Int) ≤ 65536 := by omega
  have hnci : (n : Int) ≤ (c : Int) := by omega
  go_enter Try.func77, Try.ntmps77
  go_wp2
  go_step3
  go_wp2
  go_step3
  go_wp2
  go_loopg [5, 6] n (fun gk v i wr => ∃ (a : Nat) (done : List (List Int)) (vs : List Value), a + gk = n ∧ i = .int .i64 (a : Nat) ∧ done.length ≤ a ∧ RecAt wr w.heap.size v done vs ∧ done ++ gather since (ps.drop a) = gather since ps ∧ Below w.heap.size w wr)
  case atStart => exact ⟨0, [], [], Nat.zero_add _, rfl, Nat.le_refl _, RecAt.nil _ _, by simp, Below.refl _ _⟩
  case round =>
    obtain ⟨a, done, vs, hag, rfl, hdl, hR, hG, hB⟩ := hrel
    by_cases hlt : a < n
    · obtain ⟨x, hx⟩ : ∃ x, xs[a]? = some x := ⟨_, List.getElem?_eq_getElem (by rw [HV.out.len]; exact hlt)⟩
      have hrow := (HV.out.below hB).row a x hx
      have HRow := Lib.hid (show wr.rangeAt g (o + a * 4) [.int .u64 (x.p.stamp : Int), .int .i64 (x.p.len : Int), .int .i64 (x.p.num : Int), .slice x.A x.n x.c] from hrow)
      have HI := Lib.hid (show (Try.prog.info? 123).map (·.size) = some [Value.int .u64 (x.p.stamp : Int), .int .i64 (x.p.len : Int), .int .i64 (x.p.num : Int), .slice x.A x.n x.c].length by rfl)
      have HDROP := Lib.hid (show ps.drop a = x.p :: ps.drop (a + 1) by
        have hpa : ps[a]? = some x.p := by rw [HPS.out, List.getElem?_map, hx]; rfl
        have hal := (List.getElem?_eq_some_iff.1 hpa).1
        rw [List.drop_eq_getElem_cons hal, (List.getElem?_eq_some_iff.1 hpa).2])
      have hai : (a : Int) < (n : Int) := by omega
      have HA := Lib.hid hlt
      have HAG := Lib.hid hag
      have HR := Lib.hid hR
      have HG := Lib.hid hG
      have HB := Lib.hid hB
      have HDL := Lib.hid hdl
      have HLE := Lib.hid (HLEN0.out x (List.mem_of_getElem? hx))
      obtain ⟨W1, hW1⟩ : ∃ W, wr.alloc (.cells #[.int .u64 (x.p.stamp : Int), .int .i64 (x.p.len : Int), .int .i64 (x.p.num : Int), .slice x.A x.n x.c] 123) = W := ⟨_, rfl⟩
      have HW1 := Lib.hid hW1
      have Q1 := Lib.hid (show W1.heap[wr.heap.size]? = some (.cells #[.int .u64 (x.p.stamp : Int), .int .i64 (x.p.len : Int), .int .i64 (x.p.num : Int), .slice x.A x.n x.c] 123 (0, 0)) by rw [← hW1]; exact heap_alloc_new _ _)
      have B1 := Lib.hid (show Below wr.heap.size wr W1 by rw [← hW1]; exact (Below.refl _ _).alloc (Nat.le_refl _) _)
      have HS1 := Lib.hid (show W1.heap.size = wr.heap.size + 1 by rw [← hW1]; simp)
      clear hrow hR hG hB hx hlt hdl hag hW1
      go_upto_region 5 with (with_reducible refine wpList_load_mid rfl 123 (.tmp 18) rfl g (o + a * 4) rfl [.int .u64 (x.p.stamp : Int), .int .i64 (x.p.len : Int), .int .i64 (x.p.num : Int), .slice x.A x.n x.c] _ HRow.out Try.underlying123 rfl HI.out ?_)
      rw [HW1.out]
      have k0 : W1.cell? ⟨wr.heap.size, 0, none⟩ = some (.int .u64 (x.p.stamp : Int)) := cell_of_row _ _ 0 _ _ _ Q1.out
      have k1 : W1.cell? ⟨wr.heap.size, 1, none⟩ = some (.int .i64 (x.p.len : Int)) := cell_of_row _ _ 1 _ _ _ Q1.out
      obtain ⟨m, hm⟩ : ∃ m, m = nblocks x.p.len := ⟨_, rfl⟩
      have CB := Lib.hid (wblocksN x.p.len W1 (by have := HLE.out; omega))
      rw [← hm] at CB
      have HM := Lib.hid hm
      have hm16 : (m : Int) ≤ 1639 := by have := nblocks_big x.p.len HLE.out; omega
      have hm1 : (1 : Int) ≤ (m : Int) := by have := nblocks_pos x.p.len; omega
      clear hm HRow HI HW1
      by_cases hst : x.p.stamp < since
      · have h1 : (x.p.stamp : Int) < (since : Int) := by omega
        have h1n : decide (x.p.stamp < since) = true := by simpa using hst
        have HNO := Lib.hid (show starts since (ps.drop a) = false by
          rw [HDROP.out, ← Bool.not_eq_true, starts_iff]
          rintro ⟨h, -⟩; omega)
        clear hst
        go_wp2_with (go_at_call 34; go_loud (refine CB.out.mono ?_; rintro e w' ⟨rfl, rfl⟩))
        try rw [Exit.noGoto_ret]
        go_ret
        exact ⟨_, vs, rfl, by rw [← HG.out, gather_no HNO.out, List.append_nil]; exact HR.out.below B1.out (Nat.le_refl _), HB.out.trans (B1.out.mono HB.out.size)⟩
      · have h1 : decide ((x.p.stamp : Int) < (since : Int)) = false := by simp; omega
        have h1n : decide (x.p.stamp < since) = false := by simpa using hst
        by_cases hend : n < a + m
        · have h2 : (n : Int) < (a : Int) + (m : Int) := by omega
          have HNO := Lib.hid (show starts since (ps.drop a) = false by
            rw [HDROP.out, ← Bool.not_eq_true, starts_iff]
            rintro ⟨-, h, -⟩
            rw [← HM.out] at h
            have hl : (ps.drop (a + 1)).length = n - (a + 1) := by rw [List.length_drop, HPL.out]
            simp only [List.length_cons, hl] at h
            have := HA.out
            omega)
          clear hst hend
          go_wp2_with (go_at_call 34; go_loud (refine CB.out.mono ?_; rintro e w' ⟨rfl, rfl⟩))
          try rw [Exit.noGoto_ret]
          go_ret
          exact ⟨_, vs, rfl, by rw [← HG.out, gather_no HNO.out, List.append_nil]; exact HR.out.below B1.out (Nat.le_refl _), HB.out.trans (B1.out.mono HB.out.size)⟩
        · have h2 : decide ((n : Int) < (a : Int) + (m : Int)) = false := by simp; omega
          have HEND := Lib.hid (show a + m ≤ n by omega)
          have HST := Lib.hid (show since ≤ x.p.stamp by omega)
          clear hst hend
          have hmk : (Instr.makeSlice 34 (.int .i64 (x.p.len : Int)) (.int .i64 (x.p.len : Int))).run Try.prog W1 = .ok (.slice (some ⟨W1.heap.size, 0, none⟩) x.p.len x.p.len) (W1.alloc (.cells (madeCells #[.int .u8 0] x.p.len) 5)) := run_make_bytes W1 (x.p.len : Int) (x.p.len : Int) (by omega) (Int.le_refl _) (by have := HLE.out; omega)
          obtain ⟨W2, hW2⟩ : ∃ W, W1.alloc (.cells (madeCells #[.int .u8 0] x.p.len) 5) = W := ⟨_, rfl⟩
          rw [hW2] at hmk
          obtain ⟨R, hRR⟩ : ∃ R, R = W1.heap.size := ⟨_, rfl⟩
          have HRR := Lib.hid hRR
          have RW2 := Lib.hid (show Row W2 R (List.replicate x.p.len 0) by rw [← hW2, hRR]; exact row_made W1 x.p.len)
          have B2 := Lib.hid (show Below R W1 W2 by rw [← hW2, hRR]; exact (Below.refl W1.heap.size W1).alloc (Nat.le_refl W1.heap.size) _)
          rw [← hRR] at hmk
          clear hW2 hRR
          have hac : ¬ c = a := by have := HA.out; omega
          have hae0 : (a : Int) ≤ (a : Int) + (m : Int) := by omega
          have hae1 : (a : Int) + (m : Int) ≤ (n : Int) := by have := HEND.out; omega
          have hae2 : (a : Int) + (m : Int) ≤ (c : Int) := by omega
          have hae3 : ((a : Int) + (m : Int)).toNat = a + m := by omega
          have hae4 : a + m ≤ c := by omega
          have hae5 : a + m - a = m := by omega
          go_upto_region 9 with (go_at_call 34; go_loud (refine CB.out.mono ?_; rintro e w' ⟨rfl, rfl⟩))
          clear hmk k1 hac hae0 hae1 hae2 hae3 hae4 hae5 CB h1 h1n h2
          obtain ⟨gp, hgp⟩ : ∃ gp, gp = (ps.drop a).take m := ⟨_, rfl⟩
          have HGP := Lib.hid hgp
          have hgl : gp.length = m := by rw [hgp, List.length_take, List.length_drop, HPL.out]; have := HEND.out; omega
          have HGL := Lib.hid hgl
          have HGAT := Lib.hid (show ∀ j y, xs[a + j]? = some y → j < m → gp[j]? = some y.p from fun j y hy hj => by
            rw [hgp, List.getElem?_take, if_pos hj, List.getElem?_drop, HPS.out, List.getElem?_map, hy]; rfl)
          have HRW := Lib.hid (show wr.heap.size < R by rw [HRR.out, HS1.out]; omega)
          have HR2 := Lib.hid (show R < W2.heap.size from RW2.out.lt)
          have BW2 := Lib.hid (show Below wr.heap.size wr W2 from B1.out.trans (B2.out.mono (Nat.le_of_lt HRW.out)))
          clear hgp hgl
          have HX0 := Lib.hid (show ps.drop a = x.p :: ps.drop (a + 1) from HDROP.out)
          go_loopg [43] m (fun gk2 i wy => ∃ (j : Nat) (r : List Int), j + gk2 = m ∧ i = .int .i64 (j : Nat) ∧ r = buildRec (List.replicate x.p.len 0) 0 (gp.take j) ∧ r.length = x.p.len ∧ (∀ z ∈ r, 0 ≤ z ∧ z ≤ 255) ∧ Row wy R r ∧ (∀ i', i' < j → (gp.getD i' Pc.no).stamp = x.p.stamp ∧ (gp.getD i' Pc.no).num = i') ∧ Below R W2 wy)
          case atStart => exact ⟨0, _, Nat.zero_add _, rfl, rfl, by simp [buildRec], by intro z hz; simp [buildRec] at hz; omega, RW2.out, fun i' h => absurd h (Nat.not_lt_zero _), Below.refl _ _⟩
          case round =>
            rename World => wy
            rename Nat => gkI
            obtain ⟨j, r, hjg, rfl, hr, hrl, hrb, hRow, hVal, hBy⟩ := hrel
            have BY := Lib.hid (show Below wr.heap.size wr wy from BW2.out.trans (hBy.mono (Nat.le_of_lt HRW.out)))
            have BYW := Lib.hid (show Below w.heap.size w wy from HB.out.trans (BY.out.mono HB.out.size))
            have HSY := Lib.hid (show R < wy.heap.size from Nat.lt_of_lt_of_le HR2.out hBy.size)
            have QXY := Lib.hid (show wy.heap[wr.heap.size]? = some (.cells #[.int .u64 (x.p.stamp : Int), .int .i64 (x.p.len : Int), .int .i64 (x.p.num : Int), .slice x.A x.n x.c] 123 (0, 0)) from (hBy.block _ HRW.out).trans ((B2.out.block _ HRW.out).trans Q1.out))
            have HRE := Lib.hid hr
            have HRL := Lib.hid hrl
            have HRB := Lib.hid hrb
            have HROWR := Lib.hid hRow
            have HVAL := Lib.hid hVal
            have HBY := Lib.hid hBy
            have HJG := Lib.hid hjg
            clear hr hrl hrb hRow hVal hBy hjg k0
            by_cases hjm : j < m
            · obtain ⟨y, hy⟩ : ∃ y, xs[a + j]? = some y := ⟨_, List.getElem?_eq_getElem (by rw [HV.out.len]; have := HEND.out; omega)⟩
              have hrow := (HV.out.below BYW.out).row (a + j) y hy
              have HRow := Lib.hid (show wy.rangeAt g (o + a * 4 + j * 4) [.int .u64 (y.p.stamp : Int), .int .i64 (y.p.len : Int), .int .i64 (y.p.num : Int), .slice y.A y.n y.c] by rw [show o + a * 4 + j * 4 = o + (a + j) * 4 by omega]; exact hrow)
              have HI := Lib.hid (show (Try.prog.info? 123).map (·.size) = some [Value.int .u64 (y.p.stamp : Int), .int .i64 (y.p.len : Int), .int .i64 (y.p.num : Int), .slice y.A y.n y.c].length by rfl)
              have HPI := Lib.hid (show PcIs wy y.p y.A y.n y.c from pcis_below (HV.out.is y (List.mem_of_getElem? hy)) BYW.out)
              have HGJ := Lib.hid (show gp[j]? = some y.p from HGAT.out j y hy hjm)
              have HDJ := Lib.hid (show (ps.drop a).getD j Pc.no = y.p by
                rw [List.getD_eq_getElem?_getD, List.getElem?_drop, HPS.out, List.getElem?_map, hy]; rfl)
              have HJ := Lib.hid hjm
              have hji : (j : Int) < (m : Int) := by omega
              obtain ⟨W3, hW3⟩ : ∃ W, wy.alloc (.cells #[.int .u64 (y.p.stamp : Int), .int .i64 (y.p.len : Int), .int .i64 (y.p.num : Int), .slice y.A y.n y.c] 123) = W := ⟨_, rfl⟩
              have HW3 := Lib.hid hW3
              have QY := Lib.hid (show W3.heap[wy.heap.size]? = some (.cells #[.int .u64 (y.p.stamp : Int), .int .i64 (y.p.len : Int), .int .i64 (y.p.num : Int), .slice y.A y.n y.c] 123 (0, 0)) by rw [← hW3]; exact heap_alloc_new _ _)
              have B3 := Lib.hid (show Below wy.heap.size wy W3 by rw [← hW3]; exact (Below.refl _ _).alloc (Nat.le_refl _) _)
              have QX := Lib.hid (show W3.heap[wr.heap.size]? = some (.cells #[.int .u64 (x.p.stamp : Int), .int .i64 (x.p.len : Int), .int .i64 (x.p.num : Int), .slice x.A x.n x.c] 123 (0, 0)) from (B3.out.block _ (by have h1 := HRW.out; have h2 := HSY.out; omega)).trans QXY.out)
              clear hrow hy hjm hW3
              go_upto_region 11 with (with_reducible refine wpList_load_mid rfl 123 (.tmp 46) rfl g (o + a * 4 + j * 4) rfl [.int .u64 (y.p.stamp : Int), .int .i64 (y.p.len : Int), .int .i64 (y.p.num : Int), .slice y.A y.n y.c] _ HRow.out Try.underlying123 rfl HI.out ?_)
              rw [HW3.out]
              have x0 : W3.cell? ⟨wr.heap.size, 0, none⟩ = some (.int .u64 (x.p.stamp : Int)) := cell_of_row _ _ 0 _ _ _ QX.out
              have y0 : W3.cell? ⟨wy.heap.size, 0, none⟩ = some (.int .u64 (y.p.stamp : Int)) := cell_of_row _ _ 0 _ _ _ QY.out
              have y2 : W3.cell? ⟨wy.heap.size, 2, none⟩ = some (.int .i64 (y.p.num : Int)) := cell_of_row _ _ 2 _ _ _ QY.out
              have HDONE := Lib.hid (show ∀ W, W = W3 → starts since (ps.drop a) = false → GatherIs w (gather since ps) (.returned u5) W from fun W e hno => by
                subst e
                exact ⟨_, vs, rfl, by rw [← HG.out, gather_no hno, List.append_nil]; exact HR.out.below (BY.out.trans (B3.out.mono BY.out.size)) (Nat.le_refl _), BYW.out.trans (B3.out.mono BYW.out.size)⟩)
              clear HRow HI HW3
              by_cases hse : y.p.stamp = x.p.stamp
              · rw [hse] at y0
                by_cases hne : y.p.num = j
                · rw [hne] at y2
                  have HSE := Lib.hid hse
                  have HNE := Lib.hid hne
                  clear hse hne
                  have hq0 : j * 40 < x.p.len ∨ (x.p.len = 0 ∧ j = 0) := by
                    have h1 := HJ.out
                    rw [HM.out] at h1
                    unfold nblocks at h1
                    split at h1 <;> omega
                  have hq2 : (j : Int) * 40 ≤ (x.p.len : Int) := by omega
                  have hq5 : (j : Int) * 40 ≤ 9223372036854775807 := by have := HLE.out; omega
                  have hq6 : j * 40 ≤ x.p.len := by omega
                  have hq7 : ((j : Int) * 40).toNat = j * 40 := by omega
                  have hq8 : IntKind.i64.wrap ((j : Int) * 40) = (j : Int) * 40 := by rw [IntKind.wrap_i64]; have := HLE.out; omega
                  have hq9 : (0 : Int) ≤ (j : Int) * 40 := by omega
                  have HQ6 := Lib.hid hq6
                  have y3 : W3.drew.cell? ⟨wy.heap.size, 3, none⟩ = some (.slice y.A y.n y.c) := cell_of_row _ _ 3 _ _ _ QY.out
                  have ROW3 := Lib.hid (show Row W3.drew R r from (HROWR.out.keep (B3.out.block R HSY.out)).drew)
                  have hby := HPI.out.1.below' B3.out
                  obtain ⟨mm, hmm⟩ : ∃ mm, Nat.min y.n (x.p.len - j * 40) = mm := ⟨_, rfl⟩
                  have hm1 : mm ≤ y.n ∧ mm ≤ x.p.len - j * 40 ∧ (mm = y.n ∨ mm = x.p.len - j * 40) := by
                    rcases Nat.le_total y.n (x.p.len - j * 40) with h | h
                    · have e : Nat.min y.n (x.p.len - j * 40) = y.n := Nat.min_eq_left h
                      rw [e] at hmm; omega
                    · have e : Nat.min y.n (x.p.len - j * 40) = x.p.len - j * 40 := Nat.min_eq_right h
                      rw [e] at hmm; omega
                  have HMM := Lib.hid hmm
                  have HM1 := Lib.hid hm1
                  have RB3 := Lib.hid (show RB W3.drew y.A mm (y.p.bytes.take (x.p.len - j * 40)) by
                    have h1 := (hby.take (k := mm) hm1.1).drew
                    have h2 : y.p.bytes.take mm = y.p.bytes.take (x.p.len - j * 40) := by
                      have h3 := hby.len
                      rw [List.take_eq_take_iff]
                      omega
                    rw [h2] at h1
                    exact h1)
                  have HBB := Lib.hid hby.byte
                  have HFIT := Lib.hid (show j * 40 + mm ≤ r.length by
                    rw [HRL.out]; have := HQ6.out; omega)
                  have HNX := Lib.hid (show putB r (j * 40) y.p.bytes = buildRec (List.replicate x.p.len 0) 0 (gp.take (j + 1)) by
                    rw [List.take_add_one, HGJ.out, Option.toList_some, buildRec_snoc, ← HRE.out, List.length_take, HGL.out, Nat.min_eq_left (Nat.le_of_lt HJ.out), Nat.zero_add])
                  have HNV := Lib.hid (show ∀ i', i' < j + 1 → (gp.getD i' Pc.no).stamp = x.p.stamp ∧ (gp.getD i' Pc.no).num = i' from fun i' hi' => by
                    by_cases e : i' = j
                    · subst e
                      rw [List.getD_eq_getElem?_getD, HGJ.out]
                      exact ⟨HSE.out, HNE.out⟩
                    · exact HVAL.out i' (by omega))
                  clear hby hmm hm1
                  clear hq0
                  go_upto_region 12 with fail
                  clear x0 y0 y2
                  refine wp_region_still_tail 6 (by kernel_rfl) (by kernel_rfl) ?_
                  simp only [List.take_succ_cons, List.take_zero, List.drop_succ_cons, List.drop_zero]
                  change wpStill _ _ W3.drew _ _ _
                  iterate 3 still_step
                  refine wpStill_sliceFrom rfl (.tmp 59) (.tmp 61) rfl R x.p.len x.p.len (j * 40) rfl ((j : Int) * 40) rfl (by omega) HQ6.out (fun dp hdp => ?_)
                  have HDP := Lib.hid hdp
                  clear hdp
                  iterate 2 still_step
                  refine wpStill_nil ?_
                  change wpList _ _ _ _ _ W3.drew
                  refine row_copy rfl (.tmp 62) (.tmp 64) rfl dp y.A (x.p.len - j * 40) (x.p.len - j * 40) y.n y.c mm rfl rfl R (j * 40) r ROW3.out (y.p.bytes.take (x.p.len - j * 40)) RB3.out HMM.out (fun h => HDP.out (by have := HM1.out; omega)) HFIT.out ?_
                  intro w5 h5 hb5
                  have H5 := Lib.hid (show Row w5 R (putB r (j * 40) y.p.bytes) by
                    rw [show putB r (j * 40) y.p.bytes = splice r (j * 40) (y.p.bytes.take (x.p.len - j * 40)) by unfold putB; rw [HRL.out]]
                    exact h5)
                  have B5 := Lib.hid (show Below R W2 w5 from (HBY.out.trans (B3.out.mono (Nat.le_of_lt HSY.out)).drew).trans hb5)
                  clear h5 hb5 y3
                  go_wp2
                  go_roundg (m - (j + 1))
                  case measure => have := HJ.out; have := HJG.out; omega
                  case rel => exact ⟨j + 1, _, by have := HJ.out; omega, by go_num, HNX.out, by rw [putB_len _ _ _ (by rw [HRL.out]; exact HQ6.out)]; exact HRL.out, putB_byte _ _ _ HRB.out HBB.out, H5.out, HNV.out, B5.out⟩
                · have h1 : ¬ (y.p.num : Int) = (j : Int) := by omega
                  have h1n : ¬ y.p.num = j := hne
                  have HNO := Lib.hid (show starts since (ps.drop a) = false by
                    rw [HX0.out, ← Bool.not_eq_true, starts_iff]
                    rintro ⟨-, -, h⟩
                    have h2 := (h j (by rw [← HM.out]; exact HJ.out)).2
                    rw [← HX0.out, HDJ.out] at h2
                    exact hne h2)
                  clear hse hne
                  go_wp2
                  try rw [Exit.noGoto_ret]
                  go_ret
                  exact HDONE.out _ rfl HNO.out
              · have h1 : ¬ (y.p.stamp : Int) = (x.p.stamp : Int) := by omega
                have h1n : ¬ y.p.stamp = x.p.stamp := hse
                have HNO := Lib.hid (show starts since (ps.drop a) = false by
                  rw [HX0.out, ← Bool.not_eq_true, starts_iff]
                  rintro ⟨-, -, h⟩
                  have h2 := (h j (by rw [← HM.out]; exact HJ.out)).1
                  rw [← HX0.out, HDJ.out] at h2
                  exact hse h2)
                clear hse
                go_wp2
                try rw [Exit.noGoto_ret]
                go_ret
                exact HDONE.out _ rfl HNO.out
            · obtain rfl : j = m := by have := HJG.out; omega
              have HST2 := Lib.hid (show starts since (ps.drop a) = true by
                rw [HX0.out, starts_iff]
                refine ⟨HST.out, ?_, fun i hi => ?_⟩
                · rw [← HX0.out, ← HM.out, List.length_drop, HPL.out]; have := HEND.out; omega
                · rw [← HM.out] at hi
                  have h1 := HVAL.out i hi
                  rw [HGP.out, List.getD_eq_getElem?_getD, List.getElem?_take, if_pos hi, ← List.getD_eq_getElem?_getD] at h1
                  rw [← HX0.out]
                  exact h1)
              have HREC := Lib.hid (show recOf (ps.drop a) = r by
                unfold recOf
                rw [HX0.out]
                simp only [List.headD_cons]
                rw [← HM.out, ← HX0.out, ← HGP.out, HRE.out, List.take_of_length_le (by rw [HGL.out]; exact Nat.le_refl _)])
              have HGA := Lib.hid (show (done ++ [r]) ++ gather since (ps.drop (a + j)) = gather since ps by
                rw [List.append_assoc, ← HREC.out, ← HG.out, gather_yes HST2.out, HX0.out]
                simp only [List.headD_cons]
                rw [← HM.out, ← HX0.out, List.drop_drop]
                rfl)
              obtain ⟨W4, hW4⟩ : ∃ W, wy.alloc (.cells #[.slice (some ⟨R, 0, none⟩) x.p.len x.p.len] 34) = W := ⟨_, rfl⟩
              have HW4 := Lib.hid hW4
              have Q4 := Lib.hid (show W4.heap[wy.heap.size]? = some (.cells #[.slice (some ⟨R, 0, none⟩) x.p.len x.p.len] 34 (0, 0)) by rw [← hW4]; exact heap_alloc_new _ _)
              have B4 := Lib.hid (show Below wy.heap.size wy W4 by rw [← hW4]; exact (Below.refl _ _).alloc (Nat.le_refl _) _)
              have B4R := Lib.hid (show Below wr.heap.size wr W4 from BY.out.trans (B4.out.mono BY.out.size))
              have O4 := Lib.hid (show W4.ownsRow w.heap.size 34 1 u5 done.length vs from own_stays HR.out.own fun k e => B4R.out.block k (HR.out.own.lt k e).2)
              have ROW4 := Lib.hid (show Row W4 R r from HROWR.out.keep (B4.out.block R HSY.out))
              have HSR := Lib.hid (show wr.heap.size ≤ R from Nat.le_of_lt HRW.out)
              clear hW4 hjm
              go_wp2_with (at_builtin; rw [HW4.out]; refine list_app_sl (by rfl) (.tmp 67) (.tmp 69) (by rfl) w.heap.size u5 done.length _ (by rfl) O4.out wy.heap.size 1 (.slice (some ⟨R, 0, none⟩) x.p.len x.p.len) (by rfl) Q4.out rfl (by have := HDL.out; have := HN.out; have := HA.out; omega) (Nat.le_trans HB.out.size B4R.out.size) ?_; intro g5 cap5 w5 own5 gr5 at5; have HR5 := Lib.hid (HR.out.more B4R.out ROW4.out HSR.out HB.out.size HRB.out (by rw [HRL.out]; exact own5) gr5 at5); have HB5 := Lib.hid (show Below w.heap.size w w5 from (HB.out.trans (B4R.out.mono HB.out.size)).trans (below_of_grown gr5 (Nat.le_trans HB.out.size B4R.out.size) (fun k e => (HR.out.own.lt k e).1))); clear own5 gr5 at5)
              go_roundg (n - (a + j))
              case measure => have := HAG.out; have := HA.out; omega
              case rel => exact ⟨a + j, _, _, by have := HEND.out; omega, by go_num, by rw [List.length_append]; have := HDL.out; simp; omega, HR5.out, HGA.out, HB5.out⟩
    · obtain rfl : a = n := by omega
      have hd : ps.drop a = [] := List.drop_eq_nil_of_le (by rw [HPL.out]; exact Nat.le_refl _)
      have HE := Lib.hid (show done = gather since ps by rw [← hG, hd]; simp [gather, gatherN])
      have HR := Lib.hid hR
      have HB := Lib.hid hB
      clear hG hR hB hlt hd hdl
      go_wp2
      try rw [Exit.noGoto_ret]
      go_ret
      exact ⟨_, vs, rfl, by rw [← HE.out]; exact HR.out, HB.out⟩
end Go.Proofs.Ytapjgancaldgaaa

/- The call Open, on a disk with a mark that counts. -/
namespace Go.Proofs.Ytapjgancaldgaaa
set_option maxRecDepth 100000
open Go.RowKit

/-! ### Over lists -/
def topStamp (since : Nat) (ps : List Pc) : Nat := ps.foldl (fun s p => max s p.stamp) since
def usedOf (rs : List (List Int)) : Nat := (rs.map fun r => nblocks r.length).sum
theorem topStamp_snoc (since : Nat) (ps : List Pc) (p : Pc) : topStamp since (ps ++ [p]) = max (topStamp since ps) p.stamp := by simp [topStamp]
theorem usedOf_snoc (rs : List (List Int)) (r : List Int) : usedOf (rs ++ [r]) = usedOf rs + nblocks r.length := by simp [usedOf]
theorem pieceAt_le (L : List Cn) (i : Nat) : (pieceAt L i).stamp ≤ maxSt ∧ (pieceAt L i).len ≤ 65536 := ⟨(takePiece_le _).1, (takePiece_le _).2.1⟩
theorem piecesOf_le (L : List Cn) (K : Nat) : ∀ p ∈ piecesOf L K, p.stamp ≤ maxSt ∧ p.len ≤ 65536 := fun p hp => by
  unfold piecesOf at hp
  obtain ⟨i, _, rfl⟩ := List.mem_map.1 hp
  exact pieceAt_le L i
theorem topStamp_le (since : Nat) (ps : List Pc) (h : since ≤ maxSt) (hp : ∀ p ∈ ps, p.stamp ≤ maxSt) : topStamp since ps ≤ maxSt := by
  induction ps generalizing since with
  | nil => exact h
  | cons p ps ih =>
    unfold topStamp at ih ⊢
    rw [List.foldl_cons]
    exact ih _ (Nat.max_le.2 ⟨h, hp p (List.mem_cons_self ..)⟩) fun q hq => hp q (List.mem_cons_of_mem _ hq)

theorem buildRec_len : ∀ (l : List Pc) (r : List Int) (i : Nat), (∀ j, j < l.length → (i + j) * 40 ≤ r.length) → (buildRec r i l).length = r.length
  | [], r, i, _ => rfl
  | p :: l, r, i, h => by
    have h0 : i * 40 ≤ r.length := by have := h 0 (by simp); simpa using this
    rw [buildRec, buildRec_len l _ _ (fun j hj => ?_), putB_len _ _ _ h0]
    rw [putB_len _ _ _ h0]
    have := h (j + 1) (by simp; omega)
    rw [show i + 1 + j = i + (j + 1) by omega]; exact this
theorem recOf_len (ps : List Pc) : (recOf ps).length = (ps.headD Pc.no).len := by
  unfold recOf
  rw [buildRec_len, List.length_replicate]
  intro j hj
  rw [List.length_replicate]
  have h1 : j < nblocks (ps.headD Pc.no).len := Nat.lt_of_lt_of_le hj (List.length_take_le _ _)
  unfold nblocks at h1
  split at h1 <;> omega
theorem usedOf_app (a b : List (List Int)) : usedOf (a ++ b) = usedOf a + usedOf b := by simp [usedOf]
theorem gatherN_used (since : Nat) : ∀ (n : Nat) (ps : List Pc), usedOf (gatherN since n ps) ≤ ps.length
  | 0, ps => by simp [gatherN, usedOf]
  | n + 1, ps => by
    rw [gatherN]
    split
    · rename_i h
      cases ps with
      | nil => simp [starts] at h
      | cons f t =>
        have h1 := ((starts_iff since f t).1 h).2.1
        have h2 := gatherN_used since n ((f :: t).drop (nblocks ((f :: t).headD Pc.no).len))
        have h3 : usedOf (recOf (f :: t) :: gatherN since n ((f :: t).drop (nblocks ((f :: t).headD Pc.no).len))) = nblocks (recOf (f :: t)).length + usedOf (gatherN since n ((f :: t).drop (nblocks ((f :: t).headD Pc.no).len))) := by simp [usedOf]
        rw [h3, recOf_len]
        rw [List.length_drop] at h2
        simp only [List.headD_cons] at h2 ⊢
        omega
    · simp [usedOf]
theorem gather_used (since : Nat) (ps : List Pc) : usedOf (gather since ps) ≤ ps.length := gatherN_used since _ ps
theorem usedOf_ge : ∀ rs : List (List Int), rs.length ≤ usedOf rs
  | [] => Nat.le_refl _
  | r :: rs => by
    have h1 := usedOf_ge rs
    have h2 := nblocks_pos r.length
    have h3 : usedOf (r :: rs) = nblocks r.length + usedOf rs := by simp [usedOf]
    rw [h3, List.length_cons]; omega
theorem nblocks_inv {n B : Nat} (h : nblocks n ≤ B) : n ≤ 40 * B := by
  unfold nblocks at h
  split at h <;> omega

/-! ### In memory -/
section
variable {w w' : World} {L d size slot : Nat} {m : Mk} {stamp used count : Nat} {over : Bool}
theorem LgAt.setStamp (h : LgAt w L d size slot m stamp used count over) (s : Nat) : LgAt (w.setCell ⟨L, 6, none⟩ (.int .u64 (s : Int))) L d size slot m s used count over := by
  have := blk_set h 6 (.int .u64 (s : Int)); exact this
theorem LgAt.setUsed (h : LgAt w L d size slot m stamp used count over) (s : Nat) : LgAt (w.setCell ⟨L, 7, none⟩ (.int .i64 (s : Int))) L d size slot m stamp s count over := by
  have := blk_set h 7 (.int .i64 (s : Int)); exact this
theorem LgAt.setCount (h : LgAt w L d size slot m stamp used count over) (s : Nat) : LgAt (w.setCell ⟨L, 8, none⟩ (.int .i64 (s : Int))) L d size slot m stamp used s over := by
  have := blk_set h 8 (.int .i64 (s : Int)); exact this
theorem LgAt.farB (h : LgAt w L d size slot m stamp used count over) {A : Option Addr} {n : Nat} {zs : List Int} (hr : RB w A n zs) : ∀ ad, A = some ad → 0 < n → ad.block ≠ L := fun ad e hn he => by
  subst e
  obtain ⟨b, o, rfl⟩ := spot_add (w := w) (rb_spot hr hn).1
  simp only at he
  subst he
  obtain ⟨ad, e, hc⟩ := hr.cell hn
  cases e
  have hc0 := hc 0 hn
  rw [Addr.add_mid, Nat.add_zero, cell_of_row _ _ _ _ _ _ h] at hc0
  have hm : Value.int .u8 (zs.getD 0 0) ∈ lgC d size slot m stamp used count over := Array.mem_of_getElem? hc0
  simp [lgC] at hm
theorem LgAt.rb (h : LgAt w L d size slot m stamp used count over) {A : Option Addr} {n : Nat} {zs : List Int} (hr : RB w A n zs) (g : w.grownBy w' (some L)) : RB w' A n zs :=
  ⟨hr.len, hr.byte, fun hn => by
    obtain ⟨ad, e, hc⟩ := hr.cell hn
    have hne := h.farB hr ad e hn
    have hlt : ad.block < w.heap.size := by
      have := World.block_lt_of_cell? w _ (hc 0 hn)
      rw [block_add] at this; exact this
    exact ⟨ad, e, fun j hj => (World.cell?_of_block (by rw [block_add]; exact g.block _ hlt (fun e' => hne (Option.some.inj e')))).trans (hc j hj)⟩⟩
theorem grown_setCell (w : World) (L j : Nat) (v : Value) : w.grownBy (w.setCell ⟨L, j, none⟩ v) (some L) :=
  ⟨rfl, rfl, rfl, by simp [World.setCell], fun k _ hk => heap_setCell_ne w L j v k (fun e => hk (by rw [e]))⟩
theorem PcsAt.gr {base g K : Nat} {xs : List PV} (hp : PcsAt w base g K xs) (h : LgAt w L d size slot m stamp used count over) (gr : w.grownBy w' (some L)) (hL : L < base) : PcsAt w' base g K xs :=
  ⟨own_stays hp.own fun k e => gr.block k (hp.own.lt k e).2 (fun e2 => by injection e2 with e2; have := (hp.own.lt k e).1; omega), hp.len, fun x hx => ⟨h.rb (hp.is x hx).1 gr, (hp.is x hx).2⟩⟩
end
theorem PcsAt.row {w : World} {base g K : Nat} {xs : List PV} (h : PcsAt w base g K xs) {i : Nat} {x : PV} (hx : xs[i]? = some x) : w.rangeAt g (i * 4) x.cells := fun j v hv => by
  have hj : j < 4 := (List.getElem?_eq_some_iff.1 hv).1
  rw [h.at_ hx j hj, hv]
theorem RecAt.base {w : World} {b b' : Nat} {v : Value} {rs : List (List Int)} {vs : List Value} (h : RecAt w b v rs vs) (hb : b' ≤ b) : RecAt w b' v rs vs :=
  ⟨own_base h.own (fun k e => Nat.le_trans hb (h.own.lt k e).1), fun i r hr => by
    obtain ⟨g, e, hrow, h1, h2⟩ := h.at_ i r hr
    exact ⟨g, e, hrow, Nat.le_trans hb h1, h2⟩, h.nd, h.byte⟩
theorem RecAt.gr {w w' : World} {base L : Nat} {v : Value} {rs : List (List Int)} {vs : List Value} (h : RecAt w base v rs vs) (gr : w.grownBy w' (some L)) (hL : L < base) : RecAt w' base v rs vs :=
  ⟨own_stays h.own fun k e => gr.block k (h.own.lt k e).2 (fun e2 => by injection e2 with e2; have := (h.own.lt k e).1; omega), fun i r hr => by
    obtain ⟨g, e, hrow, h1, h2⟩ := h.at_ i r hr
    exact ⟨g, e, hrow.keep (gr.block g hrow.lt (fun e2 => by injection e2 with e2; omega)), h1, h2⟩, h.nd, h.byte⟩

theorem RecAt.form {w : World} {base : Nat} {v : Value} {rs : List (List Int)} {vs : List Value} (h : RecAt w base v rs vs) : ∃ A cap, v = .slice A rs.length cap ∧ (0 < rs.length → ∃ g, A = some ⟨g, 0, none⟩) := by
  rcases h.own.2 with ⟨hv, h0⟩ | ⟨g, cap, cur, hv, _⟩
  · have : rs.length = 0 := by first | exact h0 | exact h0.1 | omega
    exact ⟨none, 0, by rw [hv, this], fun h => by omega⟩
  · exact ⟨_, cap, hv, fun _ => ⟨g, rfl⟩⟩

/-- What Open hands back where a mark counts. -/
def openRecs (L : List Cn) : List (List Int) := gather (findM L).2.since (((piecesOf L (2 * areaSize L.length)).drop ((findM L).2.area * areaSize L.length)).take (areaSize L.length))
def OpenIs (w : World) (d : Nat) (S : St) (e : Ending) (w' : World) : Prop :=
  ∃ L v vs, e = .returned (.tuple #[.pointer (some ⟨L, 0, none⟩), v, .int .i64 0]) ∧
    LgAt w' L d (areaSize S.last.length) (findM S.last).1 (findM S.last).2 (topStamp (findM S.last).2.since (piecesOf S.last (2 * areaSize S.last.length))) (usedOf (openRecs S.last)) (openRecs S.last).length false ∧
    RecAt w' (L + 1) v (openRecs S.last) vs ∧ w.heap.size ≤ L ∧ Below w.heap.size w w'

set_option maxHeartbeats 8000000 in
theorem wopen {F : Nat → Prop} {w : World} {d : Nat} {S : St} (h : PD F w d S) (ho : S.off = false) (hp : S.pend = []) (hn : 6 ≤ S.last.length) (hm : 0 < (findM S.last).2.since) :
    Calls Try.prog 38 #[.pointer (some ⟨d, 0, none⟩)] w (OpenIs w d S) := by
  have CF := Lib.hid (wfind h ho hp hn)
  have HD := Lib.hid h
  have HO := Lib.hid ho
  have HP := Lib.hid hp
  have HN := Lib.hid hn
  have hhi := h.wf.hi
  have HT := Lib.hid (findS_turn S.last 2)
  have HLE := Lib.hid (piecesOf_le S.last (2 * areaSize S.last.length))
  obtain ⟨m, hmm⟩ : ∃ m, (findM S.last).2 = m := ⟨_, rfl⟩
  obtain ⟨slot, hslot⟩ : ∃ slot, (findM S.last).1 = slot := ⟨_, rfl⟩
  obtain ⟨z, hz⟩ : ∃ z, areaSize S.last.length = z := ⟨_, rfl⟩
  obtain ⟨ps, hps⟩ : ∃ ps, piecesOf S.last (2 * z) = ps := ⟨_, rfl⟩
  obtain ⟨rs, hrs⟩ : ∃ rs, openRecs S.last = rs := ⟨_, rfl⟩
  have HRS := Lib.hid (show gather m.since ((ps.drop (m.area * z)).take z) = rs by rw [← hrs, ← hps, ← hz, ← hmm]; rfl)
  have hz6 : 2 * z + 2 ≤ S.last.length := by rw [← hz]; unfold areaSize; omega
  have HZ := Lib.hid hz6
  have HZ2 := Lib.hid (show z ≤ 16384 ∧ 1 ≤ z by unfold areaSize at hz; omega)
  unfold FindIs at CF
  unfold OpenIs
  rw [hmm, hslot, hz] at CF
  rw [hmm, hslot, hz, hps, hrs]
  rw [hz, hps] at HLE
  have HPS := Lib.hid hps
  have HT2 := Lib.hid (show m.turn ≤ 2 ∧ m.area ≤ 1 ∧ m.since ≤ maxSt from by
    have := HT.out; unfold findM at hmm; rw [hmm] at this; exact ⟨this.1, this.2.1, this.2.2.1⟩)
  have hpos : 0 < m.since := by rw [← hmm]; exact hm
  have CT := Lib.hid (fun w' => wthere w' m.turn m.area m.since)
  rw [decide_eq_true hpos] at CT
  clear h ho hp hn hm hhi HT hmm hslot hz hps hrs hz6 hpos
  go_enter Try.func38, Try.ntmps38
  go_upto_region 2 with (go_at_call 74; go_loud (refine CF.out.mono ?_; rintro e w1 ⟨L, rfl, l1, h1, b1⟩; have L1 := Lib.hid l1; have H1 := Lib.hid h1; have B1 := Lib.hid b1; clear l1 h1 b1))
  have l3 := L1.out.c3
  have l4 := L1.out.c4
  have l5 := L1.out.c5
  go_upto_region 6 with (go_at_call 75; go_loud (refine (CT.out _).mono ?_; rintro e w2 ⟨rfl, b2⟩; have B2 := Lib.hid b2; clear b2))
  have HLT := Lib.hid (show L < w1.heap.size from (Array.getElem?_eq_some_iff.1 L1.out).1)
  have B12 := Lib.hid (show Below w.heap.size w w2 from B1.out.trans (B2.out.mono B1.out.size))
  have L2 := Lib.hid (show LgAt w2 L d z slot m 0 0 0 false from (B2.out.block _ HLT.out).trans L1.out)
  have HLT2 := Lib.hid (show L < w2.heap.size from Nat.lt_of_lt_of_le HLT.out B2.out.size)
  have CP := Lib.hid (wreadPieces (HD.out.below B12.out) HO.out HP.out L2.out HZ.out)
  unfold PiecesIs at CP
  rw [HPS.out] at CP
  clear l3 l4 l5
  go_upto_region 9 with (go_at_call 76; go_loud (refine CP.out.mono ?_; rintro e w3 ⟨g, xs, rfl, p3, x3, b3⟩; have P3 := Lib.hid p3; have X3 := Lib.hid x3; have B3 := Lib.hid b3; clear p3 x3 b3))
  have L3 := Lib.hid (show LgAt w3 L d z slot m 0 0 0 false from (B3.out.block _ HLT2.out).trans L2.out)
  have HLT3 := Lib.hid (show L < w3.heap.size from Nat.lt_of_lt_of_le HLT2.out B3.out.size)
  have B13 := Lib.hid (show Below w.heap.size w w3 from B12.out.trans (B3.out.mono B12.out.size))
  have l5 := L3.out.c5
  have l6 := L3.out.c6
  have f6 := L3.out.f 6
  obtain ⟨W4, hW4⟩ : ∃ W, w3.setCell ⟨L, 6, none⟩ (.int .u64 (m.since : Int)) = W := ⟨_, rfl⟩
  have HW4 := Lib.hid hW4
  have L4 := Lib.hid (show LgAt W4 L d z slot m m.since 0 0 false by rw [← hW4]; exact L3.out.setStamp _)
  have G4 := Lib.hid (show w3.grownBy W4 (some L) by rw [← hW4]; exact grown_setCell _ _ _ _)
  clear hW4
  go_upto_region 10 with fail
  rw [HW4.out]
  clear l5 l6 f6
  obtain ⟨K, hK⟩ : ∃ K, 2 * z = K := ⟨_, rfl⟩
  have HK := Lib.hid hK
  have HKZ := Lib.hid (show K ≤ 32768 by have := HZ2.out; omega)
  rw [hK] at P3 HPS ⊢
  have HXL := Lib.hid P3.out.len
  have hK4 : (K : Int) ≤ 32768 := by have := HKZ.out; omega
  clear hK
  go_upto_region 11 with fail
  go_loopw [45] (fun i wr => ∃ k : Nat, i = .int .i64 (k : Nat) ∧ k ≤ K ∧ LgAt wr L d z slot m (topStamp m.since (ps.take k)) 0 0 false ∧ w3.grownBy wr (some L)) (fun i _ => K - (intOf i).toNat)
  case atStart => exact ⟨0, rfl, Nat.zero_le _, L4.out, G4.out⟩
  case round =>
    obtain ⟨k, rfl, hk, hL, hG⟩ := hrel
    by_cases hlt : k < K
    · obtain ⟨x, hx⟩ : ∃ x, xs[k]? = some x := ⟨_, List.getElem?_eq_getElem (by rw [HXL.out]; exact hlt)⟩
      have HPr := P3.out.gr L3.out hG HLT2.out
      have HRow := Lib.hid (show wr.rangeAt g (k * 4) [.int .u64 (x.p.stamp : Int), .int .i64 (x.p.len : Int), .int .i64 (x.p.num : Int), .slice x.A x.n x.c] from HPr.row hx)
      have HI := Lib.hid (show (Try.prog.info? 123).map (·.size) = some [Value.int .u64 (x.p.stamp : Int), .int .i64 (x.p.len : Int), .int .i64 (x.p.num : Int), .slice x.A x.n x.c].length by rfl)
      have hpk : ps[k]? = some x.p := by rw [← X3.out, List.getElem?_map, hx]; rfl
      have HPK := Lib.hid hpk
      have HXS := Lib.hid (HLE.out x.p (List.mem_of_getElem? hpk)).1
      have hki : (k : Int) < (K : Int) := by omega
      have HKK := Lib.hid hlt
      obtain ⟨s, hs⟩ : ∃ s, topStamp m.since (ps.take k) = s := ⟨_, rfl⟩
      rw [hs] at hL
      have HS := Lib.hid hs
      have HSM := Lib.hid (show s ≤ maxSt by rw [← hs]; exact topStamp_le _ _ HT2.out.2.2 (fun p hp => (HLE.out p (List.mem_of_mem_take hp)).1))
      obtain ⟨W5, hW5⟩ : ∃ W, wr.alloc (.cells #[.int .u64 (x.p.stamp : Int), .int .i64 (x.p.len : Int), .int .i64 (x.p.num : Int), .slice x.A x.n x.c] 123) = W := ⟨_, rfl⟩
      have HW5 := Lib.hid hW5
      have Q5 := Lib.hid (show W5.heap[wr.heap.size]? = some (.cells #[.int .u64 (x.p.stamp : Int), .int .i64 (x.p.len : Int), .int .i64 (x.p.num : Int), .slice x.A x.n x.c] 123 (0, 0)) by rw [← hW5]; exact heap_alloc_new _ _)
      have G5 := Lib.hid (show w3.grownBy W5 (some L) by rw [← hW5]; exact hG.trans (World.grownBy_alloc _ _ _))
      have L5 := Lib.hid (show LgAt W5 L d z slot m s 0 0 false by rw [← hW5]; exact (Below.heap_alloc _ _ _ (Array.getElem?_eq_some_iff.1 hL).1).trans hL)
      clear hx hpk hlt hL hG hs hW5 HPr
      go_upto_region 13 with (with_reducible refine wpList_load_mid rfl 123 (.tmp 47) rfl g (k * 4) rfl [.int .u64 (x.p.stamp : Int), .int .i64 (x.p.len : Int), .int .i64 (x.p.num : Int), .slice x.A x.n x.c] _ HRow.out Try.underlying123 rfl HI.out ?_)
      rw [HW5.out]
      have y0 : W5.drew.cell? ⟨wr.heap.size, 0, none⟩ = some (.int .u64 (x.p.stamp : Int)) := cell_of_row _ _ 0 _ _ _ Q5.out
      have l6 : W5.drew.cell? ⟨L, 6, none⟩ = some (.int .u64 (s : Int)) := L5.out.c6
      have f6 : W5.drew.frozen? ⟨L, 6, none⟩ = false := L5.out.f 6
      have HNX := Lib.hid (show topStamp m.since (ps.take (k + 1)) = max s x.p.stamp by rw [List.take_add_one, HPK.out, Option.toList_some, topStamp_snoc, HS.out])
      have L5d := Lib.hid (show LgAt W5.drew L d z slot m s 0 0 false from L5.out)
      have G5d := Lib.hid (show w3.grownBy W5.drew (some L) from ⟨G5.out.os, G5.out.tape, G5.out.output, G5.out.size, G5.out.block⟩)
      have hmx : max (s : Int) (x.p.stamp : Int) = ((max s x.p.stamp : Nat) : Int) := by omega
      have HN3 := Lib.hid (show LgAt (W5.setCell ⟨L, 6, none⟩ (.int .u64 (max (s : Int) (x.p.stamp : Int)))).drew L d z slot m (topStamp m.since (ps.take (k + 1))) 0 0 false ∧ w3.grownBy (W5.setCell ⟨L, 6, none⟩ (.int .u64 (max (s : Int) (x.p.stamp : Int)))).drew (some L) by
        rw [hmx, HNX.out]
        exact ⟨L5.out.setStamp _, G5d.out.trans (grown_setCell _ _ _ _)⟩)
      clear hmx
      refine wp_region_still_tail 10 (by kernel_rfl) (by kernel_rfl) ?_
      simp only [List.take_succ_cons, List.take_zero, List.drop_succ_cons, List.drop_zero]
      change wpStill _ _ W5.drew _ _ _
      iterate 10 still_step
      refine wpStill_nil ?_
      change wpList _ _ _ _ _ W5.drew
      go_wp2
      go_roundw
      case rel => exact ⟨k + 1, by have := HKZ.out; go_num, HKK.out, HN3.out⟩
      case measure => have := HKK.out; have := HKZ.out; simp [intOf]; omega
    · obtain rfl : k = K := by omega
      obtain ⟨s, hs⟩ : ∃ s, topStamp m.since ps = s := ⟨_, rfl⟩
      have hps : ps.take k = ps := List.take_of_length_le (by rw [← X3.out, List.length_map, HXL.out]; exact Nat.le_refl _)
      rw [hps, hs] at hL
      have HPr := P3.out.gr L3.out hG HLT2.out
      obtain ⟨q, hq⟩ : ∃ q, m.area * z = q := ⟨_, rfl⟩
      have hqz : q + z ≤ k := by
        have h1 := HT2.out.2.1
        have h2 := HK.out
        rw [← hq, ← h2]
        rcases Nat.le_one_iff_eq_zero_or_eq_one.1 h1 with e | e <;> rw [e] <;> omega
      have HV := Lib.hid (HPr.part q z hqz)
      have HQZ := Lib.hid hqz
      have HQ := Lib.hid hq
      have hq1 : (m.area : Int) * (z : Int) = (q : Int) := by rw [← hq]; simp
      have hq2 : IntKind.i64.wrap (q : Int) = (q : Int) := by rw [IntKind.wrap_i64]; have := HKZ.out; omega
      have hq3 : (q : Int) ≤ (k : Int) := by omega
      have hq4 : ¬ k = q := by have := HZ2.out; omega
      have hq5 : (z : Int) ≤ ((k - q : Nat) : Int) := by omega
      have hq6 : q ≤ k := by omega
      have hq7 : z ≤ k - q := by omega
      have hq8 : ¬ k - q = 0 := by have := HZ2.out; omega
      have l1 : wr.drew.cell? ⟨L, 1, none⟩ = some (.int .i64 (z : Int)) := hL.c1
      have l4 : wr.drew.cell? ⟨L, 4, none⟩ = some (.int .i64 (m.area : Int)) := hL.c4
      have l5 : wr.drew.cell? ⟨L, 5, none⟩ = some (.int .u64 (m.since : Int)) := hL.c5
      have HL := Lib.hid hL
      have HG := Lib.hid hG
      have HS := Lib.hid hs
      clear hL hG hlt hk hps hqz hq HPr hs
      go_upto_region 15 with fail
      refine wp_region_still_tail 22 (by kernel_rfl) (by kernel_rfl) ?_
      simp only [List.take_succ_cons, List.take_zero, List.drop_succ_cons, List.drop_zero]
      change wpStill _ _ wr.drew _ _ _
      iterate 22 still_step
      refine wpStill_nil ?_
      change wpList _ _ _ _ _ wr.drew
      clear hq1 hq2 hq3 hq4 hq5 hq6 hq7 hq8 l1 l4 l5
      have HDRW := Lib.hid (show Below wr.heap.size wr wr.drew from ⟨rfl, rfl, rfl, Nat.le_refl _, fun _ _ => rfl⟩)
      have hmap : (((xs.drop q).take z).map PV.p) = (ps.drop q).take z := by rw [List.map_take, List.map_drop, X3.out]
      have CG := Lib.hid (wgather wr.drew g (q * 4) z (k - q) _ (HV.out.below HDRW.out) (by have := HQZ.out; omega) HZ2.out.1 (by have := HKZ.out; omega) m.since (by have := HT2.out.2.2; unfold maxSt at this; omega) (fun x hx => (HLE.out x.p (by rw [← X3.out]; exact List.mem_map_of_mem (List.mem_of_mem_drop (List.mem_of_mem_take hx)))).2))
      rw [hmap] at CG
      have hrs : gather m.since ((ps.drop q).take z) = rs := by rw [← HQ.out]; exact HRS.out
      have HUS := Lib.hid (show usedOf rs ≤ z by
        have := gather_used m.since ((ps.drop q).take z)
        rw [hrs] at this
        exact Nat.le_trans this (List.length_take_le _ _))
      rw [hrs] at CG
      clear hmap hrs
      go_upto_region 16 with (go_at_call 77; go_loud (refine CG.out.mono ?_; rintro e w5 ⟨v, vs, rfl, r5, b5⟩; have R5 := Lib.hid r5; have B5 := Lib.hid b5; clear r5 b5 CG))
      have hgs : w3.heap.size ≤ wr.heap.size := HG.out.size
      have HLR := Lib.hid (show L + 1 ≤ wr.drew.heap.size by have := HLT3.out; change L + 1 ≤ wr.heap.size; omega)
      have R6 := Lib.hid (R5.out.base HLR.out)
      have L5 := Lib.hid (show LgAt w5 L d z slot m s 0 0 false from (B5.out.block L (by have := HLR.out; omega)).trans HL.out)
      have HL5 := Lib.hid (show L < w5.heap.size by have h1 := B5.out.size; have h2 := HLR.out; omega)
      have B15 := Lib.hid (show Below w.heap.size w w5 from B13.out.trans (((below_of_grown HG.out B13.out.size (fun k' e => by injection e with e; have := H1.out; omega)).trans (HDRW.out.mono (Nat.le_trans B13.out.size hgs))).trans (B5.out.mono (Nat.le_trans B13.out.size hgs))))
      obtain ⟨A, cap, rfl, hA⟩ := R6.out.form
      have HA := Lib.hid hA
      obtain ⟨n, hn⟩ : ∃ n, rs.length = n := ⟨_, rfl⟩
      rw [hn] at R6 R5 HA ⊢
      have HNN := Lib.hid hn
      have hnz : (n : Int) ≤ 16384 := by have := usedOf_ge rs; have := HUS.out; have := HZ2.out; omega
      clear hA hn hgs
      go_upto_region 17 with fail
      go_loopw [85] (fun i wy => ∃ k2 : Nat, i = .int .i64 (k2 : Nat) ∧ k2 ≤ n ∧ LgAt wy L d z slot m s (usedOf (rs.take k2)) 0 false ∧ w5.grownBy wy (some L)) (fun i _ => n - (intOf i).toNat)
      case atStart => exact ⟨0, rfl, Nat.zero_le _, L5.out, World.grownBy.refl _ _⟩
      case round =>
        rename World => wy
        obtain ⟨k2, rfl, hk2, hL2, hG2⟩ := hrel
        by_cases hlt : k2 < n
        · obtain ⟨g5, rfl⟩ := HA.out (by omega)
          obtain ⟨r, hr⟩ : ∃ r, rs[k2]? = some r := ⟨_, List.getElem?_eq_getElem (by rw [HNN.out]; exact hlt)⟩
          have R7 := R6.out.gr hG2 (Nat.lt_succ_self L)
          obtain ⟨gr, hgr, -, -, -⟩ := R7.at_ k2 r hr
          have c2 : wy.cell? ⟨g5, k2, none⟩ = some (.slice (some ⟨gr, 0, none⟩) r.length r.length) := by
            have h7 := R7.own
            rw [HNN.out] at h7
            rw [h7.cellAt k2 (by omega)]; exact hgr
          obtain ⟨u, hu⟩ : ∃ u, usedOf (rs.take k2) = u := ⟨_, rfl⟩
          rw [hu] at hL2
          have HNU := Lib.hid (show usedOf (rs.take (k2 + 1)) = u + nblocks r.length by rw [List.take_add_one, hr, Option.toList_some, usedOf_snoc, hu])
          have hub : u + nblocks r.length ≤ 16384 := by
            have h1 : usedOf rs = usedOf (rs.take (k2 + 1)) + usedOf (rs.drop (k2 + 1)) := by rw [← usedOf_app, List.take_append_drop]
            have h2 := HNU.out
            have h3 := HUS.out
            have h4 := HZ2.out
            omega
          have CB := Lib.hid (fun W => wblocksN r.length W (by have := nblocks_inv (n := r.length) (B := 16384) (by omega); omega))
          obtain ⟨nb, hnb⟩ : ∃ nb, nblocks r.length = nb := ⟨_, rfl⟩
          rw [hnb] at CB HNU hub
          have hki : (k2 : Int) < (n : Int) := by omega
          have hubi : (u : Int) + (nb : Int) ≤ 16384 := by omega
          have HK2 := Lib.hid hlt
          have HL2 := Lib.hid hL2
          have HG2 := Lib.hid hG2
          clear R7 hgr hr hu hnb hlt hk2 hub hL2 hG2
          go_upto_region 19 with fail
          clear c2
          have l7 : wy.drew.cell? ⟨L, 7, none⟩ = some (.int .i64 (u : Int)) := HL2.out.c7
          have hw8 : IntKind.i64.wrap ((u : Int) + (nb : Int)) = (u : Int) + (nb : Int) := by rw [IntKind.wrap_i64]; omega
          have HN8 := Lib.hid (show LgAt (wy.setCell ⟨L, 7, none⟩ (.int .i64 ((u : Int) + (nb : Int)))).drew L d z slot m s (usedOf (rs.take (k2 + 1))) 0 false ∧ w5.grownBy (wy.setCell ⟨L, 7, none⟩ (.int .i64 ((u : Int) + (nb : Int)))).drew (some L) by
            rw [HNU.out, ← Int.natCast_add]
            exact ⟨HL2.out.setUsed _, HG2.out.trans ((grown_setCell wy L 7 _).trans ⟨rfl, rfl, rfl, Nat.le_refl _, fun _ _ _ => rfl⟩)⟩)
          have f7 : wy.drew.frozen? ⟨L, 7, none⟩ = false := HL2.out.f 7
          go_region_with (go_at_call 34; refine (CB.out _).mono ?_; rintro e w' ⟨rfl, rfl⟩)
          all_goals
            go_wp2
            go_roundw
            case rel => exact ⟨k2 + 1, by go_num, HK2.out, HN8.out⟩
            case measure => have := HK2.out; simp [intOf]; omega
        · obtain rfl : k2 = n := by omega
          have ht : rs.take k2 = rs := List.take_of_length_le (by rw [HNN.out]; exact Nat.le_refl _)
          rw [ht] at hL2
          have l8 := hL2.c8
          have f8 := hL2.f 8
          have HL9 := Lib.hid (show LgAt (wy.setCell ⟨L, 8, none⟩ (.int .i64 (k2 : Int))) L d z slot m s (usedOf rs) k2 false from hL2.setCount k2)
          have HG9 := Lib.hid (show w5.grownBy (wy.setCell ⟨L, 8, none⟩ (.int .i64 (k2 : Int))) (some L) from hG2.trans (grown_setCell _ _ _ _))
          clear hL2 hG2 hlt ht hk2
          go_wp2
          go_ret3
          exact ⟨L, _, vs, rfl, by rw [HS.out, HNN.out]; exact HL9.out, R6.out.gr HG9.out (Nat.lt_succ_self L), H1.out, B15.out.trans (below_of_grown HG9.out B15.out.size (fun k' e => by injection e with e; have := H1.out; omega))⟩
end Go.Proofs.Ytapjgancaldgaaa

/- The call Open, where no mark counts. -/
namespace Go.Proofs.Ytapjgancaldgaaa
set_option maxRecDepth 100000
open Go.RowKit

set_option maxHeartbeats 2000000 in
theorem wopen_small {F : Nat → Prop} {w : World} {d : Nat} {S : St} (h : PD F w d S) (hn : S.last.length < 6) :
    Calls Try.prog 38 #[.pointer (some ⟨d, 0, none⟩)] w fun e w' => e = .returned (.tuple #[.pointer none, .slice none 0 0, .int .i64 1]) ∧ Below w.heap.size w w' := by
  have CF := Lib.hid (find_small h hn)
  clear h hn
  go_enter Try.func38, Try.ntmps38
  go_wp2_with (go_at_call 74; refine CF.out.mono ?_; rintro e w' ⟨rfl, rfl⟩)
  go_ret3
  exact ⟨rfl, Below.refl _ _⟩

set_option maxHeartbeats 4000000 in
theorem wopen_none {F : Nat → Prop} {w : World} {d : Nat} {S : St} (h : PD F w d S) (ho : S.off = false) (hp : S.pend = []) (hn : 6 ≤ S.last.length) (hm : ¬ 0 < (findM S.last).2.since) :
    Calls Try.prog 38 #[.pointer (some ⟨d, 0, none⟩)] w fun e w' => e = .returned (.tuple #[.pointer none, .slice none 0 0, .int .i64 30]) ∧ Below w.heap.size w w' := by
  have CF := Lib.hid (wfind h ho hp hn)
  obtain ⟨m, hmm⟩ : ∃ m, (findM S.last).2 = m := ⟨_, rfl⟩
  have CT := Lib.hid (fun w' => wthere w' m.turn m.area m.since)
  rw [hmm] at hm
  rw [decide_eq_false hm] at CT
  unfold FindIs at CF
  rw [hmm] at CF
  clear h ho hp hn hm hmm
  go_enter Try.func38, Try.ntmps38
  go_upto_region 2 with (go_at_call 74; go_loud (refine CF.out.mono ?_; rintro e w1 ⟨L, rfl, l1, h1, b1⟩; have L1 := Lib.hid l1; have B1 := Lib.hid b1; clear l1 h1 b1 CF))
  have l3 := L1.out.c3
  have l4 := L1.out.c4
  have l5 := L1.out.c5
  go_wp2_with (go_at_call 75; go_loud (refine (CT.out _).mono ?_; rintro e w2 ⟨rfl, b2⟩; have B2 := Lib.hid b2; clear b2))
  go_ret3
  exact ⟨rfl, B1.out.trans (B2.out.mono B1.out.size)⟩
end Go.Proofs.Ytapjgancaldgaaa

/- The walk of LogAny: true whatever comes in. -/
namespace Go.Proofs.Ytapjgancaldgaaa
set_option maxRecDepth 100000
open Go.RowKit

set_option maxHeartbeats 4000000 in
theorem walk_LogAny (A0 : Option Addr) (n0 c0 : Nat) (z0 : List Int) (A1 : Option Addr) (n1 c1 : Nat) (z1 : List Int) (w : World) (h0 : RB w A0 n0 z0) (hn0 : n0 ≤ c0) (hc0 : c0 ≤ 140737488351232) (h1 : RI w A1 n1 z1) (hn1 : n1 ≤ c1) (hc1 : c1 ≤ 17592186043904) :
    Calls Try.prog 10 #[.slice A0 n0 c0, .slice A1 n1 c1] w fun e w' => e = .returned (.bool true) ∧ Below w.heap.size w w' := by
  have cl := Lib.hid (dload w A0 n0 c0 z0 h0 hn0 (by omega) A1 n1 c1 z1 h1 (by omega))
  clear h0 h1
  by_cases hgood : loadGood z0 z1
  · have HGD := Lib.hid hgood
    have HOFF := Lib.hid (show (loadS z0 z1).off = false from rfl)
    have HPEND := Lib.hid (show (loadS z0 z1).pend = [] from rfl)
    obtain ⟨S, hS⟩ : ∃ S, S = loadS z0 z1 := ⟨_, rfl⟩
    unfold LoadIs at cl
    rw [← hS] at cl HOFF HPEND
    clear hgood hS
    go_enter Try.func10, Try.ntmps10
    go_upto_region 4 with (first
      | (go_at_call 22; go_loud (refine cl.out.mono ?_; rintro e w2 (⟨h, -, -⟩ | ⟨-, d, rfl, hp, b2⟩); exact absurd HGD.out h; have P2 := Lib.hid hp; have B2 := Lib.hid b2; clear hp b2 cl))
      | (go_at_call 31; refine (wlive _).mono ?_; rintro e w' ⟨rfl, rfl⟩))
    by_cases h6 : S.last.length < 6
    · have CO := Lib.hid (wopen_small P2.out h6)
      have h6i : (S.last.length : Int) < 6 := by omega
      clear h6
      go_upto_region 5 with (go_at_call 38; go_loud (refine CO.out.mono ?_; rintro e w3 ⟨rfl, b3⟩; have B3 := Lib.hid b3; clear b3 CO))
      have CB := Lib.hid (pblocks (P2.out.below B3.out))
      go_wp2_with (go_at_call 39; refine CB.out.mono ?_; rintro e w' ⟨rfl, rfl⟩)
      go_ret
      exact ⟨rfl, B2.out.trans (B3.out.mono B2.out.size)⟩
    · have h6i : ¬ (S.last.length : Int) < 6 := by omega
      have H6 := Lib.hid (show 6 ≤ S.last.length by omega)
      clear h6
      by_cases hm : 0 < (findM S.last).2.since
      · have CO := Lib.hid (wopen P2.out HOFF.out HPEND.out H6.out hm)
        unfold OpenIs at CO
        clear hm
        go_upto_region 5 with (go_at_call 38; go_loud (refine CO.out.mono ?_; rintro e w3 ⟨L, v, vs, rfl, -, -, -, b3⟩; have B3 := Lib.hid b3; clear b3 CO))
        have CB := Lib.hid (pblocks (P2.out.below B3.out))
        go_wp2_with (go_at_call 39; refine CB.out.mono ?_; rintro e w' ⟨rfl, rfl⟩)
        go_ret
        exact ⟨rfl, B2.out.trans (B3.out.mono B2.out.size)⟩
      · have CO := Lib.hid (wopen_none P2.out HOFF.out HPEND.out H6.out hm)
        clear hm
        go_upto_region 5 with (go_at_call 38; go_loud (refine CO.out.mono ?_; rintro e w3 ⟨rfl, b3⟩; have B3 := Lib.hid b3; clear b3 CO))
        have CB := Lib.hid (pblocks (P2.out.below B3.out))
        go_wp2_with (go_at_call 39; refine CB.out.mono ?_; rintro e w' ⟨rfl, rfl⟩)
        go_ret
        exact ⟨rfl, B2.out.trans (B3.out.mono B2.out.size)⟩
  · have HGD := Lib.hid hgood
    clear hgood
    go_enter Try.func10, Try.ntmps10
    go_wp2_with (first
      | (go_at_call 22; go_loud (refine cl.out.mono ?_; rintro e w2 (⟨-, rfl, b2⟩ | ⟨h, -⟩); rotate_left; exact absurd h HGD.out; have B2 := Lib.hid b2; clear b2 cl))
      | (go_at_call 31; refine (wlive _).mono ?_; rintro e w' ⟨rfl, rfl⟩))
    go_ret
    exact ⟨rfl, B2.out⟩
end Go.Proofs.Ytapjgancaldgaaa
