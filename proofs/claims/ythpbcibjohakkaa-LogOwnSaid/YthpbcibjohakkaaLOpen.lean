/- The call Open, on a disk with a mark that counts. -/
import Derived.Test.YthpbcibjohakkaaLGather
namespace Go.Proofs.Ythpbcibjohakkaa
set_option maxRecDepth 100000
set_option maxRecDepth 100000
open Go.RowKit

/-! ### Over lists -/
def topStamp (since : Nat) (ps : List Pc) : Nat := ps.foldl (fun s p => max s p.stamp) since
def usedOf (rs : List (List Int)) : Nat := (rs.map fun r => nblocks r.length).sum
theorem topStamp_snoc (since : Nat) (ps : List Pc) (p : Pc) : topStamp since (ps ++ [p]) = max (topStamp since ps) p.stamp := by simp [topStamp]
theorem usedOf_snoc (rs : List (List Int)) (r : List Int) : usedOf (rs ++ [r]) = usedOf rs + nblocks r.length := by simp [usedOf]
theorem pieceAt_le (L : List Cn) (i : Nat) : (pieceAt L i).stamp ≤ maxSt ∧ (pieceAt L i).len ≤ 65536 := ⟨(takePiece_le _).1, (takePiece_le _).2.1⟩
theorem piecesOf_le (L : List Cn) (K : Nat) : ∀ p ∈ piecesOf L K, p.stamp ≤ maxSt ∧ p.len ≤ 65536 := fun p hp => by
  unfold piecesOf at hp
  obtain ⟨i, _, rfl⟩ := List.mem_map.1 hp
  exact pieceAt_le L i
theorem topStamp_le (since : Nat) (ps : List Pc) (h : since ≤ maxSt) (hp : ∀ p ∈ ps, p.stamp ≤ maxSt) : topStamp since ps ≤ maxSt := by
  induction ps generalizing since with
  | nil => exact h
  | cons p ps ih =>
    unfold topStamp at ih ⊢
    rw [List.foldl_cons]
    exact ih _ (Nat.max_le.2 ⟨h, hp p (List.mem_cons_self ..)⟩) fun q hq => hp q (List.mem_cons_of_mem _ hq)

theorem buildRec_len : ∀ (l : List Pc) (r : List Int) (i : Nat), (∀ j, j < l.length → (i + j) * 40 ≤ r.length) → (buildRec r i l).length = r.length
  | [], r, i, _ => rfl
  | p :: l, r, i, h => by
    have h0 : i * 40 ≤ r.length := by have := h 0 (by simp); simpa using this
    rw [buildRec, buildRec_len l _ _ (fun j hj => ?_), putB_len _ _ _ h0]
    rw [putB_len _ _ _ h0]
    have := h (j + 1) (by simp; omega)
    rw [show i + 1 + j = i + (j + 1) by omega]; exact this
theorem recOf_len (ps : List Pc) : (recOf ps).length = (ps.headD Pc.no).len := by
  unfold recOf
  rw [buildRec_len, List.length_replicate]
  intro j hj
  rw [List.length_replicate]
  have h1 : j < nblocks (ps.headD Pc.no).len := Nat.lt_of_lt_of_le hj (List.length_take_le _ _)
  unfold nblocks at h1
  split at h1 <;> omega
theorem usedOf_app (a b : List (List Int)) : usedOf (a ++ b) = usedOf a + usedOf b := by simp [usedOf]
theorem gatherN_used (since : Nat) : ∀ (n : Nat) (ps : List Pc), usedOf (gatherN since n ps) ≤ ps.length
  | 0, ps => by simp [gatherN, usedOf]
  | n + 1, ps => by
    rw [gatherN]
    split
    · rename_i h
      cases ps with
      | nil => simp [starts] at h
      | cons f t =>
        have h1 := ((starts_iff since f t).1 h).2.1
        have h2 := gatherN_used since n ((f :: t).drop (nblocks ((f :: t).headD Pc.no).len))
        have h3 : usedOf (recOf (f :: t) :: gatherN since n ((f :: t).drop (nblocks ((f :: t).headD Pc.no).len))) = nblocks (recOf (f :: t)).length + usedOf (gatherN since n ((f :: t).drop (nblocks ((f :: t).headD Pc.no).len))) := by simp [usedOf]
        rw [h3, recOf_len]
        rw [List.length_drop] at h2
        simp only [List.headD_cons] at h2 ⊢
        omega
    · simp [usedOf]
theorem gather_used (since : Nat) (ps : List Pc) : usedOf (gather since ps) ≤ ps.length := gatherN_used since _ ps
theorem usedOf_ge : ∀ rs : List (List Int), rs.length ≤ usedOf rs
  | [] => Nat.le_refl _
  | r :: rs => by
    have h1 := usedOf_ge rs
    have h2 := nblocks_pos r.length
    have h3 : usedOf (r :: rs) = nblocks r.length + usedOf rs := by simp [usedOf]
    rw [h3, List.length_cons]; omega
theorem nblocks_inv {n B : Nat} (h : nblocks n ≤ B) : n ≤ 40 * B := by
  unfold nblocks at h
  split at h <;> omega

/-! ### In memory -/
section
variable {w w' : World} {L d size slot : Nat} {m : Mk} {stamp used count : Nat} {over : Bool}
theorem LgAt.setStamp (h : LgAt w L d size slot m stamp used count over) (s : Nat) : LgAt (w.setCell ⟨L, 6, none⟩ (.int .u64 (s : Int))) L d size slot m s used count over := by
  have := blk_set h 6 (.int .u64 (s : Int)); exact this
theorem LgAt.setUsed (h : LgAt w L d size slot m stamp used count over) (s : Nat) : LgAt (w.setCell ⟨L, 7, none⟩ (.int .i64 (s : Int))) L d size slot m stamp s count over := by
  have := blk_set h 7 (.int .i64 (s : Int)); exact this
theorem LgAt.setCount (h : LgAt w L d size slot m stamp used count over) (s : Nat) : LgAt (w.setCell ⟨L, 8, none⟩ (.int .i64 (s : Int))) L d size slot m stamp used s over := by
  have := blk_set h 8 (.int .i64 (s : Int)); exact this
theorem LgAt.farB (h : LgAt w L d size slot m stamp used count over) {A : Option Addr} {n : Nat} {zs : List Int} (hr : RB w A n zs) : ∀ ad, A = some ad → 0 < n → ad.block ≠ L := fun ad e hn he => by
  subst e
  obtain ⟨b, o, rfl⟩ := spot_add (w := w) (rb_spot hr hn).1
  simp only at he
  subst he
  obtain ⟨ad, e, hc⟩ := hr.cell hn
  cases e
  have hc0 := hc 0 hn
  rw [Addr.add_mid, Nat.add_zero, cell_of_row _ _ _ _ _ _ h] at hc0
  have hm : Value.int .u8 (zs.getD 0 0) ∈ lgC d size slot m stamp used count over := Array.mem_of_getElem? hc0
  simp [lgC] at hm
theorem LgAt.rb (h : LgAt w L d size slot m stamp used count over) {A : Option Addr} {n : Nat} {zs : List Int} (hr : RB w A n zs) (g : w.grownBy w' (some L)) : RB w' A n zs :=
  ⟨hr.len, hr.byte, fun hn => by
    obtain ⟨ad, e, hc⟩ := hr.cell hn
    have hne := h.farB hr ad e hn
    have hlt : ad.block < w.heap.size := by
      have := World.block_lt_of_cell? w _ (hc 0 hn)
      rw [block_add] at this; exact this
    exact ⟨ad, e, fun j hj => (World.cell?_of_block (by rw [block_add]; exact g.block _ hlt (fun e' => hne (Option.some.inj e')))).trans (hc j hj)⟩⟩
theorem grown_setCell (w : World) (L j : Nat) (v : Value) : w.grownBy (w.setCell ⟨L, j, none⟩ v) (some L) :=
  ⟨rfl, rfl, rfl, by simp [World.setCell], fun k _ hk => heap_setCell_ne w L j v k (fun e => hk (by rw [e]))⟩
theorem PcsAt.gr {base g K : Nat} {xs : List PV} (hp : PcsAt w base g K xs) (h : LgAt w L d size slot m stamp used count over) (gr : w.grownBy w' (some L)) (hL : L < base) : PcsAt w' base g K xs :=
  ⟨own_stays hp.own fun k e => gr.block k (hp.own.lt k e).2 (fun e2 => by injection e2 with e2; have := (hp.own.lt k e).1; omega), hp.len, fun x hx => ⟨h.rb (hp.is x hx).1 gr, (hp.is x hx).2⟩⟩
end
theorem PcsAt.row {w : World} {base g K : Nat} {xs : List PV} (h : PcsAt w base g K xs) {i : Nat} {x : PV} (hx : xs[i]? = some x) : w.rangeAt g (i * 4) x.cells := fun j v hv => by
  have hj : j < 4 := (List.getElem?_eq_some_iff.1 hv).1
  rw [h.at_ hx j hj, hv]
theorem RecAt.base {w : World} {b b' : Nat} {v : Value} {rs : List (List Int)} {vs : List Value} (h : RecAt w b v rs vs) (hb : b' ≤ b) : RecAt w b' v rs vs :=
  ⟨own_base h.own (fun k e => Nat.le_trans hb (h.own.lt k e).1), fun i r hr => by
    obtain ⟨g, e, hrow, h1, h2⟩ := h.at_ i r hr
    exact ⟨g, e, hrow, Nat.le_trans hb h1, h2⟩, h.nd, h.byte⟩
theorem RecAt.gr {w w' : World} {base L : Nat} {v : Value} {rs : List (List Int)} {vs : List Value} (h : RecAt w base v rs vs) (gr : w.grownBy w' (some L)) (hL : L < base) : RecAt w' base v rs vs :=
  ⟨own_stays h.own fun k e => gr.block k (h.own.lt k e).2 (fun e2 => by injection e2 with e2; have := (h.own.lt k e).1; omega), fun i r hr => by
    obtain ⟨g, e, hrow, h1, h2⟩ := h.at_ i r hr
    exact ⟨g, e, hrow.keep (gr.block g hrow.lt (fun e2 => by injection e2 with e2; omega)), h1, h2⟩, h.nd, h.byte⟩

theorem RecAt.form {w : World} {base : Nat} {v : Value} {rs : List (List Int)} {vs : List Value} (h : RecAt w base v rs vs) : ∃ A cap, v = .slice A rs.length cap ∧ (0 < rs.length → ∃ g, A = some ⟨g, 0, none⟩) := by
  rcases h.own.2 with ⟨hv, h0⟩ | ⟨g, cap, cur, hv, _⟩
  · have : rs.length = 0 := by first | exact h0 | exact h0.1 | omega
    exact ⟨none, 0, by rw [hv, this], fun h => by omega⟩
  · exact ⟨_, cap, hv, fun _ => ⟨g, rfl⟩⟩

/-- What Open hands back where a mark counts. -/
def openRecs (L : List Cn) : List (List Int) := gather (findM L).2.since (((piecesOf L (2 * areaSize L.length)).drop ((findM L).2.area * areaSize L.length)).take (areaSize L.length))
def OpenIs (w : World) (d : Nat) (S : St) (e : Ending) (w' : World) : Prop :=
  ∃ L v vs, e = .returned (.tuple #[.pointer (some ⟨L, 0, none⟩), v, .int .i64 0]) ∧
    LgAt w' L d (areaSize S.last.length) (findM S.last).1 (findM S.last).2 (topStamp (findM S.last).2.since (piecesOf S.last (2 * areaSize S.last.length))) (usedOf (openRecs S.last)) (openRecs S.last).length false ∧
    RecAt w' (L + 1) v (openRecs S.last) vs ∧ w.heap.size ≤ L ∧ Below w.heap.size w w'

set_option maxHeartbeats 8000000 in
theorem wopen {F : Nat → Prop} {w : World} {d : Nat} {S : St} (h : PD F w d S) (ho : S.off = false) (hp : S.pend = []) (hn : 6 ≤ S.last.length) (hm : 0 < (findM S.last).2.since) :
    Calls Try.prog 23 #[.pointer (some ⟨d, 0, none⟩)] w (OpenIs w d S) := by
  have CF := Lib.hid (wfind h ho hp hn)
  have HD := Lib.hid h
  have HO := Lib.hid ho
  have HP := Lib.hid hp
  have HN := Lib.hid hn
  have hhi := h.wf.hi
  have HT := Lib.hid (findS_turn S.last 2)
  have HLE := Lib.hid (piecesOf_le S.last (2 * areaSize S.last.length))
  obtain ⟨m, hmm⟩ : ∃ m, (findM S.last).2 = m := ⟨_, rfl⟩
  obtain ⟨slot, hslot⟩ : ∃ slot, (findM S.last).1 = slot := ⟨_, rfl⟩
  obtain ⟨z, hz⟩ : ∃ z, areaSize S.last.length = z := ⟨_, rfl⟩
  obtain ⟨ps, hps⟩ : ∃ ps, piecesOf S.last (2 * z) = ps := ⟨_, rfl⟩
  obtain ⟨rs, hrs⟩ : ∃ rs, openRecs S.last = rs := ⟨_, rfl⟩
  have HRS := Lib.hid (show gather m.since ((ps.drop (m.area * z)).take z) = rs by rw [← hrs, ← hps, ← hz, ← hmm]; rfl)
  have hz6 : 2 * z + 2 ≤ S.last.length := by rw [← hz]; unfold areaSize; omega
  have HZ := Lib.hid hz6
  have HZ2 := Lib.hid (show z ≤ 16384 ∧ 1 ≤ z by unfold areaSize at hz; omega)
  unfold FindIs at CF
  unfold OpenIs
  rw [hmm, hslot, hz] at CF
  rw [hmm, hslot, hz, hps, hrs]
  rw [hz, hps] at HLE
  have HPS := Lib.hid hps
  have HT2 := Lib.hid (show m.turn ≤ 2 ∧ m.area ≤ 1 ∧ m.since ≤ maxSt from by
    have := HT.out; unfold findM at hmm; rw [hmm] at this; exact ⟨this.1, this.2.1, this.2.2.1⟩)
  have hpos : 0 < m.since := by rw [← hmm]; exact hm
  have CT := Lib.hid (fun w' => wthere w' m.turn m.area m.since)
  rw [decide_eq_true hpos] at CT
  clear h ho hp hn hm hhi HT hmm hslot hz hps hrs hz6 hpos
  go_enter Try.func23, Try.ntmps23
  go_upto_region 2 with (go_at_call 36; go_loud (refine CF.out.mono ?_; rintro e w1 ⟨L, rfl, l1, h1, b1⟩; have L1 := Lib.hid l1; have H1 := Lib.hid h1; have B1 := Lib.hid b1; clear l1 h1 b1))
  have l3 := L1.out.c3
  have l4 := L1.out.c4
  have l5 := L1.out.c5
  go_upto_region 6 with (go_at_call 42; go_loud (refine (CT.out _).mono ?_; rintro e w2 ⟨rfl, b2⟩; have B2 := Lib.hid b2; clear b2))
  have HLT := Lib.hid (show L < w1.heap.size from (Array.getElem?_eq_some_iff.1 L1.out).1)
  have B12 := Lib.hid (show Below w.heap.size w w2 from B1.out.trans (B2.out.mono B1.out.size))
  have L2 := Lib.hid (show LgAt w2 L d z slot m 0 0 0 false from (B2.out.block _ HLT.out).trans L1.out)
  have HLT2 := Lib.hid (show L < w2.heap.size from Nat.lt_of_lt_of_le HLT.out B2.out.size)
  have CP := Lib.hid (wreadPieces (HD.out.below B12.out) HO.out HP.out L2.out HZ.out)
  unfold PiecesIs at CP
  rw [HPS.out] at CP
  clear l3 l4 l5
  go_upto_region 9 with (go_at_call 43; go_loud (refine CP.out.mono ?_; rintro e w3 ⟨g, xs, rfl, p3, x3, b3⟩; have P3 := Lib.hid p3; have X3 := Lib.hid x3; have B3 := Lib.hid b3; clear p3 x3 b3))
  have L3 := Lib.hid (show LgAt w3 L d z slot m 0 0 0 false from (B3.out.block _ HLT2.out).trans L2.out)
  have HLT3 := Lib.hid (show L < w3.heap.size from Nat.lt_of_lt_of_le HLT2.out B3.out.size)
  have B13 := Lib.hid (show Below w.heap.size w w3 from B12.out.trans (B3.out.mono B12.out.size))
  have l5 := L3.out.c5
  have l6 := L3.out.c6
  have f6 := L3.out.f 6
  obtain ⟨W4, hW4⟩ : ∃ W, w3.setCell ⟨L, 6, none⟩ (.int .u64 (m.since : Int)) = W := ⟨_, rfl⟩
  have HW4 := Lib.hid hW4
  have L4 := Lib.hid (show LgAt W4 L d z slot m m.since 0 0 false by rw [← hW4]; exact L3.out.setStamp _)
  have G4 := Lib.hid (show w3.grownBy W4 (some L) by rw [← hW4]; exact grown_setCell _ _ _ _)
  clear hW4
  go_upto_region 10 with fail
  rw [HW4.out]
  clear l5 l6 f6
  obtain ⟨K, hK⟩ : ∃ K, 2 * z = K := ⟨_, rfl⟩
  have HK := Lib.hid hK
  have HKZ := Lib.hid (show K ≤ 32768 by have := HZ2.out; omega)
  rw [hK] at P3 HPS ⊢
  have HXL := Lib.hid P3.out.len
  have hK4 : (K : Int) ≤ 32768 := by have := HKZ.out; omega
  clear hK
  go_upto_region 11 with fail
  go_loopw [45] (fun i wr => ∃ k : Nat, i = .int .i64 (k : Nat) ∧ k ≤ K ∧ LgAt wr L d z slot m (topStamp m.since (ps.take k)) 0 0 false ∧ w3.grownBy wr (some L)) (fun i _ => K - (intOf i).toNat)
  case atStart => exact ⟨0, rfl, Nat.zero_le _, L4.out, G4.out⟩
  case round =>
    obtain ⟨k, rfl, hk, hL, hG⟩ := hrel
    by_cases hlt : k < K
    · obtain ⟨x, hx⟩ : ∃ x, xs[k]? = some x := ⟨_, List.getElem?_eq_getElem (by rw [HXL.out]; exact hlt)⟩
      have HPr := P3.out.gr L3.out hG HLT2.out
      have HRow := Lib.hid (show wr.rangeAt g (k * 4) [.int .u64 (x.p.stamp : Int), .int .i64 (x.p.len : Int), .int .i64 (x.p.num : Int), .slice x.A x.n x.c] from HPr.row hx)
      have HI := Lib.hid (show (Try.prog.info? 86).map (·.size) = some [Value.int .u64 (x.p.stamp : Int), .int .i64 (x.p.len : Int), .int .i64 (x.p.num : Int), .slice x.A x.n x.c].length by rfl)
      have hpk : ps[k]? = some x.p := by rw [← X3.out, List.getElem?_map, hx]; rfl
      have HPK := Lib.hid hpk
      have HXS := Lib.hid (HLE.out x.p (List.mem_of_getElem? hpk)).1
      have hki : (k : Int) < (K : Int) := by omega
      have HKK := Lib.hid hlt
      obtain ⟨s, hs⟩ : ∃ s, topStamp m.since (ps.take k) = s := ⟨_, rfl⟩
      rw [hs] at hL
      have HS := Lib.hid hs
      have HSM := Lib.hid (show s ≤ maxSt by rw [← hs]; exact topStamp_le _ _ HT2.out.2.2 (fun p hp => (HLE.out p (List.mem_of_mem_take hp)).1))
      obtain ⟨W5, hW5⟩ : ∃ W, wr.alloc (.cells #[.int .u64 (x.p.stamp : Int), .int .i64 (x.p.len : Int), .int .i64 (x.p.num : Int), .slice x.A x.n x.c] 86) = W := ⟨_, rfl⟩
      have HW5 := Lib.hid hW5
      have Q5 := Lib.hid (show W5.heap[wr.heap.size]? = some (.cells #[.int .u64 (x.p.stamp : Int), .int .i64 (x.p.len : Int), .int .i64 (x.p.num : Int), .slice x.A x.n x.c] 86 (0, 0)) by rw [← hW5]; exact heap_alloc_new _ _)
      have G5 := Lib.hid (show w3.grownBy W5 (some L) by rw [← hW5]; exact hG.trans (World.grownBy_alloc _ _ _))
      have L5 := Lib.hid (show LgAt W5 L d z slot m s 0 0 false by rw [← hW5]; exact (Below.heap_alloc _ _ _ (Array.getElem?_eq_some_iff.1 hL).1).trans hL)
      clear hx hpk hlt hL hG hs hW5 HPr
      go_upto_region 13 with (with_reducible refine wpList_load_mid rfl 86 (.tmp 47) rfl g (k * 4) rfl [.int .u64 (x.p.stamp : Int), .int .i64 (x.p.len : Int), .int .i64 (x.p.num : Int), .slice x.A x.n x.c] _ HRow.out Try.underlying86 rfl HI.out ?_)
      rw [HW5.out]
      have y0 : W5.drew.cell? ⟨wr.heap.size, 0, none⟩ = some (.int .u64 (x.p.stamp : Int)) := cell_of_row _ _ 0 _ _ _ Q5.out
      have l6 : W5.drew.cell? ⟨L, 6, none⟩ = some (.int .u64 (s : Int)) := L5.out.c6
      have f6 : W5.drew.frozen? ⟨L, 6, none⟩ = false := L5.out.f 6
      have HNX := Lib.hid (show topStamp m.since (ps.take (k + 1)) = max s x.p.stamp by rw [List.take_add_one, HPK.out, Option.toList_some, topStamp_snoc, HS.out])
      have L5d := Lib.hid (show LgAt W5.drew L d z slot m s 0 0 false from L5.out)
      have G5d := Lib.hid (show w3.grownBy W5.drew (some L) from ⟨G5.out.os, G5.out.tape, G5.out.output, G5.out.size, G5.out.block⟩)
      have hmx : max (s : Int) (x.p.stamp : Int) = ((max s x.p.stamp : Nat) : Int) := by omega
      have HN3 := Lib.hid (show LgAt (W5.setCell ⟨L, 6, none⟩ (.int .u64 (max (s : Int) (x.p.stamp : Int)))).drew L d z slot m (topStamp m.since (ps.take (k + 1))) 0 0 false ∧ w3.grownBy (W5.setCell ⟨L, 6, none⟩ (.int .u64 (max (s : Int) (x.p.stamp : Int)))).drew (some L) by
        rw [hmx, HNX.out]
        exact ⟨L5.out.setStamp _, G5d.out.trans (grown_setCell _ _ _ _)⟩)
      clear hmx
      refine wp_region_still_tail 10 (by kernel_rfl) (by kernel_rfl) ?_
      simp only [List.take_succ_cons, List.take_zero, List.drop_succ_cons, List.drop_zero]
      change wpStill _ _ W5.drew _ _ _
      iterate 10 still_step
      refine wpStill_nil ?_
      change wpList _ _ _ _ _ W5.drew
      go_wp2
      go_roundw
      case rel => exact ⟨k + 1, by have := HKZ.out; go_num, HKK.out, HN3.out⟩
      case measure => have := HKK.out; have := HKZ.out; simp [intOf]; omega
    · obtain rfl : k = K := by omega
      obtain ⟨s, hs⟩ : ∃ s, topStamp m.since ps = s := ⟨_, rfl⟩
      have hps : ps.take k = ps := List.take_of_length_le (by rw [← X3.out, List.length_map, HXL.out]; exact Nat.le_refl _)
      rw [hps, hs] at hL
      have HPr := P3.out.gr L3.out hG HLT2.out
      obtain ⟨q, hq⟩ : ∃ q, m.area * z = q := ⟨_, rfl⟩
      have hqz : q + z ≤ k := by
        have h1 := HT2.out.2.1
        have h2 := HK.out
        rw [← hq, ← h2]
        rcases Nat.le_one_iff_eq_zero_or_eq_one.1 h1 with e | e <;> rw [e] <;> omega
      have HV := Lib.hid (HPr.part q z hqz)
      have HQZ := Lib.hid hqz
      have HQ := Lib.hid hq
      have hq1 : (m.area : Int) * (z : Int) = (q : Int) := by rw [← hq]; simp
      have hq2 : IntKind.i64.wrap (q : Int) = (q : Int) := by rw [IntKind.wrap_i64]; have := HKZ.out; omega
      have hq3 : (q : Int) ≤ (k : Int) := by omega
      have hq4 : ¬ k = q := by have := HZ2.out; omega
      have hq5 : (z : Int) ≤ ((k - q : Nat) : Int) := by omega
      have hq6 : q ≤ k := by omega
      have hq7 : z ≤ k - q := by omega
      have hq8 : ¬ k - q = 0 := by have := HZ2.out; omega
      have l1 : wr.drew.cell? ⟨L, 1, none⟩ = some (.int .i64 (z : Int)) := hL.c1
      have l4 : wr.drew.cell? ⟨L, 4, none⟩ = some (.int .i64 (m.area : Int)) := hL.c4
      have l5 : wr.drew.cell? ⟨L, 5, none⟩ = some (.int .u64 (m.since : Int)) := hL.c5
      have HL := Lib.hid hL
      have HG := Lib.hid hG
      have HS := Lib.hid hs
      clear hL hG hlt hk hps hqz hq HPr hs
      go_upto_region 15 with fail
      refine wp_region_still_tail 22 (by kernel_rfl) (by kernel_rfl) ?_
      simp only [List.take_succ_cons, List.take_zero, List.drop_succ_cons, List.drop_zero]
      change wpStill _ _ wr.drew _ _ _
      iterate 22 still_step
      refine wpStill_nil ?_
      change wpList _ _ _ _ _ wr.drew
      clear hq1 hq2 hq3 hq4 hq5 hq6 hq7 hq8 l1 l4 l5
      have HDRW := Lib.hid (show Below wr.heap.size wr wr.drew from ⟨rfl, rfl, rfl, Nat.le_refl _, fun _ _ => rfl⟩)
      have hmap : (((xs.drop q).take z).map PV.p) = (ps.drop q).take z := by rw [List.map_take, List.map_drop, X3.out]
      have CG := Lib.hid (wgather wr.drew g (q * 4) z (k - q) _ (HV.out.below HDRW.out) (by have := HQZ.out; omega) HZ2.out.1 (by have := HKZ.out; omega) m.since (by have := HT2.out.2.2; unfold maxSt at this; omega) (fun x hx => (HLE.out x.p (by rw [← X3.out]; exact List.mem_map_of_mem (List.mem_of_mem_drop (List.mem_of_mem_take hx)))).2))
      rw [hmap] at CG
      have hrs : gather m.since ((ps.drop q).take z) = rs := by rw [← HQ.out]; exact HRS.out
      have HUS := Lib.hid (show usedOf rs ≤ z by
        have := gather_used m.since ((ps.drop q).take z)
        rw [hrs] at this
        exact Nat.le_trans this (List.length_take_le _ _))
      rw [hrs] at CG
      clear hmap hrs
      go_upto_region 16 with (go_at_call 44; go_loud (refine CG.out.mono ?_; rintro e w5 ⟨v, vs, rfl, r5, b5⟩; have R5 := Lib.hid r5; have B5 := Lib.hid b5; clear r5 b5 CG))
      have hgs : w3.heap.size ≤ wr.heap.size := HG.out.size
      have HLR := Lib.hid (show L + 1 ≤ wr.drew.heap.size by have := HLT3.out; change L + 1 ≤ wr.heap.size; omega)
      have R6 := Lib.hid (R5.out.base HLR.out)
      have L5 := Lib.hid (show LgAt w5 L d z slot m s 0 0 false from (B5.out.block L (by have := HLR.out; omega)).trans HL.out)
      have HL5 := Lib.hid (show L < w5.heap.size by have h1 := B5.out.size; have h2 := HLR.out; omega)
      have B15 := Lib.hid (show Below w.heap.size w w5 from B13.out.trans (((below_of_grown HG.out B13.out.size (fun k' e => by injection e with e; have := H1.out; omega)).trans (HDRW.out.mono (Nat.le_trans B13.out.size hgs))).trans (B5.out.mono (Nat.le_trans B13.out.size hgs))))
      obtain ⟨A, cap, rfl, hA⟩ := R6.out.form
      have HA := Lib.hid hA
      obtain ⟨n, hn⟩ : ∃ n, rs.length = n := ⟨_, rfl⟩
      rw [hn] at R6 R5 HA ⊢
      have HNN := Lib.hid hn
      have hnz : (n : Int) ≤ 16384 := by have := usedOf_ge rs; have := HUS.out; have := HZ2.out; omega
      clear hA hn hgs
      go_upto_region 17 with fail
      go_loopw [85] (fun i wy => ∃ k2 : Nat, i = .int .i64 (k2 : Nat) ∧ k2 ≤ n ∧ LgAt wy L d z slot m s (usedOf (rs.take k2)) 0 false ∧ w5.grownBy wy (some L)) (fun i _ => n - (intOf i).toNat)
      case atStart => exact ⟨0, rfl, Nat.zero_le _, L5.out, World.grownBy.refl _ _⟩
      case round =>
        rename World => wy
        obtain ⟨k2, rfl, hk2, hL2, hG2⟩ := hrel
        by_cases hlt : k2 < n
        · obtain ⟨g5, rfl⟩ := HA.out (by omega)
          obtain ⟨r, hr⟩ : ∃ r, rs[k2]? = some r := ⟨_, List.getElem?_eq_getElem (by rw [HNN.out]; exact hlt)⟩
          have R7 := R6.out.gr hG2 (Nat.lt_succ_self L)
          obtain ⟨gr, hgr, -, -, -⟩ := R7.at_ k2 r hr
          have c2 : wy.cell? ⟨g5, k2, none⟩ = some (.slice (some ⟨gr, 0, none⟩) r.length r.length) := by
            have h7 := R7.own
            rw [HNN.out] at h7
            rw [h7.cellAt k2 (by omega)]; exact hgr
          obtain ⟨u, hu⟩ : ∃ u, usedOf (rs.take k2) = u := ⟨_, rfl⟩
          rw [hu] at hL2
          have HNU := Lib.hid (show usedOf (rs.take (k2 + 1)) = u + nblocks r.length by rw [List.take_add_one, hr, Option.toList_some, usedOf_snoc, hu])
          have hub : u + nblocks r.length ≤ 16384 := by
            have h1 : usedOf rs = usedOf (rs.take (k2 + 1)) + usedOf (rs.drop (k2 + 1)) := by rw [← usedOf_app, List.take_append_drop]
            have h2 := HNU.out
            have h3 := HUS.out
            have h4 := HZ2.out
            omega
          have CB := Lib.hid (fun W => wblocksN r.length W (by have := nblocks_inv (n := r.length) (B := 16384) (by omega); omega))
          obtain ⟨nb, hnb⟩ : ∃ nb, nblocks r.length = nb := ⟨_, rfl⟩
          rw [hnb] at CB HNU hub
          have hki : (k2 : Int) < (n : Int) := by omega
          have hubi : (u : Int) + (nb : Int) ≤ 16384 := by omega
          have HK2 := Lib.hid hlt
          have HL2 := Lib.hid hL2
          have HG2 := Lib.hid hG2
          clear R7 hgr hr hu hnb hlt hk2 hub hL2 hG2
          go_upto_region 19 with fail
          clear c2
          have l7 : wy.drew.cell? ⟨L, 7, none⟩ = some (.int .i64 (u : Int)) := HL2.out.c7
          have hw8 : IntKind.i64.wrap ((u : Int) + (nb : Int)) = (u : Int) + (nb : Int) := by rw [IntKind.wrap_i64]; omega
          have HN8 := Lib.hid (show LgAt (wy.setCell ⟨L, 7, none⟩ (.int .i64 ((u : Int) + (nb : Int)))).drew L d z slot m s (usedOf (rs.take (k2 + 1))) 0 false ∧ w5.grownBy (wy.setCell ⟨L, 7, none⟩ (.int .i64 ((u : Int) + (nb : Int)))).drew (some L) by
            rw [HNU.out, ← Int.natCast_add]
            exact ⟨HL2.out.setUsed _, HG2.out.trans ((grown_setCell wy L 7 _).trans ⟨rfl, rfl, rfl, Nat.le_refl _, fun _ _ _ => rfl⟩)⟩)
          have f7 : wy.drew.frozen? ⟨L, 7, none⟩ = false := HL2.out.f 7
          go_region_with (go_at_call 28; refine (CB.out _).mono ?_; rintro e w' ⟨rfl, rfl⟩)
          all_goals
            go_wp2
            go_roundw
            case rel => exact ⟨k2 + 1, by go_num, HK2.out, HN8.out⟩
            case measure => have := HK2.out; simp [intOf]; omega
        · obtain rfl : k2 = n := by omega
          have ht : rs.take k2 = rs := List.take_of_length_le (by rw [HNN.out]; exact Nat.le_refl _)
          rw [ht] at hL2
          have l8 := hL2.c8
          have f8 := hL2.f 8
          have HL9 := Lib.hid (show LgAt (wy.setCell ⟨L, 8, none⟩ (.int .i64 (k2 : Int))) L d z slot m s (usedOf rs) k2 false from hL2.setCount k2)
          have HG9 := Lib.hid (show w5.grownBy (wy.setCell ⟨L, 8, none⟩ (.int .i64 (k2 : Int))) (some L) from hG2.trans (grown_setCell _ _ _ _))
          clear hL2 hG2 hlt ht hk2
          go_wp2
          go_ret3
          exact ⟨L, _, vs, rfl, by rw [HS.out, HNN.out]; exact HL9.out, R6.out.gr HG9.out (Nat.lt_succ_self L), H1.out, B15.out.trans (below_of_grown HG9.out B15.out.size (fun k' e => by injection e with e; have := H1.out; omega))⟩
end Go.Proofs.Ythpbcibjohakkaa
