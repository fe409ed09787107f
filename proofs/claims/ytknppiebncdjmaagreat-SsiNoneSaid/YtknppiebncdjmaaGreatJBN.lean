import Derived.Test.YtknppiebncdjmaaGreatJBM
import Derived.Test.YtknppiebncdjmaaGreatJBL
import Derived.Test.YtknppiebncdjmaaGreatJBD
/- Layer 9: take, told of all the notes. -/
namespace Go.Proofs.YtknppiebncdjmaaGreat
set_option maxRecDepth 100000
set_option maxRecDepth 100000
open Go.RowKit

theorem RangeM.perm {κ : Type} [DecidableEq κ] {k : TypeId} {T : KT κ k} {w : World} {r it : Nat} {hs hs2 left : List (κ × Value)} (h : RangeM T w r it hs left) (hp : hs.Perm hs2) : RangeM T w r it hs2 left := by
  obtain ⟨D, f, cnt, h1, h2, h3, h4⟩ := h
  exact ⟨D, f, cnt, hp.length_eq ▸ h1, h2.perm hp, fun x hx => hp.mem_iff.1 (h3 x hx), h4⟩
section
variable {w w' : World} {r mb most : Nat} {X Y : List Tx9} {t : Int} {b : Nat} {tb : ByteArray}
/-- What take leaves. -/
structure TakeIs (w w' : World) (r mb most : Nat) (X : List Tx9) (t : Int) (tb : ByteArray) (X' : List Tx9) : Prop where
  mem : Mem9 NoE w' r mb most (flatX X').length X'
  flat : (flatX X').Perm ((flatX X).filter (notP t tb))
  out : Out (BlX r mb X) w w'
  bl : ∀ k, BlX r mb X' k → BlX r mb X k
/-- The notes without those of a pair. -/
def lessX (t : Int) (b : Nat) (S : List Tb9) (Y : List Tx9) : List Tx9 := if S = [] then Y else (t, b, S) :: Y
theorem take_is {v0 : Value} {ls0 : List (Nat × Rd)} {S : List Tb9} (h : Mem9 NoE w r mb most (flatX ((t, b, (tb, v0, ls0) :: S) :: Y)).length ((t, b, (tb, v0, ls0) :: S) :: Y)) (hY : ∀ e ∈ Y, e.1 ≠ t) (hS : ∀ q ∈ S, q.1 ≠ tb)
    (hR : RBlk w' r mb most ((flatX ((t, b, (tb, v0, ls0) :: S) :: Y)).length - ls0.length)) (hT : MapM KI w' mb (if (delM (tabT ((tb, v0, ls0) :: S)) tb).length = 0 then delM (topX ((t, b, (tb, v0, ls0) :: S) :: Y)) t else topX ((t, b, (tb, v0, ls0) :: S) :: Y)))
    (hM : MapM KS w' b (tabT S)) (o : Out (fun k => k = r ∨ k = b ∨ k = mb) w w') : TakeIs w w' r mb most ((t, b, (tb, v0, ls0) :: S) :: Y) t tb (lessX t b S Y) := by
  have hmem := List.mem_cons_self (a := (t, b, (tb, v0, ls0) :: S)) (l := Y)
  have hoks := h.ok _ hmem
  have htab := h.tab _ hmem
  have hRw : RBlk w r mb most _ := h.blk
  have hn := h.mbs
  simp only [List.map_cons, List.nodup_cons, List.mem_cons, List.mem_map, not_or, not_exists, not_and] at hn
  have hNw : ∀ {v : Value} {ls : List (Nat × Rd)}, NL w v ls → NL w' v ls := fun {v ls} hN => by
    have a1 := hN.apart_r hRw
    have a2 := hN.apart_m h.top
    have a3 := hN.apart_m htab
    refine hN.kept (fun k hk => o.block k (hN.pv.lt k hk) ?_) fun z hz => o.block _ (hN.rd z hz).lt ?_
    · rintro (rfl | rfl | rfl)
      · exact a1.1 hk
      · exact a3.1 hk
      · exact a2.1 hk
    · rintro (e | e | e)
      · exact a1.2 z hz e
      · exact a3.2 z hz e
      · exact a2.2 z hz e
  have hTY : ∀ e ∈ Y, MapM KS w' e.2.1 (tabT e.2.2) := fun e he => by
    have := h.tab e (List.mem_cons_of_mem _ he)
    refine this.block (o.block _ this.lt ?_)
    rintro (e1 | e1 | e1)
    · exact Ne.symm (this.no hRw) e1
    · exact hn.2.1 e he e1
    · exact hn.1.2 e he e1
  have hrows := h.rows
  unfold rowsX at hrows
  rw [List.flatMap_cons, List.nodup_append] at hrows
  simp only [List.map_cons, List.nodup_cons] at hrows
  rw [delM_tab_cons hS] at hT
  have hfl : ((flatX ((t, b, (tb, v0, ls0) :: S) :: Y)).length : Int) = ls0.length + ((flatT t S).length + (flatX Y).length) := by
    rw [flatX_cons]
    simp only [flatT_cons, List.length_append, List.length_map]
    omega
  have hlt : (tabT S).length = S.length := by unfold tabT; rw [List.length_map]
  unfold lessX
  by_cases hz : S = []
  · subst hz
    rw [if_pos rfl]
    rw [if_pos (by rfl), delM_top_cons hY] at hT
    refine ⟨⟨?_, hT, hTY, fun e he => h.ne e (List.mem_cons_of_mem _ he), fun e he => h.ok e (List.mem_cons_of_mem _ he), fun e he q hq _ => hNw (h.lst e (List.mem_cons_of_mem _ he) q hq id), ?_, hrows.2.1⟩, ?_, o.mono fun k _ hk => ?_, fun k hk => ?_⟩
    · have : ((flatX Y).length : Int) = (flatX ((t, b, [(tb, v0, ls0)]) :: Y)).length - ls0.length := by
        rw [hfl]; simp only [flatT, List.flatMap_nil, List.length_nil]; omega
      rw [this]
      exact hR
    · simp only [List.nodup_cons, List.mem_map, not_exists, not_and]
      exact ⟨hn.1.2, hn.2.2⟩
    · rw [flat_filter_at hoks hS hY]
      exact List.Perm.refl _
    · rcases hk with rfl | rfl | rfl
      · exact .inl rfl
      · exact .inr (.inr ⟨_, hmem, .inl rfl⟩)
      · exact .inr (.inl rfl)
    · rcases hk with rfl | rfl | ⟨e, he, hk⟩
      · exact .inl rfl
      · exact .inr (.inl rfl)
      · exact .inr (.inr ⟨e, List.mem_cons_of_mem _ he, hk⟩)
  · rw [if_neg hz]
    have hz2 : ¬ (tabT S).length = 0 := by rw [hlt]; exact fun e => hz (List.eq_nil_of_length_eq_zero e)
    rw [if_neg hz2] at hT
    refine ⟨⟨?_, hT, fun e he => ?_, fun e he => ?_, fun e he q hq => ?_, fun e he q hq _ => ?_, h.mbs, ?_⟩, ?_, o.mono fun k _ hk => ?_, fun k hk => ?_⟩
    · have : ((flatX ((t, b, S) :: Y)).length : Int) = (flatX ((t, b, (tb, v0, ls0) :: S) :: Y)).length - ls0.length := by
        rw [hfl, flatX_cons]; simp only [List.length_append]; omega
      rw [this]
      exact hR
    · rcases List.mem_cons.1 he with rfl | he
      · exact hM
      · exact hTY e he
    · rcases List.mem_cons.1 he with rfl | he
      · exact ⟨hz, (h.ne _ hmem).2⟩
      · exact h.ne e (List.mem_cons_of_mem _ he)
    · rcases List.mem_cons.1 he with rfl | he
      · exact hoks q (List.mem_cons_of_mem _ hq)
      · exact h.ok e (List.mem_cons_of_mem _ he) q hq
    · rcases List.mem_cons.1 he with rfl | he
      · exact hNw (h.lst _ hmem q (List.mem_cons_of_mem _ hq) id)
      · exact hNw (h.lst e (List.mem_cons_of_mem _ he) q hq id)
    · unfold rowsX
      rw [List.flatMap_cons, List.nodup_append]
      exact ⟨hrows.1.2, hrows.2.1, fun x hx y hy => hrows.2.2 x (List.mem_cons_of_mem _ hx) y hy⟩
    · rw [flat_filter_at hoks hS hY, flatX_cons]
    · rcases hk with rfl | rfl | rfl
      · exact .inl rfl
      · exact .inr (.inr ⟨_, hmem, .inl rfl⟩)
      · exact .inr (.inl rfl)
    · rcases hk with rfl | rfl | ⟨e, he, hk⟩
      · exact .inl rfl
      · exact .inr (.inl rfl)
      · rcases List.mem_cons.1 he with rfl | he
        · rcases hk with rfl | ⟨q, hq, hk⟩
          · exact .inr (.inr ⟨_, hmem, .inl rfl⟩)
          · exact .inr (.inr ⟨_, hmem, .inr ⟨q, List.mem_cons_of_mem _ hq, hk⟩⟩)
        · exact .inr (.inr ⟨e, List.mem_cons_of_mem _ he, hk⟩)
theorem take_pre {v0 : Value} {ls0 : List (Nat × Rd)} {S : List Tb9} (h : Mem9 NoE w r mb most (flatX ((t, b, (tb, v0, ls0) :: S) :: Y)).length ((t, b, (tb, v0, ls0) :: S) :: Y)) (hl : (flatX ((t, b, (tb, v0, ls0) :: S) :: Y)).length ≤ 70000) :
    b ≠ mb ∧ (∃ g0 c0, (getM (tabT ((tb, v0, ls0) :: S)) tb).getD (.slice none 0 0) = .slice (some ⟨g0, 0, none⟩) ls0.length c0) ∧ ls0.length ≤ 70000 := by
  have hmem := List.mem_cons_self (a := (t, b, (tb, v0, ls0) :: S)) (l := Y)
  have hoks := h.ok _ hmem
  obtain ⟨g0, c0, hv0⟩ := (hoks (tb, v0, ls0) (List.mem_cons_self ..)).hdr
  have hn := h.mbs
  simp only [List.map_cons, List.nodup_cons, List.mem_cons, List.mem_map, not_or, not_exists, not_and] at hn
  have hlenT := len_in (X := (t, b, (tb, v0, ls0) :: S) :: Y) hmem
  have hlen0 := len_own (t := t) (T := (tb, v0, ls0) :: S) (List.mem_cons_self ..)
  simp only at hlenT hlen0
  exact ⟨Ne.symm hn.1.1, ⟨g0, c0, by rw [getM_tab (h.tab _ hmem).once (q := (tb, v0, ls0)) (List.mem_cons_self ..)]; exact hv0⟩, by omega⟩
/-- take. -/
theorem wpTake9 {v0 : Value} {ls0 : List (Nat × Rd)} {S : List Tb9} (h : Mem9 NoE w r mb most (flatX ((t, b, (tb, v0, ls0) :: S) :: Y)).length ((t, b, (tb, v0, ls0) :: S) :: Y)) (hl : (flatX ((t, b, (tb, v0, ls0) :: S) :: Y)).length ≤ 70000) (ht : (Lit.int .i64 t).wf = true) (htb : tb.size ≤ maxLen) (hY : ∀ e ∈ Y, e.1 ≠ t) (hS : ∀ q ∈ S, q.1 ≠ tb) :
    Calls Tryz.prog 101 #[.pointer (some ⟨r, 0, none⟩), .agg #[.int .i64 t, .string tb]] w fun e w' => e = .returned (.tuple #[]) ∧ TakeIs w w' r mb most ((t, b, (tb, v0, ls0) :: S) :: Y) t tb (lessX t b S Y) := by
  have hmem := List.mem_cons_self (a := (t, b, (tb, v0, ls0) :: S)) (l := Y)
  obtain ⟨hbm, ⟨g0, c0, hv⟩, hl0⟩ := take_pre h hl
  refine (wpTake (show RBlk w r mb most _ from h.blk) h.top ht (getM_top h.top.once hmem) hbm (h.tab _ hmem) htb hv (by omega) ⟨by omega, by omega⟩).mono ?_
  rintro e w' ⟨he, hR, hT, hM, o⟩
  rw [delM_tab_cons hS] at hM
  exact ⟨he, take_is h hY hS hR hT hM o⟩
theorem wpTakeR9 {v0 : Value} {ls0 : List (Nat × Rd)} {S : List Tb9} (h : Mem9 NoE w r mb most (flatX ((t, b, (tb, v0, ls0) :: S) :: Y)).length ((t, b, (tb, v0, ls0) :: S) :: Y)) (hl : (flatX ((t, b, (tb, v0, ls0) :: S) :: Y)).length ≤ 70000) (ht : (Lit.int .i64 t).wf = true) (htb : tb.size ≤ maxLen) (hY : ∀ e ∈ Y, e.1 ≠ t) (hS : ∀ q ∈ S, q.1 ≠ tb)
    {it : Nat} {left : List (ByteArray × Value)} (hr : RangeM KS w b it (tabT ((tb, v0, ls0) :: S)) left) (hnl : getM left tb = none) (hit : it ≠ r ∧ it ≠ b ∧ it ≠ mb) :
    Calls Tryz.prog 101 #[.pointer (some ⟨r, 0, none⟩), .agg #[.int .i64 t, .string tb]] w fun e w' => e = .returned (.tuple #[]) ∧ TakeIs w w' r mb most ((t, b, (tb, v0, ls0) :: S) :: Y) t tb (lessX t b S Y) ∧ RangeM KS w' b it (tabT S) left ∧ w'.heap[it]? = w.heap[it]? ∧ w'.rangeLeft b it ≤ w.rangeLeft b it ∧ Out (fun k => k = r ∨ k = b ∨ k = mb) w w' := by
  have hmem := List.mem_cons_self (a := (t, b, (tb, v0, ls0) :: S)) (l := Y)
  obtain ⟨hbm, ⟨g0, c0, hv⟩, hl0⟩ := take_pre h hl
  refine (wpTakeR (show RBlk w r mb most _ from h.blk) h.top ht (getM_top h.top.once hmem) hbm hr htb hnl hv (by omega) ⟨by omega, by omega⟩ hit).mono ?_
  rintro e w' ⟨he, hR, hT, hM, o, h1, h2⟩
  rw [delM_tab_cons hS] at hM
  exact ⟨he, take_is h hY hS hR hT hM.map o, hM, h1, h2, o⟩
end
end Go.Proofs.YtknppiebncdjmaaGreat

/- Layer 9: fullest: the pair with the most notes. -/
namespace Go.Proofs.YtknppiebncdjmaaGreat
set_option maxRecDepth 100000
set_option maxRecDepth 100000
open Go.RowKit

def pairCells (p : Int × ByteArray) : Obj := .cells #[.int .i64 p.1, .string p.2] 171
/-- Between two rounds over the transactions; m0: more rounds are not to come. -/
structure FullO (w0 : World) (mb it rb fb : Nat) (X : List Tx9) (wz : World) (left : List (Int × Value)) (p : Int × ByteArray) (n : Nat) : Prop where
  bel : Below w0.heap.size w0 wz
  rng : RangeM KI wz mb it (topX X) left
  res : wz.heap[rb]? = some (pairCells (0, ⟨#[]⟩))
  ful : wz.heap[fb]? = some (pairCells p)
  bst : Bst (VisO X left) p n
  cap : n ≤ 100000
/-- Between two rounds over a transaction's tables. -/
structure FullI (w0 : World) (mb it rb fb : Nat) (X : List Tx9) (t : Int) (b it2 : Nat) (T : List Tb9) (wz : World) (left : List (Int × Value)) (m0 : Nat) (leftT : List (ByteArray × Value)) (p : Int × ByteArray) (n : Nat) : Prop where
  bel : Below w0.heap.size w0 wz
  rng : RangeM KI wz mb it (topX X) left
  ml : wz.rangeLeft mb it < m0
  rngT : RangeM KS wz b it2 (tabT T) leftT
  it2 : it < it2 ∧ rb < it2 ∧ fb < it2
  res : wz.heap[rb]? = some (pairCells (0, ⟨#[]⟩))
  ful : wz.heap[fb]? = some (pairCells p)
  bst : Bst (VisI X left t T leftT) p n
  cap : n ≤ 100000
theorem pc_cells {w : World} {b : Nat} {p : Int × ByteArray} (h : w.heap[b]? = some (pairCells p)) : w.cell? ⟨b, 0, none⟩ = some (.int .i64 p.1) ∧ w.cell? ⟨b, 1, none⟩ = some (.string p.2) ∧ w.frozen? ⟨b, 0, none⟩ = false ∧ w.frozen? ⟨b, 1, none⟩ = false :=
  ⟨cell_of_row _ _ 0 _ _ _ h, cell_of_row _ _ 1 _ _ _ h, frozen_of_row _ _ _ _ _ h, frozen_of_row _ _ _ _ _ h⟩
theorem pc_set {w : World} {b : Nat} {p : Int × ByteArray} (h : w.heap[b]? = some (pairCells p)) (q : Int × ByteArray) : ((w.setCell ⟨b, 0, none⟩ (.int .i64 q.1)).setCell ⟨b, 1, none⟩ (.string q.2)).heap[b]? = some (pairCells q) := by
  have h1 := heap_setCell_same w b 0 _ _ (.int .i64 q.1) h
  have h2 := heap_setCell_same (w.setCell ⟨b, 0, none⟩ (.int .i64 q.1)) b 1 _ _ (.string q.2) h1
  exact h2
theorem FullI.next {w0 : World} {mb it rb fb : Nat} {X : List Tx9} {t : Int} {b it2 : Nat} {T : List Tb9} {wy wn V : World} {left : List (Int × Value)} {m0 : Nat} {leftT leftT' : List (ByteArray × Value)} {p p' : Int × ByteArray} {n n' : Nat}
    (I : FullI w0 mb it rb fb X t b it2 T wy left m0 leftT p n) (hr : RangeM KS wn b it2 (tabT T) leftT') (hg : wy.grownBy wn (some it2)) (o : Out (fun k => k = fb) wn V) (hf : V.heap[fb]? = some (pairCells p')) (hb : Bst (VisI X left t T leftT') p' n') (hc : n' ≤ 100000)
    (h1 : mb < w0.heap.size ∧ b < w0.heap.size ∧ w0.heap.size ≤ rb ∧ rb < fb ∧ fb < it) :
    FullI w0 mb it rb fb X t b it2 T V left m0 leftT' p' n' := by
  have hbel := I.bel.size
  have hit := RangeM.it_lt I.rng
  have k1 : ∀ k, k < wy.heap.size → k ≠ it2 → k ≠ fb → V.heap[k]? = wy.heap[k]? := fun k hk a1 a2 => (o.block k (Nat.lt_of_lt_of_le hk hg.size) a2).trans (hg.block k hk (fun e => a1 (Option.some.inj e)))
  have k2 : ∀ k, k < wn.heap.size → k ≠ fb → V.heap[k]? = wn.heap[k]? := fun k hk a2 => o.block k hk a2
  have hi2 := I.it2
  have hm := k1 mb (by omega) (by omega) (by omega)
  have hi := k1 it hit (by omega) (by omega)
  refine ⟨(I.bel.trans (grown_below hg hbel (by omega))).trans (o.below (Nat.le_trans hbel hg.size) fun i hi e => by omega), I.rng.kept hm hi, by rw [left_kept hm hi]; exact I.ml, hr.kept (k2 b hr.map.lt (by omega)) (k2 it2 (RangeM.it_lt hr) (by omega)), hi2, (k1 rb (by omega) (by omega) (by omega)).trans I.res, hf, hb, hc⟩
/-- What fullest says. -/
def FullSays (X : List Tx9) (p : Int × ByteArray) (b : Bool) : Prop := ∃ n, b = decide (1 < n) ∧ Bst (AllP X) p n
def FullRes (X : List Tx9) (w : World) (e : Ending) (w' : World) : Prop := ∃ p b, e = .returned (.tuple #[.agg #[.int .i64 p.1, .string p.2], .bool b]) ∧ FullSays X p b ∧ Below w.heap.size w w'
set_option maxHeartbeats 16000000 in
theorem wpFullest {w : World} {r mb most : Nat} {cnt : Int} {X : List Tx9} (h : Mem9 NoE w r mb most cnt X) (hc : ∀ e ∈ X, ∀ q ∈ e.2.2, q.2.2.length ≤ 100000) :
    Calls Tryz.prog 100 #[.pointer (some ⟨r, 0, none⟩)] w (FullRes X w) := by
  have hR : RBlk w r mb most cnt := h.blk
  obtain ⟨W, hW⟩ : ∃ W, (w.alloc (.cells #[.int .i64 0, .string ⟨#[]⟩] 171)).alloc (.cells #[.int .i64 0, .string ⟨#[]⟩] 171) = W := ⟨_, rfl⟩
  have HW := Lib.hid hW
  obtain ⟨fb, hfb⟩ : ∃ fb, w.heap.size + 1 = fb := ⟨_, rfl⟩
  obtain ⟨it, hit⟩ : ∃ it, W.heap.size = it := ⟨_, rfl⟩
  have hWs : W.heap.size = w.heap.size + 2 := by rw [← hW]; simp
  have b1 : Below w.heap.size w (w.alloc (.cells #[.int .i64 0, .string ⟨#[]⟩] 171)) := below_alloc9 _ _
  have hB : Below w.heap.size w W := by rw [← hW]; exact b1.alloc b1.size _
  have q1 : W.heap[w.heap.size]? = some (pairCells (0, ⟨#[]⟩)) := by rw [← hW, Below.heap_alloc _ _ _ (by simp)]; exact heap_alloc_new _ _
  have q2 : W.heap[fb]? = some (pairCells (0, ⟨#[]⟩)) := by rw [← hW, ← hfb, show w.heap.size + 1 = (w.alloc (.cells #[.int .i64 0, .string ⟨#[]⟩] 171)).heap.size by simp]; exact heap_alloc_new _ _
  have hRW := hR.block (hB.block r hR.lt)
  have r2 := hRW.cells.2.2.1
  have hM := Lib.hid h
  have HWM := Lib.hid (h.gw hB)
  have HB := Lib.hid hB
  have HQ := Lib.hid (And.intro q1 q2)
  have HL := Lib.hid (And.intro hfb (And.intro hit hWs))
  have HC := Lib.hid hc
  have HN := Lib.hid (And.intro h.once (fun e he => h.onceT (e := e) he))
  clear h hW hfb hit hWs b1 hB q1 q2 hR hRW hc
  go_enter Tryz.func100, Tryz.ntmps100
  go_upto_region 3 with fail
  rw [HW.out, HL.out.1]
  go_upto_region 4 with (at_range; go_loud (refine wp_rangeM KI (by rfl) (.tmp 14) (by rfl) (by rfl) HWM.out.top Tryz.underlying153 ?_; intro w1 g1 b1 s1; have G1 := Lib.hid g1; have B1 := Lib.hid b1; clear g1 b1 s1))
  rw [HL.out.2.1]
  have BW1 := Lib.hid (show Below w.heap.size w w1 from below_next HB.out ⟨B1.out.os, B1.out.tape, B1.out.output, B1.out.size, fun k hk => B1.out.block k hk (by simp)⟩)
  have hk1 : ∀ k, k < it → w1.heap[k]? = W.heap[k]? := fun k hk => B1.out.block k (by rw [HL.out.2.1]; exact hk) (by simp)
  have HQ1 := Lib.hid (And.intro ((hk1 w.heap.size (by have := HL.out; omega)).trans HQ.out.1) ((hk1 fb (by have := HL.out; omega)).trans HQ.out.2))
  have G1b := Lib.hid (show RangeM KI w1 mb it (topX X) (topX X) by have := G1.out; rw [HL.out.2.1] at this; exact this)
  clear hk1 r2
  try go_frame
  go_loopw [5] (fun a5 wz => ∃ (n : Nat) (p : Int × ByteArray) (left : List (Int × Value)), a5 = .int .i64 (n : Nat) ∧ FullO w mb it w.heap.size fb X wz left p n) (fun _ wz => wz.rangeLeft mb it)
  case atStart => exact ⟨0, (0, ⟨#[]⟩), topX X, rfl, BW1.out, G1b.out, HQ1.out.1, HQ1.out.2, .inl ⟨rfl, visO_start X⟩, Nat.zero_le _⟩
  case round =>
    rename World => wz
    obtain ⟨n, p, left, rfl, o⟩ := hrel
    have O := Lib.hid o
    clear o
    go_upto_region 6 with (at_next; go_loud (refine wp_nextI (by rfl) (.tmp 15) (by rfl) it left (by rfl) O.out.rng ?_ ?_))
    · intro hnil
      subst hnil
      have HS := Lib.hid (show FullSays X p (decide (1 < n)) from ⟨n, rfl, O.out.bst.congr fun q m => (visO_end X q m).symm⟩)
      obtain ⟨f0, f1, -, -⟩ := pc_cells O.out.ful
      obtain ⟨z0, z1, zf0, zf1⟩ := pc_cells O.out.res
      obtain ⟨V, hV⟩ : ∃ V, (wz.setCell ⟨w.heap.size, 0, none⟩ (.int .i64 p.1)).setCell ⟨w.heap.size, 1, none⟩ (.string p.2) = V := ⟨_, rfl⟩
      have HV := Lib.hid hV
      have hq := pc_set O.out.res p
      rw [hV] at hq
      obtain ⟨v0, v1, -, -⟩ := pc_cells hq
      have BV := Lib.hid (show Below w.heap.size w V by rw [← hV]; exact (O.out.bel.setCell (Nat.le_refl _) _).setCell (Nat.le_refl _) _)
      clear hV hq
      obtain ⟨b, hd⟩ : ∃ b, decide (1 < n) = b := ⟨_, rfl⟩
      have hd2 : decide ((1 : Int) < (n : Int)) = b := by rw [← hd]; congr 1; simp; omega
      rw [hd] at HS
      go_upto_region 12 with fail
      go_wp2
      rw [HV.out]
      refine bodyPost_ret (v := .tuple #[.agg #[.int .i64 p.1, .string p.2], .bool b]) (by simp [results, Tryz.results100, go_sem, v0, v1]) rfl ⟨p, b, rfl, HS.out, BV.out⟩
    · intro t v wn hin hok hr2 hg2 hsz hlt hen
      obtain ⟨⟨t', b, T⟩, he, e1⟩ := List.mem_map.1 (O.out.rng.sub _ hin)
      simp only [Prod.mk.injEq] at e1
      obtain ⟨rfl, rfl⟩ := e1
      have hitw : w.heap.size < it ∧ fb < it := by have := HL.out; omega
      have hbn : Below w.heap.size w wn := O.out.bel.trans (grown_below hg2 O.out.bel.size (by omega))
      have hkn : ∀ k, k < wz.heap.size → k ≠ it → wn.heap[k]? = wz.heap[k]? := fun k hk hne => hg2.block k hk (fun e => hne (Option.some.inj e))
      have hlw : w.heap.size < wz.heap.size ∧ fb < wz.heap.size := ⟨(Array.getElem?_eq_some_iff.1 O.out.res).1, (Array.getElem?_eq_some_iff.1 O.out.ful).1⟩
      have hTn := (hM.out.tab _ he).block (hbn.block b (hM.out.tab _ he).lt)
      have HTn := Lib.hid hTn
      have HRN := Lib.hid (And.intro ((hkn _ hlw.1 (by omega)).trans O.out.res) ((hkn _ hlw.2 (by omega)).trans O.out.ful))
      have HI2 := Lib.hid (And.intro hr2 (And.intro hlt hitw))
      have HBN := Lib.hid hbn
      have HIN := Lib.hid hin
      have HE := Lib.hid he
      clear hin hok hr2 hg2 hsz hlt hbn hkn hlw hTn hitw
      go_upto_region 7 with (at_range; go_loud (refine wp_rangeM KS (by rfl) (.tmp 21) (by rfl) (by rfl) HTn.out Tryz.underlying160 ?_; intro w2 g2 b2 s2; have G2 := Lib.hid g2; have B2 := Lib.hid b2; clear g2 b2 s2))
      obtain ⟨it2, hi2⟩ : ∃ it2, wn.heap.size = it2 := ⟨_, rfl⟩
      have G2b := Lib.hid (show RangeM KS w2 b it2 (tabT T) (tabT T) by rw [← hi2]; exact G2.out)
      rw [hi2]
      have hk2 : ∀ k, k < wn.heap.size → w2.heap[k]? = wn.heap[k]? := fun k hk => B2.out.block k hk (by simp)
      have hmbn : mb < wn.heap.size := HI2.out.1.map.lt
      have hitn : it < wn.heap.size := RangeM.it_lt HI2.out.1
      have hrs : w.heap.size < wn.heap.size ∧ fb < wn.heap.size := ⟨(Array.getElem?_eq_some_iff.1 HRN.out.1).1, (Array.getElem?_eq_some_iff.1 HRN.out.2).1⟩
      have START := Lib.hid (show FullI w mb it w.heap.size fb X t' b it2 T w2 (delM left t') (wz.rangeLeft mb it) (tabT T) p n from
        ⟨HBN.out.trans (grown_none B2.out HBN.out.size), HI2.out.1.kept (hk2 mb hmbn) (hk2 it hitn), by rw [left_kept (hk2 mb hmbn) (hk2 it hitn)]; exact HI2.out.2.1, G2b.out, by omega, (hk2 _ hrs.1).trans HRN.out.1, (hk2 _ hrs.2).trans HRN.out.2, O.out.bst.congr fun q m => visI_start HN.out.1 HE.out HIN.out q m, O.out.cap⟩)
      clear hk2 hmbn hitn hrs hi2 hen
      try go_frame
      go_loopw [5] (fun a5 wy => ∃ (n : Nat) (p : Int × ByteArray) (leftT : List (ByteArray × Value)), a5 = .int .i64 (n : Nat) ∧ FullI w mb it w.heap.size fb X t' b it2 T wy (delM left t') (wz.rangeLeft mb it) leftT p n) (fun _ wy => wy.rangeLeft b it2)
      case atStart => exact ⟨n, p, tabT T, rfl, START.out⟩
      case round =>
        rename World => wy
        obtain ⟨n, p, leftT, rfl, o⟩ := hrel
        have I := Lib.hid o
        clear o
        go_upto_region 8 with (at_next; go_loud (refine wp_nextS (by rfl) (.tmp 22) (by rfl) it2 leftT (by rfl) I.out.rngT ?_ ?_))
        · intro hnil
          subst hnil
          go_wp2
          go_roundw
          case rel => exact ⟨n, p, delM left t', rfl, I.out.bel, I.out.rng, I.out.res, I.out.ful, I.out.bst.congr fun q m => visI_end HN.out.1 O.out.rng.once HE.out q m, I.out.cap⟩
          case measure => exact I.out.ml
        · intro tb u wn2 hin hok hr2 hg2 hsz hlt hen
          obtain ⟨q, hq, e2⟩ := List.mem_map.1 (I.out.rngT.sub _ hin)
          simp only [Prod.mk.injEq] at e2
          obtain ⟨rfl, rfl⟩ := e2
          obtain ⟨g, c, hv⟩ := (hM.out.ok _ HE.out q hq).hdr
          have hm0 : 0 < q.2.2.length := List.length_pos_iff.2 (hM.out.ok _ HE.out q hq).ne
          have hmc := HC.out _ HE.out q hq
          have hvis := fun p2 n2 => visI_step (X := X) (left := delM left t') (t := t') (HN.out.2 _ HE.out) hq hin p2 n2
          obtain ⟨m, hm⟩ : ∃ m, q.2.2.length = m := ⟨_, rfl⟩
          simp only [hm] at hv hm0 hmc hvis
          rw [hv] at hen ⊢
          have hcap := I.out.cap
          have hlts : mb < w.heap.size ∧ b < w.heap.size ∧ w.heap.size ≤ w.heap.size ∧ w.heap.size < fb ∧ fb < it := ⟨hM.out.top.lt, (hM.out.tab _ HE.out).lt, Nat.le_refl _, by have := HL.out; omega, by have := HL.out; omega⟩
          have hfl := (Array.getElem?_eq_some_iff.1 I.out.ful).1
          have hi2 := I.out.it2
          have hfn : wn2.heap[fb]? = some (pairCells p) := (hg2.block fb hfl (fun e => by have := Option.some.inj e; omega)).trans I.out.ful
          obtain ⟨W2, hW2⟩ : ∃ W2, wn2.alloc (.cells #[.int .i64 t', .string q.1] 171) = W2 := ⟨_, rfl⟩
          have HW2 := Lib.hid hW2
          have bW2 : Below wn2.heap.size wn2 W2 := by rw [← hW2]; exact below_alloc9 _ _
          have hx : W2.heap[wn2.heap.size]? = some (pairCells (t', q.1)) := by rw [← hW2]; exact heap_alloc_new _ _
          have hf2 : W2.heap[fb]? = some (pairCells p) := (bW2.block fb (Nat.lt_of_lt_of_le hfl hg2.size)).trans hfn
          obtain ⟨x0, x1, -, -⟩ := pc_cells hx
          obtain ⟨f0, f1, ff0, ff1⟩ := pc_cells hf2
          have CP := Lib.hid (fun W => wpComparePairs (t', q.1) p W)
          have NX := Lib.hid (fun (V : World) (p' : Int × ByteArray) (n' : Nat) (o : Out (fun k => k = fb) wn2 V) (hf : V.heap[fb]? = some (pairCells p')) (hb : Bst (VisI X (delM left t') t' T (delM leftT q.1)) p' n') (hc : n' ≤ 100000) => I.out.next hr2 hg2 o hf hb hc hlts)
          have ML := Lib.hid (fun (V : World) (o : Out (fun k => k = fb) wn2 V) => (show V.rangeLeft b it2 < wy.rangeLeft b it2 by
            rw [left_kept (o.block b hr2.map.lt (by show b ≠ fb; omega)) (o.block it2 (RangeM.it_lt hr2) (by show it2 ≠ fb; omega))]; exact hlt))
          have BW := Lib.hid bW2
          have HF := Lib.hid hf2
          have HV := Lib.hid hvis
          have HM := Lib.hid (And.intro hm0 (And.intro hmc hcap))
          have HBS := Lib.hid I.out.bst
          clear hin hok hr2 hg2 hsz hlt hq hv hm0 hmc hvis hm hcap hfl hi2 hfn hW2 bW2 hx hf2
          by_cases h1 : n < m
          · have i1 : (n : Int) < (m : Int) := by omega
            have OV := Lib.hid (show Out (fun k => k = fb) wn2 ((W2.setCell ⟨fb, 0, none⟩ (.int .i64 t')).setCell ⟨fb, 1, none⟩ (.string q.1)) by refine Out.setCell (Out.setCell (Out.of_below BW.out _) (.inl ?_) _) (.inl ?_) _ <;> rfl)
            have FV := Lib.hid (pc_set HF.out (t', q.1))
            go_upto_region 10 with fail
            rw [HW2.out]
            go_upto_region 11 with fail
            go_wp2
            exact ⟨⟨m, (t', q.1), delM leftT q.1, rfl, NX.out _ _ _ OV.out FV.out (HBS.out.take HM.out.1 HV.out (.inl h1)) HM.out.2.1⟩, ML.out _ OV.out⟩
          · have i1 : ¬ (n : Int) < (m : Int) := by omega
            have i1b : decide (n < m) = false := by simpa using h1
            by_cases h2 : m = n
            · subst h2
              obtain ⟨z, hz⟩ : ∃ z, cmpPr (t', q.1) p = z := ⟨_, rfl⟩
              rw [hz] at CP
              have hlt := cmpPr_lt (t', q.1) p
              rw [hz] at hlt
              cases hpl : pairLt (t', q.1) p
              · rw [hpl] at hlt
                have i2 : ¬ z < 0 := by simpa using hlt
                have HPL := Lib.hid hpl
                clear hz hlt hpl i1b
                go_upto_region 10 with fail
                rw [HW2.out]
                go_wp2_with (go_at_call 144; go_loud (refine (CP.out _).mono ?_; rintro e w5 ⟨rfl, g5⟩; have G5 := Lib.hid g5.below; clear g5))
                exact ⟨⟨m, p, delM leftT q.1, rfl, NX.out _ _ _ (Out.of_below (below_next BW.out G5.out) _) ((G5.out.block fb (Array.getElem?_eq_some_iff.1 HF.out).1).trans HF.out) (HBS.out.leave HM.out.1 HV.out ⟨h1, fun _ => HPL.out⟩) HM.out.2.2⟩, ML.out _ (Out.of_below (below_next BW.out G5.out) _)⟩
              · rw [hpl] at hlt
                have i2 : z < 0 := by simpa using hlt
                have HPL := Lib.hid hpl
                clear hz hlt hpl i1b
                go_upto_region 10 with fail
                rw [HW2.out]
                go_upto_region 11 with (go_at_call 144; go_loud (refine (CP.out _).mono ?_; rintro e w5 ⟨rfl, g5⟩; have G5 := Lib.hid g5.below; replace x0 := keep_below x0 g5.below; replace x1 := keep_below x1 g5.below; replace f0 := keep_below f0 g5.below; replace f1 := keep_below f1 g5.below; clear g5))
                have hf5 := (G5.out.block fb (Array.getElem?_eq_some_iff.1 HF.out).1).trans HF.out
                obtain ⟨-, -, ff0, ff1⟩ := pc_cells hf5
                have OV := Lib.hid (show Out (fun k => k = fb) wn2 ((w5.setCell ⟨fb, 0, none⟩ (.int .i64 t')).setCell ⟨fb, 1, none⟩ (.string q.1)) by refine Out.setCell (Out.setCell (Out.of_below (below_next BW.out G5.out) _) (.inl ?_) _) (.inl ?_) _ <;> rfl)
                have FV := Lib.hid (pc_set hf5 (t', q.1))
                clear hf5
                go_wp2
                exact ⟨⟨m, (t', q.1), delM leftT q.1, rfl, NX.out _ _ _ OV.out FV.out (HBS.out.take HM.out.1 HV.out (.inr ⟨rfl, HPL.out⟩)) HM.out.2.1⟩, ML.out _ OV.out⟩
            · have i2 : ¬ (m : Int) = (n : Int) := by omega
              go_upto_region 10 with fail
              rw [HW2.out]
              go_wp2
              exact ⟨⟨n, p, delM leftT q.1, rfl, NX.out _ _ _ (Out.of_below BW.out _) HF.out (HBS.out.leave HM.out.1 HV.out ⟨h1, fun e => absurd e h2⟩) HM.out.2.2⟩, ML.out _ (Out.of_below BW.out _)⟩
end Go.Proofs.YtknppiebncdjmaaGreat
