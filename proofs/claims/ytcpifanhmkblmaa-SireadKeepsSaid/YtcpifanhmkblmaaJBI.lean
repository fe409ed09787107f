import Derived.Test.YtcpifanhmkblmaaSpNote3
import Derived.Laws.IdiomRangeMap
import Derived.Test.YtcpifanhmkblmaaJBF
/- Layer 9: Drop. -/
namespace Go.Proofs.Ytcpifanhmkblmaa
set_option maxRecDepth 100000
set_option maxRecDepth 100000
open Go.RowKit

/-- While a transaction's tables go: S are there yet, left is still to come. -/
structure DropI (w wz : World) (r mb most : Nat) (X : List Tx9) (t : Int) (b it : Nat) (Y : List Tx9) (S : List Tb9) (left : List (ByteArray × Value)) : Prop where
  mem : Mem9 NoE wz r mb most (flatX (lessX t b S Y)).length (lessX t b S Y)
  rng : RangeM KS wz b it (tabT S) left
  all : ∀ q ∈ S, (q.1, q.2.1) ∈ left
  bl : ∀ k, BlX r mb (lessX t b S Y) k → BlX r mb X k
  out : Out (BlX r mb X) w wz
  len : (flatX (lessX t b S Y)).length ≤ 70000
theorem drop_none {X : List Tx9} {t : Int} (h : ∀ e ∈ X, e.1 ≠ t) : dropP (flatX X) t = flatX X := List.filter_eq_self.2 fun n hn => by
  obtain ⟨e, he, q, hq, z, hz, rfl⟩ := mem_flatX.1 hn
  simp [h e he]
theorem drop_tx {t : Int} {b : Nat} {T : List Tb9} {Y : List Tx9} (h : ∀ e ∈ Y, e.1 ≠ t) : dropP (flatX ((t, b, T) :: Y)) t = flatX Y := by
  have h2 := drop_none h
  unfold dropP at *
  rw [flatX_cons, List.filter_append, h2]
  simp only
  rw [List.filter_eq_nil_iff.2 fun n hn => ?_]
  · rfl
  · unfold flatT at hn
    simp only [List.mem_flatMap, List.mem_map] at hn
    obtain ⟨q, hq, z, hz, rfl⟩ := hn
    simp
theorem getM_delM {κ : Type} [DecidableEq κ] (hs : List (κ × Value)) (x : κ) : getM (delM hs x) x = none := by rw [getM_del, if_pos rfl]
/-- One table goes. -/
theorem DropI.next {w wz wn w' : World} {r mb most : Nat} {X : List Tx9} {t : Int} {b it : Nat} {Y : List Tx9} {S S' : List Tb9} {left left' : List (ByteArray × Value)} {q : Tb9} (I : DropI w wz r mb most X t b it Y S left) (hq : S.Perm (q :: S')) (hg : wz.grownBy wn (some it)) (hit : w.heap.size ≤ it)
    (ti : TakeIs wn w' r mb most ((t, b, q :: S') :: Y) t q.1 (lessX t b S' Y)) (hr : RangeM KS w' b it (tabT S') left') (hall : ∀ q ∈ S', (q.1, q.2.1) ∈ left') (hlt : ∀ k, BlX r mb X k → k < w.heap.size) : DropI w w' r mb most X t b it Y S' left' := by
  have hne : S ≠ [] := fun e => by rw [e] at hq; exact absurd hq.symm.eq_nil (by simp)
  have hlx : lessX t b S Y = (t, b, S) :: Y := by unfold lessX; rw [if_neg hne]
  have hbl : ∀ k, BlX r mb ((t, b, q :: S') :: Y) k → BlX r mb X k := fun k hk => I.bl k (by rw [hlx]; exact (bl_permT hq k).2 hk)
  refine ⟨ti.mem, hr, hall, fun k hk => hbl k (ti.bl k hk), ?_, ?_⟩
  · have o1 : Out (BlX r mb X) w wn := I.out.grown hg fun k e => .inr (by have := Option.some.inj e; omega)
    exact o1.then (ti.out.mono fun k _ hk => hbl k hk)
  · have h1 := ti.flat.length_eq
    have h2 := List.length_filter_le (notP t q.1) (flatX ((t, b, q :: S') :: Y))
    have h3 := I.len
    rw [hlx, (flat_permT hq).length_eq] at h3
    omega
def DropRes (w : World) (r mb most : Nat) (X : List Tx9) (c : Int) (M : List Nt) (e : Ending) (w' : World) : Prop := e = .returned (.int .i64 c) ∧ ∃ X', NoteIs w w' r mb most X M X'
set_option maxHeartbeats 8000000 in
theorem wpDrop9 {w : World} {r mb most : Nat} {X : List Tx9} (h : Mem9 NoE w r mb most (flatX X).length X) (hm1 : 1 ≤ most) (hl : (flatX X).length ≤ 65536) (t : Int) (ht : (Lit.int .i64 t).wf = true) :
    Calls Try.prog 14 #[.pointer (some ⟨r, 0, none⟩), .int .i64 t] w (DropRes w r mb most X (if t < 1 then 1 else 0) (if t < 1 then flatX X else dropP (flatX X) t)) := by
  have hR : RBlk w r mb most _ := h.blk
  have CM := Lib.hid (wpMade hR hm1)
  have c2 := hR.cells.2.2.1
  have hM := Lib.hid h
  by_cases ht1 : t < 1
  · rw [if_pos ht1, if_pos ht1]
    clear h hR
    go_enter Try.func14, Try.ntmps14
    go_wp2_with (go_at_call 32; go_loud (refine CM.out.mono ?_; rintro e w1 ⟨rfl, hw⟩; replace hw := hw.symm; subst hw))
    go_ret
    exact ⟨rfl, X, note_same hM.out (Below.refl _ _)⟩
  · rw [if_neg ht1, if_neg ht1]
    obtain ⟨a⟩ := at9 h.once (fun e he => h.onceT he) t ⟨#[]⟩
    have hcase : (∀ e ∈ X, e.1 ≠ t) ∨ ∃ b T Y, X.Perm ((t, b, T) :: Y) ∧ ∀ e ∈ Y, e.1 ≠ t := by
      rcases a with hY | ⟨b, T, Y, hX, hY, hS⟩ | ⟨b, v0, ls0, S, T, Y, hX, hY, hT, hS⟩
      · exact .inl hY
      · exact .inr ⟨b, T, Y, hX, hY⟩
      · exact .inr ⟨b, T, Y, hX, hY⟩
    have qT := h.top.lookTop ht
    rcases hcase with hY | ⟨b, T, Y, hX, hY⟩
    · rw [getM_topN hY] at qT
      simp only [Option.getD_none] at qT
      have HD := Lib.hid (drop_none hY)
      have hrg := run_range_nilMap (P := Try.prog) w 68 9 67 Try.underlying68
      have hnx : ∀ ty, (Instr.next (.pointer (some ⟨w.heap.size, 0, none⟩)) false ty).run Try.prog (w.alloc (.mapIter none 0 #[] 0)) = _ := fun ty => run_next_nilMap w ty 0 0 #[]
      clear h hR a hY
      go_enter Try.func14, Try.ntmps14
      go_wp2_with (go_at_call 32; go_loud (refine CM.out.mono ?_; rintro e w1 ⟨rfl, hw⟩; replace hw := hw.symm; subst hw))
      refine wp_loop_rounds 1 ?_
      rw [rounds_succ]
      go_wp2
      go_ret
      exact ⟨rfl, X, by rw [HD.out]; exact note_same hM.out (below_alloc9 _ _)⟩
    · have hXl := flatX_perm hX
      have hmem := List.mem_cons_self (a := (t, b, T)) (l := Y)
      have h2 : Mem9 NoE w r mb most (flatX ((t, b, T) :: Y)).length ((t, b, T) :: Y) := by rw [← hXl.length_eq]; exact h.perm hX
      have hne := (h2.ne _ hmem).1
      have hlx : lessX t b T Y = (t, b, T) :: Y := by unfold lessX; rw [if_neg hne]
      rw [getM_top h.top.once (hX.mem_iff.2 hmem)] at qT
      simp only [Option.getD_some] at qT
      have HTab := Lib.hid (h2.tab _ hmem)
      have HX := Lib.hid hX
      have HY := Lib.hid hY
      have HN := Lib.hid (And.intro hne hl)
      have HLX := Lib.hid hlx
      have HM2 := Lib.hid h2
      have HT := Lib.hid ht
      have HDX := Lib.hid (show (flatX Y).Perm (dropP (flatX X) t) from by
        have := (drop_perm hXl t).symm
        rw [drop_tx hY] at this
        exact this)
      clear h hR a hX hXl hmem h2 hne hY hl ht
      go_enter Try.func14, Try.ntmps14
      go_upto_region 6 with (first
        | (go_at_call 32; go_loud (refine CM.out.mono ?_; rintro e w1 ⟨rfl, hw⟩; replace hw := hw.symm; subst hw))
        | (at_range; go_loud (refine wp_rangeM KS (by rfl) (.tmp 16) (by rfl) (by rfl) HTab.out Try.underlying68 ?_; intro w2 g2 b2 s2; have G2 := Lib.hid g2; have B2 := Lib.hid b2; clear g2 b2 s2)))
      have BW := Lib.hid (grown_none B2.out (Nat.le_refl _))
      have START := Lib.hid (show DropI w w2 r mb most X t b w.heap.size Y T (tabT T) from
        ⟨by rw [hlx]; exact HM2.out.gw BW.out, G2.out, fun q hq => List.mem_map.2 ⟨q, hq, rfl⟩, fun k hk => by rw [hlx] at hk; exact (bl_perm HX.out.symm k).1 hk, Out.of_below BW.out _, by rw [hlx, ← (flatX_perm HX.out).length_eq]; have := HN.out.2; omega⟩)
      clear c2 qT hlx
      try go_frame
      go_loopw [] (fun wz => ∃ (S : List Tb9) (left : List (ByteArray × Value)), DropI w wz r mb most X t b w.heap.size Y S left) (fun wz => wz.rangeLeft b w.heap.size)
      case atStart => exact ⟨T, tabT T, START.out⟩
      case round =>
        rename World => wz
        obtain ⟨S, left, o⟩ := hrel
        have I := Lib.hid o
        clear o
        go_upto_region 8 with (at_next; go_loud (refine wp_nextS (by rfl) (.tmp 17) (by rfl) w.heap.size left (by rfl) I.out.rng ?_ ?_))
        · intro hnil
          subst hnil
          have HS := Lib.hid (show S = [] from List.eq_nil_iff_forall_not_mem.2 fun q hq => by have := I.out.all q hq; simp at this)
          have HLS := Lib.hid (show lessX t b S Y = Y by unfold lessX; rw [if_pos HS.out])
          go_wp2
          go_ret
          refine ⟨rfl, Y, ?_, HDX.out, fun k hk => .inl (I.out.bl k (by rw [HLS.out]; exact hk)), I.out.out⟩
          have := I.out.mem
          rw [HLS.out] at this
          exact this
        · intro tb u wn hin hok hr2 hg2 hsz hlt hen
          obtain ⟨q, hq, e2⟩ := List.mem_map.1 (I.out.rng.sub _ hin)
          simp only [Prod.mk.injEq] at e2
          obtain ⟨rfl, rfl⟩ := e2
          have hS0 : S ≠ [] := fun e => by rw [e] at hq; cases hq
          have hlx2 : lessX t b S Y = (t, b, S) :: Y := by unfold lessX; rw [if_neg hS0]
          have hI := I.out.mem
          have hIl := I.out.len
          rw [hlx2] at hI hIl
          have honce := hI.onceT (List.mem_cons_self (a := (t, b, S)) (l := Y))
          have hperm := perm_front (·.1) honce hq
          obtain ⟨S', hS'⟩ : ∃ S', S.filter (fun x => !decide (x.1 = q.1)) = S' := ⟨_, rfl⟩
          have hSn : ∀ f ∈ S', f.1 ≠ q.1 := fun f hf => by rw [← hS'] at hf; simpa using (List.mem_filter.1 hf).2
          rw [hS'] at hperm
          have hltb := hM.out.lt
          have hIn : Mem9 NoE wn r mb most (flatX ((t, b, S) :: Y)).length ((t, b, S) :: Y) := hI.kept fun k hk => hg2.block k (hI.lt k hk) (fun e => by have := Option.some.inj e; have := hltb k (I.out.bl k (by rw [hlx2]; exact hk)); omega)
          have hfp := (flat_permT (t := t) (b := b) (Y := Y) hperm).length_eq
          have hIn2 := hIn.permT hperm
          rw [hfp] at hIn2 hIl
          have hrn := hr2.perm (show (tabT S).Perm (tabT (q :: S')) from hperm.map _)
          have hrlt := hM.out.top.lt
          have htlt := HTab.out.lt
          have hR0 : RBlk w r mb most _ := hM.out.blk
          have CT := Lib.hid (wpTakeR9 (tb := q.1) (v0 := q.2.1) (ls0 := q.2.2) (S := S') (Y := Y) (t := t) (b := b) hIn2 hIl HT.out hok HY.out hSn (it := w.heap.size) (left := delM left q.1) hrn (getM_delM left q.1) ⟨by have := hR0.lt; omega, by omega, by omega⟩)
          have NX := Lib.hid (fun (w' : World) (ti : TakeIs wn w' r mb most ((t, b, q :: S') :: Y) t q.1 (lessX t b S' Y)) (hr : RangeM KS w' b w.heap.size (tabT S') (delM left q.1)) => I.out.next hperm hg2 (Nat.le_refl _) ti hr (fun f hf => mem_delM.2 ⟨I.out.all f (hperm.mem_iff.2 (List.mem_cons_of_mem _ hf)), hSn f hf⟩) hltb)
          have HLT := Lib.hid hlt
          clear hin hok hr2 hg2 hsz hlt hS0 hlx2 hI hIl honce hperm hS' hSn hltb hIn hfp hIn2 hrn hq hrlt htlt hR0
          go_wp2_with (go_at_call 38; go_loud (refine CT.out.mono ?_; rintro e w5 ⟨rfl, ti, hr5, hi5, hl5, o5⟩; have N5 := Lib.hid (NX.out w5 ti hr5); have L5 := Lib.hid hl5; clear ti hr5 hi5 hl5 o5))
          go_roundw
          case rel => exact ⟨S', delM left q.1, N5.out⟩
          case measure => exact Nat.lt_of_le_of_lt L5.out HLT.out
end Go.Proofs.Ytcpifanhmkblmaa

/- Layer 9, plain: the transactions that are asked for, as they are gone through. -/
namespace Go.Proofs.Ytcpifanhmkblmaa
set_option maxRecDepth 100000
set_option maxRecDepth 100000
open Go.RowKit

/-- What has been collected: of those transactions that are not to come. -/
structure ColJ (X : List Tx9) (f : Tx9 → Bool) (zs : List Int) (left : List (Int × Value)) : Prop where
  nd : zs.Nodup
  mem : ∀ y, y ∈ zs ↔ ∃ e ∈ X, e.1 = y ∧ (∀ v, (e.1, v) ∉ left) ∧ f e = true
  len : zs.length + left.length ≤ X.length
theorem ColJ.start (X : List Tx9) (f : Tx9 → Bool) : ColJ X f [] (topX X) := ⟨List.nodup_nil, fun y => ⟨fun h => (by cases h), fun ⟨e, he, _, h, _⟩ => absurd (List.mem_map.2 ⟨e, he, rfl⟩) (h _)⟩, by simp [topX]⟩
theorem ColJ.skip {X : List Tx9} {f : Tx9 → Bool} {zs : List Int} {left : List (Int × Value)} (h : ColJ X f zs left) (hX : (X.map (·.1)).Nodup) (ho : OnceM left) {e : Tx9} (he : e ∈ X) {v : Value} (hl : (e.1, v) ∈ left) (hf : f e = false) : ColJ X f zs (delM left e.1) := by
  refine ⟨h.nd, fun y => ?_, by have := del_len ho hl; have := h.len; omega⟩
  rw [h.mem]
  constructor
  · rintro ⟨g, hg, e1, h1, h2⟩; exact ⟨g, hg, e1, fun u hu => h1 u (mem_delM.1 hu).1, h2⟩
  · rintro ⟨g, hg, e1, h1, h2⟩
    by_cases e3 : g.1 = e.1
    · have := tx_eq hX hg he e3
      rw [this, hf] at h2; cases h2
    · exact ⟨g, hg, e1, fun u hu => h1 u (mem_delM.2 ⟨hu, e3⟩), h2⟩
theorem ColJ.take {X : List Tx9} {f : Tx9 → Bool} {zs : List Int} {left : List (Int × Value)} (h : ColJ X f zs left) (hX : (X.map (·.1)).Nodup) (ho : OnceM left) {e : Tx9} (he : e ∈ X) {v : Value} (hl : (e.1, v) ∈ left) (hf : f e = true) : ColJ X f (zs ++ [e.1]) (delM left e.1) := by
  refine ⟨?_, fun y => ?_, by have := del_len ho hl; have := h.len; simp; omega⟩
  · refine List.nodup_append.2 ⟨h.nd, by simp, fun a ha b hb => ?_⟩
    rw [List.mem_singleton.1 hb]
    rintro rfl
    obtain ⟨g, hg, e1, h1, -⟩ := (h.mem _).1 ha
    exact h1 v (by rw [e1]; exact hl)
  · rw [List.mem_append, h.mem, List.mem_singleton]
    constructor
    · rintro (⟨g, hg, e1, h1, h2⟩ | rfl)
      · exact ⟨g, hg, e1, fun u hu => h1 u (mem_delM.1 hu).1, h2⟩
      · exact ⟨e, he, rfl, fun u hu => (mem_delM.1 hu).2 rfl, hf⟩
    · rintro ⟨g, hg, e1, h1, h2⟩
      by_cases e3 : g.1 = e.1
      · exact .inr (e1.symm.trans e3)
      · exact .inl ⟨g, hg, e1, fun u hu => h1 u (mem_delM.2 ⟨hu, e3⟩), h2⟩
/-- Sorted, they are what is asked for. -/
theorem ColJ.ends {X : List Tx9} {f : Tx9 → Bool} {zs : List Int} (h : ColJ X f zs []) {g : Nt → Bool} (hg : ∀ e ∈ X, f e = true ↔ ∃ q ∈ e.2.2, ∃ z ∈ q.2.2, g (e.1, z.2) = true) : (zs.mergeSort fun x y => decide (x ≤ y)) = txP (flatX X) g := by
  have hp := List.mergeSort_perm zs (fun x y => decide (x ≤ y))
  refine tx_unique ?_ fun y => ?_
  · have h1 := List.pairwise_mergeSort (le := fun x y : Int => decide (x ≤ y)) (fun a b c h1 h2 => by simp at *; omega) (fun a b => by simp; omega) zs
    have h2 := hp.nodup_iff.2 h.nd
    rw [List.nodup_iff_pairwise_ne] at h2
    refine (List.Pairwise.and h1 h2).imp ?_
    rintro a b ⟨h3, h4⟩
    unfold ltN
    simp at h3 ⊢
    omega
  · rw [hp.mem_iff, h.mem]
    constructor
    · rintro ⟨e, he, rfl, -, hf⟩
      obtain ⟨q, hq, z, hz, h1⟩ := (hg e he).1 hf
      exact ⟨_, mem_flatX.2 ⟨e, he, q, hq, z, hz, rfl⟩, h1, rfl⟩
    · rintro ⟨n, hn, h1, rfl⟩
      obtain ⟨e, he, q, hq, z, hz, rfl⟩ := mem_flatX.1 hn
      exact ⟨e, he, rfl, by simp, (hg e he).2 ⟨q, hq, z, hz, h1⟩⟩
/-- A note of one key. -/
def keyR (t k : ByteArray) : Rd := ⟨t, 1, k, ⟨#[]⟩⟩
theorem may_key (t k : ByteArray) : mayP (keyR t k) = true := by unfold keyR; rw [may_1]; simp [ByteArray.toList_eq]
theorem covers_key {y : Rd} (h : mayP y = true) (t k : ByteArray) : coversP y (keyR t k) = hasP y t k := by
  rw [has_ends h]
  unfold coversP
  rw [h, may_key]
  have he : endsP (keyR t k) = (k, k ++ ⟨#[0]⟩, true) := rfl
  rw [he]
  simp only [Bool.true_and, keyR]
  rw [klB_zero]
  simp [Bool.and_assoc]
/-- Whether a transaction has a key. -/
def readsJ (t k : ByteArray) (e : Tx9) : Bool := e.2.2.any fun q => decide (q.1 = t) && coverP (q.2.2.map (·.2)) (keyR t k)
theorem reads_is {w : World} {r mb most : Nat} {cnt : Int} {X : List Tx9} (h : Mem9 NoE w r mb most cnt X) (t k : ByteArray) : ∀ e ∈ X, readsJ t k e = true ↔ ∃ q ∈ e.2.2, ∃ z ∈ q.2.2, hasP z.2 t k = true := fun e he => by
  unfold readsJ
  rw [List.any_eq_true]
  constructor
  · rintro ⟨q, hq, hc⟩
    simp only [Bool.and_eq_true, decide_eq_true_eq] at hc
    obtain ⟨rfl, hc⟩ := hc
    have ho := (h.ok e he q hq).ord
    rw [cover_any ho (may_key q.1 k) rfl] at hc
    obtain ⟨y, hy, hc⟩ := List.any_eq_true.1 hc
    obtain ⟨z, hz, rfl⟩ := List.mem_map.1 hy
    exact ⟨q, hq, z, hz, by rw [← covers_key (ho.may _ hy).1]; exact hc⟩
  · rintro ⟨q, hq, z, hz, hh⟩
    have ho := (h.ok e he q hq).ord
    have hy : z.2 ∈ q.2.2.map (·.2) := List.mem_map.2 ⟨z, hz, rfl⟩
    have hq1 : q.1 = t := by
      have h1 := (ho.may _ hy).2
      unfold hasP at hh
      rw [toList_beq8] at hh
      simp only [Bool.and_eq_true, decide_eq_true_eq] at hh
      rw [← h1]; exact hh.1
    refine ⟨q, hq, ?_⟩
    simp only [Bool.and_eq_true, decide_eq_true_eq]
    refine ⟨hq1, ?_⟩
    subst hq1
    rw [cover_any ho (may_key q.1 k) rfl]
    exact List.any_eq_true.2 ⟨z.2, hy, by rw [covers_key (ho.may _ hy).1]; exact hh⟩
/-- A table of a transaction, as it is looked up. -/
theorem tab_look {w w' : World} {r mb most : Nat} {cnt : Int} {X : List Tx9} (h : Mem9 NoE w r mb most cnt X) (hl : (flatX X).length ≤ 65536) (hb : Below w.heap.size w w') {e : Tx9} (he : e ∈ X) (t k : ByteArray) (ht : t.size ≤ maxLen) :
    ∃ sv ls, (Instr.lookup 68 (.map (some e.2.1)) (.string t) false).run Try.prog w' = .ok sv w' ∧ NL w' sv ls ∧ ls.length ≤ 100000 ∧ ((ls.map (·.2)).Pairwise fun a b => klB b.lo a.lo = false) ∧ (∀ q ∈ ls, q.2.lo.size ≤ 140737488355328) ∧ coverP (ls.map (·.2)) (keyR t k) = readsJ t k e := by
  have hM := (h.tab e he).block (hb.block _ (h.tab e he).lt)
  have hlook := hM.lookTab ht
  by_cases hq : ∃ q ∈ e.2.2, q.1 = t
  · obtain ⟨q, hq, rfl⟩ := hq
    rw [getM_tab (h.tab e he).once hq] at hlook
    have ho := h.ok e he q hq
    have h1 := len_in he
    have h2 := len_own (t := e.1) hq
    refine ⟨q.2.1, q.2.2, hlook, (h.lst e he q hq id).gw hb, by omega, ho.ord.weak, ho.sz, ?_⟩
    unfold readsJ
    cases hc : coverP (q.2.2.map (·.2)) (keyR q.1 k) with
    | true => exact (List.any_eq_true.2 ⟨q, hq, by simp [hc]⟩).symm
    | false =>
      refine (List.any_eq_false.2 fun f hf => ?_).symm
      by_cases e1 : f.1 = q.1
      · have := tb_eq (h.onceT he) hf hq e1
        subst this
        simp [hc]
      · simp [e1]
  · have hn : ∀ q ∈ e.2.2, q.1 ≠ t := fun q hq2 e1 => hq ⟨q, hq2, e1⟩
    rw [getM_tabN hn] at hlook
    refine ⟨.slice none 0 0, [], hlook, NL.nil w', by simp, by simp, by simp, ?_⟩
    unfold readsJ
    refine Eq.trans ?_ (List.any_eq_false.2 fun f hf => by simp [hn f hf]).symm
    rfl
end Go.Proofs.Ytcpifanhmkblmaa
