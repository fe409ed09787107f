/- Layer 9: put, told of all the notes. -/
import Derived.Test.YtcpifanhmkblmaaJBA
namespace Go.Proofs.Ytcpifanhmkblmaa
set_option maxRecDepth 100000
set_option maxRecDepth 100000
open Go.RowKit

theorem r_row {w : World} {r mb most : Nat} {cnt : Int} (h : RBlk w r mb most cnt) {g c : Nat} {cur : List Value} (hr : Rw w g c cur) : g ≠ r := by
  rintro rfl
  have h2 := hr.heap.1
  unfold RBlk at h
  rw [h] at h2
  exact absurd (Obj.cells.inj (Option.some.inj h2)).2.1 (by decide)
theorem r_rd {w : World} {r mb most : Nat} {cnt : Int} (h : RBlk w r mb most cnt) {p : Nat} {x : Rd} (hr : RdAt w p x) : p ≠ r := by
  rintro rfl
  unfold RdAt at hr
  unfold RBlk at h
  rw [h] at hr
  exact absurd (Obj.cells.inj (Option.some.inj hr)).2.1 (by decide)
theorem NL.apart_r {w : World} {r mb most : Nat} {cnt : Int} (h : RBlk w r mb most cnt) {v : Value} {ls : List (Nat × Rd)} (hN : NL w v ls) : v.ownBlock ≠ some r ∧ ∀ z ∈ ls, z.1 ≠ r := by
  refine ⟨fun e => ?_, fun z hz => r_rd h (hN.rd z hz)⟩
  rcases hN.pv with ⟨rfl, -⟩ | ⟨g, c, cur, rfl, h1, -⟩
  · cases e
  · exact r_row h h1 (Option.some.inj e)
theorem NL.apart_m {κ : Type} [DecidableEq κ] {k : TypeId} {T : KT κ k} {w : World} {b : Nat} {hs : List (κ × Value)} (h : MapM T w b hs) {v : Value} {ls : List (Nat × Rd)} (hN : NL w v ls) : v.ownBlock ≠ some b ∧ ∀ z ∈ ls, z.1 ≠ b := by
  refine ⟨fun e => ?_, fun z hz => h.no (hN.rd z hz)⟩
  rcases hN.pv with ⟨rfl, -⟩ | ⟨g, c, cur, rfl, h1, -⟩
  · cases e
  · exact h.no h1.heap.1 (Option.some.inj e)
section
variable {E : Int → ByteArray → Prop} {w w' : World} {r mb most : Nat} {cnt : Int} {X Y : List Tx9} {t : Int} {b : Nat} {tb : ByteArray}
/-- What no change of one transaction's map touches. -/
theorem Mem9.sep {T : List Tb9} (h : Mem9 E w r mb most cnt ((t, b, T) :: Y)) (hE : ∀ e ∈ Y, ∀ q ∈ e.2.2, ¬ E e.1 q.1) : ∀ k, (k = mb ∨ ∃ e ∈ Y, k = e.2.1 ∨ ∃ q ∈ e.2.2, q.2.1.ownBlock = some k ∨ ∃ z ∈ q.2.2, k = z.1) → k < w.heap.size ∧ k ≠ r ∧ k ≠ b := by
  have hR : RBlk w r mb most cnt := h.blk
  have hT := h.tab (t, b, T) (List.mem_cons_self ..)
  have hn := h.mbs
  simp only [List.map_cons, List.nodup_cons, List.mem_cons, List.mem_map, not_or, not_exists, not_and] at hn
  rintro k (rfl | ⟨e, he, rfl | ⟨q, hq, hk | ⟨z, hz, rfl⟩⟩⟩)
  · exact ⟨h.top.lt, Ne.symm (h.top.no hR), hn.1.1⟩
  · have he2 := h.tab e (List.mem_cons_of_mem _ he)
    exact ⟨he2.lt, Ne.symm (he2.no hR), hn.2.1 e he⟩
  · have hN := h.lst e (List.mem_cons_of_mem _ he) q hq (hE e he q hq)
    exact ⟨hN.pv.lt k hk, fun e => (hN.apart_r hR).1 (by rw [hk, e]), fun e => (hN.apart_m hT).1 (by rw [hk, e])⟩
  · have hN := h.lst e (List.mem_cons_of_mem _ he) q hq (hE e he q hq)
    exact ⟨(hN.rd z hz).lt, (hN.apart_r hR).2 z hz, (hN.apart_m hT).2 z hz⟩
theorem NL.out_rb {T : List Tb9} (h : Mem9 E w r mb most cnt ((t, b, T) :: Y)) (o : Out (fun k => k = r ∨ k = b) w w') {v : Value} {ls : List (Nat × Rd)} (hN : NL w v ls) : NL w' v ls := by
  have a1 := hN.apart_r (show RBlk w r mb most cnt from h.blk)
  have a2 := hN.apart_m (h.tab (t, b, T) (List.mem_cons_self ..))
  refine hN.kept (fun k hk => o.block k (hN.pv.lt k hk) ?_) fun z hz => o.block _ (hN.rd z hz).lt ?_
  · rintro (rfl | rfl)
    · exact a1.1 hk
    · exact a2.1 hk
  · rintro (e | e)
    · exact a1.2 z hz e
    · exact a2.2 z hz e
theorem flat_filter_at {v : Value} {ls : List (Nat × Rd)} {S : List Tb9} (hok : ∀ q ∈ (tb, v, ls) :: S, TbOk t q) (hS : ∀ q ∈ S, q.1 ≠ tb) (hY : ∀ e ∈ Y, e.1 ≠ t) : (flatX ((t, b, (tb, v, ls) :: S) :: Y)).filter (notP t tb) = flatT t S ++ flatX Y := by
  rw [flatX_cons, List.filter_append, filter_other hY]
  simp only
  rw [flatT_cons, List.filter_append, filter_own (hok _ (List.mem_cons_self ..)), filter_tabs (fun q hq => hok q (List.mem_cons_of_mem _ hq)) hS]
  rfl
theorem flat_filter_tb {T : List Tb9} (hok : ∀ q ∈ T, TbOk t q) (hS : ∀ q ∈ T, q.1 ≠ tb) (hY : ∀ e ∈ Y, e.1 ≠ t) : (flatX ((t, b, T) :: Y)).filter (notP t tb) = flatT t T ++ flatX Y := by
  rw [flatX_cons, List.filter_append, filter_other hY, filter_tabs hok hS]
/-- What put leaves. -/
structure PutIs (w w' : World) (r mb most : Nat) (X : List Tx9) (t : Int) (tb : ByteArray) (g : Nat) (ls : List (Nat × Rd)) (X' : List Tx9) : Prop where
  mem : Mem9 NoE w' r mb most (flatX X').length X'
  flat : (flatX X').Perm ((flatX X).filter (notP t tb) ++ ls.map fun z => (t, z.2))
  out : Out (BlX r mb X) w w'
  bl : ∀ k, BlX r mb X' k → BlX r mb X k ∨ w.heap.size ≤ k ∨ k = g ∨ ∃ z ∈ ls, k = z.1
theorem PutIs.perm {X0 X' : List Tx9} {g : Nat} {ls : List (Nat × Rd)} (h : PutIs w w' r mb most X0 t tb g ls X') (hf : (flatX X0).Perm (flatX X)) (hb : ∀ k, BlX r mb X0 k ↔ BlX r mb X k) : PutIs w w' r mb most X t tb g ls X' :=
  ⟨h.mem, h.flat.trans ((hf.filter _).append_right _), h.out.mono fun k _ hk => (hb k).1 hk, fun k hk => (h.bl k hk).imp (hb k).1 id⟩
theorem bl_perm {X0 : List Tx9} (h : X0.Perm X) (k : Nat) : BlX r mb X0 k ↔ BlX r mb X k := by
  unfold BlX
  simp only [h.mem_iff]
theorem bl_permT {T U : List Tb9} (h : T.Perm U) (k : Nat) : BlX r mb ((t, b, T) :: Y) k ↔ BlX r mb ((t, b, U) :: Y) k := by
  unfold BlX
  simp only [List.mem_cons, exists_eq_or_imp, h.mem_iff]
theorem flat_permT {T U : List Tb9} (h : T.Perm U) : (flatX ((t, b, T) :: Y)).Perm (flatX ((t, b, U) :: Y)) := by
  rw [flatX_cons, flatX_cons]
  exact (flatT_perm h).append_right _
theorem wpPut9_at {v0 : Value} {ls0 : List (Nat × Rd)} {S : List Tb9} {X : List Tx9} (hX : X = (t, b, (tb, v0, ls0) :: S) :: Y) (h : Mem9 E w r mb most (flatX X).length X) (hl : (flatX X).length ≤ 70000) (hE : ∀ a c, E a c → a = t ∧ c = tb) (ht : (Lit.int .i64 t).wf = true) (htb : tb.size ≤ maxLen) {g c : Nat} {ls : List (Nat × Rd)} (hls : ls.length ≤ 70000)
    (hN : NL w (.slice (some ⟨g, 0, none⟩) ls.length c) ls) (hok : TbOk t (tb, .slice (some ⟨g, 0, none⟩) ls.length c, ls)) (hfr : ∀ e ∈ X, ∀ q ∈ e.2.2, ¬ (e.1 = t ∧ q.1 = tb) → q.2.1.ownBlock ≠ some g)
    (hY : ∀ e ∈ Y, e.1 ≠ t) (hS : ∀ q ∈ S, q.1 ≠ tb) :
    Calls Try.prog 35 #[.pointer (some ⟨r, 0, none⟩), .agg #[.int .i64 t, .string tb], .slice (some ⟨g, 0, none⟩) ls.length c] w fun e w' => e = .returned (.tuple #[]) ∧ ∃ X', PutIs w w' r mb most X t tb g ls X' := by
  subst hX
  have hmem := List.mem_cons_self (a := (t, b, (tb, v0, ls0) :: S)) (l := Y)
  have hoks := h.ok _ hmem
  obtain ⟨g0, c0, hv0⟩ := (hoks (tb, v0, ls0) (List.mem_cons_self ..)).hdr
  have htab := h.tab _ hmem
  have hlenT := len_in (X := (t, b, (tb, v0, ls0) :: S) :: Y) hmem
  have hlenS := len_tb (t := t) (T := (tb, v0, ls0) :: S) fun q hq => (hoks q hq).ne
  have hlen0 := len_own (t := t) (T := (tb, v0, ls0) :: S) (List.mem_cons_self ..)
  have hne : ∀ e ∈ Y, ∀ q ∈ e.2.2, ¬ E e.1 q.1 := fun e he q _ hE2 => hY e he (hE _ _ hE2).1
  have hfl : ((flatX ((t, b, (tb, v0, ls0) :: S) :: Y)).length : Int) = ls0.length + ((flatT t S).length + (flatX Y).length) := by
    rw [flatX_cons]
    simp only [flatT_cons, List.length_append, List.length_map]
    omega
  have hfl2 : ((flatX ((t, b, (tb, .slice (some ⟨g, 0, none⟩) ls.length c, ls) :: S) :: Y)).length : Int) = ls.length + ((flatT t S).length + (flatX Y).length) := by
    rw [flatX_cons]
    simp only [flatT_cons, List.length_append, List.length_map]
    omega
  simp only at hlenT hlenS hlen0
  have hlt : (tabT ((tb, v0, ls0) :: S)).length = ((tb, v0, ls0) :: S).length := by unfold tabT; rw [List.length_map]
  refine (wpPutIn (show RBlk w r mb most _ from h.blk) h.top ht (getM_top h.top.once hmem) htab htb (by rw [hlt]; omega) (A0 := some ⟨g0, 0, none⟩) (n0 := ls0.length) (c0 := c0) (by rw [getM_tab htab.once (q := (tb, v0, ls0)) (List.mem_cons_self ..)]; exact hv0) (by omega) (by omega) ⟨by omega, by omega⟩).mono ?_
  rintro e w' ⟨rfl, hR', hM', o⟩
  have hsep := h.sep hne
  have hbk := htab.lt
  have hrk := (show RBlk w r mb most _ from h.blk).lt
  have hM2 : MapM KS w' b (tabT ((tb, .slice (some ⟨g, 0, none⟩) ls.length c, ls) :: S)) := by
    refine hM'.perm ?_
    unfold putM
    simp only
    rw [delM_tab_cons hS]
    exact (List.perm_append_singleton _ _)
  have hrows := h.rows
  unfold rowsX at hrows
  rw [List.flatMap_cons] at hrows
  simp only [List.map_cons, List.cons_append, List.nodup_cons] at hrows
  have hrow : (((tb, .slice (some ⟨g, 0, none⟩) ls.length c, ls) :: S).map (·.2.1.ownBlock) ++ rowsX Y).Nodup := by
    simp only [List.map_cons, List.cons_append, List.nodup_cons]
    refine ⟨fun hm => ?_, hrows.2⟩
    rcases List.mem_append.1 hm with hm | hm
    · obtain ⟨q, hq, e⟩ := List.mem_map.1 hm
      exact hfr _ hmem q (List.mem_cons_of_mem _ hq) (fun ⟨_, e2⟩ => hS q hq e2) e
    · unfold rowsX at hm
      simp only [List.mem_flatMap, List.mem_map] at hm
      obtain ⟨e, he, q, hq, e1⟩ := hm
      exact hfr e (List.mem_cons_of_mem _ he) q hq (fun ⟨e2, _⟩ => hY e he e2) e1
  have hnew := h.turn (U := (tb, .slice (some ⟨g, 0, none⟩) ls.length c, ls) :: S) (w' := w') (c := ((flatX ((t, b, (tb, .slice (some ⟨g, 0, none⟩) ls.length c, ls) :: S) :: Y)).length : Int)) (by rw [hfl2]; rw [hfl] at hR'; rw [show (ls.length : Int) + ((flatT t S).length + (flatX Y).length) = ls0.length + ((flatT t S).length + (flatX Y).length) + (ls.length - ls0.length) by omega]; exact hR') hM2 (by simp)
    (fun q hq => by
      rcases List.mem_cons.1 hq with rfl | hq
      · exact hok
      · exact hoks q (List.mem_cons_of_mem _ hq))
    (fun q hq => by
      rcases List.mem_cons.1 hq with rfl | hq
      · exact NL.out_rb h o hN
      · exact NL.out_rb h o (h.lst _ hmem q (List.mem_cons_of_mem _ hq) fun hE2 => hS q hq (hE _ _ hE2).2))
    hne (fun k hk => by obtain ⟨a1, a2, a3⟩ := hsep k hk; exact o.block k a1 (by rintro (rfl | rfl); exact a2 rfl; exact a3 rfl)) hrow
  refine ⟨rfl, _, hnew, ?_, o.mono fun k _ hk => ?_, fun k hk => ?_⟩
  · rw [flat_filter_at hoks hS hY, flatX_cons]
    simp only [flatT_cons]
    rw [List.append_assoc]
    exact List.perm_append_comm
  · rcases hk with rfl | rfl
    · exact .inl rfl
    · exact .inr (.inr ⟨_, hmem, .inl rfl⟩)
  · rcases hk with rfl | rfl | ⟨e, he, hk⟩
    · exact .inl (.inl rfl)
    · exact .inl (.inr (.inl rfl))
    · rcases List.mem_cons.1 he with rfl | he
      · rcases hk with rfl | ⟨q, hq, hk⟩
        · exact .inl (.inr (.inr ⟨_, hmem, .inl rfl⟩))
        · rcases List.mem_cons.1 hq with rfl | hq
          · rcases hk with hk | ⟨z, hz, rfl⟩
            · exact .inr (.inr (.inl (Option.some.inj hk).symm))
            · exact .inr (.inr (.inr ⟨z, hz, rfl⟩))
          · exact .inl (.inr (.inr ⟨_, hmem, .inr ⟨q, List.mem_cons_of_mem _ hq, hk⟩⟩))
      · exact .inl (.inr (.inr ⟨e, List.mem_cons_of_mem _ he, hk⟩))
end
end Go.Proofs.Ytcpifanhmkblmaa
