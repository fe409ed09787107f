import Derived.Test.YtknppiebncdjmaaGreatJBB
set_option linter.unusedVariables false
namespace Go.Proofs.YtknppiebncdjmaaGreat
set_option maxRecDepth 100000
open Go.RowKit

theorem r_row {w : World} {r mb most : Nat} {cnt : Int} (h : RBlk w r mb most cnt) {g c : Nat} {cur : List Value} (hr : Rw w g c cur) : g ≠ r := by
  rintro rfl
  have h2 := hr.heap.1
  unfold RBlk at h
  rw [h] at h2
  exact absurd (Obj.cells.inj (Option.some.inj h2)).2.1 (by decide)
theorem r_rd {w : World} {r mb most : Nat} {cnt : Int} (h : RBlk w r mb most cnt) {p : Nat} {x : Rd} (hr : RdAt w p x) : p ≠ r := by
  rintro rfl
  unfold RdAt at hr
  unfold RBlk at h
  rw [h] at hr
  exact absurd (Obj.cells.inj (Option.some.inj hr)).2.1 (by decide)
theorem NL.apart_r {w : World} {r mb most : Nat} {cnt : Int} (h : RBlk w r mb most cnt) {v : Value} {ls : List (Nat × Rd)} (hN : NL w v ls) : v.ownBlock ≠ some r ∧ ∀ z ∈ ls, z.1 ≠ r := by
  refine ⟨fun e => ?_, fun z hz => r_rd h (hN.rd z hz)⟩
  rcases hN.pv with ⟨rfl, -⟩ | ⟨g, c, cur, rfl, h1, -⟩
  · cases e
  · exact r_row h h1 (Option.some.inj e)
theorem NL.apart_m {κ : Type} [DecidableEq κ] {k : TypeId} {T : KT κ k} {w : World} {b : Nat} {hs : List (κ × Value)} (h : MapM T w b hs) {v : Value} {ls : List (Nat × Rd)} (hN : NL w v ls) : v.ownBlock ≠ some b ∧ ∀ z ∈ ls, z.1 ≠ b := by
  refine ⟨fun e => ?_, fun z hz => h.no (hN.rd z hz)⟩
  rcases hN.pv with ⟨rfl, -⟩ | ⟨g, c, cur, rfl, h1, -⟩
  · cases e
  · exact h.no h1.heap.1 (Option.some.inj e)
section
variable {E : Int → ByteArray → Prop} {w w' : World} {r mb most : Nat} {cnt : Int} {X Y : List Tx9} {t : Int} {b : Nat} {tb : ByteArray}
theorem Mem9.sep {T : List Tb9} (h : Mem9 E w r mb most cnt ((t, b, T) :: Y)) (hE : ∀ e ∈ Y, ∀ q ∈ e.2.2, ¬ E e.1 q.1) : ∀ k, (k = mb ∨ ∃ e ∈ Y, k = e.2.1 ∨ ∃ q ∈ e.2.2, q.2.1.ownBlock = some k ∨ ∃ z ∈ q.2.2, k = z.1) → k < w.heap.size ∧ k ≠ r ∧ k ≠ b := by
  have hR : RBlk w r mb most cnt := h.blk
  have hT := h.tab (t, b, T) (List.mem_cons_self ..)
  have hn := h.mbs
  simp only [List.map_cons, List.nodup_cons, List.mem_cons, List.mem_map, not_or, not_exists, not_and] at hn
  rintro k (rfl | ⟨e, he, rfl | ⟨q, hq, hk | ⟨z, hz, rfl⟩⟩⟩)
  · exact ⟨h.top.lt, Ne.symm (h.top.no hR), hn.1.1⟩
  · have he2 := h.tab e (List.mem_cons_of_mem _ he)
    exact ⟨he2.lt, Ne.symm (he2.no hR), hn.2.1 e he⟩
  · have hN := h.lst e (List.mem_cons_of_mem _ he) q hq (hE e he q hq)
    exact ⟨hN.pv.lt k hk, fun e => (hN.apart_r hR).1 (by rw [hk, e]), fun e => (hN.apart_m hT).1 (by rw [hk, e])⟩
  · have hN := h.lst e (List.mem_cons_of_mem _ he) q hq (hE e he q hq)
    exact ⟨(hN.rd z hz).lt, (hN.apart_r hR).2 z hz, (hN.apart_m hT).2 z hz⟩
theorem NL.out_rb {T : List Tb9} (h : Mem9 E w r mb most cnt ((t, b, T) :: Y)) (o : Out (fun k => k = r ∨ k = b) w w') {v : Value} {ls : List (Nat × Rd)} (hN : NL w v ls) : NL w' v ls := by
  have a1 := hN.apart_r (show RBlk w r mb most cnt from h.blk)
  have a2 := hN.apart_m (h.tab (t, b, T) (List.mem_cons_self ..))
  refine hN.kept (fun k hk => o.block k (hN.pv.lt k hk) ?_) fun z hz => o.block _ (hN.rd z hz).lt ?_
  · rintro (rfl | rfl)
    · exact a1.1 hk
    · exact a2.1 hk
  · rintro (e | e)
    · exact a1.2 z hz e
    · exact a2.2 z hz e
theorem flat_filter_at {v : Value} {ls : List (Nat × Rd)} {S : List Tb9} (hok : ∀ q ∈ (tb, v, ls) :: S, TbOk t q) (hS : ∀ q ∈ S, q.1 ≠ tb) (hY : ∀ e ∈ Y, e.1 ≠ t) : (flatX ((t, b, (tb, v, ls) :: S) :: Y)).filter (notP t tb) = flatT t S ++ flatX Y := by
  rw [flatX_cons, List.filter_append, filter_other hY]
  simp only
  rw [flatT_cons, List.filter_append, filter_own (hok _ (List.mem_cons_self ..)), filter_tabs (fun q hq => hok q (List.mem_cons_of_mem _ hq)) hS]
  rfl
theorem flat_filter_tb {T : List Tb9} (hok : ∀ q ∈ T, TbOk t q) (hS : ∀ q ∈ T, q.1 ≠ tb) (hY : ∀ e ∈ Y, e.1 ≠ t) : (flatX ((t, b, T) :: Y)).filter (notP t tb) = flatT t T ++ flatX Y := by
  rw [flatX_cons, List.filter_append, filter_other hY, filter_tabs hok hS]
structure PutIs (w w' : World) (r mb most : Nat) (X : List Tx9) (t : Int) (tb : ByteArray) (g : Nat) (ls : List (Nat × Rd)) (X' : List Tx9) : Prop where
  mem : Mem9 NoE w' r mb most (flatX X').length X'
  flat : (flatX X').Perm ((flatX X).filter (notP t tb) ++ ls.map fun z => (t, z.2))
  out : Out (BlX r mb X) w w'
  bl : ∀ k, BlX r mb X' k → BlX r mb X k ∨ w.heap.size ≤ k ∨ k = g ∨ ∃ z ∈ ls, k = z.1
theorem PutIs.perm {X0 X' : List Tx9} {g : Nat} {ls : List (Nat × Rd)} (h : PutIs w w' r mb most X0 t tb g ls X') (hf : (flatX X0).Perm (flatX X)) (hb : ∀ k, BlX r mb X0 k ↔ BlX r mb X k) : PutIs w w' r mb most X t tb g ls X' :=
  ⟨h.mem, h.flat.trans ((hf.filter _).append_right _), h.out.mono fun k _ hk => (hb k).1 hk, fun k hk => (h.bl k hk).imp (hb k).1 id⟩
theorem bl_perm {X0 : List Tx9} (h : X0.Perm X) (k : Nat) : BlX r mb X0 k ↔ BlX r mb X k := by
  unfold BlX
  simp only [h.mem_iff]
theorem bl_permT {T U : List Tb9} (h : T.Perm U) (k : Nat) : BlX r mb ((t, b, T) :: Y) k ↔ BlX r mb ((t, b, U) :: Y) k := by
  unfold BlX
  simp only [List.mem_cons, exists_eq_or_imp, h.mem_iff]
theorem flat_permT {T U : List Tb9} (h : T.Perm U) : (flatX ((t, b, T) :: Y)).Perm (flatX ((t, b, U) :: Y)) := by
  rw [flatX_cons, flatX_cons]
  exact (flatT_perm h).append_right _
theorem wpPut9_at {v0 : Value} {ls0 : List (Nat × Rd)} {S : List Tb9} {X : List Tx9} (hX : X = (t, b, (tb, v0, ls0) :: S) :: Y) (h : Mem9 E w r mb most (flatX X).length X) (hl : (flatX X).length ≤ 70000) (hE : ∀ a c, E a c → a = t ∧ c = tb) (ht : (Lit.int .i64 t).wf = true) (htb : tb.size ≤ maxLen) {g c : Nat} {ls : List (Nat × Rd)} (hls : ls.length ≤ 70000)
    (hN : NL w (.slice (some ⟨g, 0, none⟩) ls.length c) ls) (hok : TbOk t (tb, .slice (some ⟨g, 0, none⟩) ls.length c, ls)) (hfr : ∀ e ∈ X, ∀ q ∈ e.2.2, ¬ (e.1 = t ∧ q.1 = tb) → q.2.1.ownBlock ≠ some g)
    (hY : ∀ e ∈ Y, e.1 ≠ t) (hS : ∀ q ∈ S, q.1 ≠ tb) :
    Calls Tryz.prog 98 #[.pointer (some ⟨r, 0, none⟩), .agg #[.int .i64 t, .string tb], .slice (some ⟨g, 0, none⟩) ls.length c] w fun e w' => e = .returned (.tuple #[]) ∧ ∃ X', PutIs w w' r mb most X t tb g ls X' := by
  subst hX
  have hmem := List.mem_cons_self (a := (t, b, (tb, v0, ls0) :: S)) (l := Y)
  have hoks := h.ok _ hmem
  obtain ⟨g0, c0, hv0⟩ := (hoks (tb, v0, ls0) (List.mem_cons_self ..)).hdr
  have htab := h.tab _ hmem
  have hlenT := len_in (X := (t, b, (tb, v0, ls0) :: S) :: Y) hmem
  have hlenS := len_tb (t := t) (T := (tb, v0, ls0) :: S) fun q hq => (hoks q hq).ne
  have hlen0 := len_own (t := t) (T := (tb, v0, ls0) :: S) (List.mem_cons_self ..)
  have hne : ∀ e ∈ Y, ∀ q ∈ e.2.2, ¬ E e.1 q.1 := fun e he q _ hE2 => hY e he (hE _ _ hE2).1
  have hfl : ((flatX ((t, b, (tb, v0, ls0) :: S) :: Y)).length : Int) = ls0.length + ((flatT t S).length + (flatX Y).length) := by
    rw [flatX_cons]
    simp only [flatT_cons, List.length_append, List.length_map]
    omega
  have hfl2 : ((flatX ((t, b, (tb, .slice (some ⟨g, 0, none⟩) ls.length c, ls) :: S) :: Y)).length : Int) = ls.length + ((flatT t S).length + (flatX Y).length) := by
    rw [flatX_cons]
    simp only [flatT_cons, List.length_append, List.length_map]
    omega
  simp only at hlenT hlenS hlen0
  have hlt : (tabT ((tb, v0, ls0) :: S)).length = ((tb, v0, ls0) :: S).length := by unfold tabT; rw [List.length_map]
  refine (wpPutIn (show RBlk w r mb most _ from h.blk) h.top ht (getM_top h.top.once hmem) htab htb (by rw [hlt]; omega) (A0 := some ⟨g0, 0, none⟩) (n0 := ls0.length) (c0 := c0) (by rw [getM_tab htab.once (q := (tb, v0, ls0)) (List.mem_cons_self ..)]; exact hv0) (by omega) (by omega) ⟨by omega, by omega⟩).mono ?_
  rintro e w' ⟨rfl, hR', hM', o⟩
  have hsep := h.sep hne
  have hbk := htab.lt
  have hrk := (show RBlk w r mb most _ from h.blk).lt
  have hM2 : MapM KS w' b (tabT ((tb, .slice (some ⟨g, 0, none⟩) ls.length c, ls) :: S)) := by
    refine hM'.perm ?_
    unfold putM
    simp only
    rw [delM_tab_cons hS]
    exact (List.perm_append_singleton _ _)
  have hrows := h.rows
  unfold rowsX at hrows
  rw [List.flatMap_cons] at hrows
  simp only [List.map_cons, List.cons_append, List.nodup_cons] at hrows
  have hrow : (((tb, .slice (some ⟨g, 0, none⟩) ls.length c, ls) :: S).map (·.2.1.ownBlock) ++ rowsX Y).Nodup := by
    simp only [List.map_cons, List.cons_append, List.nodup_cons]
    refine ⟨fun hm => ?_, hrows.2⟩
    rcases List.mem_append.1 hm with hm | hm
    · obtain ⟨q, hq, e⟩ := List.mem_map.1 hm
      exact hfr _ hmem q (List.mem_cons_of_mem _ hq) (fun ⟨_, e2⟩ => hS q hq e2) e
    · unfold rowsX at hm
      simp only [List.mem_flatMap, List.mem_map] at hm
      obtain ⟨e, he, q, hq, e1⟩ := hm
      exact hfr e (List.mem_cons_of_mem _ he) q hq (fun ⟨e2, _⟩ => hY e he e2) e1
  have hnew := h.turn (U := (tb, .slice (some ⟨g, 0, none⟩) ls.length c, ls) :: S) (w' := w') (c := ((flatX ((t, b, (tb, .slice (some ⟨g, 0, none⟩) ls.length c, ls) :: S) :: Y)).length : Int)) (by rw [hfl2]; rw [hfl] at hR'; rw [show (ls.length : Int) + ((flatT t S).length + (flatX Y).length) = ls0.length + ((flatT t S).length + (flatX Y).length) + (ls.length - ls0.length) by omega]; exact hR') hM2 (by simp)
    (fun q hq => by
      rcases List.mem_cons.1 hq with rfl | hq
      · exact hok
      · exact hoks q (List.mem_cons_of_mem _ hq))
    (fun q hq => by
      rcases List.mem_cons.1 hq with rfl | hq
      · exact NL.out_rb h o hN
      · exact NL.out_rb h o (h.lst _ hmem q (List.mem_cons_of_mem _ hq) fun hE2 => hS q hq (hE _ _ hE2).2))
    hne (fun k hk => by obtain ⟨a1, a2, a3⟩ := hsep k hk; exact o.block k a1 (by rintro (rfl | rfl); exact a2 rfl; exact a3 rfl)) hrow
  refine ⟨rfl, _, hnew, ?_, o.mono fun k _ hk => ?_, fun k hk => ?_⟩
  · rw [flat_filter_at hoks hS hY, flatX_cons]
    simp only [flatT_cons]
    rw [List.append_assoc]
    exact List.perm_append_comm
  · rcases hk with rfl | rfl
    · exact .inl rfl
    · exact .inr (.inr ⟨_, hmem, .inl rfl⟩)
  · rcases hk with rfl | rfl | ⟨e, he, hk⟩
    · exact .inl (.inl rfl)
    · exact .inl (.inr (.inl rfl))
    · rcases List.mem_cons.1 he with rfl | he
      · rcases hk with rfl | ⟨q, hq, hk⟩
        · exact .inl (.inr (.inr ⟨_, hmem, .inl rfl⟩))
        · rcases List.mem_cons.1 hq with rfl | hq
          · rcases hk with hk | ⟨z, hz, rfl⟩
            · exact .inr (.inr (.inl (Option.some.inj hk).symm))
            · exact .inr (.inr (.inr ⟨z, hz, rfl⟩))
          · exact .inl (.inr (.inr ⟨_, hmem, .inr ⟨q, List.mem_cons_of_mem _ hq, hk⟩⟩))
      · exact .inl (.inr (.inr ⟨e, List.mem_cons_of_mem _ he, hk⟩))
end
end Go.Proofs.YtknppiebncdjmaaGreat

namespace Go.Proofs.YtknppiebncdjmaaGreat
set_option maxRecDepth 100000
open Go.RowKit

section
variable {E : Int → ByteArray → Prop} {w w' : World} {r mb most : Nat} {cnt : Int} {X Y : List Tx9} {t : Int} {b : Nat} {tb : ByteArray}
theorem wpPut9_tb {T : List Tb9} {X : List Tx9} (hX : X = (t, b, T) :: Y) (h : Mem9 E w r mb most (flatX X).length X) (hl : (flatX X).length ≤ 70000) (hE : ∀ a c, E a c → a = t ∧ c = tb) (ht : (Lit.int .i64 t).wf = true) (htb : tb.size ≤ maxLen) {g c : Nat} {ls : List (Nat × Rd)} (hls : ls.length ≤ 70000)
    (hN : NL w (.slice (some ⟨g, 0, none⟩) ls.length c) ls) (hok : TbOk t (tb, .slice (some ⟨g, 0, none⟩) ls.length c, ls)) (hfr : ∀ e ∈ X, ∀ q ∈ e.2.2, ¬ (e.1 = t ∧ q.1 = tb) → q.2.1.ownBlock ≠ some g)
    (hY : ∀ e ∈ Y, e.1 ≠ t) (hS : ∀ q ∈ T, q.1 ≠ tb) :
    Calls Tryz.prog 98 #[.pointer (some ⟨r, 0, none⟩), .agg #[.int .i64 t, .string tb], .slice (some ⟨g, 0, none⟩) ls.length c] w fun e w' => e = .returned (.tuple #[]) ∧ ∃ X', PutIs w w' r mb most X t tb g ls X' := by
  subst hX
  have hmem := List.mem_cons_self (a := (t, b, T)) (l := Y)
  have hoks := h.ok _ hmem
  have htab := h.tab _ hmem
  have hlenT := len_in (X := (t, b, T) :: Y) hmem
  have hlenS := len_tb (t := t) (T := T) fun q hq => (hoks q hq).ne
  have hne : ∀ e ∈ Y, ∀ q ∈ e.2.2, ¬ E e.1 q.1 := fun e he q _ hE2 => hY e he (hE _ _ hE2).1
  have hfl : ((flatX ((t, b, T) :: Y)).length : Int) = ((flatT t T).length + (flatX Y).length) := by
    rw [flatX_cons]
    simp only [List.length_append]
    omega
  have hfl2 : ((flatX ((t, b, (tb, .slice (some ⟨g, 0, none⟩) ls.length c, ls) :: T) :: Y)).length : Int) = ls.length + ((flatT t T).length + (flatX Y).length) := by
    rw [flatX_cons]
    simp only [flatT_cons, List.length_append, List.length_map]
    omega
  simp only at hlenT hlenS
  have hlt : (tabT T).length = T.length := by unfold tabT; rw [List.length_map]
  refine (wpPutIn (show RBlk w r mb most _ from h.blk) h.top ht (getM_top h.top.once hmem) htab htb (by rw [hlt]; omega) (A0 := none) (n0 := 0) (c0 := 0) (by rw [getM_tabN hS]; rfl) (by omega) (by omega) ⟨by omega, by omega⟩).mono ?_
  rintro e w' ⟨rfl, hR', hM', o⟩
  have hsep := h.sep hne
  have hM2 : MapM KS w' b (tabT ((tb, .slice (some ⟨g, 0, none⟩) ls.length c, ls) :: T)) := by
    refine hM'.perm ?_
    unfold putM
    simp only
    rw [delM_tab hS]
    exact (List.perm_append_singleton _ _)
  have hrows := h.rows
  unfold rowsX at hrows
  rw [List.flatMap_cons] at hrows
  have hrow : (((tb, .slice (some ⟨g, 0, none⟩) ls.length c, ls) :: T).map (·.2.1.ownBlock) ++ rowsX Y).Nodup := by
    simp only [List.map_cons, List.cons_append, List.nodup_cons]
    refine ⟨fun hm => ?_, hrows⟩
    rcases List.mem_append.1 hm with hm | hm
    · obtain ⟨q, hq, e⟩ := List.mem_map.1 hm
      exact hfr _ hmem q hq (fun ⟨_, e2⟩ => hS q hq e2) e
    · unfold rowsX at hm
      simp only [List.mem_flatMap, List.mem_map] at hm
      obtain ⟨e, he, q, hq, e1⟩ := hm
      exact hfr e (List.mem_cons_of_mem _ he) q hq (fun ⟨e2, _⟩ => hY e he e2) e1
  have hnew := h.turn (U := (tb, .slice (some ⟨g, 0, none⟩) ls.length c, ls) :: T) (w' := w') (c := ((flatX ((t, b, (tb, .slice (some ⟨g, 0, none⟩) ls.length c, ls) :: T) :: Y)).length : Int)) (by rw [hfl2]; rw [hfl] at hR'; rw [show (ls.length : Int) + ((flatT t T).length + (flatX Y).length) = ((flatT t T).length + (flatX Y).length) + (ls.length - (0 : Nat)) by omega]; exact hR') hM2 (by simp)
    (fun q hq => by
      rcases List.mem_cons.1 hq with rfl | hq
      · exact hok
      · exact hoks q hq)
    (fun q hq => by
      rcases List.mem_cons.1 hq with rfl | hq
      · exact NL.out_rb h o hN
      · exact NL.out_rb h o (h.lst _ hmem q hq fun hE2 => hS q hq (hE _ _ hE2).2))
    hne (fun k hk => by obtain ⟨a1, a2, a3⟩ := hsep k hk; exact o.block k a1 (by rintro (rfl | rfl); exact a2 rfl; exact a3 rfl)) hrow
  refine ⟨rfl, _, hnew, ?_, o.mono fun k _ hk => ?_, fun k hk => ?_⟩
  · rw [flat_filter_tb hoks hS hY, flatX_cons]
    simp only [flatT_cons]
    rw [List.append_assoc]
    exact List.perm_append_comm
  · rcases hk with rfl | rfl
    · exact .inl rfl
    · exact .inr (.inr ⟨_, hmem, .inl rfl⟩)
  · rcases hk with rfl | rfl | ⟨e, he, hk⟩
    · exact .inl (.inl rfl)
    · exact .inl (.inr (.inl rfl))
    · rcases List.mem_cons.1 he with rfl | he
      · rcases hk with rfl | ⟨q, hq, hk⟩
        · exact .inl (.inr (.inr ⟨_, hmem, .inl rfl⟩))
        · rcases List.mem_cons.1 hq with rfl | hq
          · rcases hk with hk | ⟨z, hz, rfl⟩
            · exact .inr (.inr (.inl (Option.some.inj hk).symm))
            · exact .inr (.inr (.inr ⟨z, hz, rfl⟩))
          · exact .inl (.inr (.inr ⟨_, hmem, .inr ⟨q, hq, hk⟩⟩))
      · exact .inl (.inr (.inr ⟨e, List.mem_cons_of_mem _ he, hk⟩))
theorem wpPut9_tx {X : List Tx9} (h : Mem9 E w r mb most (flatX X).length X) (hl : (flatX X).length ≤ 70000) (hE : ∀ a c, E a c → a = t ∧ c = tb) (ht : (Lit.int .i64 t).wf = true) (ht1 : 1 ≤ t) (htb : tb.size ≤ maxLen) {g c : Nat} {ls : List (Nat × Rd)} (hls : ls.length ≤ 70000)
    (hN : NL w (.slice (some ⟨g, 0, none⟩) ls.length c) ls) (hok : TbOk t (tb, .slice (some ⟨g, 0, none⟩) ls.length c, ls)) (hfr : ∀ e ∈ X, ∀ q ∈ e.2.2, ¬ (e.1 = t ∧ q.1 = tb) → q.2.1.ownBlock ≠ some g)
    (hY : ∀ e ∈ X, e.1 ≠ t) :
    Calls Tryz.prog 98 #[.pointer (some ⟨r, 0, none⟩), .agg #[.int .i64 t, .string tb], .slice (some ⟨g, 0, none⟩) ls.length c] w fun e w' => e = .returned (.tuple #[]) ∧ ∃ X', PutIs w w' r mb most X t tb g ls X' := by
  have hne : ∀ e ∈ X, ∀ q ∈ e.2.2, ¬ E e.1 q.1 := fun e he q _ hE2 => hY e he (hE _ _ hE2).1
  have h0 : Mem9 NoE w r mb most (flatX X).length X := ⟨h.blk, h.top, h.tab, h.ne, h.ok, fun e he q hq _ => h.lst e he q hq (hne e he q hq), h.mbs, h.rows⟩
  have hlenX := len_tx (X := X) fun e he => ⟨(h.ne e he).1, fun q hq => (h.ok e he q hq).ne⟩
  have hlt : (topX X).length = X.length := by unfold topX; rw [List.length_map]
  refine (wpPutNew (show RBlk w r mb most _ from h.blk) h.top ht (getM_topN hY) (by rw [hlt]; omega) htb (by omega) ⟨by omega, by omega⟩).mono ?_
  rintro e w' ⟨rfl, b, hbn, hR', hT', hM', o⟩
  have hlt0 := h0.lt
  have hRw : RBlk w r mb most _ := h.blk
  have k1 : ∀ k, BlX r mb X k → k ≠ r → k ≠ mb → w'.heap[k]? = w.heap[k]? := fun k hk a1 a2 => o.block k (hlt0 k hk) (by rintro (rfl | rfl); exact a1 rfl; exact a2 rfl)
  have hn := h.mbs
  simp only [List.nodup_cons, List.mem_map, not_exists, not_and] at hn
  have hNw : ∀ {v : Value} {ls : List (Nat × Rd)}, NL w v ls → NL w' v ls := fun {v ls} hN => by
    have a1 := hN.apart_r hRw
    have a2 := hN.apart_m h.top
    refine hN.kept (fun k hk => o.block k (hN.pv.lt k hk) ?_) fun z hz => o.block _ (hN.rd z hz).lt ?_
    · rintro (rfl | rfl)
      · exact a1.1 hk
      · exact a2.1 hk
    · rintro (e | e)
      · exact a1.2 z hz e
      · exact a2.2 z hz e
  have hfl2 : ((flatX ((t, b, [(tb, .slice (some ⟨g, 0, none⟩) ls.length c, ls)]) :: X)).length : Int) = (flatX X).length + ls.length := by
    rw [flatX_cons]
    simp only [flatT_cons, List.length_append, List.length_map]
    simp [flatT]
    omega
  have hnew : Mem9 NoE w' r mb most ((flatX ((t, b, [(tb, .slice (some ⟨g, 0, none⟩) ls.length c, ls)]) :: X)).length : Int) ((t, b, [(tb, .slice (some ⟨g, 0, none⟩) ls.length c, ls)]) :: X) := by
    refine ⟨by rw [hfl2]; exact hR', ?_, fun e he => ?_, fun e he => ?_, fun e he q hq => ?_, fun e he q hq _ => ?_, ?_, ?_⟩
    · refine hT'.perm ?_
      unfold putM
      rw [del_none (getM_topN hY)]
      exact List.perm_append_singleton _ _
    · rcases List.mem_cons.1 he with rfl | he
      · exact hM'
      · have := h.tab e he
        exact this.block (k1 _ (.inr (.inr ⟨e, he, .inl rfl⟩)) (Ne.symm (this.no hRw)) (fun e2 => hn.1 e he e2))
    · rcases List.mem_cons.1 he with rfl | he
      · exact ⟨by simp, ht1⟩
      · exact h.ne e he
    · rcases List.mem_cons.1 he with rfl | he
      · rw [List.mem_singleton.1 hq]; exact hok
      · exact h.ok e he q hq
    · rcases List.mem_cons.1 he with rfl | he
      · rw [List.mem_singleton.1 hq]; exact hNw hN
      · exact hNw (h0.lst e he q hq id)
    · simp only [List.map_cons, List.nodup_cons, List.mem_cons, List.mem_map, not_or, not_exists, not_and]
      have hmlt := h.top.lt
      refine ⟨⟨by omega, hn.1⟩, fun e he e2 => ?_, hn.2⟩
      have := (h.tab e he).lt
      omega
    · unfold rowsX
      rw [List.flatMap_cons]
      simp only [List.map_cons, List.map_nil, List.cons_append, List.nil_append, List.nodup_cons]
      refine ⟨fun hm => ?_, h.rows⟩
      simp only [List.mem_flatMap, List.mem_map] at hm
      obtain ⟨e, he, q, hq, e1⟩ := hm
      exact hfr e he q hq (fun ⟨e2, _⟩ => hY e he e2) e1
  refine ⟨rfl, _, hnew, ?_, o.mono fun k _ hk => ?_, fun k hk => ?_⟩
  · rw [filter_other hY, flatX_cons]
    simp only [flatT_cons]
    simp only [flatT, List.flatMap_nil, List.append_nil]
    exact List.perm_append_comm
  · rcases hk with rfl | rfl
    · exact .inl rfl
    · exact .inr (.inl rfl)
  · rcases hk with rfl | rfl | ⟨e, he, hk⟩
    · exact .inl (.inl rfl)
    · exact .inl (.inr (.inl rfl))
    · rcases List.mem_cons.1 he with rfl | he
      · rcases hk with rfl | ⟨q, hq, hk⟩
        · exact .inr (.inl hbn)
        · rw [List.mem_singleton.1 hq] at hk
          rcases hk with hk | ⟨z, hz, rfl⟩
          · exact .inr (.inr (.inl (Option.some.inj hk).symm))
          · exact .inr (.inr (.inr ⟨z, hz, rfl⟩))
      · exact .inl (.inr (.inr ⟨e, he, hk⟩))
theorem wpPut9 {X : List Tx9} (h : Mem9 E w r mb most (flatX X).length X) (hl : (flatX X).length ≤ 70000) (hE : ∀ a c, E a c → a = t ∧ c = tb) (ht : (Lit.int .i64 t).wf = true) (ht1 : 1 ≤ t) (htb : tb.size ≤ maxLen) {g c : Nat} {ls : List (Nat × Rd)} (hls : ls.length ≤ 70000)
    (hN : NL w (.slice (some ⟨g, 0, none⟩) ls.length c) ls) (hok : TbOk t (tb, .slice (some ⟨g, 0, none⟩) ls.length c, ls)) (hfr : ∀ e ∈ X, ∀ q ∈ e.2.2, ¬ (e.1 = t ∧ q.1 = tb) → q.2.1.ownBlock ≠ some g) :
    Calls Tryz.prog 98 #[.pointer (some ⟨r, 0, none⟩), .agg #[.int .i64 t, .string tb], .slice (some ⟨g, 0, none⟩) ls.length c] w fun e w' => e = .returned (.tuple #[]) ∧ ∃ X', PutIs w w' r mb most X t tb g ls X' := by
  obtain ⟨a⟩ := at9 h.once (fun e he => h.onceT he) t tb
  rcases a with hY | ⟨b, T, Y, hX, hY, hS⟩ | ⟨b, v0, ls0, S, T, Y, hX, hY, hT, hS⟩
  · exact wpPut9_tx h hl hE ht ht1 htb hls hN hok hfr hY
  · have hfp := flatX_perm hX
    refine (wpPut9_tb rfl (by rw [← hfp.length_eq]; exact h.perm hX) (by rw [← hfp.length_eq]; exact hl) hE ht htb hls hN hok (fun e he => hfr e (hX.mem_iff.2 he)) hY hS).mono ?_
    rintro e w' ⟨he, X', hp⟩
    exact ⟨he, X', hp.perm hfp.symm (bl_perm hX.symm)⟩
  · have hX2 := flatX_perm hX
    have hfp : (flatX X).Perm (flatX ((t, b, (tb, v0, ls0) :: S) :: Y)) := hX2.trans (flat_permT hT)
    have hbl : ∀ k, BlX r mb ((t, b, (tb, v0, ls0) :: S) :: Y) k ↔ BlX r mb X k := fun k => (bl_permT hT.symm k).trans (bl_perm hX.symm k)
    refine (wpPut9_at rfl (by rw [← hfp.length_eq]; exact (h.perm hX).permT hT) (by rw [← hfp.length_eq]; exact hl) hE ht htb hls hN hok (fun e he q hq => ?_) hY hS).mono ?_
    · rcases List.mem_cons.1 he with rfl | he
      · exact hfr (t, b, T) (hX.mem_iff.2 (List.mem_cons_self ..)) q (hT.mem_iff.2 hq)
      · exact hfr e (hX.mem_iff.2 (List.mem_cons_of_mem _ he)) q hq
    rintro e w' ⟨he, X', hp⟩
    exact ⟨he, X', hp.perm hfp.symm hbl⟩
end
end Go.Proofs.YtknppiebncdjmaaGreat

namespace Go.Proofs.YtknppiebncdjmaaGreat
set_option maxRecDepth 100000
open Go.RowKit

theorem RangeM.perm {κ : Type} [DecidableEq κ] {k : TypeId} {T : KT κ k} {w : World} {r it : Nat} {hs hs2 left : List (κ × Value)} (h : RangeM T w r it hs left) (hp : hs.Perm hs2) : RangeM T w r it hs2 left := by
  obtain ⟨D, f, cnt, h1, h2, h3, h4⟩ := h
  exact ⟨D, f, cnt, hp.length_eq ▸ h1, h2.perm hp, fun x hx => hp.mem_iff.1 (h3 x hx), h4⟩
section
variable {w w' : World} {r mb most : Nat} {X Y : List Tx9} {t : Int} {b : Nat} {tb : ByteArray}
structure TakeIs (w w' : World) (r mb most : Nat) (X : List Tx9) (t : Int) (tb : ByteArray) (X' : List Tx9) : Prop where
  mem : Mem9 NoE w' r mb most (flatX X').length X'
  flat : (flatX X').Perm ((flatX X).filter (notP t tb))
  out : Out (BlX r mb X) w w'
  bl : ∀ k, BlX r mb X' k → BlX r mb X k
def lessX (t : Int) (b : Nat) (S : List Tb9) (Y : List Tx9) : List Tx9 := if S = [] then Y else (t, b, S) :: Y
theorem take_is {v0 : Value} {ls0 : List (Nat × Rd)} {S : List Tb9} (h : Mem9 NoE w r mb most (flatX ((t, b, (tb, v0, ls0) :: S) :: Y)).length ((t, b, (tb, v0, ls0) :: S) :: Y)) (hY : ∀ e ∈ Y, e.1 ≠ t) (hS : ∀ q ∈ S, q.1 ≠ tb)
    (hR : RBlk w' r mb most ((flatX ((t, b, (tb, v0, ls0) :: S) :: Y)).length - ls0.length)) (hT : MapM KI w' mb (if (delM (tabT ((tb, v0, ls0) :: S)) tb).length = 0 then delM (topX ((t, b, (tb, v0, ls0) :: S) :: Y)) t else topX ((t, b, (tb, v0, ls0) :: S) :: Y)))
    (hM : MapM KS w' b (tabT S)) (o : Out (fun k => k = r ∨ k = b ∨ k = mb) w w') : TakeIs w w' r mb most ((t, b, (tb, v0, ls0) :: S) :: Y) t tb (lessX t b S Y) := by
  have hmem := List.mem_cons_self (a := (t, b, (tb, v0, ls0) :: S)) (l := Y)
  have hoks := h.ok _ hmem
  have htab := h.tab _ hmem
  have hRw : RBlk w r mb most _ := h.blk
  have hn := h.mbs
  simp only [List.map_cons, List.nodup_cons, List.mem_cons, List.mem_map, not_or, not_exists, not_and] at hn
  have hNw : ∀ {v : Value} {ls : List (Nat × Rd)}, NL w v ls → NL w' v ls := fun {v ls} hN => by
    have a1 := hN.apart_r hRw
    have a2 := hN.apart_m h.top
    have a3 := hN.apart_m htab
    refine hN.kept (fun k hk => o.block k (hN.pv.lt k hk) ?_) fun z hz => o.block _ (hN.rd z hz).lt ?_
    · rintro (rfl | rfl | rfl)
      · exact a1.1 hk
      · exact a3.1 hk
      · exact a2.1 hk
    · rintro (e | e | e)
      · exact a1.2 z hz e
      · exact a3.2 z hz e
      · exact a2.2 z hz e
  have hTY : ∀ e ∈ Y, MapM KS w' e.2.1 (tabT e.2.2) := fun e he => by
    have := h.tab e (List.mem_cons_of_mem _ he)
    refine this.block (o.block _ this.lt ?_)
    rintro (e1 | e1 | e1)
    · exact Ne.symm (this.no hRw) e1
    · exact hn.2.1 e he e1
    · exact hn.1.2 e he e1
  have hrows := h.rows
  unfold rowsX at hrows
  rw [List.flatMap_cons, List.nodup_append] at hrows
  simp only [List.map_cons, List.nodup_cons] at hrows
  rw [delM_tab_cons hS] at hT
  have hfl : ((flatX ((t, b, (tb, v0, ls0) :: S) :: Y)).length : Int) = ls0.length + ((flatT t S).length + (flatX Y).length) := by
    rw [flatX_cons]
    simp only [flatT_cons, List.length_append, List.length_map]
    omega
  have hlt : (tabT S).length = S.length := by unfold tabT; rw [List.length_map]
  unfold lessX
  by_cases hz : S = []
  · subst hz
    rw [if_pos rfl]
    rw [if_pos (by rfl), delM_top_cons hY] at hT
    refine ⟨⟨?_, hT, hTY, fun e he => h.ne e (List.mem_cons_of_mem _ he), fun e he => h.ok e (List.mem_cons_of_mem _ he), fun e he q hq _ => hNw (h.lst e (List.mem_cons_of_mem _ he) q hq id), ?_, hrows.2.1⟩, ?_, o.mono fun k _ hk => ?_, fun k hk => ?_⟩
    · have : ((flatX Y).length : Int) = (flatX ((t, b, [(tb, v0, ls0)]) :: Y)).length - ls0.length := by
        rw [hfl]; simp only [flatT, List.flatMap_nil, List.length_nil]; omega
      rw [this]
      exact hR
    · simp only [List.nodup_cons, List.mem_map, not_exists, not_and]
      exact ⟨hn.1.2, hn.2.2⟩
    · rw [flat_filter_at hoks hS hY]
      exact List.Perm.refl _
    · rcases hk with rfl | rfl | rfl
      · exact .inl rfl
      · exact .inr (.inr ⟨_, hmem, .inl rfl⟩)
      · exact .inr (.inl rfl)
    · rcases hk with rfl | rfl | ⟨e, he, hk⟩
      · exact .inl rfl
      · exact .inr (.inl rfl)
      · exact .inr (.inr ⟨e, List.mem_cons_of_mem _ he, hk⟩)
  · rw [if_neg hz]
    have hz2 : ¬ (tabT S).length = 0 := by rw [hlt]; exact fun e => hz (List.eq_nil_of_length_eq_zero e)
    rw [if_neg hz2] at hT
    refine ⟨⟨?_, hT, fun e he => ?_, fun e he => ?_, fun e he q hq => ?_, fun e he q hq _ => ?_, h.mbs, ?_⟩, ?_, o.mono fun k _ hk => ?_, fun k hk => ?_⟩
    · have : ((flatX ((t, b, S) :: Y)).length : Int) = (flatX ((t, b, (tb, v0, ls0) :: S) :: Y)).length - ls0.length := by
        rw [hfl, flatX_cons]; simp only [List.length_append]; omega
      rw [this]
      exact hR
    · rcases List.mem_cons.1 he with rfl | he
      · exact hM
      · exact hTY e he
    · rcases List.mem_cons.1 he with rfl | he
      · exact ⟨hz, (h.ne _ hmem).2⟩
      · exact h.ne e (List.mem_cons_of_mem _ he)
    · rcases List.mem_cons.1 he with rfl | he
      · exact hoks q (List.mem_cons_of_mem _ hq)
      · exact h.ok e (List.mem_cons_of_mem _ he) q hq
    · rcases List.mem_cons.1 he with rfl | he
      · exact hNw (h.lst _ hmem q (List.mem_cons_of_mem _ hq) id)
      · exact hNw (h.lst e (List.mem_cons_of_mem _ he) q hq id)
    · unfold rowsX
      rw [List.flatMap_cons, List.nodup_append]
      exact ⟨hrows.1.2, hrows.2.1, fun x hx y hy => hrows.2.2 x (List.mem_cons_of_mem _ hx) y hy⟩
    · rw [flat_filter_at hoks hS hY, flatX_cons]
    · rcases hk with rfl | rfl | rfl
      · exact .inl rfl
      · exact .inr (.inr ⟨_, hmem, .inl rfl⟩)
      · exact .inr (.inl rfl)
    · rcases hk with rfl | rfl | ⟨e, he, hk⟩
      · exact .inl rfl
      · exact .inr (.inl rfl)
      · rcases List.mem_cons.1 he with rfl | he
        · rcases hk with rfl | ⟨q, hq, hk⟩
          · exact .inr (.inr ⟨_, hmem, .inl rfl⟩)
          · exact .inr (.inr ⟨_, hmem, .inr ⟨q, List.mem_cons_of_mem _ hq, hk⟩⟩)
        · exact .inr (.inr ⟨e, List.mem_cons_of_mem _ he, hk⟩)
theorem take_pre {v0 : Value} {ls0 : List (Nat × Rd)} {S : List Tb9} (h : Mem9 NoE w r mb most (flatX ((t, b, (tb, v0, ls0) :: S) :: Y)).length ((t, b, (tb, v0, ls0) :: S) :: Y)) (hl : (flatX ((t, b, (tb, v0, ls0) :: S) :: Y)).length ≤ 70000) :
    b ≠ mb ∧ (∃ g0 c0, (getM (tabT ((tb, v0, ls0) :: S)) tb).getD (.slice none 0 0) = .slice (some ⟨g0, 0, none⟩) ls0.length c0) ∧ ls0.length ≤ 70000 := by
  have hmem := List.mem_cons_self (a := (t, b, (tb, v0, ls0) :: S)) (l := Y)
  have hoks := h.ok _ hmem
  obtain ⟨g0, c0, hv0⟩ := (hoks (tb, v0, ls0) (List.mem_cons_self ..)).hdr
  have hn := h.mbs
  simp only [List.map_cons, List.nodup_cons, List.mem_cons, List.mem_map, not_or, not_exists, not_and] at hn
  have hlenT := len_in (X := (t, b, (tb, v0, ls0) :: S) :: Y) hmem
  have hlen0 := len_own (t := t) (T := (tb, v0, ls0) :: S) (List.mem_cons_self ..)
  simp only at hlenT hlen0
  exact ⟨Ne.symm hn.1.1, ⟨g0, c0, by rw [getM_tab (h.tab _ hmem).once (q := (tb, v0, ls0)) (List.mem_cons_self ..)]; exact hv0⟩, by omega⟩
theorem wpTake9 {v0 : Value} {ls0 : List (Nat × Rd)} {S : List Tb9} (h : Mem9 NoE w r mb most (flatX ((t, b, (tb, v0, ls0) :: S) :: Y)).length ((t, b, (tb, v0, ls0) :: S) :: Y)) (hl : (flatX ((t, b, (tb, v0, ls0) :: S) :: Y)).length ≤ 70000) (ht : (Lit.int .i64 t).wf = true) (htb : tb.size ≤ maxLen) (hY : ∀ e ∈ Y, e.1 ≠ t) (hS : ∀ q ∈ S, q.1 ≠ tb) :
    Calls Tryz.prog 101 #[.pointer (some ⟨r, 0, none⟩), .agg #[.int .i64 t, .string tb]] w fun e w' => e = .returned (.tuple #[]) ∧ TakeIs w w' r mb most ((t, b, (tb, v0, ls0) :: S) :: Y) t tb (lessX t b S Y) := by
  have hmem := List.mem_cons_self (a := (t, b, (tb, v0, ls0) :: S)) (l := Y)
  obtain ⟨hbm, ⟨g0, c0, hv⟩, hl0⟩ := take_pre h hl
  refine (wpTake (show RBlk w r mb most _ from h.blk) h.top ht (getM_top h.top.once hmem) hbm (h.tab _ hmem) htb hv (by omega) ⟨by omega, by omega⟩).mono ?_
  rintro e w' ⟨he, hR, hT, hM, o⟩
  rw [delM_tab_cons hS] at hM
  exact ⟨he, take_is h hY hS hR hT hM o⟩
theorem wpTakeR9 {v0 : Value} {ls0 : List (Nat × Rd)} {S : List Tb9} (h : Mem9 NoE w r mb most (flatX ((t, b, (tb, v0, ls0) :: S) :: Y)).length ((t, b, (tb, v0, ls0) :: S) :: Y)) (hl : (flatX ((t, b, (tb, v0, ls0) :: S) :: Y)).length ≤ 70000) (ht : (Lit.int .i64 t).wf = true) (htb : tb.size ≤ maxLen) (hY : ∀ e ∈ Y, e.1 ≠ t) (hS : ∀ q ∈ S, q.1 ≠ tb)
    {it : Nat} {left : List (ByteArray × Value)} (hr : RangeM KS w b it (tabT ((tb, v0, ls0) :: S)) left) (hnl : getM left tb = none) (hit : it ≠ r ∧ it ≠ b ∧ it ≠ mb) :
    Calls Tryz.prog 101 #[.pointer (some ⟨r, 0, none⟩), .agg #[.int .i64 t, .string tb]] w fun e w' => e = .returned (.tuple #[]) ∧ TakeIs w w' r mb most ((t, b, (tb, v0, ls0) :: S) :: Y) t tb (lessX t b S Y) ∧ RangeM KS w' b it (tabT S) left ∧ w'.heap[it]? = w.heap[it]? ∧ w'.rangeLeft b it ≤ w.rangeLeft b it ∧ Out (fun k => k = r ∨ k = b ∨ k = mb) w w' := by
  have hmem := List.mem_cons_self (a := (t, b, (tb, v0, ls0) :: S)) (l := Y)
  obtain ⟨hbm, ⟨g0, c0, hv⟩, hl0⟩ := take_pre h hl
  refine (wpTakeR (show RBlk w r mb most _ from h.blk) h.top ht (getM_top h.top.once hmem) hbm hr htb hnl hv (by omega) ⟨by omega, by omega⟩ hit).mono ?_
  rintro e w' ⟨he, hR, hT, hM, o, h1, h2⟩
  rw [delM_tab_cons hS] at hM
  exact ⟨he, take_is h hY hS hR hT hM.map o, hM, h1, h2, o⟩
end
end Go.Proofs.YtknppiebncdjmaaGreat
