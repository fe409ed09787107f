/- Layer 8: the operations on a map of locks, each as a law for the walk. -/
import Derived.Test.YtghnafknbgmagaaLkView
import Derived.Maps.RangeWalk
import Derived.Maps.OwnOps
namespace Go.Proofs.Ytghnafknbgmagaa
set_option maxRecDepth 100000
set_option maxRecDepth 100000
open Go.RowKit Go.Maps Go.ChangeMaps Go.MapKept

theorem keyOf_lk_inv {v : Value} {kl : Lit} (h : keyOf Try.prog 34 v = some kl) : ∃ l, v = .agg #[.string l.1, .string l.2] ∧ Sz l ∧ kl = keyLit l := by
  have hs : Try.prog.underlying 34 = some (.struct (Try.prog.fieldsOf 34)) := by kernel_rfl
  have hk : Try.prog.keyType 34 = true := by kernel_rfl
  have hc : Try.prog.cellsOf 34 = 2 := by kernel_rfl
  have hc1 : Try.prog.cellsOf 9 = 1 := by kernel_rfl
  have hn : (Try.prog.fieldsOf 34).all (·.name != "_") = true := by kernel_rfl
  have hf : (Try.prog.fieldsOf 34).toList.map (fun f => (f.type, f.offset)) = [(9, 0), (9, 1)] := by kernel_rfl
  obtain ⟨n, hsz⟩ : ∃ n, Try.prog.types.size = n + 1 := ⟨Try.prog.types.size - 1, by have : 0 < Try.prog.types.size := of_decide_eq_true (by kernel_rfl); omega⟩
  have h0 := h
  unfold keyOf at h
  rw [hs] at h
  simp only [hk, Bool.true_and] at h
  split at h
  · rename_i hw
    obtain ⟨c0, c1, rfl⟩ : ∃ c0 c1, v = .agg #[c0, c1] := by
      unfold Value.formed at hw
      rw [hs] at hw
      cases v <;> simp [hc] at hw
      rename_i cs
      obtain ⟨l⟩ := cs
      match l, hw with
      | [a, b], _ => exact ⟨a, b, rfl⟩
    have k1 : ∀ (c : Value) x, Try.prog.keyLits (n + 1) 9 [c] = some x → ∃ s : ByteArray, c = .string s ∧ s.size ≤ maxLen := fun c x hx => by
      unfold Program.keyLits at hx
      rw [Try.underlying9] at hx
      cases c <;> simp at hx
      exact ⟨_, rfl, hx.1⟩
    rw [hsz] at h
    unfold Program.keyLits at h
    rw [hs] at h
    simp only [Value.cells, List.length_cons, List.length_nil, hc, hn] at h
    generalize (Try.prog.fieldsOf 34).toList = fs at hf h
    obtain ⟨f, fs1, rfl, hf1, hf⟩ := List.map_eq_cons_iff.1 hf
    obtain ⟨g, fs2, rfl, hg1, hf⟩ := List.map_eq_cons_iff.1 hf
    have : fs2 = [] := by simpa using hf
    subst this
    simp only [Prod.mk.injEq] at hf1 hg1
    obtain ⟨f2, f3⟩ := hf1
    obtain ⟨g2, g3⟩ := hg1
    cases e1 : Try.prog.keyLits (n + 1) 9 [c0] with
    | none => simp [f2, f3, g2, g3, hc1, e1] at h
    | some x0 =>
      cases e2 : Try.prog.keyLits (n + 1) 9 [c1] with
      | none => simp [f2, f3, g2, g3, hc1, e1, e2] at h
      | some x1 =>
        obtain ⟨s0, rfl, z0⟩ := k1 _ _ e1
        obtain ⟨s1, rfl, z1⟩ := k1 _ _ e2
        refine ⟨(s0, s1), rfl, ⟨z0, z1⟩, ?_⟩
        have h1 := keyOf_lk (l := (s0, s1)) ⟨z0, z1⟩
        unfold lkV at h1
        rw [h0] at h1
        exact Option.some.inj h1
  · cases h

section
variable {w : World} {ops : Array Oper} {rest : List Oper} {o : Oper} {a : Act} {Q : Exit → Act → World → Prop} {r : Nat} {hs : List Hd}
abbrev mapT : TypeId := 54
theorem zero64 (w : World) : (zeroValue 2).run Try.prog w = .ok (.int .i64 0) w := by kernel_rfl
/-- v, ok := m[l] -/
theorem map_look (hg : o.guard = none) (m x : Operand) (hop : o.op = Op.lookup mapT m x true) (hm : a.eval m = .map (some r)) (hM : MapAt w r hs) (l : Lk) (hl : Sz l) (hx : a.eval x = .agg #[.string l.1, .string l.2])
    (hK : wpList Try.prog ops Q rest (a.put o.dst (.tuple #[.int .i64 ((holderP hs l).getD 0), .bool (holderP hs l).isSome])) w) : wpList Try.prog ops Q (o :: rest) a w := by
  obtain ⟨D, ho, hv⟩ := hM
  refine wpList_lookup_own_ok_int w hg m x mapT hop 34 2 .i64 lawLk Try.underlying54 Try.underlying2 (zero64 w) r hs.length D hm ho _ (keyLit l) hx (keyOf_lk hl) fun c h1 _ => ?_
  rw [hv.at_ l hl] at h1
  rw [hv.has l hl]
  simp only [DataW.lit.injEq, Lit.int.injEq, true_and] at h1
  rw [← h1]
  exact hK
/-- m[l] = tx, a lock that nobody holds. -/
theorem map_put (hg : o.guard = none) (m x v : Operand) (hop : o.op = Op.mapUpdate mapT m x v) (hm : a.eval m = .map (some r)) (hM : MapAt w r hs) (l : Lk) (hl : Sz l) (hx : a.eval x = .agg #[.string l.1, .string l.2]) (tx : Int) (ht : (Lit.int .i64 tx).wf = true) (hv : a.eval v = .int .i64 tx)
    (hn : holderP hs l = none) (hlen : hs.length < 4000000)
    (hK : ∀ w', MapAt w' r (hs ++ [(l, tx)]) → w.grownBy w' (some r) → wpList Try.prog ops Q rest (a.put o.dst undef) w') : wpList Try.prog ops Q (o :: rest) a w := by
  obtain ⟨D, ho, hvw⟩ := hM
  refine wpList_mapUpdate_in w hg m x v mapT hop 34 2 lawLk Try.underlying54 _ r hs.length D hm ho (by simp only [maxLen]; omega) _ _ (keyLit l) hx hv (keyOf_lk hl) (.lit (.int .i64 tx)) [] (plainElem_int Try.underlying2 ht) fun w' h1 h2 => ?_
  exact hK w' ⟨_, by simpa using h1, hvw.put hl ht hn⟩ h2.grown
/-- delete(m, l), a lock that is held. -/
theorem map_del (hg : o.guard = none) (m x : Operand) (hop : o.op = Op.call { callee := Callee.builtin Builtin.delete, args := #[m, x], argTypes := #[mapT, 34] }) (hm : a.eval m = .map (some r)) (hM : MapAt w r hs) (l : Lk) (hl : Sz l) (hx : a.eval x = .agg #[.string l.1, .string l.2]) (tx : Int) (hin : (l, tx) ∈ hs)
    (hK : ∀ w', MapAt w' r (hs.filter fun h => !decide (h.1 = l)) → w.grownBy w' (some r) → wpList Try.prog ops Q rest (a.put o.dst (.tuple #[])) w') : wpList Try.prog ops Q (o :: rest) a w := by
  obtain ⟨D, ho, hvw⟩ := hM
  refine wpList_delete_own w hg m x mapT 34 hop 2 lawLk Try.underlying54 _ r hs.length D hm ho _ (keyLit l) hx (keyOf_lk hl) fun w' h1 h2 => ?_
  have hv := hvw.del hl hin
  have h3 := owns_tight h1
  rw [hv.size] at h3
  exact hK w' ⟨_, h3, hv⟩ h2.grown
/-- len(m) -/
theorem map_len (hg : o.guard = none) (m : Operand) (hop : o.op = Op.call { callee := Callee.builtin Builtin.len, args := #[m], argTypes := #[mapT] }) (hm : a.eval m = .map (some r)) (hM : MapAt w r hs)
    (hK : wpList Try.prog ops Q rest (a.put o.dst (.int .i64 (hs.length : Nat))) w) : wpList Try.prog ops Q (o :: rest) a w := by
  obtain ⟨D, ho, hvw⟩ := hM
  refine wpList_len_own w hg m mapT hop 34 2 Try.underlying54 _ r hs.length D hm ho ?_
  rw [hvw.size]
  exact hK

/-- A range over the map is under way: left is still to come. -/
def RangeAt (w : World) (r it : Nat) (hs left : List Hd) : Prop :=
  ∃ (D : DataW Unit) (f : Lit → Bool) (cnt : Nat), w.ranges Try.prog 34 (plainElem Try.prog 2) r it hs.length D f cnt ∧ View D hs ∧ (∀ h ∈ left, h ∈ hs) ∧ Once left ∧ ∀ l, Sz l → f (keyLit l) = (holderP left l).isSome
theorem RangeAt.map {it : Nat} {left : List Hd} (h : RangeAt w r it hs left) : MapAt w r hs := by
  obtain ⟨D, f, cnt, h1, h2, -⟩ := h
  exact ⟨D, h1.owns, h2⟩
theorem RangeAt.kept {w' : World} {it : Nat} {left : List Hd} {row : Option Nat} (h : RangeAt w r it hs left) (hg : w.grownBy w' row) (h1 : some r ≠ row) (h2 : some it ≠ row) : RangeAt w' r it hs left := by
  obtain ⟨D, f, cnt, h3, h4⟩ := h
  exact ⟨D, f, cnt, h3.kept hg h1 h2, h4⟩
/-- range m -/
theorem map_range (hg : o.guard = none) (m : Operand) (hop : o.op = Op.range mapT m) (hm : a.eval m = .map (some r)) (hM : MapAt w r hs)
    (hK : ∀ w', RangeAt w' r w.heap.size hs hs → w.grownBy w' none → wpList Try.prog ops Q rest (a.put o.dst (.pointer (some ⟨w.heap.size, 0, none⟩))) w') : wpList Try.prog ops Q (o :: rest) a w := by
  obtain ⟨D, ho, hvw⟩ := hM
  refine wpList_range_own w hg m mapT hop 34 2 lawLk Try.underlying54 _ r hs.length D hm ho fun w' h1 h2 _ => ?_
  exact hK w' ⟨D, _, _, h1, hvw, fun _ h => h, hvw.once, hvw.has⟩ h2
/-- The next round, or none. -/
theorem map_next (hg : o.guard = none) (p : Operand) (hop : o.op = Op.next p false) (it : Nat) (left : List Hd) (hp : a.eval p = .pointer (some ⟨it, 0, none⟩)) (hR : RangeAt w r it hs left)
    (hDone : left = [] → wpList Try.prog ops Q rest (a.put o.dst (.tuple #[.bool false])) w)
    (hMore : ∀ (l : Lk) (tx : Int) (w' : World), (l, tx) ∈ left → Sz l → (Lit.int .i64 tx).wf = true → RangeAt w' r it hs (left.filter fun h => !decide (h.1 = l)) → w.grownBy w' (some it) → w'.rangeLeft r it < w.rangeLeft r it →
      (Instr.entry (.pointer (some ⟨it, 0, none⟩))).run Try.prog w' = .ok (.tuple #[.agg #[.string l.1, .string l.2], .int .i64 tx]) w' → wpList Try.prog ops Q rest (a.put o.dst (.tuple #[.bool true, .agg #[.string l.1, .string l.2], .int .i64 tx])) w') :
    wpList Try.prog ops Q (o :: rest) a w := by
  obtain ⟨D, f, cnt, h1, hv, hsub, honce, hf⟩ := hR
  refine wpList_next_ranges w hg p hop 34 lawLk (plainElem Try.prog 2) (fun l : Lk => .agg #[.string l.1, .string l.2]) (Value.int .i64) (fun key kl h => ?_) (fun v y h => ?_) r it hs.length D f cnt hp h1 (fun _ hno => ?_) (fun l c kl y w' cnt' hkey hleft hval hat hrg hlt hgr _ hen => ?_)
  · obtain ⟨l, e, -⟩ := keyOf_lk_inv h
    exact ⟨l, e⟩
  · obtain ⟨c, e, -⟩ := plainElem_int_inv Try.underlying2 h
    exact ⟨c, e⟩
  · refine hDone ?_
    match left, hsub, honce, hf with
    | [], _, _, _ => rfl
    | h :: left, hsub, honce, hf =>
      have h2 := hf h.1 (hv.sz h (hsub h (List.mem_cons_self ..)))
      rw [hno, (holder_some honce (l := h.1) (tx := h.2)).2 (List.mem_cons_self ..)] at h2
      cases h2
  · obtain ⟨l', e, hl, rfl⟩ := keyOf_lk_inv hkey
    simp only [Value.agg.injEq, Array.mk.injEq, List.cons.injEq, Value.string.injEq, and_true] at e
    obtain rfl : l = l' := Prod.ext e.1 e.2
    obtain ⟨c', ec, rfl, hwc⟩ := plainElem_int_inv Try.underlying2 hval
    cases ec
    have h2 := hf l hl
    rw [hleft] at h2
    obtain ⟨tx, htx⟩ := Option.isSome_iff_exists.1 h2.symm
    have hm := (holder_some honce).1 htx
    have h3 := hat (.lit (.int .i64 0))
    rw [hv.at_ l hl, (holder_some hv.once).2 (hsub _ hm)] at h3
    simp only [Option.getD_some, DataW.lit.injEq, Lit.int.injEq, true_and] at h3
    subst h3
    refine hMore l tx w' hm hl hwc ⟨D, _, _, hrg, hv, fun h hh => hsub h (List.mem_filter.1 hh).1, List.Nodup.sublist (List.Sublist.map _ List.filter_sublist) honce, fun k hk => ?_⟩ hgr (by rw [hrg.left_eq, h1.left_eq]; exact hlt) hen
    rw [holder_but, hf k hk]
    by_cases e2 : k = l
    · subst e2
      rw [if_pos rfl, WideAt.sameKey_self (keyLit_is _)]
      simp
    · rw [if_neg e2, sameKey_ne (fun e3 => e2 (keyLit_inj hk hl e3))]
      simp
/-- delete(m, l) within the round that l came up in. -/
theorem map_rdel (hg : o.guard = none) (m x : Operand) (hop : o.op = Op.call { callee := Callee.builtin Builtin.delete, args := #[m, x], argTypes := #[mapT, 34] }) (hm : a.eval m = .map (some r)) (it : Nat) (left : List Hd) (hR : RangeAt w r it hs left) (l : Lk) (hl : Sz l) (hx : a.eval x = .agg #[.string l.1, .string l.2]) (tx : Int) (hin : (l, tx) ∈ hs) (hnot : ∀ h ∈ left, h.1 ≠ l)
    (hK : ∀ w', RangeAt w' r it (hs.filter fun h => !decide (h.1 = l)) left → w.grownBy w' (some r) → w'.rangeLeft r it ≤ w.rangeLeft r it → wpList Try.prog ops Q rest (a.put o.dst (.tuple #[])) w') : wpList Try.prog ops Q (o :: rest) a w := by
  obtain ⟨D, f, cnt, h1, hvw, hsub, honce, hf⟩ := hR
  refine wpList_delete_ranges w hg m x mapT 34 hop 2 lawLk Try.underlying54 _ r it hs.length D f cnt hm h1 _ (keyLit l) hx (keyOf_lk hl) fun w' cnt' h2 h3 h4 => ?_
  have hv := hvw.del hl hin
  have hnone : holderP left l = none := holder_none.2 fun tx hx => hnot _ hx rfl
  refine hK w' ⟨D.del (keyLit l), fun z => f z && !z.sameKey (keyLit l), cnt', ?_, hv, fun h hh => List.mem_filter.2 ⟨hsub h hh, by simpa using hnot h hh⟩, honce, fun k hk => ?_⟩ h4.grown (by rw [h2.left_eq, h1.left_eq]; exact h3)
  · obtain ⟨es, clock, since, seen, c0, b1, b2, b3, b4, b5⟩ := h2
    refine ⟨es, clock, since, seen, c0, b1, b2, ?_, b4, b5⟩
    have h5 := hv.size
    rw [b4, size_eq, length_sorted] at h5
    simp at h5
    simp [h5]
  · show (f (keyLit k) && !(keyLit k).sameKey (keyLit l)) = _
    rw [hf k hk]
    by_cases e2 : k = l
    · subst e2
      rw [hnone]; simp
    · rw [sameKey_ne (fun e3 => e2 (keyLit_inj hk hl e3))]
      simp
end

/-- m[l] as one instruction. -/
theorem MapAt.look {w : World} {r : Nat} {hs : List Hd} (hM : MapAt w r hs) {l : Lk} (hl : Sz l) : (Instr.lookup mapT (.map (some r)) (.agg #[.string l.1, .string l.2]) true).run Try.prog w = .ok (.tuple #[.int .i64 ((holderP hs l).getD 0), .bool (holderP hs l).isSome]) w := by
  obtain ⟨D, ho, hv⟩ := hM
  obtain ⟨v, ps, hrun, h1⟩ := ho.look_ok lawLk Try.underlying54 (zero64 w) (plainElem_int Try.underlying2 (by decide)) (keyOf_lk hl)
  obtain ⟨c, rfl, h2, -⟩ := plainElem_int_inv Try.underlying2 h1
  have h3 := congrArg Prod.fst h2
  rw [hv.at_ l hl] at h3
  simp only [DataW.lit.injEq, Lit.int.injEq, true_and] at h3
  rw [hv.has l hl] at hrun
  rw [h3]
  exact hrun
/-- len(m) as one instruction. -/
theorem MapAt.len {w : World} {r : Nat} {hs : List Hd} (hM : MapAt w r hs) (ty : TypeId) : (Builtin.len_ #[mapT] ty #[.map (some r)]).run Try.prog w = .ok (.int .i64 (hs.length : Nat)) w := by
  obtain ⟨D, ho, hv⟩ := hM
  have := ho.len Try.underlying54 ty
  rw [hv.size] at this
  exact this
end Go.Proofs.Ytghnafknbgmagaa
