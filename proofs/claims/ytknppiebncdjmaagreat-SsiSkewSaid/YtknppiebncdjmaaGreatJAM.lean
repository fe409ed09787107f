import Derived.Test.YtknppiebncdjmaaGreatJAL
import Derived.Maps.RangeWalk
import Derived.Maps.OwnOps
import Derived.StillTailTactics
import Derived.BigQuiet
import Derived.Test.YtknppiebncdjmaaGreatJAA
import Derived.ProofKit
import Derived.OpenShut
import Derived.ShutString
import Derived.ChangeOld
import Derived.SizedLaws
import Derived.Lib.SmallJoins
import Derived.Deep.Fields
import Derived.Test.YtknppiebncdjmaaGreatJAF
import Derived.Deep.Slices
set_option linter.unusedVariables false
namespace Go.Proofs.YtknppiebncdjmaaGreat
set_option maxRecDepth 100000
open Go.RowKit Go.Maps Go.ChangeMaps Go.MapKept

theorem keyOf_lk_inv {v : Value} {kl : Lit} (h : keyOf Tryz.prog 42 v = some kl) : ∃ l, v = .agg #[.string l.1, .string l.2] ∧ Sz l ∧ kl = keyLit l := by
  have hs : Tryz.prog.underlying 42 = some (.struct (Tryz.prog.fieldsOf 42)) := by kernel_rfl
  have hk : Tryz.prog.keyType 42 = true := by kernel_rfl
  have hc : Tryz.prog.cellsOf 42 = 2 := by kernel_rfl
  have hc1 : Tryz.prog.cellsOf 9 = 1 := by kernel_rfl
  have hn : (Tryz.prog.fieldsOf 42).all (·.name != "_") = true := by kernel_rfl
  have hf : (Tryz.prog.fieldsOf 42).toList.map (fun f => (f.type, f.offset)) = [(9, 0), (9, 1)] := by kernel_rfl
  obtain ⟨n, hsz⟩ : ∃ n, Tryz.prog.types.size = n + 1 := ⟨Tryz.prog.types.size - 1, by have : 0 < Tryz.prog.types.size := of_decide_eq_true (by kernel_rfl); omega⟩
  have h0 := h
  unfold keyOf at h
  rw [hs] at h
  simp only [hk, Bool.true_and] at h
  split at h
  · rename_i hw
    obtain ⟨c0, c1, rfl⟩ : ∃ c0 c1, v = .agg #[c0, c1] := by
      unfold Value.formed at hw
      rw [hs] at hw
      cases v <;> simp [hc] at hw
      rename_i cs
      obtain ⟨l⟩ := cs
      match l, hw with
      | [a, b], _ => exact ⟨a, b, rfl⟩
    have k1 : ∀ (c : Value) x, Tryz.prog.keyLits (n + 1) 9 [c] = some x → ∃ s : ByteArray, c = .string s ∧ s.size ≤ maxLen := fun c x hx => by
      unfold Program.keyLits at hx
      rw [Tryz.underlying9] at hx
      cases c <;> simp at hx
      exact ⟨_, rfl, hx.1⟩
    rw [hsz] at h
    unfold Program.keyLits at h
    rw [hs] at h
    simp only [Value.cells, List.length_cons, List.length_nil, hc, hn] at h
    generalize (Tryz.prog.fieldsOf 42).toList = fs at hf h
    obtain ⟨f, fs1, rfl, hf1, hf⟩ := List.map_eq_cons_iff.1 hf
    obtain ⟨g, fs2, rfl, hg1, hf⟩ := List.map_eq_cons_iff.1 hf
    have : fs2 = [] := by simpa using hf
    subst this
    simp only [Prod.mk.injEq] at hf1 hg1
    obtain ⟨f2, f3⟩ := hf1
    obtain ⟨g2, g3⟩ := hg1
    cases e1 : Tryz.prog.keyLits (n + 1) 9 [c0] with
    | none => simp [f2, f3, g2, g3, hc1, e1] at h
    | some x0 =>
      cases e2 : Tryz.prog.keyLits (n + 1) 9 [c1] with
      | none => simp [f2, f3, g2, g3, hc1, e1, e2] at h
      | some x1 =>
        obtain ⟨s0, rfl, z0⟩ := k1 _ _ e1
        obtain ⟨s1, rfl, z1⟩ := k1 _ _ e2
        refine ⟨(s0, s1), rfl, ⟨z0, z1⟩, ?_⟩
        have h1 := keyOf_lk (l := (s0, s1)) ⟨z0, z1⟩
        unfold lkV at h1
        rw [h0] at h1
        exact Option.some.inj h1
  · cases h

section
variable {w : World} {ops : Array Oper} {rest : List Oper} {o : Oper} {a : Act} {Q : Exit → Act → World → Prop} {r : Nat} {hs : List Hd}
abbrev mapT : TypeId := 150
theorem zero64 (w : World) : (zeroValue 2).run Tryz.prog w = .ok (.int .i64 0) w := by kernel_rfl
theorem map_put (hg : o.guard = none) (m x v : Operand) (hop : o.op = Op.mapUpdate mapT m x v) (hm : a.eval m = .map (some r)) (hM : MapAt w r hs) (l : Lk) (hl : Sz l) (hx : a.eval x = .agg #[.string l.1, .string l.2]) (tx : Int) (ht : (Lit.int .i64 tx).wf = true) (hv : a.eval v = .int .i64 tx)
    (hn : holderP hs l = none) (hlen : hs.length < 4000000)
    (hK : ∀ w', MapAt w' r (hs ++ [(l, tx)]) → w.grownBy w' (some r) → wpList Tryz.prog ops Q rest (a.put o.dst undef) w') : wpList Tryz.prog ops Q (o :: rest) a w := by
  obtain ⟨D, ho, hvw⟩ := hM
  refine wpList_mapUpdate_in w hg m x v mapT hop 42 2 lawLk Tryz.underlying150 _ r hs.length D hm ho (by simp only [maxLen]; omega) _ _ (keyLit l) hx hv (keyOf_lk hl) (.lit (.int .i64 tx)) [] (plainElem_int Tryz.underlying2 ht) fun w' h1 h2 => ?_
  exact hK w' ⟨_, by simpa using h1, hvw.put hl ht hn⟩ h2.grown
theorem map_len (hg : o.guard = none) (m : Operand) (hop : o.op = Op.call { callee := Callee.builtin Builtin.len, args := #[m], argTypes := #[mapT] }) (hm : a.eval m = .map (some r)) (hM : MapAt w r hs)
    (hK : wpList Tryz.prog ops Q rest (a.put o.dst (.int .i64 (hs.length : Nat))) w) : wpList Tryz.prog ops Q (o :: rest) a w := by
  obtain ⟨D, ho, hvw⟩ := hM
  refine wpList_len_own w hg m mapT hop 42 2 Tryz.underlying150 _ r hs.length D hm ho ?_
  rw [hvw.size]
  exact hK

def RangeAt (w : World) (r it : Nat) (hs left : List Hd) : Prop :=
  ∃ (D : DataW Unit) (f : Lit → Bool) (cnt : Nat), w.ranges Tryz.prog 42 (plainElem Tryz.prog 2) r it hs.length D f cnt ∧ View D hs ∧ (∀ h ∈ left, h ∈ hs) ∧ Once left ∧ ∀ l, Sz l → f (keyLit l) = (holderP left l).isSome
theorem RangeAt.map {it : Nat} {left : List Hd} (h : RangeAt w r it hs left) : MapAt w r hs := by
  obtain ⟨D, f, cnt, h1, h2, -⟩ := h
  exact ⟨D, h1.owns, h2⟩
theorem RangeAt.kept {w' : World} {it : Nat} {left : List Hd} {row : Option Nat} (h : RangeAt w r it hs left) (hg : w.grownBy w' row) (h1 : some r ≠ row) (h2 : some it ≠ row) : RangeAt w' r it hs left := by
  obtain ⟨D, f, cnt, h3, h4⟩ := h
  exact ⟨D, f, cnt, h3.kept hg h1 h2, h4⟩
theorem map_range (hg : o.guard = none) (m : Operand) (hop : o.op = Op.range mapT m) (hm : a.eval m = .map (some r)) (hM : MapAt w r hs)
    (hK : ∀ w', RangeAt w' r w.heap.size hs hs → w.grownBy w' none → wpList Tryz.prog ops Q rest (a.put o.dst (.pointer (some ⟨w.heap.size, 0, none⟩))) w') : wpList Tryz.prog ops Q (o :: rest) a w := by
  obtain ⟨D, ho, hvw⟩ := hM
  refine wpList_range_own w hg m mapT hop 42 2 lawLk Tryz.underlying150 _ r hs.length D hm ho fun w' h1 h2 _ => ?_
  exact hK w' ⟨D, _, _, h1, hvw, fun _ h => h, hvw.once, hvw.has⟩ h2
theorem map_next (hg : o.guard = none) (p : Operand) (hop : o.op = Op.next p false) (it : Nat) (left : List Hd) (hp : a.eval p = .pointer (some ⟨it, 0, none⟩)) (hR : RangeAt w r it hs left)
    (hDone : left = [] → wpList Tryz.prog ops Q rest (a.put o.dst (.tuple #[.bool false])) w)
    (hMore : ∀ (l : Lk) (tx : Int) (w' : World), (l, tx) ∈ left → Sz l → (Lit.int .i64 tx).wf = true → RangeAt w' r it hs (left.filter fun h => !decide (h.1 = l)) → w.grownBy w' (some it) → w'.rangeLeft r it < w.rangeLeft r it →
      (Instr.entry (.pointer (some ⟨it, 0, none⟩))).run Tryz.prog w' = .ok (.tuple #[.agg #[.string l.1, .string l.2], .int .i64 tx]) w' → wpList Tryz.prog ops Q rest (a.put o.dst (.tuple #[.bool true, .agg #[.string l.1, .string l.2], .int .i64 tx])) w') :
    wpList Tryz.prog ops Q (o :: rest) a w := by
  obtain ⟨D, f, cnt, h1, hv, hsub, honce, hf⟩ := hR
  refine wpList_next_ranges w hg p hop 42 lawLk (plainElem Tryz.prog 2) (fun l : Lk => .agg #[.string l.1, .string l.2]) (Value.int .i64) (fun key kl h => ?_) (fun v y h => ?_) r it hs.length D f cnt hp h1 (fun _ hno => ?_) (fun l c kl y w' cnt' hkey hleft hval hat hrg hlt hgr _ hen => ?_)
  · obtain ⟨l, e, -⟩ := keyOf_lk_inv h
    exact ⟨l, e⟩
  · obtain ⟨c, e, -⟩ := plainElem_int_inv Tryz.underlying2 h
    exact ⟨c, e⟩
  · refine hDone ?_
    match left, hsub, honce, hf with
    | [], _, _, _ => rfl
    | h :: left, hsub, honce, hf =>
      have h2 := hf h.1 (hv.sz h (hsub h (List.mem_cons_self ..)))
      rw [hno, (holder_some honce (l := h.1) (tx := h.2)).2 (List.mem_cons_self ..)] at h2
      cases h2
  · obtain ⟨l', e, hl, rfl⟩ := keyOf_lk_inv hkey
    simp only [Value.agg.injEq, Array.mk.injEq, List.cons.injEq, Value.string.injEq, and_true] at e
    obtain rfl : l = l' := Prod.ext e.1 e.2
    obtain ⟨c', ec, rfl, hwc⟩ := plainElem_int_inv Tryz.underlying2 hval
    cases ec
    have h2 := hf l hl
    rw [hleft] at h2
    obtain ⟨tx, htx⟩ := Option.isSome_iff_exists.1 h2.symm
    have hm := (holder_some honce).1 htx
    have h3 := hat (.lit (.int .i64 0))
    rw [hv.at_ l hl, (holder_some hv.once).2 (hsub _ hm)] at h3
    simp only [Option.getD_some, DataW.lit.injEq, Lit.int.injEq, true_and] at h3
    subst h3
    refine hMore l tx w' hm hl hwc ⟨D, _, _, hrg, hv, fun h hh => hsub h (List.mem_filter.1 hh).1, List.Nodup.sublist (List.Sublist.map _ List.filter_sublist) honce, fun k hk => ?_⟩ hgr (by rw [hrg.left_eq, h1.left_eq]; exact hlt) hen
    rw [holder_but, hf k hk]
    by_cases e2 : k = l
    · subst e2
      rw [if_pos rfl, WideAt.sameKey_self (keyLit_is _)]
      simp
    · rw [if_neg e2, sameKey_ne (fun e3 => e2 (keyLit_inj hk hl e3))]
      simp
theorem map_rdel (hg : o.guard = none) (m x : Operand) (hop : o.op = Op.call { callee := Callee.builtin Builtin.delete, args := #[m, x], argTypes := #[mapT, 42] }) (hm : a.eval m = .map (some r)) (it : Nat) (left : List Hd) (hR : RangeAt w r it hs left) (l : Lk) (hl : Sz l) (hx : a.eval x = .agg #[.string l.1, .string l.2]) (tx : Int) (hin : (l, tx) ∈ hs) (hnot : ∀ h ∈ left, h.1 ≠ l)
    (hK : ∀ w', RangeAt w' r it (hs.filter fun h => !decide (h.1 = l)) left → w.grownBy w' (some r) → w'.rangeLeft r it ≤ w.rangeLeft r it → wpList Tryz.prog ops Q rest (a.put o.dst (.tuple #[])) w') : wpList Tryz.prog ops Q (o :: rest) a w := by
  obtain ⟨D, f, cnt, h1, hvw, hsub, honce, hf⟩ := hR
  refine wpList_delete_ranges w hg m x mapT 42 hop 2 lawLk Tryz.underlying150 _ r it hs.length D f cnt hm h1 _ (keyLit l) hx (keyOf_lk hl) fun w' cnt' h2 h3 h4 => ?_
  have hv := hvw.del hl hin
  have hnone : holderP left l = none := holder_none.2 fun tx hx => hnot _ hx rfl
  refine hK w' ⟨D.del (keyLit l), fun z => f z && !z.sameKey (keyLit l), cnt', ?_, hv, fun h hh => List.mem_filter.2 ⟨hsub h hh, by simpa using hnot h hh⟩, honce, fun k hk => ?_⟩ h4.grown (by rw [h2.left_eq, h1.left_eq]; exact h3)
  · obtain ⟨es, clock, since, seen, c0, b1, b2, b3, b4, b5⟩ := h2
    refine ⟨es, clock, since, seen, c0, b1, b2, ?_, b4, b5⟩
    have h5 := hv.size
    rw [b4, size_eq, length_sorted] at h5
    simp at h5
    simp [h5]
  · show (f (keyLit k) && !(keyLit k).sameKey (keyLit l)) = _
    rw [hf k hk]
    by_cases e2 : k = l
    · subst e2
      rw [hnone]; simp
    · rw [sameKey_ne (fun e3 => e2 (keyLit_inj hk hl e3))]
      simp
end

theorem MapAt.look {w : World} {r : Nat} {hs : List Hd} (hM : MapAt w r hs) {l : Lk} (hl : Sz l) : (Instr.lookup mapT (.map (some r)) (.agg #[.string l.1, .string l.2]) true).run Tryz.prog w = .ok (.tuple #[.int .i64 ((holderP hs l).getD 0), .bool (holderP hs l).isSome]) w := by
  obtain ⟨D, ho, hv⟩ := hM
  obtain ⟨v, ps, hrun, h1⟩ := ho.look_ok lawLk Tryz.underlying150 (zero64 w) (plainElem_int Tryz.underlying2 (by decide)) (keyOf_lk hl)
  obtain ⟨c, rfl, h2, -⟩ := plainElem_int_inv Tryz.underlying2 h1
  have h3 := congrArg Prod.fst h2
  rw [hv.at_ l hl] at h3
  simp only [DataW.lit.injEq, Lit.int.injEq, true_and] at h3
  rw [hv.has l hl] at hrun
  rw [h3]
  exact hrun
theorem MapAt.len {w : World} {r : Nat} {hs : List Hd} (hM : MapAt w r hs) (ty : TypeId) : (Builtin.len_ #[mapT] ty #[.map (some r)]).run Tryz.prog w = .ok (.int .i64 (hs.length : Nat)) w := by
  obtain ⟨D, ho, hv⟩ := hM
  have := ho.len Tryz.underlying150 ty
  rw [hv.size] at this
  exact this
end Go.Proofs.YtknppiebncdjmaaGreat

namespace Go.Proofs.YtknppiebncdjmaaGreat
set_option maxRecDepth 100000
open Go.RowKit Go.Maps Go.ChangeMaps Go.MapKept

theorem below_drewN8 (w : World) (n : Nat) : Below w.heap.size w (w.drewN n) := ⟨rfl, rfl, rfl, Nat.le_refl _, fun _ _ => rfl⟩
structure MG (w : World) (b r : Nat) (most : Int) (hs : List Hd) : Prop where
  blk : w.heap[b]? = some (.cells #[.int .i64 most, .map (some r)] 152 (0, 0))
  map : MapAt w r hs
  m1 : 1 ≤ most
  m2 : most ≤ 4096
  len : (hs.length : Int) ≤ most
theorem MG.below {w w' : World} {b r : Nat} {most : Int} {hs : List Hd} (h : MG w b r most hs) (g : Below w.heap.size w w') : MG w' b r most hs :=
  ⟨(g.block b (Array.getElem?_eq_some_iff.1 h.blk).1).trans h.blk, h.map.block (g.block r h.map.lt), h.m1, h.m2, h.len⟩

set_option maxHeartbeats 1000000 in
theorem wkMade {w : World} {b r : Nat} {most : Int} {hs : List Hd} (h : MG w b r most hs) :
    Calls Tryz.prog 86 #[.pointer (some ⟨b, 0, none⟩)] w fun e w' => e = .returned (.bool true) ∧ w' = w := by
  have c0 : w.cell? ⟨b, 0, none⟩ = some (.int .i64 most) := cell_of_row _ _ 0 _ _ _ h.blk
  have i1 : ¬ most = 0 := by have := h.m1; omega
  clear h
  go_enter Tryz.func86, Tryz.ntmps86
  go_wp2
  go_ret
  exact ⟨by simp [i1], rfl⟩
set_option maxHeartbeats 1000000 in
theorem wkAll {w : World} {b r : Nat} {most : Int} {hs : List Hd} (h : MG w b r most hs) :
    Calls Tryz.prog 121 #[.pointer (some ⟨b, 0, none⟩)] w fun e w' => e = .returned (.map (some r)) ∧ w' = w := by
  have c1 : w.cell? ⟨b, 1, none⟩ = some (.map (some r)) := cell_of_row _ _ 1 _ _ _ h.blk
  have CM := Lib.hid (wkMade h)
  clear h
  go_enter Tryz.func121, Tryz.ntmps121
  go_wp2_with (go_at_call 86; go_loud (refine CM.out.mono ?_; rintro e w1 ⟨rfl, hw⟩; replace hw := hw.symm; subst hw))
  go_ret
  exact ⟨rfl, rfl⟩
set_option maxHeartbeats 1000000 in
theorem wkLen {w : World} {b r : Nat} {most : Int} {hs : List Hd} (h : MG w b r most hs) :
    Calls Tryz.prog 72 #[.pointer (some ⟨b, 0, none⟩)] w fun e w' => e = .returned (.int .i64 (hs.length : Nat)) ∧ w' = w := by
  have CM := Lib.hid (wkAll h)
  have HM := Lib.hid h.map
  clear h
  go_enter Tryz.func72, Tryz.ntmps72
  go_wp2_with (first
    | (go_at_call 121; go_loud (refine CM.out.mono ?_; rintro e w1 ⟨rfl, hw⟩; replace hw := hw.symm; subst hw))
    | (at_len; go_loud (refine map_len (by rfl) (.tmp 4) (by rfl) (by rfl) HM.out ?_)))
  go_ret
  exact ⟨rfl, rfl⟩
set_option maxHeartbeats 2000000 in
theorem wkHolder {w : World} {b r : Nat} {most : Int} {hs : List Hd} (h : MG w b r most hs) {l : Lk} (hl : Sz l) :
    Calls Tryz.prog 75 #[.pointer (some ⟨b, 0, none⟩), lkV l] w fun e w' => e = .returned (.tuple #[.int .i64 ((holderP hs l).getD 0), .bool (holderP hs l).isSome]) ∧ Below w.heap.size w w' := by
  obtain ⟨W, hW⟩ : ∃ W, w.alloc (.cells #[.string l.1, .string l.2] 42) = W := ⟨_, rfl⟩
  have HB := Lib.hid (show Below w.heap.size w W by rw [← hW]; exact (Below.refl _ _).alloc (Nat.le_refl _) _)
  have q0 : W.heap[w.heap.size]? = some (.cells #[.string l.1, .string l.2] 42 (0, 0)) := by rw [← hW]; exact heap_alloc_new _ _
  have q1 : W.cell? ⟨w.heap.size, 0, none⟩ = some (.string l.1) := cell_of_row _ _ 0 _ _ _ q0
  have q2 : W.cell? ⟨w.heap.size, 1, none⟩ = some (.string l.2) := cell_of_row _ _ 1 _ _ _ q0
  have h2 := h.below HB.out
  have CM := Lib.hid (fun n => wkAll (h2.below (below_drewN8 W n)))
  have HW := Lib.hid hW
  have qL := fun n => (show MapAt (W.drewN n) r hs from h2.map.block rfl).look hl
  clear h h2 hW q0 hl
  unfold lkV
  go_enter Tryz.func75, Tryz.ntmps75
  go_upto_region 1 with fail
  rw [HW.out]
  go_quiet ((go_at_call 121; (try simp only [World.drewN_drewN]); exact Calls.quiet_of_same (CM.out _)))
  go_wp2
  refine bodyPost_ret (v := .tuple #[.int .i64 ((holderP hs l).getD 0), .bool (holderP hs l).isSome]) (by simp [results, Tryz.results75, go_sem]) rfl ⟨rfl, below_next HB.out (below_drewN8 W _)⟩
end Go.Proofs.YtknppiebncdjmaaGreat

namespace Go.Proofs.YtknppiebncdjmaaGreat
set_option maxRecDepth 100000
open Go.RowKit Go.Maps Go.ChangeMaps Go.MapKept

set_option maxHeartbeats 1000000 in
theorem wkNew_no {w : World} {most : Int} (h : most < 1 ∨ 4096 < most) :
    Calls Tryz.prog 36 #[.int .i64 most] w fun e w' => e = .returned (.tuple #[.pointer none, .int .i64 1]) ∧ w' = w := by
  by_cases i1 : most < 1
  · clear h
    go_enter Tryz.func36, Tryz.ntmps36
    go_wp2
    refine bodyPost_ret (v := .tuple #[.pointer none, .int .i64 1]) (by simp [results, Tryz.results36, go_sem]) rfl ⟨rfl, rfl⟩
  · have i2 : 4096 < most := by omega
    clear h
    go_enter Tryz.func36, Tryz.ntmps36
    go_wp2
    refine bodyPost_ret (v := .tuple #[.pointer none, .int .i64 1]) (by simp [results, Tryz.results36, go_sem]) rfl ⟨rfl, rfl⟩
set_option maxHeartbeats 1000000 in
theorem wkNew {w : World} {most : Int} (h : ¬ (most < 1 ∨ 4096 < most)) :
    Calls Tryz.prog 36 #[.int .i64 most] w fun e w' => e = .returned (.tuple #[.pointer (some ⟨w.heap.size + 1, 0, none⟩), .int .i64 0]) ∧ MG w' (w.heap.size + 1) w.heap.size most [] ∧ Below w.heap.size w w' := by
  have i1 : ¬ most < 1 := by omega
  have i2 : ¬ 4096 < most := by omega
  have hmm := @run_makeMap Tryz.prog
  have HM := Lib.hid (show 1 ≤ most ∧ most ≤ 4096 by omega)
  obtain ⟨W1, hW1⟩ : ∃ W, w.alloc (.map #[] 0) = W := ⟨_, rfl⟩
  have HW1 := Lib.hid hW1
  have HS := Lib.hid (show W1.heap.size = w.heap.size + 1 by rw [← hW1]; simp)
  have B1 := Lib.hid (show Below w.heap.size w W1 by rw [← hW1]; exact (Below.refl _ _).alloc (Nat.le_refl _) _)
  have M1 := Lib.hid (show MapAt W1 w.heap.size [] by rw [← hW1]; exact MapAt.new w)
  clear h hW1
  go_enter Tryz.func36, Tryz.ntmps36
  go_wp2
  refine bodyPost_ret (v := .tuple #[.pointer (some ⟨w.heap.size + 1, 0, none⟩), .int .i64 0]) (by simp [results, Tryz.results36, go_sem]) rfl ⟨rfl, ?_, ?_⟩
  · rw [HW1.out]
    refine ⟨by rw [← HS.out]; exact heap_alloc_new W1 _, M1.out.block (((Below.refl W1.heap.size W1).alloc (Nat.le_refl _) _).block _ M1.out.lt), HM.out.1, HM.out.2, by simp; omega⟩
  · rw [HW1.out]
    exact B1.out.alloc B1.out.size _

set_option maxHeartbeats 8000000 in
theorem wkTake {w : World} {b r : Nat} {most : Int} {hs : List Hd} (h : MG w b r most hs) {l : Lk} (hl : Sz l) (tx snap last : Int) (ht : (Lit.int .i64 tx).wf = true) :
    Calls Tryz.prog 50 #[.pointer (some ⟨b, 0, none⟩), .int .i64 tx, .int .i64 snap, .int .i64 last, lkV l] w fun e w' => e = .returned (.int .i64 (takeP most hs tx snap last l).1) ∧ MG w' b r most (takeP most hs tx snap last l).2 ∧ Out (fun k => k = r) w w' := by
  obtain ⟨W, hW⟩ : ∃ W, w.alloc (.cells #[.string l.1, .string l.2] 42) = W := ⟨_, rfl⟩
  have HB := Lib.hid (show Below w.heap.size w W by rw [← hW]; exact (Below.refl _ _).alloc (Nat.le_refl _) _)
  have q0 : W.heap[w.heap.size]? = some (.cells #[.string l.1, .string l.2] 42 (0, 0)) := by rw [← hW]; exact heap_alloc_new _ _
  have q1 : W.cell? ⟨w.heap.size, 0, none⟩ = some (.string l.1) := cell_of_row _ _ 0 _ _ _ q0
  have q2 : W.cell? ⟨w.heap.size, 1, none⟩ = some (.string l.2) := cell_of_row _ _ 1 _ _ _ q0
  have h2 := h.below HB.out
  have c0 : W.cell? ⟨b, 0, none⟩ = some (.int .i64 most) := cell_of_row _ _ 0 _ _ _ h2.blk
  have c1 : W.cell? ⟨b, 1, none⟩ = some (.map (some r)) := cell_of_row _ _ 1 _ _ _ h2.blk
  have CM := Lib.hid (wkMade h2)
  have HW := Lib.hid hW
  have HM := Lib.hid h2
  have HL := Lib.hid hl
  have HT0 := Lib.hid ht
  obtain ⟨ho, hh⟩ : ∃ q, holderP hs l = q := ⟨_, rfl⟩
  have HH := Lib.hid hh
  have qL := (show MapAt W.drew r hs from h2.map.block rfl).look hl
  have qN := fun ty => (show MapAt W.drew.drew r hs from h2.map.block rfl).len ty
  rw [hh] at qL
  clear h h2 hW q0 hl ht
  unfold lkV
  go_enter Tryz.func50, Tryz.ntmps50
  go_upto_region 1 with fail
  rw [HW.out]
  go_upto_region 3 with (go_at_call 86; go_loud (refine CM.out.mono ?_; rintro e w1 ⟨rfl, hw⟩; replace hw := hw.symm; subst hw))
  by_cases i1 : tx < 1
  · have HT := Lib.hid (show takeP most hs tx snap last l = (1, hs) by unfold takeP; rw [if_pos (.inl i1)])
    clear hh
    go_wp2
    go_ret
    exact ⟨by rw [HT.out] <;> rfl, by rw [HT.out]; exact HM.out, Out.of_below HB.out _⟩
  · by_cases i2 : snap < 0
    · have HT := Lib.hid (show takeP most hs tx snap last l = (1, hs) by unfold takeP; rw [if_pos (.inr (.inl i2))])
      clear hh
      go_wp2
      go_ret
      exact ⟨by rw [HT.out] <;> rfl, by rw [HT.out]; exact HM.out, Out.of_below HB.out _⟩
    · by_cases i3 : last < 0
      · have HT := Lib.hid (show takeP most hs tx snap last l = (1, hs) by unfold takeP; rw [if_pos (.inr (.inr i3))])
        clear hh
        go_wp2
        go_ret
        exact ⟨by rw [HT.out] <;> rfl, by rw [HT.out]; exact HM.out, Out.of_below HB.out _⟩
      · have hng : ¬ (tx < 1 ∨ snap < 0 ∨ last < 0) := by omega
        cases ho with
        | some x =>
          have ht : takeP most hs tx snap last l = if x = tx then (0, hs) else (80, hs) := by unfold takeP; rw [if_neg hng, hh]
          simp only [Option.getD_some, Option.isSome_some] at qL
          by_cases ix : x = tx
          · rw [if_pos ix] at ht
            have HT := Lib.hid ht
            clear ht hng hh
            go_upto_region 5 with fail
            go_region
            go_wp2
            go_ret
            exact ⟨by rw [HT.out] <;> rfl, by rw [HT.out]; exact HM.out.below (Below.refl _ _).drew, Out.of_below HB.out.drew _⟩
          · rw [if_neg ix] at ht
            have HT := Lib.hid ht
            clear ht hng hh
            go_upto_region 5 with fail
            go_region
            go_wp2
            go_ret
            exact ⟨by rw [HT.out] <;> rfl, by rw [HT.out]; exact HM.out.below (Below.refl _ _).drew, Out.of_below HB.out.drew _⟩
        | none =>
          have ht : takeP most hs tx snap last l = if snap < last then (81, hs) else if most ≤ hs.length then (4, hs) else (0, hs ++ [(l, tx)]) := by unfold takeP; rw [if_neg hng, hh]
          simp only [Option.getD_none, Option.isSome_none] at qL
          by_cases il : snap < last
          · rw [if_pos il] at ht
            have HT := Lib.hid ht
            clear ht hng hh
            go_upto_region 5 with fail
            go_region
            go_wp2
            go_ret
            exact ⟨by rw [HT.out] <;> rfl, by rw [HT.out]; exact HM.out.below (Below.refl _ _).drew, Out.of_below HB.out.drew _⟩
          · rw [if_neg il] at ht
            by_cases im : most ≤ (hs.length : Int)
            · rw [if_pos im] at ht
              have HT := Lib.hid ht
              clear ht hng hh
              go_upto_region 5 with fail
              go_region
              go_upto_region 12 with fail
              go_region
              go_wp2
              go_ret
              exact ⟨by rw [HT.out] <;> rfl, by rw [HT.out]; exact HM.out.below (Below.refl _ _).drew.drew, Out.of_below HB.out.drew.drew _⟩
            · rw [if_neg im] at ht
              have HT := Lib.hid ht
              have HI := Lib.hid im
              obtain ⟨V, hV⟩ : ∃ V, W.drew.drew = V := ⟨_, rfl⟩
              have HV := Lib.hid hV
              have v1 : V.cell? ⟨w.heap.size, 0, none⟩ = some (.string l.1) := by rw [← hV]; exact q1
              have v2 : V.cell? ⟨w.heap.size, 1, none⟩ = some (.string l.2) := by rw [← hV]; exact q2
              have v3 : V.cell? ⟨b, 1, none⟩ = some (.map (some r)) := by rw [← hV]; exact c1
              have BV := Lib.hid (show Below w.heap.size w V by rw [← hV]; exact HB.out.drew.drew)
              have HD := Lib.hid (show MG V.drew b r most hs by rw [← hV]; exact HM.out.below (Below.refl _ _).drew.drew.drew)
              clear ht hng hh hV
              go_upto_region 5 with fail
              go_region
              go_upto_region 12 with fail
              go_region
              go_upto_region 14 with fail
              rw [HV.out]
              clear q1 q2 c0 c1 qL qN
              go_still_tail 6, (by kernel_rfl)
              go_wp2_with (at_mapUpdate; go_loud (refine map_put (hs := hs) (by rfl) (.tmp 62) (.tmp 63) (.tmp 64) (by rfl) (by rfl) HD.out.map l HL.out (by rfl) tx HT0.out (by rfl) HH.out (by have := HM.out.len; have := HM.out.m2; omega) ?_; intro w5 m5 g5; have M5 := Lib.hid m5; have G5 := Lib.hid g5; clear m5 g5))
              go_ret
              have hbr : b ≠ r := HD.out.map.no HD.out.blk
              refine ⟨by rw [HT.out] <;> rfl, ?_, ?_⟩
              · rw [HT.out]
                refine ⟨?_, M5.out, HM.out.m1, HM.out.m2, by have := HI.out; simp; omega⟩
                exact (G5.out.block b (Array.getElem?_eq_some_iff.1 HD.out.blk).1 (fun e => hbr (Option.some.inj e))).trans HD.out.blk
              · exact (Out.of_below (F := fun k => k = r) BV.out.drew).grown G5.out (fun k e => .inl (Option.some.inj e).symm)
end Go.Proofs.YtknppiebncdjmaaGreat

namespace Go.Proofs.YtknppiebncdjmaaGreat
set_option maxRecDepth 100000
open Go.Joins Go.Deep Go.ChangeShapes Go.WideShapes Go.ChangeAt Go.RowKit

section
variable {H : Type} {enc : TypeId × Value → H} {P : Program} {w : World} {held : Bool}

theorem wf_i64 {a : Int} (h : (Lit.int .i64 a).wf = true) : -9223372036854775808 ≤ a ∧ a ≤ 9223372036854775807 := by
  simpa [Lit.wf, IntKind.min, IntKind.max, IntKind.bits, IntKind.signed] using h
theorem open_struct {r : Reach} {b0 : Nat} {t : TypeId} {fs : Array Field} {v : Value} {d : DataW H} {p : List MemPlace} (hs : P.underlying t = some (.struct fs)) (hone : oneCellFields P fs = true) (hC : P.cellsOf t = fs.size)
    (hv : Value.okWide P w r b0 t v) (h : DataW.Trod enc P w 0 (fun _ => true) held t v d p) :
    ∃ (vs : List Value) (ys : List (DataW H × List MemPlace)) (n : Nat), v = .agg vs.toArray ∧ vs.length = fs.size ∧ ys.length = fs.size ∧ d = .agg (ys.map (·.1)) ∧
      ∀ (j : Nat) (f : Field), fs[j]? = some f → DataW.trod enc P w 0 (fun _ => true) held n f.type [vs.getD j undef] = some (ys.getD j (.nil, [])) := by
  obtain ⟨cs, rfl, hsz⟩ := okWide_struct hs hv
  obtain ⟨fuel, hf⟩ := h
  obtain ⟨xs, n, _, hx, hcl, hlen, hg⟩ := DataW.trod_struct hs hf
  have hcl' : cs.toList.length = fs.size := by simpa [Value.cells] using hcl.trans hC
  refine ⟨cs.toList, xs, n, rfl, hcl', hlen, by rw [Prod.mk.injEq] at hx; exact hx.1, fun j f hj => ?_⟩
  obtain ⟨ho, hk⟩ := hone_of hone j f hj
  have hjl : j < fs.size := (Array.getElem?_eq_some_iff.1 hj).1
  have h1 := hg j f hj
  rw [ho, hk] at h1
  have e1 : ((Value.cells (.agg cs)).toList.drop j).take 1 = [cs.toList.getD j undef] := by
    show (cs.toList.drop j).take 1 = _
    rw [List.drop_eq_getElem_cons (by omega)]
    simp [List.getD_eq_getElem?_getD, List.getElem?_eq_getElem (show j < cs.toList.length by omega)]
  rw [e1] at h1
  rw [h1, List.getD_eq_getElem?_getD, List.getElem?_eq_getElem (show j < xs.length by omega)]
  rfl

def Light (P : Program) (t : TypeId) (d : DataW H) : Prop := ∀ n ∈ d.weights P t, n ≤ reachBytes

theorem light_each {ts : List TypeId} {ds : List (DataW H)} (h : (DataW.weightsEach P ts ds).all (· ≤ reachBytes) = true) {j : Nat} {t : TypeId} {d : DataW H} (ht : ts[j]? = some t) (hd : ds[j]? = some d) : Light P t d :=
  fun n hn => by
    have := List.all_eq_true.1 h n (DataW.weights_mem_each ht hd n hn)
    simpa using this

theorem light_field {t : TypeId} {fs : Array Field} {parts : List (DataW H)} (hs : P.underlying t = some (.struct fs)) (h : Light P t (.agg parts)) {j : Nat} {t' : TypeId} {d : DataW H}
    (ht : (fs.toList.map (·.type))[j]? = some t') (hd : parts[j]? = some d) : Light P t' d :=
  fun n hn => h n (by simp only [DataW.weights, hs]; exact DataW.weights_mem_each ht hd n hn)

theorem light_string {t : TypeId} {l : List UInt8} (h : Light (H := H) P t (.lit (.string l))) : l.length ≤ 140737488351232 := by
  have := h l.length (by simp [DataW.weights])
  simpa [reachBytes] using this
end

theorem open_str {H : Type} {enc : TypeId × Value → H} {P : Program} {w : World} {held : Bool} {t : TypeId} {fuel : Nat} {v : Value} {y : DataW H × List MemPlace} (ht : P.underlying t = some .string)
    (h : DataW.trod enc P w 0 (fun _ => true) held fuel t [v] = some y) : ∃ s : ByteArray, v = .string s ∧ y.1 = .lit (.string s.data.toList) := by
  obtain ⟨s, h1, h2, _⟩ := DataW.trod_string ht h
  exact ⟨s, by simpa using h1, by rw [h2]⟩
theorem open_num {H : Type} {enc : TypeId × Value → H} {P : Program} {w : World} {held : Bool} {t : TypeId} {k : IntKind} {fuel : Nat} {v : Value} {y : DataW H × List MemPlace} (ht : P.underlying t = some (.int k))
    (h : DataW.trod enc P w 0 (fun _ => true) held fuel t [v] = some y) : ∃ a, v = .int k a ∧ (Lit.int k a).wf = true := by
  obtain ⟨a, h1, h2, h3⟩ := DataW.trod_int ht h
  exact ⟨a, by simpa using h1, h3⟩
end Go.Proofs.YtknppiebncdjmaaGreat

namespace Go.Proofs.YtknppiebncdjmaaGreat
set_option maxRecDepth 100000
open Go.Joins Go.Deep Go.ChangeShapes Go.WideShapes Go.ChangeAt Go.RowKit

structure OpS where
  kind : Int
  tx : Int
  x : Rd
  key : ByteArray
def OpS.cells (o : OpS) : List Value := [.int .i64 o.kind, .int .i64 o.tx, .string o.x.tb, .int .i64 o.x.kd, .string o.x.lo, .string o.x.hi, .string o.key]
theorem rangeAt_belowS {w w' : World} {b o : Nat} {cs : List Value} (h : w.rangeAt b o cs) (hb : Below w.heap.size w w') : w'.rangeAt b o cs := fun j v hv => keep_below (h j v hv) hb
section
variable {H : Type} {enc : TypeId × Value → H} {P : Program} {w : World} {held : Bool}
theorem open_strS {t : TypeId} {fuel : Nat} {v : Value} {y : DataW H × List MemPlace} (ht : P.underlying t = some .string) (hl : Light P t y.1)
    (h : DataW.trod enc P w 0 (fun _ => true) held fuel t [v] = some y) : ∃ s : ByteArray, v = .string s ∧ s.size ≤ 140737488351232 := by
  obtain ⟨s, rfl, h2⟩ := open_str ht h
  rw [h2] at hl
  have h' := light_string hl
  rw [Array.length_toList] at h'
  exact ⟨s, rfl, h'⟩
theorem weightsAll_inS {e : TypeId} {d : DataW H} : ∀ {l : List (DataW H)}, d ∈ l → ∀ n ∈ d.weights P e, n ∈ DataW.weightsAll P e l
  | x :: r, hd, n, hn => by
    rw [DataW.weightsAll, List.mem_append]
    rcases List.mem_cons.1 hd with rfl | hd
    · exact .inl hn
    · exact .inr (weightsAll_inS hd n hn)
theorem light_elemS {t e : TypeId} {elems rest : List (DataW H)} (ht : P.underlying t = some (.slice e)) (h : Light P t (.slice elems rest)) {d : DataW H} (hd : d ∈ elems) : Light P e d :=
  fun n hn => h n (by simp only [DataW.weights, ht, List.mem_cons, List.mem_append]; exact .inr (.inl (weightsAll_inS hd n hn)))
theorem light_sizedS {t e : TypeId} {d : DataW H} {cap b : Nat} (ht : P.underlying t = some (.slice e)) (hb : P.bytesOf e = b) (h : Light P t d)
    (hd : (d = .nil ∧ cap = 0) ∨ ∃ elems rest, d = .slice elems rest ∧ elems.length + rest.length = cap) : cap * b ≤ 140737488351232 := by
  rcases hd with ⟨_, rfl⟩ | ⟨elems, rest, rfl, hc⟩
  · omega
  · have := h ((elems.length + rest.length) * P.bytesOf e) (by simp [DataW.weights, ht])
    rw [hb, hc] at this
    simpa [reachBytes] using this
theorem spot_noneS {w : World} {ad : Addr} {v : Value} (hc : w.cell? ad = some v) : ad.spot = none := by
  unfold World.cell? at hc
  split at hc
  · split at hc
    · cases hc
    · rename_i hh; simpa using hh
  · cases hc
theorem spot_addS {ad : Addr} (h : ad.spot = none) : ∃ b o, ad = ⟨b, o, none⟩ := by
  obtain ⟨b, o, s⟩ := ad
  simp only at h
  subst h
  exact ⟨b, o, rfl⟩
theorem open_laidS {t : TypeId} {fs : Array Field} {m : Nat} {cs : List Value} {y : DataW H × List MemPlace} (hs : P.underlying t = some (.struct fs)) (hone : oneCellFields P fs = true) (hC : P.cellsOf t = fs.size)
    (h : DataW.trod enc P w 0 (fun _ => true) held m t cs = some y) :
    ∃ (ys : List (DataW H × List MemPlace)) (n : Nat), cs.length = fs.size ∧ ys.length = fs.size ∧ y.1 = .agg (ys.map (·.1)) ∧
      ∀ (j : Nat) (f : Field), fs[j]? = some f → DataW.trod enc P w 0 (fun _ => true) held n f.type [cs.getD j undef] = some (ys.getD j (.nil, [])) := by
  obtain ⟨xs, n, _, hx, hcl, hlen, hg⟩ := DataW.trod_struct hs h
  have hcl' : cs.length = fs.size := hcl.trans hC
  refine ⟨xs, n, hcl', hlen, by rw [hx], fun j f hj => ?_⟩
  obtain ⟨ho, hk⟩ := hone_of hone j f hj
  have hjl : j < fs.size := (Array.getElem?_eq_some_iff.1 hj).1
  have h1 := hg j f hj
  rw [ho, hk] at h1
  have e1 : (cs.drop j).take 1 = [cs.getD j undef] := by
    rw [List.drop_eq_getElem_cons (by omega), List.take_succ_cons, List.take_zero]
    simp [List.getD_eq_getElem?_getD, List.getElem?_eq_getElem (show j < cs.length by omega)]
  rw [e1] at h1
  rw [h1, List.getD_eq_getElem?_getD, List.getElem?_eq_getElem (show j < xs.length by omega)]
  rfl
theorem open_wideS {t : TypeId} {fs : Array Field} {m : Nat} {cs : List Value} {y : DataW H × List MemPlace} (hs : P.underlying t = some (.struct fs))
    (h : DataW.trod enc P w 0 (fun _ => true) held m t cs = some y) :
    ∃ (ys : List (DataW H × List MemPlace)) (n : Nat), cs.length = P.cellsOf t ∧ ys.length = fs.size ∧ y.1 = .agg (ys.map (·.1)) ∧
      ∀ (j : Nat) (f : Field), fs[j]? = some f → DataW.trod enc P w 0 (fun _ => true) held n f.type ((cs.drop f.offset).take (P.cellsOf f.type)) = some (ys.getD j (.nil, [])) := by
  obtain ⟨xs, n, _, hx, hcl, hlen, hg⟩ := DataW.trod_struct hs h
  refine ⟨xs, n, hcl, hlen, by rw [hx], fun j f hj => ?_⟩
  have hjl : j < fs.size := (Array.getElem?_eq_some_iff.1 hj).1
  have h1 := hg j f hj
  rw [h1, List.getD_eq_getElem?_getD, List.getElem?_eq_getElem (show j < xs.length by omega)]
  rfl
end
theorem cells_mapMS {w : World} {a : Addr} {n : Nat} {cs : List Value} (h : w.cells? 0 a n = some cs) : cs.length = n ∧ ∀ j, j < n → w.cell? (a.add j) = some (cs.getD j undef) := by
  unfold World.cells? at h
  rw [if_pos (Nat.zero_le _)] at h
  have hlen : cs.length = n := by simpa using Go.mapM_some_length h
  refine ⟨hlen, fun j hj => ?_⟩
  have := Go.mapM_some_get h j j (by simp [hj])
  rw [this, List.getD_eq_getElem?_getD, List.getElem?_eq_getElem (by omega)]
  rfl
instance : Inhabited OpS := ⟨⟨0, 0, default, ⟨#[]⟩⟩⟩
end Go.Proofs.YtknppiebncdjmaaGreat
