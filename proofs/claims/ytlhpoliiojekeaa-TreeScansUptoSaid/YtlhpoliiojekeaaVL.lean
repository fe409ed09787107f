/- Words for memory: a slice whose elements take one cell each, of any type: what it reads as, and one that the call itself made. -/
import Derived.Test.YtlhpoliiojekeaaProg
import Derived.Test.YtlhpoliiojekeaaMem
import Derived.Laws.AppendOwnNone
import Derived.Deep.AppendLies
import Derived.Maps.AppendAt
import Derived.ProofKit
import Derived.Lib.AppendZerosOnto
import Derived.Deep.Cut
import Derived.Lib.SliceRun
import Derived.Deep.RegionWith
import Derived.Deep.RegionHeld3
import Derived.Deep.RegionLaw
import Derived.BigQuiet
import Derived.LoopTactic
namespace Go.Proofs.Ytlhpoliiojekeaa
set_option maxRecDepth 100000
open Go.RowKit

/-- The types of a list's elements. -/
abbrev ET (e : TypeId) : Prop := e = 9 ∨ e = 2 ∨ e = 80 ∨ e = 43 ∨ e = 36 ∨ e = 99 ∨ e = 90
/-- The block is a list's. -/
def NT (w : World) (b : Nat) : Prop := ∀ cs e fr, w.heap[b]? = some (.cells cs e fr) → ET e
theorem NT.row {w : World} {b : Nat} {cs : Array Value} {e : TypeId} {fr : Nat × Nat} (h : w.heap[b]? = some (.cells cs e fr)) (he : ET e) : NT w b := by
  intro cs' e' fr' h'
  rw [h] at h'
  simp only [Option.some.injEq, Obj.cells.injEq] at h'
  rw [← h'.2.1]; exact he
theorem NT.keep {w w' : World} {b : Nat} (h : NT w b) (hb : w'.heap[b]? = w.heap[b]?) : NT w' b := fun cs e fr => by rw [hb]; exact h cs e fr
/-- The block is no list's and no node's. -/
def Fo (w : World) (T : Nat) : Prop := ∃ cs e fr, w.heap[T]? = some (.cells cs e fr) ∧ e ≠ 101 ∧ e ≠ 109 ∧ ¬ ET e
theorem Fo.nt {w : World} {T : Nat} (h : Fo w T) : ¬ NT w T := fun hn => by
  obtain ⟨cs, e, fr, h1, -, -, h2⟩ := h
  exact h2 (hn _ _ _ h1)
/-- The slice of address A and length n reads as the values vs, one a cell. -/
structure VB (w : World) (A : Option Addr) (n : Nat) (vs : List Value) : Prop where
  len : vs.length = n
  one : ∀ u ∈ vs, u.oneCell' = true
  cell : 0 < n → ∃ ad, A = some ad ∧ NT w ad.block ∧ ∀ (j : Nat) u, vs[j]? = some u → w.cell? (ad.add j) = some u

section
variable {w w' : World} {A : Option Addr} {n : Nat} {vs : List Value}
theorem VB.at_ {k : Nat} {u : Value} (h : VB w A n vs) (hk : vs[k]? = some u) : ∃ ad, A = some ad ∧ w.cell? (ad.add k) = some u := by
  have hlt : k < vs.length := by
    rcases Nat.lt_or_ge k vs.length with h1 | h1
    · exact h1
    · rw [List.getElem?_eq_none h1] at hk; cases hk
  obtain ⟨ad, e, -, hc⟩ := h.cell (by have := h.len; omega)
  exact ⟨ad, e, hc k u hk⟩
theorem VB.keep (h : VB w A n vs) (hk : ∀ (p : Addr) v, w.cell? p = some v → w'.cell? p = some v) (hn : ∀ b v i, w.cell? ⟨b, i, none⟩ = some v ∨ (∃ a : Addr, a.block = b ∧ w.cell? a = some v) → NT w b → NT w' b) : VB w' A n vs :=
  ⟨h.len, h.one, fun hn0 => by
    obtain ⟨ad, e, nt, hc⟩ := h.cell hn0
    obtain ⟨u, hu⟩ : ∃ u, vs[0]? = some u := ⟨_, List.getElem?_eq_getElem (by rw [h.len]; exact hn0)⟩
    exact ⟨ad, e, hn ad.block u 0 (.inr ⟨ad.add 0, block_add _ _, hc 0 u hu⟩) nt, fun j u hj => hk _ _ (hc j u hj)⟩⟩
theorem VB.below {B : Nat} (h : VB w A n vs) (hb : Below B w w') (hB : w.heap.size ≤ B) : VB w' A n vs :=
  h.keep (fun p _ hp => (hb.cell (Nat.lt_of_lt_of_le (World.block_lt_of_cell? w p hp) hB)).trans hp) fun b v i hv nt => nt.keep (hb.block b (by
    rcases hv with hv | ⟨a, rfl, hv⟩
    · exact Nat.lt_of_lt_of_le (World.block_lt_of_cell? w _ hv) hB
    · exact Nat.lt_of_lt_of_le (World.block_lt_of_cell? w a hv) hB))
theorem VB.below' (h : VB w A n vs) (hb : Below w.heap.size w w') : VB w' A n vs := h.below hb (Nat.le_refl _)
theorem VB.drew (h : VB w A n vs) : VB w.drew A n vs := ⟨h.len, h.one, h.cell⟩
theorem VB.cut {k : Nat} (h : VB w A n vs) (hk : k ≤ n) (cap : Nat) (hc : n ≤ cap) :
    VB w (if cap = k then A else A.map (·.add k)) (n - k) (vs.drop k) := by
  refine ⟨by rw [List.length_drop, h.len], fun z hz => h.one z (List.mem_of_mem_drop hz), fun hn => ?_⟩
  obtain ⟨ad, rfl, nt, hcell⟩ := h.cell (by omega)
  rw [if_neg (by omega)]
  refine ⟨ad.add k, rfl, by rw [block_add]; exact nt, fun j u hj => ?_⟩
  rw [add_add]
  refine hcell (k + j) u ?_
  rw [List.getElem?_drop] at hj
  exact hj
theorem VB.take {k : Nat} (h : VB w A n vs) (hk : k ≤ n) : VB w A k (vs.take k) := by
  refine ⟨by rw [List.length_take, h.len]; omega, fun z hz => h.one z (List.mem_of_mem_take hz), fun hn => ?_⟩
  obtain ⟨ad, rfl, nt, hcell⟩ := h.cell (by omega)
  refine ⟨ad, rfl, nt, fun j u hj => hcell j u ?_⟩
  rw [List.getElem?_take] at hj
  split at hj
  · exact hj
  · cases hj
theorem VB.empty (w : World) (A : Option Addr) : VB w A 0 [] := ⟨rfl, by simp, fun h => absurd h (by omega)⟩
theorem VB.row {g : Nat} {e : TypeId} {fr : Nat × Nat} (he : ET e) (ho : ∀ u ∈ vs, u.oneCell' = true) (h : w.heap[g]? = some (.cells vs.toArray e fr)) : VB w (some ⟨g, 0, none⟩) vs.length vs := by
  refine ⟨rfl, ho, fun _ => ⟨_, rfl, NT.row h he, fun j u hj => ?_⟩⟩
  have hadd : (⟨g, 0, none⟩ : Addr).add j = ⟨g, j, none⟩ := by unfold Addr.add; split <;> simp_all
  rw [hadd, cell_of_row w g j _ e fr h]
  simpa using hj
end

/-- A slice's type, its elements' type, their zero, their bytes. -/
structure El where
  t : TypeId
  e : TypeId
  z : Value
  b : Nat
structure El.Ok (E : El) : Prop where
  und : Try.prog.underlying E.t = some (.slice E.e)
  info : (Try.prog.info? E.e).map (fun i => (i.zero, i.size, i.bytes)) = some (some E.z, 1, E.b)
  small : E.b ≤ 16
  zc : E.z.cells = #[E.z]
  b0 : 0 < E.b

/-- The value v is a slice that holds vs and owns its row among the blocks from base on. -/
structure VO (E : El) (base : Nat) (w : World) (v : Value) (vs : List Value) : Prop where
  own : w.ownsRow base E.e 1 v vs.length vs
  one : ∀ u ∈ vs, u.oneCell' = true

section
variable {E : El} {base : Nat} {w w' : World} {v : Value} {vs : List Value}
theorem VO.form (h : VO E base w v vs) (hnt : ET E.e := by decide) : ∃ A c, v = .slice A vs.length c ∧ VB w A vs.length vs ∧ vs.length ≤ c ∧ c ≤ maxLen := by
  rcases h.own.2 with ⟨rfl, h0⟩ | ⟨g, cap, cur, rfl, _, hh, hc, hm, _, ht⟩
  · have hz : vs = [] := List.eq_nil_of_length_eq_zero h0
    subst hz
    exact ⟨none, 0, rfl, VB.empty w _, Nat.le_refl _, by simp [maxLen]⟩
  · refine ⟨_, cap, rfl, ⟨rfl, h.one, fun hn => ⟨_, rfl, NT.row hh hnt, fun j u hj => ?_⟩⟩, hc, hm⟩
    exact h.own.cells (g := g) rfl j u hj
theorem VO.nil (E : El) (base : Nat) (w : World) : VO E base w (.slice none 0 0) [] := ⟨World.ownsRow_nil _ _ _ _, by simp⟩
theorem VO.drew (h : VO E base w v vs) : VO E base w.drew v vs := ⟨h.own.drew, h.one⟩
theorem VO.alloc (h : VO E base w v vs) (o : Obj) : VO E base (w.alloc o) v vs := ⟨h.own.alloc o, h.one⟩
theorem VO.below (h : VO E base w v vs) (hb : Below w.heap.size w w') : VO E base w' v vs := by
  refine ⟨h.own.kept (row := none) ⟨hb.os, hb.tape, hb.output, hb.size, fun k hk _ => hb.block k hk⟩ ?_, h.one⟩
  cases hv : v.ownBlock <;> simp
theorem VO.mono {base' : Nat} (h : VO E base w v vs) (hb : base' ≤ base) : VO E base' w v vs := by
  refine ⟨⟨h.own.1, ?_⟩, h.one⟩
  rcases h.own.2 with h0 | ⟨g, cap, cur, hv, hg, r⟩
  · exact .inl h0
  · exact .inr ⟨g, cap, cur, hv, by omega, r⟩
theorem VO.lt (h : VO E base w v vs) : ∀ k, v.ownBlock = some k → base ≤ k ∧ k < w.heap.size := h.own.lt
end
theorem below_of_grown {base : Nat} {w w' : World} {row : Option Nat} (hg : w.grownBy w' row) (hbase : base ≤ w.heap.size) (hr : ∀ k, row = some k → base ≤ k) : Below base w w' :=
  (Below.refl base w).grown hg hbase hr

theorem run_append_nothing {P : Program} (w : World) {base e size n : Nat} {v : Value} {xs : List Value} (t ty : TypeId) (i : TypeInfo) (ht : P.underlying t = some (.slice e)) (hi : P.info? e = some i)
    (hown : w.ownsRow base e size v n xs) (c : Nat) : (Builtin.append_ #[t, t] ty #[v, .slice none 0 c]).run P w = .ok v w := by
  rcases hown.2 with ⟨hv, _⟩ | ⟨g, cap, cur, hv, _, _, hnc, _⟩ <;> subst hv
  · simp [Builtin.append_, run_underlying ht, sizeOf, typeInfo, hi, Builtin.lenOf, Builtin.firstCells]
  · simp [Builtin.append_, run_underlying ht, sizeOf, typeInfo, hi, Builtin.lenOf, Builtin.firstCells, hnc, storeCells]

/-- append onto a slice that the call itself made. -/
theorem vo_append {w : World} {ops : Array Oper} {rest : List Oper} {o : Oper} {a : Act} {Q : Exit → Act → World → Prop} (E : El) (hE : E.Ok) (hgd : o.guard = none) (s x : Operand)
    (ho : o.op = .call { callee := .builtin .append, args := #[s, x], argTypes := #[E.t, E.t] })
    (base : Nat) (v : Value) (vs : List Value) (hs : a.eval s = v) (hown : VO E base w v vs) (A : Option Addr) (m c : Nat) (ys : List Value) (hx : a.eval x = .slice A m c) (hr : VB w A m ys)
    (hsz : vs.length + m ≤ 1048576) (hbase : base ≤ w.heap.size)
    (h : ∀ v' w', VO E base w' v' (vs ++ ys) → Below base w w' → w.grownBy w' v.ownBlock → wpList Try.prog ops Q rest (a.put o.dst v') w') : wpList Try.prog ops Q (o :: rest) a w := by
  obtain ⟨i0, hi, hz0, hz1, hz2⟩ := info_parts hE.info
  have hrow : ∀ k, v.ownBlock = some k → base ≤ k := fun k hk => (hown.lt k hk).1
  have hlen := hr.len
  have hb0 := hE.b0
  have hbs := hE.small
  rcases A with _ | ad
  · have hm : m = 0 := by
      rcases Nat.eq_zero_or_pos m with h0 | h0
      · exact h0
      · obtain ⟨ad, e, _⟩ := hr.cell h0
        cases e
    subst hm
    have hy : ys = [] := List.eq_nil_of_length_eq_zero hlen
    subst hy
    refine wpList_plain hgd fun K hK => ?_
    have hrun := run_append_nothing w E.t o.type i0 hE.und hi hown.own c
    unfold Oper.wp
    simp [execOp, ho, resolve, invoke, builtin, hs, hx, hrun, Result.andThen]
    exact hK _ _ (h v w (by simpa using hown) (Below.refl _ _) (World.grownBy.refl w _))
  · refine wpList_append_own w hgd s x E.t ho base E.e i0 E.z 1 E.b hE.und hi hz0 hz1 hz2 (by rw [hE.zc]; rfl) (by decide) v vs.length _ hs hown.own ad m c ys hx (by simpa using hlen) ?_ hr.one
      (by simp only [maxLen]; omega) (by first | omega | (have := Nat.mul_le_mul_left (vs.length + m) hbs; omega)) hbase ?_
    · intro j u hu
      obtain ⟨ad', e, hc⟩ := hr.at_ hu
      injection e with e
      subst e
      exact hc
    · intro v' w' hown' hg _
      refine h v' w' ⟨?_, ?_⟩ (below_of_grown hg hbase hrow) hg
      · rw [List.length_append, hlen]; exact hown'
      · intro z hz
        rcases List.mem_append.1 hz with hz | hz
        · exact hown.one z hz
        · exact hr.one z hz

/-- What makes a slice hands back. -/
def MadeV (E : El) (w : World) (vs : List Value) (e : Ending) (w' : World) : Prop := ∃ v, e = .returned v ∧ VO E w.heap.size w' v vs ∧ Below w.heap.size w w'
theorem MadeV.got {E : El} {w : World} {vs : List Value} {e : Ending} {w' : World} (h : MadeV E w vs e w') (hnt : ET E.e) : ∃ A c, e = .returned (.slice A vs.length c) ∧ VB w' A vs.length vs ∧ vs.length ≤ c ∧ Below w.heap.size w w' := by
  obtain ⟨v, rfl, ho, hb⟩ := h
  obtain ⟨A, c, rfl, hr, hc, -⟩ := ho.form hnt
  exact ⟨A, c, rfl, hr, hc, hb⟩
theorem MadeV.up {E : El} {w w' W : World} {vs : List Value} {e : Ending} (hb : Below w.heap.size w w') (h : MadeV E w' vs e W) : MadeV E w vs e W := by
  obtain ⟨v, rfl, ho, hb2⟩ := h
  exact ⟨v, rfl, ho.mono hb.size, below_next hb hb2⟩

theorem list_app_run {w W : World} {ops : Array Oper} {rest : List Oper} {o : Oper} {a : Act} {Q : Exit → Act → World → Prop} (hgd : o.guard = none) (s x : Operand) (t1 t2 : TypeId)
    (ho : o.op = .call { callee := .builtin .append, args := #[s, x], argTypes := #[t1, t2] }) (u y v : Value) (hs : a.eval s = u) (hx : a.eval x = y)
    (hrun : ∀ ty, (Builtin.append_ #[t1, t2] ty #[u, y]).run Try.prog w = .ok v W) (h : wpList Try.prog ops Q rest (a.put o.dst v) W) : wpList Try.prog ops Q (o :: rest) a w := by
  refine wpList_plain hgd fun K hK => ?_
  unfold Oper.wp
  simp [execOp, ho, resolve, invoke, builtin, hs, hx, hrun, Result.andThen]
  exact hK _ _ h

/-- A part: values that a slice in a row leads to. -/
structure Part where
  A : Option Addr
  n : Nat
  c : Nat
  z : List Value
def Part.v (p : Part) : Value := .slice p.A p.n p.c
def AccAt (w : World) (ps : List Part) : Prop := ∀ p ∈ ps, VB w p.A p.n p.z
theorem AccAt.nil (w : World) : AccAt w [] := fun _ h => by cases h
theorem AccAt.below {w w' : World} {ps : List Part} (h : AccAt w ps) (hb : Below w.heap.size w w') : AccAt w' ps := fun p hp => (h p hp).below' hb
theorem AccAt.cons {w : World} {ps : List Part} (h : AccAt w ps) {A : Option Addr} {n : Nat} {zs : List Value} (c : Nat) (hr : VB w A n zs) : AccAt w (⟨A, n, c, zs⟩ :: ps) := fun p hp => by
  rcases List.mem_cons.1 hp with rfl | hp
  · exact hr
  · exact h p hp
structure PartsAt (E : El) (w : World) (g : Nat) (ps : List Part) : Prop where
  row : ∃ e, w.heap[g]? = some (.cells (ps.map Part.v).toArray e (0, 0))
  is : ∀ p ∈ ps, VB w p.A p.n p.z
theorem PartsAt.below {E : El} {w w' : World} {g : Nat} {ps : List Part} (h : PartsAt E w g ps) (hb : Below w.heap.size w w') : PartsAt E w' g ps :=
  ⟨by obtain ⟨e, hr⟩ := h.row; exact ⟨e, (hb.block g (Array.getElem?_eq_some_iff.1 hr).1).trans hr⟩, fun p hp => (h.is p hp).below' hb⟩
theorem PartsAt.cell {E : El} {w : World} {g : Nat} {ps : List Part} (h : PartsAt E w g ps) {j : Nat} {p : Part} (hp : ps[j]? = some p) : w.cell? ⟨g, j, none⟩ = some (.slice p.A p.n p.c) := by
  obtain ⟨e, hr⟩ := h.row
  rw [cell_of_row _ _ _ _ _ _ hr]
  simp [hp, Part.v]
theorem PartsAt.new {E : El} {w : World} {ps : List Part} (h : AccAt w ps) : PartsAt E (w.alloc (.cells (ps.map Part.v).toArray E.t)) w.heap.size ps :=
  ⟨⟨_, heap_alloc_new w _⟩, fun p hp => (h p hp).below' ((Below.refl _ _).alloc (Nat.le_refl _) _)⟩
theorem PartsAt.drew {E : El} {w : World} {g : Nat} {ps : List Part} (h : PartsAt E w g ps) : PartsAt E w.drew g ps := ⟨h.row, fun p hp => (h.is p hp).drew⟩
theorem AccAt.drew {w : World} {ps : List Part} (h : AccAt w ps) : AccAt w.drew ps := fun p hp => (h p hp).drew
def sumN (ps : List Part) : Nat := (ps.map Part.n).sum
theorem sumN_snoc (ps : List Part) (p : Part) : sumN (ps ++ [p]) = sumN ps + p.n := by simp [sumN]
theorem sumN_take (ps : List Part) (j : Nat) : sumN (ps.take j) ≤ sumN ps := by
  have : sumN ps = sumN (ps.take j) + sumN (ps.drop j) := by
    unfold sumN
    rw [← List.sum_append, ← List.map_append, List.take_append_drop]
  omega
theorem flat_len_sum {w : World} {ps : List Part} (h : ∀ p ∈ ps, VB w p.A p.n p.z) : (ps.flatMap Part.z).length = sumN ps := by
  induction ps with
  | nil => rfl
  | cons p ps ih =>
    rw [List.flatMap_cons, List.length_append, (h p (List.mem_cons_self ..)).len, ih fun q hq => h q (List.mem_cons_of_mem _ hq)]
    simp [sumN]

theorem El.Ok.elem {E : El} (hE : E.Ok) : Try.prog.elem E.t = E.e := by
  unfold Program.elem
  rw [hE.und]
/-- l[:t] and l[f:] of a slice. -/
theorem run_upto (E : El) (hE : E.Ok) (W : World) (A : Option Addr) (n c t : Nat) (ht : t ≤ c) :
    (Instr.slice E.t (.slice A n c) none (some (.int .i64 (t : Int))) none).run Try.prog W = .ok (.slice A t c) W := by
  obtain ⟨i0, hi, hz0, hz1, hz2⟩ := info_parts hE.info
  rw [run_slice_h W E.t A n c (by rw [hE.elem]; exact hE.und) .i64 (t : Int) (by omega) (by omega)]
  rw [hE.elem]
  have hs : (sizeOf E.e).run Try.prog W = .ok 1 W := by simp [sizeOf, typeInfo, hi, hz1]
  rw [hs]
  simp [sliced, Result.andThen_ok]
  intro _
  cases A <;> simp [Addr.add]
theorem run_from (E : El) (hE : E.Ok) (W : World) (A : Option Addr) (n c f : Nat) (hf : f ≤ n) (hn : n ≤ c) :
    (Instr.slice E.t (.slice A n c) (some (.int .i64 (f : Int))) none none).run Try.prog W = .ok (.slice (if c = f then A else A.map (·.add f)) (n - f) (c - f)) W := by
  obtain ⟨i0, hi, hz0, hz1, hz2⟩ := info_parts hE.info
  rw [run_slice_l W E.t A n c (by rw [hE.elem]; exact hE.und) .i64 (f : Int) (by omega) (by omega)]
  rw [hE.elem]
  have hs : (sizeOf E.e).run Try.prog W = .ok 1 W := by simp [sizeOf, typeInfo, hi, hz1]
  rw [hs]
  simp only [sliced, Result.andThen_ok, Int.toNat_natCast, Nat.mul_one]

def elS : El := ⟨36, 9, .string ⟨#[]⟩, 16⟩
def elI : El := ⟨99, 2, .int .i64 0, 8⟩
def elN : El := ⟨90, 80, .nilIface, 16⟩
theorem okS : elS.Ok := ⟨Try.underlying36, by kernel_rfl, by decide, rfl, by decide⟩
theorem okI : elI.Ok := ⟨Try.underlying99, by kernel_rfl, by decide, rfl, by decide⟩
theorem okN : elN.Ok := ⟨Try.underlying90, by kernel_rfl, by decide, rfl, by decide⟩
end Go.Proofs.Ytlhpoliiojekeaa
