import Derived.Test.YtnpeankmmojebaaGreatDoorProg
import Derived.Test.YtnpeankmmojebaaGreatDoorJAA
import Derived.Test.YtnpeankmmojebaaGreatDoorJAB
import Derived.Laws.AppendOwnNone
import Derived.Deep.AppendLies
import Derived.Maps.AppendAt
import Derived.ProofKit
import Derived.Lib.AppendZerosOnto
import Derived.Deep.Cut
import Derived.Lib.SliceRun
import Derived.Deep.RegionWith
import Derived.Deep.RegionHeld3
import Derived.Deep.RegionLaw
import Derived.BigQuiet
import Derived.LoopTactic
import Derived.Laws.StructEq
import Derived.Deep.DeepAppendWide
import Derived.WalkLawsBesides
import Derived.StillTail
import Derived.StillTactics
/- Lists of structs and of numbers in memory: readable ones, rows of their own, append, cuts; numbers that rise. -/
set_option linter.unusedVariables false
namespace Go.Proofs.YtnpeankmmojebaaGreatDoor
set_option maxRecDepth 100000
set_option maxRecDepth 100000
open Go.RowKit

/-- The m cells from A on are these. -/
structure SB (w : World) (A : Option Addr) (m : Nat) (vs : List Value) : Prop where
  len : vs.length = m
  one : ∀ u ∈ vs, u.oneCell' = true
  cell : 0 < m → ∃ g o, A = some ⟨g, o, none⟩ ∧ ∀ (j : Nat) u, vs[j]? = some u → w.cell? ⟨g, o + j, none⟩ = some u
theorem SB.at_ {w : World} {A : Option Addr} {m : Nat} {vs : List Value} {k : Nat} {u : Value} (h : SB w A m vs) (hk : vs[k]? = some u) : ∃ g o, A = some ⟨g, o, none⟩ ∧ w.cell? ⟨g, o + k, none⟩ = some u := by
  have hlt : k < vs.length := by
    rcases Nat.lt_or_ge k vs.length with h1 | h1
    · exact h1
    · rw [List.getElem?_eq_none h1] at hk; cases hk
  obtain ⟨g, o, e, hc⟩ := h.cell (by have := h.len; omega)
  exact ⟨g, o, e, hc k u hk⟩
theorem SB.gw {w w' : World} {A : Option Addr} {m : Nat} {vs : List Value} (h : SB w A m vs) (hb : Below w.heap.size w w') : SB w' A m vs :=
  ⟨h.len, h.one, fun h0 => by
    obtain ⟨g, o, e, hc⟩ := h.cell h0
    exact ⟨g, o, e, fun j u hj => keep_below (hc j u hj) hb⟩⟩
theorem SB.empty (w : World) (A : Option Addr) : SB w A 0 [] := ⟨rfl, by simp, fun h => absurd h (by omega)⟩

/-- A slice's type, its elements' type, their zero, their cells, their bytes. -/
structure SEl where
  t : TypeId
  e : TypeId
  z : Value
  s : Nat
  b : Nat
structure SEl.Ok (E : SEl) : Prop where
  und : Tryz.prog.underlying E.t = some (.slice E.e)
  el : Tryz.prog.elem E.t = E.e
  info : (Tryz.prog.info? E.e).map (fun i => (i.zero, i.size, i.bytes)) = some (some E.z, E.s, E.b)
  zc : E.z.cells.size = E.s
  s0 : 0 < E.s
  b1 : E.b ≤ 4096
/-- The value is a slice of n elements, these cells, in a row of its own from block base on. -/
structure SO (E : SEl) (base : Nat) (w : World) (v : Value) (n : Nat) (vs : List Value) : Prop where
  own : w.ownsRow base E.e E.s v n vs
  len : vs.length = E.s * n
  one : ∀ u ∈ vs, u.oneCell' = true
section
variable {E : SEl} {base n : Nat} {w w' : World} {v : Value} {vs : List Value}
theorem SO.nil (E : SEl) (base : Nat) (w : World) : SO E base w (.slice none 0 0) 0 [] := ⟨World.ownsRow_nil _ _ _ _, by simp, by simp⟩
theorem SO.form (h : SO E base w v n vs) : ∃ A c, v = .slice A n c ∧ SB w A (E.s * n) vs ∧ n ≤ c ∧ c ≤ maxLen ∧ ∀ ad, A = some ad → base ≤ ad.block := by
  rcases h.own.2 with ⟨rfl, h0⟩ | ⟨g, cap, cur, rfl, _, hh, hc, hm, _, ht⟩
  · have hz : n = 0 := h0
    subst hz
    exact ⟨none, 0, rfl, ⟨h.len, h.one, fun h => absurd h (by omega)⟩, Nat.le_refl _, by simp [maxLen], by simp⟩
  · refine ⟨_, cap, rfl, ⟨h.len, h.one, fun hn => ⟨g, 0, rfl, fun j u hj => ?_⟩⟩, hc, hm, fun ad e => ?_⟩
    · have := World.ownsRow.cells h.own (g := g) rfl j u hj
      have hadd : (⟨g, 0, none⟩ : Addr).add j = ⟨g, 0 + j, none⟩ := by unfold Addr.add; split <;> simp_all
      rw [← hadd]; exact this
    · cases e; exact (h.own.lt g rfl).1
theorem SO.alloc (h : SO E base w v n vs) (o : Obj) : SO E base (w.alloc o) v n vs := ⟨h.own.alloc o, h.len, h.one⟩
theorem SO.drew (h : SO E base w v n vs) : SO E base w.drew v n vs := ⟨h.own.drew, h.len, h.one⟩
theorem SO.below (h : SO E base w v n vs) (hb : Below w.heap.size w w') : SO E base w' v n vs := by
  refine ⟨h.own.kept (row := none) ⟨hb.os, hb.tape, hb.output, hb.size, fun k hk _ => hb.block k hk⟩ ?_, h.len, h.one⟩
  cases hv : v.ownBlock <;> simp
theorem SB.addr {A : Option Addr} {m : Nat} (h : SB w A m vs) (h0 : 0 < m) : ∃ g o, A = some ⟨g, o, none⟩ ∧ ∀ j u, vs[j]? = some u → w.cell? ((⟨g, o, none⟩ : Addr).add j) = some u := by
  obtain ⟨g, o, e, hc⟩ := h.cell h0
  refine ⟨g, o, e, fun j u hj => ?_⟩
  have hadd : (⟨g, o, none⟩ : Addr).add j = ⟨g, o + j, none⟩ := by unfold Addr.add; split <;> simp_all
  rw [hadd]; exact hc j u hj

theorem below_of_grown8 {w1 : World} {base : Nat} {v : Value} (hg : w.grownBy w' v.ownBlock) (hb : base ≤ w.heap.size) (hv : ∀ k, v.ownBlock = some k → base ≤ k) : Below base w w' :=
  (Below.refl base w).grown hg hb hv

/-- append, whatever stands behind it. -/
theorem wp_so (hE : E.Ok) {o : Oper} {a : Act} {K : Act → World → Prop} {Q : Exit → Act → World → Prop} (s x : Operand)
    (ho : o.op = .call { callee := .builtin .append, args := #[s, x], argTypes := #[E.t, E.t] })
    (v : Value) (hs : a.eval s = v) (hown : SO E base w v n vs) (A : Option Addr) (m c : Nat) (us : List Value) (hx : a.eval x = .slice A m c) (hr : SB w A (E.s * m) us)
    (hsz : n + m ≤ 10000000) (hbase : base ≤ w.heap.size)
    (h : ∀ v' w', SO E base w' v' (n + m) (vs ++ us) → Below base w w' → K (a.put o.dst v') w') : o.wp Tryz.prog a w K Q := by
  obtain ⟨i0, hi, hz0, hz1, hz2⟩ := info_parts hE.info
  have hrow : ∀ k, v.ownBlock = some k → base ≤ k := fun k hk => (hown.own.lt k hk).1
  have hs0 := hE.s0
  have hb1 := hE.b1
  rcases A with _ | ad
  · have hm : m = 0 := by
      rcases Nat.eq_zero_or_pos m with h0 | h0
      · exact h0
      · obtain ⟨g, q, e, -⟩ := hr.cell (Nat.mul_pos hs0 h0)
        cases e
    subst hm
    have hy : us = [] := List.eq_nil_of_length_eq_zero (by rw [hr.len]; simp)
    subst hy
    have hrun := run_append_nothing w E.t o.type i0 hE.und hi hown.own c
    unfold Oper.wp
    simp [execOp, ho, resolve, invoke, builtin, hs, hx, hrun, Result.andThen]
    exact h v w (by simpa using hown) (Below.refl _ _)
  · have hcell : ∀ j u, us[j]? = some u → w.cell? (ad.add j) = some u := by
      rcases Nat.eq_zero_or_pos m with h0 | h0
      · intro j u hj
        have hy : us = [] := List.eq_nil_of_length_eq_zero (by rw [hr.len, h0]; simp)
        subst hy
        simp at hj
      · obtain ⟨g, q, e, hcell⟩ := hr.addr (Nat.mul_pos hs0 h0)
        cases e
        exact hcell
    refine wp_append_own w s x E.t ho base E.e i0 E.z E.s E.b hE.und hi hz0 hz1 hz2 hE.zc hs0 v n vs hs hown.own ad m c us hx (by rw [hr.len, Nat.mul_comm]) hcell hr.one (by simp only [maxLen]; omega) ?_ hbase ?_
    · exact Nat.le_trans (Nat.mul_le_mul hsz hb1) (by omega)
    · intro v' w' hown' hg _
      exact h v' w' ⟨hown', by rw [List.length_append, hown.len, hr.len, ← Nat.mul_add], fun u hu => by
        rcases List.mem_append.1 hu with h1 | h1
        · exact hown.one u h1
        · exact hr.one u h1⟩ (below_of_grown8 (w1 := w) hg hbase hrow)
/-- append in a list of operations. -/
theorem so_append (hE : E.Ok) {ops : Array Oper} {rest : List Oper} {o : Oper} {a : Act} {Q : Exit → Act → World → Prop} (hgd : o.guard = none) (s x : Operand)
    (ho : o.op = .call { callee := .builtin .append, args := #[s, x], argTypes := #[E.t, E.t] })
    (v : Value) (hs : a.eval s = v) (hown : SO E base w v n vs) (A : Option Addr) (m c : Nat) (us : List Value) (hx : a.eval x = .slice A m c) (hr : SB w A (E.s * m) us)
    (hsz : n + m ≤ 10000000) (hbase : base ≤ w.heap.size)
    (h : ∀ v' w', SO E base w' v' (n + m) (vs ++ us) → Below base w w' → wpList Tryz.prog ops Q rest (a.put o.dst v') w') : wpList Tryz.prog ops Q (o :: rest) a w :=
  wpList_plain hgd fun _ hK => wp_so hE s x ho v hs hown A m c us hx hr hsz hbase fun v' w' h1 h2 => hK _ _ (h v' w' h1 h2)
/-- append as a step of a region that draws its order. -/
theorem so_step (hE : E.Ok) {ops : Array Oper} {o : Oper} {a : Act} {K : Act → World → Prop} {Q : Exit → Act → World → Prop} {Z : Prop} (hgd : o.guard = none) (s x : Operand)
    (ho : o.op = .call { callee := .builtin .append, args := #[s, x], argTypes := #[E.t, E.t] })
    (v : Value) (hs : a.eval s = v) (hown : SO E base w v n vs) (A : Option Addr) (m c : Nat) (us : List Value) (hx : a.eval x = .slice A m c) (hr : SB w A (E.s * m) us)
    (hsz : n + m ≤ 10000000) (hbase : base ≤ w.heap.size)
    (h : ∀ v' w', SO E base w' v' (n + m) (vs ++ us) → Below base w w' → K (a.put o.dst v') w') : if Region.wanted o (yielded ops a.tmps) = true then Oper.wp Tryz.prog o a w K Q else Z := by
  rw [if_pos (by simp [Region.wanted, hgd])]
  exact wp_so hE s x ho v hs hown A m c us hx hr hsz hbase h
end
theorem run_uptoE {E : SEl} (hE : E.Ok) (W : World) (A : Option Addr) (n c t : Nat) (ht : t ≤ c) :
    (Instr.slice E.t (.slice A n c) none (some (.int .i64 (t : Int))) none).run Tryz.prog W = .ok (.slice A t c) W := by
  obtain ⟨i0, hi, hz0, hz1, hz2⟩ := info_parts hE.info
  rw [run_slice_h W E.t A n c (by rw [hE.el]; exact hE.und) .i64 (t : Int) (by omega) (by omega)]
  rw [hE.el]
  have hs : (sizeOf E.e).run Tryz.prog W = .ok E.s W := by simp [sizeOf, typeInfo, hi, hz1]
  rw [hs]
  simp [sliced, Result.andThen_ok]
  intro _
  cases A <;> simp [Addr.add]
theorem run_fromE {E : SEl} (hE : E.Ok) (W : World) (A : Option Addr) (n c f : Nat) (hf : f ≤ n) (hn : n ≤ c) :
    (Instr.slice E.t (.slice A n c) (some (.int .i64 (f : Int))) none none).run Tryz.prog W = .ok (.slice (if c = f then A else A.map (·.add (f * E.s))) (n - f) (c - f)) W := by
  obtain ⟨i0, hi, hz0, hz1, hz2⟩ := info_parts hE.info
  rw [run_slice_l W E.t A n c (by rw [hE.el]; exact hE.und) .i64 (f : Int) (by omega) (by omega)]
  rw [hE.el]
  have hs : (sizeOf E.e).run Tryz.prog W = .ok E.s W := by simp [sizeOf, typeInfo, hi, hz1]
  rw [hs]
  simp only [sliced, Result.andThen_ok, Int.toNat_natCast]
theorem SB.take {w : World} {A : Option Addr} {m k : Nat} {vs : List Value} (h : SB w A m vs) (hk : k ≤ m) : SB w A k (vs.take k) := by
  refine ⟨by rw [List.length_take, h.len]; omega, fun z hz => h.one z (List.mem_of_mem_take hz), fun hn => ?_⟩
  obtain ⟨g, o, e, hcell⟩ := h.cell (by omega)
  refine ⟨g, o, e, fun j u hj => hcell j u ?_⟩
  rw [List.getElem?_take] at hj
  split at hj
  · exact hj
  · cases hj
/-- What stands from element f on. -/
theorem SB.cut {w : World} {A : Option Addr} {n f c s : Nat} {vs : List Value} (h : SB w A (s * n) vs) (hf : f ≤ n) (hn : n ≤ c) : SB w (if c = f then A else A.map (·.add (f * s))) (s * (n - f)) (vs.drop (s * f)) := by
  have e1 : s * (n - f) = s * n - s * f := Nat.mul_sub ..
  have e2 : s * f ≤ s * n := Nat.mul_le_mul_left s hf
  refine ⟨by rw [List.length_drop, h.len, e1], fun z hz => h.one z (List.mem_of_mem_drop hz), fun h0 => ?_⟩
  have hlt : f < n := by
    rcases Nat.lt_or_ge f n with h1 | h1
    · exact h1
    · rw [show n - f = 0 by omega] at h0; simp at h0
  obtain ⟨g, o, rfl, hcell⟩ := h.cell (by omega)
  rw [if_neg (by omega)]
  refine ⟨g, o + f * s, by simp [Addr.add], fun j u hj => ?_⟩
  rw [List.getElem?_drop] at hj
  have := hcell _ u hj
  rw [show o + f * s + j = o + (s * f + j) by rw [Nat.mul_comm f s]; omega]
  exact this

def numC (l : List Int) : List Value := l.map (.int .i64)
theorem numC_len (l : List Int) : (numC l).length = l.length := by simp [numC]
theorem numC_at {l : List Int} {j : Nat} {x : Int} (h : l[j]? = some x) : (numC l)[j]? = some (.int .i64 x) := by simp [numC, h]
/-- The place of a number in a list. -/
def plN (l : List Int) (x : Int) : Nat := (l.takeWhile (decide <| · < x)).length
def insN (l : List Int) (x : Int) : List Int := if l[plN l x]? = some x then l else l.take (plN l x) ++ [x] ++ l.drop (plN l x)
/-- Numbers, rising, each once. -/
def riseP (l : List Int) : List Int := l.foldl insN []
theorem plN_le (l : List Int) (x : Int) : plN l x ≤ l.length := (List.takeWhile_prefix _).length_le
theorem plN_below : ∀ (l : List Int) (x : Int) (j : Nat) (a : Int), j < plN l x → l[j]? = some a → a < x
  | [], x, j, a, h, _ => by simp [plN] at h
  | b :: l, x, j, a, h, ha => by
    unfold plN at h
    by_cases hb : b < x
    · rw [List.takeWhile_cons_of_pos (by simpa using hb)] at h
      cases j with
      | zero => cases ha; exact hb
      | succ j => exact plN_below l x j a (by simpa [plN] using h) ha
    · rw [List.takeWhile_cons_of_neg (by simpa using hb)] at h
      simp at h
theorem plN_at : ∀ (l : List Int) (x a : Int), l[plN l x]? = some a → ¬ a < x
  | [], x, a, h => by simp [plN] at h
  | b :: l, x, a, h => by
    unfold plN at h
    by_cases hb : b < x
    · rw [List.takeWhile_cons_of_pos (by simpa using hb)] at h
      exact plN_at l x a (by simpa [plN] using h)
    · rw [List.takeWhile_cons_of_neg (by simpa using hb)] at h
      simp at h; subst h; exact hb
theorem insN_len (l : List Int) (x : Int) : (insN l x).length ≤ l.length + 1 := by
  unfold insN
  have := plN_le l x
  split <;> simp; omega
theorem rise_len (l : List Int) (j : Nat) : (riseP (l.take j)).length ≤ l.length := by
  have : ∀ (l out : List Int), (l.foldl insN out).length ≤ out.length + l.length := by
    intro l
    induction l with
    | nil => intro out; simp
    | cons x l ih => intro out; have h1 := ih (insN out x); have h2 := insN_len out x; simp only [List.foldl_cons, List.length_cons]; omega
  have h1 := this (l.take j) []
  have h2 := List.length_take_le' j l
  unfold riseP
  simp only [List.length_nil] at h1
  omega
theorem rise_take {l : List Int} {j : Nat} {x : Int} (h : l[j]? = some x) : riseP (l.take (j + 1)) = insN (riseP (l.take j)) x := by
  unfold riseP
  rw [List.take_add_one, h, List.foldl_append]
  rfl

theorem numC_one (l : List Int) : ∀ u ∈ numC l, u.oneCell' = true := by
  intro u hu
  simp only [numC, List.mem_map] at hu
  obtain ⟨x, -, rfl⟩ := hu
  rfl
theorem SO.base {E : SEl} {base base' n n' : Nat} {w : World} {v : Value} {vs vs' : List Value} (h : SO E base w v n vs) (hb : base' ≤ base) (e1 : vs = vs') (e2 : n = n') : SO E base' w v n' vs' := by
  subst e1; subst e2
  exact ⟨own_base h.own fun k e => Nat.le_trans hb (h.own.lt k e).1, h.len, h.one⟩
/-- The slice (A, n, c) holds these cells; it has a row of its own, or no room. -/
def LR (E : SEl) (base : Nat) (w : World) (A : Option Addr) (n c : Nat) (vs : List Value) : Prop :=
  SO E base w (.slice A n c) n vs ∨ (c = n ∧ vs.length = E.s * n ∧ n ≤ 10000000 ∧ (∀ u ∈ vs, u.oneCell' = true) ∧ ∃ g cur, A = some ⟨g, 0, none⟩ ∧ base ≤ g ∧ w.heap[g]? = some (.cells cur E.e (0, 0)) ∧ ∀ (j : Nat) (u : Value), vs[j]? = some u → cur[j]? = some u)
section
variable {E : SEl} {base n c : Nat} {w w' : World} {A : Option Addr} {vs : List Value}
theorem LR.nil (E : SEl) (base : Nat) (w : World) : LR E base w none 0 0 [] := .inl (SO.nil E base w)
theorem LR.len (h : LR E base w A n c vs) : vs.length = E.s * n := by
  rcases h with h | h
  · exact h.len
  · exact h.2.1
theorem LR.one (h : LR E base w A n c vs) : ∀ u ∈ vs, u.oneCell' = true := by
  rcases h with h | h
  · exact h.one
  · exact h.2.2.2.1
theorem LR.cap (h : LR E base w A n c vs) : n ≤ c ∧ c ≤ maxLen := by
  rcases h with h | ⟨rfl, -, h2, -⟩
  · obtain ⟨A', c', e, -, h2, h3, -⟩ := h.form
    simp only [Value.slice.injEq] at e
    obtain ⟨-, -, rfl⟩ := e
    exact ⟨h2, h3⟩
  · exact ⟨Nat.le_refl _, by simp only [maxLen]; omega⟩
/-- Where the row lies. -/
theorem LR.blk (h : LR E base w A n c vs) : (A = none ∧ n = 0 ∧ c = 0) ∨ ∃ g cur, A = some ⟨g, 0, none⟩ ∧ base ≤ g ∧ w.heap[g]? = some (.cells cur E.e (0, 0)) ∧ ∀ (j : Nat) (u : Value), vs[j]? = some u → cur[j]? = some u := by
  rcases h with h | ⟨-, -, -, -, h⟩
  · rcases h.own.2 with ⟨hv, h0⟩ | ⟨g, cap, cur, hv, hb, hh, -, -, -, ht⟩
    · simp only [Value.slice.injEq] at hv
      exact .inl ⟨hv.1, hv.2.1, hv.2.2⟩
    · simp only [Value.slice.injEq] at hv
      obtain ⟨rfl, -, rfl⟩ := hv
      refine .inr ⟨g, cur, rfl, hb, hh, fun j u hj => ?_⟩
      rw [← ht, List.getElem?_take] at hj
      split at hj
      · simpa using hj
      · cases hj
  · exact .inr h
theorem LR.sb (h : LR E base w A n c vs) : SB w A (E.s * n) vs := by
  refine ⟨h.len, h.one, fun hn => ?_⟩
  rcases h.blk with ⟨-, h0, -⟩ | ⟨g, cur, e, -, hh, hc⟩
  · subst h0; simp at hn
  · exact ⟨g, 0, e, fun j u hj => by rw [Nat.zero_add, cell_of_row _ _ _ _ _ _ hh]; exact hc j u hj⟩
theorem LR.stays (h : LR E base w A n c vs) (hk : ∀ g, A = some ⟨g, 0, none⟩ → w'.heap[g]? = w.heap[g]?) : LR E base w' A n c vs := by
  rcases h with h | ⟨h1, h2, h3, h4, g, cur, e, hb, hh, hc⟩
  · refine .inl ⟨own_stays h.own fun k hk' => ?_, h.len, h.one⟩
    rcases h.own.2 with ⟨hv, -⟩ | ⟨g, cap, cur, hv, -⟩
    · rw [hv] at hk'; simp [Value.ownBlock] at hk'
    · have hA : A = some ⟨g, 0, none⟩ := by simp only [Value.slice.injEq] at hv; exact hv.1
      subst hA
      have : g = k := by simpa [Value.ownBlock] using hk'
      subst this
      exact hk g rfl
  · exact .inr ⟨h1, h2, h3, h4, g, cur, e, hb, (hk g e).trans hh, hc⟩
theorem LR.below (h : LR E base w A n c vs) (hb : Below w.heap.size w w') : LR E base w' A n c vs := by
  refine h.stays fun g e => ?_
  rcases h.blk with ⟨e0, -⟩ | ⟨g', cur, e0, -, hh, -⟩
  · rw [e] at e0; cases e0
  · rw [e] at e0; cases e0
    exact hb.block g (Array.getElem?_eq_some_iff.1 hh).1
/-- s[:i:i] -/
theorem LR.cut (h : LR E base w A n c vs) {i : Nat} (hi : i < n) (hn : n ≤ 10000000) : LR E base w A i i (vs.take (E.s * i)) := by
  have hl := h.len
  have h1 : E.s * i ≤ E.s * n := Nat.mul_le_mul_left _ (Nat.le_of_lt hi)
  rcases h.blk with ⟨-, h0, -⟩ | ⟨g, cur, e, hb, hh, hc⟩
  · omega
  · exact .inr ⟨rfl, by rw [List.length_take, hl]; omega, by omega, fun u hu => h.one u (List.mem_of_mem_take hu), g, cur, e, hb, hh, fun j u hj => by
      rw [List.getElem?_take] at hj
      split at hj
      · exact hc j u hj
      · cases hj⟩
/-- s[k:], wherever it is said to begin. -/
theorem LR.rest (h : LR E base w A n c vs) {k : Nat} (hk : k ≤ n) : ∃ B, (if c = k then A else A.map (·.add (k * E.s))) = B ∧ SB w B (E.s * (n - k)) (vs.drop (E.s * k)) := by
  refine ⟨_, rfl, by rw [List.length_drop, h.len, Nat.mul_sub], fun u hu => h.one u (List.mem_of_mem_drop hu), fun h0 => ?_⟩
  have hc1 := h.cap.1
  have hkn : ¬ c = k := by
    rintro rfl
    have : n - c = 0 := by omega
    rw [this] at h0; simp at h0
  rw [if_neg hkn]
  rcases h.blk with ⟨-, h1, -⟩ | ⟨g, cur, e, -, hh, hc⟩
  · subst h1; simp at h0
  · subst e
    refine ⟨g, 0 + k * E.s, by rw [Option.map_some, Addr.add_mid], fun j u hj => ?_⟩
    rw [List.getElem?_drop] at hj
    rw [cell_of_row _ _ _ _ _ _ hh, Nat.zero_add, Nat.mul_comm k]
    exact hc _ u hj

/-- A row that an append has just laid. -/
theorem so_grown (hs : 0 < E.s) {z : Value} (hz : z.cells.size = E.s) {news : List Value} {m old : Nat} (hlen : (vs ++ news).length = E.s * (n + m)) (h1 : ∀ u ∈ vs ++ news, u.oneCell' = true) (h63 : n + m ≤ maxLen) (ho : old < n + m) (hbase : base ≤ w.heap.size) :
    SO E base (w.drew.alloc (.cells (vs.toArray ++ news.toArray ++ Builtin.zeroCells z.cells (grownCap w (n + m) old E.e - (n + m))) E.e)) (.slice (some ⟨w.heap.size, 0, none⟩) (n + m) (grownCap w (n + m) old E.e)) (n + m) (vs ++ news) := by
  have hge := grownCap_ge w (n + m) old E.e
  have hcm : grownCap w (n + m) old E.e ≤ maxLen := grownCap_le_maxLen w (n + m) old E.e h63
  have hl2 : vs.length + news.length = E.s * (n + m) := by rw [← hlen, List.length_append]
  refine ⟨⟨by rw [hlen, Nat.mul_comm], .inr ⟨w.heap.size, _, _, rfl, hbase, heap_alloc_new w.drew _, hge, hcm, ?_, ?_⟩⟩, hlen, h1⟩
  · simp only [Array.size_append, List.size_toArray, size_zeroCells, hz, hl2]
    rw [Nat.mul_comm E.s, ← Nat.add_mul]
    congr 1
    omega
  · simp only [Array.toList_append]
    rw [show (n + m) * E.s = (vs ++ news).length by rw [hlen, Nat.mul_comm]]
    exact List.take_left
/-- append to such a list: what is left, and what is left alone. -/
theorem wp_lr (hE : E.Ok) {o : Oper} {a : Act} {K : Act → World → Prop} {Q : Exit → Act → World → Prop} (s x : Operand)
    (ho : o.op = .call { callee := .builtin .append, args := #[s, x], argTypes := #[E.t, E.t] })
    (hs : a.eval s = .slice A n c) (hown : LR E base w A n c vs) (B : Option Addr) (m d : Nat) (us : List Value) (hx : a.eval x = .slice B m d) (hr : SB w B (E.s * m) us)
    (hsz : n + m ≤ 10000000) (hbase : base ≤ w.heap.size)
    (h : ∀ A' c' w', LR E base w' A' (n + m) c' (vs ++ us) → Below base w w' → (∀ k, k < w.heap.size → (∀ g, A = some ⟨g, 0, none⟩ → k ≠ g) → w'.heap[k]? = w.heap[k]?) → K (a.put o.dst (.slice A' (n + m) c')) w') : o.wp Tryz.prog a w K Q := by
  obtain ⟨i0, hi, hz0, hz1, hz2⟩ := info_parts hE.info
  have hs0 := hE.s0
  have hb1 := hE.b1
  have hlen : (vs ++ us).length = E.s * (n + m) := by rw [List.length_append, hown.len, hr.len, ← Nat.mul_add]
  have hone : ∀ u ∈ vs ++ us, u.oneCell' = true := fun u hu => (List.mem_append.1 hu).elim (hown.one u) (hr.one u)
  have hbytes : (n + m) * E.b ≤ 140737488355328 := Nat.le_trans (Nat.mul_le_mul hsz hb1) (by omega)
  have h63 : n + m ≤ maxLen := by simp only [maxLen]; omega
  have run : ∃ A' c' w', (Builtin.append_ #[E.t, E.t] o.type #[.slice A n c, .slice B m d]).run Tryz.prog w = .ok (.slice A' (n + m) c') w' ∧ LR E base w' A' (n + m) c' (vs ++ us) ∧ Below base w w' ∧ (∀ k, k < w.heap.size → (∀ g, A = some ⟨g, 0, none⟩ → k ≠ g) → w'.heap[k]? = w.heap[k]?) := by
    by_cases hm : m = 0
    · subst hm
      have hy : us = [] := List.eq_nil_of_length_eq_zero (by rw [hr.len]; simp)
      subst hy
      refine ⟨A, c, w, ?_, by simpa using hown, Below.refl _ _, fun _ _ _ => rfl⟩
      have hc := hown.cap.1
      cases A <;> cases B <;> simp [Builtin.append_, run_underlying hE.und, sizeOf, typeInfo, hi, Builtin.lenOf, Builtin.firstCells, loadCells, loadCellsFrom, storeCells, hc]
    · obtain ⟨g2, o2, rfl, hcell⟩ := hr.addr (Nat.mul_pos hs0 (by omega))
      rcases hown with hso | ⟨rfl, h2, h3, h4, g, cur, rfl, hbg, hh, hc⟩
      · obtain ⟨v', w', hrun, h1, h2, -⟩ := run_append_own_at (P := Tryz.prog) w base E.t o.type E.e i0 E.z E.s E.b hE.und hi hz0 hz1 hz2 hE.zc hs0 _ n vs hso.own ⟨g2, o2, none⟩ m d us (by rw [hr.len, Nat.mul_comm]) hcell hr.one h63 hbytes hbase
        have hso' : SO E base w' v' (n + m) (vs ++ us) := ⟨h1, hlen, hone⟩
        obtain ⟨A', c', rfl, -⟩ := hso'.form
        refine ⟨A', c', w', hrun, .inl hso', (Below.refl base w).grown h2 hbase fun k hk => (hso.own.lt k hk).1, fun k hk hn => h2.block k hk fun e => ?_⟩
        rcases hso.own.2 with ⟨hv, -⟩ | ⟨g, cap, cur, hv, -⟩
        · rw [hv] at e; simp [Value.ownBlock] at e
        · have hA : A = some ⟨g, 0, none⟩ := by simp only [Value.slice.injEq] at hv; exact hv.1
          subst hA
          have : k = g := by simpa [Value.ownBlock, eq_comm] using e
          exact hn g rfl this
      · have hrun := run_append_grow (P := Tryz.prog) w E.t o.type E.e i0 E.z hE.und hi hz0 ⟨g, 0, none⟩ c c vs (by rw [h2, hz1, Nat.mul_comm]) (fun j u hj => by
          have : (⟨g, 0, none⟩ : Addr).add j = ⟨g, j, none⟩ := by rw [Addr.add_mid, Nat.zero_add]
          rw [this, cell_of_row _ _ _ _ _ _ hh]; exact hc j u hj) ⟨g2, o2, none⟩ m d us (by rw [hr.len, hz1, Nat.mul_comm]) hcell (by omega) (by omega) (growslice_fits (by omega) (by rw [hz2]; exact hbytes))
        exact ⟨_, _, _, hrun, .inl (so_grown hs0 hE.zc hlen hone h63 (by omega) hbase), (Below.refl base w).drew.alloc hbase _, fun k hk _ => Below.heap_alloc w.drew _ k hk⟩
  obtain ⟨A', c', w', hrun, h1, h2, h3⟩ := run
  unfold Oper.wp
  simp [execOp, ho, resolve, invoke, builtin, hs, hx, hrun, Result.andThen]
  exact h A' c' w' h1 h2 h3
/-- The same, in a list of operations. -/
theorem lr_append (hE : E.Ok) {ops : Array Oper} {rest : List Oper} {o : Oper} {a : Act} {Q : Exit → Act → World → Prop} (hgd : o.guard = none) (s x : Operand)
    (ho : o.op = .call { callee := .builtin .append, args := #[s, x], argTypes := #[E.t, E.t] })
    (hs : a.eval s = .slice A n c) (hown : LR E base w A n c vs) (B : Option Addr) (m d : Nat) (us : List Value) (hx : a.eval x = .slice B m d) (hr : SB w B (E.s * m) us)
    (hsz : n + m ≤ 10000000) (hbase : base ≤ w.heap.size)
    (h : ∀ A' c' w', LR E base w' A' (n + m) c' (vs ++ us) → Below base w w' → (∀ k, k < w.heap.size → (∀ g, A = some ⟨g, 0, none⟩ → k ≠ g) → w'.heap[k]? = w.heap[k]?) → wpList Tryz.prog ops Q rest (a.put o.dst (.slice A' (n + m) c')) w') : wpList Tryz.prog ops Q (o :: rest) a w :=
  wpList_plain hgd fun _ hK => wp_lr hE s x ho hs hown B m d us hx hr hsz hbase fun A' c' w' h1 h2 h3 => hK _ _ (h A' c' w' h1 h2 h3)
/-- s[:i:i] as a still step. -/
theorem still_cut (hE : E.Ok) {ops : Array Oper} {Q : Act → Prop} {a : Act} {o : Oper} {rest : List Oper} (hgd : o.guard = none) (x hi mx : Operand) (ho : o.op = .slice E.t x none (some hi) (some mx))
    (hx : a.eval x = .slice A n c) (i : Nat) (hhi : a.eval hi = .int .i64 (i : Int)) (hmx : a.eval mx = .int .i64 (i : Int)) (hi' : i ≤ c)
    (h : wpStill Tryz.prog ops w Q rest (a.put o.dst (.slice A i i))) : wpStill Tryz.prog ops w Q (o :: rest) a := by
  obtain ⟨i0, hinf, hz0, hz1, hz2⟩ := info_parts hE.info
  refine wpStill_step (fun K hK => ?_)
  rw [if_pos (by simp [Region.wanted, hgd])]
  have hrun : (Instr.slice E.t (.slice A n c) none (some (.int .i64 (i : Int))) (some (.int .i64 (i : Int)))).run Tryz.prog w = .ok (.slice A i i) w := by
    rw [run_slice_hm w E.t A n c (by rw [hE.el]; exact hE.und) .i64 .i64 (i : Int) (i : Int) (by omega) (by omega) (by omega)]
    rw [hE.el]
    have hs : (sizeOf E.e).run Tryz.prog w = .ok E.s w := by simp [sizeOf, typeInfo, hinf, hz1]
    rw [hs]
    simp only [sliced, Result.andThen_ok, Int.toNat_natCast, Nat.zero_mul, Nat.sub_zero]
    cases A with
    | none => split <;> rfl
    | some ad => split <;> simp [Addr.add]
  have hrun2 : (Instr.sliceAt E.t (.slice A n c) none (some (.int .i64 (i : Int))) (some (.int .i64 (i : Int)))).run Tryz.prog w = .ok (.slice A i i) w := by
    rw [run_sliceAt_slice w E.t _ _ _ _ (by rw [hE.el]; exact hE.und)]; exact hrun
  unfold Oper.still execOp
  simp only [ho, hx, hhi, hmx, Sem.run_bind, Sem.run_pure, Option.map_some, Option.map_none]
  rw [hrun2]
  simp only [Result.andThen_ok, Oper.stillUpon_value]
  exact hK _ h
/-- s[k:] as a still step. -/
theorem still_rest (hE : E.Ok) {ops : Array Oper} {Q : Act → Prop} {a : Act} {o : Oper} {rest : List Oper} (hgd : o.guard = none) (x lo : Operand) (ho : o.op = .slice E.t x (some lo) none none)
    (hx : a.eval x = .slice A n c) (k : Nat) (z : Int) (hlo : a.eval lo = .int .i64 z) (hz : z = (k : Int)) (hk : k ≤ n) (B : Option Addr) (hB : (if c = k then A else A.map (·.add (k * E.s))) = B)
    (h : wpStill Tryz.prog ops w Q rest (a.put o.dst (.slice B (n - k) (c - k)))) : wpStill Tryz.prog ops w Q (o :: rest) a := by
  obtain ⟨i0, hinf, hz0, hz1, hz2⟩ := info_parts hE.info
  subst hz
  refine wpStill_step (fun K hK => ?_)
  rw [if_pos (by simp [Region.wanted, hgd])]
  have hrun : (Instr.slice E.t (.slice A n c) (some (.int .i64 (k : Int))) none none).run Tryz.prog w = .ok (.slice B (n - k) (c - k)) w := by
    rw [run_slice_l w E.t A n c (by rw [hE.el]; exact hE.und) .i64 (k : Int) (by omega) (by omega)]
    rw [hE.el]
    have hs : (sizeOf E.e).run Tryz.prog w = .ok E.s w := by simp [sizeOf, typeInfo, hinf, hz1]
    rw [hs]
    simp only [sliced, Result.andThen_ok, Int.toNat_natCast]
    rw [hB]
  have hrun2 : (Instr.sliceAt E.t (.slice A n c) (some (.int .i64 (k : Int))) none none).run Tryz.prog w = .ok (.slice B (n - k) (c - k)) w := by
    rw [run_sliceAt_slice w E.t _ _ _ _ (by rw [hE.el]; exact hE.und)]; exact hrun
  unfold Oper.still execOp
  simp only [ho, hx, hlo, Sem.run_bind, Sem.run_pure, Option.map_some, Option.map_none]
  rw [hrun2]
  simp only [Result.andThen_ok, Oper.stillUpon_value]
  exact hK _ h
end
section
variable {α : Type} {lt : α → α → Bool}
theorem strict_ext (irr : ∀ a, lt a a = false) (asy : ∀ a b, lt a b = true → lt b a = false) : ∀ l m : List α, l.Pairwise (lt · · = true) → m.Pairwise (lt · · = true) → (∀ x, x ∈ l ↔ x ∈ m) → l = m
  | [], [], _, _, _ => rfl
  | [], b :: m, _, _, h => absurd ((h b).2 (List.mem_cons_self ..)) (by simp)
  | a :: l, [], _, _, h => absurd ((h a).1 (List.mem_cons_self ..)) (by simp)
  | a :: l, b :: m, hl, hm, h => by
    obtain ⟨hl1, hl2⟩ := List.pairwise_cons.1 hl
    obtain ⟨hm1, hm2⟩ := List.pairwise_cons.1 hm
    have hab : a = b := by
      rcases List.mem_cons.1 ((h a).1 (List.mem_cons_self ..)) with e | e
      · exact e
      · rcases List.mem_cons.1 ((h b).2 (List.mem_cons_self ..)) with e2 | e2
        · exact e2.symm
        · have h1 := hm1 a e
          have h2 := hl1 b e2
          rw [asy _ _ h1] at h2; cases h2
    subst hab
    congr 1
    refine strict_ext irr asy l m hl2 hm2 fun x => ⟨fun hx => ?_, fun hx => ?_⟩
    · rcases List.mem_cons.1 ((h x).1 (List.mem_cons_of_mem _ hx)) with e | e
      · subst e; have := hl1 x hx; rw [irr] at this; cases this
      · exact e
    · rcases List.mem_cons.1 ((h x).2 (List.mem_cons_of_mem _ hx)) with e | e
      · subst e; have := hm1 x hx; rw [irr] at this; cases this
      · exact e
/-- What stands ahead of the place is below, what stands behind it is above. -/
theorem place_split (tr : ∀ a b c, lt a b = true → lt b c = true → lt a c = true) (tri : ∀ a b, lt a b = false → lt b a = false → a = b) :
    ∀ (l : List α) (x : α), l.Pairwise (lt · · = true) → (∀ y ∈ l, y ≠ x) → (∀ y ∈ l.take (l.takeWhile (lt · x)).length, lt y x = true) ∧ ∀ y ∈ l.drop (l.takeWhile (lt · x)).length, lt x y = true
  | [], x, _, _ => by simp
  | b :: l, x, h, hx => by
    obtain ⟨h1, h2⟩ := List.pairwise_cons.1 h
    cases hb : lt b x
    · rw [List.takeWhile_cons_of_neg (p := fun y => lt y x) (by simp [hb])]
      simp only [List.length_nil, List.take_zero, List.drop_zero]
      have hxb : lt x b = true := by
        cases hxb : lt x b
        · exact absurd (tri _ _ hb hxb) (hx b (List.mem_cons_self ..))
        · rfl
      refine ⟨by simp, fun y hy => ?_⟩
      rcases List.mem_cons.1 hy with e | e
      · rw [e]; exact hxb
      · exact tr _ _ _ hxb (h1 y e)
    · rw [List.takeWhile_cons_of_pos (p := fun y => lt y x) hb]
      simp only [List.length_cons, List.take_succ_cons, List.drop_succ_cons]
      obtain ⟨i1, i2⟩ := place_split tr tri l x h2 fun y hy => hx y (List.mem_cons_of_mem _ hy)
      refine ⟨fun y hy => ?_, i2⟩
      rcases List.mem_cons.1 hy with e | e
      · rw [e]; exact hb
      · exact i1 y e
theorem ins_strict (tr : ∀ a b c, lt a b = true → lt b c = true → lt a c = true) (tri : ∀ a b, lt a b = false → lt b a = false → a = b) {l : List α} {x : α} (h : l.Pairwise (lt · · = true)) (hx : ∀ y ∈ l, y ≠ x) :
    (l.take (l.takeWhile (lt · x)).length ++ [x] ++ l.drop (l.takeWhile (lt · x)).length).Pairwise (lt · · = true) := by
  obtain ⟨h1, h2⟩ := place_split tr tri l x h hx
  have h3 := h
  rw [← List.take_append_drop (l.takeWhile (lt · x)).length l] at h3
  obtain ⟨p1, p2, p3⟩ := List.pairwise_append.1 h3
  refine List.pairwise_append.2 ⟨List.pairwise_append.2 ⟨p1, List.pairwise_singleton .., fun a ha b hb => ?_⟩, p2, fun a ha b hb => ?_⟩
  · rw [List.mem_singleton.1 hb]; exact h1 a ha
  · rcases List.mem_append.1 ha with e | e
    · exact p3 a e b hb
    · rw [List.mem_singleton.1 e]; exact h2 b hb
theorem ins_mem (l : List α) (x y : α) (k : Nat) : y ∈ l.take k ++ [x] ++ l.drop k ↔ y ∈ l ∨ y = x := by
  conv => rhs; rw [← List.take_append_drop k l]
  simp only [List.mem_append, List.mem_singleton]
  constructor
  · rintro ((h | h) | h)
    · exact .inl (.inl h)
    · exact .inr h
    · exact .inl (.inr h)
  · rintro ((h | h) | h)
    · exact .inl (.inl h)
    · exact .inr h
    · exact .inl (.inr h)
end

/-- Numbers rise. -/
def ltN (a b : Int) : Bool := decide (a < b)
theorem ltN_tr (a b c : Int) (h1 : ltN a b = true) (h2 : ltN b c = true) : ltN a c = true := by unfold ltN at *; simp at *; omega
theorem ltN_tri (a b : Int) (h1 : ltN a b = false) (h2 : ltN b a = false) : a = b := by unfold ltN at *; simp at *; omega
theorem ltN_irr (a : Int) : ltN a a = false := by simp [ltN]
theorem ltN_asy (a b : Int) (h : ltN a b = true) : ltN b a = false := by unfold ltN at *; simp at *; omega
theorem insN_is {l : List Int} {x : Int} (h : l.Pairwise (ltN · · = true)) : (insN l x).Pairwise (ltN · · = true) ∧ ∀ y, y ∈ insN l x ↔ y ∈ l ∨ y = x := by
  unfold insN
  split
  · rename_i hx
    refine ⟨h, fun y => ⟨.inl, fun hy => ?_⟩⟩
    rcases hy with hy | rfl
    · exact hy
    · exact List.mem_of_getElem? hx
  · rename_i hx
    have hne : ∀ y ∈ l, y ≠ x := by
      rintro y hy rfl
      obtain ⟨k, hk⟩ := List.mem_iff_getElem?.1 hy
      have hkl := (List.getElem?_eq_some_iff.1 hk).1
      rcases Nat.lt_trichotomy k (plN l y) with h1 | h1 | h1
      · have := plN_below l y k y h1 hk; omega
      · rw [h1] at hk; exact hx hk
      · have hp : plN l y < l.length := by omega
        obtain ⟨z, hz⟩ : ∃ z, l[plN l y]? = some z := ⟨_, List.getElem?_eq_getElem hp⟩
        have h2 := plN_at l y z hz
        have h3 : ltN z y = true := by
          have h4 := List.pairwise_iff_getElem.1 h _ _ hp hkl h1
          rw [List.getElem?_eq_getElem hp] at hz
          rw [List.getElem?_eq_getElem hkl] at hk
          cases hz; cases hk; exact h4
        unfold ltN at h3
        exact h2 (by simpa using h3)
    exact ⟨ins_strict (lt := ltN) ltN_tr ltN_tri h hne, fun y => ins_mem l x y _⟩
theorem rise_is (l : List Int) : (riseP l).Pairwise (ltN · · = true) ∧ ∀ y, y ∈ riseP l ↔ y ∈ l := by
  have key : ∀ (l out : List Int), out.Pairwise (ltN · · = true) → (l.foldl insN out).Pairwise (ltN · · = true) ∧ ∀ y, y ∈ l.foldl insN out ↔ y ∈ out ∨ y ∈ l := by
    intro l
    induction l with
    | nil => intro out h; exact ⟨h, by simp⟩
    | cons x l ih =>
      intro out h
      obtain ⟨i1, i2⟩ := insN_is (x := x) h
      obtain ⟨j1, j2⟩ := ih _ i1
      refine ⟨j1, fun y => ?_⟩
      rw [List.foldl_cons, j2, i2, List.mem_cons, or_assoc]
  obtain ⟨h1, h2⟩ := key l [] List.Pairwise.nil
  exact ⟨h1, fun y => by unfold riseP; rw [h2]; simp⟩
/-- A list that rises strictly and has the members is what Rise answers. -/
theorem rise_unique {l m : List Int} (h : m.Pairwise (ltN · · = true)) (hm : ∀ y, y ∈ m ↔ y ∈ l) : m = riseP l :=
  strict_ext ltN_irr ltN_asy _ _ h (rise_is l).1 fun y => (hm y).trans ((rise_is l).2 y).symm
end Go.Proofs.YtnpeankmmojebaaGreatDoor
