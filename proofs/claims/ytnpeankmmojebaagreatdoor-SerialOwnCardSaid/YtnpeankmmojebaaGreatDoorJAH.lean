import Derived.Test.YtnpeankmmojebaaGreatDoorJAF
import Derived.Test.YtnpeankmmojebaaGreatDoorSeG
import Derived.Test.YtnpeankmmojebaaGreatDoorJAC
import Derived.Test.YtnpeankmmojebaaGreatDoorJAA
import Derived.RangeFuncNested
import Derived.RangeFuncBound
import Derived.RangeFuncCalls
import Derived.RangeFuncLeaves
import Derived.Shelf.Abstract
import Derived.OwnWalkIn
import Derived.TacticsInMore
import Derived.LoopNIn
import Derived.LoopIn
import Derived.WalkKit
import Derived.Stop.RegionWithIn
import Derived.WalkLawsBesides
/- Layer 11: histories in memory; lists of acts, of dependencies, of numbers. -/
set_option linter.unusedVariables false
namespace Go.Proofs.YtnpeankmmojebaaGreatDoor
set_option maxRecDepth 100000
set_option maxRecDepth 100000
open Go.RowKit Go.Maps Go.ChangeMaps Go.MapKept

/-- The cells of a list. -/
def cellsE {α : Type} (f : α → List Value) (l : List α) : List Value := l.flatMap f
section
variable {α : Type} {f : α → List Value} {s : Nat}
theorem cellsE_len (hf : ∀ x, (f x).length = s) (l : List α) : (cellsE f l).length = s * l.length := by
  induction l with
  | nil => rfl
  | cons x l ih => simp only [cellsE, List.flatMap_cons, List.length_append, List.length_cons] at ih ⊢; rw [ih, hf, Nat.mul_succ, Nat.add_comm]
theorem cellsE_app (a b : List α) : cellsE f (a ++ b) = cellsE f a ++ cellsE f b := by simp [cellsE]
theorem cellsE_one (h1 : ∀ x, ∀ u ∈ f x, u.oneCell' = true) (l : List α) : ∀ u ∈ cellsE f l, u.oneCell' = true := by
  intro u hu
  obtain ⟨x, -, hx⟩ := List.mem_flatMap.1 hu
  exact h1 x u hx
theorem cellsE_at (hf : ∀ x, (f x).length = s) : ∀ (l : List α) (j : Nat) (x : α), l[j]? = some x → ∀ (k : Nat) u, (f x)[k]? = some u → (cellsE f l)[s * j + k]? = some u
  | [], _, _, h, _, _, _ => by cases h
  | y :: l, 0, x, h, k, u, hu => by
    cases h
    have hk : k < (f y).length := (List.getElem?_eq_some_iff.1 hu).1
    simp only [cellsE, List.flatMap_cons, Nat.mul_zero, Nat.zero_add]
    rw [List.getElem?_append_left hk]; exact hu
  | y :: l, j + 1, x, h, k, u, hu => by
    have := cellsE_at hf l j x (by simpa using h) k u hu
    simp only [cellsE, List.flatMap_cons] at this ⊢
    rw [List.getElem?_append_right (by rw [hf, Nat.mul_succ]; omega), hf]
    rw [show s * (j + 1) + k - s = s * j + k by rw [Nat.mul_succ]; omega]
    exact this
theorem cellsE_take (hf : ∀ x, (f x).length = s) : ∀ (l : List α) (j : Nat), cellsE f (l.take j) = (cellsE f l).take (s * j)
  | [], j => by simp [cellsE]
  | x :: l, 0 => by simp [cellsE]
  | x :: l, j + 1 => by
    have := cellsE_take hf l j
    simp only [cellsE, List.take_succ_cons, List.flatMap_cons] at this ⊢
    rw [this, List.take_append, List.take_of_length_le (l := f x) (by rw [hf, Nat.mul_succ]; omega), hf, show s * (j + 1) - s = s * j by rw [Nat.mul_succ]; omega]
theorem cellsE_drop (hf : ∀ x, (f x).length = s) : ∀ (l : List α) (j : Nat), cellsE f (l.drop j) = (cellsE f l).drop (s * j)
  | [], j => by simp [cellsE]
  | x :: l, 0 => by simp [cellsE]
  | x :: l, j + 1 => by
    have := cellsE_drop hf l j
    simp only [cellsE, List.drop_succ_cons, List.flatMap_cons] at this ⊢
    rw [this, List.drop_append, show (f x).drop (s * (j + 1)) = [] from List.drop_eq_nil_of_le (by rw [hf, Nat.mul_succ]; omega), hf, show s * (j + 1) - s = s * j by rw [Nat.mul_succ]; omega, List.nil_append]
/-- The j-th of a list. -/
theorem SB.elE (hf : ∀ x, (f x).length = s) (hs : 0 < s) {w : World} {A : Option Addr} {L : List α} (h : SB w A (s * L.length) (cellsE f L)) {j : Nat} {x : α} (hp : L[j]? = some x) : ∃ g o, A = some ⟨g, o, none⟩ ∧ ∀ (k : Nat) u, (f x)[k]? = some u → w.cell? ⟨g, o + j * s + k, none⟩ = some u := by
  have hlt := (List.getElem?_eq_some_iff.1 hp).1
  obtain ⟨g, o, e, hc⟩ := h.cell (Nat.mul_pos hs (by omega))
  refine ⟨g, o, e, fun k u hu => ?_⟩
  have := hc _ u (cellsE_at hf L j x hp k u hu)
  rwa [Nat.mul_comm, ← Nat.add_assoc] at this
end
def seI : SEl := ⟨22, 3, .int .i64 0, 1, 8⟩
theorem seI_ok : seI.Ok := ⟨by kernel_rfl, by kernel_rfl, by kernel_rfl, by decide, by decide, by decide⟩
def acC (a : Ac) : List Value := [.int .i64 a.txn, .bool a.wr, .string a.item, .int .i64 a.ver]
theorem acC_len (a : Ac) : (acC a).length = 4 := rfl
theorem acC_one (a : Ac) : ∀ u ∈ acC a, u.oneCell' = true := by
  intro u hu
  simp [acC] at hu
  rcases hu with rfl | rfl | rfl | rfl <;> rfl
def acV (a : Ac) : Value := .agg #[.int .i64 a.txn, .bool a.wr, .string a.item, .int .i64 a.ver]
def seA : SEl := ⟨23, 44, .agg #[.int .i64 0, .bool false, .string ⟨#[]⟩, .int .i64 0], 4, 40⟩
theorem seA_ok : seA.Ok := ⟨by kernel_rfl, by kernel_rfl, by kernel_rfl, by decide, by decide, by decide⟩
def dpC (d : Dp) : List Value := [.int .i64 d.fr, .int .i64 d.to, .int .i64 d.kd]
theorem dpC_len (d : Dp) : (dpC d).length = 3 := rfl
theorem dpC_one (d : Dp) : ∀ u ∈ dpC d, u.oneCell' = true := by
  intro u hu
  simp [dpC] at hu
  rcases hu with rfl | rfl | rfl <;> rfl
def seD : SEl := ⟨45, 51, .agg #[.int .i64 0, .int .i64 0, .int .i64 0], 3, 24⟩
theorem seD_ok : seD.Ok := ⟨by kernel_rfl, by kernel_rfl, by kernel_rfl, by decide, by decide, by decide⟩
def wfI (x : Int) : Prop := (Lit.int .i64 x).wf = true
theorem wfI_of {x : Int} (h : -9223372036854775808 ≤ x ∧ x ≤ 9223372036854775807) : wfI x := by
  unfold wfI Lit.wf
  simp [IntKind.min, IntKind.max, IntKind.bits, IntKind.signed]
  omega
theorem wfI_rng {x : Int} (h : wfI x) : -9223372036854775808 ≤ x ∧ x ≤ 9223372036854775807 := by
  unfold wfI Lit.wf at h
  simp [IntKind.min, IntKind.max, IntKind.bits, IntKind.signed] at h
  omega
/-- A history as it lies: its commits and its acts. -/
structure Hist (w : World) (A : Option Addr) (n c : Nat) (B : Option Addr) (m d : Nat) (cs : List Int) (ac : List Ac) : Prop where
  cl : cs.length = n
  al : ac.length = m
  cb : SB w A n (numC cs)
  ab : SB w B (4 * m) (cellsE acC ac)
  cw : ∀ x ∈ cs, wfI x
  aw : ∀ a ∈ ac, wfI a.txn ∧ wfI a.ver ∧ a.item.size ≤ maxLen
  nc : n ≤ c ∧ c ≤ maxLen
  md : m ≤ d ∧ d ≤ maxLen
section
variable {w w' : World} {A B : Option Addr} {n c m d : Nat} {cs : List Int} {ac : List Ac}
theorem Hist.gw (h : Hist w A n c B m d cs ac) (hb : Below w.heap.size w w') : Hist w' A n c B m d cs ac := ⟨h.cl, h.al, h.cb.gw hb, h.ab.gw hb, h.cw, h.aw, h.nc, h.md⟩
theorem Hist.act (h : Hist w A n c B m d cs ac) {j : Nat} {a : Ac} (ha : ac[j]? = some a) : ∃ g o, B = some ⟨g, o, none⟩ ∧ w.cell? ⟨g, o + j * 4, none⟩ = some (.int .i64 a.txn) ∧ w.cell? ⟨g, o + j * 4 + 1, none⟩ = some (.bool a.wr) ∧ w.cell? ⟨g, o + j * 4 + 2, none⟩ = some (.string a.item) ∧ w.cell? ⟨g, o + j * 4 + 3, none⟩ = some (.int .i64 a.ver) := by
  have hab := h.ab
  rw [← h.al] at hab
  obtain ⟨g, o, e, hc⟩ := hab.elE acC_len (by omega) ha
  exact ⟨g, o, e, hc 0 _ rfl, hc 1 _ rfl, hc 2 _ rfl, hc 3 _ rfl⟩
theorem SB.num {l : List Int} (h : SB w A n (numC l)) {j : Nat} {x : Int} (hx : l[j]? = some x) : ∃ g o, A = some ⟨g, o, none⟩ ∧ w.cell? ⟨g, o + j, none⟩ = some (.int .i64 x) := h.at_ (numC_at hx)
end
def histV (A : Option Addr) (n c : Nat) (B : Option Addr) (m d : Nat) : Value := .agg #[.slice A n c, .slice B m d]
theorem alloc_below11 (w : World) (o : Obj) : Below w.heap.size w (w.alloc o) := (Below.refl _ _).alloc (Nat.le_refl _) o
/-- One more in a map, as an instruction. -/
theorem MapM.upd11 {κ : Type} [DecidableEq κ] {k : TypeId} {T : KT κ k} {w : World} {r : Nat} {hs : List (κ × Value)} (hM : MapM T w r hs) {t e : TypeId} (ht : Tryz.prog.underlying t = some (.map k e)) {x : κ} (hx : T.ok x) (v : Value) (hlen : hs.length < 4611686018427387904) :
    ∃ w', (Instr.mapUpdate t (.map (some r)) (T.enc x) v).run Tryz.prog w = .ok () w' ∧ MapM T w' r (putM hs x v) ∧ Out (fun k => k = r) w w' := by
  obtain ⟨D, ho, hv⟩ := hM
  obtain ⟨w', hrun, h1, h2⟩ := ho.update T.law ht (by simp only [maxLen]; omega) (val := v) (d := .held v) (ps := []) (T.key hx) rfl
  have h3 := owns_tightM h1
  have h4 := hv.put hx v
  rw [h4.size] at h3
  refine ⟨w', hrun, ⟨_, h3, h4⟩, (Out.refl _ w).grown h2 fun k e => .inl (Option.some.inj e).symm⟩
/-- m[x], and whether it is there. -/
theorem MapM.look11 {κ : Type} [DecidableEq κ] {k : TypeId} {T : KT κ k} {w : World} {r : Nat} {hs : List (κ × Value)} (hM : MapM T w r hs) {t e : TypeId} (ht : Tryz.prog.underlying t = some (.map k e)) {z : Value} (hz : (zeroValue e).run Tryz.prog w = .ok z w) {x : κ} (hx : T.ok x) :
    (Instr.lookup t (.map (some r)) (T.enc x) true).run Tryz.prog w = .ok (.tuple #[(getM hs x).getD z, .bool (getM hs x).isSome]) w := by
  obtain ⟨D, ho, hv⟩ := hM
  obtain ⟨v, ps, hrun, h1⟩ := ho.look_ok T.law ht hz (zd := .held z) (zp := []) rfl (T.key hx)
  rw [hv.at_ x hx] at h1
  rw [hrun, hv.has x hx]
  unfold heldR at h1
  simp only [Option.some.injEq, Prod.mk.injEq] at h1
  obtain ⟨h1, -⟩ := h1
  cases hg : getM hs x with
  | none => rw [hg] at h1; simp only [Option.elim_none, DataW.held.injEq] at h1; rw [h1]; rfl
  | some u => rw [hg] at h1; simp only [Option.elim_some, DataW.held.injEq] at h1; rw [h1]; rfl
/-- m[x] = v, however long the map is. -/
theorem wp_put11 {κ : Type} [DecidableEq κ] {k : TypeId} {w : World} {ops : Array Oper} {rest : List Oper} {o : Oper} {a : Act} {Q : Exit → Act → World → Prop} {r : Nat} {hs : List (κ × Value)} {t e : TypeId} (T : KT κ k) (hg : o.guard = none) (m x v : Operand) (hop : o.op = Op.mapUpdate t m x v) (hm : a.eval m = .map (some r)) (hM : MapM T w r hs) (ht : Tryz.prog.underlying t = some (.map k e)) (y : κ) (hy : T.ok y) (hx : a.eval x = T.enc y) (hlen : hs.length < 4611686018427387904)
    (hK : ∀ w', MapM T w' r (putM hs y (a.eval v)) → Out (fun k => k = r) w w' → wpList Tryz.prog ops Q rest (a.put o.dst undef) w') : wpList Tryz.prog ops Q (o :: rest) a w := by
  obtain ⟨D, ho, hv⟩ := hM
  refine wpList_mapUpdate_in w hg m x v t hop k e T.law ht heldR r hs.length D hm ho (by simp only [maxLen]; omega) _ _ (T.lit y) hx rfl (T.key hy) (.held (a.eval v)) [] rfl fun w' h1 h2 => ?_
  have h3 := owns_tightM h1
  have h4 := hv.put hy (a.eval v)
  rw [h4.size] at h3
  exact hK w' ⟨_, h3, h4⟩ ((Out.refl _ w).grown h2.grown fun k e => .inl (Option.some.inj e).symm)

/-- make(map, so many) -/
theorem run_makeMap11 {t k e : TypeId} (ht : Tryz.prog.underlying t = some (.map k e)) (w : World) (z : Int) : (Instr.makeMap t (some (.int .i64 z))).run Tryz.prog w = .ok (.map (some w.heap.size)) (w.alloc (.map #[] 0)) := by
  simp [Instr.makeMap, run_underlying ht, asInt, asIntOf, Result.andThen]
/-- Where each number stands, as a map: what the first j of a list leave. -/
def plM (l : List Int) : Nat → List (Int × Value)
  | 0 => []
  | j + 1 => match l[j]? with
    | some x => putM (plM l j) x (.int .i64 (j : Nat))
    | none => plM l j
theorem plM_next {l : List Int} {j : Nat} {x : Int} (h : l[j]? = some x) : plM l (j + 1) = putM (plM l j) x (.int .i64 (j : Nat)) := by
  show (match l[j]? with | some x => _ | none => _) = _
  rw [h]
theorem plM_has (l : List Int) : ∀ j x, (getM (plM l j) x).isSome = decide (x ∈ l.take j)
  | 0, x => by simp [plM, getM]
  | j + 1, x => by
    have ih := plM_has l j x
    cases h : l[j]? with
    | none =>
      have h1 : plM l (j + 1) = plM l j := by show (match l[j]? with | some x => _ | none => _) = _; rw [h]
      rw [h1, ih, List.take_add_one, h]; simp
    | some y =>
      rw [plM_next h, getM_put, List.take_add_one, h]
      by_cases e : x = y
      · simp [e]
      · rw [if_neg e, ih]; simp [e]
theorem plM_at {l : List Int} (hd : l.Nodup) : ∀ j i x, i < j → l[i]? = some x → getM (plM l j) x = some (.int .i64 (i : Nat))
  | 0, i, x, h, _ => absurd h (Nat.not_lt_zero _)
  | j + 1, i, x, h, hx => by
    cases hj : l[j]? with
    | none =>
      have h1 := List.getElem?_eq_none_iff.1 hj
      have h2 := (List.getElem?_eq_some_iff.1 hx).1
      have h3 : plM l (j + 1) = plM l j := by show (match l[j]? with | some x => _ | none => _) = _; rw [hj]
      rw [h3]
      exact plM_at hd j i x (by omega) hx
    | some y =>
      rw [plM_next hj, getM_put]
      by_cases e : x = y
      · subst e
        rw [if_pos rfl]
        have : i = j := by
          have h1 := idx_of hd hx
          have h2 := idx_of hd hj
          omega
        rw [this]
      · rw [if_neg e]
        refine plM_at hd j i x ?_ hx
        rcases Nat.lt_or_ge i j with h1 | h1
        · exact h1
        · have : i = j := by omega
          rw [this, hj] at hx; exact absurd (Option.some.inj hx).symm e
theorem putM_len {κ : Type} [DecidableEq κ] {hs : List (κ × Value)} (h : OnceM hs) (x : κ) (v : Value) : (putM hs x v).length = if (getM hs x).isSome then hs.length else hs.length + 1 := by
  unfold putM
  rw [List.length_append]
  cases hg : getM hs x with
  | none => rw [del_none hg]; rfl
  | some u => have := del_len h ((getM_some h).1 hg); simp; omega
theorem plM_once (l : List Int) : ∀ j, OnceM (plM l j)
  | 0 => OnceM.nil
  | j + 1 => by
    show OnceM (match l[j]? with | some x => _ | none => _)
    split
    · exact (plM_once l j).put _ _
    · exact plM_once l j
theorem plM_le (l : List Int) : ∀ j, (plM l j).length ≤ j
  | 0 => Nat.le_refl _
  | j + 1 => by
    have ih := plM_le l j
    cases h : l[j]? with
    | none => show (match l[j]? with | some x => _ | none => _ : List (Int × Value)).length ≤ _; rw [h]; exact Nat.le_succ_of_le ih
    | some x => rw [plM_next h, putM_len (plM_once l j)]; split <;> omega
/-- As many as there are numbers: each stands there once. -/
theorem plM_len (l : List Int) : ∀ j, j ≤ l.length → ((plM l j).length = j ↔ (l.take j).Nodup)
  | 0, _ => by simp [plM]
  | j + 1, hj => by
    have ih := plM_len l j (by omega)
    have hle := plM_le l j
    obtain ⟨x, hx⟩ : ∃ x, l[j]? = some x := ⟨_, List.getElem?_eq_getElem (by omega)⟩
    have hh := plM_has l j x
    rw [plM_next hx, putM_len (plM_once l j), hh, List.take_add_one, hx, Option.toList_some]
    by_cases e : x ∈ l.take j
    · rw [if_pos (by simpa using e)]
      constructor
      · intro h; omega
      · intro h
        exact absurd rfl ((List.nodup_append.1 h).2.2 x e x (List.mem_singleton_self x))
    · rw [if_neg (by simpa using e)]
      constructor
      · intro h
        have := ih.1 (by omega)
        exact List.nodup_append.2 ⟨this, by simp, fun a ha b hb => by rw [List.mem_singleton.1 hb]; rintro rfl; exact e ha⟩
      · intro h
        have := ih.2 (List.nodup_append.1 h).1
        omega
end Go.Proofs.YtnpeankmmojebaaGreatDoor

/- Layer 11: slices.Sort of numbers (int) that the call itself made, by its contract. -/
namespace Go.Proofs.YtnpeankmmojebaaGreatDoor
set_option maxRecDepth 100000
set_option maxRecDepth 100000
open Go.RowKit

theorem sortedI_heap (w : World) (m g : Nat) (ys : Array Int) (os : Array Obj) (k : Nat) (hk : k < w.heap.size) :
    (Sort.grow (Sort.putRow (Value.int .i64) (Sort.ahead w m) g 0 ys) os).heap[k]? = if k = g then (w.heap[k]?).map (Sort.onCells (Sort.putCells (Value.int .i64) 0 ys)) else w.heap[k]? := by
  unfold Sort.grow Sort.putRow Sort.mapBlock Sort.ahead
  simp only
  rw [Array.getElem?_append_left (by simpa using hk), Array.getElem?_modify]
  by_cases e : g = k
  · subst e; simp
  · rw [if_neg e, if_neg (Ne.symm e)]
theorem so_sortedI {base n c g m : Nat} {w : World} {zs ys : List Int} {os : Array Obj} (h : SO seI base w (.slice (some ⟨g, 0, none⟩) n c) n (numC zs)) (hl : ys.length = n) :
    SO seI base (Sort.grow (Sort.putRow (Value.int .i64) (Sort.ahead w m) g 0 ys.toArray) os) (.slice (some ⟨g, 0, none⟩) n c) n (numC ys) := by
  rcases h.own.2 with ⟨hv, -⟩ | ⟨g', cap, cur, hv, hb, hh, hc, hm, hsz, ht⟩
  · cases hv
  · obtain ⟨rfl, rfl⟩ : g = g' ∧ c = cap := by simpa using hv
    refine ⟨⟨by rw [numC_len, hl]; show n = n * 1; omega, .inr ⟨g, c, Sort.putCells (Value.int .i64) 0 ys.toArray cur, rfl, hb, ?_, hc, hm, by simpa [Sort.putCells] using hsz, ?_⟩⟩, by rw [numC_len, hl]; show n = 1 * n; omega, numC_one _⟩
    · rw [sortedI_heap _ _ _ _ _ _ (Array.getElem?_eq_some_iff.1 hh).1, if_pos rfl, hh]; rfl
    · have hcs : cur.size = c * 1 := hsz
      apply List.ext_getElem?
      intro k
      show (List.take (n * 1) _)[k]? = _
      rw [List.getElem?_take, Nat.mul_one]
      by_cases hk : k < n
      · rw [if_pos hk]
        have h1 : k < cur.size := by omega
        have h2 : k < ys.length := by omega
        simp [Sort.putCells, numC, h1, h2]
      · rw [if_neg hk, List.getElem?_eq_none (by rw [numC_len]; omega)]
theorem so_sortedI_out {g m : Nat} {w : World} {ys : List Int} {os : Array Obj} : Out (fun k => k = g) w (Sort.grow (Sort.putRow (Value.int .i64) (Sort.ahead w m) g 0 ys.toArray) os) :=
  ⟨rfl, rfl, rfl, by simp [Sort.grow, Sort.putRow, Sort.mapBlock, Sort.ahead], fun k hk hn => by
    rw [sortedI_heap _ _ _ _ _ _ hk, if_neg hn]⟩
/-- slices.Sort of a list that the call made. -/
theorem wsortI {base : Nat} {w : World} {v : Value} {zs : List Int} (h : SO seI base w v zs.length (numC zs)) (hn : zs.length ≤ 4000000) :
    Calls Tryz.prog 66 #[v] w fun e w' => e = .returned (.tuple #[]) ∧ SO seI base w' v zs.length (numC (zs.mergeSort fun x y => decide (x ≤ y))) ∧ Below base w w' := by
  rcases h.own.2 with ⟨rfl, h0⟩ | ⟨g, cap, cur, rfl, hb, hh, -⟩
  · have hz : zs = [] := List.eq_nil_of_length_eq_zero h0
    subst hz
    have hcon := AnyM.slices_Sort_int_none Tryz.sortI none 0 w
    change Calls Tryz.prog 66 _ _ _ at hcon
    refine hcon.mono ?_
    rintro e w' ⟨h1, rfl⟩
    exact ⟨h1, by simpa using h, Below.refl _ _⟩
  · obtain ⟨A, c, e1, hsb, -⟩ := h.form
    obtain ⟨rfl, rfl⟩ : A = some ⟨g, 0, none⟩ ∧ c = cap := by
      simp at e1; exact ⟨e1.1.symm, e1.2.symm⟩
    rw [show seI.s * zs.length = zs.length from Nat.one_mul _] at hsb
    have hH : Sort.Holds (Value.int .i64) w g 0 zs.toArray := fun j hj => by
      have hj' : j < zs.length := by simpa using hj
      obtain ⟨x, hx⟩ : ∃ x, zs[j]? = some x := ⟨_, List.getElem?_eq_getElem hj'⟩
      obtain ⟨g1, o1, e2, hc⟩ := hsb.at_ (numC_at hx)
      cases e2
      refine ⟨?_, frozen_of_row _ _ _ _ _ hh⟩
      rw [hc]
      simp [getElem!_pos, hj']
      rw [List.getElem?_eq_getElem hj'] at hx
      exact (Option.some.inj hx).symm
    have hlt := (Array.getElem?_eq_some_iff.1 hh).1
    have hcon := AnyM.slices_Sort_int Tryz.sortI g 0 c zs w hH hlt (by omega)
    change Calls Tryz.prog 66 _ _ _ at hcon
    refine hcon.mono ?_
    rintro e w' ⟨h1, m, os, rfl⟩
    exact ⟨h1, so_sortedI h (List.length_mergeSort _), so_sortedI_out.below (by omega) fun i hi e => by omega⟩
end Go.Proofs.YtnpeankmmojebaaGreatDoor

/- Layer 11: slices.Values and what its function value promises. -/
namespace Go.Proofs.YtnpeankmmojebaaGreatDoor
set_option maxRecDepth 100000
set_option maxRecDepth 100000
open Go.RowKit Go.Shelf

attribute [local go_sem] Oper.semAt_some

/-- What lies below a block stays. -/
def KB (N0 : Nat) (A B : World) : Prop := ∀ k, k < N0 → B.heap[k]? = A.heap[k]?
theorem KB.refl (N0 : Nat) (A : World) : KB N0 A A := fun _ _ => rfl
theorem KB.trans {N0 : Nat} {A B C : World} (h : KB N0 A B) (k : KB N0 B C) : KB N0 A C := fun i hi => (k i hi).trans (h i hi)
theorem KB.cell {N0 : Nat} {A B : World} (h : KB N0 A B) {p : Addr} {v : Value} (hc : A.cell? p = some v) (hp : p.block < N0) : B.cell? p = some v :=
  (World.cell?_of_block (w := A) (h _ hp)).trans hc
theorem KB.of_below {N0 : Nat} {A B : World} (h : Below A.heap.size A B) (hN : N0 ≤ A.heap.size) : KB N0 A B := fun k hk => h.block k (by omega)
def encI11 (x : Int) : Array Value := #[.int .i64 x]
theorem wsValues (A : Option Addr) (n c : Nat) (W : World) : Calls Tryz.prog 46 #[.slice A n c] W fun e w' => e = .returned (.func (.func 67) #[] #[.pointer (some ⟨W.heap.size, 0, none⟩)]) ∧ w' = W.alloc (.cells #[.slice A n c] 22) := by
  go_enter Tryz.func46, Tryz.ntmps46
  go_wp2
  go_ret
  exact ⟨rfl, rfl⟩
theorem YieldAt.anyDepthI {m : Nat} (m' : Nat) {P : Program} {l : Nat} {args : Array Value} {W : World} {R : Ending → World → Prop} (h : YieldAt Fence.wide m P l args W R) : YieldAt Fence.wide m' P l args W R := by
  obtain ⟨fn, tmps, assign, body, hy, hR⟩ := h
  exact ⟨fn, tmps, assign, body, hy, ⟨hR.1, fun c cs _ => hR.2 c cs (room_wide _)⟩⟩
set_option maxHeartbeats 8000000 in
theorem hands_values (m N0 bv : Nat) (A : Option Addr) (n c : Nat) (cs : List Int) (V : World) (hc : V.cell? ⟨bv, 0, none⟩ = some (.slice A n c)) (hs : SB V A n (numC cs)) (hl : cs.length = n) (hn : n ≤ 4096) (hb : bv < N0) (hA : ∀ ad, A = some ad → 0 < n → ad.block < N0) (hN : N0 ≤ V.heap.size) :
    Hands Fence.wide m Tryz.prog 67 #[.pointer (some ⟨bv, 0, none⟩)] encI11 (fun pre _ _ => pre.length < n) (KB N0) (fun xs => xs = cs) (fun _ => True) V := by
  intro l J Jx W hW hJ hJx hY h0
  have YY := Lib.hid (fun pre x X (hX : J pre X) (hp : pre.length < n) => YieldAt.anyDepthI 8 (hY pre x X hX hp))
  have HS := Lib.hid (hs.gw hW)
  have c0 := keep_below hc hW
  have HL := Lib.hid hl
  have HN := Lib.hid hn
  have HB := Lib.hid hb
  have HA := Lib.hid hA
  have H0 := Lib.hid h0
  clear hY hJ hJx h0 hc hs hl hn hb hA hN hW
  refine callsIn_wide.2 ?_
  simp only [List.append_toArray, List.cons_append, List.nil_append]
  go_enter Tryz.func67, Tryz.ntmps67
  go_upto_region 1 with fail
  clear c0
  go_loopw [7] (fun i wr => ∃ j : Nat, i = .int .i64 (j : Nat) ∧ j ≤ n ∧ J (cs.take j) wr ∧ KB N0 W wr) (fun i _ => n - (intOf i).toNat)
  case atStart => exact ⟨0, rfl, Nat.zero_le _, by rw [List.take_zero]; exact H0.out, KB.refl _ _⟩
  case round =>
    rename World => wr
    obtain ⟨j, rfl, hj, hJj, hK⟩ := hrel
    by_cases hlt : j < n
    · obtain ⟨x, hx⟩ : ∃ x, cs[j]? = some x := ⟨_, List.getElem?_eq_getElem (by rw [HL.out]; exact hlt)⟩
      obtain ⟨g, o, rfl, q0⟩ := HS.out.num hx
      have c0 := hK.cell q0 (HA.out ⟨g, o, none⟩ rfl (by omega))
      have HT := Lib.hid (show cs.take (j + 1) = cs.take j ++ [x] by rw [List.take_add_one, hx]; rfl)
      have i1 : (j : Int) < (n : Int) := by omega
      have l1 : (j : Int) ≤ 4096 := by have := HN.out; omega
      have HLT := Lib.hid hlt
      have HK := Lib.hid hK
      have HJ := Lib.hid hJj
      clear hx q0 hj hlt hJj hK
      go_upto_region 3 with fail
      obtain ⟨fn, tmps, assign, body, hy, hR⟩ := YY.out (cs.take j) x wr HJ.out (by rw [List.length_take, HL.out]; have := HLT.out; omega)
      have HRR := Lib.hid hR
      unfold encI11 at hy
      clear hR
      refine (wpIn_wide (n := 9)).1 ?_
      gi_wp2
      refine HRR.out.mono ?_
      rintro e W2 hb
      have HB2 := Lib.hid hb
      clear hb HRR
      · obtain ⟨rfl, hj, hk⟩ | ⟨rfl, hx⟩ := HB2.out
        · have GJ := Lib.hid (show J (cs.take (j + 1)) W2 by rw [HT.out]; exact hj)
          have GK := Lib.hid (HK.out.trans hk)
          clear hj hk HB2 hy
          gi_wp2
          go_wp2
          go_roundw
          case rel => exact ⟨j + 1, by go_num, HLT.out, GJ.out, GK.out⟩
          case measure => have := HLT.out; simp [intOf]; omega
        · have GX := Lib.hid hx
          clear hx HB2 hy
          gi_wp2
          go_wp2
          refine bodyPost_ret (results_none rfl _ _ _) rfl ?_
          first | exact ⟨⟨_, rfl⟩, .inr ⟨_, trivial, GX.out⟩⟩ | exact .inr ⟨_, GX.out⟩ | exact ⟨⟨_, rfl⟩, .inr ⟨_, GX.out⟩⟩
    · obtain rfl : j = n := by omega
      have i1 : ¬ (j : Int) < (j : Int) := by omega
      have HJ := Lib.hid (show J cs wr by rw [← HL.out, List.take_length] at hJj; exact hJj)
      clear hj hlt hJj hK
      go_wp2
      go_end0
      first | exact ⟨⟨_, rfl⟩, .inl HJ.out⟩ | exact ⟨⟨_, rfl⟩, .inl ⟨_, rfl, HJ.out⟩⟩ | exact .inl HJ.out
end Go.Proofs.YtnpeankmmojebaaGreatDoor
