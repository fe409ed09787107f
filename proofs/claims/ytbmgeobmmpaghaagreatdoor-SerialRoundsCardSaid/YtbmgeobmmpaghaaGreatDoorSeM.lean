/- Layer 11: histories in memory; lists of acts, of dependencies, of numbers. -/
import Derived.Test.YtbmgeobmmpaghaaGreatDoorSeK
import Derived.Test.YtbmgeobmmpaghaaGreatDoorSeG
set_option linter.unusedVariables false
namespace Go.Proofs.YtbmgeobmmpaghaaGreatDoor
set_option maxRecDepth 100000
set_option maxRecDepth 100000
open Go.RowKit Go.Maps Go.ChangeMaps Go.MapKept

/-- The cells of a list. -/
def cellsE {α : Type} (f : α → List Value) (l : List α) : List Value := l.flatMap f
section
variable {α : Type} {f : α → List Value} {s : Nat}
theorem cellsE_len (hf : ∀ x, (f x).length = s) (l : List α) : (cellsE f l).length = s * l.length := by
  induction l with
  | nil => rfl
  | cons x l ih => simp only [cellsE, List.flatMap_cons, List.length_append, List.length_cons] at ih ⊢; rw [ih, hf, Nat.mul_succ, Nat.add_comm]
theorem cellsE_app (a b : List α) : cellsE f (a ++ b) = cellsE f a ++ cellsE f b := by simp [cellsE]
theorem cellsE_one (h1 : ∀ x, ∀ u ∈ f x, u.oneCell' = true) (l : List α) : ∀ u ∈ cellsE f l, u.oneCell' = true := by
  intro u hu
  obtain ⟨x, -, hx⟩ := List.mem_flatMap.1 hu
  exact h1 x u hx
theorem cellsE_at (hf : ∀ x, (f x).length = s) : ∀ (l : List α) (j : Nat) (x : α), l[j]? = some x → ∀ (k : Nat) u, (f x)[k]? = some u → (cellsE f l)[s * j + k]? = some u
  | [], _, _, h, _, _, _ => by cases h
  | y :: l, 0, x, h, k, u, hu => by
    cases h
    have hk : k < (f y).length := (List.getElem?_eq_some_iff.1 hu).1
    simp only [cellsE, List.flatMap_cons, Nat.mul_zero, Nat.zero_add]
    rw [List.getElem?_append_left hk]; exact hu
  | y :: l, j + 1, x, h, k, u, hu => by
    have := cellsE_at hf l j x (by simpa using h) k u hu
    simp only [cellsE, List.flatMap_cons] at this ⊢
    rw [List.getElem?_append_right (by rw [hf, Nat.mul_succ]; omega), hf]
    rw [show s * (j + 1) + k - s = s * j + k by rw [Nat.mul_succ]; omega]
    exact this
theorem cellsE_take (hf : ∀ x, (f x).length = s) : ∀ (l : List α) (j : Nat), cellsE f (l.take j) = (cellsE f l).take (s * j)
  | [], j => by simp [cellsE]
  | x :: l, 0 => by simp [cellsE]
  | x :: l, j + 1 => by
    have := cellsE_take hf l j
    simp only [cellsE, List.take_succ_cons, List.flatMap_cons] at this ⊢
    rw [this, List.take_append, List.take_of_length_le (l := f x) (by rw [hf, Nat.mul_succ]; omega), hf, show s * (j + 1) - s = s * j by rw [Nat.mul_succ]; omega]
theorem cellsE_drop (hf : ∀ x, (f x).length = s) : ∀ (l : List α) (j : Nat), cellsE f (l.drop j) = (cellsE f l).drop (s * j)
  | [], j => by simp [cellsE]
  | x :: l, 0 => by simp [cellsE]
  | x :: l, j + 1 => by
    have := cellsE_drop hf l j
    simp only [cellsE, List.drop_succ_cons, List.flatMap_cons] at this ⊢
    rw [this, List.drop_append, show (f x).drop (s * (j + 1)) = [] from List.drop_eq_nil_of_le (by rw [hf, Nat.mul_succ]; omega), hf, show s * (j + 1) - s = s * j by rw [Nat.mul_succ]; omega, List.nil_append]
/-- The j-th of a list. -/
theorem SB.elE (hf : ∀ x, (f x).length = s) (hs : 0 < s) {w : World} {A : Option Addr} {L : List α} (h : SB w A (s * L.length) (cellsE f L)) {j : Nat} {x : α} (hp : L[j]? = some x) : ∃ g o, A = some ⟨g, o, none⟩ ∧ ∀ (k : Nat) u, (f x)[k]? = some u → w.cell? ⟨g, o + j * s + k, none⟩ = some u := by
  have hlt := (List.getElem?_eq_some_iff.1 hp).1
  obtain ⟨g, o, e, hc⟩ := h.cell (Nat.mul_pos hs (by omega))
  refine ⟨g, o, e, fun k u hu => ?_⟩
  have := hc _ u (cellsE_at hf L j x hp k u hu)
  rwa [Nat.mul_comm, ← Nat.add_assoc] at this
end
def seI : SEl := ⟨22, 3, .int .i64 0, 1, 8⟩
theorem seI_ok : seI.Ok := ⟨by kernel_rfl, by kernel_rfl, by kernel_rfl, by decide, by decide, by decide⟩
def acC (a : Ac) : List Value := [.int .i64 a.txn, .bool a.wr, .string a.item, .int .i64 a.ver]
theorem acC_len (a : Ac) : (acC a).length = 4 := rfl
theorem acC_one (a : Ac) : ∀ u ∈ acC a, u.oneCell' = true := by
  intro u hu
  simp [acC] at hu
  rcases hu with rfl | rfl | rfl | rfl <;> rfl
def acV (a : Ac) : Value := .agg #[.int .i64 a.txn, .bool a.wr, .string a.item, .int .i64 a.ver]
def seA : SEl := ⟨23, 58, .agg #[.int .i64 0, .bool false, .string ⟨#[]⟩, .int .i64 0], 4, 40⟩
theorem seA_ok : seA.Ok := ⟨by kernel_rfl, by kernel_rfl, by kernel_rfl, by decide, by decide, by decide⟩
def dpC (d : Dp) : List Value := [.int .i64 d.fr, .int .i64 d.to, .int .i64 d.kd]
theorem dpC_len (d : Dp) : (dpC d).length = 3 := rfl
theorem dpC_one (d : Dp) : ∀ u ∈ dpC d, u.oneCell' = true := by
  intro u hu
  simp [dpC] at hu
  rcases hu with rfl | rfl | rfl <;> rfl
def seD : SEl := ⟨29, 37, .agg #[.int .i64 0, .int .i64 0, .int .i64 0], 3, 24⟩
theorem seD_ok : seD.Ok := ⟨by kernel_rfl, by kernel_rfl, by kernel_rfl, by decide, by decide, by decide⟩
def wfI (x : Int) : Prop := (Lit.int .i64 x).wf = true
theorem wfI_of {x : Int} (h : -9223372036854775808 ≤ x ∧ x ≤ 9223372036854775807) : wfI x := by
  unfold wfI Lit.wf
  simp [IntKind.min, IntKind.max, IntKind.bits, IntKind.signed]
  omega
theorem wfI_rng {x : Int} (h : wfI x) : -9223372036854775808 ≤ x ∧ x ≤ 9223372036854775807 := by
  unfold wfI Lit.wf at h
  simp [IntKind.min, IntKind.max, IntKind.bits, IntKind.signed] at h
  omega
/-- A history as it lies: its commits and its acts. -/
structure Hist (w : World) (A : Option Addr) (n c : Nat) (B : Option Addr) (m d : Nat) (cs : List Int) (ac : List Ac) : Prop where
  cl : cs.length = n
  al : ac.length = m
  cb : SB w A n (numC cs)
  ab : SB w B (4 * m) (cellsE acC ac)
  cw : ∀ x ∈ cs, wfI x
  aw : ∀ a ∈ ac, wfI a.txn ∧ wfI a.ver ∧ a.item.size ≤ maxLen
  nc : n ≤ c ∧ c ≤ maxLen
  md : m ≤ d ∧ d ≤ maxLen
section
variable {w w' : World} {A B : Option Addr} {n c m d : Nat} {cs : List Int} {ac : List Ac}
theorem Hist.gw (h : Hist w A n c B m d cs ac) (hb : Below w.heap.size w w') : Hist w' A n c B m d cs ac := ⟨h.cl, h.al, h.cb.gw hb, h.ab.gw hb, h.cw, h.aw, h.nc, h.md⟩
theorem Hist.act (h : Hist w A n c B m d cs ac) {j : Nat} {a : Ac} (ha : ac[j]? = some a) : ∃ g o, B = some ⟨g, o, none⟩ ∧ w.cell? ⟨g, o + j * 4, none⟩ = some (.int .i64 a.txn) ∧ w.cell? ⟨g, o + j * 4 + 1, none⟩ = some (.bool a.wr) ∧ w.cell? ⟨g, o + j * 4 + 2, none⟩ = some (.string a.item) ∧ w.cell? ⟨g, o + j * 4 + 3, none⟩ = some (.int .i64 a.ver) := by
  have hab := h.ab
  rw [← h.al] at hab
  obtain ⟨g, o, e, hc⟩ := hab.elE acC_len (by omega) ha
  exact ⟨g, o, e, hc 0 _ rfl, hc 1 _ rfl, hc 2 _ rfl, hc 3 _ rfl⟩
theorem SB.num {l : List Int} (h : SB w A n (numC l)) {j : Nat} {x : Int} (hx : l[j]? = some x) : ∃ g o, A = some ⟨g, o, none⟩ ∧ w.cell? ⟨g, o + j, none⟩ = some (.int .i64 x) := h.at_ (numC_at hx)
end
def histV (A : Option Addr) (n c : Nat) (B : Option Addr) (m d : Nat) : Value := .agg #[.slice A n c, .slice B m d]
theorem alloc_below11 (w : World) (o : Obj) : Below w.heap.size w (w.alloc o) := (Below.refl _ _).alloc (Nat.le_refl _) o
/-- One more in a map, as an instruction. -/
theorem MapM.upd11 {κ : Type} [DecidableEq κ] {k : TypeId} {T : KT κ k} {w : World} {r : Nat} {hs : List (κ × Value)} (hM : MapM T w r hs) {t e : TypeId} (ht : Tryz.prog.underlying t = some (.map k e)) {x : κ} (hx : T.ok x) (v : Value) (hlen : hs.length < 4611686018427387904) :
    ∃ w', (Instr.mapUpdate t (.map (some r)) (T.enc x) v).run Tryz.prog w = .ok () w' ∧ MapM T w' r (putM hs x v) ∧ Out (fun k => k = r) w w' := by
  obtain ⟨D, ho, hv⟩ := hM
  obtain ⟨w', hrun, h1, h2⟩ := ho.update T.law ht (by simp only [maxLen]; omega) (val := v) (d := .held v) (ps := []) (T.key hx) rfl
  have h3 := owns_tightM h1
  have h4 := hv.put hx v
  rw [h4.size] at h3
  refine ⟨w', hrun, ⟨_, h3, h4⟩, (Out.refl _ w).grown h2 fun k e => .inl (Option.some.inj e).symm⟩
/-- m[x], and whether it is there. -/
theorem MapM.look11 {κ : Type} [DecidableEq κ] {k : TypeId} {T : KT κ k} {w : World} {r : Nat} {hs : List (κ × Value)} (hM : MapM T w r hs) {t e : TypeId} (ht : Tryz.prog.underlying t = some (.map k e)) {z : Value} (hz : (zeroValue e).run Tryz.prog w = .ok z w) {x : κ} (hx : T.ok x) :
    (Instr.lookup t (.map (some r)) (T.enc x) true).run Tryz.prog w = .ok (.tuple #[(getM hs x).getD z, .bool (getM hs x).isSome]) w := by
  obtain ⟨D, ho, hv⟩ := hM
  obtain ⟨v, ps, hrun, h1⟩ := ho.look_ok T.law ht hz (zd := .held z) (zp := []) rfl (T.key hx)
  rw [hv.at_ x hx] at h1
  rw [hrun, hv.has x hx]
  unfold heldR at h1
  simp only [Option.some.injEq, Prod.mk.injEq] at h1
  obtain ⟨h1, -⟩ := h1
  cases hg : getM hs x with
  | none => rw [hg] at h1; simp only [Option.elim_none, DataW.held.injEq] at h1; rw [h1]; rfl
  | some u => rw [hg] at h1; simp only [Option.elim_some, DataW.held.injEq] at h1; rw [h1]; rfl
/-- m[x] = v, however long the map is. -/
theorem wp_put11 {κ : Type} [DecidableEq κ] {k : TypeId} {w : World} {ops : Array Oper} {rest : List Oper} {o : Oper} {a : Act} {Q : Exit → Act → World → Prop} {r : Nat} {hs : List (κ × Value)} {t e : TypeId} (T : KT κ k) (hg : o.guard = none) (m x v : Operand) (hop : o.op = Op.mapUpdate t m x v) (hm : a.eval m = .map (some r)) (hM : MapM T w r hs) (ht : Tryz.prog.underlying t = some (.map k e)) (y : κ) (hy : T.ok y) (hx : a.eval x = T.enc y) (hlen : hs.length < 4611686018427387904)
    (hK : ∀ w', MapM T w' r (putM hs y (a.eval v)) → Out (fun k => k = r) w w' → wpList Tryz.prog ops Q rest (a.put o.dst undef) w') : wpList Tryz.prog ops Q (o :: rest) a w := by
  obtain ⟨D, ho, hv⟩ := hM
  refine wpList_mapUpdate_in w hg m x v t hop k e T.law ht heldR r hs.length D hm ho (by simp only [maxLen]; omega) _ _ (T.lit y) hx rfl (T.key hy) (.held (a.eval v)) [] rfl fun w' h1 h2 => ?_
  have h3 := owns_tightM h1
  have h4 := hv.put hy (a.eval v)
  rw [h4.size] at h3
  exact hK w' ⟨_, h3, h4⟩ ((Out.refl _ w).grown h2.grown fun k e => .inl (Option.some.inj e).symm)

/-- make(map, so many) -/
theorem run_makeMap11 {t k e : TypeId} (ht : Tryz.prog.underlying t = some (.map k e)) (w : World) (z : Int) : (Instr.makeMap t (some (.int .i64 z))).run Tryz.prog w = .ok (.map (some w.heap.size)) (w.alloc (.map #[] 0)) := by
  simp [Instr.makeMap, run_underlying ht, asInt, asIntOf, Result.andThen]
/-- Where each number stands, as a map: what the first j of a list leave. -/
def plM (l : List Int) : Nat → List (Int × Value)
  | 0 => []
  | j + 1 => match l[j]? with
    | some x => putM (plM l j) x (.int .i64 (j : Nat))
    | none => plM l j
theorem plM_next {l : List Int} {j : Nat} {x : Int} (h : l[j]? = some x) : plM l (j + 1) = putM (plM l j) x (.int .i64 (j : Nat)) := by
  show (match l[j]? with | some x => _ | none => _) = _
  rw [h]
theorem plM_has (l : List Int) : ∀ j x, (getM (plM l j) x).isSome = decide (x ∈ l.take j)
  | 0, x => by simp [plM, getM]
  | j + 1, x => by
    have ih := plM_has l j x
    cases h : l[j]? with
    | none =>
      have h1 : plM l (j + 1) = plM l j := by show (match l[j]? with | some x => _ | none => _) = _; rw [h]
      rw [h1, ih, List.take_add_one, h]; simp
    | some y =>
      rw [plM_next h, getM_put, List.take_add_one, h]
      by_cases e : x = y
      · simp [e]
      · rw [if_neg e, ih]; simp [e]
theorem plM_at {l : List Int} (hd : l.Nodup) : ∀ j i x, i < j → l[i]? = some x → getM (plM l j) x = some (.int .i64 (i : Nat))
  | 0, i, x, h, _ => absurd h (Nat.not_lt_zero _)
  | j + 1, i, x, h, hx => by
    cases hj : l[j]? with
    | none =>
      have h1 := List.getElem?_eq_none_iff.1 hj
      have h2 := (List.getElem?_eq_some_iff.1 hx).1
      have h3 : plM l (j + 1) = plM l j := by show (match l[j]? with | some x => _ | none => _) = _; rw [hj]
      rw [h3]
      exact plM_at hd j i x (by omega) hx
    | some y =>
      rw [plM_next hj, getM_put]
      by_cases e : x = y
      · subst e
        rw [if_pos rfl]
        have : i = j := by
          have h1 := idx_of hd hx
          have h2 := idx_of hd hj
          omega
        rw [this]
      · rw [if_neg e]
        refine plM_at hd j i x ?_ hx
        rcases Nat.lt_or_ge i j with h1 | h1
        · exact h1
        · have : i = j := by omega
          rw [this, hj] at hx; exact absurd (Option.some.inj hx).symm e
theorem putM_len {κ : Type} [DecidableEq κ] {hs : List (κ × Value)} (h : OnceM hs) (x : κ) (v : Value) : (putM hs x v).length = if (getM hs x).isSome then hs.length else hs.length + 1 := by
  unfold putM
  rw [List.length_append]
  cases hg : getM hs x with
  | none => rw [del_none hg]; rfl
  | some u => have := del_len h ((getM_some h).1 hg); simp; omega
theorem plM_once (l : List Int) : ∀ j, OnceM (plM l j)
  | 0 => OnceM.nil
  | j + 1 => by
    show OnceM (match l[j]? with | some x => _ | none => _)
    split
    · exact (plM_once l j).put _ _
    · exact plM_once l j
theorem plM_le (l : List Int) : ∀ j, (plM l j).length ≤ j
  | 0 => Nat.le_refl _
  | j + 1 => by
    have ih := plM_le l j
    cases h : l[j]? with
    | none => show (match l[j]? with | some x => _ | none => _ : List (Int × Value)).length ≤ _; rw [h]; exact Nat.le_succ_of_le ih
    | some x => rw [plM_next h, putM_len (plM_once l j)]; split <;> omega
/-- As many as there are numbers: each stands there once. -/
theorem plM_len (l : List Int) : ∀ j, j ≤ l.length → ((plM l j).length = j ↔ (l.take j).Nodup)
  | 0, _ => by simp [plM]
  | j + 1, hj => by
    have ih := plM_len l j (by omega)
    have hle := plM_le l j
    obtain ⟨x, hx⟩ : ∃ x, l[j]? = some x := ⟨_, List.getElem?_eq_getElem (by omega)⟩
    have hh := plM_has l j x
    rw [plM_next hx, putM_len (plM_once l j), hh, List.take_add_one, hx, Option.toList_some]
    by_cases e : x ∈ l.take j
    · rw [if_pos (by simpa using e)]
      constructor
      · intro h; omega
      · intro h
        exact absurd rfl ((List.nodup_append.1 h).2.2 x e x (List.mem_singleton_self x))
    · rw [if_neg (by simpa using e)]
      constructor
      · intro h
        have := ih.1 (by omega)
        exact List.nodup_append.2 ⟨this, by simp, fun a ha b hb => by rw [List.mem_singleton.1 hb]; rintro rfl; exact e ha⟩
      · intro h
        have := ih.2 (List.nodup_append.1 h).1
        omega
end Go.Proofs.YtbmgeobmmpaghaaGreatDoor
