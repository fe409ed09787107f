/- Layer 8: lists that are cut and appended to: a row of its own, or one without room. -/
import Derived.Test.YtghnafknbgmagaaLkOwn
import Derived.Test.YtghnafknbgmagaaDRow
import Derived.StillTail
import Derived.StillTactics
namespace Go.Proofs.Ytghnafknbgmagaa
set_option maxRecDepth 100000
set_option maxRecDepth 100000
open Go.RowKit

/-- The slice (A, n, c) holds these cells; it has a row of its own, or no room. -/
def LR (E : SEl) (base : Nat) (w : World) (A : Option Addr) (n c : Nat) (vs : List Value) : Prop :=
  SO E base w (.slice A n c) n vs ∨ (c = n ∧ vs.length = E.s * n ∧ n ≤ 10000000 ∧ (∀ u ∈ vs, u.oneCell' = true) ∧ ∃ g cur, A = some ⟨g, 0, none⟩ ∧ base ≤ g ∧ w.heap[g]? = some (.cells cur E.e (0, 0)) ∧ ∀ (j : Nat) (u : Value), vs[j]? = some u → cur[j]? = some u)
section
variable {E : SEl} {base n c : Nat} {w w' : World} {A : Option Addr} {vs : List Value}
theorem LR.nil (E : SEl) (base : Nat) (w : World) : LR E base w none 0 0 [] := .inl (SO.nil E base w)
theorem LR.len (h : LR E base w A n c vs) : vs.length = E.s * n := by
  rcases h with h | h
  · exact h.len
  · exact h.2.1
theorem LR.one (h : LR E base w A n c vs) : ∀ u ∈ vs, u.oneCell' = true := by
  rcases h with h | h
  · exact h.one
  · exact h.2.2.2.1
theorem LR.cap (h : LR E base w A n c vs) : n ≤ c ∧ c ≤ maxLen := by
  rcases h with h | ⟨rfl, -, h2, -⟩
  · obtain ⟨A', c', e, -, h2, h3, -⟩ := h.form
    simp only [Value.slice.injEq] at e
    obtain ⟨-, -, rfl⟩ := e
    exact ⟨h2, h3⟩
  · exact ⟨Nat.le_refl _, by simp only [maxLen]; omega⟩
/-- Where the row lies. -/
theorem LR.blk (h : LR E base w A n c vs) : (A = none ∧ n = 0 ∧ c = 0) ∨ ∃ g cur, A = some ⟨g, 0, none⟩ ∧ base ≤ g ∧ w.heap[g]? = some (.cells cur E.e (0, 0)) ∧ ∀ (j : Nat) (u : Value), vs[j]? = some u → cur[j]? = some u := by
  rcases h with h | ⟨-, -, -, -, h⟩
  · rcases h.own.2 with ⟨hv, h0⟩ | ⟨g, cap, cur, hv, hb, hh, -, -, -, ht⟩
    · simp only [Value.slice.injEq] at hv
      exact .inl ⟨hv.1, hv.2.1, hv.2.2⟩
    · simp only [Value.slice.injEq] at hv
      obtain ⟨rfl, -, rfl⟩ := hv
      refine .inr ⟨g, cur, rfl, hb, hh, fun j u hj => ?_⟩
      rw [← ht, List.getElem?_take] at hj
      split at hj
      · simpa using hj
      · cases hj
  · exact .inr h
theorem LR.sb (h : LR E base w A n c vs) : SB w A (E.s * n) vs := by
  refine ⟨h.len, h.one, fun hn => ?_⟩
  rcases h.blk with ⟨-, h0, -⟩ | ⟨g, cur, e, -, hh, hc⟩
  · subst h0; simp at hn
  · exact ⟨g, 0, e, fun j u hj => by rw [Nat.zero_add, cell_of_row _ _ _ _ _ _ hh]; exact hc j u hj⟩
theorem LR.stays (h : LR E base w A n c vs) (hk : ∀ g, A = some ⟨g, 0, none⟩ → w'.heap[g]? = w.heap[g]?) : LR E base w' A n c vs := by
  rcases h with h | ⟨h1, h2, h3, h4, g, cur, e, hb, hh, hc⟩
  · refine .inl ⟨own_stays h.own fun k hk' => ?_, h.len, h.one⟩
    rcases h.own.2 with ⟨hv, -⟩ | ⟨g, cap, cur, hv, -⟩
    · rw [hv] at hk'; simp [Value.ownBlock] at hk'
    · have hA : A = some ⟨g, 0, none⟩ := by simp only [Value.slice.injEq] at hv; exact hv.1
      subst hA
      have : g = k := by simpa [Value.ownBlock] using hk'
      subst this
      exact hk g rfl
  · exact .inr ⟨h1, h2, h3, h4, g, cur, e, hb, (hk g e).trans hh, hc⟩
theorem LR.below (h : LR E base w A n c vs) (hb : Below w.heap.size w w') : LR E base w' A n c vs := by
  refine h.stays fun g e => ?_
  rcases h.blk with ⟨e0, -⟩ | ⟨g', cur, e0, -, hh, -⟩
  · rw [e] at e0; cases e0
  · rw [e] at e0; cases e0
    exact hb.block g (Array.getElem?_eq_some_iff.1 hh).1
/-- s[:i:i] -/
theorem LR.cut (h : LR E base w A n c vs) {i : Nat} (hi : i < n) (hn : n ≤ 10000000) : LR E base w A i i (vs.take (E.s * i)) := by
  have hl := h.len
  have h1 : E.s * i ≤ E.s * n := Nat.mul_le_mul_left _ (Nat.le_of_lt hi)
  rcases h.blk with ⟨-, h0, -⟩ | ⟨g, cur, e, hb, hh, hc⟩
  · omega
  · exact .inr ⟨rfl, by rw [List.length_take, hl]; omega, by omega, fun u hu => h.one u (List.mem_of_mem_take hu), g, cur, e, hb, hh, fun j u hj => by
      rw [List.getElem?_take] at hj
      split at hj
      · exact hc j u hj
      · cases hj⟩
/-- s[k:], wherever it is said to begin. -/
theorem LR.rest (h : LR E base w A n c vs) {k : Nat} (hk : k ≤ n) : ∃ B, (if c = k then A else A.map (·.add (k * E.s))) = B ∧ SB w B (E.s * (n - k)) (vs.drop (E.s * k)) := by
  refine ⟨_, rfl, by rw [List.length_drop, h.len, Nat.mul_sub], fun u hu => h.one u (List.mem_of_mem_drop hu), fun h0 => ?_⟩
  have hc1 := h.cap.1
  have hkn : ¬ c = k := by
    rintro rfl
    have : n - c = 0 := by omega
    rw [this] at h0; simp at h0
  rw [if_neg hkn]
  rcases h.blk with ⟨-, h1, -⟩ | ⟨g, cur, e, -, hh, hc⟩
  · subst h1; simp at h0
  · subst e
    refine ⟨g, 0 + k * E.s, by rw [Option.map_some, Addr.add_mid], fun j u hj => ?_⟩
    rw [List.getElem?_drop] at hj
    rw [cell_of_row _ _ _ _ _ _ hh, Nat.zero_add, Nat.mul_comm k]
    exact hc _ u hj

/-- A row that an append has just laid. -/
theorem so_grown (hs : 0 < E.s) {z : Value} (hz : z.cells.size = E.s) {news : List Value} {m old : Nat} (hlen : (vs ++ news).length = E.s * (n + m)) (h1 : ∀ u ∈ vs ++ news, u.oneCell' = true) (h63 : n + m ≤ maxLen) (ho : old < n + m) (hbase : base ≤ w.heap.size) :
    SO E base (w.drew.alloc (.cells (vs.toArray ++ news.toArray ++ Builtin.zeroCells z.cells (grownCap w (n + m) old E.e - (n + m))) E.e)) (.slice (some ⟨w.heap.size, 0, none⟩) (n + m) (grownCap w (n + m) old E.e)) (n + m) (vs ++ news) := by
  have hge := grownCap_ge w (n + m) old E.e
  have hcm : grownCap w (n + m) old E.e ≤ maxLen := grownCap_le_maxLen w (n + m) old E.e h63
  have hl2 : vs.length + news.length = E.s * (n + m) := by rw [← hlen, List.length_append]
  refine ⟨⟨by rw [hlen, Nat.mul_comm], .inr ⟨w.heap.size, _, _, rfl, hbase, heap_alloc_new w.drew _, hge, hcm, ?_, ?_⟩⟩, hlen, h1⟩
  · simp only [Array.size_append, List.size_toArray, size_zeroCells, hz, hl2]
    rw [Nat.mul_comm E.s, ← Nat.add_mul]
    congr 1
    omega
  · simp only [Array.toList_append]
    rw [show (n + m) * E.s = (vs ++ news).length by rw [hlen, Nat.mul_comm]]
    exact List.take_left
/-- append to such a list: what is left, and what is left alone. -/
theorem wp_lr (hE : E.Ok) {o : Oper} {a : Act} {K : Act → World → Prop} {Q : Exit → Act → World → Prop} (s x : Operand)
    (ho : o.op = .call { callee := .builtin .append, args := #[s, x], argTypes := #[E.t, E.t] })
    (hs : a.eval s = .slice A n c) (hown : LR E base w A n c vs) (B : Option Addr) (m d : Nat) (us : List Value) (hx : a.eval x = .slice B m d) (hr : SB w B (E.s * m) us)
    (hsz : n + m ≤ 10000000) (hbase : base ≤ w.heap.size)
    (h : ∀ A' c' w', LR E base w' A' (n + m) c' (vs ++ us) → Below base w w' → (∀ k, k < w.heap.size → (∀ g, A = some ⟨g, 0, none⟩ → k ≠ g) → w'.heap[k]? = w.heap[k]?) → K (a.put o.dst (.slice A' (n + m) c')) w') : o.wp Try.prog a w K Q := by
  obtain ⟨i0, hi, hz0, hz1, hz2⟩ := info_parts hE.info
  have hs0 := hE.s0
  have hb1 := hE.b1
  have hlen : (vs ++ us).length = E.s * (n + m) := by rw [List.length_append, hown.len, hr.len, ← Nat.mul_add]
  have hone : ∀ u ∈ vs ++ us, u.oneCell' = true := fun u hu => (List.mem_append.1 hu).elim (hown.one u) (hr.one u)
  have hbytes : (n + m) * E.b ≤ 140737488355328 := Nat.le_trans (Nat.mul_le_mul hsz hb1) (by omega)
  have h63 : n + m ≤ maxLen := by simp only [maxLen]; omega
  have run : ∃ A' c' w', (Builtin.append_ #[E.t, E.t] o.type #[.slice A n c, .slice B m d]).run Try.prog w = .ok (.slice A' (n + m) c') w' ∧ LR E base w' A' (n + m) c' (vs ++ us) ∧ Below base w w' ∧ (∀ k, k < w.heap.size → (∀ g, A = some ⟨g, 0, none⟩ → k ≠ g) → w'.heap[k]? = w.heap[k]?) := by
    by_cases hm : m = 0
    · subst hm
      have hy : us = [] := List.eq_nil_of_length_eq_zero (by rw [hr.len]; simp)
      subst hy
      refine ⟨A, c, w, ?_, by simpa using hown, Below.refl _ _, fun _ _ _ => rfl⟩
      have hc := hown.cap.1
      cases A <;> cases B <;> simp [Builtin.append_, run_underlying hE.und, sizeOf, typeInfo, hi, Builtin.lenOf, Builtin.firstCells, loadCells, loadCellsFrom, storeCells, hc]
    · obtain ⟨g2, o2, rfl, hcell⟩ := hr.addr (Nat.mul_pos hs0 (by omega))
      rcases hown with hso | ⟨rfl, h2, h3, h4, g, cur, rfl, hbg, hh, hc⟩
      · obtain ⟨v', w', hrun, h1, h2, -⟩ := run_append_own_at (P := Try.prog) w base E.t o.type E.e i0 E.z E.s E.b hE.und hi hz0 hz1 hz2 hE.zc hs0 _ n vs hso.own ⟨g2, o2, none⟩ m d us (by rw [hr.len, Nat.mul_comm]) hcell hr.one h63 hbytes hbase
        have hso' : SO E base w' v' (n + m) (vs ++ us) := ⟨h1, hlen, hone⟩
        obtain ⟨A', c', rfl, -⟩ := hso'.form
        refine ⟨A', c', w', hrun, .inl hso', (Below.refl base w).grown h2 hbase fun k hk => (hso.own.lt k hk).1, fun k hk hn => h2.block k hk fun e => ?_⟩
        rcases hso.own.2 with ⟨hv, -⟩ | ⟨g, cap, cur, hv, -⟩
        · rw [hv] at e; simp [Value.ownBlock] at e
        · have hA : A = some ⟨g, 0, none⟩ := by simp only [Value.slice.injEq] at hv; exact hv.1
          subst hA
          have : k = g := by simpa [Value.ownBlock, eq_comm] using e
          exact hn g rfl this
      · have hrun := run_append_grow (P := Try.prog) w E.t o.type E.e i0 E.z hE.und hi hz0 ⟨g, 0, none⟩ c c vs (by rw [h2, hz1, Nat.mul_comm]) (fun j u hj => by
          have : (⟨g, 0, none⟩ : Addr).add j = ⟨g, j, none⟩ := by rw [Addr.add_mid, Nat.zero_add]
          rw [this, cell_of_row _ _ _ _ _ _ hh]; exact hc j u hj) ⟨g2, o2, none⟩ m d us (by rw [hr.len, hz1, Nat.mul_comm]) hcell (by omega) (by omega) (growslice_fits (by omega) (by rw [hz2]; exact hbytes))
        exact ⟨_, _, _, hrun, .inl (so_grown hs0 hE.zc hlen hone h63 (by omega) hbase), (Below.refl base w).drew.alloc hbase _, fun k hk _ => Below.heap_alloc w.drew _ k hk⟩
  obtain ⟨A', c', w', hrun, h1, h2, h3⟩ := run
  unfold Oper.wp
  simp [execOp, ho, resolve, invoke, builtin, hs, hx, hrun, Result.andThen]
  exact h A' c' w' h1 h2 h3
/-- The same, in a list of operations. -/
theorem lr_append (hE : E.Ok) {ops : Array Oper} {rest : List Oper} {o : Oper} {a : Act} {Q : Exit → Act → World → Prop} (hgd : o.guard = none) (s x : Operand)
    (ho : o.op = .call { callee := .builtin .append, args := #[s, x], argTypes := #[E.t, E.t] })
    (hs : a.eval s = .slice A n c) (hown : LR E base w A n c vs) (B : Option Addr) (m d : Nat) (us : List Value) (hx : a.eval x = .slice B m d) (hr : SB w B (E.s * m) us)
    (hsz : n + m ≤ 10000000) (hbase : base ≤ w.heap.size)
    (h : ∀ A' c' w', LR E base w' A' (n + m) c' (vs ++ us) → Below base w w' → (∀ k, k < w.heap.size → (∀ g, A = some ⟨g, 0, none⟩ → k ≠ g) → w'.heap[k]? = w.heap[k]?) → wpList Try.prog ops Q rest (a.put o.dst (.slice A' (n + m) c')) w') : wpList Try.prog ops Q (o :: rest) a w :=
  wpList_plain hgd fun _ hK => wp_lr hE s x ho hs hown B m d us hx hr hsz hbase fun A' c' w' h1 h2 h3 => hK _ _ (h A' c' w' h1 h2 h3)
/-- s[:i:i] as a still step. -/
theorem still_cut (hE : E.Ok) {ops : Array Oper} {Q : Act → Prop} {a : Act} {o : Oper} {rest : List Oper} (hgd : o.guard = none) (x hi mx : Operand) (ho : o.op = .slice E.t x none (some hi) (some mx))
    (hx : a.eval x = .slice A n c) (i : Nat) (hhi : a.eval hi = .int .i64 (i : Int)) (hmx : a.eval mx = .int .i64 (i : Int)) (hi' : i ≤ c)
    (h : wpStill Try.prog ops w Q rest (a.put o.dst (.slice A i i))) : wpStill Try.prog ops w Q (o :: rest) a := by
  obtain ⟨i0, hinf, hz0, hz1, hz2⟩ := info_parts hE.info
  refine wpStill_step (fun K hK => ?_)
  rw [if_pos (by simp [Region.wanted, hgd])]
  have hrun : (Instr.slice E.t (.slice A n c) none (some (.int .i64 (i : Int))) (some (.int .i64 (i : Int)))).run Try.prog w = .ok (.slice A i i) w := by
    rw [run_slice_hm w E.t A n c (by rw [hE.el]; exact hE.und) .i64 .i64 (i : Int) (i : Int) (by omega) (by omega) (by omega)]
    rw [hE.el]
    have hs : (sizeOf E.e).run Try.prog w = .ok E.s w := by simp [sizeOf, typeInfo, hinf, hz1]
    rw [hs]
    simp only [sliced, Result.andThen_ok, Int.toNat_natCast, Nat.zero_mul, Nat.sub_zero]
    cases A with
    | none => split <;> rfl
    | some ad => split <;> simp [Addr.add]
  have hrun2 : (Instr.sliceAt E.t (.slice A n c) none (some (.int .i64 (i : Int))) (some (.int .i64 (i : Int)))).run Try.prog w = .ok (.slice A i i) w := by
    rw [run_sliceAt_slice w E.t _ _ _ _ (by rw [hE.el]; exact hE.und)]; exact hrun
  unfold Oper.still execOp
  simp only [ho, hx, hhi, hmx, Sem.run_bind, Sem.run_pure, Result.andThen_ok, Option.map_some, Option.map_none]
  rw [hrun2]
  simp only [Result.andThen_ok, Oper.stillUpon_value]
  exact hK _ h
/-- s[k:] as a still step. -/
theorem still_rest (hE : E.Ok) {ops : Array Oper} {Q : Act → Prop} {a : Act} {o : Oper} {rest : List Oper} (hgd : o.guard = none) (x lo : Operand) (ho : o.op = .slice E.t x (some lo) none none)
    (hx : a.eval x = .slice A n c) (k : Nat) (z : Int) (hlo : a.eval lo = .int .i64 z) (hz : z = (k : Int)) (hk : k ≤ n) (B : Option Addr) (hB : (if c = k then A else A.map (·.add (k * E.s))) = B)
    (h : wpStill Try.prog ops w Q rest (a.put o.dst (.slice B (n - k) (c - k)))) : wpStill Try.prog ops w Q (o :: rest) a := by
  obtain ⟨i0, hinf, hz0, hz1, hz2⟩ := info_parts hE.info
  subst hz
  refine wpStill_step (fun K hK => ?_)
  rw [if_pos (by simp [Region.wanted, hgd])]
  have hrun : (Instr.slice E.t (.slice A n c) (some (.int .i64 (k : Int))) none none).run Try.prog w = .ok (.slice B (n - k) (c - k)) w := by
    rw [run_slice_l w E.t A n c (by rw [hE.el]; exact hE.und) .i64 (k : Int) (by omega) (by omega)]
    rw [hE.el]
    have hs : (sizeOf E.e).run Try.prog w = .ok E.s w := by simp [sizeOf, typeInfo, hinf, hz1]
    rw [hs]
    simp only [sliced, Result.andThen_ok, Int.toNat_natCast]
    rw [hB]
  have hrun2 : (Instr.sliceAt E.t (.slice A n c) (some (.int .i64 (k : Int))) none none).run Try.prog w = .ok (.slice B (n - k) (c - k)) w := by
    rw [run_sliceAt_slice w E.t _ _ _ _ (by rw [hE.el]; exact hE.und)]; exact hrun
  unfold Oper.still execOp
  simp only [ho, hx, hlo, Sem.run_bind, Sem.run_pure, Result.andThen_ok, Option.map_some, Option.map_none]
  rw [hrun2]
  simp only [Result.andThen_ok, Oper.stillUpon_value]
  exact hK _ h
end
end Go.Proofs.Ytghnafknbgmagaa
