/- Lists of numbers that the call itself made; rows kept where another block changes. -/
import Derived.Test.YtlhpoliiojekeaaOrdered
namespace Go.Proofs.Ytlhpoliiojekeaa
set_option maxRecDepth 100000
open Go.RowKit

def elK : El := ⟨60, 3, .int .i64 0, 8⟩
theorem okK : elK.Ok := ⟨Try.underlying60, by kernel_rfl, by decide, rfl, by decide⟩
def intsV (zs : List Nat) : List Value := zs.map fun (z : Nat) => Value.int .i64 (z : Int)
theorem intsV_one (zs : List Nat) : ∀ u ∈ intsV zs, u.oneCell' = true := by
  intro u hu
  simp only [intsV, List.mem_map] at hu
  obtain ⟨z, -, rfl⟩ := hu
  rfl
theorem VO.ints {base : Nat} {w : World} {v : Value} {zs : List Nat} (h : VO elK base w v (intsV zs)) : ∃ A c, v = .slice A zs.length c ∧ IA w A zs.length zs ∧ zs.length ≤ c := by
  have hl : (intsV zs).length = zs.length := by simp [intsV]
  rcases h.own.2 with ⟨rfl, h0⟩ | ⟨g, cap, cur, rfl, _, hh, hc, hm, _, ht⟩
  · have hz : zs = [] := List.eq_nil_of_length_eq_zero (by omega)
    subst hz
    exact ⟨none, 0, rfl, ⟨rfl, fun h => absurd h (by simp)⟩, Nat.le_refl _⟩
  · refine ⟨_, cap, by rw [hl], ⟨rfl, fun hn => ⟨_, rfl, fun j z hj => ?_⟩⟩, by omega⟩
    exact h.own.cells (g := g) rfl j _ (by simp [intsV, hj])
theorem VO.xt {E : El} {base U : Nat} {w w' : World} {v : Value} {vs : List Value} (h : VO E base w v vs) (hx : Xt U w w') {cs : Array Value} {e : TypeId} {fr : Nat × Nat} (hU : w.heap[U]? = some (.cells cs e fr)) (he : e ≠ E.e) : VO E base w' v vs := by
  refine ⟨⟨h.own.1, ?_⟩, h.one⟩
  rcases h.own.2 with h0 | ⟨g, cap, cur, hv, hg, hh, r⟩
  · exact .inl h0
  · refine .inr ⟨g, cap, cur, hv, hg, (hx.block g (Array.getElem?_eq_some_iff.1 hh).1 (fun e' => ?_)).trans hh, r⟩
    rw [e', hU] at hh
    simp only [Option.some.injEq, Obj.cells.injEq] at hh
    exact he hh.2.1
theorem VO.gw {E : El} {base : Nat} {w w' : World} {v : Value} {vs : List Value} (h : VO E base w v vs) (g : Gw w w') : VO E base w' v vs := h.below g

theorem VO.ne {E : El} {base : Nat} {w : World} {v : Value} {vs : List Value} (h : VO E base w v vs) {U : Nat} {cs : Array Value} {e : TypeId} {fr : Nat × Nat} (hU : w.heap[U]? = some (.cells cs e fr)) (he : e ≠ E.e) : v.ownBlock ≠ some U := by
  intro hb
  rcases h.own.2 with ⟨rfl, -⟩ | ⟨g, cap, cur, rfl, hg, hh, r⟩
  · simp [Value.ownBlock] at hb
  · simp only [Value.ownBlock, Option.some.injEq] at hb
    rw [hb, hU] at hh
    simp only [Option.some.injEq, Obj.cells.injEq] at hh
    exact he hh.2.1
theorem VO.row_kept {E : El} {base : Nat} {w w2 : World} {v : Value} {vs : List Value} (h : VO E base w v vs) (hg : w.grownBy w2 v.ownBlock) {U : Nat} {cs : Array Value} {e : TypeId} {fr : Nat × Nat} (hU : w.heap[U]? = some (.cells cs e fr)) (he : e ≠ E.e) : w2.heap[U]? = some (.cells cs e fr) :=
  (hg.block U (Array.getElem?_eq_some_iff.1 hU).1 (fun e' => h.ne hU he e'.symm)).trans hU
theorem VO.kept {E E' : El} {base base' : Nat} {w w2 : World} {v v' : Value} {vs vs' : List Value} (h : VO E base w v vs) (hg : w.grownBy w2 v.ownBlock) (h' : VO E' base' w v' vs') (he : E'.e ≠ E.e) : VO E' base' w2 v' vs' := by
  refine ⟨⟨h'.own.1, ?_⟩, h'.one⟩
  rcases h'.own.2 with h0 | ⟨g, cap, cur, hv, hgb, hh, r⟩
  · exact .inl h0
  · exact .inr ⟨g, cap, cur, hv, hgb, h.row_kept hg hh he, r⟩

/-- append of one number. -/
theorem vk_append {w : World} {ops : Array Oper} {rest : List Oper} {o : Oper} {a : Act} {Q : Exit → Act → World → Prop} (hgd : o.guard = none) (s x : Operand)
    (ho : o.op = .call { callee := .builtin .append, args := #[s, x], argTypes := #[60, 60] })
    (base : Nat) (v : Value) (zs : List Nat) (hs : a.eval s = v) (hown : VO elK base w v (intsV zs)) (b : Nat) (z : Nat) (hx : a.eval x = .slice (some ⟨b, 0, none⟩) 1 1) (hr : w.cell? ⟨b, 0, none⟩ = some (.int .i64 (z : Int)))
    (hsz : zs.length ≤ 1000000) (hbase : base ≤ w.heap.size)
    (h : ∀ v' w', VO elK base w' v' (intsV (zs ++ [z])) → Below base w w' → w.grownBy w' v.ownBlock → wpList Try.prog ops Q rest (a.put o.dst v') w') : wpList Try.prog ops Q (o :: rest) a w := by
  obtain ⟨i0, hi, hz0, hz1, hz2⟩ := info_parts okK.info
  have hrow : ∀ k, v.ownBlock = some k → base ≤ k := fun k hk => (hown.lt k hk).1
  have hl : (intsV zs).length = zs.length := by simp [intsV]
  refine wpList_append_own w hgd s x elK.t ho base elK.e i0 elK.z 1 elK.b okK.und hi hz0 hz1 hz2 rfl (by decide) v (intsV zs).length _ hs hown.own ⟨b, 0, none⟩ 1 1 [.int .i64 (z : Int)] hx rfl ?_ (by simp; rfl)
    (by simp only [maxLen]; omega) (by simp only [elK]; omega) hbase ?_
  · intro j u hu
    rcases j with _ | j
    · cases hu; exact hr
    · simp at hu
  · intro v' w' hown' hg _
    refine h v' w' ⟨?_, intsV_one _⟩ (below_of_grown hg hbase hrow) hg
    have e : intsV (zs ++ [z]) = intsV zs ++ [.int .i64 (z : Int)] := by simp [intsV]
    rw [e, List.length_append]
    exact hown'
end Go.Proofs.Ytlhpoliiojekeaa
