/- split and join of nodes of any height. -/
import Derived.Test.YtlhpoliiojekeaaJoinL
import Derived.Test.YtlhpoliiojekeaaJoinI
namespace Go.Proofs.Ytlhpoliiojekeaa
set_option maxRecDepth 100000
open Go.RowKit

theorem NodeAt.ne {ord : Nat} (ho : 3 ≤ ord) {w : World} : ∀ {d : Nat} {v : Value} {ps : List Pr} {m : Nat}, NodeAt ord w d v ps m → 1 ≤ m → ps ≠ []
  | 0, _, _, _, ⟨_, _, _, h⟩, hm => fun e => by subst e; simp at h; omega
  | d + 1, _, _, _, ⟨g, ks, kids, _, h1, h2, h3⟩, hm => fun e => by
    obtain ⟨y, K, hk⟩ : ∃ y K, kids = y :: K := by
      cases kids with
      | nil => simp at h1; omega
      | cons y K => exact ⟨y, K, rfl⟩
    have hy : y ∈ kids := by rw [hk]; simp
    have hf := (h3 y hy).1
    have hmo : 2 ≤ most ord d := by unfold most; split <;> omega
    have := NodeAt.ne ho (h2.is y hy) (by omega)
    have h4 := h2.all
    rw [e, hk, kidsP_cons] at h4
    exact this (List.append_eq_nil_iff.1 h4.symm).1
theorem Fit.pos {ord d m : Nat} (h : Fit ord d m) (ho : 3 ≤ ord) : 1 ≤ m := by
  have h1 := h.1
  have hmo : 2 ≤ most ord d := by unfold most; split <;> omega
  omega

theorem wjoin {ord : Nat} (ho : 3 ≤ ord) {d : Nat} {w : World} {va vb : Value} {X Y : List Pr} {ma mb : Nat} {k : ByteArray} (ha : NodeAt ord w d va X ma) (hb : NodeAt ord w d vb Y mb) (h1 : ∀ p ∈ X, kl p.1 k = true) (h2 : ∀ p ∈ Y, kl p.1 k = false)
    (hm : ma + mb ≤ 990) (hp : X.length + Y.length ≤ 1152921504606846976) :
    Calls Try.prog 74 #[va, .string k, vb] w fun e w' => ∃ v', e = .returned v' ∧ NodeAt ord w' d v' (X ++ Y) (ma + mb) ∧ Gw w w' := by
  rcases d with _ | d
  · obtain ⟨g, rfl, hl, rfl⟩ := ha
    obtain ⟨g2, rfl, hl2, rfl⟩ := hb
    exact (wjoinL hl hl2 hm k).mono fun e w' ⟨g3, h1, h2, h3⟩ => ⟨_, h1, ⟨g3, rfl, h2, by simp⟩, h3⟩
  · obtain ⟨g, ks, kids, rfl, rfl, hC, hF⟩ := ha
    obtain ⟨g2, ks2, kids2, rfl, rfl, hC2, hF2⟩ := hb
    have e1 : ∀ y ∈ kids, y.ps ≠ [] := fun y hy => (hC.is y hy).ne ho ((hF y hy).pos ho)
    have e2 : ∀ y ∈ kids2, y.ps ≠ [] := fun y hy => (hC2.is y hy).ne ho ((hF2 y hy).pos ho)
    rw [hC.all] at h1 hp ⊢
    rw [hC2.all] at h2 hp ⊢
    have htok := tok_nodes hC.num hC2.num hC.tok hC2.tok e1 e2 h1 h2
    exact (wjoinI hC hC2 htok hm (by rw [kidsP_app, List.length_append]; exact hp)).mono fun e w' ⟨g3, h1, h2, h3⟩ => ⟨_, h1, ⟨g3, ks ++ k :: ks2, kids ++ kids2, rfl, by simp, by rw [← kidsP_app]; exact h2, fun x hx => by
      rcases List.mem_append.1 hx with hx | hx
      · exact hF x hx
      · exact hF2 x hx⟩, h3⟩

/-- wsplit2: in any later world. -/
theorem wsplit {ord : Nat} (ho : 3 ≤ ord) {d : Nat} {w : World} {v : Value} {ps : List Pr} {m : Nat} (h : NodeAt ord w d v ps m) (hr : Rises (keys ps)) (h2 : 2 ≤ m) (hm : m ≤ 990) (hp : ps.length ≤ 1152921504606846976) :
    ∃ k X Y, ps = X ++ Y ∧ (∀ p ∈ X, kl p.1 k = true) ∧ (∀ p ∈ Y, kl p.1 k = false) ∧ X ≠ [] ∧ Y ≠ [] ∧
    ∀ W, Gw w W → Calls Try.prog 56 #[v] W fun e w' => ∃ vl vr, e = .returned (.tuple #[vl, .string k, vr]) ∧ NodeAt ord w' d vl X (m / 2) ∧ NodeAt ord w' d vr Y (m - m / 2) ∧ Gw W w' := by
  rcases d with _ | d
  · obtain ⟨g, rfl, hl, rfl⟩ := h
    obtain ⟨p, Y, hy⟩ : ∃ p Y, ps.drop (ps.length / 2) = p :: Y := by
      cases he : ps.drop (ps.length / 2) with
      | nil => have := congrArg List.length he; simp at this; omega
      | cons p Y => exact ⟨p, Y, rfl⟩
    obtain ⟨k, z⟩ := p
    have hps : ps = ps.take (ps.length / 2) ++ ((k, z) :: Y) := by rw [← hy, List.take_append_drop]
    have hr' := hr
    rw [rises_iff, hps] at hr'
    have hpw := List.pairwise_append.1 hr'
    have hlx : (ps.take (ps.length / 2)).length = ps.length / 2 := by rw [List.length_take]; omega
    have hly : ((k, z) :: Y).length = ps.length - ps.length / 2 := by rw [← hy, List.length_drop]
    refine ⟨k, ps.take (ps.length / 2), (k, z) :: Y, hps, fun p hp => hpw.2.2 p hp _ (List.mem_cons_self ..), fun p hp => ?_, fun e => by rw [e] at hlx; simp at hlx; omega, by simp, fun W hW => (wsplitL (hl.gw hW) rfl hy hm).mono fun e w' ⟨gl, gr, h1, h2, h3, h4⟩ => ⟨_, _, h1, ⟨gl, rfl, h2, hlx.symm⟩, ⟨gr, rfl, h3, hly.symm⟩, h4⟩⟩
    rcases List.mem_cons.1 hp with rfl | hp
    · exact kl_irrefl _
    · exact kl_asymm ((List.pairwise_cons.1 hpw.2.1).1 p hp)
  · obtain ⟨g, ks, kids, rfl, rfl, hC, hF⟩ := h
    have hnum := hC.num
    obtain ⟨r, hr2⟩ : ∃ r, kids.length / 2 = r + 1 := ⟨kids.length / 2 - 1, by omega⟩
    obtain ⟨s, hs⟩ : ∃ s, ks[r]? = some s := ⟨_, List.getElem?_eq_getElem (by omega)⟩
    have e1 : ∀ y ∈ kids, y.ps ≠ [] := fun y hy => (hC.is y hy).ne ho ((hF y hy).pos ho)
    have l1 : (kids.take (r + 1)).length = kids.length / 2 := by rw [List.length_take]; omega
    have l2 : (kids.drop (r + 1)).length = kids.length - kids.length / 2 := by rw [List.length_drop]; omega
    have ne : ∀ K : List Kid, (∀ y ∈ K, y ∈ kids) → 0 < K.length → kidsP K ≠ [] := fun K hK hl e => by
      cases K with
      | nil => simp at hl
      | cons y K => rw [kidsP_cons] at e; exact e1 y (hK y (by simp)) (List.append_eq_nil_iff.1 e).1
    refine ⟨s, kidsP (kids.take (r + 1)), kidsP (kids.drop (r + 1)), by rw [← kidsP_app, List.take_append_drop]; exact hC.all, hC.below r s hs, hC.above r s hs, ne _ (fun y hy => List.mem_of_mem_take hy) (by omega), ne _ (fun y hy => List.mem_of_mem_drop hy) (by omega),
      fun W hW => (wsplitI (hC.gw hW) hr2 hm hp hs rfl rfl rfl rfl).mono fun e w' ⟨gl, gr, h1, h2, h3, h4⟩ => ⟨_, _, h1, ⟨gl, _, _, rfl, l1.symm, h2, fun x hx => hF x (List.mem_of_mem_take hx)⟩, ⟨gr, _, _, rfl, l2.symm, h3, fun x hx => hF x (List.mem_of_mem_drop hx)⟩, h4⟩⟩
end Go.Proofs.Ytlhpoliiojekeaa
