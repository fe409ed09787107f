/- Layer 10: two worlds of laws side by side. -/
import Derived.Test.YtknppiebncdjmaaGreatSsFr
import Derived.Test.YtknppiebncdjmaaGreatSsAlo
set_option linter.unusedVariables false
namespace Go.Proofs.YtknppiebncdjmaaGreat
set_option maxRecDepth 100000
open Go.RowKit

section
variable {P : Nat → Prop} {wf w0 w w' : World} {G K : Nat → Prop} {p b : Nat} {V : WdV} {rows : List Lk} {vs : List Ver10} {ms : List RunM} {c : Cp10} {S : St10} {X : Pl10}
theorem WdAt.lower {w1 : World} {Q : Nat → Prop} {bad : Bool} (h : WdAt w1 w Q p b V rows vs ms bad) (hl : w0.heap.size ≤ w1.heap.size) : WdAt w0 w Q p b V rows vs ms bad :=
  ⟨h.blk, h.rows_.lower hl, h.vers.lower hl, h.list.lower hl, fun x hx => ⟨(h.runs x hx).1.lower hl, (h.runs x hx).2.lower hl⟩, h.sep, h.ap, Nat.le_trans hl h.pl⟩
theorem DoIs.ext (h : DoIs P wf w0 p b rows c X w) (g : Below w.heap.size w w') : DoIs (fun k => P k ∨ (w.heap.size ≤ k ∧ k < w'.heap.size)) w' w0 p b rows c X w' := by
  obtain ⟨G, K, V, ms, D, hms⟩ := h
  refine ⟨G, K, V, ms, ⟨D.m.below g, (D.d.below g).keep (fun _ _ => rfl) fun k hk hg => ?_, D.g, below_next D.z g, Out.refl _ _, fun k hk => ?_⟩, hms⟩
  · rcases hg with hg | hg | hg
    · exact D.d.ap k hk (.inl hg)
    · exact D.d.ap k hk (.inr hg)
    · have := (D.d.lt k hk).2; omega
  · rcases hk with hk | hk
    · obtain ⟨h1, h2, h3⟩ := D.pg k hk
      exact ⟨by have := D.f.size; have := g.size; omega, h2, h3⟩
    · refine ⟨hk.2, fun h => ?_, fun h => ?_⟩
      · have := D.m.lt.1 k h; omega
      · have := D.m.lt.2 k h; omega
theorem DoIs.out (h : DoIs P wf w0 p b rows c X w) : Out (fun k => ¬ P k) wf w := by
  obtain ⟨G, K, V, ms, D, hms⟩ := h
  exact D.f
theorem DoIs.unext {Q : Nat → Prop} {wq : World} (h : DoIs (fun k => P k ∨ Q k) wq w0 p b rows c X w) (o : Out (fun k => ¬ P k) wf wq) (hp : ∀ k, P k → k < wf.heap.size) : DoIs P wf w0 p b rows c X w := by
  obtain ⟨G, K, V, ms, D, hms⟩ := h
  exact ⟨G, K, V, ms, ⟨D.m, D.d.keep (fun _ _ => rfl) fun k hk hg => hg.elim (fun h => D.d.ap k hk (.inl h)) (fun h => D.d.ap k hk (.inr (.inl h))), D.g, D.z, o.then (D.f.mono fun k _ hk hp => hk (.inl hp)), fun k hk => ⟨hp k hk, (D.pg k (.inl hk)).2⟩⟩, hms⟩
def AllOf (G K : Nat → Prop) (p : Nat) (V : WdV) (ms : List RunM) (k : Nat) : Prop := (G k ∨ K k) ∨ k ∈ p :: ownersW V ms
theorem Do10.swap {w3 w4 : World} {G2 K2 : Nat → Prop} {p2 b2 : Nat} {V2 : WdV} {S2 : St10} (D : Do10 (fun k => w3.heap.size ≤ k ∧ k < w4.heap.size) w4 w0 w G K p b V rows vs ms c S) (h3 : w0.heap.size ≤ w3.heap.size)
    (m2 : M10 w4 G2 K2 b2 c S2) (d2 : WdAt w3 w4 (fun k => G2 k ∨ K2 k) p2 b2 V2 rows [] [] false) (hg : ∀ k, G2 k → w3.heap.size ≤ k) (hk : ∀ k, K2 k → w3.heap.size ≤ k) :
    Do10 (AllOf G K p V ms) w w0 w G2 K2 p2 b2 V2 rows [] [] c S2 := by
  have inP : ∀ k, G2 k ∨ K2 k → w3.heap.size ≤ k ∧ k < w4.heap.size := fun k h => ⟨h.elim (hg k) (hk k), h.elim (m2.lt.1 k) (m2.lt.2 k)⟩
  have no : ∀ k, AllOf G K p V ms k → ¬ (w3.heap.size ≤ k ∧ k < w4.heap.size) := fun k h hp => by
    rcases h with (h | h) | h
    · exact (D.pg k hp).2.1 h
    · exact (D.pg k hp).2.2 h
    · exact D.d.ap k h (.inr hp)
  have hs := D.f.size
  refine ⟨m2.stays D.f fun k hn => ⟨fun h => hn (inP k (.inl h)), fun h => hn (inP k (.inr h))⟩, (d2.keep (G' := fun k => (G2 k ∨ K2 k) ∨ AllOf G K p V ms k) (fun k hk2 => D.f.block k (d2.lt k hk2).2 fun hn => hn (d2.lt k hk2)) fun k hk2 hq => ?_).lower h3, fun k h => Nat.le_trans h3 (inP k h).1, D.z, Out.refl _ _, fun k h => ⟨?_, fun h2 => no k h (inP k (.inl h2)), fun h2 => no k h (inP k (.inr h2))⟩⟩
  · rcases hq with hq | hq
    · exact d2.ap k hk2 hq
    · exact no k hq (d2.lt k hk2)
  · rcases h with h | h
    · exact D.glt k (.inl h)
    · exact (D.d.lt k h).2
theorem Do10.back (D : Do10 P wf w0 w G K p b V rows vs ms c S) (o : Out (fun k => ¬ AllOf G K p V ms k) w w') (z : Below w0.heap.size w0 w') : Do10 (fun _ => False) w0 w0 w' G K p b V rows vs ms c S :=
  ⟨D.m.stays o fun k hn => ⟨fun h => hn (.inl (.inl h)), fun h => hn (.inl (.inr h))⟩, D.d.keep (fun k hk => o.block k (D.d.lt k hk).2 fun hn => hn (.inr hk)) fun k hk hg => hg.elim (fun h => D.d.ap k hk (.inl h)) id, D.g, z, Out.of_below z _, fun _ h => h.elim⟩
end
section
variable {R a q d : Nat} {c : Cp10} {rows : List Lk} {X : Pl10} {gs : List Run10} {now : Int} {o : OpX} {mo : Int}
theorem Lp10.tick (L : Lp10 R a q d c X gs now) : Lp10 R a q d c X gs (now + 1) := ⟨L.inv.tick, L.tw, L.cnt⟩
theorem Lp10.mono (L : Lp10 R a q d c X gs now) {a' q' d' : Nat} (ha : a ≤ a') (hq : q ≤ q') (hd : d ≤ d') : Lp10 R a' q' d' c X gs now := ⟨L.inv, L.tw, L.cnt.mono ha hq hd⟩
def comO (tx : Int) : OpX := ⟨4, tx, (⟨#[]⟩, ⟨#[]⟩), ⟨#[]⟩, 0⟩
theorem comO_is {tx : Int} (h : 0 ≤ tx ∧ tx ≤ 1048577) : OpXIs (comO tx) := ⟨show (-9223372036854775808 : Int) ≤ 4 ∧ (4 : Int) ≤ 9223372036854775807 by decide, ⟨by show _ ≤ tx; omega, by show tx ≤ _; omega⟩, show (-9223372036854775808 : Int) ≤ 0 ∧ (0 : Int) ≤ 9223372036854775807 by decide, Nat.zero_le _, Nat.zero_le _, Nat.zero_le _⟩
theorem Alo.end_ {tx : Int} (A : Alo X tx) (L : Lp10 R a q d c X gs now) (h0 : 0 ≤ now) (hn : now ≤ 4611686018427387904) (hR : 1 ≤ R) (hrow : rows.length ≤ R) (hof : ofW X.rs tx ≠ -1) :
    (doP c rows X (comO tx) mo).1 = 0 ∧ (doP c rows X (comO tx) mo).2.S.list = [] ∧ ∃ gs', Lp10 R a (q + 1) (d + 1) c (doP c rows X (comO tx) mo).2 gs' (now + 1) := by
  obtain ⟨-, -, h4⟩ := A.do (o := comO tx) (rows := rows) (mo := mo) L.inv L.tw hn (show (4 : Int) ≠ 0 by decide) rfl
  obtain ⟨h5, h6⟩ := h4 rfl
  exact ⟨h5, h6 hof, _, L.step h0 hn (L.cnt.do hR hrow (show (4 : Int) ≠ 0 by decide))⟩
theorem Alo.none {tx : Int} (A : Alo X tx) (L : Lp10 R a q d c X gs now) (hof : ofW X.rs tx = -1) : X.S.list = [] ∧ ∃ gs', Lp10 R a (q + 1) (d + 1) c X gs' (now + 1) :=
  ⟨A.empty L.inv L.tw hof, gs, L.tick.mono (Nat.le_refl _) (Nat.le_succ _) (Nat.le_succ _)⟩
theorem of_zero (L : Lp10 R a q d c X gs now) : ofW X.rs 0 = -1 := by
  rcases ofW_is X.rs 0 with ⟨h, -⟩ | ⟨i, r, -, hi, ht, -⟩
  · exact h
  · obtain ⟨g, hg, eg⟩ := strip_at L.tw hi
    have h1 := L.inv.tx i g hg
    have h2 := (strip_is eg).1
    omega
theorem Alo.first {X1 : Pl10} (L : Lp10 R a q d c X1 gs now) (h0 : 0 ≤ now) (hn : now ≤ 4611686018427387904) (he : X1.S.list = []) (hc : 1 ≤ c.act) (ho : o.do_ = 0) :
    (doP c rows X1 o mo).1 = 0 ∧ ∃ r gs', (doP c rows X1 o mo).2.rs = X1.rs ++ [r] ∧ (0 ≤ r.tx ∧ r.tx ≤ (a : Int) + 1) ∧ Alo (doP c rows X1 o mo).2 r.tx ∧ Lp10 R (a + 1) q d c (doP c rows X1 o mo).2 gs' (now + 1) := by
  obtain ⟨h1, r, h2, h3, h4⟩ := Alo.begin (rows := rows) (mo := mo) L.inv L.tw he hc ho
  have hl : X1.rs.length = gs.length := by have := congrArg List.length L.tw; simpa using this
  have h5 := L.inv.nx
  have h6 := L.cnt.n
  exact ⟨h1, r, _, h2, ⟨by omega, by omega⟩, h4, L.step h0 hn (L.cnt.begin ho)⟩
theorem Alo.step {tx : Int} (A : Alo X tx) (L : Lp10 R a q d c X gs now) (h0 : 0 ≤ now) (hn : now ≤ 4611686018427387904) (hR : 1 ≤ R) (hrow : rows.length ≤ R) (hd : o.do_ ≠ 0) (ht : o.tx = tx) :
    ((doP c rows X o mo).1 = 0 ∨ (doP c rows X o mo).1 = 4) ∧ Alo (doP c rows X o mo).2 tx ∧ ∃ gs', Lp10 R (a + 1) (q + 1) (d + 1) c (doP c rows X o mo).2 gs' (now + 2) := by
  obtain ⟨h1, h2, -⟩ := A.do (rows := rows) (mo := mo) L.inv L.tw hn hd ht
  have h3 := (L.step (mo := mo) h0 hn (L.cnt.do hR hrow hd)).tick.mono (Nat.le_succ a) (Nat.le_refl _) (Nat.le_refl _)
  have e : now + 2 = now + 1 + 1 := by omega
  exact ⟨h1, h2, _, e ▸ h3⟩
theorem Nr10.step (N : Nr10 X.S) (L : Lp10 R a q d c X X.rs now) (h0 : 0 ≤ now) (hn : now ≤ 4611686018427387904) (hR : 1 ≤ R) (hrow : rows.length ≤ R) (h1 : o.do_ ≠ 1) (h2 : o.do_ ≠ 2) :
    (doP c rows X o now).1 ≠ 100 ∧ Nr10 (doP c rows X o now).2.S ∧ Lp10 R (a + 1) (q + 1) (d + 1) c (doP c rows X o now).2 (doP c rows X o now).2.rs (now + 1) := by
  obtain ⟨k1, k2⟩ := N.do (c := c) (rows := rows) (mo := now) h1 h2
  exact ⟨k1, k2, L.own h0 hn hR hrow⟩
end
end Go.Proofs.YtknppiebncdjmaaGreat
