import Derived.Test.YtlhpoliiojekeaaPutP
import Derived.Test.YtlhpoliiojekeaaKVC
import Derived.Test.YtlhpoliiojekeaaGet
/- Worlds that only grow; slices that were built on the way. -/
namespace Go.Proofs.Ytlhpoliiojekeaa
set_option maxRecDepth 100000
open Go.RowKit

/-- Nothing of what was there has changed. -/
def Gw (W W' : World) : Prop := Below W.heap.size W W'
theorem Gw.refl (W : World) : Gw W W := Below.refl _ _
theorem Gw.alloc {W X : World} (h : Gw W X) (o : Obj) : Gw W (X.alloc o) := Below.alloc h h.size o
theorem Gw.drew {W X : World} (h : Gw W X) : Gw W X.drew := Below.drew h
theorem Gw.drewN {W X : World} (h : Gw W X) (k : Nat) : Gw W (X.drewN k) := below_next h (below_drewN X k)
theorem Gw.trans {W X Y : World} (h : Gw W X) (h2 : Gw X Y) : Gw W Y := below_next h h2
theorem VB.gw {w w' : World} {A : Option Addr} {n : Nat} {vs : List Value} (h : VB w A n vs) (g : Gw w w') : VB w' A n vs := h.below' g
theorem NodeAt.gw {ord : Nat} {w w' : World} {d : Nat} {v : Value} {ps : List Pr} {m : Nat} (h : NodeAt ord w d v ps m) (g : Gw w w') : NodeAt ord w' d v ps m := h.below g
theorem LfAt.gw {w w' : World} {g : Nat} {ps : List Pr} (h : LfAt w g ps) (hg : Gw w w') : LfAt w' g ps := h.below hg
/-- Block b is just these cells. -/
def Bl (W : World) (b : Nat) (vs : List Value) : Prop := ∃ e, ET e ∧ W.heap[b]? = some (.cells vs.toArray e (0, 0))
theorem Bl.gw {W W' : World} {b : Nat} {vs : List Value} (h : Bl W b vs) (g : Gw W W') : Bl W' b vs := by
  obtain ⟨e, he, h⟩ := h
  exact ⟨e, he, (Below.block g b (Array.getElem?_eq_some_iff.1 h).1).trans h⟩
theorem Bl.here {X : World} {b : Nat} {vs : List Value} {e : TypeId} (he : ET e) (hb : b = X.heap.size) : Bl (X.alloc (.cells vs.toArray e)) b vs := by
  subst hb
  exact ⟨e, he, heap_alloc_new X _⟩
theorem Bl.alloc {X : World} {b : Nat} {vs : List Value} (h : Bl X b vs) (o : Obj) : Bl (X.alloc o) b vs := h.gw ((Gw.refl _).alloc o)
theorem Bl.drew {X : World} {b : Nat} {vs : List Value} (h : Bl X b vs) : Bl X.drew b vs := h.gw ((Gw.refl _).drew)
theorem Bl.vb {W : World} {b n : Nat} {vs : List Value} (h : Bl W b vs) (ho : ∀ u ∈ vs, u.oneCell' = true) (hn : vs.length = n) : VB W (some ⟨b, 0, none⟩) n vs := by
  obtain ⟨e, he, h⟩ := h
  subst hn
  exact VB.row he ho h
theorem MadeV.got2 {E : El} {w : World} {vs : List Value} {n : Nat} {e : Ending} {w' : World} (h : MadeV E w vs e w') (hn : vs.length = n) (hnt : ET E.e := by decide) : ∃ A c, e = .returned (.slice A n c) ∧ VB w' A n vs ∧ n ≤ c ∧ Gw w w' := by
  subst hn
  exact h.got hnt
theorem Bl.parts {E : El} {W : World} {b : Nat} {ps : List Part} (h : Bl W b (ps.map Part.v)) (hp : AccAt W ps) : PartsAt E W b ps := ⟨by obtain ⟨e, _, h⟩ := h; exact ⟨e, h⟩, hp⟩
theorem AccAt.two {W : World} {A1 A2 : Option Addr} {n1 n2 : Nat} {l1 l2 : List Value} (c1 c2 : Nat) (h1 : VB W A1 n1 l1) (h2 : VB W A2 n2 l2) : AccAt W [⟨A1, n1, c1, l1⟩, ⟨A2, n2, c2, l2⟩] := ((AccAt.nil W).cons c2 h2).cons c1 h1
theorem concat2S {W : World} {b : Nat} {A1 A2 : Option Addr} {n1 n2 c1 c2 : Nat} {l1 l2 : List Value} (h : Bl W b [.slice A1 n1 c1, .slice A2 n2 c2]) (h1 : VB W A1 n1 l1) (h2 : VB W A2 n2 l2) (hn : n1 + n2 ≤ 1000000) :
    Calls Try.prog 71 #[.slice (some ⟨b, 0, none⟩) 2 2] W (MadeV elS W (l1 ++ l2)) := by
  have := wconcatS W b _ 2 (Bl.parts (E := elS) (ps := [⟨A1, n1, c1, l1⟩, ⟨A2, n2, c2, l2⟩]) h (AccAt.two c1 c2 h1 h2)) rfl (by decide) (by simp [sumN]; omega)
  simpa using this
theorem concat2I {W : World} {b : Nat} {A1 A2 : Option Addr} {n1 n2 c1 c2 : Nat} {l1 l2 : List Value} (h : Bl W b [.slice A1 n1 c1, .slice A2 n2 c2]) (h1 : VB W A1 n1 l1) (h2 : VB W A2 n2 l2) (hn : n1 + n2 ≤ 1000000) :
    Calls Try.prog 70 #[.slice (some ⟨b, 0, none⟩) 2 2] W (MadeV elI W (l1 ++ l2)) := by
  have := wconcatI W b _ 2 (Bl.parts (E := elI) (ps := [⟨A1, n1, c1, l1⟩, ⟨A2, n2, c2, l2⟩]) h (AccAt.two c1 c2 h1 h2)) rfl (by decide) (by simp [sumN]; omega)
  simpa using this
theorem concat2N {W : World} {b : Nat} {A1 A2 : Option Addr} {n1 n2 c1 c2 : Nat} {l1 l2 : List Value} (h : Bl W b [.slice A1 n1 c1, .slice A2 n2 c2]) (h1 : VB W A1 n1 l1) (h2 : VB W A2 n2 l2) (hn : n1 + n2 ≤ 1000000) :
    Calls Try.prog 75 #[.slice (some ⟨b, 0, none⟩) 2 2] W (MadeV elN W (l1 ++ l2)) := by
  have := wconcatN W b _ 2 (Bl.parts (E := elN) (ps := [⟨A1, n1, c1, l1⟩, ⟨A2, n2, c2, l2⟩]) h (AccAt.two c1 c2 h1 h2)) rfl (by decide) (by simp [sumN]; omega)
  simpa using this
theorem concat3S {W : World} {b b2 : Nat} {A1 A2 : Option Addr} {n1 n2 c1 c2 : Nat} {l1 l2 : List Value} {k : ByteArray} (h : Bl W b [.slice A1 n1 c1, .slice (some ⟨b2, 0, none⟩) 1 1, .slice A2 n2 c2]) (hk : Bl W b2 [.string k]) (h1 : VB W A1 n1 l1) (h2 : VB W A2 n2 l2) (hn : n1 + n2 ≤ 1000000) :
    Calls Try.prog 71 #[.slice (some ⟨b, 0, none⟩) 3 3] W (MadeV elS W (l1 ++ .string k :: l2)) := by
  have := wconcatS W b _ 3 (Bl.parts (E := elS) (ps := [⟨A1, n1, c1, l1⟩, ⟨some ⟨b2, 0, none⟩, 1, 1, [.string k]⟩, ⟨A2, n2, c2, l2⟩]) h (((AccAt.nil W).cons c2 h2).cons 1 (hk.vb (by simp; rfl) rfl) |>.cons c1 h1)) rfl (by decide) (by simp [sumN]; omega)
  simpa using this
theorem keysV_len (ps : List Pr) : (keysV ps).length = ps.length := by simp [keysV]
theorem numsV_len (ps : List Pr) : (numsV ps).length = ps.length := by simp [numsV]
end Go.Proofs.Ytlhpoliiojekeaa
