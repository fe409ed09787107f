/- Nodes in memory: what keys lie below them, at which depth, and how many parts they have. -/
import Derived.Test.YtlhpoliiojekeaaBin
namespace Go.Proofs.Ytlhpoliiojekeaa
set_option maxRecDepth 100000
open Go.RowKit

abbrev Pr := ByteArray × Int
def keysV (ps : List Pr) : List Value := ps.map fun p => Value.string p.1
def numsV (ps : List Pr) : List Value := ps.map fun p => Value.int .i64 p.2
def keys (ps : List Pr) : List ByteArray := ps.map Prod.fst
theorem keysV_eq (ps : List Pr) : keysV ps = (keys ps).map Value.string := by simp [keysV, keys]
/-- A pair of cells of a block, and more. -/
def lp (g : Nat) : Value := .iface 85 (.pointer (some ⟨g, 0, none⟩))
def ip (g : Nat) : Value := .iface 107 (.pointer (some ⟨g, 0, none⟩))

/-- A leaf in block g. -/
def LfAt (w : World) (g : Nat) (ps : List Pr) : Prop :=
  ∃ A c B e, w.heap[g]? = some (.cells #[.slice A ps.length c, .slice B ps.length e] 101 (0, 0)) ∧ VB w A ps.length (keysV ps) ∧ ps.length ≤ c ∧ VB w B ps.length (numsV ps) ∧ ps.length ≤ e
theorem LfAt.below {w w' : World} {g : Nat} {ps : List Pr} (h : LfAt w g ps) (hb : Below w.heap.size w w') : LfAt w' g ps := by
  obtain ⟨A, c, B, e, h0, h1, h2, h3, h4⟩ := h
  exact ⟨A, c, B, e, (hb.block g (Array.getElem?_eq_some_iff.1 h0).1).trans h0, h1.below' hb, h2, h3.below' hb, h4⟩
theorem LfAt.drew {w : World} {g : Nat} {ps : List Pr} (h : LfAt w g ps) : LfAt w.drew g ps := h.below ((Below.refl _ _).drew)

structure Kid where
  v : Value
  ps : List Pr
  m : Nat
def kidsP (kids : List Kid) : List Pr := kids.flatMap Kid.ps
/-- What stands behind each other in a node: keys of what is below, and separating keys. -/
inductive Tk
  | key (b : ByteArray)
  | sep (b : ByteArray)
def tr : Tk → Tk → Prop
  | .key a, .key b => kl a b = true
  | .key a, .sep b => kl a b = true
  | .sep a, .key b => kl b a = false
  | .sep a, .sep b => kl a b = true
def kt (y : Kid) : List Tk := (keys y.ps).map Tk.key
def toks : List ByteArray → List Kid → List Tk
  | _, [] => []
  | [], y :: _ => kt y
  | s :: ks, y :: kids => kt y ++ Tk.sep s :: toks ks kids
/-- An inner node in block g: keys ks, kids. -/
structure InC (N : Value → List Pr → Nat → Prop) (w : World) (g : Nat) (ps : List Pr) (ks : List ByteArray) (kids : List Kid) : Prop where
  row : ∃ A c B e, w.heap[g]? = some (.cells #[.slice A ks.length c, .slice B kids.length e, .int .i64 (ps.length : Nat)] 109 (0, 0)) ∧ VB w A ks.length (ks.map Value.string) ∧ ks.length ≤ c ∧ VB w B kids.length (kids.map Kid.v) ∧ kids.length ≤ e
  num : kids.length = ks.length + 1
  all : ps = kidsP kids
  is : ∀ x ∈ kids, N x.v x.ps x.m
  tok : (toks ks kids).Pairwise tr
/-- The most parts of a node at a height. -/
def most (ord d : Nat) : Nat := if d = 0 then ord - 1 else ord
def Fit (ord d m : Nat) : Prop := (most ord d + 1) / 2 ≤ m ∧ m ≤ most ord d
/-- A node: its height, its keys, how many parts it has; those below it have neither too many nor too few. -/
def NodeAt (ord : Nat) (w : World) : Nat → Value → List Pr → Nat → Prop
  | 0, v, ps, m => ∃ g, v = lp g ∧ LfAt w g ps ∧ m = ps.length
  | d + 1, v, ps, m => ∃ g ks kids, v = ip g ∧ m = kids.length ∧ InC (NodeAt ord w d) w g ps ks kids ∧ ∀ x ∈ kids, Fit ord d x.m
theorem InC.move {N N' : Value → List Pr → Nat → Prop} {w w' : World} {g : Nat} {ps : List Pr} {ks : List ByteArray} {kids : List Kid} (h : InC N w g ps ks kids) (hb : Below w.heap.size w w') (hN : ∀ v ps m, N v ps m → N' v ps m) : InC N' w' g ps ks kids := by
  obtain ⟨A, c, B, e, h0, h1, h2, h3, h4⟩ := h.row
  exact ⟨⟨A, c, B, e, (hb.block g (Array.getElem?_eq_some_iff.1 h0).1).trans h0, h1.below' hb, h2, h3.below' hb, h4⟩, h.num, h.all, fun x hx => hN _ _ _ (h.is x hx), h.tok⟩
theorem NodeAt.below {ord : Nat} {w w' : World} (hb : Below w.heap.size w w') : ∀ {d : Nat} {v : Value} {ps : List Pr} {m : Nat}, NodeAt ord w d v ps m → NodeAt ord w' d v ps m
  | 0, _, _, _, ⟨g, h1, h2, h3⟩ => ⟨g, h1, h2.below hb, h3⟩
  | _ + 1, _, _, _, ⟨g, ks, kids, h1, h2, h3, h4⟩ => ⟨g, ks, kids, h1, h2, h3.move hb fun _ _ _ h => h.below hb, h4⟩
theorem NodeAt.drew {ord : Nat} {w : World} {d : Nat} {v : Value} {ps : List Pr} {m : Nat} (h : NodeAt ord w d v ps m) : NodeAt ord w.drew d v ps m := h.below ((Below.refl _ _).drew)
theorem NodeAt.one {ord : Nat} {w : World} {d : Nat} {v : Value} {ps : List Pr} {m : Nat} (h : NodeAt ord w d v ps m) : v.oneCell' = true := by
  rcases d with _ | d
  · obtain ⟨g, rfl, -⟩ := h; rfl
  · obtain ⟨g, ks, kids, rfl, -⟩ := h; rfl
/-- How many keys. -/
theorem wcountL {w : World} {g : Nat} {ps : List Pr} (h : LfAt w g ps) : Calls Try.prog 95 #[.pointer (some ⟨g, 0, none⟩)] w fun e w' => e = .returned (.int .i64 (ps.length : Nat)) ∧ w' = w := by
  obtain ⟨A, c, B, e, h0, -⟩ := h
  have c0 : w.cell? ⟨g, 0, none⟩ = some (.slice A ps.length c) := by rw [cell_of_row _ _ _ _ _ _ h0]; rfl
  clear h0
  go_enter Try.func95, Try.ntmps95
  go_wp2
  go_ret
  exact ⟨rfl, rfl⟩
theorem wcountI {N : Value → List Pr → Nat → Prop} {w : World} {g : Nat} {ps : List Pr} {ks : List ByteArray} {kids : List Kid} (h : InC N w g ps ks kids) :
    Calls Try.prog 96 #[.pointer (some ⟨g, 0, none⟩)] w fun e w' => e = .returned (.int .i64 (ps.length : Nat)) ∧ w' = w := by
  obtain ⟨A, c, B, e, h0, -⟩ := h.row
  have c2 : w.cell? ⟨g, 2, none⟩ = some (.int .i64 (ps.length : Nat)) := by rw [cell_of_row _ _ _ _ _ _ h0]; rfl
  clear h0
  go_enter Try.func96, Try.ntmps96
  go_wp2
  go_ret
  exact ⟨rfl, rfl⟩

/-- A tree's struct. -/
structure TrAt (w : World) (T ord : Nat) (v : Value) : Prop where
  row : w.heap[T]? = some (.cells #[.int .i64 (ord : Nat), v] 82 (0, 0))
theorem TrAt.c0 {w : World} {T ord : Nat} {v : Value} (h : TrAt w T ord v) : w.cell? ⟨T, 0, none⟩ = some (.int .i64 (ord : Nat)) := by rw [cell_of_row _ _ _ _ _ _ h.row]; rfl
theorem TrAt.c1 {w : World} {T ord : Nat} {v : Value} (h : TrAt w T ord v) : w.cell? ⟨T, 1, none⟩ = some v := by rw [cell_of_row _ _ _ _ _ _ h.row]; rfl
theorem TrAt.below {w w' : World} {T ord : Nat} {v : Value} (h : TrAt w T ord v) (hb : Below w.heap.size w w') : TrAt w' T ord v := ⟨(hb.block T (Array.getElem?_eq_some_iff.1 h.row).1).trans h.row⟩

/-- Which kind of node it is. -/
theorem ta_ll (a : Value) (W : World) : (Instr.typeAssert (.iface 85 a) 80 85 true).run Try.prog W = .ok (.tuple #[a, .bool true]) W := by kernel_rfl
theorem ta_li (a : Value) (W : World) : (Instr.typeAssert (.iface 85 a) 80 107 true).run Try.prog W = .ok (.tuple #[.pointer none, .bool false]) W := by kernel_rfl
theorem ta_il (a : Value) (W : World) : (Instr.typeAssert (.iface 107 a) 80 85 true).run Try.prog W = .ok (.tuple #[.pointer none, .bool false]) W := by kernel_rfl
theorem ta_ii (a : Value) (W : World) : (Instr.typeAssert (.iface 107 a) 80 107 true).run Try.prog W = .ok (.tuple #[a, .bool true]) W := by kernel_rfl
theorem ta_llF (a : Value) (W : World) : (Instr.typeAssert (.iface 85 a) 80 85 false).run Try.prog W = .ok a W := by kernel_rfl
theorem ta_iiF (a : Value) (W : World) : (Instr.typeAssert (.iface 107 a) 80 107 false).run Try.prog W = .ok a W := by kernel_rfl

set_option maxHeartbeats 1000000 in
theorem wfill {ord : Nat} {w : World} {T d : Nat} {r v : Value} {ps : List Pr} {m : Nat} (hT : TrAt w T ord r) (h : NodeAt ord w d v ps m) (ho : 1 ≤ ord) (ho2 : ord ≤ 1000) :
    Calls Try.prog 67 #[.pointer (some ⟨T, 0, none⟩), v] w fun e w' => e = .returned (.tuple #[.int .i64 (m : Nat), .int .i64 (most ord d : Nat)]) ∧ ∃ k, w' = w.drewN k := by
  have c0 := hT.c0
  rcases d with _ | d
  · obtain ⟨g, rfl, ⟨A, c, B, e, h0, -⟩, rfl⟩ := h
    have c1 : w.cell? ⟨g, 0, none⟩ = some (.slice A ps.length c) := by rw [cell_of_row _ _ _ _ _ _ h0]; rfl
    have hm : ((most ord 0 : Nat) : Int) = (ord : Int) - 1 := by unfold most; simp; omega
    have HM := Lib.hid hm
    unfold lp
    have t1 := ta_ll
    clear h0 hm
    go_enter Try.func67, Try.ntmps67
    go_wp2
    go_quiet (fail)
    go_wp2
    go_ret2
    exact ⟨by rw [HM.out]; rfl, ⟨_, rfl⟩⟩
  · obtain ⟨g, ks, kids, rfl, rfl, hC, -⟩ := h
    obtain ⟨A, c, B, e, h0, -⟩ := hC.row
    have c1 : w.cell? ⟨g, 1, none⟩ = some (.slice B kids.length e) := by rw [cell_of_row _ _ _ _ _ _ h0]; rfl
    have hm : ((most ord (d + 1) : Nat) : Int) = (ord : Int) := by unfold most; simp
    have HM := Lib.hid hm
    have t1 := ta_il
    have t2 := ta_ii
    unfold ip
    clear h0 hm hC
    go_enter Try.func67, Try.ntmps67
    go_wp2
    go_quiet (fail)
    go_wp2
    go_ret2
    exact ⟨by rw [HM.out]; rfl, ⟨_, rfl⟩⟩
end Go.Proofs.Ytlhpoliiojekeaa
