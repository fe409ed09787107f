/- Layer 8: the law's step, whatever it does; what the law's loop over a script holds. -/
import Derived.Test.YtghnafknbgmagaaLkMan5
import Derived.Test.YtghnafknbgmagaaLkBegun
import Derived.Test.YtghnafknbgmagaaLkClone
namespace Go.Proofs.Ytghnafknbgmagaa
set_option maxRecDepth 100000
set_option maxRecDepth 100000
open Go.RowKit Go.Maps Go.ChangeMaps Go.MapKept

theorem Two8.below {w w' : World} {m r b : Nat} {most : Int} {hs : List Hd} (h : Two8 w m r b most hs) (g : Below w.heap.size w w') : Two8 w' m r b most hs := ⟨h.mg.below g, h.rm.gw g⟩
/-- What an operation leaves held. -/
def nextP (most : Int) (hs : List Hd) (o : OpK) : List Hd := if o.kind = 0 then (takeP most hs o.tx o.snap o.last o.at_).2 else if o.kind = 4 then releaseP hs o.tx else hs
theorem wf_of {x : Int} (h : -9223372036854775808 ≤ x ∧ x ≤ 9223372036854775807) : (Lit.int .i64 x).wf = true := by
  simpa [Lit.wf, IntKind.min, IntKind.max, IntKind.bits, IntKind.signed] using h
/-- The law's step is true, whatever is done. -/
theorem wstep8 {w : World} {m r b : Nat} {most : Int} {hs : List Hd} (h : Two8 w m r b most hs) (o : OpK) (ho : OpKIs o) :
    Calls Try.prog 14 #[.pointer (some ⟨m, 0, none⟩), .pointer (some ⟨b, 0, none⟩), .agg #[.int .i64 o.kind, .int .i64 o.tx, .int .i64 o.snap, .int .i64 o.last, .string o.at_.1, .string o.at_.2, .string o.hi]] w
      fun e w' => e = .returned (.bool true) ∧ Two8 w' m r b most (nextP most hs o) ∧ Out (fun k => k = r ∨ k = b) w w' := by
  have keep : ∀ {P : Ending → World → Prop}, Calls Try.prog 14 #[.pointer (some ⟨m, 0, none⟩), .pointer (some ⟨b, 0, none⟩), .agg #[.int .i64 o.kind, .int .i64 o.tx, .int .i64 o.snap, .int .i64 o.last, .string o.at_.1, .string o.at_.2, .string o.hi]] w (fun e w' => e = .returned (.bool true) ∧ Two8 w' m r b most hs ∧ Below w.heap.size w w') → nextP most hs o = hs → Calls Try.prog 14 #[.pointer (some ⟨m, 0, none⟩), .pointer (some ⟨b, 0, none⟩), .agg #[.int .i64 o.kind, .int .i64 o.tx, .int .i64 o.snap, .int .i64 o.last, .string o.at_.1, .string o.at_.2, .string o.hi]] w
      fun e w' => e = .returned (.bool true) ∧ Two8 w' m r b most (nextP most hs o) ∧ Out (fun k => k = r ∨ k = b) w w' := by
    intro _ hc hn
    refine hc.mono ?_
    rintro e w' ⟨h1, h2, h3⟩
    exact ⟨h1, by rw [hn]; exact h2, Out.of_below h3 _⟩
  by_cases k0 : o.kind = 0
  · have hn : nextP most hs o = (takeP most hs o.tx o.snap o.last o.at_).2 := by unfold nextP; rw [if_pos k0]
    rw [hn]
    exact wstep_take h o k0 ho.sz (wf_of ho.rt)
  by_cases k1 : o.kind = 1
  · exact keep (P := fun _ _ => True) (wstep_holder h o k1 ho.sz) (by unfold nextP; rw [if_neg k0, if_neg (by omega)])
  by_cases k2 : o.kind = 2
  · exact keep (P := fun _ _ => True) (wstep_holders h o k2 fun w' hm => wkHolders hm _ _ _) (by unfold nextP; rw [if_neg k0, if_neg (by omega)])
  by_cases k3 : o.kind = 3
  · exact keep (P := fun _ _ => True) (wstep_held h o k3 fun w' hm => wkHeld hm _) (by unfold nextP; rw [if_neg k0, if_neg (by omega)])
  by_cases k4 : o.kind = 4
  · have hn : nextP most hs o = releaseP hs o.tx := by unfold nextP; rw [if_neg k0, if_pos k4]
    rw [hn]
    exact wstep_release h o k4
  by_cases k5 : o.kind = 5
  · exact keep (P := fun _ _ => True) (wstep_len h o k5) (by unfold nextP; rw [if_neg k0, if_neg k4])
  · exact keep (P := fun _ _ => True) (wstep_else h o (by omega)) (by unfold nextP; rw [if_neg k0, if_neg k4])
/-- Where the law's loop over a script stands: the manager, its map, the reference's, made behind the law's arguments. -/
structure Law8 (w0 w : World) (m r b : Nat) (most : Int) (hs : List Hd) : Prop where
  two : Two8 w m r b most hs
  bel : Below w0.heap.size w0 w
  ml : w0.heap.size ≤ m
  rl : w0.heap.size ≤ r
  bl : w0.heap.size ≤ b
theorem Law8.below {w0 w w' : World} {m r b : Nat} {most : Int} {hs : List Hd} (h : Law8 w0 w m r b most hs) (g : Below w.heap.size w w') : Law8 w0 w' m r b most hs := ⟨h.two.below g, below_next h.bel g, h.ml, h.rl, h.bl⟩
theorem Law8.step {w0 w w' : World} {m r b : Nat} {most : Int} {hs hs' : List Hd} (h : Law8 w0 w m r b most hs) (t : Two8 w' m r b most hs') (g : Out (fun k => k = r ∨ k = b) w w') : Law8 w0 w' m r b most hs' :=
  ⟨t, h.bel.trans (g.below h.bel.size fun i hi e => by have := h.rl; have := h.bl; omega), h.ml, h.rl, h.bl⟩
/-- A clone takes the manager's place, whatever happens to the old one. -/
theorem Law8.cloned {w0 w w2 : World} {m r b m2 r2 : Nat} {most : Int} {hs : List Hd} (h : Law8 w0 w m r b most hs) (hm : MG w2 m2 r2 most hs) (hml : w.heap.size ≤ m2) (hrl : w.heap.size ≤ r2) (g : Below w.heap.size w w2) :
    Law8 w0 w2 m2 r2 b most hs ∧ MG w2 m r most hs ∧ m2 ≠ r ∧ r2 ≠ r := by
  have h1 := h.bel.size
  have h2 := h.two.mg.map.lt
  exact ⟨⟨⟨hm, h.two.rm.gw g⟩, below_next h.bel g, by omega, by omega, h.bl⟩, h.two.mg.below g, by omega, by omega⟩
theorem Law8.aside {w0 w w' : World} {m r b m1 r1 : Nat} {most most1 : Int} {hs hs1 : List Hd} (h : Law8 w0 w m r b most hs) (ho : MG w m1 r1 most1 hs1) (n1 : m ≠ r1) (n2 : r ≠ r1) (hl : w0.heap.size ≤ r1) (g : Out (fun k => k = r1) w w') : Law8 w0 w' m r b most hs :=
  ⟨⟨⟨(g.block m (Array.getElem?_eq_some_iff.1 h.two.mg.blk).1 n1).trans h.two.mg.blk, h.two.mg.map.block (g.block r h.two.mg.map.lt n2), h.two.mg.m1, h.two.mg.m2, h.two.mg.len⟩, h.two.rm.out_map ho.map g⟩,
    h.bel.trans (g.below h.bel.size fun i hi e => by omega), h.ml, h.rl, h.bl⟩
end Go.Proofs.Ytghnafknbgmagaa
