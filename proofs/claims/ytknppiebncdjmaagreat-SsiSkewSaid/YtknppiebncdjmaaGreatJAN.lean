import Derived.Test.YtknppiebncdjmaaGreatJAC
import Derived.Deep.AppendLies
import Derived.Test.YtknppiebncdjmaaGreatJAM
import Derived.Test.YtknppiebncdjmaaGreatJAH
import Derived.Laws.OwnMore
import Derived.Test.YtknppiebncdjmaaGreatJAD
set_option linter.unusedVariables false
namespace Go.Proofs.YtknppiebncdjmaaGreat
set_option maxRecDepth 100000
open Go.RowKit

section
variable {E : SEl} {base n : Nat} {w w' : World} {v : Value} {vs : List Value}
theorem wp_soW (hE : E.Ok) {o : Oper} {a : Act} {K : Act → World → Prop} {Q : Exit → Act → World → Prop} (s x : Operand)
    (ho : o.op = .call { callee := .builtin .append, args := #[s, x], argTypes := #[E.t, E.t] })
    (v : Value) (hs : a.eval s = v) (hown : SO E base w v n vs) (A : Option Addr) (m c : Nat) (us : List Value) (hx : a.eval x = .slice A m c) (hr : SB w A (E.s * m) us)
    (hsz : (n + m) * E.b ≤ 140737488355328) (h63 : n + m ≤ maxLen) (hbase : base ≤ w.heap.size)
    (h : ∀ v' w', SO E base w' v' (n + m) (vs ++ us) → Below base w w' → K (a.put o.dst v') w') : o.wp Tryz.prog a w K Q := by
  obtain ⟨i0, hi, hz0, hz1, hz2⟩ := info_parts hE.info
  have hrow : ∀ k, v.ownBlock = some k → base ≤ k := fun k hk => (hown.own.lt k hk).1
  have hs0 := hE.s0
  rcases A with _ | ad
  · have hm : m = 0 := by
      rcases Nat.eq_zero_or_pos m with h0 | h0
      · exact h0
      · obtain ⟨g, q, e, -⟩ := hr.cell (Nat.mul_pos hs0 h0)
        cases e
    subst hm
    have hy : us = [] := List.eq_nil_of_length_eq_zero (by rw [hr.len]; simp)
    subst hy
    have hrun := run_append_nothing w E.t o.type i0 hE.und hi hown.own c
    unfold Oper.wp
    simp [execOp, ho, resolve, invoke, builtin, hs, hx, hrun, Result.andThen]
    exact h v w (by simpa using hown) (Below.refl _ _)
  · have hcell : ∀ j u, us[j]? = some u → w.cell? (ad.add j) = some u := by
      rcases Nat.eq_zero_or_pos m with h0 | h0
      · intro j u hj
        have hy : us = [] := List.eq_nil_of_length_eq_zero (by rw [hr.len, h0]; simp)
        subst hy
        simp at hj
      · obtain ⟨g, q, e, hcell⟩ := hr.addr (Nat.mul_pos hs0 h0)
        cases e
        exact hcell
    refine wp_append_own w s x E.t ho base E.e i0 E.z E.s E.b hE.und hi hz0 hz1 hz2 hE.zc hs0 v n vs hs hown.own ad m c us hx (by rw [hr.len, Nat.mul_comm]) hcell hr.one h63 hsz hbase ?_
    · intro v' w' hown' hg _
      exact h v' w' ⟨hown', by rw [List.length_append, hown.len, hr.len, ← Nat.mul_add], fun u hu => by
        rcases List.mem_append.1 hu with h1 | h1
        · exact hown.one u h1
        · exact hr.one u h1⟩ (below_of_grown8 (w1 := w) hg hbase hrow)
theorem so_appendW (hE : E.Ok) {ops : Array Oper} {rest : List Oper} {o : Oper} {a : Act} {Q : Exit → Act → World → Prop} (hgd : o.guard = none) (s x : Operand)
    (ho : o.op = .call { callee := .builtin .append, args := #[s, x], argTypes := #[E.t, E.t] })
    (v : Value) (hs : a.eval s = v) (hown : SO E base w v n vs) (A : Option Addr) (m c : Nat) (us : List Value) (hx : a.eval x = .slice A m c) (hr : SB w A (E.s * m) us)
    (hsz : (n + m) * E.b ≤ 140737488355328) (h63 : n + m ≤ maxLen) (hbase : base ≤ w.heap.size)
    (h : ∀ v' w', SO E base w' v' (n + m) (vs ++ us) → Below base w w' → wpList Tryz.prog ops Q rest (a.put o.dst v') w') : wpList Tryz.prog ops Q (o :: rest) a w :=
  wpList_plain hgd fun _ hK => wp_soW hE s x ho v hs hown A m c us hx hr hsz h63 hbase fun v' w' h1 h2 => hK _ _ (h v' w' h1 h2)
end
section
variable {E : SEl} {base n : Nat} {w : World} {v : Value} {vs : List Value}
theorem so_appendL (hE : E.Ok) {ops : Array Oper} {rest : List Oper} {o : Oper} {a : Act} {Q : Exit → Act → World → Prop} (hgd : o.guard = none) (s x : Operand)
    (ho : o.op = .call { callee := .builtin .append, args := #[s, x], argTypes := #[E.t, E.t] })
    (v : Value) (hs : a.eval s = v) (hown : SO E base w v n vs) (b c : Nat) (us : List Value) (hx : a.eval x = .slice (some ⟨b, 0, none⟩) 1 c) (hr : SB w (some ⟨b, 0, none⟩) (E.s * 1) us)
    (hsz : (n + 1) * E.b ≤ 140737488355328) (h63 : n + 1 ≤ maxLen) (hbase : base ≤ w.heap.size)
    (h : ∀ g cap w', SO E base w' (.slice (some ⟨g, 0, none⟩) (n + 1) cap) (n + 1) (vs ++ us) → w.grownBy w' v.ownBlock → (v.ownBlock = some g ∨ g = w.heap.size) → wpList Tryz.prog ops Q rest (a.put o.dst (.slice (some ⟨g, 0, none⟩) (n + 1) cap)) w') : wpList Tryz.prog ops Q (o :: rest) a w := by
  obtain ⟨i0, hi, hz0, hz1, hz2⟩ := info_parts hE.info
  have hs0 := hE.s0
  refine wpList_append_lies (P := Tryz.prog) w hgd s x E.t ho base E.e i0 E.z E.s E.b hE.und hi hz0 hz1 hz2 hE.zc hs0 v n vs hs hown.own ⟨b, 0, none⟩ 1 c us hx (by rw [hr.len, Nat.mul_comm]) ?_ hr.one (by omega) h63 hsz hbase _ rfl ?_
  · obtain ⟨g, q, e, hcell⟩ := hr.addr (Nat.mul_pos hs0 (by omega))
    cases e
    exact hcell
  · intro g cap w' hown' hg hl _
    exact h g cap w' ⟨hown', by rw [List.length_append, hown.len, hr.len, ← Nat.mul_add], fun u hu => by
      rcases List.mem_append.1 hu with h1 | h1
      · exact hown.one u h1
      · exact hr.one u h1⟩ hg hl
end
section
variable {E : SEl} {base n : Nat} {w : World} {v : Value} {vs : List Value}
theorem so_stepL (hE : E.Ok) {ops : Array Oper} {o : Oper} {a : Act} {K : Act → World → Prop} {Q : Exit → Act → World → Prop} {Z : Prop} (hgd : o.guard = none) (s x : Operand)
    (ho : o.op = .call { callee := .builtin .append, args := #[s, x], argTypes := #[E.t, E.t] })
    (v : Value) (hs : a.eval s = v) (hown : SO E base w v n vs) (b c : Nat) (us : List Value) (hx : a.eval x = .slice (some ⟨b, 0, none⟩) 1 c) (hr : SB w (some ⟨b, 0, none⟩) (E.s * 1) us)
    (hsz : (n + 1) * E.b ≤ 140737488355328) (h63 : n + 1 ≤ maxLen) (hbase : base ≤ w.heap.size)
    (h : ∀ g cap w', SO E base w' (.slice (some ⟨g, 0, none⟩) (n + 1) cap) (n + 1) (vs ++ us) → w.grownBy w' v.ownBlock → (v.ownBlock = some g ∨ g = w.heap.size) → K (a.put o.dst (.slice (some ⟨g, 0, none⟩) (n + 1) cap)) w') : if Region.wanted o (yielded ops a.tmps) = true then Oper.wp Tryz.prog o a w K Q else Z := by
  obtain ⟨i0, hi, hz0, hz1, hz2⟩ := info_parts hE.info
  have hs0 := hE.s0
  refine step_append_lies (P := Tryz.prog) w hgd s x E.t ho base E.e i0 E.z E.s E.b hE.und hi hz0 hz1 hz2 hE.zc hs0 v n vs hs hown.own ⟨b, 0, none⟩ 1 c us hx (by rw [hr.len, Nat.mul_comm]) ?_ hr.one (by omega) h63 hsz hbase _ rfl ?_
  · obtain ⟨g, q, e, hcell⟩ := hr.addr (Nat.mul_pos hs0 (by omega))
    cases e
    exact hcell
  · intro g cap w' hown' hg hl _
    exact h g cap w' ⟨hown', by rw [List.length_append, hown.len, hr.len, ← Nat.mul_add], fun u hu => by
      rcases List.mem_append.1 hu with h1 | h1
      · exact hown.one u h1
      · exact hr.one u h1⟩ hg hl
end
end Go.Proofs.YtknppiebncdjmaaGreat

namespace Go.Proofs.YtknppiebncdjmaaGreat
set_option maxRecDepth 100000
open Go.RowKit

def cellsO (L : List OpS) : List Value := L.flatMap OpS.cells
theorem cellsO_cons (p : OpS) (ps : List OpS) : cellsO (p :: ps) = p.cells ++ cellsO ps := by simp [cellsO]
theorem cellsO_at : ∀ (ps : List OpS) (j : Nat) (p : OpS), ps[j]? = some p → ∀ (k : Nat) u, p.cells[k]? = some u → (cellsO ps)[7 * j + k]? = some u
  | [], _, _, h, _, _, _ => by cases h
  | q :: ps, 0, p, h, k, u, hu => by
    cases h
    have hk : k < q.cells.length := (List.getElem?_eq_some_iff.1 hu).1
    rw [cellsO_cons, Nat.mul_zero, Nat.zero_add, List.getElem?_append_left hk]; exact hu
  | q :: ps, j + 1, p, h, k, u, hu => by
    have := cellsO_at ps j p h k u hu
    rw [cellsO_cons, List.getElem?_append_right (by show 7 ≤ _; omega)]
    rw [show 7 * (j + 1) + k - q.cells.length = 7 * j + k by show 7 * (j + 1) + k - 7 = _; omega]
    exact this
theorem SB.op {w : World} {A : Option Addr} {L : List OpS} (h : SB w A (7 * L.length) (cellsO L)) {j : Nat} {x : OpS} (hp : L[j]? = some x) : ∃ b o, A = some ⟨b, o, none⟩ ∧ w.cell? ⟨b, o + j * 7, none⟩ = some (.int .i64 x.kind) ∧ w.cell? ⟨b, o + j * 7 + 1, none⟩ = some (.int .i64 x.tx) ∧ w.cell? ⟨b, o + j * 7 + 2, none⟩ = some (.string x.x.tb) ∧ w.cell? ⟨b, o + j * 7 + 3, none⟩ = some (.int .i64 x.x.kd) ∧ w.cell? ⟨b, o + j * 7 + 4, none⟩ = some (.string x.x.lo) ∧ w.cell? ⟨b, o + j * 7 + 5, none⟩ = some (.string x.x.hi) ∧ w.cell? ⟨b, o + j * 7 + 6, none⟩ = some (.string x.key) := by
  have hlt := (List.getElem?_eq_some_iff.1 hp).1
  obtain ⟨g, o, e, hc⟩ := h.cell (by omega)
  have q := fun k u hu => hc _ u (cellsO_at L j x hp k u hu)
  rw [Nat.mul_comm] at q
  simp only [← Nat.add_assoc] at q
  exact ⟨g, o, e, q 0 _ rfl, q 1 _ rfl, q 2 _ rfl, q 3 _ rfl, q 4 _ rfl, q 5 _ rfl, q 6 _ rfl⟩
end Go.Proofs.YtknppiebncdjmaaGreat

namespace Go.Proofs.YtknppiebncdjmaaGreat
set_option maxRecDepth 100000
open Go.RowKit

def capP (m : Int) : Bool := decide (1 ≤ m) && decide (m ≤ 65536)
end Go.Proofs.YtknppiebncdjmaaGreat

namespace Go.Proofs.YtknppiebncdjmaaGreat
set_option maxRecDepth 100000
open Go.RowKit

end Go.Proofs.YtknppiebncdjmaaGreat

namespace Go.Proofs.YtknppiebncdjmaaGreat
set_option maxRecDepth 100000
open Go.RowKit

set_option maxHeartbeats 2000000 in
theorem windexN {w : World} {A : Option Addr} {c1 : Nat} {l : List Int} (h1 : SB w A l.length (numC l)) (hn : l.length ≤ 10000000) (y : Int) :
    Calls Tryz.prog 126 #[.slice A l.length c1, .int .i64 y] w fun e w' => (∃ k : Int, e = .returned (.int .i64 k) ∧ (y ∈ l ∧ 0 ≤ k ∨ y ∉ l ∧ k = -1)) ∧ Below w.heap.size w w' := by
  have H1 := Lib.hid h1
  have HN := Lib.hid hn
  clear h1 hn
  go_enter Tryz.func126, Tryz.ntmps126
  go_wp2
  go_loopw [8] (fun i' wr => ∃ j : Nat, i' = .int .i64 (j : Nat) ∧ j ≤ l.length ∧ y ∉ l.take j ∧ Below w.heap.size w wr) (fun i' _ => l.length - (intOf i').toNat)
  case atStart => exact ⟨0, rfl, Nat.zero_le _, by simp, Below.refl _ _⟩
  case round =>
    rename World => wr
    obtain ⟨j, rfl, hj, hno, hb⟩ := hrel
    by_cases hlt : j < l.length
    · obtain ⟨x, hx⟩ : ∃ x, l[j]? = some x := ⟨_, List.getElem?_eq_getElem hlt⟩
      obtain ⟨g, o, rfl, x0⟩ := (H1.out.gw hb).at_ (numC_at hx)
      have i1 : (j : Int) < (l.length : Int) := by omega
      have l1 : (j : Int) ≤ 10000000 := by have := HN.out; omega
      have HB := Lib.hid hb
      by_cases he : y = x
      · subst he
        have HM := Lib.hid (show y ∈ l from List.mem_of_getElem? hx)
        clear hj hlt hx hb hno
        go_wp2
        go_ret
        exact ⟨⟨_, rfl, .inl ⟨HM.out, by omega⟩⟩, HB.out⟩
      · have he' : (y == x) = false := by simpa using he
        have HNO := Lib.hid (show y ∉ l.take (j + 1) by
          rw [List.take_add_one, hx, Option.toList_some]
          simp only [List.mem_append, List.mem_singleton]
          intro h
          rcases h with h | h
          · exact hno h
          · exact he h)
        have HLT := Lib.hid hlt
        clear hj hlt hx hb hno
        go_wp2
        go_roundw
        case rel => exact ⟨j + 1, by go_num, HLT.out, HNO.out, HB.out⟩
        case measure => have := HLT.out; simp [intOf]; omega
    · have hje : j = l.length := by omega
      subst hje
      have i1 : ¬ (l.length : Int) < (l.length : Int) := by omega
      have HB := Lib.hid hb
      have HNO := Lib.hid (show y ∉ l by rwa [List.take_length] at hno)
      clear hj hlt hb hno
      go_wp2
      go_ret
      exact ⟨⟨_, rfl, .inr ⟨HNO.out, rfl⟩⟩, HB.out⟩

set_option maxHeartbeats 2000000 in
theorem wcontainsN {w : World} {A : Option Addr} {c1 : Nat} {l : List Int} (h1 : SB w A l.length (numC l)) (hn : l.length ≤ 10000000) (y : Int) :
    Calls Tryz.prog 78 #[.slice A l.length c1, .int .i64 y] w fun e w' => e = .returned (.bool (decide (y ∈ l))) ∧ Below w.heap.size w w' := by
  have C := Lib.hid (windexN (c1 := c1) h1 hn y)
  clear h1 hn
  go_enter Tryz.func78, Tryz.ntmps78
  by_cases hy : y ∈ l
  · have HY := Lib.hid (show decide (y ∈ l) = true by simpa using hy)
    go_wp2_with (go_at_call 126; go_loud (refine C.out.mono ?_; rintro e w1 ⟨⟨k, rfl, hk⟩, b1⟩; have HB := Lib.hid b1; clear b1; replace hk : 0 ≤ k := (by rcases hk with h | h; exact h.2; exact absurd hy h.1)))
    go_ret
    exact ⟨by rw [HY.out] <;> rfl, HB.out⟩
  · have HY := Lib.hid (show decide (y ∈ l) = false by simpa using hy)
    go_wp2_with (go_at_call 126; go_loud (refine C.out.mono ?_; rintro e w1 ⟨⟨k, rfl, hk⟩, b1⟩; have HB := Lib.hid b1; clear b1; obtain rfl : k = -1 := (by rcases hk with h | h; exact absurd h.1 hy; exact h.2)))
    go_ret
    exact ⟨by rw [HY.out] <;> rfl, HB.out⟩
end Go.Proofs.YtknppiebncdjmaaGreat

namespace Go.Proofs.YtknppiebncdjmaaGreat
set_option maxRecDepth 100000
open Go.RowKit

structure RdS (x : Rd) : Prop where
  lo : x.lo.size ≤ 140737488351232
  tb : x.tb.size ≤ 140737488351232
structure Api9 (M : World → (Nat → Prop) → Nat → Nat → List Nt → Prop) : Prop where
  stays : ∀ {w w' : World} {G : Nat → Prop} {r most : Nat} {L : List Nt}, M w G r most L → Out (fun k => ¬ G k) w w' → M w' G r most L
  lt : ∀ {w : World} {G : Nat → Prop} {r most : Nat} {L : List Nt}, M w G r most L → ∀ k, G k → k < w.heap.size
  inv : ∀ {w : World} {G : Nat → Prop} {r most : Nat} {L : List Nt}, M w G r most L → Inv9 most L ∧ SzL L ∧ 1 ≤ most ∧ most ≤ 65536
  new : ∀ (w : World) (m : Nat), 1 ≤ m → m ≤ 65536 → Calls Tryz.prog 37 #[.int .i64 (m : Int)] w fun e w' => ∃ r G, e = .returned (.tuple #[.pointer (some ⟨r, 0, none⟩), .int .i64 0]) ∧ M w' G r m [] ∧ (∀ k, G k → w.heap.size ≤ k) ∧ Below w.heap.size w w'
  bad : ∀ (w : World) (m : Int), capP m = false → Calls Tryz.prog 37 #[.int .i64 m] w fun e w' => e = .returned (.tuple #[.pointer none, .int .i64 1]) ∧ Below w.heap.size w w'
  note : ∀ {w : World} {G : Nat → Prop} {r most : Nat} {L : List Nt}, M w G r most L → ∀ (t : Int) (x : Rd), (Lit.int .i64 t).wf = true → RdS x →
    Calls Tryz.prog 47 #[.pointer (some ⟨r, 0, none⟩), .int .i64 t, rdV x] w fun e w' => e = .returned (.int .i64 (noteP most L t x).1) ∧ ∃ G', M w' G' r most (noteP most L t x).2 ∧ (∀ k, G' k → G k ∨ w.heap.size ≤ k) ∧ Out G w w'
  drop : ∀ {w : World} {G : Nat → Prop} {r most : Nat} {L : List Nt}, M w G r most L → ∀ (t : Int), (Lit.int .i64 t).wf = true →
    Calls Tryz.prog 129 #[.pointer (some ⟨r, 0, none⟩), .int .i64 t] w fun e w' => e = .returned (.int .i64 (if t < 1 then 1 else 0)) ∧ ∃ G', M w' G' r most (if t < 1 then L else dropP L t) ∧ (∀ k, G' k → G k ∨ w.heap.size ≤ k) ∧ Out G w w'
  readers : ∀ {w : World} {G : Nat → Prop} {r most : Nat} {L : List Nt}, M w G r most L → ∀ (t k : ByteArray), t.size ≤ 140737488351232 → k.size ≤ 140737488351232 →
    Calls Tryz.prog 54 #[.pointer (some ⟨r, 0, none⟩), .string t, .string k] w fun e w' => ∃ v, e = .returned v ∧ SO seN w.heap.size w' v (txP L fun n => hasP n.2 t k).length (numC (txP L fun n => hasP n.2 t k)) ∧ Below w.heap.size w w'
  txns : ∀ {w : World} {G : Nat → Prop} {r most : Nat} {L : List Nt}, M w G r most L →
    Calls Tryz.prog 45 #[.pointer (some ⟨r, 0, none⟩)] w fun e w' => ∃ v, e = .returned v ∧ SO seN w.heap.size w' v (txP L fun _ => true).length (numC (txP L fun _ => true)) ∧ Below w.heap.size w w'
  of : ∀ {w : World} {G : Nat → Prop} {r most : Nat} {L : List Nt}, M w G r most L → ∀ (t : Int), (Lit.int .i64 t).wf = true →
    Calls Tryz.prog 46 #[.pointer (some ⟨r, 0, none⟩), .int .i64 t] w fun e w' => ∃ v, e = .returned v ∧ SO seR w.heap.size w' v (ofP L t).length (cellsR (ofP L t)) ∧ Below w.heap.size w w'
  len : ∀ {w : World} {G : Nat → Prop} {r most : Nat} {L : List Nt}, M w G r most L →
    Calls Tryz.prog 71 #[.pointer (some ⟨r, 0, none⟩)] w fun e w' => e = .returned (.int .i64 (L.length : Nat)) ∧ Below w.heap.size w w'
  covers : ∀ (w : World) (a b : Rd), a.lo.size ≤ 140737488351232 → b.lo.size ≤ 140737488351232 → Calls Tryz.prog 142 #[rdV a, rdV b] w fun e w' => e = .returned (.bool (coversP a b)) ∧ Below w.heap.size w w'
section
variable {M : World → (Nat → Prop) → Nat → Nat → List Nt → Prop}
theorem Api9.below (I : Api9 M) {w w' : World} {G : Nat → Prop} {r most : Nat} {L : List Nt} (h : M w G r most L) (g : Below w.heap.size w w') : M w' G r most L := I.stays h (Out.of_below g _)

theorem RN.out {F G : Nat → Prop} {w w' : World} {b most : Nat} {L : List Nt} (h : RN F w b most L) (o : Out G w w') (hb : ¬ G b) (hF : ∀ k, F k → ¬ G k) : RN F w' b most L := by
  obtain ⟨A, c, h1, h2, h3, h4, h5⟩ := h.ex
  refine ⟨A, c, (o.block b (Array.getElem?_eq_some_iff.1 h1).1 hb).trans h1, ⟨h2.len, h2.one, fun h0 => ?_⟩, h3, h4, fun ad e => ⟨(h5 ad e).1, (h5 ad e).2.1, Nat.lt_of_lt_of_le (h5 ad e).2.2 o.size⟩⟩
  obtain ⟨g, q, e, hc⟩ := h2.cell h0
  exact ⟨g, q, e, fun j u hj => o.cell (hc j u hj) (hF _ (h5 _ e).2.1)⟩
theorem RN.mono {F F' : Nat → Prop} {w : World} {b most : Nat} {L : List Nt} (h : RN F w b most L) (hF : ∀ k, k < w.heap.size → F k → F' k) : RN F' w b most L := by
  obtain ⟨A, c, h1, h2, h3, h4, h5⟩ := h.ex
  exact ⟨A, c, h1, h2, h3, h4, fun ad e => ⟨(h5 ad e).1, hF _ (h5 ad e).2.2 (h5 ad e).2.1, (h5 ad e).2.2⟩⟩
theorem shrink_sz {most : Nat} : ∀ (f : Nat) (L M : List Nt), SzL L → shrinkP most f L = some M → SzL M
  | 0, L, M, h, e => by
    unfold shrinkP at e
    by_cases h1 : L.length ≤ most
    · rw [if_pos h1] at e; cases e; exact h
    · rw [if_neg h1] at e; cases e
  | f + 1, L, M, h, e => by
    unfold shrinkP at e
    by_cases h1 : L.length ≤ most
    · rw [if_pos h1] at e; cases e; exact h
    · rw [if_neg h1] at e
      cases h2 : coarsestP L with
      | none => rw [h2] at e; cases e
      | some p =>
        rw [h2] at e
        refine shrink_sz f _ M (fun n hn => ?_) e
        unfold coarseP at hn
        rcases List.mem_append.1 hn with hn | hn
        · exact h n (List.mem_filter.1 hn).1
        · rw [List.mem_singleton.1 hn]; exact Nat.zero_le _
theorem note_sz {most : Nat} {L : List Nt} (h : SzL L) (t : Int) {x : Rd} (hx : x.lo.size ≤ 140737488355328) : SzL (noteP most L t x).2 := by
  unfold noteP
  by_cases h1 : t < 1 ∨ mayP x = false
  · rw [if_pos h1]; exact h
  · rw [if_neg h1]
    cases h2 : L.any fun n => decide (n.1 = t) && coversP n.2 x with
    | true => rw [if_pos rfl]; exact h
    | false =>
      rw [if_neg (by simp)]
      cases h3 : shrinkP most (L.length + 1) (addP L t x) with
      | none => exact h
      | some M =>
        refine shrink_sz _ _ M (fun n hn => ?_) h3
        unfold addP at hn
        rcases List.mem_append.1 hn with hn | hn
        · exact h n (List.mem_filter.1 hn).1
        · rw [List.mem_singleton.1 hn]; exact hx
end
end Go.Proofs.YtknppiebncdjmaaGreat

namespace Go.Proofs.YtknppiebncdjmaaGreat
set_option maxRecDepth 100000
open Go.RowKit Go.Maps Go.ChangeMaps Go.MapKept

theorem MapM.look2 {κ : Type} [DecidableEq κ] {k : TypeId} {T : KT κ k} {w : World} {r : Nat} {hs : List (κ × Value)} (hM : MapM T w r hs) {t e : TypeId} (ht : Tryz.prog.underlying t = some (.map k e)) {z : Value} (hz : (zeroValue e).run Tryz.prog w = .ok z w) {x : κ} (hx : T.ok x) :
    (Instr.lookup t (.map (some r)) (T.enc x) true).run Tryz.prog w = .ok (.tuple #[(getM hs x).getD z, .bool (getM hs x).isSome]) w := by
  obtain ⟨D, ho, hv⟩ := hM
  obtain ⟨v, ps, hrun, h1⟩ := ho.look_ok T.law ht hz (zd := .held z) (zp := []) rfl (T.key hx)
  rw [hv.at_ x hx] at h1
  rw [hrun, hv.has x hx]
  unfold heldR at h1
  simp only [Option.some.injEq, Prod.mk.injEq] at h1
  obtain ⟨h1, -⟩ := h1
  cases hg : getM hs x with
  | none => rw [hg] at h1; simp only [Option.elim_none, DataW.held.injEq] at h1; rw [h1]; rfl
  | some u => rw [hg] at h1; simp only [Option.elim_some, DataW.held.injEq] at h1; rw [h1]; rfl
abbrev actT : TypeId := 86
abbrev kepT : TypeId := 87
abbrev flgT : TypeId := 88
def flagV (f : Bool × Bool) : Value := .agg #[.bool f.1, .bool f.2]
def pastV (k : KpR) : Value := .agg #[k.val, .int .i64 k.upto]
def actM (l : List (Int × Int)) : List (Int × Value) := encA (.int .i64) l
def kepM (l : List (Int × KpR)) : List (Int × Value) := encA pastV l
def flgM (l : List (Int × (Bool × Bool))) : List (Int × Value) := encA flagV l
theorem zeroN (w : World) : (zeroValue 2).run Tryz.prog w = .ok (.int .i64 0) w := by kernel_rfl
theorem zeroP (w : World) : (zeroValue 108).run Tryz.prog w = .ok (.agg #[.slice none 0 0, .int .i64 0]) w := by kernel_rfl
theorem zeroF (w : World) : (zeroValue 79).run Tryz.prog w = .ok (.agg #[.bool false, .bool false]) w := by kernel_rfl
theorem look_act {w : World} {r : Nat} {l : List (Int × Int)} (h : MapM KI w r (actM l)) {x : Int} (hx : (Lit.int .i64 x).wf = true) : (Instr.lookup actT (.map (some r)) (.int .i64 x) false).run Tryz.prog w = .ok (.int .i64 ((getA l x).getD 0)) w := by
  have := h.look Tryz.underlying86 (zeroN w) (x := x) hx
  unfold actM at this
  rw [enc_get] at this
  rw [show (Value.int .i64 x) = KI.enc x from rfl, this]
  cases getA l x <;> rfl
theorem look_act2 {w : World} {r : Nat} {l : List (Int × Int)} (h : MapM KI w r (actM l)) {x : Int} (hx : (Lit.int .i64 x).wf = true) : (Instr.lookup actT (.map (some r)) (.int .i64 x) true).run Tryz.prog w = .ok (.tuple #[.int .i64 ((getA l x).getD 0), .bool (getA l x).isSome]) w := by
  have := h.look2 Tryz.underlying86 (zeroN w) (x := x) hx
  unfold actM at this
  rw [enc_get] at this
  rw [show (Value.int .i64 x) = KI.enc x from rfl, this]
  cases getA l x <;> rfl
theorem look_kep {w : World} {r : Nat} {l : List (Int × KpR)} (h : MapM KI w r (kepM l)) {x : Int} (hx : (Lit.int .i64 x).wf = true) : (Instr.lookup kepT (.map (some r)) (.int .i64 x) false).run Tryz.prog w = .ok (pastV ((getA l x).getD ⟨.slice none 0 0, [], 0⟩)) w := by
  have := h.look Tryz.underlying87 (zeroP w) (x := x) hx
  unfold kepM at this
  rw [enc_get] at this
  rw [show (Value.int .i64 x) = KI.enc x from rfl, this]
  cases getA l x <;> rfl
theorem look_flg {w : World} {r : Nat} {l : List (Int × (Bool × Bool))} (h : MapM KI w r (flgM l)) {x : Int} (hx : (Lit.int .i64 x).wf = true) : (Instr.lookup flgT (.map (some r)) (.int .i64 x) false).run Tryz.prog w = .ok (flagV ((getA l x).getD (false, false))) w := by
  have := h.look Tryz.underlying88 (zeroF w) (x := x) hx
  unfold flgM at this
  rw [enc_get] at this
  rw [show (Value.int .i64 x) = KI.enc x from rfl, this]
  cases getA l x <;> rfl
structure LV (w : World) (v : Value) (ls : List Lk) : Prop where
  ex : ∃ A c, v = .slice A ls.length c ∧ SB w A (2 * ls.length) (cellsL ls) ∧ ls.length ≤ c ∧ c ≤ maxLen
def BlV (v : Value) (k : Nat) : Prop := ∃ ad n c, v = .slice (some ad) n c ∧ k = ad.block
theorem LV.kept {w w' : World} {v : Value} {ls : List Lk} (h : LV w v ls) (hb : ∀ k, BlV v k → w'.heap[k]? = w.heap[k]?) : LV w' v ls := by
  obtain ⟨A, c, rfl, h2, h3⟩ := h.ex
  refine ⟨A, c, rfl, ⟨h2.len, h2.one, fun h0 => ?_⟩, h3⟩
  obtain ⟨g, o, rfl, hc⟩ := h2.cell h0
  refine ⟨g, o, rfl, fun j u hj => ?_⟩
  have := hc j u hj
  unfold World.cell? at this ⊢
  rw [hb g ⟨_, _, _, rfl, rfl⟩]
  exact this
structure KpOk (w : World) (k : KpR) : Prop where
  lv : LV w k.val k.wrote
  lt : ∀ g, BlV k.val g → g < w.heap.size
  len : k.wrote.length ≤ 4096
  ord : k.wrote.Pairwise (lessB · · = true)
  r : 0 ≤ k.upto ∧ k.upto ≤ 1000000000000000000
abbrev MF := World → (Nat → Prop) → Nat → Nat → List Nt → Prop
structure Mem10 (M : MF) (w : World) (b ab kb fb lm lr rr : Nat) (GR : Nat → Prop) (c : Cp10) (P : Pg) : Prop where
  blk : w.heap[b]? = some (.cells #[.int .i64 c.act, .int .i64 c.kept, .int .i64 (c.reads : Nat), .int .i64 c.locks, .int .i64 P.now, .int .i64 P.begun, .map (some ab), .map (some kb), .map (some fb), .pointer (some ⟨lm, 0, none⟩), .pointer (some ⟨rr, 0, none⟩)] 92 (0, 0))
  act : MapM KI w ab (actM P.act)
  kep : MapM KI w kb (kepM P.kep)
  flg : MapM KI w fb (flgM P.flg)
  lok : MG w lm lr c.locks P.H
  rds : M w GR rr c.reads P.L
  row : ∀ p ∈ P.kep, KpOk w p.2
  nod : [b, ab, kb, fb, lm, lr].Nodup
  ngr : ∀ k ∈ [b, ab, kb, fb, lm, lr], ¬ GR k
  nrow : ∀ p ∈ P.kep, ∀ g, BlV p.2.val g → g ∉ [b, ab, kb, fb, lr] ∧ ¬ GR g
structure PgOk (c : Cp10) (P : Pg) : Prop where
  ca : 1 ≤ c.act ∧ c.act ≤ 64
  ck : 0 ≤ c.kept ∧ c.kept ≤ 1024
  na : (P.act.length : Int) ≤ c.act
  nk : (P.kep.length : Int) ≤ c.kept
  nf : P.flg.length ≤ 100000
  bg : 0 ≤ P.begun ∧ P.begun ≤ 1000000000000000000
  nw : 0 ≤ P.now ∧ P.now ≤ 2000000000000000000
  ax : ∀ p ∈ P.act, 1 ≤ p.1 ∧ p.1 ≤ P.begun ∧ 0 ≤ p.2 ∧ p.2 ≤ P.now
  kx : ∀ p ∈ P.kep, 1 ≤ p.1 ∧ p.1 ≤ P.begun
  fx : ∀ p ∈ P.flg, 1 ≤ p.1 ∧ p.1 ≤ P.begun
def BlG (b ab kb fb lr : Nat) (GR : Nat → Prop) (k : Nat) : Prop := k ∈ [b, ab, kb, fb, lr] ∨ GR k
def BlK (lm : Nat) (P : Pg) (k : Nat) : Prop := k = lm ∨ ∃ p ∈ P.kep, BlV p.2.val k
section
variable {M : MF} {w w' : World} {b ab kb fb lm lr rr : Nat} {GR : Nat → Prop} {c : Cp10} {P : Pg}
theorem Mem10.onceA (h : Mem10 M w b ab kb fb lm lr rr GR c P) : OnceA P.act ∧ OnceA P.kep ∧ OnceA P.flg := ⟨(enc_once _).1 h.act.once, (enc_once _).1 h.kep.once, (enc_once _).1 h.flg.once⟩
theorem Mem10.cells (h : Mem10 M w b ab kb fb lm lr rr GR c P) : w.cell? ⟨b, 0, none⟩ = some (.int .i64 c.act) ∧ w.cell? ⟨b, 1, none⟩ = some (.int .i64 c.kept) ∧ w.cell? ⟨b, 2, none⟩ = some (.int .i64 (c.reads : Nat)) ∧ w.cell? ⟨b, 3, none⟩ = some (.int .i64 c.locks) ∧ w.cell? ⟨b, 4, none⟩ = some (.int .i64 P.now) ∧ w.cell? ⟨b, 5, none⟩ = some (.int .i64 P.begun) ∧ w.cell? ⟨b, 6, none⟩ = some (.map (some ab)) ∧ w.cell? ⟨b, 7, none⟩ = some (.map (some kb)) ∧ w.cell? ⟨b, 8, none⟩ = some (.map (some fb)) ∧ w.cell? ⟨b, 9, none⟩ = some (.pointer (some ⟨lm, 0, none⟩)) ∧ w.cell? ⟨b, 10, none⟩ = some (.pointer (some ⟨rr, 0, none⟩)) :=
  ⟨cell_of_row _ _ 0 _ _ _ h.blk, cell_of_row _ _ 1 _ _ _ h.blk, cell_of_row _ _ 2 _ _ _ h.blk, cell_of_row _ _ 3 _ _ _ h.blk, cell_of_row _ _ 4 _ _ _ h.blk, cell_of_row _ _ 5 _ _ _ h.blk, cell_of_row _ _ 6 _ _ _ h.blk, cell_of_row _ _ 7 _ _ _ h.blk, cell_of_row _ _ 8 _ _ _ h.blk, cell_of_row _ _ 9 _ _ _ h.blk, cell_of_row _ _ 10 _ _ _ h.blk⟩
theorem Mem10.lt (I : Api9 M) (h : Mem10 M w b ab kb fb lm lr rr GR c P) : (∀ k, BlG b ab kb fb lr GR k → k < w.heap.size) ∧ ∀ k, BlK lm P k → k < w.heap.size := by
  refine ⟨?_, ?_⟩
  · rintro k (hk | hk)
    · simp only [List.mem_cons, List.not_mem_nil, or_false] at hk
      rcases hk with rfl | rfl | rfl | rfl | rfl
      · exact (Array.getElem?_eq_some_iff.1 h.blk).1
      · exact h.act.lt
      · exact h.kep.lt
      · exact h.flg.lt
      · exact h.lok.map.lt
    · exact I.lt h.rds k hk
  · rintro k (rfl | ⟨p, hp, hk⟩)
    · exact (Array.getElem?_eq_some_iff.1 h.lok.blk).1
    · exact (h.row p hp).lt k hk
theorem MG.kept {w w' : World} {m r : Nat} {most : Int} {hs : List Hd} (h : MG w m r most hs) (h1 : w'.heap[m]? = w.heap[m]?) (h2 : w'.heap[r]? = w.heap[r]?) : MG w' m r most hs :=
  ⟨h1.trans h.blk, h.map.block h2, h.m1, h.m2, h.len⟩
theorem KpOk.kept {k : KpR} (h : KpOk w k) (hb : ∀ g, BlV k.val g → w'.heap[g]? = w.heap[g]?) (hs : w.heap.size ≤ w'.heap.size) : KpOk w' k := ⟨h.lv.kept hb, fun g hg => Nat.lt_of_lt_of_le (h.lt g hg) hs, h.len, h.ord, h.r⟩
theorem Mem10.stays (I : Api9 M) (h : Mem10 M w b ab kb fb lm lr rr GR c P) {F : Nat → Prop} (o : Out F w w') (hF : ∀ k, F k → ¬ BlG b ab kb fb lr GR k ∧ ¬ BlK lm P k) : Mem10 M w' b ab kb fb lm lr rr GR c P := by
  obtain ⟨l1, l2⟩ := h.lt I
  have kg : ∀ k, BlG b ab kb fb lr GR k → w'.heap[k]? = w.heap[k]? := fun k hk => o.block k (l1 k hk) fun hf => (hF k hf).1 hk
  have kk : ∀ k, BlK lm P k → w'.heap[k]? = w.heap[k]? := fun k hk => o.block k (l2 k hk) fun hf => (hF k hf).2 hk
  refine ⟨(kg b (.inl (by simp))).trans h.blk, h.act.block (kg ab (.inl (by simp))), h.kep.block (kg kb (.inl (by simp))), h.flg.block (kg fb (.inl (by simp))), h.lok.kept (kk lm (.inl rfl)) (kg lr (.inl (by simp))), I.stays h.rds (o.mono fun k _ hf hg => (hF k hf).1 (.inr hg)), fun p hp => (h.row p hp).kept (fun g hg => kk g (.inr ⟨p, hp, hg⟩)) o.size, h.nod, h.ngr, h.nrow⟩
theorem Mem10.below (I : Api9 M) (h : Mem10 M w b ab kb fb lm lr rr GR c P) (g : Below w.heap.size w w') : Mem10 M w' b ab kb fb lm lr rr GR c P := h.stays I (Out.of_below g (fun _ => False)) fun _ hf => hf.elim
theorem Mem10.notes (h : Mem10 M w b ab kb fb lm lr rr GR c P) (I : Api9 M) {GR' : Nat → Prop} {L' : List Nt} (hm : M w' GR' rr c.reads L') (hG : ∀ k, GR' k → GR k ∨ w.heap.size ≤ k) (o : Out GR w w') : Mem10 M w' b ab kb fb lm lr rr GR' c { P with L := L' } := by
  obtain ⟨l1, l2⟩ := h.lt I
  have k1 : ∀ k ∈ [b, ab, kb, fb, lm, lr], w'.heap[k]? = w.heap[k]? := fun k hk => o.block k (by
    simp only [List.mem_cons, List.not_mem_nil, or_false] at hk
    rcases hk with rfl | rfl | rfl | rfl | rfl | rfl
    · exact l1 _ (.inl (by simp))
    · exact l1 _ (.inl (by simp))
    · exact l1 _ (.inl (by simp))
    · exact l1 _ (.inl (by simp))
    · exact l2 _ (.inl rfl)
    · exact l1 _ (.inl (by simp))) (h.ngr k hk)
  refine ⟨(k1 b (by simp)).trans h.blk, h.act.block (k1 ab (by simp)), h.kep.block (k1 kb (by simp)), h.flg.block (k1 fb (by simp)), h.lok.kept (k1 lm (by simp)) (k1 lr (by simp)), hm, fun p hp => (h.row p hp).kept (fun g hg => o.block g ((h.row p hp).lt g hg) (h.nrow p hp g hg).2) o.size, h.nod, fun k hk hg => ?_, fun p hp g hg => ⟨(h.nrow p hp g hg).1, fun hr => ?_⟩⟩
  · rcases hG k hg with h1 | h1
    · exact h.ngr k hk h1
    · have : k < w.heap.size := by
        simp only [List.mem_cons, List.not_mem_nil, or_false] at hk
        rcases hk with rfl | rfl | rfl | rfl | rfl | rfl
        · exact l1 _ (.inl (by simp))
        · exact l1 _ (.inl (by simp))
        · exact l1 _ (.inl (by simp))
        · exact l1 _ (.inl (by simp))
        · exact l2 _ (.inl rfl)
        · exact l1 _ (.inl (by simp))
      omega
  · rcases hG g hr with h1 | h1
    · exact (h.nrow p hp g hg).2 h1
    · have := (h.row p hp).lt g hg
      omega
end
end Go.Proofs.YtknppiebncdjmaaGreat
