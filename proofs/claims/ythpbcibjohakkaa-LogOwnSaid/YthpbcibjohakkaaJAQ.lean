import Derived.Test.YthpbcibjohakkaaJAP
import Derived.Test.YthpbcibjohakkaaJAG
import Derived.Test.YthpbcibjohakkaaJAK
/- The reference's Plan and Sync. -/
namespace Go.Proofs.Ythpbcibjohakkaa
set_option maxRecDepth 100000
open Go.RowKit

theorem gr_gr {F : Nat → Prop} {w w1 : World} (hs : w.heap.size ≤ w1.heap.size) {k : Nat} (h : Gr (Gr F w) w1 k) : Gr F w k := by
  rcases h with h | h
  · exact h
  · exact .inr (by omega)
theorem out_gr {F : Nat → Prop} {w w1 w2 : World} (h : Out F w w1) (k : Out (Gr F w) w1 w2) : Out F w w2 :=
  h.trans k fun i hi hf => by
    rcases hf with hf | hf
    · exact hf
    · omega

theorem RWait.form {F : Nat → Prop} {w : World} {vw : Value} {l : List Wr} {p gd gt : Nat} (h : RWait F w vw l p gd gt) : ∃ A cap, vw = .slice A l.length cap := by
  by_cases hn : l = []
  · rw [h.nil_ hn, hn]; exact ⟨_, _, rfl⟩
  · obtain ⟨g, cap, e, _⟩ := h.row hn
    exact ⟨_, _, e⟩
section
variable {F : Nat → Prop} {w : World} {p : Nat} {S : St}
end
end Go.Proofs.Ythpbcibjohakkaa

/- The reference's Crash. -/
namespace Go.Proofs.Ythpbcibjohakkaa
set_option maxRecDepth 100000
open Go.RowKit

end Go.Proofs.Ythpbcibjohakkaa

/- The reference's Read. -/
namespace Go.Proofs.Ythpbcibjohakkaa
set_option maxRecDepth 100000
open Go.RowKit

/-- What the reference's Read leaves. -/
def RReadIs (w : World) (r : List Int × Int) (e : Ending) (w' : World) : Prop :=
  (r.2 ≠ 0 ∧ r.1 = [] ∧ e = .returned (.tuple #[.slice none 0 0, .int .i64 r.2]) ∧ w = w') ∨
  (r.2 = 0 ∧ ∃ cap, e = .returned (.tuple #[.slice (some ⟨w.heap.size, 0, none⟩) 64 cap, .int .i64 0]) ∧ 64 ≤ cap ∧ RB w' (some ⟨w.heap.size, 0, none⟩) 64 r.1 ∧ Below w.heap.size w w')

end Go.Proofs.Ythpbcibjohakkaa

/- The reference's Image. -/
namespace Go.Proofs.Ythpbcibjohakkaa
set_option maxRecDepth 100000
open Go.RowKit

section
variable {F : Nat → Prop} {w : World} {p : Nat} {S : St} {vs : List Value} {gd cd gt ct : Nat} {vw : Value}
end
end Go.Proofs.Ythpbcibjohakkaa

/- alikeInts and alikePending of what the program and the reference hold alike. -/
namespace Go.Proofs.Ythpbcibjohakkaa
set_option maxRecDepth 100000
open Go.RowKit

end Go.Proofs.Ythpbcibjohakkaa

/- Rows of pending writes, as the reference lays them anew. -/
namespace Go.Proofs.Ythpbcibjohakkaa
set_option maxRecDepth 100000
open Go.RowKit

theorem RWait.list {F : Nat → Prop} {w : World} {g cap : Nat} {l : List Wr} {p gd gt : Nat} (h : RWait F w (.slice (some ⟨g, 0, none⟩) l.length cap) l p gd gt) (hn : l ≠ []) :
    ∃ L : List (Value × Value), L.length = l.length ∧ (∀ j u, (L.flatMap pc)[j]? = some u → w.cell? ((⟨g, 0, none⟩ : Addr).add j) = some u) ∧ (∀ u ∈ L.flatMap pc, u.oneCell' = true) ∧
      (∀ (i : Nat) (x : Wr), l[i]? = some x → ∃ b cb, L[i]? = some (.int .i64 (x.p : Int), .slice (some ⟨b, 0, none⟩) 64 cb) ∧ 64 ≤ cb ∧ RB w (some ⟨b, 0, none⟩) 64 x.b ∧ b < w.heap.size ∧ F b ∧ b ≠ p ∧ b ≠ gd ∧ b ≠ gt) := by
  obtain ⟨g', cap', e, _, _, _, _, _, hrow⟩ := h.row hn
  injection e with e1 e2 e3
  injection e1 with e1
  injection e1 with e1
  subst e1
  have hs : ∀ y : Value × Value, (pc y).length = 2 := fun y => rfl
  let L : List (Value × Value) := (List.range l.length).map fun i => ((w.cell? ⟨g, i * 2, none⟩).getD undef, (w.cell? ⟨g, i * 2 + 1, none⟩).getD undef)
  have hL : L.length = l.length := by simp [L]
  have hat : ∀ (i : Nat) (x : Wr), l[i]? = some x → ∃ b cb, L[i]? = some (.int .i64 (x.p : Int), .slice (some ⟨b, 0, none⟩) 64 cb) ∧ w.cell? ⟨g, i * 2, none⟩ = some (.int .i64 (x.p : Int)) ∧ w.cell? ⟨g, i * 2 + 1, none⟩ = some (.slice (some ⟨b, 0, none⟩) 64 cb) ∧ 64 ≤ cb ∧ RB w (some ⟨b, 0, none⟩) 64 x.b ∧ b < w.heap.size ∧ F b ∧ b ≠ p ∧ b ≠ gd ∧ b ≠ gt := fun i x hx => by
    obtain ⟨b, cb, c1, c2, r⟩ := hrow i x hx
    have hil : i < l.length := (List.getElem?_eq_some_iff.1 hx).1
    exact ⟨b, cb, by simp [L, hil, c1, c2], c1, c2, r⟩
  refine ⟨L, hL, fun j u hu => ?_, fun u hu => ?_, fun i x hx => ?_⟩
  · have hj : j < L.length * 2 := by
      have := (List.getElem?_eq_some_iff.1 hu).1
      rwa [flat_len' (s := 2) L (fun y _ => hs y)] at this
    obtain ⟨i, r, hr, rfl⟩ : ∃ i r, r < 2 ∧ j = i * 2 + r := ⟨j / 2, j % 2, by omega, by omega⟩
    rw [flat_get L (fun y _ => hs y) i r hr] at hu
    have hil : i < l.length := by omega
    obtain ⟨x, hx⟩ : ∃ x, l[i]? = some x := ⟨_, List.getElem?_eq_getElem hil⟩
    obtain ⟨b, cb, e1, c1, c2, _⟩ := hat i x hx
    rw [e1] at hu
    rw [Addr.add_mid, Nat.zero_add]
    have : r = 0 ∨ r = 1 := by omega
    rcases this with rfl | rfl
    · simp [pc] at hu; subst hu; exact c1
    · simp [pc] at hu; subst hu; exact c2
  · obtain ⟨y, hy, hu2⟩ := List.mem_flatMap.1 hu
    obtain ⟨i, hi⟩ := List.getElem?_of_mem hy
    have hil : i < l.length := by have := (List.getElem?_eq_some_iff.1 hi).1; omega
    obtain ⟨x, hx⟩ : ∃ x, l[i]? = some x := ⟨_, List.getElem?_eq_getElem hil⟩
    obtain ⟨b, cb, e1, _⟩ := hat i x hx
    rw [hi] at e1
    cases e1
    simp [pc] at hu2
    rcases hu2 with rfl | rfl <;> rfl
  · obtain ⟨b, cb, e1, _, _, r⟩ := hat i x hx
    exact ⟨b, cb, e1, r⟩

end Go.Proofs.Ythpbcibjohakkaa

/- The reference's Write. -/
namespace Go.Proofs.Ythpbcibjohakkaa
set_option maxRecDepth 100000
open Go.RowKit

def WAt (F : Nat → Prop) (w : World) (l : List Wr) (L : List (Value × Value)) (p gd gt : Nat) : Prop :=
  ∀ (i : Nat) (x : Wr), l[i]? = some x → ∃ b cb, L[i]? = some (.int .i64 (x.p : Int), .slice (some ⟨b, 0, none⟩) 64 cb) ∧ 64 ≤ cb ∧ RB w (some ⟨b, 0, none⟩) 64 x.b ∧ b < w.heap.size ∧ F b ∧ b ≠ p ∧ b ≠ gd ∧ b ≠ gt
theorem WAt.stays {F F' : Nat → Prop} {w w' : World} {l : List Wr} {L : List (Value × Value)} {p gd gt : Nat} (h : WAt F w l L p gd gt) (hb : Below w.heap.size w w') (hF : ∀ k, F k → F' k) : WAt F' w' l L p gd gt := fun i x hx => by
  obtain ⟨b, cb, e, hc, rb, lb, fb, m⟩ := h i x hx
  exact ⟨b, cb, e, hc, rb.below' hb, Nat.lt_of_lt_of_le lb hb.size, hF b fb, m⟩

end Go.Proofs.Ythpbcibjohakkaa

/- The walk of the reference's Write. -/
namespace Go.Proofs.Ythpbcibjohakkaa
set_option maxRecDepth 100000
open Go.RowKit

end Go.Proofs.Ythpbcibjohakkaa

/- The reference's New. -/
namespace Go.Proofs.Ythpbcibjohakkaa
set_option maxRecDepth 100000
set_option maxRecDepth 100000
open Go.RowKit

/-- The rows of a disk that is being made: kd blocks, kt torn marks, none of them in block B. -/
structure NPart (w wr : World) (B kd kt : Nat) (vd vt : Value) (vs : List Value) : Prop where
  d : wr.ownsRow w.heap.size 33 1 vd kd vs
  t : wr.ownsRow w.heap.size 4 1 vt kt (List.replicate kt (.bool false))
  at_ : ∀ i, i < kd → ∃ g, vs[i]? = some (.slice (some ⟨g, 0, none⟩) 64 64) ∧ Row wr g zero64 ∧ w.heap.size ≤ g ∧ g ≠ B ∧ vd.ownBlock ≠ some g ∧ vt.ownBlock ≠ some g
  db : vd.ownBlock ≠ some B
  tb : vt.ownBlock ≠ some B
  dt : ∀ g, vd.ownBlock = some g → vt.ownBlock ≠ some g
  nd : vs.Nodup
def newCells (vd vt : Value) : Array Value := #[.bool true, .bool false, .int .i64 (-1), vd, vt, .slice none 0 0, .int .i64 0, .int .i64 0]
section
variable {w wr w' : World} {B kd kt : Nat} {vd vt : Value} {vs : List Value}
theorem NPart.stays (h : NPart w wr B kd kt vd vt vs) (hk : ∀ k, w.heap.size ≤ k → k < wr.heap.size → k ≠ B → w'.heap[k]? = wr.heap[k]?) : NPart w w' B kd kt vd vt vs :=
  ⟨own_stays h.d fun k e => hk k (h.d.lt k e).1 (h.d.lt k e).2 (fun e2 => h.db (e2 ▸ e)), own_stays h.t fun k e => hk k (h.t.lt k e).1 (h.t.lt k e).2 (fun e2 => h.tb (e2 ▸ e)),
    fun i hi => by
      obtain ⟨g, e, r, m⟩ := h.at_ i hi
      exact ⟨g, e, r.keep (hk g m.1 r.lt m.2.1), m⟩, h.db, h.tb, h.dt, h.nd⟩
end

/-- What the reference's New leaves. -/
def RNewIs (w : World) (n : Int) (e : Ending) (w' : World) : Prop :=
  (¬ (1 ≤ n ∧ n ≤ 16384) ∧ e = .returned (.tuple #[.agg #[.bool false, .bool false, .int .i64 0, .slice none 0 0, .slice none 0 0, .slice none 0 0, .int .i64 0, .int .i64 0], .int .i64 1]) ∧ Below w.heap.size w w') ∨
  ((1 ≤ n ∧ n ≤ 16384) ∧ ∃ B vd vt vs, e = .returned (.tuple #[.agg (newCells vd vt), .int .i64 0]) ∧ NPart w w' B n.toNat n.toNat vd vt vs ∧ Below w.heap.size w w')

theorem infoB : (Try.prog.info? 4).map (fun i => (i.zero, i.size, i.bytes)) = some (some (.bool false), 1, 1) := by kernel_rfl

/-- append of one slice of bytes onto an own row of such, at a step of a region that draws its order. -/
theorem step_app_sl {w : World} {ops : Array Oper} {o : Oper} {a : Act} {K : Act → World → Prop} {Q : Exit → Act → World → Prop} {E : Prop} (hgd : o.guard = none) (s x : Operand)
    (ho : o.op = .call { callee := .builtin .append, args := #[s, x], argTypes := #[25, 25] }) (base : Nat) (v : Value) (n : Nat) (xs : List Value) (hs : a.eval s = v) (own : w.ownsRow base 33 1 v n xs)
    (B c : Nat) (u : Value) (hx : a.eval x = .slice (some ⟨B, 0, none⟩) 1 c) (hb : w.heap[B]? = some (.cells #[u] 33 (0, 0))) (hu : u.oneCell' = true) (hn : n ≤ 4398046511104) (hbase : base ≤ w.heap.size)
    (h : ∀ g cap w', w'.ownsRow base 33 1 (.slice (some ⟨g, 0, none⟩) (n + 1) cap) (n + 1) (xs ++ [u]) → w.grownBy w' v.ownBlock → (v.ownBlock = some g ∨ g = w.heap.size) → K (a.put o.dst (.slice (some ⟨g, 0, none⟩) (n + 1) cap)) w') :
    if Region.wanted o (yielded ops a.tmps) = true then Oper.wp Try.prog o a w K Q else E := by
  obtain ⟨i0, hi, hz0, hz1, hz2⟩ := info_parts infoSl
  exact step_append_far w hgd s x 25 ho base 33 i0 _ 1 24 Try.underlying25 hi hz0 hz1 hz2 (by rfl) (by decide) v n xs hs own ⟨B, 0, none⟩ 1 c [u] hx rfl
    (World.news_of_block (cs := #[u]) hb) (by simpa using hu) (by decide) (by simp only [maxLen]; omega) (by omega) hbase h
theorem NPart.base {w w0 wr : World} {B kd kt : Nat} {vd vt : Value} {vs : List Value} (h : NPart w wr B kd kt vd vt vs) (hb : w0.heap.size ≤ w.heap.size) : NPart w0 wr B kd kt vd vt vs :=
  ⟨own_base h.d fun k e => Nat.le_trans hb (h.d.lt k e).1, own_base h.t fun k e => Nat.le_trans hb (h.t.lt k e).1, fun i hi => by
    obtain ⟨g, e, r, m, m2⟩ := h.at_ i hi
    exact ⟨g, e, r, Nat.le_trans hb m, m2⟩, h.db, h.tb, h.dt, h.nd⟩

def z8 : Array Value := #[.bool false, .bool false, .int .i64 0, .slice none 0 0, .slice none 0 0, .slice none 0 0, .int .i64 0, .int .i64 0]
end Go.Proofs.Ythpbcibjohakkaa

/- What stays lasting: in plain lists. -/
namespace Go.Proofs.Ythpbcibjohakkaa
set_option maxRecDepth 100000
open Go.RowKit

theorem snoc_ind {α : Type} {P : List α → Prop} (h0 : P []) (h1 : ∀ l a, P l → P (l ++ [a])) (l : List α) : P l := by
  have : ∀ k, P (l.take k) := by
    intro k
    induction k with
    | zero => simpa using h0
    | succ k ih =>
      rw [List.take_add_one]
      cases l[k]? with
      | none => simpa using ih
      | some a => exact h1 _ a ih
  have h := this l.length
  rwa [List.take_length] at h

theorem layAll_other (n : Nat) : ∀ (xs : List Wr) (ks : List Int) (l : List Cn), (∀ x ∈ xs, x.p ≠ n) → (layAll l xs ks)[n]? = l[n]?
  | [], ks, l, _ => by cases ks <;> rfl
  | x :: xs, [], l, _ => rfl
  | x :: xs, k :: ks, l, h => by
    rw [layAll, layAll_other n xs ks _ (fun y hy => h y (List.mem_cons_of_mem _ hy))]
    have hx := h x (List.mem_cons_self ..)
    unfold settleL
    split
    · rw [List.getElem?_set_ne hx]
    · split
      · rw [List.getElem?_set_ne hx]
      · rfl
def nones (b : Nat) : List (Option (List Int)) := List.replicate b none
theorem wr_none (b : Nat) (os : List OpD) : ∀ x ∈ wrPend [] b os, (wrLast (nones b) b os)[x.p]? ≠ some none := by
  refine snoc_ind (P := fun os => ∀ x ∈ wrPend [] b os, (wrLast (nones b) b os)[x.p]? ≠ some none) ?_ ?_ os
  · intro x hx; simp [wrPend] at hx
  · intro os o ih x hx
    rw [wrPend_snoc] at hx
    rw [wrLast_snoc]
    split at hx
    · rename_i hok
      rw [if_pos hok]
      rcases List.mem_append.1 hx with hx | hx
      · rw [List.getElem?_set]
        split
        · split <;> simp
        · exact ih x hx
      · simp at hx
        subst hx
        rw [List.getElem?_set]
        simp
    · rename_i hok
      rw [if_neg hok]
      exact ih x hx
theorem wr_last (b : Nat) (os : List OpD) (n : Nat) (hn : n < b) : ∃ o, (wrLast (nones b) b os)[n]? = some o ∧ (layAll (newL b) (wrPend [] b os) (ones (wrPend [] b os).length))[n]? = some ⟨o.getD zero64, false⟩ := by
  refine snoc_ind (P := fun os => ∃ o, (wrLast (nones b) b os)[n]? = some o ∧ (layAll (newL b) (wrPend [] b os) (ones (wrPend [] b os).length))[n]? = some ⟨o.getD zero64, false⟩) ?_ ?_ os
  · exact ⟨none, by simp [wrLast, nones, hn], by simp [wrPend, layAll, newL, hn, ones]⟩
  · intro os o ih
    obtain ⟨q, h1, h2⟩ := ih
    rw [wrPend_snoc, wrLast_snoc]
    by_cases hok : o.ok b
    · rw [if_pos hok, if_pos hok]
      have hlen : (layAll (newL b) (wrPend [] b os) (ones (wrPend [] b os).length)).length = b := by rw [layAll_len]; simp [newL]
      have hll : (wrLast (nones b) b os).length = b := by rw [wrLast_len]; simp [nones]
      have e1 : (wrPend [] b os ++ [(⟨o.n.toNat, o.z1⟩ : Wr)]).length = (wrPend [] b os).length + 1 := by simp
      rw [e1, ones_succ, layAll_snoc _ _ _ _ _ (by simp [ones])]
      unfold settleL
      rw [if_pos rfl]
      by_cases e : o.n.toNat = n
      · refine ⟨some o.z1, ?_, ?_⟩
        · rw [List.getElem?_set, if_pos e, if_pos (by omega)]
        · rw [List.getElem?_set, if_pos e, if_pos (by show o.n.toNat < _; omega)]; rfl
      · exact ⟨q, by rw [List.getElem?_set_ne e]; exact h1, by rw [List.getElem?_set_ne e]; exact h2⟩
    · rw [if_neg hok, if_neg hok]
      exact ⟨q, h1, h2⟩
theorem read_clean {S : St} {n : Nat} {c : Cn} (ho : S.off = false) (hp : S.pend = []) (hc : S.last[n]? = some c) (ht : c.t = false) : readB S (n : Int) = (c.b, 0) := by
  have hn : n < S.last.length := (List.getElem?_eq_some_iff.1 hc).1
  have hcc := (List.getElem?_eq_some_iff.1 hc).2
  unfold readB
  rw [ho, hp]
  simp [hn, lastW, hcc, ht]
theorem read_any {w : World} {d : Value} {n : Value} {r : List Int × Int} (h : Calls Try.prog 62 #[d, n] w (ReadIs w r)) :
    Calls Try.prog 62 #[d, n] w fun e w' => ∃ v c, e = .returned (.tuple #[v, .int .i64 c]) ∧ Below w.heap.size w w' := h.mono (by
  rintro e w' (⟨_, _, h1, h2⟩ | ⟨_, _, h1, h2⟩)
  · exact ⟨_, _, h1, by rw [← h2]; exact Below.refl _ _⟩
  · exact ⟨_, _, h1, by rw [h2]; exact (Below.refl _ _).alloc (Nat.le_refl _) _⟩)
theorem nil_is (w : World) : (binOp .eql 33 (.slice none 0 0) (.slice none 0 0)).run Try.prog w = .ok (.bool true) w := by
  simp only [binOp]
  simp [run_equal_slice_nil w 33 _ none 0 0 Try.underlying33]
theorem nil_isnt (w : World) (a : Addr) (l c : Nat) : (binOp .eql 33 (.slice (some a) l c) (.slice none 0 0)).run Try.prog w = .ok (.bool false) w := by
  simp only [binOp]
  simp [run_equal_slice_nil w 33 _ (some a) l c Try.underlying33]
end Go.Proofs.Ythpbcibjohakkaa

/- The walk of DiskLasts: true whatever comes in. -/
namespace Go.Proofs.Ythpbcibjohakkaa
set_option maxRecDepth 100000
open Go.RowKit

/-- Where a law stands: the disk d holds S, its memory is the law's own. -/
structure LM (w wr : World) (d : Nat) (S : St) (F : Nat → Prop) : Prop where
  pd : PD F wr d S
  fs : ∀ j, F j → w.heap.size ≤ j ∧ j < wr.heap.size
  b : Below w.heap.size w wr
theorem LM.below {w wr wr' : World} {d : Nat} {S : St} {F : Nat → Prop} (h : LM w wr d S F) (hb : Below wr.heap.size wr wr') : LM w wr' d S F :=
  ⟨h.pd.below hb, fun j hj => ⟨(h.fs j hj).1, Nat.lt_of_lt_of_le (h.fs j hj).2 hb.size⟩, h.b.trans (hb.mono h.b.size)⟩
theorem LM.step {w wr wr' : World} {d : Nat} {S S' : St} {F : Nat → Prop} (h : LM w wr d S F) (hp : PD (Gr F wr) wr' d S') (ho : Out F wr wr') : LM w wr' d S' (fun j => Gr F wr j ∧ j < wr'.heap.size) :=
  ⟨hp.shut, fun j hj => ⟨by rcases hj.1 with h1 | h1; exact (h.fs j h1).1; exact Nat.le_trans h.b.size h1, hj.2⟩, h.b.trans (ho.below h.b.size (fun i hi hf => by have := (h.fs i hf).1; omega))⟩
theorem LM.drew {w wr : World} {d : Nat} {S : St} {F : Nat → Prop} (h : LM w wr d S F) : LM w wr.drew d S F := ⟨h.pd.drew, h.fs, h.b.drew⟩

theorem sync_free {S : St} (h1 : S.off = false) (h2 : S.plan = -1) : syncS S = ⟨layAll S.last S.pend (ones S.pend.length), [], false, -1, S.writes, wrap64 (S.syncs + 1)⟩ ∧ syncE S = 0 := by
  unfold syncS syncE spendS spendE
  simp [h1, h2]

end Go.Proofs.Ythpbcibjohakkaa
