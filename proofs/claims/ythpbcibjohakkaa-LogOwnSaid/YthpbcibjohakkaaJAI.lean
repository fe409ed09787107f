import Derived.Test.YthpbcibjohakkaaJAH
/- The call of Pending. -/
namespace Go.Proofs.Ythpbcibjohakkaa
set_option maxRecDepth 100000
open Go.RowKit

def pc (x : Value × Value) : List Value := [x.1, x.2]
theorem pc_len (x : Value × Value) : (pc x).length = 2 := rfl
def pz : Value × Value := (.int .i64 0, .slice none 0 0)
theorem dlist' (zs : List Int) (w : World) (hl : zs.length = 64) :
    Calls Try.prog 72 #[.agg (bc zs).toArray] w fun e w' => e = .returned (.slice (some ⟨w.heap.size, 0, none⟩) 64 64) ∧ ByteBlk w' w.heap.size 70 zs ∧ Below w.heap.size w w' ∧ w.heap.size < w'.heap.size := by
  refine (dlist (bc zs) w (by rw [bc_len, hl])).mono ?_
  rintro e w' ⟨rfl, rfl⟩
  exact ⟨rfl, heap_alloc_new _ _, (Below.refl _ _).alloc (Nat.le_refl _) _, by simp⟩

theorem keep2 {w : World} {B g : Nat} {v : Value} {cs : List Value} {o : Nat} (h : w.cell? ⟨B, 0, none⟩ = some v ∧ w.rangeAt B o cs) (hg : g ≠ B) (j : Nat) (u1 u2 : Value) :
    ((w.setCell ⟨g, j, none⟩ u1).setCell ⟨g, j + 1, none⟩ u2).cell? ⟨B, 0, none⟩ = some v ∧ ((w.setCell ⟨g, j, none⟩ u1).setCell ⟨g, j + 1, none⟩ u2).rangeAt B o cs := by
  refine ⟨?_, fun i x hx => ?_⟩
  · rw [World.cell?_setCell_far _ _ _ _ (by simpa using hg), World.cell?_setCell_far _ _ _ _ (by simpa using hg)]; exact h.1
  · rw [World.cell?_setCell_far _ _ _ _ (by simpa using hg), World.cell?_setCell_far _ _ _ _ (by simpa using hg)]; exact h.2 i x hx

end Go.Proofs.Ythpbcibjohakkaa

/- The call of Image. -/
namespace Go.Proofs.Ythpbcibjohakkaa
set_option maxRecDepth 100000
open Go.RowKit

/-- The value v is a slice of numbers that the call made. -/
def OI (base : Nat) (w : World) (v : Value) (zs : List Int) : Prop := w.ownsRow base 3 1 v zs.length (zs.map (Value.int .i64))
theorem OI.stays {base : Nat} {w w' : World} {v : Value} {zs : List Int} (h : OI base w v zs) (hk : ∀ k, v.ownBlock = some k → w'.heap[k]? = w.heap[k]?) : OI base w' v zs := own_stays h hk
theorem OB.stays {base : Nat} {w w' : World} {v : Value} {zs : List Int} (h : OB base w v zs) (hk : ∀ k, v.ownBlock = some k → w'.heap[k]? = w.heap[k]?) : OB base w' v zs := ⟨own_stays h.own hk, h.byte⟩

theorem ob_append_far {w : World} {ops : Array Oper} {rest : List Oper} {o : Oper} {a : Act} {Q : Exit → Act → World → Prop} (hgd : o.guard = none) (s x : Operand)
    (ho : o.op = .call { callee := .builtin .append, args := #[s, x], argTypes := #[33, 33] })
    (base : Nat) (v : Value) (zs : List Int) (hs : a.eval s = v) (hown : OB base w v zs) (A : Option Addr) (m c : Nat) (ys : List Int) (hx : a.eval x = .slice A m c) (hr : RB w A m ys) (hm : 0 < m)
    (hsz : zs.length + m ≤ 140737488355328) (hbase : base ≤ w.heap.size)
    (h : ∀ g cap w', OB base w' (.slice (some ⟨g, 0, none⟩) (zs ++ ys).length cap) (zs ++ ys) → w.grownBy w' v.ownBlock → (v.ownBlock = some g ∨ g = w.heap.size) → wpList Try.prog ops Q rest (a.put o.dst (.slice (some ⟨g, 0, none⟩) (zs ++ ys).length cap)) w') : wpList Try.prog ops Q (o :: rest) a w := by
  obtain ⟨i0, hi, hz0, hz1, hz2⟩ := info_parts info_u8
  have hlen := hr.len
  obtain ⟨ad, rfl, -⟩ := hr.cell hm
  refine wpList_append_far w hgd s x 33 ho base 5 i0 (.int .u8 0) 1 1 Try.underlying33 hi hz0 hz1 hz2 rfl (by decide) v zs.length _ hs hown.own ad m c (ys.map (Value.int .u8)) hx (by simpa using hlen) ?_ (bytes_oneCell ys) hm (by simp only [maxLen]; omega) (by omega) hbase ?_
  · intro j u hu
    have hj : j < ys.length := by
      rcases Nat.lt_or_ge j ys.length with h1 | h1
      · exact h1
      · rw [List.getElem?_eq_none (by simpa using h1)] at hu; cases hu
    obtain ⟨ad', e, hc⟩ := hr.at_ (k := j) (by omega)
    injection e with e
    subst e
    rw [hc]
    simpa [List.getD_eq_getElem?_getD, List.getElem?_eq_getElem hj] using hu
  · intro g cap w' h1 h2 h3
    have e : (zs ++ ys).length = zs.length + m := by rw [List.length_append, hlen]
    rw [e] at h
    refine h g cap w' ⟨?_, ?_⟩ h2 h3
    · rw [List.length_append, List.map_append, hlen]; exact h1
    · intro z hz
      rcases List.mem_append.1 hz with hz | hz
      · exact hown.byte z hz
      · exact hr.byte z hz
theorem oi_append {w : World} {ops : Array Oper} {rest : List Oper} {o : Oper} {a : Act} {Q : Exit → Act → World → Prop} (hgd : o.guard = none) (s x : Operand)
    (ho : o.op = .call { callee := .builtin .append, args := #[s, x], argTypes := #[34, 34] })
    (base : Nat) (v : Value) (zs : List Int) (hs : a.eval s = v) (hown : OI base w v zs) (B c : Nat) (y : Int) (hx : a.eval x = .slice (some ⟨B, 0, none⟩) 1 c) (hc : w.cell? ⟨B, 0, none⟩ = some (.int .i64 y))
    (hsz : zs.length ≤ 4398046511104) (hbase : base ≤ w.heap.size)
    (h : ∀ g cap w', OI base w' (.slice (some ⟨g, 0, none⟩) (zs ++ [y]).length cap) (zs ++ [y]) → w.grownBy w' v.ownBlock → (v.ownBlock = some g ∨ g = w.heap.size) → wpList Try.prog ops Q rest (a.put o.dst (.slice (some ⟨g, 0, none⟩) (zs ++ [y]).length cap)) w') : wpList Try.prog ops Q (o :: rest) a w := by
  obtain ⟨i0, hi, hz0, hz1, hz2⟩ := info_parts info_int
  refine wpList_append_far w hgd s x 34 ho base 3 i0 (.int .i64 0) 1 8 Try.underlying34 hi hz0 hz1 hz2 rfl (by decide) v zs.length _ hs hown ⟨B, 0, none⟩ 1 c [.int .i64 y] hx rfl ?_ (by simp; rfl) (by decide) (by simp only [maxLen]; omega) (by omega) hbase ?_
  · intro j u hu
    have hj : j = 0 := by have := (List.getElem?_eq_some_iff.1 hu).1; simp at this; exact this
    subst hj
    simp at hu
    subst hu
    exact hc
  · intro g cap w' h1 h2 h3
    have e : (zs ++ [y]).length = zs.length + 1 := by simp
    rw [e] at h
    refine h g cap w' ?_ h2 h3
    unfold OI
    rw [e, List.map_append]
    exact h1

def imgB (l : List Cn) : List Int := l.flatMap (·.b)
/-- The numbers of the torn blocks among the first k. -/
def tornN (l : List Cn) : Nat → List Int
  | 0 => []
  | k + 1 => tornN l k ++ (match l[k]? with | some c => if c.t then [(k : Int)] else [] | none => [])
theorem tornN_len (l : List Cn) : ∀ k, (tornN l k).length ≤ k
  | 0 => Nat.le_refl _
  | k + 1 => by
    have := tornN_len l k
    unfold tornN
    rw [List.length_append]
    split
    · split <;> simp <;> omega
    · simp; omega
theorem tornN_true {l : List Cn} {k : Nat} {c : Cn} (hc : l[k]? = some c) (ht : c.t = true) : tornN l (k + 1) = tornN l k ++ [(k : Int)] := by
  show tornN l k ++ _ = _
  rw [hc]
  simp [ht]
theorem tornN_false {l : List Cn} {k : Nat} {c : Cn} (hc : l[k]? = some c) (ht : c.t = false) : tornN l (k + 1) = tornN l k := by
  show tornN l k ++ _ = _
  rw [hc]
  simp [ht]
theorem imgB_len (l : List Cn) (h : ∀ c ∈ l, B64 c.b) : (imgB l).length = l.length * 64 := flat_len'' l h
where flat_len'' : ∀ (l : List Cn), (∀ c ∈ l, B64 c.b) → (imgB l).length = l.length * 64
  | [], _ => rfl
  | c :: r, h => by
    have h1 := (h c (List.mem_cons_self ..)).len
    have h2 := flat_len'' r (fun y hy => h y (List.mem_cons_of_mem _ hy))
    simp only [imgB, List.flatMap_cons, List.length_append, List.length_cons, Nat.add_mul] at h2 ⊢
    omega

/-- What Image leaves. -/
def ImageIs (w : World) (l : List Cn) (e : Ending) (w' : World) : Prop :=
  ∃ v4 v5, e = .returned (.tuple #[v4, v5]) ∧ OB w.heap.size w' v4 (imgB l) ∧ OI w.heap.size w' v5 (tornN l l.length) ∧ (∀ k, v4.ownBlock = some k → v5.ownBlock ≠ some k) ∧ Below w.heap.size w w'

theorem lay80 {F : Nat → Prop} {w : World} {c : Cn} (hc : B64 c.b) :
    (storeCells ⟨w.heap.size, 0, none⟩ c.cells 0).run Try.prog (w.alloc (.cells z80 72)) = .ok () (w.alloc (.cells c.cells.toArray 72)) := by
  have := run_storeNew (P := Try.prog) w 72 z80 c.cells.toArray _ (by rfl) (by simp [Cn.len hc]; rfl) (by simp [Cn.len hc, z80_size]) (by simpa using Cn.one _)
  simpa using this

theorem rb_head {w : World} {g : Nat} {zs : List Int} {r : List Value} {t : TypeId} (hb : B64 zs) (h : w.heap[g]? = some (.cells (bc zs ++ r).toArray t (0, 0))) : RB w (some ⟨g, 0, none⟩) 64 zs :=
  ⟨hb.len, hb.byte, fun _ => ⟨_, rfl, fun j hj => by
    rw [Addr.add_mid, cell_of_row _ _ _ _ _ _ h, List.getElem?_toArray, Nat.zero_add, List.getElem?_append_left (by rw [bc_len, hb.len]; exact hj)]
    simp [bc, List.getD_eq_getElem?_getD, List.getElem?_eq_getElem (show j < zs.length by rw [hb.len]; exact hj)]⟩⟩
theorem after5 {F : Nat → Prop} {w w2 w3 : World} {d : Nat} {S : St} {nw : List Int} {vl vp vn u5 : Value} {z4 z5 : List Int} {g4 n4 cap4 g5 : Nat} {o : Obj} (h4 : OB w.heap.size w2 (.slice (some ⟨g4, 0, none⟩) n4 cap4) z4) (h5 : OI w.heap.size w2 u5 z5)
    (h45 : ∀ (n cap : Nat) j, (Value.slice (some ⟨g4, 0, none⟩) n cap).ownBlock = some j → u5.ownBlock ≠ some j) (hg : (w2.alloc o).grownBy w3 u5.ownBlock) (hat : u5.ownBlock = some g5 ∨ g5 = (w2.alloc o).heap.size)
    (hb : Below w.heap.size w w2) (hd : Dv (fun k => F k ∧ k < w.heap.size) w2 d S nw vl vp vn) :
    OB w.heap.size w3 (.slice (some ⟨g4, 0, none⟩) n4 cap4) z4 ∧ (∀ (n n' cap cap' : Nat) j, (Value.slice (some ⟨g4, 0, none⟩) n cap).ownBlock = some j → (Value.slice (some ⟨g5, 0, none⟩) n' cap').ownBlock ≠ some j) ∧ Below w.heap.size w w3 ∧ Dv (fun k => F k ∧ k < w.heap.size) w3 d S nw vl vp vn := by
  have hk : ∀ k, k < w2.heap.size → u5.ownBlock ≠ some k → w3.heap[k]? = w2.heap[k]? := fun k hk hn => (hg.block k (by simp; omega) (fun e => hn e.symm)).trans (Below.heap_alloc _ _ _ hk)
  refine ⟨h4.stays fun j e => hk j (h4.own.lt j e).2 (h45 _ _ j e), fun n n' cap cap' j e e5 => ?_, (hb.alloc hb.size o).grown hg (by simp; exact Nat.le_succ_of_le hb.size) (fun k e => (h5.lt k e).1), ?_⟩
  · have ej : g4 = j := by simpa [Value.ownBlock] using e
    have ej5 : g5 = j := by simpa [Value.ownBlock] using e5
    subst ej
    subst ej5
    rcases hat with e2 | e2
    · exact h45 0 0 _ rfl e2
    · have hlt := (h4.own.lt g5 rfl).2
      rw [World.size_alloc] at e2
      omega
  · exact hd.stays fun k hkk hf => hk k hkk (fun e => by have := (h5.lt k e).1; have := hf.2; omega)
theorem after4 {F : Nat → Prop} {w W1 w2 : World} {d B : Nat} {S : St} {nw : List Int} {vl vp vn u4 u5 : Value} {z4 z5 : List Int} {g4 : Nat} {b : Value} {o : Nat} (h4 : OB w.heap.size W1 u4 z4) (h5 : OI w.heap.size W1 u5 z5) (h45 : ∀ j, u4.ownBlock = some j → u5.ownBlock ≠ some j)
    (hg : W1.grownBy w2 u4.ownBlock) (hat : u4.ownBlock = some g4 ∨ g4 = W1.heap.size) (hB1 : B < W1.heap.size) (hb : Below w.heap.size w W1) (hd : Dv (fun k => F k ∧ k < w.heap.size) W1 d S nw vl vp vn) (hu : u4.ownBlock ≠ some B) (hc : W1.cell? ⟨B, o, none⟩ = some b) :
    w2.cell? ⟨B, o, none⟩ = some b ∧ OI w.heap.size w2 u5 z5 ∧ (∀ (n cap : Nat) j, (Value.slice (some ⟨g4, 0, none⟩) n cap).ownBlock = some j → u5.ownBlock ≠ some j) ∧ Below w.heap.size w w2 ∧ Dv (fun k => F k ∧ k < w.heap.size) w2 d S nw vl vp vn := by
  refine ⟨(World.cell?_of_block (w := W1) (a := ⟨B, o, none⟩) (hg.block B hB1 (fun e => hu e.symm))).trans hc, OI.stays h5 fun j e => hg.block j (h5.lt j e).2 (fun e2 => h45 j e2.symm e), fun n cap j e e5 => ?_, hb.grown hg hb.size (fun k e => (h4.own.lt k e).1), ?_⟩
  · have ej : g4 = j := by simpa [Value.ownBlock] using e
    subst ej
    rcases hat with e2 | e2
    · exact h45 _ e2 e5
    · have := (h5.lt _ e5).2; omega
  · exact hd.stays fun k hk hf => hg.block k hk (fun e => by have := (h4.own.lt k e.symm).1; have := hf.2; omega)

end Go.Proofs.Ythpbcibjohakkaa
