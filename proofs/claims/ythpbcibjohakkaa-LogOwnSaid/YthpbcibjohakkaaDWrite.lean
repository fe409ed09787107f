/- The call of Write. -/
import Derived.Test.YthpbcibjohakkaaJAE
import Derived.Laws.Cover3
namespace Go.Proofs.Ythpbcibjohakkaa
set_option maxRecDepth 100000
open Go.RowKit

def writeS (S : St) (n : Int) (zs : List Int) : St :=
  if S.off then S else if ¬ (0 ≤ n ∧ n < (S.last.length : Int)) then S else if zs.length ≠ 64 then S else if S.plan = 0 then spendS S
  else { spendS S with pend := S.pend ++ [⟨n.toNat, zs⟩], writes := wrap64 (S.writes + 1) }
def writeE (S : St) (n : Int) (m : Nat) : Int :=
  if S.off then 22 else if ¬ (0 ≤ n ∧ n < (S.last.length : Int)) then 20 else if m ≠ 64 then 21 else spendE S

theorem nwok_write {S S' : St} {nw : List Int} (h : NwOk S nw) (hnl : nw.length = S.last.length) (hl : S'.last.length = S.last.length) (n : Nat) (zs : List Int) (hp : S'.pend = S.pend ++ [⟨n, zs⟩]) (hn : n < S.last.length) :
    NwOk S' (nw.set n ((S.pend.length : Int) + 1)) := fun k hk => by
  rw [hl] at hk
  rw [hp]
  by_cases e : n = k
  · subst e
    right
    refine ⟨S.pend.length, ⟨n, zs⟩, ?_, by simp, rfl, fun i y hi hy => ?_⟩
    · simp [List.getD_eq_getElem?_getD, List.getElem?_set, show n < nw.length by omega]
    · rw [List.getElem?_eq_none (by simp; omega)] at hy; cases hy
  · have hg : (nw.set n ((S.pend.length : Int) + 1)).getD k 0 = nw.getD k 0 := by simp [List.getD_eq_getElem?_getD, List.getElem?_set, e]
    rw [hg]
    rcases h k hk with ⟨h1, h2⟩ | ⟨j, x, h1, h2, h3, h4⟩
    · left
      refine ⟨h1, fun x hx => ?_⟩
      rcases List.mem_append.1 hx with hx | hx
      · exact h2 x hx
      · simp at hx; subst hx; exact e
    · right
      have hjl : j < S.pend.length := (List.getElem?_eq_some_iff.1 h2).1
      refine ⟨j, x, h1, by rw [List.getElem?_append_left hjl]; exact h2, h3, fun i y hi hy => ?_⟩
      by_cases hil : i < S.pend.length
      · rw [List.getElem?_append_left hil] at hy; exact h4 i y hi hy
      · rw [List.getElem?_append_right (by omega)] at hy
        have : i - S.pend.length = 0 := by
          rcases Nat.eq_zero_or_pos (i - S.pend.length) with h0 | h0
          · exact h0
          · rw [List.getElem?_eq_none (by simp; omega)] at hy; cases hy
        rw [this] at hy
        simp at hy; subst hy; exact e

/-- The same at a step of a region that draws its order. -/
theorem wr_append_step {w : World} {ops : Array Oper} {o : Oper} {a : Act} {K : Act → World → Prop} {Q : Exit → Act → World → Prop} {E : Prop} (hgd : o.guard = none) (s x : Operand)
    (ho : o.op = .call { callee := .builtin .append, args := #[s, x], argTypes := #[64, 64] })
    (v : Value) (xs : List Wr) (hs : a.eval s = v) (hown : w.ownsRow 0 81 65 v xs.length (xs.flatMap Wr.cells)) (g c : Nat) (y : Wr) (hx : a.eval x = .slice (some ⟨g, 0, none⟩) 1 c) (hy : B64 y.b) (hg : w.heap[g]? = some (.cells y.cells.toArray 81 (0, 0)))
    (hm : xs.length < 2199023255552)
    (h : ∀ g' cap w', w'.ownsRow 0 81 65 (.slice (some ⟨g', 0, none⟩) (xs ++ [y]).length cap) (xs ++ [y]).length ((xs ++ [y]).flatMap Wr.cells) → w.grownBy w' v.ownBlock → (v.ownBlock = some g' ∨ g' = w.heap.size) → K (a.put o.dst (.slice (some ⟨g', 0, none⟩) (xs ++ [y]).length cap)) w') :
    if Region.wanted o (yielded ops a.tmps) = true then Oper.wp Try.prog o a w K Q else E := by
  obtain ⟨i0, hi, hz0, hz1, hz2⟩ := info_parts info83
  refine step_append_far w hgd s x 64 ho 0 81 i0 (.agg z83) 65 72 Try.underlying64 hi hz0 hz1 hz2 (by rw [show (Value.agg z83).cells = z83 from rfl, z83_size]) (by decide) v xs.length _ hs hown ⟨g, 0, none⟩ 1 c y.cells hx (by rw [Wr.len hy]) ?_ (Wr.one y) (by decide) (by simp only [maxLen]; omega) (by omega) (Nat.zero_le _) ?_
  · intro j u hu
    have hadd : (⟨g, 0, none⟩ : Addr).add j = ⟨g, j, none⟩ := by unfold Addr.add; split <;> simp_all
    rw [hadd, cell_of_row w g j _ _ _ hg]
    simpa using hu
  · intro g' cap w' h1 h2 h3
    have e : (xs ++ [y]).length = xs.length + 1 := by simp
    rw [e] at h
    refine h g' cap w' ?_ h2 h3
    rw [List.flatMap_append]
    simpa using h1

/-- One more write pending. -/
theorem Dv.push {F G : Nat → Prop} {w w6 : World} {d : Nat} {S : St} {nw : List Int} {vl vp vn : Value} (h : Dv F w d S nw vl vp vn) (hG : ∀ k, F k → G k) (hN : ∀ k, w.heap.size ≤ k → G k) (x : Wr) (hx : B64 x.b) (hp : x.p < S.last.length) {g cap : Nat}
    (hown : w6.ownsRow 0 81 65 (.slice (some ⟨g, 0, none⟩) (S.pend ++ [x]).length cap) (S.pend ++ [x]).length ((S.pend ++ [x]).flatMap Wr.cells)) (hg : w.grownBy w6 vp.ownBlock) (hat : vp.ownBlock = some g ∨ g = w.heap.size) :
    Dv G (w6.setCell ⟨d, 1, none⟩ (.slice (some ⟨g, 0, none⟩) (S.pend ++ [x]).length cap)) d { S with pend := S.pend ++ [x] } nw vl (.slice (some ⟨g, 0, none⟩) (S.pend ++ [x]).length cap) vn ∧ True := by
  have hk : ∀ k, k < w.heap.size → vp.ownBlock ≠ some k → w6.heap[k]? = w.heap[k]? := fun k hk hn => hg.block k hk (fun e => hn e.symm)
  have hs : ∀ k, k ≠ d → (w6.setCell ⟨d, 1, none⟩ (.slice (some ⟨g, 0, none⟩) (S.pend ++ [x]).length cap)).heap[k]? = w6.heap[k]? := heap_setCell_ne _ _ _ _
  have hdp : vp.ownBlock ≠ some d := fun e => (h.fp d e).2.1 rfl
  have hgd : g ≠ d := by
    rintro rfl
    rcases hat with e | e
    · exact hdp e
    · have := h.dlt; omega
  have hlg : vl.ownBlock ≠ some g := fun e => by
    rcases hat with e2 | e2
    · exact (h.fp g e2).2.2 e
    · have := (h.last.lt g e).2; omega
  have hng : vn.ownBlock ≠ some g := fun e => by
    rcases hat with e2 | e2
    · exact (h.fn g e).2.2.2 e2
    · have := (h.newest.lt g e).2; omega
  refine ⟨⟨⟨h.wf.lo, h.wf.hi, h.wf.lb, fun y hy => ?_, fun y hy => ?_, h.wf.pl⟩, ?_, ?_, ?_, ?_, by simp, hG d h.fd, fun k e => ⟨hG k (h.fl k e).1, (h.fl k e).2⟩, fun k e => ?_, fun k e => ⟨hG k (h.fn k e).1, (h.fn k e).2.1, (h.fn k e).2.2.1, fun e2 => ?_⟩⟩, trivial⟩
  · rcases List.mem_append.1 hy with hy | hy
    · exact h.wf.pb y hy
    · simp at hy; subst hy; exact hx
  · rcases List.mem_append.1 hy with hy | hy
    · exact h.wf.pp y hy
    · simp at hy; subst hy; exact hp
  · rw [blk_set ((hk d h.dlt hdp).trans h.blk)]; rfl
  · exact own_stays h.last fun k e => (hs k (h.fl k e).2).trans (hk k (h.last.lt k e).2 (fun e2 => (h.fp k e2).2.2 e))
  · exact own_stays hown fun k e => hs k (fun e2 => by simp [Value.ownBlock] at e; omega)
  · exact own_stays h.newest fun k e => (hs k (h.fn k e).2.1).trans (hk k (h.newest.lt k e).2 (h.fn k e).2.2.2)
  · have ek : g = k := by simpa [Value.ownBlock] using e
    subst ek
    refine ⟨?_, hgd, hlg⟩
    rcases hat with e2 | e2
    · exact hG g (h.fp g e2).1
    · exact hN g (by omega)
  · have ek : g = k := by simpa [Value.ownBlock] using e2
    subst ek
    exact hng e

def Wrote (F : Nat → Prop) (w : World) (d : Nat) (T : St) (nw : List Int) (n : Nat) (zs : List Int) (e : Ending) (w' : World) : Prop :=
  e = .returned (.int .i64 0) ∧ (∃ nw' vl' vp' vn', Dv (Gr F w) w' d { T with pend := T.pend ++ [⟨n, zs⟩], writes := wrap64 (T.writes + 1) } nw' vl' vp' vn' ∧ nw' = nw.set n ((T.pend.length : Int) + 1)) ∧ Out F w w'

theorem rb_range {w : World} {b o n : Nat} {zs : List Int} (h : RB w (some ⟨b, o, none⟩) n zs) : w.rangeAt b o (bc zs) := fun j v hv => by
  have hj : j < zs.length := by have := (List.getElem?_eq_some_iff.1 hv).1; rwa [bc_len] at this
  obtain ⟨ad, e, hc⟩ := h.at_ (k := j) (by rw [← h.len]; exact hj)
  cases e
  rw [Addr.add_mid] at hc
  rw [hc, ← hv]
  simp [bc, List.getD_eq_getElem?_getD, List.getElem?_eq_getElem hj]

theorem exec_load {P : Program} {o : Oper} {a : Act} {w : World} (ty : TypeId) (x : Operand) (ho : o.op = .load ty x) (b off : Nat) (hx : a.eval x = .pointer (some ⟨b, off, none⟩)) (cs : List Value) (d : TypeDesc) (hc : w.rangeAt b off cs)
    (hu : P.underlying ty = some d) (hd : d.isRow = true) (hi : (P.info? ty).map (·.size) = some cs.length) : (execOp a.eval o).run P w = .ok (.value (.agg cs.toArray)) w := by
  unfold execOp
  simp only [ho, hx, Instr.loadAt, Instr.sureAddr, Sem.run_bind, Sem.run_pure, Result.andThen_ok, run_loadVar_mid w b off ty cs d hc hu hd hi]
set_option maxHeartbeats 1000000 in
theorem dwrite64 {F : Nat → Prop} {w : World} {d : Nat} {S T : St} {nw : List Int} {vl vp : Value} {gn cn : Nat} (h : Dv F w d S nw vl vp (.slice (some ⟨gn, 0, none⟩) T.last.length cn)) (hdF : F d) (hgnF : F gn) (n : Nat) (hn : n < T.last.length) (b o c : Nat) (zs : List Int) (hz : RB w (some ⟨b, o, none⟩) 64 zs) (hb : ¬ F b) (hc : 64 ≤ c) (hm : T.pend.length < 2199023255552)
    (r : Calls Try.prog 66 #[.pointer (some ⟨d, 0, none⟩), .int .i64 (n : Int)] w fun e w' => e = .returned (.int .i64 0) ∧ w = w')
    (sp : Calls Try.prog 67 #[.pointer (some ⟨d, 0, none⟩)] w fun e w' => e = .returned (.int .i64 0) ∧ Dv F w' d T nw vl vp (.slice (some ⟨gn, 0, none⟩) T.last.length cn) ∧ Out F w w') :
    Calls Try.prog 52 #[.pointer (some ⟨d, 0, none⟩), .int .i64 (n : Int), .slice (some ⟨b, o, none⟩) 64 c] w (Wrote F w d T nw n zs) := by
  have hz83 := run_zero83
  have hs83 := z83_size
  have hne83 : ¬ z83 = #[] := fun h => by have := congrArg Array.size h; simp [z83_size] at this
  have hlen := hz.len
  have hz0 := hz.byte
  have hf83 := fold83 ⟨hlen, hz0⟩ n
  have hcl : (Wr.cells ⟨n, zs⟩).length = 65 := Wr.len ⟨hlen, hz0⟩
  have hbl : (bc zs).length = 64 := by rw [bc_len, hlen]
  go_enter Try.func52, Try.ntmps52
  go_upto_region 9 with (first
    | (go_at_call 66; refine r.mono ?_; rintro e w' ⟨rfl, rfl⟩)
    | (go_at_call 67; refine sp.mono ?_; rintro e w1 ⟨rfl, h1, o1⟩; have c1 := h1.c1; have hr1 : w1.rangeAt b o (bc zs) := rb_range (o1.rb hz (fun ad e _ => by cases e; exact hb)); have H1 := Lib.hid h1; have O1 := Lib.hid o1; clear h1 o1))
  have HI := Lib.hid (show (Try.prog.info? 70).map (·.size) = some (bc zs).length by rw [hbl]; rfl)
  have hat : ∀ w, (Instr.arrayAt 70 (.slice (some ⟨b, o, none⟩) 64 c)).run Try.prog w = .ok (.pointer (some ⟨b, o, none⟩)) w := fun w => run_arrayAt w _ _ 64 _ _ _ Try.underlying70 (Nat.le_refl _)
  obtain ⟨Sp, hSp⟩ : ∃ Sp : World → Prop, ∀ w', Sp w' ↔ w'.rangeAt b o (bc zs) := ⟨_, fun _ => Iff.rfl⟩
  have hS0 : Sp w1.drew := (hSp _).2 hr1
  have c1d : w1.drew.cell? ⟨d, 1, none⟩ = some vp := c1
  clear r sp h hz hr1 c1
  refine wp_region_noPanic ?_
  refine wp_region_held (S := Sp) (by kernel_rfl) ?_
  change wpAnyH _ _ _ _ _ _ _ _ w1.drew
  refine take_read 0 23 (.pointer (some ⟨d, 0, none⟩)) rfl rfl (by kernel_rfl) (by kernel_rfl) (by kernel_rfl) (fun _ _ _ h => h) (by rfl) hS0 (fun w' hS => by go_simp) ?_
  simp only [Act.put, List.setIfInBounds_toArray, List.set_cons_zero, List.set_cons_succ]
  refine take_read 1 24 (.pointer (some ⟨d, 0, none⟩)) rfl rfl (by kernel_rfl) (by kernel_rfl) (by kernel_rfl) (fun _ _ _ h => h) (by rfl) hS0 (fun w' hS => by go_simp) ?_
  simp only [Act.put, List.setIfInBounds_toArray, List.set_cons_zero, List.set_cons_succ]
  refine take_read 2 25 (.pointer (some ⟨d, 0, none⟩)) rfl rfl (by kernel_rfl) (by kernel_rfl) (by kernel_rfl) (fun _ _ _ h => h) (by rfl) hS0 (fun w' hS => by go_simp) ?_
  simp only [Act.put, List.setIfInBounds_toArray, List.set_cons_zero, List.set_cons_succ]
  refine take_read 3 26 (.pointer (some ⟨d, 1, none⟩)) rfl rfl (by kernel_rfl) (by kernel_rfl) (by kernel_rfl) (fun _ _ _ h => h) (by rfl) hS0 (fun w' hS => by go_simp) ?_
  simp only [Act.put, List.setIfInBounds_toArray, List.set_cons_zero, List.set_cons_succ]
  refine take_read 5 28 (.int .i64 (n : Int)) rfl rfl (by kernel_rfl) (by kernel_rfl) (by kernel_rfl) (fun _ _ _ h => h) (by rfl) hS0 (fun w' hS => by go_simp) ?_
  simp only [Act.put, List.setIfInBounds_toArray, List.set_cons_zero, List.set_cons_succ]
  refine take_read 6 29 (.slice (some ⟨b, o, none⟩) 64 c) rfl rfl (by kernel_rfl) (by kernel_rfl) (by kernel_rfl) (fun _ _ _ h => h) (by rfl) hS0 (fun w' hS => by go_simp) ?_
  simp only [Act.put, List.setIfInBounds_toArray, List.set_cons_zero, List.set_cons_succ]
  refine take_read 7 30 (.pointer (some ⟨b, o, none⟩)) rfl rfl (by kernel_rfl) (by kernel_rfl) (by kernel_rfl) (fun _ _ _ h => h) (by rfl) hS0 (fun w' hS => by go_simp) ?_
  simp only [Act.put, List.setIfInBounds_toArray, List.set_cons_zero, List.set_cons_succ]
  refine take_read 8 31 (.agg (bc zs).toArray) rfl rfl (by kernel_rfl) (by kernel_rfl) (by kernel_rfl) (fun _ _ _ h => h) (by rfl) hS0 (fun w' hS => ?_) ?_
  · exact exec_load 70 (.tmp 30) rfl b o rfl (bc zs) _ ((hSp w').1 hS) Try.underlying70 rfl HI.out
  simp only [Act.put, List.setIfInBounds_toArray, List.set_cons_zero, List.set_cons_succ]
  refine take_read 9 32 (.agg (Wr.cells ⟨n, zs⟩).toArray) rfl rfl (by kernel_rfl) (by kernel_rfl) (by kernel_rfl) (fun _ _ _ h => h) (by rfl) hS0 (fun w' hS => by go_simp) ?_
  simp only [Act.put, List.setIfInBounds_toArray, List.set_cons_zero, List.set_cons_succ]
  refine wpAnyH_ready (rs := [4, 10]) (by kernel_rfl) (by simp) ?_
  refine AllReadyH.cons rfl (fun K hK => ?_) (AllReadyH.cons rfl (fun K hK => ?_) AllReadyH.nil)
  · go_simp
    refine hK.out _ _ hS0 (fun _ => ?_)
    clear hK K
    refine take_only 10 (by kernel_rfl) rfl (fun K hK => ?_)
    refine step_buildOne rfl (.tmp 32) rfl (Wr.cells ⟨n, zs⟩) rfl hcl ?_
    change K (Act.put _ (some 33) _) _
    have H5 := Lib.hid (H1.out.drew.alloc (.cells (Wr.cells ⟨n, zs⟩).toArray 81))
    have O5 := Lib.hid (O1.out.drew.alloc (.cells (Wr.cells ⟨n, zs⟩).toArray 81))
    have hS5 : Sp (w1.drew.alloc (.cells (Wr.cells ⟨n, zs⟩).toArray 81)) := (hSp _).2 (World.rangeAt_alloc ((hSp _).1 hS0) _)
    have hg5 : (w1.drew.alloc (.cells (Wr.cells ⟨n, zs⟩).toArray 81)).heap[w1.drew.heap.size]? = some (.cells (Wr.cells ⟨n, zs⟩).toArray 81 (0, 0)) := heap_alloc_new _ _
    generalize w1.drew.alloc (.cells (Wr.cells ⟨n, zs⟩).toArray 81) = w5 at H5 O5 hS5 hg5 ⊢
    refine hK _ _ hS5 (fun _ => ?_)
    clear hK K
    simp only [Act.put, List.setIfInBounds_toArray, List.set_cons_zero, List.set_cons_succ]
    refine take_only 11 (by kernel_rfl) rfl (fun K hK => ?_)
    refine wr_append_step rfl (.tmp 27) (.tmp 33) rfl vp T.pend rfl H5.out.pend w1.drew.heap.size 1 ⟨n, zs⟩ rfl ⟨hlen, hz0⟩ hg5 hm ?_
    intro g' cap w6 hown6 hgr6 hat6
    change K (Act.put _ (some 34) _) _
    have O6 := Lib.hid (O5.out.grown hgr6 (fun k e => .inl (H5.out.fp k e).1))
    have hF6 : ∀ k, vp.ownBlock = some k → k ≠ d ∧ k ≠ b := fun k e => ⟨(H5.out.fp k e).2.1, fun e2 => hb (e2 ▸ (H5.out.fp k e).1)⟩
    have hk6 : ∀ k, k < w5.heap.size → (k = d ∨ k = b) → w6.heap[k]? = w5.heap[k]? := fun k hk hkk => hgr6.block k hk (fun e => by have := hF6 k e.symm; rcases hkk with rfl | rfl; exact this.1 rfl; exact this.2 rfl)
    have hS6 : Sp w6 := (hSp _).2 fun j v hv => by
      have s2 := (hSp _).1 hS5
      exact (World.cell?_of_block (w := w5) (hk6 b (World.block_lt_of_cell? w5 _ (s2 j v hv)) (.inr rfl))).trans (s2 j v hv)
    refine hK _ _ hS6 (fun _ => ?_)
    clear hK K
    simp only [Act.put, List.setIfInBounds_toArray, List.set_cons_zero, List.set_cons_succ]
    refine take_read 12 35 (.pointer (some ⟨d, 0, none⟩)) rfl rfl (by kernel_rfl) (by kernel_rfl) (by kernel_rfl) (fun _ _ _ h => h) (by rfl) hS6 (fun w' hS => by go_simp) ?_
    simp only [Act.put, List.setIfInBounds_toArray, List.set_cons_zero, List.set_cons_succ]
    refine take_read 13 36 (.pointer (some ⟨d, 1, none⟩)) rfl rfl (by kernel_rfl) (by kernel_rfl) (by kernel_rfl) (fun _ _ _ h => h) (by rfl) hS6 (fun w' hS => by go_simp) ?_
    simp only [Act.put, List.setIfInBounds_toArray, List.set_cons_zero, List.set_cons_succ]
    have hc6 : w6.cell? ⟨d, 1, none⟩ = some vp := (World.cell?_of_block (w := w5) (a := ⟨d, 1, none⟩) (hk6 d H5.out.dlt (.inl rfl))).trans H5.out.c1
    have hf6 : w6.frozen? ⟨d, 1, none⟩ = false := (World.frozen?_of_block (w := w5) (a := ⟨d, 1, none⟩) (hk6 d H5.out.dlt (.inl rfl))).trans (H5.out.frozen 1)
    refine take_only 14 (by kernel_rfl) rfl (fun K hK => ?_)
    go_simp
    have hdb : d ≠ b := fun e => hb (e ▸ H5.out.fd)
    have hS7 : Sp (w6.setCell ⟨d, 1, none⟩ (.slice (some ⟨g', 0, none⟩) (T.pend.length + 1) cap)) := (hSp _).2 fun j v hv => by
      rw [World.cell?_setCell_far w6 ⟨d, 1, none⟩ ⟨b, o + j, none⟩ _ hdb]
      exact (hSp _).1 hS6 j v hv
    refine hK _ _ hS7 (fun _ => ?_)
    clear hK K
    refine wpAnyH_done (by kernel_rfl) (NoPanic.normal ?_) _
    have e1 : T.pend.length + 1 = (T.pend ++ [(⟨n, zs⟩ : Wr)]).length := by simp
    rw [e1]
    obtain ⟨h7, o7⟩ := Dv.push H5.out (G := Gr F w) (fun k hk => .inl hk) (fun k hk => .inr (Nat.le_trans O5.out.size hk)) ⟨n, zs⟩ ⟨hlen, hz0⟩ hn hown6 hgr6 hat6
    have O7 := Lib.hid (O6.out.setCell (p := ⟨d, 1, none⟩) (.inl H5.out.fd) (.slice (some ⟨g', 0, none⟩) (T.pend ++ [(⟨n, zs⟩ : Wr)]).length cap))
    clear hS7 hS6 hS5 hg5 hS0 c1d hat HI hc6 hf6 hF6 hk6 hown6 hgr6 hat6 hdb hf83 hz83 hne83 hcl hbl hs83
    generalize w6.setCell ⟨d, 1, none⟩ (.slice (some ⟨g', 0, none⟩) (T.pend ++ [(⟨n, zs⟩ : Wr)]).length cap) = w7 at h7 o7 O7 ⊢
    generalize hL : (T.pend ++ [(⟨n, zs⟩ : Wr)]).length = L at h7 O7 ⊢
    have HL := Lib.hid hL
    have c1 := h7.c1
    have c2 := h7.c2
    have cn7 := h7.newAt hn
    have fn7 := h7.newFree n
    have h8 := h7.drew.setNew n (L : Int)
    have O8 := Lib.hid (O7.out.drew.setCell (p := ⟨gn, n, none⟩) (.inl hgnF) (.int .i64 (L : Int)))
    have hi8 : (n : Int) < (T.last.length : Int) := by omega
    have hi9 : n < T.last.length := hn
    clear h7 o7 O7 O6 O5 H5 hL e1
    go_wp2
    refine wp_region_still_tail 11 (by kernel_rfl) (by kernel_rfl) ?_
    simp only [List.take_succ_cons, List.take_zero, List.drop_succ_cons, List.drop_zero]
    change wpStill _ _ w7.drew _ _ _
    iterate 11 still_step
    refine wpStill_nil ?_
    change wpList _ _ _ _ _ w7.drew
    generalize hW8 : w7.drew.setCell ⟨gn, n, none⟩ (.int .i64 (L : Int)) = w8 at h8 O8
    have c58 := h8.c5
    have f58 := h8.frozen 5
    have H9 := Lib.hid (h8.setWrites (wrap64 (T.writes + 1)))
    have O9 := Lib.hid (O8.out.setCell (p := ⟨d, 5, none⟩) (.inl hdF) (.int .i64 (wrap64 (T.writes + 1))))
    clear h8 O8
    go_wp2
    go_ret
    exact ⟨rfl, ⟨_, _, _, _, H9.out, by rw [← HL.out]; simp⟩, O9.out⟩
  · refine step_buildOne rfl (.tmp 32) rfl (Wr.cells ⟨n, zs⟩) rfl hcl ?_
    change K (Act.put _ (some 33) _) _
    have H5 := Lib.hid (H1.out.drew.alloc (.cells (Wr.cells ⟨n, zs⟩).toArray 81))
    have O5 := Lib.hid (O1.out.drew.alloc (.cells (Wr.cells ⟨n, zs⟩).toArray 81))
    have hS5 : Sp (w1.drew.alloc (.cells (Wr.cells ⟨n, zs⟩).toArray 81)) := (hSp _).2 (World.rangeAt_alloc ((hSp _).1 hS0) _)
    have hg5 : (w1.drew.alloc (.cells (Wr.cells ⟨n, zs⟩).toArray 81)).heap[w1.drew.heap.size]? = some (.cells (Wr.cells ⟨n, zs⟩).toArray 81 (0, 0)) := heap_alloc_new _ _
    generalize w1.drew.alloc (.cells (Wr.cells ⟨n, zs⟩).toArray 81) = w5 at H5 O5 hS5 hg5 ⊢
    refine hK.out _ _ hS5 (fun _ => ?_)
    clear hK K
    simp only [Act.put, List.setIfInBounds_toArray, List.set_cons_zero, List.set_cons_succ]
    have c15 := H5.out.c1
    refine take_only 4 (by kernel_rfl) rfl (fun K hK => ?_)
    go_simp
    refine hK _ _ hS5 (fun _ => ?_)
    clear hK K c15
    refine take_only 11 (by kernel_rfl) rfl (fun K hK => ?_)
    refine wr_append_step rfl (.tmp 27) (.tmp 33) rfl vp T.pend rfl H5.out.pend w1.drew.heap.size 1 ⟨n, zs⟩ rfl ⟨hlen, hz0⟩ hg5 hm ?_
    intro g' cap w6 hown6 hgr6 hat6
    change K (Act.put _ (some 34) _) _
    have O6 := Lib.hid (O5.out.grown hgr6 (fun k e => .inl (H5.out.fp k e).1))
    have hF6 : ∀ k, vp.ownBlock = some k → k ≠ d ∧ k ≠ b := fun k e => ⟨(H5.out.fp k e).2.1, fun e2 => hb (e2 ▸ (H5.out.fp k e).1)⟩
    have hk6 : ∀ k, k < w5.heap.size → (k = d ∨ k = b) → w6.heap[k]? = w5.heap[k]? := fun k hk hkk => hgr6.block k hk (fun e => by have := hF6 k e.symm; rcases hkk with rfl | rfl; exact this.1 rfl; exact this.2 rfl)
    have hS6 : Sp w6 := (hSp _).2 fun j v hv => by
      have s2 := (hSp _).1 hS5
      exact (World.cell?_of_block (w := w5) (hk6 b (World.block_lt_of_cell? w5 _ (s2 j v hv)) (.inr rfl))).trans (s2 j v hv)
    refine hK _ _ hS6 (fun _ => ?_)
    clear hK K
    simp only [Act.put, List.setIfInBounds_toArray, List.set_cons_zero, List.set_cons_succ]
    refine take_read 12 35 (.pointer (some ⟨d, 0, none⟩)) rfl rfl (by kernel_rfl) (by kernel_rfl) (by kernel_rfl) (fun _ _ _ h => h) (by rfl) hS6 (fun w' hS => by go_simp) ?_
    simp only [Act.put, List.setIfInBounds_toArray, List.set_cons_zero, List.set_cons_succ]
    refine take_read 13 36 (.pointer (some ⟨d, 1, none⟩)) rfl rfl (by kernel_rfl) (by kernel_rfl) (by kernel_rfl) (fun _ _ _ h => h) (by rfl) hS6 (fun w' hS => by go_simp) ?_
    simp only [Act.put, List.setIfInBounds_toArray, List.set_cons_zero, List.set_cons_succ]
    have hc6 : w6.cell? ⟨d, 1, none⟩ = some vp := (World.cell?_of_block (w := w5) (a := ⟨d, 1, none⟩) (hk6 d H5.out.dlt (.inl rfl))).trans H5.out.c1
    have hf6 : w6.frozen? ⟨d, 1, none⟩ = false := (World.frozen?_of_block (w := w5) (a := ⟨d, 1, none⟩) (hk6 d H5.out.dlt (.inl rfl))).trans (H5.out.frozen 1)
    refine take_only 14 (by kernel_rfl) rfl (fun K hK => ?_)
    go_simp
    have hdb : d ≠ b := fun e => hb (e ▸ H5.out.fd)
    have hS7 : Sp (w6.setCell ⟨d, 1, none⟩ (.slice (some ⟨g', 0, none⟩) (T.pend.length + 1) cap)) := (hSp _).2 fun j v hv => by
      rw [World.cell?_setCell_far w6 ⟨d, 1, none⟩ ⟨b, o + j, none⟩ _ hdb]
      exact (hSp _).1 hS6 j v hv
    refine hK _ _ hS7 (fun _ => ?_)
    clear hK K
    refine wpAnyH_done (by kernel_rfl) (NoPanic.normal ?_) _
    have e1 : T.pend.length + 1 = (T.pend ++ [(⟨n, zs⟩ : Wr)]).length := by simp
    rw [e1]
    obtain ⟨h7, o7⟩ := Dv.push H5.out (G := Gr F w) (fun k hk => .inl hk) (fun k hk => .inr (Nat.le_trans O5.out.size hk)) ⟨n, zs⟩ ⟨hlen, hz0⟩ hn hown6 hgr6 hat6
    have O7 := Lib.hid (O6.out.setCell (p := ⟨d, 1, none⟩) (.inl H5.out.fd) (.slice (some ⟨g', 0, none⟩) (T.pend ++ [(⟨n, zs⟩ : Wr)]).length cap))
    clear hS7 hS6 hS5 hg5 hS0 c1d hat HI hc6 hf6 hF6 hk6 hown6 hgr6 hat6 hdb hf83 hz83 hne83 hcl hbl hs83
    generalize w6.setCell ⟨d, 1, none⟩ (.slice (some ⟨g', 0, none⟩) (T.pend ++ [(⟨n, zs⟩ : Wr)]).length cap) = w7 at h7 o7 O7 ⊢
    generalize hL : (T.pend ++ [(⟨n, zs⟩ : Wr)]).length = L at h7 O7 ⊢
    have HL := Lib.hid hL
    have c1 := h7.c1
    have c2 := h7.c2
    have cn7 := h7.newAt hn
    have fn7 := h7.newFree n
    have h8 := h7.drew.setNew n (L : Int)
    have O8 := Lib.hid (O7.out.drew.setCell (p := ⟨gn, n, none⟩) (.inl hgnF) (.int .i64 (L : Int)))
    have hi8 : (n : Int) < (T.last.length : Int) := by omega
    have hi9 : n < T.last.length := hn
    clear h7 o7 O7 O6 O5 H5 hL e1
    go_wp2
    refine wp_region_still_tail 11 (by kernel_rfl) (by kernel_rfl) ?_
    simp only [List.take_succ_cons, List.take_zero, List.drop_succ_cons, List.drop_zero]
    change wpStill _ _ w7.drew _ _ _
    iterate 11 still_step
    refine wpStill_nil ?_
    change wpList _ _ _ _ _ w7.drew
    generalize hW8 : w7.drew.setCell ⟨gn, n, none⟩ (.int .i64 (L : Int)) = w8 at h8 O8
    have c58 := h8.c5
    have f58 := h8.frozen 5
    have H9 := Lib.hid (h8.setWrites (wrap64 (T.writes + 1)))
    have O9 := Lib.hid (O8.out.setCell (p := ⟨d, 5, none⟩) (.inl hdF) (.int .i64 (wrap64 (T.writes + 1))))
    clear h8 O8
    go_wp2
    go_ret
    exact ⟨rfl, ⟨_, _, _, _, H9.out, by rw [← HL.out]; simp⟩, O9.out⟩

/-- Where a slice of bytes from outside lies: in blocks that are not the disk's. -/
def Far (F : Nat → Prop) (A : Option Addr) (m : Nat) : Prop := ∀ ad, A = some ad → 0 < m → ¬ F ad.block
theorem rb_spot {w : World} {ad : Addr} {m : Nat} {zs : List Int} (h : RB w (some ad) m zs) (hm : 0 < m) : ad.spot = none ∧ ad.block < w.heap.size := by
  obtain ⟨ad', e, hc⟩ := h.at_ hm
  cases e
  rw [show ad.add 0 = ad from rfl] at hc
  refine ⟨?_, World.block_lt_of_cell? w _ hc⟩
  unfold World.cell? at hc
  split at hc
  · split at hc
    · cases hc
    · rename_i h; simpa using h
  · cases hc

set_option maxHeartbeats 1000000 in
theorem dwrite {F : Nat → Prop} {w : World} {d : Nat} {S : St} (h : PD F w d S) (n : Int) (A : Option Addr) (m c : Nat) (zs : List Int) (hz : RB w A m zs) (hA : Far F A m) (hc : m ≤ c) (hc2 : c ≤ 140737488355328) (hm : S.pend.length < 2199023255552) :
    Calls Try.prog 52 #[.pointer (some ⟨d, 0, none⟩), .int .i64 n, .slice A m c] w (Codes F w d (writeS S n zs) (writeE S n zs.length)) := by
  obtain ⟨nw, vl, vp, vn, h, hn⟩ := h
  have r := drefuses h n
  have sp := dspend h
  have hlen := hz.len
  unfold writeS writeE
  cases ho : S.off with
  | true =>
    rw [ho] at r
    simp only [if_true] at r ⊢
    have HE := Lib.hid (codes (c := 22) h hn (Out.refl F w))
    clear h hn sp hz hlen
    go_enter Try.func52, Try.ntmps52
    go_wp2_with (go_at_call 66; refine r.mono ?_; rintro e w' ⟨rfl, rfl⟩)
    go_ret
    exact HE.out
  | false =>
    rw [ho] at r
    simp only [Bool.false_eq_true, if_false] at r ⊢
    by_cases hp : 0 ≤ n ∧ n < (S.last.length : Int)
    · rw [if_pos hp] at r
      rw [if_neg (not_not_intro hp), if_neg (not_not_intro hp)]
      by_cases h64 : m = 64
      · rw [if_neg (show ¬ (zs.length ≠ 64) by omega), if_neg (show ¬ (zs.length ≠ 64) by omega)]
        by_cases hpl : S.plan = 0
        · have he : spendE S = 22 := by unfold spendE; rw [if_pos hpl]
          rw [he] at sp ⊢
          rw [if_pos hpl]
          have HN := Lib.hid (nwok_same (S' := spendS S) hn (by rw [spendS_last]) (spendS_pend S))
          subst h64
          clear h hn hpl he hp hz hlen
          go_enter Try.func52, Try.ntmps52
          go_wp2_with (first
            | (go_at_call 66; refine r.mono ?_; rintro e w' ⟨rfl, rfl⟩)
            | (go_at_call 67; refine sp.mono ?_; rintro e w1 ⟨rfl, h1, o1⟩; have H1 := Lib.hid h1; have O1 := Lib.hid o1; clear h1 o1))
          go_ret
          exact codes H1.out HN.out O1.out
        · have he : spendE S = 0 := by unfold spendE; rw [if_neg hpl]
          rw [he] at sp ⊢
          rw [if_neg hpl]
          obtain ⟨k, rfl⟩ := Int.eq_ofNat_of_zero_le hp.1
          have hk : k < S.last.length := by omega
          obtain ⟨gn, cn, rfl, hgn, -⟩ := h.nform
          subst h64
          obtain ⟨ad, rfl, -⟩ := hz.cell (by omega)
          have hsp := (rb_spot hz (by omega)).1
          have hF := hA ad rfl (by omega)
          obtain ⟨b, o, s⟩ := ad
          simp only at hsp hF
          subst hsp
          have hT : (spendS S).last = S.last := spendS_last S
          have hTp : (spendS S).pend = S.pend := spendS_pend S
          have hTw : (spendS S).writes = S.writes := by unfold spendS; split <;> (try split) <;> rfl
          have hnl := h.nwl
          refine (dwrite64 (T := spendS S) (nw := nw) (vl := vl) (vp := vp) (gn := gn) (cn := cn) (by rw [hT]; exact h) h.fd hgn k (by rw [hT]; exact hk) b o c zs hz hF hc (by rw [hTp]; exact hm) r (by rw [hT]; exact sp)).mono ?_
          rintro e w' ⟨rfl, ⟨nw', vl', vp', vn', h9, hnw⟩, o9⟩
          refine ⟨rfl, ⟨nw', vl', vp', vn', ?_, ?_⟩, o9⟩
          · rw [← hTp, ← hTw]; exact h9
          · rw [hnw, hTp]
            exact nwok_write hn hnl (by simp [hT]) k zs rfl hk
      · rw [if_pos (show zs.length ≠ 64 by omega), if_pos (show zs.length ≠ 64 by omega)]
        have HE := Lib.hid (codes (c := 21) h hn (Out.refl F w))
        have h65 : ((m : Int) != 64) = true := by simp; omega
        clear h hn sp hz hlen
        go_enter Try.func52, Try.ntmps52
        go_wp2_with (go_at_call 66; refine r.mono ?_; rintro e w' ⟨rfl, rfl⟩)
        go_ret
        exact HE.out
    · rw [if_neg hp] at r
      rw [if_pos hp, if_pos hp]
      have HE := Lib.hid (codes (c := 20) h hn (Out.refl F w))
      clear h hn sp hz hlen hp
      go_enter Try.func52, Try.ntmps52
      go_wp2_with (go_at_call 66; refine r.mono ?_; rintro e w' ⟨rfl, rfl⟩)
      go_ret
      exact HE.out
end Go.Proofs.Ythpbcibjohakkaa
