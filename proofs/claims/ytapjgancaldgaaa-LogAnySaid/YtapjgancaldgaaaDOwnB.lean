/- Bytes of a block up to its capacity; Image once more, with its capacity. -/
import Derived.Test.YtapjgancaldgaaaDOwnA
namespace Go.Proofs.Ytapjgancaldgaaa
set_option maxRecDepth 100000
open Go.RowKit

theorem rb_cells {w : World} {ad : Addr} {m : Nat} {ys : List Int} (hr : RB w (some ad) m ys) : ∀ j u, (ys.map (Value.int .u8))[j]? = some u → w.cell? (ad.add j) = some u := by
  intro j u hu
  have hlen := hr.len
  have hj : j < ys.length := by
    rcases Nat.lt_or_ge j ys.length with h1 | h1
    · exact h1
    · rw [List.getElem?_eq_none (by simpa using h1)] at hu; cases hu
  obtain ⟨ad', e, hc⟩ := hr.at_ (k := j) (by omega)
  injection e with e
  subst e
  rw [hc]
  simpa [List.getD_eq_getElem?_getD, List.getElem?_eq_getElem hj] using hu

theorem wpList_app {w : World} {ops : Array Oper} {rest : List Oper} {o : Oper} {a : Act} {Q : Exit → Act → World → Prop} (hgd : o.guard = none) (s x : Operand)
    (ho : o.op = .call { callee := .builtin .append, args := #[s, x], argTypes := #[34, 34] }) (vs vx v : Value) (w' : World) (hs : a.eval s = vs) (hx : a.eval x = vx)
    (hrun : (Builtin.append_ #[34, 34] o.type #[vs, vx]).run Try.prog w = .ok v w') (h : wpList Try.prog ops Q rest (a.put o.dst v) w') : wpList Try.prog ops Q (o :: rest) a w := by
  refine wpList_plain hgd fun K hK => ?_
  unfold Oper.wp
  simp [execOp, ho, resolve, invoke, builtin, hs, hx, hrun, Result.andThen]
  exact hK _ _ h

/-- append within the row's room keeps block and capacity. -/
theorem ob_append_room {w : World} {ops : Array Oper} {rest : List Oper} {o : Oper} {a : Act} {Q : Exit → Act → World → Prop} (hgd : o.guard = none) (s x : Operand)
    (ho : o.op = .call { callee := .builtin .append, args := #[s, x], argTypes := #[34, 34] })
    (base g cap : Nat) (zs : List Int) (hs : a.eval s = .slice (some ⟨g, 0, none⟩) zs.length cap) (hown : OB base w (.slice (some ⟨g, 0, none⟩) zs.length cap) zs) (A : Option Addr) (m c : Nat) (ys : List Int) (hx : a.eval x = .slice A m c) (hr : RB w A m ys) (hm : 0 < m)
    (hroom : zs.length + m ≤ cap) (hsz : zs.length + m ≤ 140737488355328) (hbase : base ≤ w.heap.size)
    (h : ∀ w', OB base w' (.slice (some ⟨g, 0, none⟩) (zs ++ ys).length cap) (zs ++ ys) → w.grownBy w' (some g) → wpList Try.prog ops Q rest (a.put o.dst (.slice (some ⟨g, 0, none⟩) (zs ++ ys).length cap)) w') : wpList Try.prog ops Q (o :: rest) a w := by
  obtain ⟨i0, hi, hz0, hz1, hz2⟩ := info_parts info_u8
  have hlen := hr.len
  obtain ⟨ad, rfl, -⟩ := hr.cell hm
  have e : (zs ++ ys).length = zs.length + m := by rw [List.length_append, hlen]
  obtain ⟨g', cap', w', hrun, h1, h2, h3, -⟩ := run_append_far (P := Try.prog) w base 34 o.type 5 i0 (.int .u8 0) 1 1 Try.underlying34 hi hz0 hz1 hz2 rfl (by decide) _ zs.length _ hown.own ad m c (ys.map (Value.int .u8)) (by simpa using hlen) (rb_cells hr) (bytes_oneCell ys) hm (by simp only [maxLen]; omega) (by omega) hbase
  have hcap : g' = g ∧ cap' = cap := by
    rcases hown.own.2 with ⟨e, _⟩ | ⟨g0, cap0, cur, e0, hbg, hg, hnc, hcm, hcs, htake⟩
    · cases e
    · injection e0 with a1 a2 a3
      injection a1 with a1
      injection a1 with a1
      subst a1
      subst a3
      have := run_append_room (P := Try.prog) w 34 o.type 5 i0 Try.underlying34 hi g zs.length cap cur hg ad m c (ys.map (Value.int .u8)) (by rw [hz1]; simpa using hlen) (rb_cells hr) (bytes_oneCell ys) hroom (by rw [hz1, hcs]; simp; omega)
      rw [this] at hrun
      injection hrun with b1 b2
      injection b1 with b1 b2 b3
      injection b1 with b1
      injection b1 with b1
      exact ⟨b1.symm, b3.symm⟩
  obtain ⟨rfl, rfl⟩ := hcap
  refine wpList_app hgd s x ho _ _ _ w' hs hx hrun ?_
  rw [← e]
  refine h w' ⟨?_, ?_⟩ h2
  · rw [List.length_append, List.map_append, hlen]; exact h1
  · intro z hz
    rcases List.mem_append.1 hz with hz | hz
    · exact hown.byte z hz
    · exact hr.byte z hz

theorem U8Blk.out {F : Nat → Prop} {w w' : World} {g c : Nat} (h : U8Blk w g c) (ho : Out F w w') (hg : ¬ F g) : U8Blk w' g c := by
  obtain ⟨C, t, h1, h2⟩ := h
  exact ⟨C, t, (ho.block g (Array.getElem?_eq_some_iff.1 h1).1 hg).trans h1, h2⟩
theorem U8Blk.below {w w' : World} {g c : Nat} (h : U8Blk w g c) (hb : Below w.heap.size w w') : U8Blk w' g c := h.out (Out.of_below hb fun _ => False) (fun h => h)
theorem u8_zero (k : Nat) (j : Nat) (hj : j < k) : (Builtin.zeroCells #[Value.int .u8 0] k)[j]? = some (.int .u8 0) := by
  simp [Builtin.zeroCells, hj, Nat.mod_one]
theorem u8_app (ys : List Int) (k : Nat) : ∀ j, j < ys.length + k → ∃ z, ((ys.map (Value.int .u8)).toArray ++ Builtin.zeroCells #[Value.int .u8 0] k)[j]? = some (.int .u8 z) := by
  intro j hj
  by_cases h : j < ys.length
  · exact ⟨ys[j], by rw [Array.getElem?_append_left (by simpa using h)]; simp [h]⟩
  · exact ⟨0, by rw [Array.getElem?_append_right (by simp; omega)]; simp only [List.size_toArray, List.length_map]; exact u8_zero _ _ (by omega)⟩
theorem rb_app {w : World} {g : Nat} {t : TypeId} {r : Array Value} {ys : List Int} (hb : ∀ z ∈ ys, 0 ≤ z ∧ z ≤ 255) (h : w.heap[g]? = some (.cells ((ys.map (Value.int .u8)).toArray ++ r) t (0, 0))) : RB w (some ⟨g, 0, none⟩) ys.length ys :=
  ⟨rfl, hb, fun _ => ⟨_, rfl, fun j hj => by
    rw [Addr.add_mid, cell_of_row _ _ _ _ _ _ h, Nat.zero_add, Array.getElem?_append_left (by simpa using hj)]
    simp [List.getD_eq_getElem?_getD, hj]⟩⟩

/-- append onto nil: a block of bytes. -/
theorem nil_append_u8 {w : World} {ops : Array Oper} {rest : List Oper} {o : Oper} {a : Act} {Q : Exit → Act → World → Prop} (hgd : o.guard = none) (s x : Operand)
    (ho : o.op = .call { callee := .builtin .append, args := #[s, x], argTypes := #[34, 34] })
    (hs : a.eval s = .slice none 0 0) (A : Option Addr) (m c : Nat) (ys : List Int) (hx : a.eval x = .slice A m c) (hr : RB w A m ys) (hm : 0 < m) (hsz : m ≤ 140737488355328)
    (h : ∀ cap w', m ≤ cap → cap ≤ 9223372036854775807 → RB w' (some ⟨w.heap.size, 0, none⟩) m ys → U8Blk w' w.heap.size cap → Below w.heap.size w w' → w.heap.size < w'.heap.size → wpList Try.prog ops Q rest (a.put o.dst (.slice (some ⟨w.heap.size, 0, none⟩) m cap)) w') : wpList Try.prog ops Q (o :: rest) a w := by
  obtain ⟨i0, hi, hz0, hz1, hz2⟩ := info_parts info_u8
  have hlen := hr.len
  obtain ⟨ad, rfl, -⟩ := hr.cell hm
  have hrun := run_append_nil (P := Try.prog) w 34 o.type 5 i0 (.int .u8 0) Try.underlying34 hi hz0 ad m c (ys.map (Value.int .u8)) (by rw [hz1]; simpa using hlen) (rb_cells hr) hm (by omega) (by rw [hz2]; omega)
  have hge := grownCap_ge w m 0 5
  have hle := grownCap_le_maxLen w m 0 5 (by simp only [maxLen]; omega)
  simp only [maxLen] at hle
  generalize grownCap w m 0 5 = cap at hrun hge hle
  have hn := heap_alloc_new w.drew (.cells ((ys.map (Value.int .u8)).toArray ++ Builtin.zeroCells (Value.int .u8 0).cells (cap - m)) 5)
  refine wpList_app hgd s x ho _ _ _ _ hs hx hrun (h cap _ hge hle ?_ ?_ ?_ ?_)
  · have := rb_app hr.byte hn
    rw [hlen] at this
    exact this
  · exact ⟨_, _, hn, fun j hj => u8_app ys (cap - m) j (by omega)⟩
  · exact ((Below.refl _ _).drew).alloc (Nat.le_refl _) _
  · simp

/-- append that outgrows: a block of bytes. -/
theorem grow_append_u8 {w : World} {ops : Array Oper} {rest : List Oper} {o : Oper} {a : Act} {Q : Exit → Act → World → Prop} (hgd : o.guard = none) (s x : Operand)
    (ho : o.op = .call { callee := .builtin .append, args := #[s, x], argTypes := #[34, 34] })
    (b : Nat) (n cap0 : Nat) (zs : List Int) (hs : a.eval s = .slice (some ⟨b, 0, none⟩) n cap0) (hz : RB w (some ⟨b, 0, none⟩) n zs) (A : Option Addr) (m c : Nat) (ys : List Int) (hx : a.eval x = .slice A m c) (hr : RB w A m ys) (hm : 0 < m) (hg : cap0 < n + m) (hsz : n + m ≤ 140737488355328)
    (h : ∀ cap w', n + m ≤ cap → cap ≤ 9223372036854775807 → U8Blk w' w.heap.size cap → Below w.heap.size w w' → w.heap.size < w'.heap.size → wpList Try.prog ops Q rest (a.put o.dst (.slice (some ⟨w.heap.size, 0, none⟩) (n + m) cap)) w') : wpList Try.prog ops Q (o :: rest) a w := by
  obtain ⟨i0, hi, hz0, hz1, hz2⟩ := info_parts info_u8
  have hlen := hr.len
  have hlz := hz.len
  obtain ⟨ad, rfl, -⟩ := hr.cell hm
  have hrun := run_append_grow (P := Try.prog) w 34 o.type 5 i0 (.int .u8 0) Try.underlying34 hi hz0 ⟨b, 0, none⟩ n cap0 (zs.map (Value.int .u8)) (by rw [hz1]; simpa using hlz) (rb_cells hz) ad m c (ys.map (Value.int .u8)) (by rw [hz1]; simpa using hlen) (rb_cells hr) hg (by omega) (growslice_fits_wide hg (by rw [hz2]; omega))
  have hge := grownCap_ge w (n + m) cap0 5
  have hle := grownCap_le_maxLen w (n + m) cap0 5 (by simp only [maxLen]; omega)
  simp only [maxLen] at hle
  generalize grownCap w (n + m) cap0 5 = cap at hrun hge hle
  have hn := heap_alloc_new w.drew (.cells ((zs.map (Value.int .u8)).toArray ++ (ys.map (Value.int .u8)).toArray ++ Builtin.zeroCells (Value.int .u8 0).cells (cap - (n + m))) 5)
  refine wpList_app hgd s x ho _ _ _ _ hs hx hrun (h cap _ hge hle ?_ ?_ ?_)
  · refine ⟨_, _, hn, fun j hj => ?_⟩
    have := u8_app (zs ++ ys) (cap - (n + m)) j (by simp; omega)
    simpa [Value.cells] using this
  · exact ((Below.refl _ _).drew).alloc (Nat.le_refl _) _
  · simp

/-- append into a block of noughts. -/
theorem made_append_u8 {w : World} {ops : Array Oper} {rest : List Oper} {o : Oper} {a : Act} {Q : Exit → Act → World → Prop} (hgd : o.guard = none) (s x : Operand)
    (ho : o.op = .call { callee := .builtin .append, args := #[s, x], argTypes := #[34, 34] })
    (g cap : Nat) (hs : a.eval s = .slice (some ⟨g, 0, none⟩) 0 cap) (hg : w.heap[g]? = some (.cells (madeCells #[.int .u8 0] cap) 5 (0, 0))) (A : Option Addr) (m c : Nat) (ys : List Int) (hx : a.eval x = .slice A m c) (hr : RB w A m ys) (hm : 0 < m) (hroom : m ≤ cap)
    (h : ∀ w', RB w' (some ⟨g, 0, none⟩) m ys → U8Blk w' g cap → Out (fun k => k = g) w w' → wpList Try.prog ops Q rest (a.put o.dst (.slice (some ⟨g, 0, none⟩) m cap)) w') : wpList Try.prog ops Q (o :: rest) a w := by
  obtain ⟨i0, hi, hz0, hz1, hz2⟩ := info_parts info_u8
  have hlen := hr.len
  obtain ⟨ad, rfl, -⟩ := hr.cell hm
  have hmc : ∀ j, j < cap → (madeCells #[Value.int .u8 0] cap)[j]? = some (.int .u8 0) := fun j hj => by simp [madeCells, hj, Nat.mod_one]
  have hms : (madeCells #[Value.int .u8 0] cap).size = cap := by simp [size_madeCells]
  have hrun := run_append_room (P := Try.prog) w 34 o.type 5 i0 Try.underlying34 hi g 0 cap _ hg ad m c (ys.map (Value.int .u8)) (by rw [hz1]; simpa using hlen) (rb_cells hr) (bytes_oneCell ys) (by omega) (by rw [hms]; simp; omega)
  rw [Nat.zero_add, Nat.zero_mul, List.take_zero, List.nil_append, Nat.zero_add] at hrun
  obtain ⟨C, hC⟩ : ∃ C, C = (ys.map (Value.int .u8) ++ (madeCells #[Value.int .u8 0] cap).toList.drop (ys.map (Value.int .u8)).length).toArray := ⟨_, rfl⟩
  rw [← hC] at hrun
  have hn := setRow_heap w g _ C 5 (0, 0) hg
  have hn2 : (w.setRow g C).heap[g]? = some (.cells ((ys.map (Value.int .u8)).toArray ++ ((madeCells #[Value.int .u8 0] cap).toList.drop (ys.map (Value.int .u8)).length).toArray) 5 (0, 0)) := by
    rw [hn, hC]; simp
  refine wpList_app hgd s x ho _ _ _ _ hs hx hrun (h _ ?_ ?_ ?_)
  · have := rb_app hr.byte hn2
    rw [hlen] at this
    exact this
  · refine ⟨_, _, hn, fun j hj => ?_⟩
    rw [hC]
    by_cases h1 : j < ys.length
    · exact ⟨ys[j], by rw [List.getElem?_toArray, List.getElem?_append_left (by simpa using h1)]; simp [h1]⟩
    · refine ⟨0, ?_⟩
      rw [List.getElem?_toArray, List.getElem?_append_right (by simp; omega), List.getElem?_drop]
      have := hmc j hj
      simp only [List.length_map]
      rw [show ys.length + (j - ys.length) = j by omega]
      simpa using this
  · exact ⟨rfl, rfl, rfl, by simp, fun k _ hk => setRow_other w g k _ hk⟩

theorem u8_full {base g n : Nat} {w : World} {zs : List Int} (h : OB base w (.slice (some ⟨g, 0, none⟩) n n) zs) (hn : zs.length = n) : U8Blk w g n := by
  obtain ⟨h1, h2⟩ := h.own
  have h3 := h.own
  rcases h2 with ⟨e, _⟩ | ⟨g', cap', cur, e, _, hh, _, _, _, ht⟩
  · cases e
  · injection e with e1 e2 e3
    injection e1 with e1
    injection e1 with e1
    subst e1
    refine ⟨cur, _, hh, fun j hj => ⟨zs.getD j 0, ?_⟩⟩
    rw [← cell_of_row w g j cur _ (0, 0) hh]
    subst hn
    rw [h3.cellAt j (by omega)]
    simp [List.getD_eq_getElem?_getD, List.getElem?_eq_getElem hj]
theorem u8_block {w : World} {g : Nat} {t : TypeId} {zs : List Int} {n : Nat} (h : w.heap[g]? = some (.cells (bc zs).toArray t (0, 0))) (hn : zs.length = n) : U8Blk w g n :=
  ⟨_, _, h, fun j hj => ⟨zs[j]'(by omega), by simp [bc, show j < zs.length by omega]⟩⟩

/-- What Image leaves, with its block. -/
def ImageR (w : World) (l : List Cn) (e : Ending) (w' : World) : Prop :=
  ∃ v5, e = .returned (.tuple #[.slice (some ⟨w.heap.size, 0, none⟩) (l.length * 64) (l.length * 64), v5]) ∧ OB w.heap.size w' (.slice (some ⟨w.heap.size, 0, none⟩) (l.length * 64) (l.length * 64)) (imgB l) ∧ Below w.heap.size w w'

set_option maxHeartbeats 2000000 in
theorem dimageR {F : Nat → Prop} {w : World} {d : Nat} {S : St} (h : PD F w d S) :
    Calls Try.prog 64 #[.pointer (some ⟨d, 0, none⟩)] w (ImageR w S.last) := by
  obtain ⟨nw, vl, vp, vn, h, hn⟩ := h.shut
  have md := dmade h
  have c0 := h.c0
  have hlo := h.wf.lo
  have hhi := h.wf.hi
  obtain ⟨gl, capl, rfl, hFl, hgd⟩ := h.lform
  have hmk : (Instr.makeSlice 34 (.int .i64 0) (.int .i64 ((S.last.length : Int) * 64))).run Try.prog w = .ok (.slice (some ⟨w.heap.size, 0, none⟩) 0 (S.last.length * 64)) (w.alloc (.cells (madeCells #[.int .u8 0] (S.last.length * 64)) 5)) := by
    have := run_make_bytes w 0 ((S.last.length : Int) * 64) (by omega) (by omega) (by omega)
    rw [show ((S.last.length : Int) * 64).toNat = S.last.length * 64 from by omega] at this
    exact this
  have ho0 := ob_made w 0 (S.last.length * 64) (by omega) (by omega)
  obtain ⟨W0, hW0⟩ : ∃ W, W = w.alloc (.cells (madeCells #[.int .u8 0] (S.last.length * 64)) 5) := ⟨_, rfl⟩
  rw [← hW0] at hmk ho0
  have c0' : W0.cell? ⟨d, 0, none⟩ = some (.slice (some ⟨gl, 0, none⟩) S.last.length capl) := by rw [hW0]; exact (h.alloc _).c0
  have H0 := Lib.hid (show Dv (fun k => F k ∧ k < w.heap.size) W0 d S nw (.slice (some ⟨gl, 0, none⟩) S.last.length capl) vp vn by rw [hW0]; exact h.alloc _)
  have B0 := Lib.hid (show Below w.heap.size w W0 by rw [hW0]; exact (Below.refl _ _).alloc (Nat.le_refl _) _)
  have O0 := Lib.hid ho0
  clear h hn hW0 ho0
  go_enter Try.func64, Try.ntmps64
  go_wp2_with (go_at_call 49; refine md.mono ?_; rintro e w' ⟨rfl, rfl⟩)
  go_loopw [4, 5, 6, 7, 23] (fun v4 v5 _ _ i wr => ∃ k : Nat, i = .int .i64 (k : Nat) ∧ k ≤ S.last.length ∧ v4 = (.slice (some ⟨w.heap.size, 0, none⟩) (imgB (S.last.take k)).length (S.last.length * 64)) ∧ OB w.heap.size wr v4 (imgB (S.last.take k)) ∧ OI w.heap.size wr v5 (tornN S.last k) ∧ (∀ j, v4.ownBlock = some j → v5.ownBlock ≠ some j) ∧ Below w.heap.size w wr ∧ Dv (fun k => F k ∧ k < w.heap.size) wr d S nw (.slice (some ⟨gl, 0, none⟩) S.last.length capl) vp vn) (fun _ _ _ _ i _ => S.last.length - (intOf i).toNat)
  case atStart => exact ⟨0, rfl, Nat.zero_le _, rfl, O0.out, World.ownsRow_nil _ _ _ _, fun j _ => by simp [Value.ownBlock], B0.out, H0.out⟩
  case round =>
    obtain ⟨k, rfl, hk, rfl, h4, h5, h45, hB, hd⟩ := hrel
    by_cases hlt : k < S.last.length
    · obtain ⟨c, hc⟩ : ∃ c, S.last[k]? = some c := ⟨_, List.getElem?_eq_getElem hlt⟩
      have hcb := hd.wf.lb c (List.mem_of_getElem? hc)
      have HR := Lib.hid (hd.lastAt hc)
      have HI := Lib.hid (show (Try.prog.info? 97).map (·.size) = some c.cells.length by rw [Cn.len hcb]; rfl)
      have hz := run_zero80
      have hst := lay80 (F := F) (w := wr) hcb
      have hcl := Cn.len hcb
      have hb1 : Below wr.heap.size wr (wr.alloc (.cells c.cells.toArray 97)) := (Below.refl _ _).alloc (Nat.le_refl _) _
      have hw1 : (wr.alloc (.cells c.cells.toArray 97)).heap[wr.heap.size]? = some (.cells c.cells.toArray 97 (0, 0)) := heap_alloc_new _ _
      have hki : (k : Int) < (S.last.length : Int) := by omega
      generalize wr.alloc (.cells c.cells.toArray 97) = W1 at hst hb1 hw1
      have hrb : RB W1 (some ⟨wr.heap.size, 0, none⟩) 64 c.b := rb_head hcb hw1
      have ct : W1.cell? ⟨wr.heap.size, 64, none⟩ = some (.bool c.t) := by
        rw [cell_of_row _ _ _ _ _ _ hw1]
        simp [Cn.cells, List.getElem?_append_right, bc_len, hcb.len]
      have HSZ := Lib.hid (show (imgB (S.last.take k)).length + 64 ≤ 140737488355328 by rw [imgB_len _ (fun y hy => hd.wf.lb y (List.mem_of_mem_take hy)), List.length_take]; omega)
      have HRM := Lib.hid (show (imgB (S.last.take k)).length + 64 ≤ S.last.length * 64 by rw [imgB_len _ (fun y hy => hd.wf.lb y (List.mem_of_mem_take hy)), List.length_take]; omega)
      have HNX := Lib.hid (show imgB (S.last.take k) ++ c.b = imgB (S.last.take (k + 1)) by rw [List.take_add_one, hc]; simp [imgB])
      have HU4 := Lib.hid (show (Value.slice (some ⟨w.heap.size, 0, none⟩) (imgB (S.last.take k)).length (S.last.length * 64)).ownBlock ≠ some wr.heap.size from fun e => by have := (h4.own.lt _ e).2; omega)
      have H41 := Lib.hid (h4.stays (w' := W1) fun j e => hb1.block j (h4.own.lt j e).2)
      have H51 := Lib.hid (OI.stays h5 (w' := W1) fun j e => hb1.block j (h5.lt j e).2)
      have HB1 := Lib.hid (hB.trans (hb1.mono hB.size))
      have HD1 := Lib.hid (hd.below hb1)
      have HW1 := Lib.hid (show wr.heap.size < W1.heap.size from (Array.getElem?_eq_some_iff.1 hw1).1)
      have HT5 := Lib.hid (tornN_len S.last k)
      have HTB := Lib.hid (show (tornN S.last k).length ≤ 4398046511104 by have := tornN_len S.last k; omega)
      have HLT := Lib.hid hlt
      have HC := Lib.hid hc
      clear hd hB hb1 hw1 h4 h5 hc
      cases htc : c.t with
      | true =>
        rw [htc] at ct
        go_wp2_with (first
          | (with_reducible refine wpList_load_mid rfl 97 (.tmp 26) rfl gl (k * 65) rfl c.cells _ HR.out Try.underlying97 rfl HI.out ?_)
          | (at_builtin; refine ob_append_room rfl (.tmp 28) (.tmp 30) rfl w.heap.size w.heap.size (S.last.length * 64) (imgB (S.last.take k)) rfl H41.out (some ⟨wr.heap.size, 0, none⟩) 64 64 c.b rfl hrb (by decide) HRM.out HSZ.out HB1.out.size ?_; intro w2 ho4 hg4; have fx := after4 (g4 := w.heap.size) H41.out H51.out h45 hg4 (.inl rfl) HW1.out HB1.out HD1.out HU4.out ct; have ct2 := fx.1; have H42 := Lib.hid ho4; have H52 := Lib.hid fx.2.1; have H452 := Lib.hid fx.2.2.1; have HB2 := Lib.hid fx.2.2.2.1; have HD2 := Lib.hid fx.2.2.2.2; clear fx ho4 hg4)
          | (at_builtin; have H53 := Lib.hid (OI.stays H52.out (w' := w2.alloc (.cells #[.int .i64 (k : Int)] 3)) fun j e => Below.heap_alloc _ _ _ (H52.out.lt j e).2); have hc3 : (w2.alloc (.cells #[.int .i64 (k : Int)] 3)).cell? ⟨w2.heap.size, 0, none⟩ = some (.int .i64 (k : Int)) := (by rw [cell_of_row _ _ _ _ _ _ (heap_alloc_new _ _)]; rfl); refine oi_append rfl (.tmp 34) (.tmp 36) rfl w.heap.size u5 (tornN S.last k) rfl H53.out w2.heap.size 1 (k : Int) rfl hc3 HTB.out (by simp; exact Nat.le_succ_of_le HB2.out.size) ?_; intro g5 cap5 w3 ho5 hg5 hat5))
        obtain ⟨q4, q45, qb, qd⟩ := after5 H42.out H52.out H452.out hg5 hat5 HB2.out HD2.out
        go_roundw
        case rel =>
          rw [HNX.out] at q4
          have e4 : (imgB (S.last.take k)).length + c.b.length = (imgB (S.last.take (k + 1))).length := by rw [← HNX.out, List.length_append]
          have e5 : (tornN S.last k).length + 1 = (tornN S.last k ++ [(k : Int)]).length := by simp
          refine ⟨k + 1, by go_num, HLT.out, by rw [e4], ?_, ?_, fun j e => q45 _ _ _ _ j e, qb, qd⟩
          · rw [e4]; exact q4
          · rw [e5, tornN_true HC.out htc]; exact ho5
        case measure => simp [intOf]; omega
      | false =>
        rw [htc] at ct
        go_wp2_with (first
          | (with_reducible refine wpList_load_mid rfl 97 (.tmp 26) rfl gl (k * 65) rfl c.cells _ HR.out Try.underlying97 rfl HI.out ?_)
          | (at_builtin; refine ob_append_room rfl (.tmp 28) (.tmp 30) rfl w.heap.size w.heap.size (S.last.length * 64) (imgB (S.last.take k)) rfl H41.out (some ⟨wr.heap.size, 0, none⟩) 64 64 c.b rfl hrb (by decide) HRM.out HSZ.out HB1.out.size ?_; intro w2 ho4 hg4; have fx := after4 (g4 := w.heap.size) H41.out H51.out h45 hg4 (.inl rfl) HW1.out HB1.out HD1.out HU4.out ct; have ct2 := fx.1; have H42 := Lib.hid ho4; have H52 := Lib.hid fx.2.1; have H452 := Lib.hid fx.2.2.1; have HB2 := Lib.hid fx.2.2.2.1; have HD2 := Lib.hid fx.2.2.2.2; clear fx ho4 hg4))
        go_roundw
        case rel =>
          have h4 := H42.out
          rw [HNX.out] at h4
          have e4 : (imgB (S.last.take k)).length + c.b.length = (imgB (S.last.take (k + 1))).length := by rw [← HNX.out, List.length_append]
          refine ⟨k + 1, by go_num, HLT.out, by rw [e4], ?_, ?_, fun j e => H452.out _ _ j e, HB2.out, HD2.out⟩
          · rw [e4]; exact h4
          · rw [tornN_false HC.out htc]; exact H52.out
        case measure => simp [intOf]; omega
    · obtain rfl : k = S.last.length := by omega
      have hil := imgB_len S.last hd.wf.lb
      rw [List.take_length, hil] at h4
      rw [List.take_length, hil]
      clear hil
      go_wp2
      go_ret2
      exact ⟨_, rfl, h4, hB⟩
end Go.Proofs.Ytapjgancaldgaaa
