import Derived.Test.YthpbcibjohakkaaJAK
import Derived.Lib.AppendZerosOnto
/- Bytes of a block up to its capacity; Image once more, with its capacity. -/
namespace Go.Proofs.Ythpbcibjohakkaa
set_option maxRecDepth 100000
open Go.RowKit

theorem rb_cells {w : World} {ad : Addr} {m : Nat} {ys : List Int} (hr : RB w (some ad) m ys) : ∀ j u, (ys.map (Value.int .u8))[j]? = some u → w.cell? (ad.add j) = some u := by
  intro j u hu
  have hlen := hr.len
  have hj : j < ys.length := by
    rcases Nat.lt_or_ge j ys.length with h1 | h1
    · exact h1
    · rw [List.getElem?_eq_none (by simpa using h1)] at hu; cases hu
  obtain ⟨ad', e, hc⟩ := hr.at_ (k := j) (by omega)
  injection e with e
  subst e
  rw [hc]
  simpa [List.getD_eq_getElem?_getD, List.getElem?_eq_getElem hj] using hu

theorem wpList_app {w : World} {ops : Array Oper} {rest : List Oper} {o : Oper} {a : Act} {Q : Exit → Act → World → Prop} (hgd : o.guard = none) (s x : Operand)
    (ho : o.op = .call { callee := .builtin .append, args := #[s, x], argTypes := #[33, 33] }) (vs vx v : Value) (w' : World) (hs : a.eval s = vs) (hx : a.eval x = vx)
    (hrun : (Builtin.append_ #[33, 33] o.type #[vs, vx]).run Try.prog w = .ok v w') (h : wpList Try.prog ops Q rest (a.put o.dst v) w') : wpList Try.prog ops Q (o :: rest) a w := by
  refine wpList_plain hgd fun K hK => ?_
  unfold Oper.wp
  simp [execOp, ho, resolve, invoke, builtin, hs, hx, hrun, Result.andThen]
  exact hK _ _ h

/-- append within the row's room keeps block and capacity. -/
theorem ob_append_room {w : World} {ops : Array Oper} {rest : List Oper} {o : Oper} {a : Act} {Q : Exit → Act → World → Prop} (hgd : o.guard = none) (s x : Operand)
    (ho : o.op = .call { callee := .builtin .append, args := #[s, x], argTypes := #[33, 33] })
    (base g cap : Nat) (zs : List Int) (hs : a.eval s = .slice (some ⟨g, 0, none⟩) zs.length cap) (hown : OB base w (.slice (some ⟨g, 0, none⟩) zs.length cap) zs) (A : Option Addr) (m c : Nat) (ys : List Int) (hx : a.eval x = .slice A m c) (hr : RB w A m ys) (hm : 0 < m)
    (hroom : zs.length + m ≤ cap) (hsz : zs.length + m ≤ 140737488355328) (hbase : base ≤ w.heap.size)
    (h : ∀ w', OB base w' (.slice (some ⟨g, 0, none⟩) (zs ++ ys).length cap) (zs ++ ys) → w.grownBy w' (some g) → wpList Try.prog ops Q rest (a.put o.dst (.slice (some ⟨g, 0, none⟩) (zs ++ ys).length cap)) w') : wpList Try.prog ops Q (o :: rest) a w := by
  obtain ⟨i0, hi, hz0, hz1, hz2⟩ := info_parts info_u8
  have hlen := hr.len
  obtain ⟨ad, rfl, -⟩ := hr.cell hm
  have e : (zs ++ ys).length = zs.length + m := by rw [List.length_append, hlen]
  obtain ⟨g', cap', w', hrun, h1, h2, h3, -⟩ := run_append_far (P := Try.prog) w base 33 o.type 5 i0 (.int .u8 0) 1 1 Try.underlying33 hi hz0 hz1 hz2 rfl (by decide) _ zs.length _ hown.own ad m c (ys.map (Value.int .u8)) (by simpa using hlen) (rb_cells hr) (bytes_oneCell ys) hm (by simp only [maxLen]; omega) (by omega) hbase
  have hcap : g' = g ∧ cap' = cap := by
    rcases hown.own.2 with ⟨e, _⟩ | ⟨g0, cap0, cur, e0, hbg, hg, hnc, hcm, hcs, htake⟩
    · cases e
    · injection e0 with a1 a2 a3
      injection a1 with a1
      injection a1 with a1
      subst a1
      subst a3
      have := run_append_room (P := Try.prog) w 33 o.type 5 i0 Try.underlying33 hi g zs.length cap cur hg ad m c (ys.map (Value.int .u8)) (by rw [hz1]; simpa using hlen) (rb_cells hr) (bytes_oneCell ys) hroom (by rw [hz1, hcs]; simp; omega)
      rw [this] at hrun
      injection hrun with b1 b2
      injection b1 with b1 b2 b3
      injection b1 with b1
      injection b1 with b1
      exact ⟨b1.symm, b3.symm⟩
  obtain ⟨rfl, rfl⟩ := hcap
  refine wpList_app hgd s x ho _ _ _ w' hs hx hrun ?_
  rw [← e]
  refine h w' ⟨?_, ?_⟩ h2
  · rw [List.length_append, List.map_append, hlen]; exact h1
  · intro z hz
    rcases List.mem_append.1 hz with hz | hz
    · exact hown.byte z hz
    · exact hr.byte z hz

theorem U8Blk.out {F : Nat → Prop} {w w' : World} {g c : Nat} (h : U8Blk w g c) (ho : Out F w w') (hg : ¬ F g) : U8Blk w' g c := by
  obtain ⟨C, t, h1, h2⟩ := h
  exact ⟨C, t, (ho.block g (Array.getElem?_eq_some_iff.1 h1).1 hg).trans h1, h2⟩
theorem U8Blk.below {w w' : World} {g c : Nat} (h : U8Blk w g c) (hb : Below w.heap.size w w') : U8Blk w' g c := h.out (Out.of_below hb fun _ => False) (fun h => h)
theorem u8_zero (k : Nat) (j : Nat) (hj : j < k) : (Builtin.zeroCells #[Value.int .u8 0] k)[j]? = some (.int .u8 0) := by
  simp [Builtin.zeroCells, hj, Nat.mod_one]
theorem u8_app (ys : List Int) (k : Nat) : ∀ j, j < ys.length + k → ∃ z, ((ys.map (Value.int .u8)).toArray ++ Builtin.zeroCells #[Value.int .u8 0] k)[j]? = some (.int .u8 z) := by
  intro j hj
  by_cases h : j < ys.length
  · exact ⟨ys[j], by rw [Array.getElem?_append_left (by simpa using h)]; simp [h]⟩
  · exact ⟨0, by rw [Array.getElem?_append_right (by simp; omega)]; simp only [List.size_toArray, List.length_map]; exact u8_zero _ _ (by omega)⟩
theorem rb_app {w : World} {g : Nat} {t : TypeId} {r : Array Value} {ys : List Int} (hb : ∀ z ∈ ys, 0 ≤ z ∧ z ≤ 255) (h : w.heap[g]? = some (.cells ((ys.map (Value.int .u8)).toArray ++ r) t (0, 0))) : RB w (some ⟨g, 0, none⟩) ys.length ys :=
  ⟨rfl, hb, fun _ => ⟨_, rfl, fun j hj => by
    rw [Addr.add_mid, cell_of_row _ _ _ _ _ _ h, Nat.zero_add, Array.getElem?_append_left (by simpa using hj)]
    simp [List.getD_eq_getElem?_getD, hj]⟩⟩

/-- append onto nil: a block of bytes. -/
theorem nil_append_u8 {w : World} {ops : Array Oper} {rest : List Oper} {o : Oper} {a : Act} {Q : Exit → Act → World → Prop} (hgd : o.guard = none) (s x : Operand)
    (ho : o.op = .call { callee := .builtin .append, args := #[s, x], argTypes := #[33, 33] })
    (hs : a.eval s = .slice none 0 0) (A : Option Addr) (m c : Nat) (ys : List Int) (hx : a.eval x = .slice A m c) (hr : RB w A m ys) (hm : 0 < m) (hsz : m ≤ 140737488355328)
    (h : ∀ cap w', m ≤ cap → cap ≤ 9223372036854775807 → RB w' (some ⟨w.heap.size, 0, none⟩) m ys → U8Blk w' w.heap.size cap → Below w.heap.size w w' → w.heap.size < w'.heap.size → wpList Try.prog ops Q rest (a.put o.dst (.slice (some ⟨w.heap.size, 0, none⟩) m cap)) w') : wpList Try.prog ops Q (o :: rest) a w := by
  obtain ⟨i0, hi, hz0, hz1, hz2⟩ := info_parts info_u8
  have hlen := hr.len
  obtain ⟨ad, rfl, -⟩ := hr.cell hm
  have hrun := run_append_nil (P := Try.prog) w 33 o.type 5 i0 (.int .u8 0) Try.underlying33 hi hz0 ad m c (ys.map (Value.int .u8)) (by rw [hz1]; simpa using hlen) (rb_cells hr) hm (by omega) (by rw [hz2]; omega)
  have hge := grownCap_ge w m 0 5
  have hle := grownCap_le_maxLen w m 0 5 (by simp only [maxLen]; omega)
  simp only [maxLen] at hle
  generalize grownCap w m 0 5 = cap at hrun hge hle
  have hn := heap_alloc_new w.drew (.cells ((ys.map (Value.int .u8)).toArray ++ Builtin.zeroCells (Value.int .u8 0).cells (cap - m)) 5)
  refine wpList_app hgd s x ho _ _ _ _ hs hx hrun (h cap _ hge hle ?_ ?_ ?_ ?_)
  · have := rb_app hr.byte hn
    rw [hlen] at this
    exact this
  · exact ⟨_, _, hn, fun j hj => u8_app ys (cap - m) j (by omega)⟩
  · exact ((Below.refl _ _).drew).alloc (Nat.le_refl _) _
  · simp

/-- append that outgrows: a block of bytes. -/
theorem grow_append_u8 {w : World} {ops : Array Oper} {rest : List Oper} {o : Oper} {a : Act} {Q : Exit → Act → World → Prop} (hgd : o.guard = none) (s x : Operand)
    (ho : o.op = .call { callee := .builtin .append, args := #[s, x], argTypes := #[33, 33] })
    (b : Nat) (n cap0 : Nat) (zs : List Int) (hs : a.eval s = .slice (some ⟨b, 0, none⟩) n cap0) (hz : RB w (some ⟨b, 0, none⟩) n zs) (A : Option Addr) (m c : Nat) (ys : List Int) (hx : a.eval x = .slice A m c) (hr : RB w A m ys) (hm : 0 < m) (hg : cap0 < n + m) (hsz : n + m ≤ 140737488355328)
    (h : ∀ cap w', n + m ≤ cap → cap ≤ 9223372036854775807 → U8Blk w' w.heap.size cap → Below w.heap.size w w' → w.heap.size < w'.heap.size → wpList Try.prog ops Q rest (a.put o.dst (.slice (some ⟨w.heap.size, 0, none⟩) (n + m) cap)) w') : wpList Try.prog ops Q (o :: rest) a w := by
  obtain ⟨i0, hi, hz0, hz1, hz2⟩ := info_parts info_u8
  have hlen := hr.len
  have hlz := hz.len
  obtain ⟨ad, rfl, -⟩ := hr.cell hm
  have hrun := run_append_grow (P := Try.prog) w 33 o.type 5 i0 (.int .u8 0) Try.underlying33 hi hz0 ⟨b, 0, none⟩ n cap0 (zs.map (Value.int .u8)) (by rw [hz1]; simpa using hlz) (rb_cells hz) ad m c (ys.map (Value.int .u8)) (by rw [hz1]; simpa using hlen) (rb_cells hr) hg (by omega) (growslice_fits_wide hg (by rw [hz2]; omega))
  have hge := grownCap_ge w (n + m) cap0 5
  have hle := grownCap_le_maxLen w (n + m) cap0 5 (by simp only [maxLen]; omega)
  simp only [maxLen] at hle
  generalize grownCap w (n + m) cap0 5 = cap at hrun hge hle
  have hn := heap_alloc_new w.drew (.cells ((zs.map (Value.int .u8)).toArray ++ (ys.map (Value.int .u8)).toArray ++ Builtin.zeroCells (Value.int .u8 0).cells (cap - (n + m))) 5)
  refine wpList_app hgd s x ho _ _ _ _ hs hx hrun (h cap _ hge hle ?_ ?_ ?_)
  · refine ⟨_, _, hn, fun j hj => ?_⟩
    have := u8_app (zs ++ ys) (cap - (n + m)) j (by simp; omega)
    simpa [Value.cells] using this
  · exact ((Below.refl _ _).drew).alloc (Nat.le_refl _) _
  · simp

/-- append into a block of noughts. -/
theorem made_append_u8 {w : World} {ops : Array Oper} {rest : List Oper} {o : Oper} {a : Act} {Q : Exit → Act → World → Prop} (hgd : o.guard = none) (s x : Operand)
    (ho : o.op = .call { callee := .builtin .append, args := #[s, x], argTypes := #[33, 33] })
    (g cap : Nat) (hs : a.eval s = .slice (some ⟨g, 0, none⟩) 0 cap) (hg : w.heap[g]? = some (.cells (madeCells #[.int .u8 0] cap) 5 (0, 0))) (A : Option Addr) (m c : Nat) (ys : List Int) (hx : a.eval x = .slice A m c) (hr : RB w A m ys) (hm : 0 < m) (hroom : m ≤ cap)
    (h : ∀ w', RB w' (some ⟨g, 0, none⟩) m ys → U8Blk w' g cap → Out (fun k => k = g) w w' → wpList Try.prog ops Q rest (a.put o.dst (.slice (some ⟨g, 0, none⟩) m cap)) w') : wpList Try.prog ops Q (o :: rest) a w := by
  obtain ⟨i0, hi, hz0, hz1, hz2⟩ := info_parts info_u8
  have hlen := hr.len
  obtain ⟨ad, rfl, -⟩ := hr.cell hm
  have hmc : ∀ j, j < cap → (madeCells #[Value.int .u8 0] cap)[j]? = some (.int .u8 0) := fun j hj => by simp [madeCells, hj, Nat.mod_one]
  have hms : (madeCells #[Value.int .u8 0] cap).size = cap := by simp [size_madeCells]
  have hrun := run_append_room (P := Try.prog) w 33 o.type 5 i0 Try.underlying33 hi g 0 cap _ hg ad m c (ys.map (Value.int .u8)) (by rw [hz1]; simpa using hlen) (rb_cells hr) (bytes_oneCell ys) (by omega) (by rw [hms]; simp; omega)
  rw [Nat.zero_add, Nat.zero_mul, List.take_zero, List.nil_append, Nat.zero_add] at hrun
  obtain ⟨C, hC⟩ : ∃ C, C = (ys.map (Value.int .u8) ++ (madeCells #[Value.int .u8 0] cap).toList.drop (ys.map (Value.int .u8)).length).toArray := ⟨_, rfl⟩
  rw [← hC] at hrun
  have hn := setRow_heap w g _ C 5 (0, 0) hg
  have hn2 : (w.setRow g C).heap[g]? = some (.cells ((ys.map (Value.int .u8)).toArray ++ ((madeCells #[Value.int .u8 0] cap).toList.drop (ys.map (Value.int .u8)).length).toArray) 5 (0, 0)) := by
    rw [hn, hC]; simp
  refine wpList_app hgd s x ho _ _ _ _ hs hx hrun (h _ ?_ ?_ ?_)
  · have := rb_app hr.byte hn2
    rw [hlen] at this
    exact this
  · refine ⟨_, _, hn, fun j hj => ?_⟩
    rw [hC]
    by_cases h1 : j < ys.length
    · exact ⟨ys[j], by rw [List.getElem?_toArray, List.getElem?_append_left (by simpa using h1)]; simp [h1]⟩
    · refine ⟨0, ?_⟩
      rw [List.getElem?_toArray, List.getElem?_append_right (by simp; omega), List.getElem?_drop]
      have := hmc j hj
      simp only [List.length_map]
      rw [show ys.length + (j - ys.length) = j by omega]
      simpa using this
  · exact ⟨rfl, rfl, rfl, by simp, fun k _ hk => setRow_other w g k _ hk⟩

theorem u8_full {base g n : Nat} {w : World} {zs : List Int} (h : OB base w (.slice (some ⟨g, 0, none⟩) n n) zs) (hn : zs.length = n) : U8Blk w g n := by
  obtain ⟨h1, h2⟩ := h.own
  have h3 := h.own
  rcases h2 with ⟨e, _⟩ | ⟨g', cap', cur, e, _, hh, _, _, _, ht⟩
  · cases e
  · injection e with e1 e2 e3
    injection e1 with e1
    injection e1 with e1
    subst e1
    refine ⟨cur, _, hh, fun j hj => ⟨zs.getD j 0, ?_⟩⟩
    rw [← cell_of_row w g j cur _ (0, 0) hh]
    subst hn
    rw [h3.cellAt j (by omega)]
    simp [List.getD_eq_getElem?_getD, List.getElem?_eq_getElem hj]
theorem u8_block {w : World} {g : Nat} {t : TypeId} {zs : List Int} {n : Nat} (h : w.heap[g]? = some (.cells (bc zs).toArray t (0, 0))) (hn : zs.length = n) : U8Blk w g n :=
  ⟨_, _, h, fun j hj => ⟨zs[j]'(by omega), by simp [bc, show j < zs.length by omega]⟩⟩

/-- What Image leaves, with its block. -/
def ImageR (w : World) (l : List Cn) (e : Ending) (w' : World) : Prop :=
  ∃ v5, e = .returned (.tuple #[.slice (some ⟨w.heap.size, 0, none⟩) (l.length * 64) (l.length * 64), v5]) ∧ OB w.heap.size w' (.slice (some ⟨w.heap.size, 0, none⟩) (l.length * 64) (l.length * 64)) (imgB l) ∧ Below w.heap.size w w'

end Go.Proofs.Ythpbcibjohakkaa

/- slices.Grow of nil, slices.Concat: bytes behind each other in new memory. -/
namespace Go.Proofs.Ythpbcibjohakkaa
set_option maxRecDepth 100000
set_option maxRecDepth 100000
open Go.RowKit

/-- What makes bytes hands back. -/
def MadeB (w : World) (zs : List Int) (e : Ending) (w' : World) : Prop := ∃ v, e = .returned v ∧ OB w.heap.size w' v zs ∧ Below w.heap.size w w'

theorem list_app_run {w W : World} {ops : Array Oper} {rest : List Oper} {o : Oper} {a : Act} {Q : Exit → Act → World → Prop} (hgd : o.guard = none) (s x : Operand) (t1 t2 : TypeId)
    (ho : o.op = .call { callee := .builtin .append, args := #[s, x], argTypes := #[t1, t2] }) (u y v : Value) (hs : a.eval s = u) (hx : a.eval x = y)
    (hrun : ∀ ty, (Builtin.append_ #[t1, t2] ty #[u, y]).run Try.prog w = .ok v W) (h : wpList Try.prog ops Q rest (a.put o.dst v) W) : wpList Try.prog ops Q (o :: rest) a w := by
  refine wpList_plain hgd fun K hK => ?_
  unfold Oper.wp
  simp [execOp, ho, resolve, invoke, builtin, hs, hx, hrun, Result.andThen]
  exact hK _ _ h

set_option maxHeartbeats 2000000 in
theorem wgrowNil (w : World) (n : Nat) (hn : n ≤ 1048576) : Calls Try.prog 79 #[.slice none 0 0, .int .i64 (n : Int)] w (MadeB w []) := by
  by_cases h0 : n = 0
  · subst h0
    go_enter Try.func79, Try.ntmps79
    go_wp2
    go_ret
    exact ⟨_, rfl, OB.nil _ _, Below.refl _ _⟩
  · obtain ⟨i0, hi, hz0, hz1, hz2⟩ := info_parts info_u8
    have hfit : Builtin.nextslicecap (0 + n) 0 * i0.bytes ≤ 281474976710656 := by
      rw [hz2]
      have : Builtin.nextslicecap (0 + n) 0 = n := by unfold Builtin.nextslicecap; simp; omega
      rw [this]; omega
    have hrun := fun ty => Lib.run_append_grow_zeros (P := Try.prog) w 33 3 ty 5 i0 (.int .u8 0) .i64 .i64 Try.underlying33 Try.underlying3 hi hz0 none 0 0 [] (by simp [Builtin.firstCells]) n (by omega) (by rw [hz1]; decide) (by omega) (by omega) (by rw [hz2]; omega) hfit
    have hge := grownCap_ge w (0 + n) 0 5
    have hle := grownCap_le_maxLen w (0 + n) 0 5 (by simp only [maxLen]; omega)
    generalize grownCap w (0 + n) 0 5 = cap at hrun hge hle
    obtain ⟨W, hW⟩ : ∃ W, W = w.drew.alloc (.cells ((([] : List Value).toArray ++ Builtin.zeroCells (Value.int .u8 0).cells n ++ Builtin.zeroCells (Value.int .u8 0).cells (cap - (0 + n)))) 5) := ⟨_, rfl⟩
    rw [← hW] at hrun
    rw [Nat.zero_add] at hrun hge
    have HO := Lib.hid (show OB w.heap.size W (.slice (some ⟨w.heap.size, 0, none⟩) 0 cap) [] from ⟨⟨rfl, .inr ⟨w.heap.size, cap, _, rfl, Nat.le_refl _, by rw [hW]; exact heap_alloc_new w.drew _, Nat.zero_le _, hle, by simp [size_zeroCells, Value.cells]; omega, by simp⟩⟩, by simp⟩)
    have HB := Lib.hid (show Below w.heap.size w W by rw [hW]; exact ((Below.refl w.heap.size w).drew).alloc (Nat.le_refl w.heap.size) _)
    have h1 : (0 : Int) < (n : Int) := by omega
    have hc0 : ¬ cap = 0 := by omega
    have hw1 : IntKind.i64.wrap (n : Int) = (n : Int) := by rw [IntKind.wrap_i64]; omega
    have h2 : ¬ (n : Int) < 0 := by omega
    have HR := Lib.hid hrun
    clear hrun hW hfit hi hz0 hz1 hz2 hge hle
    go_enter Try.func79, Try.ntmps79
    go_wp2_with (at_builtin; refine list_app_run (by rfl) (.tmp 20) (.tmp 21) 33 3 (by rfl) (.slice none 0 0) (.int .i64 (n : Int)) _ (by rfl) (by rfl) HR.out ?_)
    go_ret
    exact ⟨_, rfl, HO.out, HB.out⟩

/-- A part: bytes that a slice in a row leads to. -/
structure Part where
  A : Option Addr
  n : Nat
  c : Nat
  z : List Int
def Part.v (p : Part) : Value := .slice p.A p.n p.c
structure PartsAt (w : World) (g : Nat) (ps : List Part) : Prop where
  row : w.heap[g]? = some (.cells (ps.map Part.v).toArray 33 (0, 0))
  is : ∀ p ∈ ps, RB w p.A p.n p.z
theorem PartsAt.below {w w' : World} {g : Nat} {ps : List Part} (h : PartsAt w g ps) (hb : Below w.heap.size w w') : PartsAt w' g ps :=
  ⟨(hb.block g (Array.getElem?_eq_some_iff.1 h.row).1).trans h.row, fun p hp => (h.is p hp).below' hb⟩
theorem PartsAt.cell {w : World} {g : Nat} {ps : List Part} (h : PartsAt w g ps) {j : Nat} {p : Part} (hp : ps[j]? = some p) : w.cell? ⟨g, j, none⟩ = some (.slice p.A p.n p.c) := by
  rw [cell_of_row _ _ _ _ _ _ h.row]
  simp [hp, Part.v]
def sumN (ps : List Part) : Nat := (ps.map Part.n).sum
theorem sumN_snoc (ps : List Part) (p : Part) : sumN (ps ++ [p]) = sumN ps + p.n := by simp [sumN]
theorem sumN_take (ps : List Part) (j : Nat) : sumN (ps.take j) ≤ sumN ps := by
  have : sumN ps = sumN (ps.take j) + sumN (ps.drop j) := by
    unfold sumN
    rw [← List.sum_append, ← List.map_append, List.take_append_drop]
  omega
theorem flat_len_sum {w : World} {ps : List Part} (h : ∀ p ∈ ps, RB w p.A p.n p.z) : (ps.flatMap Part.z).length = sumN ps := by
  induction ps with
  | nil => rfl
  | cons p ps ih =>
    rw [List.flatMap_cons, List.length_append, (h p (List.mem_cons_self ..)).len, ih fun q hq => h q (List.mem_cons_of_mem _ hq)]
    simp [sumN]

set_option maxHeartbeats 4000000 in
theorem wconcat (w : World) (g : Nat) (ps : List Part) (k : Nat) (h : PartsAt w g ps) (hk : ps.length = k) (hk2 : k ≤ 1048576) (hs : sumN ps ≤ 1048576) :
    Calls Try.prog 69 #[.slice (some ⟨g, 0, none⟩) k k] w (MadeB w (ps.flatMap Part.z)) := by
  have H := Lib.hid h
  have HK := Lib.hid hk
  have HS := Lib.hid hs
  have hki : (k : Int) ≤ 1048576 := by omega
  clear h hk hs hk2
  go_enter Try.func69, Try.ntmps69
  go_upto_region 3 with fail
  go_loopw [3, 11] (fun sz i wr => ∃ j : Nat, i = .int .i64 (j : Nat) ∧ sz = .int .i64 (sumN (ps.take j) : Nat) ∧ j ≤ k ∧ wr = w) (fun _ i _ => k - (intOf i).toNat)
  case atStart => exact ⟨0, rfl, rfl, Nat.zero_le _, rfl⟩
  case round =>
    obtain ⟨j, rfl, rfl, hj, rfl⟩ := hrel
    by_cases hlt : j < k
    · obtain ⟨p, hp⟩ : ∃ p, ps[j]? = some p := ⟨_, List.getElem?_eq_getElem (by rw [HK.out]; exact hlt)⟩
      have c0 := H.out.cell hp
      have HN := Lib.hid (show sumN (ps.take (j + 1)) = sumN (ps.take j) + p.n by rw [List.take_add_one, hp, Option.toList_some, sumN_snoc])
      obtain ⟨u, hu⟩ : ∃ u, sumN (ps.take j) = u := ⟨_, rfl⟩
      rw [hu] at HN ⊢
      have hub : (u : Int) + (p.n : Int) ≤ 1048576 := by have h1 := HN.out; have h2 := sumN_take ps (j + 1); have h3 := HS.out; omega
      have hnn : ¬ (u : Int) + (p.n : Int) < 0 := by omega
      have hki2 : (j : Int) < (k : Int) := by omega
      have HJ := Lib.hid hlt
      clear hp hlt hj hu
      go_wp2
      go_roundw
      case rel => exact ⟨j + 1, by go_num, by rw [HN.out]; go_num, HJ.out, by first | rfl | trivial⟩
      case measure => have := HJ.out; simp [intOf]; omega
    · obtain rfl : j = k := by omega
      have hall : ps.take j = ps := List.take_of_length_le (by rw [HK.out]; exact Nat.le_refl _)
      rw [hall]
      have CG := Lib.hid (wgrowNil wr (sumN ps) HS.out)
      unfold MadeB at CG
      clear hall hlt hj
      go_upto_region 10 with (go_at_call 79; go_loud (refine CG.out.mono ?_; rintro e w1 ⟨v, rfl, o1, b1⟩; have O1 := Lib.hid o1; have B1 := Lib.hid b1; clear o1 b1 CG))
      go_upto_region 11 with fail
      go_loopw [6, 27] (fun v i w2 => ∃ k : Nat, i = .int .i64 (k : Nat) ∧ k ≤ j ∧ OB wr.heap.size w2 v ((ps.take k).flatMap Part.z) ∧ Below wr.heap.size wr w2) (fun _ i _ => j - (intOf i).toNat)
      case atStart => exact ⟨0, rfl, Nat.zero_le _, O1.out, B1.out⟩
      case round =>
        rename World => w2
        obtain ⟨k, rfl, hk, hO, hB⟩ := hrel
        by_cases hlt : k < j
        · obtain ⟨p, hp⟩ : ∃ p, ps[k]? = some p := ⟨_, List.getElem?_eq_getElem (by rw [HK.out]; exact hlt)⟩
          have H2 := H.out.below hB
          have c0 := H2.cell hp
          have HR := Lib.hid (H2.is p (List.mem_of_getElem? hp))
          have HN := Lib.hid (show (ps.take (k + 1)).flatMap Part.z = (ps.take k).flatMap Part.z ++ p.z by rw [List.take_add_one, hp, Option.toList_some]; simp)
          have HSZ := Lib.hid (show ((ps.take k).flatMap Part.z).length + p.n ≤ 140737488355328 by
            rw [flat_len_sum (fun q hq => H.out.is q (List.mem_of_mem_take hq))]
            have h1 := sumN_take ps (k + 1)
            rw [List.take_add_one, hp, Option.toList_some, sumN_snoc] at h1
            have h2 := HS.out
            omega)
          have hki2 : (k : Int) < (j : Int) := by omega
          have HJ := Lib.hid hlt
          have HO := Lib.hid hO
          have HB := Lib.hid hB
          obtain ⟨zs, hzs⟩ : ∃ zs, (ps.take k).flatMap Part.z = zs := ⟨_, rfl⟩
          rw [hzs] at HO HN HSZ
          clear hp hlt hk H2 hO hB hzs
          go_wp2_with (at_builtin; refine ob_append rfl (.tmp 31) (.tmp 32) rfl wr.heap.size _ zs rfl HO.out p.A p.n p.c p.z rfl HR.out HSZ.out HB.out.size ?_; intro v3 w3 o3 b3 g3; have O3 := Lib.hid o3; have B3 := Lib.hid (HB.out.trans b3); clear o3 b3 g3)
          go_roundw
          case rel => exact ⟨k + 1, by go_num, HJ.out, by rw [HN.out]; exact O3.out, B3.out⟩
          case measure => have := HJ.out; simp [intOf]; omega
        · obtain rfl : k = j := by omega
          have hall : ps.take k = ps := List.take_of_length_le (by rw [HK.out]; exact Nat.le_refl _)
          rw [hall] at hO
          have HO := Lib.hid hO
          have HB := Lib.hid hB
          clear hall hlt hk hO hB
          go_wp2
          go_ret
          exact ⟨_, rfl, HO.out, HB.out⟩
end Go.Proofs.Ythpbcibjohakkaa
