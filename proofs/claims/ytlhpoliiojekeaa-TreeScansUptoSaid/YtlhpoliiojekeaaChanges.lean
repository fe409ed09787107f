/- changes: a Put or a Delete in a tree and in what it must have. -/
import Derived.Test.YtlhpoliiojekeaaLook
import Derived.Test.YtlhpoliiojekeaaRef5B
import Derived.Test.YtlhpoliiojekeaaDel
import Derived.Deep.RegionLaw
namespace Go.Proofs.Ytlhpoliiojekeaa
set_option maxRecDepth 100000
open Go.RowKit

/-- An operation. -/
structure OpT where
  kind : Int
  other : Bool
  k : ByteArray
  k2 : ByteArray
  v : Int
  i : Int
  beyond : Bool
def OpT.val (o : OpT) : Value := .agg #[.int .i64 o.kind, .bool o.other, .string o.k, .string o.k2, .int .i64 o.v, .int .i64 o.i, .bool o.beyond]
/-- What an operation makes of the pairs. -/
def chP (o : OpT) (ps : List Pr) : List Pr := if o.kind = 0 then putP ps o.k o.v else delP ps o.k
theorem chP_len (o : OpT) (ps : List Pr) : (chP o ps).length ≤ ps.length + 1 := by
  unfold chP
  split
  · have := putP_len ps o.k o.v; split at this <;> omega
  · have := delP_len ps o.k; omega

/-- A tree in memory and what it must have, in block u at offset f. -/
structure On (w : World) (u f T ord : Nat) (B : Option Addr) (m d : Nat) (P : List Pr) : Prop where
  c0 : w.cell? ⟨u, f, none⟩ = some (.pointer (some ⟨T, 0, none⟩))
  c1 : w.cell? ⟨u, f + 1, none⟩ = some (.slice B m d)
  fz : w.frozen? ⟨u, f + 1, none⟩ = false
  fo : Fo w u
  tr : TreeAt w T ord P
  pb : PB w B m P
  md : m ≤ d
  ne : u ≠ T
theorem fz_below {w w' : World} {p : Addr} {v : Value} (h : Gw w w') (hc : w.cell? p = some v) : w'.frozen? p = w.frozen? p := World.frozen?_of_block (Below.block h _ (World.block_lt_of_cell? w p hc))
theorem Fo.gw {w w' : World} {u : Nat} (h : Fo w u) (g : Gw w w') : Fo w' u := by
  obtain ⟨cs, e, fr, h1, h2⟩ := h
  exact ⟨cs, e, fr, (Below.block g u (Array.getElem?_eq_some_iff.1 h1).1).trans h1, h2⟩
theorem Fo.xt {w w' : World} {u U : Nat} (h : Fo w u) (g : Xt U w w') (hne : u ≠ U) : Fo w' u := by
  obtain ⟨cs, e, fr, h1, h2⟩ := h
  exact ⟨cs, e, fr, (g.block u (Array.getElem?_eq_some_iff.1 h1).1 hne).trans h1, h2⟩
theorem Fo.set {w : World} {u : Nat} (h : Fo w u) (i : Nat) (v : Value) : Fo (w.setCell ⟨u, i, none⟩ v) u := by
  obtain ⟨cs, e, fr, h1, h2⟩ := h
  refine ⟨cs.setIfInBounds i v, e, fr, ?_, h2⟩
  simp [World.setCell, Array.getElem?_modify, h1]
theorem On.gw {w w' : World} {u f T ord : Nat} {B : Option Addr} {m d : Nat} {P : List Pr} (h : On w u f T ord B m d P) (g : Gw w w') : On w' u f T ord B m d P :=
  ⟨keep_below h.c0 g, keep_below h.c1 g, by rw [fz_below g h.c1]; exact h.fz, h.fo.gw g, h.tr.below g, h.pb.gw g, h.md, h.ne⟩
theorem On.drew {w : World} {u f T ord : Nat} {B : Option Addr} {m d : Nat} {P : List Pr} (h : On w u f T ord B m d P) : On w.drew u f T ord B m d P := h.gw ((Gw.refl _).drew)
/-- What changes: the tree's block, the struct's block; all else that was there is as before. -/
structure X2 (T u : Nat) (w w' : World) : Prop where
  os : w'.os = w.os
  tape : w'.tape = w.tape
  output : w'.output = w.output
  size : w.heap.size ≤ w'.heap.size
  block : ∀ k, k < w.heap.size → k ≠ T → k ≠ u → w'.heap[k]? = w.heap[k]?
theorem Gw.x2 {w w' : World} (h : Gw w w') (T u : Nat) : X2 T u w w' := ⟨Below.os h, Below.tape h, Below.output h, Below.size h, fun k hk _ _ => Below.block h k hk⟩
theorem Xt.x2 {w w' : World} {T : Nat} (h : Xt T w w') (u : Nat) : X2 T u w w' := ⟨h.os, h.tape, h.output, h.size, fun k hk h1 _ => h.block k hk h1⟩
theorem Xt.x2u {w w' : World} {u : Nat} (h : Xt u w w') (T : Nat) : X2 T u w w' := ⟨h.os, h.tape, h.output, h.size, fun k hk _ h1 => h.block k hk h1⟩
theorem X2.trans {T u : Nat} {a b c : World} (h : X2 T u a b) (k : X2 T u b c) : X2 T u a c :=
  ⟨k.os.trans h.os, k.tape.trans h.tape, k.output.trans h.output, Nat.le_trans h.size k.size, fun i hi h1 h2 => (k.block i (Nat.lt_of_lt_of_le hi h.size) h1 h2).trans (h.block i hi h1 h2)⟩
theorem X2.below {w0 w w' : World} {T u : Nat} (h0 : Gw w0 w) (h : X2 T u w w') (hT : w0.heap.size ≤ T) (hu : w0.heap.size ≤ u) : Gw w0 w' :=
  Below.trans h0 ⟨h.os, h.tape, h.output, h.size, fun k hk => h.block k (Nat.lt_of_lt_of_le hk (Below.size h0)) (by omega) (by omega)⟩
/-- Of block u but the cell g all is as before. -/
def Cb (u g : Nat) (w w' : World) : Prop := (∀ i, i ≠ g → w'.cell? ⟨u, i, none⟩ = w.cell? ⟨u, i, none⟩) ∧ ∀ i, w'.frozen? ⟨u, i, none⟩ = w.frozen? ⟨u, i, none⟩
theorem Cb.of_block {u g : Nat} {w w' : World} (h : w'.heap[u]? = w.heap[u]?) : Cb u g w w' := ⟨fun _ _ => World.cell?_of_block h, fun _ => World.frozen?_of_block h⟩
theorem Cb.trans {u g : Nat} {a b c : World} (h : Cb u g a b) (k : Cb u g b c) : Cb u g a c := ⟨fun i hi => (k.1 i hi).trans (h.1 i hi), fun i => (k.2 i).trans (h.2 i)⟩
theorem Cb.set {u g : Nat} (w : World) (v : Value) : Cb u g w (w.setCell ⟨u, g, none⟩ v) :=
  ⟨fun i hi => World.cell?_setCell_other w _ _ v (fun e => hi (by injection e with _ e2 _; exact e2.symm)), fun i => World.frozen?_setCell _ _ _ _⟩
theorem Fo.lt {w : World} {u : Nat} (h : Fo w u) : u < w.heap.size := by
  obtain ⟨cs, e, fr, h1, -⟩ := h
  exact (Array.getElem?_eq_some_iff.1 h1).1
/-- What a change leaves. -/
def ChIs (u f T ord : Nat) (Q : List Pr) (w w' : World) : Prop := ∃ B m d, On w' u f T ord B m d Q ∧ X2 T u w w' ∧ Cb u (f + 1) w w'

set_option maxHeartbeats 16000000 in
theorem wchanges {w : World} {u f T ord m d : Nat} {B : Option Addr} {P : List Pr} (h : On w u f T ord B m d P) (hp : P.length ≤ 3000000) (o : OpT) :
    Calls Try.prog 11 #[.pointer (some ⟨u, f, none⟩), o.val] w fun e w' => e = .returned (.bool true) ∧ ChIs u f T ord (chP o P) w w' := by
  obtain ⟨kind, other, k, k2, z, i, bey⟩ := o
  unfold OpT.val chP
  simp only
  obtain ⟨W, hW⟩ : ∃ W, w.alloc (.cells #[.int .i64 kind, .bool other, .string k, .string k2, .int .i64 z, .int .i64 i, .bool bey] 33) = W := ⟨_, rfl⟩
  have ha := heap_alloc_new w (.cells #[.int .i64 kind, .bool other, .string k, .string k2, .int .i64 z, .int .i64 i, .bool bey] 33)
  rw [hW] at ha
  have hG := Lib.hid (show Gw w W by rw [← hW]; exact (Gw.refl _).alloc _)
  have c0 : W.cell? ⟨w.heap.size, 0, none⟩ = some (.int .i64 kind) := by rw [cell_of_row _ _ _ _ _ _ ha]; rfl
  have c2 : W.cell? ⟨w.heap.size, 2, none⟩ = some (.string k) := by rw [cell_of_row _ _ _ _ _ _ ha]; rfl
  have c4 : W.cell? ⟨w.heap.size, 4, none⟩ = some (.int .i64 z) := by rw [cell_of_row _ _ _ _ _ _ ha]; rfl
  have hTl := h.tr.lt
  have hul := h.fo.lt
  have HOn := Lib.hid (h.gw hG.out)
  have u0 := HOn.out.c0
  have u1 := HOn.out.c1
  have HML := Lib.hid h.pb.1
  have CH := Lib.hid fun n => wrefHas (c := d) (HOn.out.gw ((Gw.refl W).drewN n)).pb (by have := h.pb.1; omega) k
  have hne1 : w.heap.size ≠ T := by omega
  have hne2 : w.heap.size ≠ u := by omega
  have hne3 : u ≠ w.heap.size := by omega
  have hut := h.ne
  have MID := Lib.hid (show ∀ w6 Bq mq dq, Gw W w6 → w6.cell? ⟨u, f + 1, none⟩ = some (.slice B m d) ∧ w6.frozen? ⟨u, f + 1, none⟩ = false ∧ (w6.setCell ⟨u, f + 1, none⟩ (.slice Bq mq dq)).cell? ⟨u, f, none⟩ = some (.pointer (some ⟨T, 0, none⟩)) ∧ (w6.setCell ⟨u, f + 1, none⟩ (.slice Bq mq dq)).cell? ⟨w.heap.size, 2, none⟩ = some (.string k) ∧ (w6.setCell ⟨u, f + 1, none⟩ (.slice Bq mq dq)).cell? ⟨w.heap.size, 4, none⟩ = some (.int .i64 z) ∧ TreeAt (w6.setCell ⟨u, f + 1, none⟩ (.slice Bq mq dq)) T ord P from fun w6 Bq mq dq g6 => by
    have o6 := HOn.out.gw g6
    have xs : Xt u w6 (w6.setCell ⟨u, f + 1, none⟩ (.slice Bq mq dq)) := Xt.set (Gw.refl _) _ _
    exact ⟨o6.c1, o6.fz, by rw [(Cb.set w6 _).1 f (by omega)]; exact o6.c0, xs.cell (keep_below c2 g6) hne2, xs.cell (keep_below c4 g6) hne2, o6.tr.xt xs o6.fo hut.symm⟩)
  have FIN := Lib.hid (show ∀ Q w6 Bq mq dq w8, Gw W w6 → PB w6 Bq mq Q → mq ≤ dq → TreeAt w8 T ord Q → Xt T (w6.setCell ⟨u, f + 1, none⟩ (.slice Bq mq dq)) w8 → ChIs u f T ord Q w w8 from fun Q w6 Bq mq dq w8 g6 p6 l6 t8 x8 => by
    have o6 := HOn.out.gw g6
    have xs : Xt u w6 (w6.setCell ⟨u, f + 1, none⟩ (.slice Bq mq dq)) := Xt.set (Gw.refl _) _ _
    have tx := o6.tr.xt xs o6.fo hut.symm
    have fo7 := o6.fo.set (f + 1) (.slice Bq mq dq)
    have hb8 : w8.heap[u]? = (w6.setCell ⟨u, f + 1, none⟩ (.slice Bq mq dq)).heap[u]? := x8.block u fo7.lt hut
    have g := hG.out.trans g6
    have cb1 : Cb u (f + 1) w w6 := Cb.of_block (Below.block g u hul)
    have cb : Cb u (f + 1) w w8 := (cb1.trans (Cb.set w6 _)).trans (Cb.of_block hb8)
    refine ⟨Bq, mq, dq, ⟨?_, ?_, ?_, fo7.xt x8 hut, t8, x8.pb tx.fo (xs.pb o6.fo p6), l6, hut⟩, ((g.x2 T u).trans (xs.x2u T)).trans (x8.x2 u), cb⟩
    · rw [World.cell?_of_block hb8, (Cb.set w6 _).1 f (by omega)]; exact o6.c0
    · rw [World.cell?_of_block hb8]; exact World.cell?_setCell_same _ _ _ o6.c1
    · rw [World.frozen?_of_block hb8, World.frozen?_setCell]; exact o6.fz)
  have HP := Lib.hid hp
  have HMD := Lib.hid h.md
  have HNE := Lib.hid (And.intro hne1 (And.intro hne2 hut))
  clear ha h hTl hul hne1 hne3 hut
  by_cases hk : kind = 0
  · rw [if_pos hk]
    subst hk
    go_enter Try.func11, Try.ntmps11
    go_upto_region 1 with fail
    clear hW hne2
    cases hh : has (keys P) k <;>
    · rw [hh] at CH
      have HH := Lib.hid hh
      clear hh
      go_quiet ((go_at_call 18; exact Calls.quiet_of_same (CH.out _)))
      go_upto_region 2 with fail
      obtain ⟨X, hX⟩ : ∃ X, W.drewN nq = X := ⟨_, rfl⟩
      have GX := Lib.hid (show Gw W X by rw [← hX]; exact (Gw.refl _).drewN _)
      rw [hX]
      have x0 := keep_below c0 GX.out
      have x2 := keep_below c2 GX.out
      have x4 := keep_below c4 GX.out
      have y0 := keep_below u0 GX.out
      have y1 := keep_below u1 GX.out
      clear hX c0 c2 c4 u0 u1 CH
      have hS0 : X.cell? ⟨w.heap.size, 2, none⟩ = some (.string k) ∧ X.cell? ⟨w.heap.size, 4, none⟩ = some (.int .i64 z) := ⟨x2, x4⟩
      have CRP := Lib.hid (wrefPut (c := d) (HOn.out.gw (GX.out.trans ((Gw.refl X).drew))).pb (by have := HML.out; have := HP.out; omega) HMD.out k z)
      go_upto_region 3 with fail
      obtain ⟨Sp, hSp⟩ : ∃ Sp : World → Prop, ∀ w', Sp w' ↔ (w'.cell? ⟨w.heap.size, 2, none⟩ = some (.string k) ∧ w'.cell? ⟨w.heap.size, 4, none⟩ = some (.int .i64 z)) := ⟨_, fun _ => Iff.rfl⟩
      have hSX : Sp X.drew := (hSp _).2 hS0
      refine wp_region_noPanic ?_
      refine wp_region_held (S := Sp) (by kernel_rfl) ?_
      change wpAnyH _ _ _ _ _ _ _ _ X.drew
      refine take_read 0 20 (.pointer (some ⟨u, f, none⟩)) rfl rfl (by kernel_rfl) (by kernel_rfl) (by kernel_rfl) (fun _ _ _ h => h) (by rfl) hSX (fun w' hS => by obtain ⟨e0, e1⟩ := (hSp w').1 hS; (go_simp; try omega)) ?_
      simp only [Act.put, List.setIfInBounds_toArray, List.set_cons_zero, List.set_cons_succ]
      refine take_read 1 21 (.pointer (some ⟨u, f, none⟩)) rfl rfl (by kernel_rfl) (by kernel_rfl) (by kernel_rfl) (fun _ _ _ h => h) (by rfl) hSX (fun w' hS => by obtain ⟨e0, e1⟩ := (hSp w').1 hS; (go_simp; try omega)) ?_
      simp only [Act.put, List.setIfInBounds_toArray, List.set_cons_zero, List.set_cons_succ]
      refine take_read 2 22 (.pointer (some ⟨u, f, none⟩)) rfl rfl (by kernel_rfl) (by kernel_rfl) (by kernel_rfl) (fun _ _ _ h => h) (by rfl) hSX (fun w' hS => by obtain ⟨e0, e1⟩ := (hSp w').1 hS; (go_simp; try omega)) ?_
      simp only [Act.put, List.setIfInBounds_toArray, List.set_cons_zero, List.set_cons_succ]
      refine take_read 3 23 (.pointer (some ⟨u, f + 1, none⟩)) rfl rfl (by kernel_rfl) (by kernel_rfl) (by kernel_rfl) (fun _ _ _ h => h) (by rfl) hSX (fun w' hS => by obtain ⟨e0, e1⟩ := (hSp w').1 hS; (go_simp; try omega)) ?_
      simp only [Act.put, List.setIfInBounds_toArray, List.set_cons_zero, List.set_cons_succ]
      refine take_read 5 25 (.pointer (some ⟨w.heap.size, 2, none⟩)) rfl rfl (by kernel_rfl) (by kernel_rfl) (by kernel_rfl) (fun _ _ _ h => h) (by rfl) hSX (fun w' hS => by obtain ⟨e0, e1⟩ := (hSp w').1 hS; (go_simp; try omega)) ?_
      simp only [Act.put, List.setIfInBounds_toArray, List.set_cons_zero, List.set_cons_succ]
      refine take_read 6 26 (.string k) rfl rfl (by kernel_rfl) (by kernel_rfl) (by kernel_rfl) (fun _ _ _ h => h) (by rfl) hSX (fun w' hS => by obtain ⟨e0, e1⟩ := (hSp w').1 hS; (go_simp; try omega)) ?_
      simp only [Act.put, List.setIfInBounds_toArray, List.set_cons_zero, List.set_cons_succ]
      refine take_read 7 27 (.pointer (some ⟨w.heap.size, 4, none⟩)) rfl rfl (by kernel_rfl) (by kernel_rfl) (by kernel_rfl) (fun _ _ _ h => h) (by rfl) hSX (fun w' hS => by obtain ⟨e0, e1⟩ := (hSp w').1 hS; (go_simp; try omega)) ?_
      simp only [Act.put, List.setIfInBounds_toArray, List.set_cons_zero, List.set_cons_succ]
      refine take_read 8 28 (.int .i64 z) rfl rfl (by kernel_rfl) (by kernel_rfl) (by kernel_rfl) (fun _ _ _ h => h) (by rfl) hSX (fun w' hS => by obtain ⟨e0, e1⟩ := (hSp w').1 hS; (go_simp; try omega)) ?_
      simp only [Act.put, List.setIfInBounds_toArray, List.set_cons_zero, List.set_cons_succ]
      refine wpAnyH_ready (rs := [4]) (by kernel_rfl) (by simp) ?_
      refine AllReadyH.cons rfl (fun K hK => ?_) AllReadyH.nil
      go_simp
      refine hK.out _ _ hSX (fun _ => ?_)
      clear hK K
      try simp only [Act.put, List.setIfInBounds_toArray, List.set_cons_zero, List.set_cons_succ]
      refine wpAnyH_ready (rs := [9]) (by kernel_rfl) (by simp) ?_
      refine AllReadyH.cons rfl (fun K hK => ?_) AllReadyH.nil
      go_simp
      go_at_call 26
      refine CRP.out.mono ?_
      rintro e w6 ⟨v6, rfl, o6, g6⟩
      obtain ⟨B6, d6, rfl, p6, l6, -⟩ := o6.form
      have K6 := Lib.hid (show Gw X w6 from ((Gw.refl X).drew).trans g6)
      have P6 := Lib.hid p6
      have L6 := Lib.hid l6
      obtain ⟨m6, hm6⟩ : ∃ m6, (putP P k z).length = m6 := ⟨_, rfl⟩
      rw [hm6] at P6 L6
      have M7 := Lib.hid (MID.out w6 B6 m6 d6 (GX.out.trans K6.out))
      have s1 := M7.out.1
      have s2 := M7.out.2.1
      rw [hm6]
      clear o6 g6 p6 l6 CRP hm6
      have hS6 : Sp w6 := (hSp _).2 ⟨keep_below x2 K6.out, keep_below x4 K6.out⟩
      refine hK.out _ _ hS6 (fun _ => ?_)
      clear hK K
      try simp only [Act.put, List.setIfInBounds_toArray, List.set_cons_zero, List.set_cons_succ]
      refine take_read 10 30 (.pointer (some ⟨u, f, none⟩)) rfl rfl (by kernel_rfl) (by kernel_rfl) (by kernel_rfl) (fun _ _ _ h => h) (by rfl) hS6 (fun w' hS => by obtain ⟨e0, e1⟩ := (hSp w').1 hS; (go_simp; try omega)) ?_
      simp only [Act.put, List.setIfInBounds_toArray, List.set_cons_zero, List.set_cons_succ]
      refine take_read 11 31 (.pointer (some ⟨u, f + 1, none⟩)) rfl rfl (by kernel_rfl) (by kernel_rfl) (by kernel_rfl) (fun _ _ _ h => h) (by rfl) hS6 (fun w' hS => by obtain ⟨e0, e1⟩ := (hSp w').1 hS; (go_simp; try omega)) ?_
      simp only [Act.put, List.setIfInBounds_toArray, List.set_cons_zero, List.set_cons_succ]
      refine wpAnyH_ready (rs := [12]) (by kernel_rfl) (by simp) ?_
      refine AllReadyH.cons rfl (fun K hK => ?_) AllReadyH.nil
      go_simp
      refine hK.out _ _ ((hSp _).2 ⟨M7.out.2.2.2.1, M7.out.2.2.2.2.1⟩) (fun _ => ?_)
      clear hK K hSX hS6
      try simp only [Act.put, List.setIfInBounds_toArray, List.set_cons_zero, List.set_cons_succ]
      refine wpAnyH_done (by kernel_rfl) ?_ _
      refine NoPanic.normal ?_
      generalize hX7 : World.setCell w6 _ _ = X7
      rw [hX7] at M7
      have FIN7 := Lib.hid (show ∀ w8, TreeAt w8 T ord (putP P k z) → Xt T X7 w8 → ChIs u f T ord (putP P k z) w w8 from fun w8 t8 x8 => FIN.out _ w6 B6 m6 d6 w8 (GX.out.trans K6.out) P6.out L6.out t8 (by rw [hX7]; exact x8))
      have KP8 := Lib.hid (show ∀ w8, Xt T X7 w8 → w8.cell? ⟨u, f, none⟩ = some (.pointer (some ⟨T, 0, none⟩)) ∧ w8.cell? ⟨w.heap.size, 2, none⟩ = some (.string k) ∧ w8.cell? ⟨w.heap.size, 4, none⟩ = some (.int .i64 z) from fun w8 x8 => ⟨x8.cell M7.out.2.2.1 HNE.out.2.2, x8.cell M7.out.2.2.2.1 HNE.out.1, x8.cell M7.out.2.2.2.2.1 HNE.out.1⟩)
      have CT := Lib.hid (wputT (M7.out.2.2.2.2.2.below ((Gw.refl _).drew)) (by have := HP.out; omega) k z)
      rw [HH.out] at CT
      have hS1 := And.intro M7.out.2.2.1 (And.intro M7.out.2.2.2.1 M7.out.2.2.2.2.1)
      clear hX7 s1 s2 hS0 FIN MID x0 x2 x4 y0 y1
      go_upto_region 4 with fail
      go_region_held3 (fun w' => w'.cell? ⟨u, f, none⟩ = some (.pointer (some ⟨T, 0, none⟩)) ∧ w'.cell? ⟨w.heap.size, 2, none⟩ = some (.string k) ∧ w'.cell? ⟨w.heap.size, 4, none⟩ = some (.int .i64 z)) (first | exact hS1 | exact KP8.out _ X8.out)
        ((go_at_call 17; go_loud (refine CT.out.mono ?_; rintro e w8 ⟨rfl, t8, x8⟩; have X8 := Lib.hid (show Xt T X7 w8 from ⟨x8.os, x8.tape, x8.output, x8.size, x8.block⟩); have F8 := Lib.hid (FIN7.out w8 t8 X8.out); clear t8 x8 CT)))
      go_wp2
      go_ret
      exact ⟨by simp, F8.out⟩
  · rw [if_neg hk]
    have hk0 : (kind == 0) = false := by simpa using hk
    go_enter Try.func11, Try.ntmps11
    go_upto_region 1 with fail
    clear hW hne2
    cases hh : has (keys P) k <;>
    · rw [hh] at CH
      have HH := Lib.hid hh
      clear hh
      go_quiet ((go_at_call 18; exact Calls.quiet_of_same (CH.out _)))
      go_upto_region 2 with fail
      obtain ⟨X, hX⟩ : ∃ X, W.drewN nq = X := ⟨_, rfl⟩
      have GX := Lib.hid (show Gw W X by rw [← hX]; exact (Gw.refl _).drewN _)
      rw [hX]
      have x0 := keep_below c0 GX.out
      have x2 := keep_below c2 GX.out
      have x4 := keep_below c4 GX.out
      have y0 := keep_below u0 GX.out
      have y1 := keep_below u1 GX.out
      clear hX c0 c2 c4 u0 u1 CH
      have hS0 : X.cell? ⟨w.heap.size, 2, none⟩ = some (.string k) ∧ X.cell? ⟨w.heap.size, 4, none⟩ = some (.int .i64 z) := ⟨x2, x4⟩
      have CRP := Lib.hid (wrefDelete (c := d) (HOn.out.gw (GX.out.trans ((Gw.refl X).drew))).pb (by have := HML.out; have := HP.out; omega) HMD.out k)
      go_upto_region 6 with fail
      obtain ⟨Sp, hSp⟩ : ∃ Sp : World → Prop, ∀ w', Sp w' ↔ (w'.cell? ⟨w.heap.size, 2, none⟩ = some (.string k) ∧ w'.cell? ⟨w.heap.size, 4, none⟩ = some (.int .i64 z)) := ⟨_, fun _ => Iff.rfl⟩
      have hSX : Sp X.drew := (hSp _).2 hS0
      refine wp_region_noPanic ?_
      refine wp_region_held (S := Sp) (by kernel_rfl) ?_
      change wpAnyH _ _ _ _ _ _ _ _ X.drew
      refine take_read 0 51 (.pointer (some ⟨u, f, none⟩)) rfl rfl (by kernel_rfl) (by kernel_rfl) (by kernel_rfl) (fun _ _ _ h => h) (by rfl) hSX (fun w' hS => by obtain ⟨e0, e1⟩ := (hSp w').1 hS; (go_simp; try omega)) ?_
      simp only [Act.put, List.setIfInBounds_toArray, List.set_cons_zero, List.set_cons_succ]
      refine take_read 1 52 (.pointer (some ⟨u, f, none⟩)) rfl rfl (by kernel_rfl) (by kernel_rfl) (by kernel_rfl) (fun _ _ _ h => h) (by rfl) hSX (fun w' hS => by obtain ⟨e0, e1⟩ := (hSp w').1 hS; (go_simp; try omega)) ?_
      simp only [Act.put, List.setIfInBounds_toArray, List.set_cons_zero, List.set_cons_succ]
      refine take_read 2 53 (.pointer (some ⟨u, f, none⟩)) rfl rfl (by kernel_rfl) (by kernel_rfl) (by kernel_rfl) (fun _ _ _ h => h) (by rfl) hSX (fun w' hS => by obtain ⟨e0, e1⟩ := (hSp w').1 hS; (go_simp; try omega)) ?_
      simp only [Act.put, List.setIfInBounds_toArray, List.set_cons_zero, List.set_cons_succ]
      refine take_read 3 54 (.pointer (some ⟨u, f + 1, none⟩)) rfl rfl (by kernel_rfl) (by kernel_rfl) (by kernel_rfl) (fun _ _ _ h => h) (by rfl) hSX (fun w' hS => by obtain ⟨e0, e1⟩ := (hSp w').1 hS; (go_simp; try omega)) ?_
      simp only [Act.put, List.setIfInBounds_toArray, List.set_cons_zero, List.set_cons_succ]
      refine take_read 5 56 (.pointer (some ⟨w.heap.size, 2, none⟩)) rfl rfl (by kernel_rfl) (by kernel_rfl) (by kernel_rfl) (fun _ _ _ h => h) (by rfl) hSX (fun w' hS => by obtain ⟨e0, e1⟩ := (hSp w').1 hS; (go_simp; try omega)) ?_
      simp only [Act.put, List.setIfInBounds_toArray, List.set_cons_zero, List.set_cons_succ]
      refine take_read 6 57 (.string k) rfl rfl (by kernel_rfl) (by kernel_rfl) (by kernel_rfl) (fun _ _ _ h => h) (by rfl) hSX (fun w' hS => by obtain ⟨e0, e1⟩ := (hSp w').1 hS; (go_simp; try omega)) ?_
      simp only [Act.put, List.setIfInBounds_toArray, List.set_cons_zero, List.set_cons_succ]
      refine wpAnyH_ready (rs := [4]) (by kernel_rfl) (by simp) ?_
      refine AllReadyH.cons rfl (fun K hK => ?_) AllReadyH.nil
      go_simp
      refine hK.out _ _ hSX (fun _ => ?_)
      clear hK K
      try simp only [Act.put, List.setIfInBounds_toArray, List.set_cons_zero, List.set_cons_succ]
      refine wpAnyH_ready (rs := [7]) (by kernel_rfl) (by simp) ?_
      refine AllReadyH.cons rfl (fun K hK => ?_) AllReadyH.nil
      go_simp
      go_at_call 27
      refine CRP.out.mono ?_
      rintro e w6 ⟨B6, m6, d6, rfl, p6, l6, g6⟩
      have K6 := Lib.hid (show Gw X w6 from ((Gw.refl X).drew).trans g6)
      have P6 := Lib.hid p6
      have L6 := Lib.hid l6
      have M7 := Lib.hid (MID.out w6 B6 m6 d6 (GX.out.trans K6.out))
      have s1 := M7.out.1
      have s2 := M7.out.2.1
      clear g6 p6 l6 CRP
      have hS6 : Sp w6 := (hSp _).2 ⟨keep_below x2 K6.out, keep_below x4 K6.out⟩
      refine hK.out _ _ hS6 (fun _ => ?_)
      clear hK K
      try simp only [Act.put, List.setIfInBounds_toArray, List.set_cons_zero, List.set_cons_succ]
      refine take_read 8 59 (.pointer (some ⟨u, f, none⟩)) rfl rfl (by kernel_rfl) (by kernel_rfl) (by kernel_rfl) (fun _ _ _ h => h) (by rfl) hS6 (fun w' hS => by obtain ⟨e0, e1⟩ := (hSp w').1 hS; (go_simp; try omega)) ?_
      simp only [Act.put, List.setIfInBounds_toArray, List.set_cons_zero, List.set_cons_succ]
      refine take_read 9 60 (.pointer (some ⟨u, f + 1, none⟩)) rfl rfl (by kernel_rfl) (by kernel_rfl) (by kernel_rfl) (fun _ _ _ h => h) (by rfl) hS6 (fun w' hS => by obtain ⟨e0, e1⟩ := (hSp w').1 hS; (go_simp; try omega)) ?_
      simp only [Act.put, List.setIfInBounds_toArray, List.set_cons_zero, List.set_cons_succ]
      refine wpAnyH_ready (rs := [10]) (by kernel_rfl) (by simp) ?_
      refine AllReadyH.cons rfl (fun K hK => ?_) AllReadyH.nil
      go_simp
      refine hK.out _ _ ((hSp _).2 ⟨M7.out.2.2.2.1, M7.out.2.2.2.2.1⟩) (fun _ => ?_)
      clear hK K hSX hS6
      try simp only [Act.put, List.setIfInBounds_toArray, List.set_cons_zero, List.set_cons_succ]
      refine wpAnyH_done (by kernel_rfl) ?_ _
      refine NoPanic.normal ?_
      generalize hX7 : World.setCell w6 _ _ = X7
      rw [hX7] at M7
      have FIN7 := Lib.hid (show ∀ w8, TreeAt w8 T ord (delP P k) → Xt T X7 w8 → ChIs u f T ord (delP P k) w w8 from fun w8 t8 x8 => FIN.out _ w6 B6 m6 d6 w8 (GX.out.trans K6.out) P6.out L6.out t8 (by rw [hX7]; exact x8))
      have KP8 := Lib.hid (show ∀ w8, Xt T X7 w8 → w8.cell? ⟨u, f, none⟩ = some (.pointer (some ⟨T, 0, none⟩)) ∧ w8.cell? ⟨w.heap.size, 2, none⟩ = some (.string k) ∧ w8.cell? ⟨w.heap.size, 4, none⟩ = some (.int .i64 z) from fun w8 x8 => ⟨x8.cell M7.out.2.2.1 HNE.out.2.2, x8.cell M7.out.2.2.2.1 HNE.out.1, x8.cell M7.out.2.2.2.2.1 HNE.out.1⟩)
      have CT := Lib.hid (wdelT (M7.out.2.2.2.2.2.below ((Gw.refl _).drew)) (by have := HP.out; omega) k)
      rw [HH.out] at CT
      have hS1 := And.intro M7.out.2.2.1 (And.intro M7.out.2.2.2.1 M7.out.2.2.2.2.1)
      clear hX7 s1 s2 hS0 FIN MID x0 x2 x4 y0 y1
      go_upto_region 7 with fail
      go_region_held3 (fun w' => w'.cell? ⟨u, f, none⟩ = some (.pointer (some ⟨T, 0, none⟩)) ∧ w'.cell? ⟨w.heap.size, 2, none⟩ = some (.string k) ∧ w'.cell? ⟨w.heap.size, 4, none⟩ = some (.int .i64 z)) (first | exact hS1 | exact KP8.out _ X8.out)
        ((go_at_call 19; go_loud (refine CT.out.mono ?_; rintro e w8 ⟨rfl, t8, x8⟩; have X8 := Lib.hid (show Xt T X7 w8 from ⟨x8.os, x8.tape, x8.output, x8.size, x8.block⟩); have F8 := Lib.hid (FIN7.out w8 t8 X8.out); clear t8 x8 CT)))
      go_wp2
      go_ret
      exact ⟨by simp, F8.out⟩
end Go.Proofs.Ytlhpoliiojekeaa
