import Derived.Test.YtcpifanhmkblmaaSpWith
import Derived.Test.YtcpifanhmkblmaaSMap
import Derived.Test.YtcpifanhmkblmaaJAN
/- Layer 9: how the program keeps its notes: a map of transactions, a map of tables for each, a list of notes for each of these. -/
namespace Go.Proofs.Ytcpifanhmkblmaa
set_option maxRecDepth 100000
set_option maxRecDepth 100000
open Go.RowKit

/-- A table's notes: its name, the list's value, the notes with their blocks. -/
abbrev Tb9 := ByteArray × Value × List (Nat × Rd)
/-- A transaction's notes: its number, the block of its map, its tables. -/
abbrev Tx9 := Int × Nat × List Tb9
def flatT (t : Int) (T : List Tb9) : List Nt := T.flatMap fun q => q.2.2.map fun z => (t, z.2)
def flatX (X : List Tx9) : List Nt := X.flatMap fun e => flatT e.1 e.2.2
def topX (X : List Tx9) : List (Int × Value) := X.map fun e => (e.1, .map (some e.2.1))
def tabT (T : List Tb9) : List (ByteArray × Value) := T.map fun q => (q.1, q.2.1)
def rowsX (X : List Tx9) : List (Option Nat) := X.flatMap fun e => e.2.2.map fun q => q.2.1.ownBlock
/-- What is so of a table's notes. -/
structure TbOk (t : Int) (q : Tb9) : Prop where
  ne : q.2.2 ≠ []
  ord : OrdL q.1 (q.2.2.map (·.2))
  sz : ∀ z ∈ q.2.2, z.2.lo.size ≤ 140737488355328
  hdr : ∃ g c, q.2.1 = .slice (some ⟨g, 0, none⟩) q.2.2.length c
/-- The notes in memory; of those lists that E names, only their lengths are still told. -/
structure Mem9 (E : Int → ByteArray → Prop) (w : World) (r mb most : Nat) (cnt : Int) (X : List Tx9) : Prop where
  blk : w.heap[r]? = some (.cells #[.int .i64 (most : Nat), .int .i64 cnt, .map (some mb)] 57 (0, 0))
  top : MapM KI w mb (topX X)
  tab : ∀ e ∈ X, MapM KS w e.2.1 (tabT e.2.2)
  ne : ∀ e ∈ X, e.2.2 ≠ [] ∧ 1 ≤ e.1
  ok : ∀ e ∈ X, ∀ q ∈ e.2.2, TbOk e.1 q
  lst : ∀ e ∈ X, ∀ q ∈ e.2.2, ¬ E e.1 q.1 → NL w q.2.1 q.2.2
  mbs : (mb :: X.map (·.2.1)).Nodup
  rows : (rowsX X).Nodup
/-- The blocks of the notes. -/
def BlX (r mb : Nat) (X : List Tx9) (k : Nat) : Prop := k = r ∨ k = mb ∨ ∃ e ∈ X, k = e.2.1 ∨ ∃ q ∈ e.2.2, q.2.1.ownBlock = some k ∨ ∃ z ∈ q.2.2, k = z.1
section
variable {E : Int → ByteArray → Prop} {w w' : World} {r mb most : Nat} {cnt : Int} {X : List Tx9}
theorem NL.kept {v : Value} {ls : List (Nat × Rd)} (h : NL w v ls) (h1 : ∀ k, v.ownBlock = some k → w'.heap[k]? = w.heap[k]?) (h2 : ∀ z ∈ ls, w'.heap[z.1]? = w.heap[z.1]?) : NL w' v ls :=
  ⟨h.pv.block h1, fun q hq => (h.rd q hq).block (h2 q hq)⟩
theorem Mem9.kept (h : Mem9 E w r mb most cnt X) (hb : ∀ k, BlX r mb X k → w'.heap[k]? = w.heap[k]?) : Mem9 E w' r mb most cnt X :=
  ⟨(hb r (.inl rfl)).trans h.blk, h.top.block (hb mb (.inr (.inl rfl))), fun e he => (h.tab e he).block (hb _ (.inr (.inr ⟨e, he, .inl rfl⟩))), h.ne, h.ok,
    fun e he q hq hE => (h.lst e he q hq hE).kept (fun k hk => hb k (.inr (.inr ⟨e, he, .inr ⟨q, hq, .inl hk⟩⟩))) (fun z hz => hb _ (.inr (.inr ⟨e, he, .inr ⟨q, hq, .inr ⟨z, hz, rfl⟩⟩⟩))), h.mbs, h.rows⟩
/-- All told. -/
abbrev NoE : Int → ByteArray → Prop := fun _ _ => False
theorem Mem9.lt (h : Mem9 NoE w r mb most cnt X) : ∀ k, BlX r mb X k → k < w.heap.size := by
  rintro k (rfl | rfl | ⟨e, he, rfl | ⟨q, hq, hk | ⟨z, hz, rfl⟩⟩⟩)
  · exact (Array.getElem?_eq_some_iff.1 h.blk).1
  · exact h.top.lt
  · exact (h.tab e he).lt
  · exact (h.lst e he q hq id).pv.lt k hk
  · exact ((h.lst e he q hq id).rd z hz).lt
theorem Mem9.gw (h : Mem9 NoE w r mb most cnt X) (hb : Below w.heap.size w w') : Mem9 NoE w' r mb most cnt X := h.kept fun k hk => hb.block k (h.lt k hk)
theorem Mem9.once (h : Mem9 E w r mb most cnt X) : (X.map (·.1)).Nodup := by
  have := h.top.once
  unfold OnceM topX at this
  rw [List.map_map] at this
  exact this
theorem Mem9.onceT (h : Mem9 E w r mb most cnt X) {e : Tx9} (he : e ∈ X) : (e.2.2.map (·.1)).Nodup := by
  have := (h.tab e he).once
  unfold OnceM tabT at this
  rw [List.map_map] at this
  exact this
theorem perm_front {α : Type} {κ : Type} [DecidableEq κ] (f : α → κ) {X : List α} (h : (X.map f).Nodup) {e : α} (he : e ∈ X) : X.Perm (e :: X.filter fun x => !decide (f x = f e)) := by
  induction X with
  | nil => cases he
  | cons y X ih =>
    obtain ⟨n1, n2⟩ := List.nodup_cons.1 (show (f y :: X.map f).Nodup from h)
    rcases List.mem_cons.1 he with rfl | he
    · rw [List.filter_cons_of_neg (by simp)]
      rw [List.filter_eq_self.2 fun z hz => by
        have : f z ≠ f e := fun e2 => n1 (List.mem_map.2 ⟨z, hz, e2⟩)
        simpa using this]
    · have hne : f y ≠ f e := fun e2 => n1 (List.mem_map.2 ⟨e, he, e2.symm⟩)
      rw [List.filter_cons_of_pos (by simpa using hne)]
      exact ((ih n2 he).cons y).trans (List.Perm.swap ..)
theorem topX_perm {X Y : List Tx9} (h : X.Perm Y) : (topX X).Perm (topX Y) := h.map _
theorem Mem9.perm {Y : List Tx9} (h : Mem9 E w r mb most cnt X) (hp : X.Perm Y) : Mem9 E w r mb most cnt Y :=
  ⟨h.blk, h.top.perm (hp.map _), fun e he => h.tab e (hp.mem_iff.2 he), fun e he => h.ne e (hp.mem_iff.2 he), fun e he => h.ok e (hp.mem_iff.2 he), fun e he => h.lst e (hp.mem_iff.2 he),
    ((hp.map _).cons mb).nodup_iff.1 h.mbs, (hp.flatMap_right _).nodup_iff.1 h.rows⟩
/-- The tables of one transaction in another order. -/
theorem Mem9.permT {t : Int} {b : Nat} {T U : List Tb9} {Y : List Tx9} (h : Mem9 E w r mb most cnt ((t, b, T) :: Y)) (hp : T.Perm U) : Mem9 E w r mb most cnt ((t, b, U) :: Y) := by
  refine ⟨h.blk, h.top, fun e he => ?_, fun e he => ?_, fun e he q hq => ?_, fun e he q hq => ?_, h.mbs, ?_⟩
  · rcases List.mem_cons.1 he with rfl | he
    · exact (h.tab (t, b, T) (List.mem_cons_self ..)).perm (hp.map _)
    · exact h.tab e (List.mem_cons_of_mem _ he)
  · rcases List.mem_cons.1 he with rfl | he
    · have := h.ne (t, b, T) (List.mem_cons_self ..)
      exact ⟨fun e => this.1 (by have e2 : U = [] := e; rw [e2] at hp; exact List.Perm.eq_nil hp), this.2⟩
    · exact h.ne e (List.mem_cons_of_mem _ he)
  · rcases List.mem_cons.1 he with rfl | he
    · exact h.ok (t, b, T) (List.mem_cons_self ..) q (hp.mem_iff.2 hq)
    · exact h.ok e (List.mem_cons_of_mem _ he) q hq
  · rcases List.mem_cons.1 he with rfl | he
    · exact h.lst (t, b, T) (List.mem_cons_self ..) q (hp.mem_iff.2 hq)
    · exact h.lst e (List.mem_cons_of_mem _ he) q hq
  · have := h.rows
    unfold rowsX at this ⊢
    rw [List.flatMap_cons] at this ⊢
    exact ((hp.map _).append_right _).nodup_iff.1 this
theorem flatX_perm {X Y : List Tx9} (h : X.Perm Y) : (flatX X).Perm (flatX Y) := h.flatMap_right _
theorem flatT_perm {t : Int} {T U : List Tb9} (h : T.Perm U) : (flatT t T).Perm (flatT t U) := h.flatMap_right _
end
/-- What stands where. -/
inductive At9 (X : List Tx9) (t : Int) (tb : ByteArray) : Type
  | noTx : (∀ e ∈ X, e.1 ≠ t) → At9 X t tb
  | noTb (b : Nat) (T : List Tb9) (Y : List Tx9) : X.Perm ((t, b, T) :: Y) → (∀ e ∈ Y, e.1 ≠ t) → (∀ q ∈ T, q.1 ≠ tb) → At9 X t tb
  | at_ (b : Nat) (v : Value) (ls : List (Nat × Rd)) (S T : List Tb9) (Y : List Tx9) : X.Perm ((t, b, T) :: Y) → (∀ e ∈ Y, e.1 ≠ t) → T.Perm ((tb, v, ls) :: S) → (∀ q ∈ S, q.1 ≠ tb) → At9 X t tb
theorem at9 {X : List Tx9} (h : (X.map (·.1)).Nodup) (hT : ∀ e ∈ X, (e.2.2.map (·.1)).Nodup) (t : Int) (tb : ByteArray) : Nonempty (At9 X t tb) := by
  by_cases h1 : ∃ e ∈ X, e.1 = t
  · obtain ⟨⟨t', b, T⟩, he, e1⟩ := h1
    have e1 : t' = t := e1
    subst e1
    have hp := perm_front (·.1) h he
    have hY : ∀ e ∈ X.filter (fun x => !decide (x.1 = t')), e.1 ≠ t' := fun e he => by simpa using (List.mem_filter.1 he).2
    by_cases h2 : ∃ q ∈ T, q.1 = tb
    · obtain ⟨⟨tb', v, ls⟩, hq, e2⟩ := h2
      have e2 : tb' = tb := e2
      subst e2
      exact ⟨.at_ b v ls _ T _ hp hY (perm_front (·.1) (hT _ he) hq) fun q hq => by simpa using (List.mem_filter.1 hq).2⟩
    · exact ⟨.noTb b T _ hp hY fun q hq e => h2 ⟨q, hq, e⟩⟩
  · exact ⟨.noTx fun e he e1 => h1 ⟨e, he, e1⟩⟩
end Go.Proofs.Ytcpifanhmkblmaa

/- Layer 9: put, take: what they do to the block of the notes and to the two maps. -/
namespace Go.Proofs.Ytcpifanhmkblmaa
set_option maxRecDepth 100000
set_option maxRecDepth 100000
open Go.RowKit

abbrev topT : TypeId := 55
abbrev tabMT : TypeId := 68
theorem zeroMap (w : World) : (zeroValue 68).run Try.prog w = .ok (.map none) w := by kernel_rfl
theorem zeroNotes (w : World) : (zeroValue 67).run Try.prog w = .ok (.slice none 0 0) w := by kernel_rfl
theorem MapM.lookTop {w : World} {mb : Nat} {hs : List (Int × Value)} (h : MapM KI w mb hs) {t : Int} (ht : (Lit.int .i64 t).wf = true) : (Instr.lookup 55 (.map (some mb)) (.int .i64 t) false).run Try.prog w = .ok ((getM hs t).getD (.map none)) w :=
  h.look Try.underlying55 (zeroMap w) (x := t) ht
theorem MapM.lookTab {w : World} {b : Nat} {hs : List (ByteArray × Value)} (h : MapM KS w b hs) {tb : ByteArray} (ht : tb.size ≤ maxLen) : (Instr.lookup 68 (.map (some b)) (.string tb) false).run Try.prog w = .ok ((getM hs tb).getD (.slice none 0 0)) w :=
  h.look Try.underlying68 (zeroNotes w) (x := tb) ht
theorem lookTabNil {w : World} {tb : ByteArray} (ht : tb.size ≤ maxLen) : (Instr.lookup 68 (.map none) (.string tb) false).run Try.prog w = .ok (.slice none 0 0) w :=
  look_nil (T := KS) Try.underlying68 (zeroNotes w) (x := tb) ht
theorem eqMapSome (b : Nat) (w : World) : (binOp .eql 68 (.map (some b)) (.map none)).run Try.prog w = .ok (.bool false) w := by kernel_rfl
theorem eqMapNil (w : World) : (binOp .eql 68 (.map none) (.map none)).run Try.prog w = .ok (.bool true) w := by kernel_rfl
/-- The block of the notes. -/
def RBlk (w : World) (r mb most : Nat) (cnt : Int) : Prop := w.heap[r]? = some (.cells #[.int .i64 (most : Nat), .int .i64 cnt, .map (some mb)] 57 (0, 0))
theorem RBlk.cells {w : World} {r mb most : Nat} {cnt : Int} (h : RBlk w r mb most cnt) : w.cell? ⟨r, 0, none⟩ = some (.int .i64 (most : Nat)) ∧ w.cell? ⟨r, 1, none⟩ = some (.int .i64 cnt) ∧ w.cell? ⟨r, 2, none⟩ = some (.map (some mb)) ∧ w.frozen? ⟨r, 1, none⟩ = false :=
  ⟨cell_of_row _ _ 0 _ _ _ h, cell_of_row _ _ 1 _ _ _ h, cell_of_row _ _ 2 _ _ _ h, frozen_of_row _ _ _ _ _ h⟩
theorem RBlk.lt {w : World} {r mb most : Nat} {cnt : Int} (h : RBlk w r mb most cnt) : r < w.heap.size := (Array.getElem?_eq_some_iff.1 h).1
theorem RBlk.block {w w' : World} {r mb most : Nat} {cnt : Int} (h : RBlk w r mb most cnt) (hb : w'.heap[r]? = w.heap[r]?) : RBlk w' r mb most cnt := hb.trans h
theorem RBlk.put {w : World} {r mb most : Nat} {cnt : Int} (h : RBlk w r mb most cnt) (c : Int) : RBlk (w.setCell ⟨r, 1, none⟩ (.int .i64 c)) r mb most c := by
  have := heap_setCell_same w r 1 _ _ (.int .i64 c) h
  unfold RBlk
  rw [this]
  rfl
set_option maxHeartbeats 4000000 in
/-- put, where the transaction has notes. -/
theorem wpPutIn {w : World} {r mb most : Nat} {cnt : Int} (h : RBlk w r mb most cnt) {top : List (Int × Value)} (hT : MapM KI w mb top) {t : Int} (ht : (Lit.int .i64 t).wf = true) {b : Nat} (hb : getM top t = some (.map (some b))) {hs : List (ByteArray × Value)} (hS : MapM KS w b hs) {tb : ByteArray} (htb : tb.size ≤ maxLen) (hsl : hs.length < 4000000)
    {A0 : Option Addr} {n0 c0 : Nat} (h0 : (getM hs tb).getD (.slice none 0 0) = .slice A0 n0 c0) {A : Option Addr} {n c : Nat} (hn : n ≤ 4000000) (hn0 : n0 ≤ 4000000) (hcnt : 0 ≤ cnt ∧ cnt ≤ 4000000) :
    Calls Try.prog 35 #[.pointer (some ⟨r, 0, none⟩), .agg #[.int .i64 t, .string tb], .slice A n c] w fun e w' => e = .returned (.tuple #[]) ∧ RBlk w' r mb most (cnt + (n - n0)) ∧ MapM KS w' b (putM hs tb (.slice A n c)) ∧ Out (fun k => k = r ∨ k = b) w w' := by
  obtain ⟨W, hW⟩ : ∃ W, w.alloc (.cells #[.int .i64 t, .string tb] 65) = W := ⟨_, rfl⟩
  have HW := Lib.hid hW
  have hB : Below w.heap.size w W := by rw [← hW]; exact below_alloc9 _ _
  have HB := Lib.hid hB
  have q0 : W.heap[w.heap.size]? = some (.cells #[.int .i64 t, .string tb] 65 (0, 0)) := by rw [← hW]; exact heap_alloc_new _ _
  have x0 : W.cell? ⟨w.heap.size, 0, none⟩ = some (.int .i64 t) := cell_of_row _ _ 0 _ _ _ q0
  have x1 : W.cell? ⟨w.heap.size, 1, none⟩ = some (.string tb) := cell_of_row _ _ 1 _ _ _ q0
  have hR := h.block (hB.block r h.lt)
  obtain ⟨-, r1, r2, f1⟩ := hR.cells
  have hT2 := hT.block (hB.block mb hT.lt)
  have hS2 := hS.block (hB.block b hS.lt)
  have qT := (show MapM KI W.drew mb top from hT2.block rfl).lookTop ht
  rw [hb] at qT
  simp only [Option.getD_some] at qT
  obtain ⟨W2, hW2⟩ : ∃ W2, W.drew = W2 := ⟨_, rfl⟩
  have HW2 := Lib.hid hW2
  have qS := (show MapM KS W2.drew b hs by rw [← hW2]; exact hS2.block rfl).lookTab htb
  rw [h0] at qS
  have p1 : W2.cell? ⟨r, 1, none⟩ = some (.int .i64 cnt) := by rw [← hW2]; exact r1
  have pf : W2.frozen? ⟨r, 1, none⟩ = false := by rw [← hW2]; exact f1
  have px : W2.cell? ⟨w.heap.size, 1, none⟩ = some (.string tb) := by rw [← hW2]; exact x1
  have hrb : r ≠ b := hS.no h
  have qE := eqMapSome b
  have i1 : IntKind.i64.wrap ((n : Int) - (n0 : Int)) = (n : Int) - n0 := by rw [IntKind.wrap_i64]; omega
  have i2 : IntKind.i64.wrap (cnt + ((n : Int) - (n0 : Int))) = cnt + (n - n0) := by rw [IntKind.wrap_i64]; omega
  obtain ⟨V, hV⟩ : ∃ V, (W2.setCell ⟨r, 1, none⟩ (.int .i64 (cnt + (n - n0)))).drew = V := ⟨_, rfl⟩
  have HV := Lib.hid hV
  have BV := Lib.hid (show Out (fun k => k = r ∨ k = b) w V by rw [← hV, ← hW2]; exact ((Out.of_below hB _).drew.setCell (.inl (.inl rfl)) _).drew)
  have RV := Lib.hid (show RBlk V r mb most (cnt + (n - n0)) by rw [← hV, ← hW2]; exact ((show RBlk W.drew r mb most cnt from hR.block rfl).put _).block rfl)
  have hbo : ∀ k, k ≠ r → V.heap[k]? = W.heap[k]? := fun k hk => by rw [← hV, ← hW2]; exact (Below.heap_setCell W.drew ⟨r, 1, none⟩ _ k hk : (W.drew.setCell _ _).heap[k]? = _)
  have SV := Lib.hid (hS2.block (hbo b (Ne.symm hrb)))
  have v1 : V.cell? ⟨w.heap.size, 1, none⟩ = some (.string tb) := (World.cell?_of_block (w := W) (hbo _ (by have := h.lt; show w.heap.size ≠ r; omega))).trans x1
  have HL := Lib.hid hsl
  have HTB := Lib.hid htb
  have HNE := Lib.hid hrb
  clear h hT hS hb q0 hR hT2 hS2 h0 hV hbo hW hB hrb hsl htb ht hW2
  go_enter Try.func35, Try.ntmps35
  go_upto_region 1 with fail
  rw [HW.out]
  go_region
  rw [HW2.out]
  clear x0 x1 r1 r2 f1 qT
  go_upto_region 5 with fail
  go_still_tail 15, (by kernel_rfl)
  go_upto_region 6 with fail
  rw [HV.out]
  clear p1 pf px qS
  go_wp2_with (at_mapUpdate; go_loud (refine wp_putM KS (by rfl) (.tmp 39) (.tmp 41) (.tmp 42) (by rfl) (by rfl) SV.out Try.underlying68 tb HTB.out (by rfl) HL.out ?_; intro w5 m5 g5 s5; have M5 := Lib.hid m5; have G5 := Lib.hid g5; clear m5 g5 s5))
  go_end0
  refine ⟨rfl, RV.out.block (G5.out.block r RV.out.lt (fun e => HNE.out (Option.some.inj e))), M5.out, BV.out.grown G5.out fun k e => .inl (.inr (Option.some.inj e).symm)⟩
set_option maxHeartbeats 4000000 in
/-- put, where the transaction has no notes. -/
theorem wpPutNew {w : World} {r mb most : Nat} {cnt : Int} (h : RBlk w r mb most cnt) {top : List (Int × Value)} (hT : MapM KI w mb top) {t : Int} (ht : (Lit.int .i64 t).wf = true) (hb : getM top t = none) (htl : top.length < 4000000) {tb : ByteArray} (htb : tb.size ≤ maxLen)
    {A : Option Addr} {n c : Nat} (hn : n ≤ 4000000) (hcnt : 0 ≤ cnt ∧ cnt ≤ 4000000) :
    Calls Try.prog 35 #[.pointer (some ⟨r, 0, none⟩), .agg #[.int .i64 t, .string tb], .slice A n c] w fun e w' => e = .returned (.tuple #[]) ∧ ∃ b, w.heap.size ≤ b ∧ RBlk w' r mb most (cnt + n) ∧ MapM KI w' mb (putM top t (.map (some b))) ∧ MapM KS w' b [(tb, .slice A n c)] ∧ Out (fun k => k = r ∨ k = mb) w w' := by
  obtain ⟨W, hW⟩ : ∃ W, w.alloc (.cells #[.int .i64 t, .string tb] 65) = W := ⟨_, rfl⟩
  have HW := Lib.hid hW
  have hB : Below w.heap.size w W := by rw [← hW]; exact below_alloc9 _ _
  have q0 : W.heap[w.heap.size]? = some (.cells #[.int .i64 t, .string tb] 65 (0, 0)) := by rw [← hW]; exact heap_alloc_new _ _
  have hR := h.block (hB.block r h.lt)
  have x0 : W.cell? ⟨w.heap.size, 0, none⟩ = some (.int .i64 t) := cell_of_row _ _ 0 _ _ _ q0
  have r2 := hR.cells.2.2.1
  have hT2 := hT.block (hB.block mb hT.lt)
  have qT := (show MapM KI W.drew mb top from hT2.block rfl).lookTop ht
  rw [hb] at qT
  simp only [Option.getD_none] at qT
  have qE := eqMapNil
  have hmm := @run_makeMap Try.prog
  obtain ⟨b, hbs⟩ : ∃ b, W.heap.size = b := ⟨_, rfl⟩
  obtain ⟨V, hV⟩ : ∃ V, (W.alloc (.map #[] 0)).drew = V := ⟨_, rfl⟩
  have HV := Lib.hid hV
  have hWs : w.heap.size < W.heap.size := by rw [← hW]; simp
  have hbb : W.heap.size = b := hbs
  have bv : Below W.heap.size W V := by rw [← hV]; exact ((Below.refl _ _).alloc (Nat.le_refl _) _).drew
  have BV := Lib.hid (below_next hB bv)
  have mv : MapM KS V b [] := by rw [← hV, ← hbs]; exact (MapM.new KS W).block rfl
  have RV := hR.block (bv.block r hR.lt)
  have TV := hT2.block (bv.block mb hT2.lt)
  have y0 : V.cell? ⟨w.heap.size, 0, none⟩ = some (.int .i64 t) := keep_below x0 bv
  have z0 := (cell_of_row _ _ 1 _ _ _ ((bv.block _ hWs).trans q0) : V.cell? ⟨w.heap.size, 1, none⟩ = some (.string tb))
  have r3 := RV.cells.2.2.1
  have TD := Lib.hid (show MapM KI V.drew mb top from TV.block rfl)
  have MV := Lib.hid mv
  have HR := Lib.hid RV
  have Z0 := Lib.hid z0
  have HTL := Lib.hid htl
  have HT := Lib.hid ht
  have HTB := Lib.hid htb
  have HRM := Lib.hid (hT.no h)
  have HL := Lib.hid (And.intro h.lt (And.intro hT.lt (show w.heap.size < b by omega)))
  have i1 : IntKind.i64.wrap ((n : Int) - (0 : Int)) = (n : Int) := by rw [IntKind.wrap_i64]; omega
  have i1b : IntKind.i64.wrap (n : Int) = (n : Int) := by rw [IntKind.wrap_i64]; omega
  have i2 : IntKind.i64.wrap (cnt + (n : Int)) = cnt + n := by rw [IntKind.wrap_i64]; omega
  clear h hT hb q0 hR hT2 hV hW hB htl htb ht mv RV TV bv hWs
  go_enter Try.func35, Try.ntmps35
  go_upto_region 1 with fail
  rw [HW.out]
  go_region
  go_upto_region 4 with fail
  rw [HV.out]
  clear x0 r2 qT
  go_still_tail 7, (by kernel_rfl)
  go_upto_region 5 with (at_mapUpdate; go_loud (refine wp_putM KI (by rfl) (.tmp 20) (.tmp 22) (.tmp 23) (by rfl) (by rfl) TD.out Try.underlying55 t HT.out (by rfl) HTL.out ?_; intro w5 m5 g5 s5; have M5 := Lib.hid m5; have G5 := Lib.hid g5; have S5 := Lib.hid s5; clear m5 g5 s5))
  have hmb := HRM.out
  have gr := G5.out.block r HR.out.lt (fun e => hmb (Option.some.inj e))
  have R5 := HR.out.block gr
  have S5b := (MV.out.block (G5.out.block b MV.out.lt (fun e => by have := Option.some.inj e; have := HL.out; omega)) : MapM KS w5 b [])
  obtain ⟨-, p1, -, pf⟩ := R5.cells
  have px : w5.cell? ⟨w.heap.size, 1, none⟩ = some (.string tb) := (World.cell?_of_block (w := V) (G5.out.block w.heap.size (by show w.heap.size < V.heap.size; have := MV.out.lt; have := HL.out; omega) (fun e => by have := Option.some.inj e; have := HL.out; omega))).trans Z0.out
  have qS := (show MapM KS w5.drew b [] from S5b.block rfl).lookTab HTB.out
  simp only [getM, List.find?_nil, Option.map_none, Option.getD_none] at qS
  obtain ⟨V2, hV2⟩ : ∃ V2, (w5.setCell ⟨r, 1, none⟩ (.int .i64 (cnt + n))).drew = V2 := ⟨_, rfl⟩
  have HV2 := Lib.hid hV2
  have hbo : ∀ k, k ≠ r → V2.heap[k]? = w5.heap[k]? := fun k hk => by rw [← hV2]; exact (Below.heap_setCell w5 ⟨r, 1, none⟩ _ k hk : (w5.setCell _ _).heap[k]? = _)
  have RV2 := Lib.hid (show RBlk V2 r mb most (cnt + n) by rw [← hV2]; exact (R5.put _).block rfl)
  have SV2 := Lib.hid (S5b.block (hbo b (by have := HL.out; omega)))
  have TV2 := Lib.hid (M5.out.block (hbo mb (Ne.symm hmb)))
  have OV2 := Lib.hid (show Out (fun k => k = r ∨ k = mb) w V2 by rw [← hV2]; exact (((Out.of_below BV.out _).drew.grown G5.out fun k e => .inl (.inr (Option.some.inj e).symm)).setCell (.inl (.inl rfl)) _).drew)
  have v1 : V2.cell? ⟨w.heap.size, 1, none⟩ = some (.string tb) := (World.cell?_of_block (w := w5) (hbo _ (by have := HL.out; show w.heap.size ≠ r; omega))).trans px
  clear hV2 hbo gr R5 S5b hmb
  simp only [Act.put]
  go_still_tail 15, (by kernel_rfl)
  go_upto_region 6 with fail
  rw [HV2.out]
  clear p1 pf px qS
  go_wp2_with (at_mapUpdate; go_loud (refine wp_putM KS (by rfl) (.tmp 39) (.tmp 41) (.tmp 42) (by rfl) (by rfl) SV2.out Try.underlying68 tb HTB.out (by rfl) (by simp) ?_; intro w6 m6 g6 s6; have M6 := Lib.hid m6; have G6 := Lib.hid g6; clear m6 g6 s6))
  go_end0
  refine ⟨rfl, b, by have := HL.out; omega, RV2.out.block (G6.out.block r RV2.out.lt (fun e => by have := Option.some.inj e; have := HL.out; omega)), TV2.out.block (G6.out.block mb TV2.out.lt (fun e => by have := Option.some.inj e; have := HL.out; omega)), M6.out, OV2.out.grown G6.out fun k e => .inr (by have := Option.some.inj e; have := HL.out; omega)⟩
end Go.Proofs.Ytcpifanhmkblmaa
