import Derived.Test.YtknppiebncdjmaaGreatJAL
import Derived.Test.YtknppiebncdjmaaGreatJAF
import Derived.Test.YtknppiebncdjmaaGreatJAK
import Derived.Test.YtknppiebncdjmaaGreatJAT
/- Layer 10: lists of structs of any kind in memory; what the laws know, in memory; has, newest, first, of. -/
namespace Go.Proofs.YtknppiebncdjmaaGreat
set_option maxRecDepth 100000
set_option maxRecDepth 100000
open Go.RowKit

/-- The cells of a list. -/
def cellsF {α : Type} (f : α → List Value) (l : List α) : List Value := l.flatMap f
section
variable {α : Type} {f : α → List Value} {s : Nat}
theorem cellsF_len (hf : ∀ x, (f x).length = s) (l : List α) : (cellsF f l).length = s * l.length := by
  induction l with
  | nil => rfl
  | cons x l ih => simp only [cellsF, List.flatMap_cons, List.length_append, List.length_cons] at ih ⊢; rw [ih, hf, Nat.mul_succ, Nat.add_comm]
theorem cellsF_app (a b : List α) : cellsF f (a ++ b) = cellsF f a ++ cellsF f b := by simp [cellsF]
theorem cellsF_one (h1 : ∀ x, ∀ u ∈ f x, u.oneCell' = true) (l : List α) : ∀ u ∈ cellsF f l, u.oneCell' = true := by
  intro u hu
  obtain ⟨x, -, hx⟩ := List.mem_flatMap.1 hu
  exact h1 x u hx
theorem cellsF_at (hf : ∀ x, (f x).length = s) : ∀ (l : List α) (j : Nat) (x : α), l[j]? = some x → ∀ (k : Nat) u, (f x)[k]? = some u → (cellsF f l)[s * j + k]? = some u
  | [], _, _, h, _, _, _ => by cases h
  | y :: l, 0, x, h, k, u, hu => by
    cases h
    have hk : k < (f y).length := (List.getElem?_eq_some_iff.1 hu).1
    simp only [cellsF, List.flatMap_cons, Nat.mul_zero, Nat.zero_add]
    rw [List.getElem?_append_left hk]; exact hu
  | y :: l, j + 1, x, h, k, u, hu => by
    have := cellsF_at hf l j x (by simpa using h) k u hu
    simp only [cellsF, List.flatMap_cons] at this ⊢
    rw [List.getElem?_append_right (by rw [hf, Nat.mul_succ]; omega), hf]
    rw [show s * (j + 1) + k - s = s * j + k by rw [Nat.mul_succ]; omega]
    exact this
/-- The j-th of a list. -/
theorem SB.el (hf : ∀ x, (f x).length = s) (hs : 0 < s) {w : World} {A : Option Addr} {L : List α} (h : SB w A (s * L.length) (cellsF f L)) {j : Nat} {x : α} (hp : L[j]? = some x) : ∃ g o, A = some ⟨g, o, none⟩ ∧ ∀ (k : Nat) u, (f x)[k]? = some u → w.cell? ⟨g, o + j * s + k, none⟩ = some u := by
  have hlt := (List.getElem?_eq_some_iff.1 hp).1
  obtain ⟨g, o, e, hc⟩ := h.cell (Nat.mul_pos hs (by omega))
  refine ⟨g, o, e, fun k u hu => ?_⟩
  have := hc _ u (cellsF_at hf L j x hp k u hu)
  rwa [Nat.mul_comm, ← Nat.add_assoc] at this
end
def lkC (l : Lk) : List Value := [.string l.1, .string l.2]
theorem lkC_len (l : Lk) : (lkC l).length = 2 := rfl
def verC (v : Ver10) : List Value := [.string v.at_.1, .string v.at_.2, .int .i64 v.num, .int .i64 v.by_, .int .i64 v.next]
theorem verC_len (v : Ver10) : (verC v).length = 5 := rfl
def redC (p : Lk × Int) : List Value := [.string p.1.1, .string p.1.2, .int .i64 p.2]
theorem redC_len (p : Lk × Int) : (redC p).length = 3 := rfl
/-- A transaction in memory: itself, and where its reads and its writes lie. -/
structure RunM where
  r : Run10
  ra : Option Addr
  rc : Nat
  wa : Option Addr
  wc : Nat
def RunM.rv (m : RunM) : Value := .slice m.ra m.r.reads.length m.rc
def RunM.wv (m : RunM) : Value := .slice m.wa m.r.writes.length m.wc
def runC (m : RunM) : List Value := [.int .i64 m.r.tx, .int .i64 m.r.snap, .int .i64 m.r.begun, .int .i64 m.r.ended, .bool m.r.com, .bool m.r.over, .slice m.ra m.r.reads.length m.rc, .slice m.wa m.r.writes.length m.wc]
theorem runC_len (m : RunM) : (runC m).length = 8 := rfl
def seV : SEl := ⟨60, 130, .agg #[.string ⟨#[]⟩, .string ⟨#[]⟩, .int .i64 0, .int .i64 0, .int .i64 0], 5, 56⟩
theorem seV_ok : seV.Ok := ⟨by kernel_rfl, by kernel_rfl, by kernel_rfl, by decide, by decide, by decide⟩
def seD : SEl := ⟨68, 135, .agg #[.string ⟨#[]⟩, .string ⟨#[]⟩, .int .i64 0], 3, 40⟩
theorem seD_ok : seD.Ok := ⟨by kernel_rfl, by kernel_rfl, by kernel_rfl, by decide, by decide, by decide⟩
def seU : SEl := ⟨61, 70, .agg #[.int .i64 0, .int .i64 0, .int .i64 0, .int .i64 0, .bool false, .bool false, .slice none 0 0, .slice none 0 0], 8, 88⟩
theorem seU_ok : seU.Ok := ⟨by kernel_rfl, by kernel_rfl, by kernel_rfl, by decide, by decide, by decide⟩

theorem alloc_below10 (w : World) (o : Obj) : Below w.heap.size w (w.alloc o) := (Below.refl _ _).alloc (Nat.le_refl _) _
theorem hasLk_take {L : List Lk} {l p : Lk} {j : Nat} (hp : L[j]? = some p) : hasLk (L.take (j + 1)) l = (hasLk (L.take j) l || lkEq p l) := by
  unfold hasLk
  rw [List.take_add_one, hp, Option.toList_some, List.any_append]
  simp
set_option maxHeartbeats 8000000 in
theorem wHas10 {w : World} {A : Option Addr} {c : Nat} {L : List Lk} (h : SB w A (2 * L.length) (cellsF lkC L)) (hn : L.length ≤ 1599289640354) (l : Lk) :
    Calls Tryz.prog 25 #[.slice A L.length c, .agg #[.string l.1, .string l.2]] w fun e w' => e = .returned (.bool (hasLk L l)) ∧ Below w.heap.size w w' := by
  obtain ⟨W, hW⟩ : ∃ W, w.alloc (.cells #[.string l.1, .string l.2] 42) = W := ⟨_, rfl⟩
  have HW := Lib.hid hW
  have hB : Below w.heap.size w W := by rw [← hW]; exact alloc_below10 _ _
  have q0 : W.heap[w.heap.size]? = some (.cells #[.string l.1, .string l.2] 42 (0, 0)) := by rw [← hW]; exact heap_alloc_new _ _
  have x0 : W.cell? ⟨w.heap.size, 0, none⟩ = some (.string l.1) := cell_of_row _ _ 0 _ _ _ q0
  have x1 : W.cell? ⟨w.heap.size, 1, none⟩ = some (.string l.2) := cell_of_row _ _ 1 _ _ _ q0
  have HS := Lib.hid (h.gw hB)
  have HN := Lib.hid hn
  have HB := Lib.hid hB
  have qE := fun W a b c d => eqLk W a b c d
  clear h hn hW hB q0
  go_enter Tryz.func25, Tryz.ntmps25
  go_upto_region 1 with fail
  rw [HW.out]
  go_upto_region 2 with fail
  go_loopw [9] (fun i wr => ∃ j : Nat, i = .int .i64 (j : Nat) ∧ j ≤ L.length ∧ hasLk (L.take j) l = false ∧ Below W.heap.size W wr) (fun i _ => L.length - (intOf i).toNat)
  case atStart => exact ⟨0, rfl, Nat.zero_le _, rfl, Below.refl _ _⟩
  case round =>
    rename World => wr
    obtain ⟨j, rfl, hj, hno, hb⟩ := hrel
    replace x0 := keep_below x0 hb
    replace x1 := keep_below x1 hb
    by_cases hlt : j < L.length
    · obtain ⟨p, hp⟩ : ∃ p, L[j]? = some p := ⟨_, List.getElem?_eq_getElem hlt⟩
      have HT := hasLk_take (l := l) hp
      rw [hno, Bool.false_or] at HT
      obtain ⟨g, o, rfl, hc⟩ := (HS.out.gw hb).el lkC_len (by omega) hp
      have c0 : wr.cell? ⟨g, o + j * 2, none⟩ = some (.string p.1) := hc 0 _ rfl
      have c1 : wr.cell? ⟨g, o + j * 2 + 1, none⟩ = some (.string p.2) := hc 1 _ rfl
      obtain ⟨Y, hY⟩ : ∃ Y, wr.alloc (.cells #[.string p.1, .string p.2] 42) = Y := ⟨_, rfl⟩
      have HY := Lib.hid hY
      have gY : Below wr.heap.size wr Y := by rw [← hY]; exact alloc_below10 _ _
      have rY : Y.heap[wr.heap.size]? = some (.cells #[.string p.1, .string p.2] 42 (0, 0)) := by rw [← hY]; exact heap_alloc_new _ _
      have y0 : Y.cell? ⟨wr.heap.size, 0, none⟩ = some (.string p.1) := cell_of_row _ _ 0 _ _ _ rY
      have y1 : Y.cell? ⟨wr.heap.size, 1, none⟩ = some (.string p.2) := cell_of_row _ _ 1 _ _ _ rY
      have z0 := keep_below x0 gY
      have z1 := keep_below x1 gY
      have i1 : (j : Int) < (L.length : Int) := by omega
      have l1 : (j : Int) ≤ 1599289640354 := by have := HN.out; omega
      have HLT := Lib.hid hlt
      have HBY := Lib.hid (below_next hb gY)
      have HT' := Lib.hid HT
      clear hj hlt hp hc gY rY hY hb HT hno
      go_upto_region 4 with fail
      rw [HY.out]
      cases he : lkEq (p.1, p.2) (l.1, l.2)
      · have HT2 := Lib.hid (HT'.out.trans he)
        go_wp2
        go_roundw
        case rel => exact ⟨j + 1, by go_num, HLT.out, HT2.out, HBY.out⟩
        case measure => have := HLT.out; simp [intOf]; omega
      · have HT2 := Lib.hid (show hasLk L l = true by
          have h1 := HT'.out.trans he
          rw [hasLk_is] at h1 ⊢
          exact List.mem_of_mem_take h1)
        go_wp2
        go_ret
        exact ⟨by rw [HT2.out]; rfl, below_next HB.out HBY.out⟩
    · obtain rfl : j = L.length := by omega
      have i1 : ¬ (L.length : Int) < (L.length : Int) := by omega
      rw [List.take_length] at hno
      have HB2 := Lib.hid (below_next HB.out hb)
      have HNO := Lib.hid hno
      clear hj hlt hb hno
      go_wp2
      go_ret
      exact ⟨by rw [HNO.out]; rfl, HB2.out⟩
end Go.Proofs.YtknppiebncdjmaaGreat

/- Layer 10: arguments of laws: scripts of operations, caps, locks. -/
namespace Go.Proofs.YtknppiebncdjmaaGreat
set_option maxRecDepth 100000
set_option maxRecDepth 100000
open Go.Joins Go.Deep Go.ChangeShapes Go.WideShapes Go.ChangeAt Go.RowKit

/-- An operation of a script. -/
structure OpX where
  do_ : Int
  tx : Int
  at_ : Lk
  to_ : ByteArray
  last : Int
instance : Inhabited OpX := ⟨⟨0, 0, (⟨#[]⟩, ⟨#[]⟩), ⟨#[]⟩, 0⟩⟩
def OpX.cells (o : OpX) : List Value := [.int .i64 o.do_, .int .i64 o.tx, .string o.at_.1, .string o.at_.2, .string o.to_, .int .i64 o.last]
structure OpXIs (o : OpX) : Prop where
  rd : -9223372036854775808 ≤ o.do_ ∧ o.do_ ≤ 9223372036854775807
  rt : -9223372036854775808 ≤ o.tx ∧ o.tx ≤ 9223372036854775807
  rl : -9223372036854775808 ≤ o.last ∧ o.last ≤ 9223372036854775807
  tb : o.at_.1.size ≤ 140737488351232
  ky : o.at_.2.size ≤ 140737488351232
  to_ : o.to_.size ≤ 140737488351232
/-- The slice of address A and length n is the script os. -/
structure RX (w : World) (A : Option Addr) (n : Nat) (os : List OpX) : Prop where
  len : os.length = n
  is : ∀ o ∈ os, OpXIs o
  row : 0 < n → ∃ b o, A = some ⟨b, o, none⟩ ∧ ∀ (j : Nat) (x : OpX), os[j]? = some x → w.rangeAt b (o + j * 6) x.cells
theorem RX.below {w w' : World} {A : Option Addr} {n : Nat} {os : List OpX} (h : RX w A n os) (hb : Below w.heap.size w w') : RX w' A n os :=
  ⟨h.len, h.is, fun hn => by
    obtain ⟨b, o, e, hr⟩ := h.row hn
    exact ⟨b, o, e, fun j x hx => rangeAt_belowS (hr j x hx) hb⟩⟩
theorem RX.at_ {w : World} {A : Option Addr} {n : Nat} {os : List OpX} (h : RX w A n os) {j : Nat} {x : OpX} (hx : os[j]? = some x) : ∃ b o, A = some ⟨b, o, none⟩ ∧ w.cell? ⟨b, o + j * 6, none⟩ = some (.int .i64 x.do_) ∧ w.cell? ⟨b, o + j * 6 + 1, none⟩ = some (.int .i64 x.tx) ∧ w.cell? ⟨b, o + j * 6 + 2, none⟩ = some (.string x.at_.1) ∧ w.cell? ⟨b, o + j * 6 + 3, none⟩ = some (.string x.at_.2) ∧ w.cell? ⟨b, o + j * 6 + 4, none⟩ = some (.string x.to_) ∧ w.cell? ⟨b, o + j * 6 + 5, none⟩ = some (.int .i64 x.last) := by
  obtain ⟨b, o, e, hr⟩ := h.row (by have := (List.getElem?_eq_some_iff.1 hx).1; have := h.len; omega)
  have q := hr j x hx
  exact ⟨b, o, e, q 0 _ rfl, q 1 _ rfl, q 2 _ rfl, q 3 _ rfl, q 4 _ rfl, q 5 _ rfl⟩
theorem cellsOpX : Tryz.prog.cellsOf 44 = 6 := by kernel_rfl
theorem bytesOpX : Tryz.prog.bytesOf 44 = 72 := by kernel_rfl
/-- A lock as it came in. -/
theorem open_lkX {H : Type} {enc : TypeId × Value → H} {w : World} {held : Bool} {fuel : Nat} {cs : List Value} {y : DataW H × List MemPlace} (h : DataW.trod enc Tryz.prog w 0 (fun _ => true) held fuel 42 cs = some y) (hl : Light Tryz.prog 42 y.1) :
    ∃ x : Lk, x.1.size ≤ 140737488351232 ∧ x.2.size ≤ 140737488351232 ∧ cs = lkC x := by
  obtain ⟨zs, k2, hcl, hzl, hD2, hf2⟩ := open_laidS Tryz.underlying42 (by kernel_rfl) (by kernel_rfl) h
  match cs, hcl, zs, hzl with
  | [g0, g1], _, [z0, z1], _ =>
    have s0 : DataW.trod enc Tryz.prog w 0 (fun _ => true) held k2 9 [g0] = some z0 := hf2 0 _ rfl
    have s1 : DataW.trod enc Tryz.prog w 0 (fun _ => true) held k2 9 [g1] = some z1 := hf2 1 _ rfl
    rw [hD2] at hl
    have l0 : Light Tryz.prog 9 z0.1 := light_field Tryz.underlying42 hl (j := 0) rfl rfl
    have l1 : Light Tryz.prog 9 z1.1 := light_field Tryz.underlying42 hl (j := 1) rfl rfl
    obtain ⟨a0, rfl, q0⟩ := open_strS Tryz.underlying9 l0 s0
    obtain ⟨a1, rfl, q1⟩ := open_strS Tryz.underlying9 l1 s1
    exact ⟨(a0, a1), q0, q1, rfl⟩
/-- An operation as it came in. -/
theorem open_opX {H : Type} {enc : TypeId × Value → H} {w : World} {held : Bool} {fuel : Nat} {cs : List Value} {y : DataW H × List MemPlace} (h : DataW.trod enc Tryz.prog w 0 (fun _ => true) held fuel 44 cs = some y) (hl : Light Tryz.prog 44 y.1) :
    ∃ o : OpX, OpXIs o ∧ cs = o.cells := by
  obtain ⟨ys, k, hlen, hyl, hD, hf⟩ := open_wideS Tryz.underlying44 h
  rw [cellsOpX] at hlen
  match cs, hlen, ys, hyl with
  | [g0, g1, g2, g3, g4, g5], _, [y0, y1, y2, y3, y4], _ =>
    have t0 : DataW.trod enc Tryz.prog w 0 (fun _ => true) held k 3 [g0] = some y0 := by
      have : DataW.trod enc Tryz.prog w 0 (fun _ => true) held k 3 (([g0, g1, g2, g3, g4, g5].drop 0).take (Tryz.prog.cellsOf 3)) = some y0 := hf 0 _ rfl
      rw [show Tryz.prog.cellsOf 3 = 1 by kernel_rfl] at this
      exact this
    have t1 : DataW.trod enc Tryz.prog w 0 (fun _ => true) held k 2 [g1] = some y1 := by
      have : DataW.trod enc Tryz.prog w 0 (fun _ => true) held k 2 (([g0, g1, g2, g3, g4, g5].drop 1).take (Tryz.prog.cellsOf 2)) = some y1 := hf 1 _ rfl
      rw [show Tryz.prog.cellsOf 2 = 1 by kernel_rfl] at this
      exact this
    have t2 : DataW.trod enc Tryz.prog w 0 (fun _ => true) held k 42 [g2, g3] = some y2 := by
      have : DataW.trod enc Tryz.prog w 0 (fun _ => true) held k 42 (([g0, g1, g2, g3, g4, g5].drop 2).take (Tryz.prog.cellsOf 42)) = some y2 := hf 2 _ rfl
      rw [show Tryz.prog.cellsOf 42 = 2 by kernel_rfl] at this
      exact this
    have t3 : DataW.trod enc Tryz.prog w 0 (fun _ => true) held k 9 [g4] = some y3 := by
      have : DataW.trod enc Tryz.prog w 0 (fun _ => true) held k 9 (([g0, g1, g2, g3, g4, g5].drop 4).take (Tryz.prog.cellsOf 9)) = some y3 := hf 3 _ rfl
      rw [show Tryz.prog.cellsOf 9 = 1 by kernel_rfl] at this
      exact this
    have t4 : DataW.trod enc Tryz.prog w 0 (fun _ => true) held k 2 [g5] = some y4 := by
      have : DataW.trod enc Tryz.prog w 0 (fun _ => true) held k 2 (([g0, g1, g2, g3, g4, g5].drop 5).take (Tryz.prog.cellsOf 2)) = some y4 := hf 4 _ rfl
      rw [show Tryz.prog.cellsOf 2 = 1 by kernel_rfl] at this
      exact this
    rw [hD] at hl
    have l2 : Light Tryz.prog 42 y2.1 := light_field Tryz.underlying44 hl (j := 2) rfl rfl
    have l3 : Light Tryz.prog 9 y3.1 := light_field Tryz.underlying44 hl (j := 3) rfl rfl
    obtain ⟨a0, rfl, w0⟩ := open_num Tryz.underlying3 t0
    obtain ⟨a1, rfl, w1⟩ := open_num Tryz.underlying2 t1
    obtain ⟨x, hx1, hx2, hx3⟩ := open_lkX t2 l2
    obtain ⟨a4, rfl, q4⟩ := open_strS Tryz.underlying9 l3 t3
    obtain ⟨a5, rfl, w5⟩ := open_num Tryz.underlying2 t4
    obtain ⟨tb, ky⟩ := x
    simp only [lkC, List.cons.injEq, and_true] at hx3
    obtain ⟨rfl, rfl⟩ := hx3
    exact ⟨⟨a0, a1, (tb, ky), a4, a5⟩, ⟨wf_i64 w0, wf_i64 w1, wf_i64 w5, hx1, hx2, q4⟩, rfl⟩
/-- A script as it came in. -/
theorem open_opsX {H : Type} {enc : TypeId × Value → H} {w : World} {held : Bool} {fuel : Nat} {v : Value} {y : DataW H × List MemPlace} (h : DataW.trod enc Tryz.prog w 0 (fun _ => true) held fuel 24 [v] = some y) (hl : Light Tryz.prog 24 y.1) :
    ∃ A len cap os, v = .slice A len cap ∧ RX w A len os ∧ len ≤ cap ∧ cap ≤ 1954687338211 ∧ ((y.1 = .nil ∧ cap = 0) ∨ ∃ elems rest, y.1 = .slice elems rest ∧ elems.length + rest.length = cap) := by
  rcases open_slice Tryz.underlying24 h with ⟨hcs, rfl⟩ | ⟨a, len, cap, m, n, D, Pl, hcs, _, hlc, hm, hmm, rfl, hx⟩
  · obtain rfl : v = .slice none 0 0 := by simpa using hcs
    exact ⟨none, 0, 0, [], rfl, ⟨rfl, by simp, fun h => absurd h (by omega)⟩, Nat.le_refl _, by omega, .inl ⟨rfl, rfl⟩⟩
  obtain rfl : v = .slice (some a) len cap := by simpa using hcs
  have hcap : cap * 72 ≤ 140737488351232 := light_sizedS Tryz.underlying24 bytesOpX hl (.inr ⟨_, _, rfl, by simp only [if_true] at hmm; subst hmm; simp; omega⟩)
  simp only [if_true] at hmm
  subst hmm
  have key : ∀ i, i < len → ∃ o : OpX, OpXIs o ∧ ∀ j, j < 6 → w.cell? ((a.add (i * 6)).add j) = some (o.cells.getD j undef) := by
    intro i hi
    obtain ⟨cs', h1, h2⟩ := hx i (by omega)
    rw [cellsOpX] at h1
    obtain ⟨hlen, hcell⟩ := cells_mapMS h1
    have hle : Light Tryz.prog 44 (D i) := light_elemS Tryz.underlying24 hl (List.mem_map.2 ⟨i, by simp [hi], rfl⟩)
    obtain ⟨o, ho, rfl⟩ := open_opX h2 hle
    exact ⟨o, ho, fun j hj => hcell j hj⟩
  obtain ⟨f, hf⟩ := choose_lt key
  refine ⟨some a, len, m, (List.range len).map f, rfl, ⟨by simp, fun o ho => ?_, fun hn => ?_⟩, hlc, by omega, .inr ⟨_, _, rfl, by simp; omega⟩⟩
  · obtain ⟨i, hi, rfl⟩ := List.mem_map.1 ho
    exact (hf i (by simpa using hi)).1
  · have h0 := (hf 0 hn).2 0 (by omega)
    rw [show (a.add (0 * 6)).add 0 = a from rfl] at h0
    obtain ⟨b, o, rfl⟩ := spot_addS (spot_noneS h0)
    refine ⟨b, o, rfl, fun j x hx => ?_⟩
    have hj : j < len := by have := (List.getElem?_eq_some_iff.1 hx).1; simpa using this
    have hxe : f j = x := by simpa [hj] using hx
    intro k u hu
    have hk : k < 6 := (List.getElem?_eq_some_iff.1 hu).1
    have := (hf j hj).2 k hk
    rw [Addr.add_mid, Addr.add_mid, hxe] at this
    rw [this, List.getD_eq_getElem?_getD, hu]
    rfl
end Go.Proofs.YtknppiebncdjmaaGreat
