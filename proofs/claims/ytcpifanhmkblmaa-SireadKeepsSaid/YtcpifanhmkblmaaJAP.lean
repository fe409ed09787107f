import Derived.Test.YtcpifanhmkblmaaSiOpen
import Derived.Test.YtcpifanhmkblmaaSiRef8
import Derived.Laws.OwnMore
/- Layer 9: lists of operations that the law makes; without. -/
namespace Go.Proofs.Ytcpifanhmkblmaa
set_option maxRecDepth 100000
set_option maxRecDepth 100000
open Go.RowKit

section
variable {E : SEl} {base n : Nat} {w w' : World} {v : Value} {vs : List Value}
/-- append, whatever stands behind it. -/
theorem wp_soW (hE : E.Ok) {o : Oper} {a : Act} {K : Act → World → Prop} {Q : Exit → Act → World → Prop} (s x : Operand)
    (ho : o.op = .call { callee := .builtin .append, args := #[s, x], argTypes := #[E.t, E.t] })
    (v : Value) (hs : a.eval s = v) (hown : SO E base w v n vs) (A : Option Addr) (m c : Nat) (us : List Value) (hx : a.eval x = .slice A m c) (hr : SB w A (E.s * m) us)
    (hsz : (n + m) * E.b ≤ 140737488355328) (h63 : n + m ≤ maxLen) (hbase : base ≤ w.heap.size)
    (h : ∀ v' w', SO E base w' v' (n + m) (vs ++ us) → Below base w w' → K (a.put o.dst v') w') : o.wp Try.prog a w K Q := by
  obtain ⟨i0, hi, hz0, hz1, hz2⟩ := info_parts hE.info
  have hrow : ∀ k, v.ownBlock = some k → base ≤ k := fun k hk => (hown.own.lt k hk).1
  have hs0 := hE.s0
  rcases A with _ | ad
  · have hm : m = 0 := by
      rcases Nat.eq_zero_or_pos m with h0 | h0
      · exact h0
      · obtain ⟨g, q, e, -⟩ := hr.cell (Nat.mul_pos hs0 h0)
        cases e
    subst hm
    have hy : us = [] := List.eq_nil_of_length_eq_zero (by rw [hr.len]; simp)
    subst hy
    have hrun := run_append_nothing w E.t o.type i0 hE.und hi hown.own c
    unfold Oper.wp
    simp [execOp, ho, resolve, invoke, builtin, hs, hx, hrun, Result.andThen]
    exact h v w (by simpa using hown) (Below.refl _ _)
  · have hcell : ∀ j u, us[j]? = some u → w.cell? (ad.add j) = some u := by
      rcases Nat.eq_zero_or_pos m with h0 | h0
      · intro j u hj
        have hy : us = [] := List.eq_nil_of_length_eq_zero (by rw [hr.len, h0]; simp)
        subst hy
        simp at hj
      · obtain ⟨g, q, e, hcell⟩ := hr.addr (Nat.mul_pos hs0 h0)
        cases e
        exact hcell
    refine wp_append_own w s x E.t ho base E.e i0 E.z E.s E.b hE.und hi hz0 hz1 hz2 hE.zc hs0 v n vs hs hown.own ad m c us hx (by rw [hr.len, Nat.mul_comm]) hcell hr.one h63 hsz hbase ?_
    · intro v' w' hown' hg _
      exact h v' w' ⟨hown', by rw [List.length_append, hown.len, hr.len, ← Nat.mul_add], fun u hu => by
        rcases List.mem_append.1 hu with h1 | h1
        · exact hown.one u h1
        · exact hr.one u h1⟩ (below_of_grown8 (w1 := w) hg hbase hrow)
/-- append in a list of operations. -/
theorem so_appendW (hE : E.Ok) {ops : Array Oper} {rest : List Oper} {o : Oper} {a : Act} {Q : Exit → Act → World → Prop} (hgd : o.guard = none) (s x : Operand)
    (ho : o.op = .call { callee := .builtin .append, args := #[s, x], argTypes := #[E.t, E.t] })
    (v : Value) (hs : a.eval s = v) (hown : SO E base w v n vs) (A : Option Addr) (m c : Nat) (us : List Value) (hx : a.eval x = .slice A m c) (hr : SB w A (E.s * m) us)
    (hsz : (n + m) * E.b ≤ 140737488355328) (h63 : n + m ≤ maxLen) (hbase : base ≤ w.heap.size)
    (h : ∀ v' w', SO E base w' v' (n + m) (vs ++ us) → Below base w w' → wpList Try.prog ops Q rest (a.put o.dst v') w') : wpList Try.prog ops Q (o :: rest) a w :=
  wpList_plain hgd fun _ hK => wp_soW hE s x ho v hs hown A m c us hx hr hsz h63 hbase fun v' w' h1 h2 => hK _ _ (h v' w' h1 h2)
end
def seO : SEl := ⟨22, 33, .agg #[.int .i64 0, .int .i64 0, .string ⟨#[]⟩, .int .i64 0, .string ⟨#[]⟩, .string ⟨#[]⟩, .string ⟨#[]⟩], 7, 88⟩
theorem seO_ok : seO.Ok := ⟨by kernel_rfl, by kernel_rfl, by kernel_rfl, by decide, by decide, by decide⟩
def cellsO (L : List OpS) : List Value := L.flatMap OpS.cells
theorem cellsO_len (L : List OpS) : (cellsO L).length = 7 * L.length := by
  induction L with
  | nil => rfl
  | cons p ps ih => simp only [cellsO, List.flatMap_cons, List.length_append, List.length_cons] at ih ⊢; rw [ih]; show 7 + _ = _; omega
theorem cellsO_cons (p : OpS) (ps : List OpS) : cellsO (p :: ps) = p.cells ++ cellsO ps := by simp [cellsO]
theorem cellsO_app (a b : List OpS) : cellsO (a ++ b) = cellsO a ++ cellsO b := by simp [cellsO]
theorem cellsO_one (ps : List OpS) : ∀ u ∈ cellsO ps, u.oneCell' = true := by
  intro u hu
  simp only [cellsO, List.mem_flatMap] at hu
  obtain ⟨p, -, hu⟩ := hu
  simp [OpS.cells] at hu
  rcases hu with rfl | rfl | rfl | rfl | rfl | rfl | rfl <;> rfl
theorem cellsO_at : ∀ (ps : List OpS) (j : Nat) (p : OpS), ps[j]? = some p → ∀ (k : Nat) u, p.cells[k]? = some u → (cellsO ps)[7 * j + k]? = some u
  | [], _, _, h, _, _, _ => by cases h
  | q :: ps, 0, p, h, k, u, hu => by
    cases h
    have hk : k < q.cells.length := (List.getElem?_eq_some_iff.1 hu).1
    rw [cellsO_cons, Nat.mul_zero, Nat.zero_add, List.getElem?_append_left hk]; exact hu
  | q :: ps, j + 1, p, h, k, u, hu => by
    have := cellsO_at ps j p h k u hu
    rw [cellsO_cons, List.getElem?_append_right (by show 7 ≤ _; omega)]
    rw [show 7 * (j + 1) + k - q.cells.length = 7 * j + k by show 7 * (j + 1) + k - 7 = _; omega]
    exact this
/-- The j-th of a list of operations. -/
theorem SB.op {w : World} {A : Option Addr} {L : List OpS} (h : SB w A (7 * L.length) (cellsO L)) {j : Nat} {x : OpS} (hp : L[j]? = some x) : ∃ b o, A = some ⟨b, o, none⟩ ∧ w.cell? ⟨b, o + j * 7, none⟩ = some (.int .i64 x.kind) ∧ w.cell? ⟨b, o + j * 7 + 1, none⟩ = some (.int .i64 x.tx) ∧ w.cell? ⟨b, o + j * 7 + 2, none⟩ = some (.string x.x.tb) ∧ w.cell? ⟨b, o + j * 7 + 3, none⟩ = some (.int .i64 x.x.kd) ∧ w.cell? ⟨b, o + j * 7 + 4, none⟩ = some (.string x.x.lo) ∧ w.cell? ⟨b, o + j * 7 + 5, none⟩ = some (.string x.x.hi) ∧ w.cell? ⟨b, o + j * 7 + 6, none⟩ = some (.string x.key) := by
  have hlt := (List.getElem?_eq_some_iff.1 hp).1
  obtain ⟨g, o, e, hc⟩ := h.cell (by omega)
  have q := fun k u hu => hc _ u (cellsO_at L j x hp k u hu)
  rw [Nat.mul_comm] at q
  simp only [← Nat.add_assoc] at q
  exact ⟨g, o, e, q 0 _ rfl, q 1 _ rfl, q 2 _ rfl, q 3 _ rfl, q 4 _ rfl, q 5 _ rfl, q 6 _ rfl⟩
theorem sb_op (X : World) (x : OpS) : SB (X.alloc (.cells #[.int .i64 x.kind, .int .i64 x.tx, .string x.x.tb, .int .i64 x.x.kd, .string x.x.lo, .string x.x.hi, .string x.key] 33)) (some ⟨X.heap.size, 0, none⟩) (seO.s * 1) (cellsO [x]) := by
  refine ⟨rfl, cellsO_one _, fun _ => ⟨X.heap.size, 0, rfl, fun j u hj => ?_⟩⟩
  rw [cell_of_row _ _ _ _ _ _ (heap_alloc_new X (.cells #[.int .i64 x.kind, .int .i64 x.tx, .string x.x.tb, .int .i64 x.x.kd, .string x.x.lo, .string x.x.hi, .string x.key] 33))]
  simpa [cellsO, OpS.cells] using hj
def notTx (t : Int) (x : OpS) : Bool := !decide (x.tx = t)
theorem filter_takeO {L : List OpS} {f : OpS → Bool} {j : Nat} {p : OpS} (hp : L[j]? = some p) : (L.take (j + 1)).filter f = (L.take j).filter f ++ (if f p = true then [p] else []) := by
  rw [List.take_add_one, hp, Option.toList_some, List.filter_append]
  congr 1
  by_cases h : f p = true
  · rw [if_pos h]; simp [h]
  · rw [if_neg h]; simp [h]
theorem filter_takeO_le (L : List OpS) (f : OpS → Bool) (j : Nat) : ((L.take j).filter f).length ≤ j := by
  have h1 := List.length_filter_le f (L.take j)
  have h2 := List.length_take_le j L
  omega
set_option maxHeartbeats 16000000 in
theorem wWithout {w : World} {A : Option Addr} {c : Nat} {L : List OpS} (h : SB w A (7 * L.length) (cellsO L)) (hn : L.length ≤ 1599289640354) (t : Int) :
    Calls Try.prog 22 #[.slice A L.length c, .int .i64 t] w fun e w' => ∃ v, e = .returned v ∧ SO seO w.heap.size w' v (L.filter (notTx t)).length (cellsO (L.filter (notTx t))) ∧ Below w.heap.size w w' := by
  have HS := Lib.hid h
  have HN := Lib.hid hn
  clear h hn
  go_enter Try.func22, Try.ntmps22
  go_upto_region 3 with fail
  go_loopw [5, 10] (fun lv i' wr => ∃ j : Nat, i' = .int .i64 (j : Nat) ∧ j ≤ L.length ∧ SO seO w.heap.size wr lv ((L.take j).filter (notTx t)).length (cellsO ((L.take j).filter (notTx t))) ∧ Below w.heap.size w wr) (fun _ i' _ => L.length - (intOf i').toNat)
  case atStart => exact ⟨0, rfl, Nat.zero_le _, SO.nil _ _ _, Below.refl _ _⟩
  case round =>
    rename World => wr
    obtain ⟨j, rfl, hj, ho, hb⟩ := hrel
    have LE := filter_takeO_le L (notTx t) j
    by_cases hlt : j < L.length
    · obtain ⟨x, hx⟩ : ∃ p, L[j]? = some p := ⟨_, List.getElem?_eq_getElem hlt⟩
      have HT := filter_takeO (f := notTx t) hx
      obtain ⟨zs, hzs⟩ : ∃ zs, (L.take j).filter (notTx t) = zs := ⟨_, rfl⟩
      rw [hzs] at HT ho LE
      obtain ⟨ab, ao, rfl, q0, q1, q2, q3, q4, q5, q6⟩ := (HS.out.gw hb).op hx
      obtain ⟨kind, tx, ⟨tb, kd, lo, hi⟩, key⟩ := x
      dsimp only at q0 q1 q2 q3 q4 q5 q6
      have i1 : (j : Int) < (L.length : Int) := by omega
      have l1 : (j : Int) ≤ 1599289640354 := by have := HN.out; omega
      have HLT := Lib.hid hlt
      have HO := Lib.hid ho
      have HB := Lib.hid hb
      have HLE := Lib.hid LE
      obtain ⟨Y, hY⟩ : ∃ Y, wr.alloc (.cells #[.int .i64 kind, .int .i64 tx, .string tb, .int .i64 kd, .string lo, .string hi, .string key] 33) = Y := ⟨_, rfl⟩
      have HY := Lib.hid hY
      have rY := heap_alloc_new wr (.cells #[.int .i64 kind, .int .i64 tx, .string tb, .int .i64 kd, .string lo, .string hi, .string key] 33)
      rw [hY] at rY
      have gY : Below wr.heap.size wr Y := by rw [← hY]; exact (Below.refl _ _).alloc (Nat.le_refl _) _
      have y0 : Y.cell? ⟨wr.heap.size, 0, none⟩ = some (.int .i64 kind) := cell_of_row _ _ 0 _ _ _ rY
      have y1 : Y.cell? ⟨wr.heap.size, 1, none⟩ = some (.int .i64 tx) := cell_of_row _ _ 1 _ _ _ rY
      have y2 : Y.cell? ⟨wr.heap.size, 2, none⟩ = some (.string tb) := cell_of_row _ _ 2 _ _ _ rY
      have y3 : Y.cell? ⟨wr.heap.size, 3, none⟩ = some (.int .i64 kd) := cell_of_row _ _ 3 _ _ _ rY
      have y4 : Y.cell? ⟨wr.heap.size, 4, none⟩ = some (.string lo) := cell_of_row _ _ 4 _ _ _ rY
      have y5 : Y.cell? ⟨wr.heap.size, 5, none⟩ = some (.string hi) := cell_of_row _ _ 5 _ _ _ rY
      have y6 : Y.cell? ⟨wr.heap.size, 6, none⟩ = some (.string key) := cell_of_row _ _ 6 _ _ _ rY
      have hoy := ho.alloc (.cells #[.int .i64 kind, .int .i64 tx, .string tb, .int .i64 kd, .string lo, .string hi, .string key] 33)
      rw [hY] at hoy
      have HOY := Lib.hid hoy
      have HBY := Lib.hid (show Below w.heap.size w Y by rw [← hY]; exact hb.alloc hb.size _)
      clear hzs hx LE hj hlt ho hb rY gY hY hoy
      go_upto_region 5 with fail
      rw [HY.out]
      clear q0 q1 q2 q3 q4 q5 q6
      by_cases h1 : tx = t
      · subst h1
        have HT := Lib.hid (show (L.take (j + 1)).filter (notTx tx) = zs by rw [HT, if_neg (by simp [notTx]), List.append_nil])
        go_wp2
        go_roundw
        case rel => exact ⟨j + 1, by go_num, HLT.out, by rw [HT.out]; exact HOY.out, HBY.out⟩
        case measure => have := HLT.out; simp [intOf]; omega
      · have h1' : (tx == t) = false := by simpa using h1
        have HT := Lib.hid (show (L.take (j + 1)).filter (notTx t) = zs ++ [⟨kind, tx, ⟨tb, kd, lo, hi⟩, key⟩] by rw [HT, if_pos (by simp [notTx, h1])])
        go_wp2_with (at_builtin; go_loud (refine so_appendW seO_ok (by rfl) (.tmp 18) (.tmp 20) (by rfl) _ (by rfl) (HOY.out.alloc _) (some ⟨Y.heap.size, 0, none⟩) 1 1 (cellsO [⟨kind, tx, ⟨tb, kd, lo, hi⟩, key⟩]) (by rfl) (sb_op Y ⟨kind, tx, ⟨tb, kd, lo, hi⟩, key⟩) (by have := HLE.out; have := HLT.out; have := HN.out; show _ * 88 ≤ _; omega) (by have := HLE.out; have := HLT.out; have := HN.out; simp only [maxLen]; omega) (by have := HBY.out.size; simp; omega) ?_; intro v3 w3 o3 b3; have O3 := Lib.hid o3; have B3 := Lib.hid ((HBY.out.alloc HBY.out.size _).trans b3); clear o3 b3))
        go_roundw
        case rel => exact ⟨j + 1, by go_num, HLT.out, by rw [HT.out]; exact O3.out.base (Nat.le_refl _) (by rw [cellsO_app]) (by simp), B3.out⟩
        case measure => have := HLT.out; simp [intOf]; omega
    · obtain rfl : j = L.length := by omega
      have i1 : ¬ (L.length : Int) < (L.length : Int) := by omega
      rw [List.take_length] at ho LE
      have HO := Lib.hid ho
      have HB := Lib.hid hb
      clear ho hb LE hj hlt
      go_wp2
      go_ret
      exact ⟨_, rfl, HO.out, HB.out⟩
end Go.Proofs.Ytcpifanhmkblmaa

/- Layer 9: the reference's New. -/
namespace Go.Proofs.Ytcpifanhmkblmaa
set_option maxRecDepth 100000
set_option maxRecDepth 100000
open Go.RowKit

/-- May there be such a cap? -/
def capP (m : Int) : Bool := decide (1 ≤ m) && decide (m ≤ 65536)
set_option maxHeartbeats 2000000 in
theorem wrNew9 (w : World) (m : Int) :
    Calls Try.prog 30 #[.int .i64 m] w fun e w' => e = .returned (.tuple #[.agg #[.int .i64 m, .slice none 0 0], .bool (capP m)]) ∧ Below w.heap.size w w' := by
  have HB := Lib.hid (show Below w.heap.size w (w.alloc (.cells #[.int .i64 m, .slice none 0 0] 26)) from (Below.refl _ _).alloc (Nat.le_refl _) _)
  by_cases i1 : 1 ≤ m
  · by_cases i2 : m ≤ 65536
    · have HE := Lib.hid (show capP m = true by simp [capP, i1, i2])
      go_enter Try.func30, Try.ntmps30
      go_wp2
      refine bodyPost_ret (v := .tuple #[.agg #[.int .i64 m, .slice none 0 0], .bool true]) (by simp [results, Try.results30, go_sem]) rfl ⟨by rw [HE.out], HB.out⟩
    · have HE := Lib.hid (show capP m = false by simp [capP, i2])
      go_enter Try.func30, Try.ntmps30
      go_wp2
      refine bodyPost_ret (v := .tuple #[.agg #[.int .i64 m, .slice none 0 0], .bool false]) (by simp [results, Try.results30, go_sem]) rfl ⟨by rw [HE.out], HB.out⟩
  · have HE := Lib.hid (show capP m = false by simp [capP, i1])
    go_enter Try.func30, Try.ntmps30
    go_wp2
    refine bodyPost_ret (v := .tuple #[.agg #[.int .i64 m, .slice none 0 0], .bool false]) (by simp [results, Try.results30, go_sem]) rfl ⟨by rw [HE.out], HB.out⟩
end Go.Proofs.Ytcpifanhmkblmaa

/- Layer 9: the law's inner. -/
namespace Go.Proofs.Ytcpifanhmkblmaa
set_option maxRecDepth 100000
set_option maxRecDepth 100000
open Go.RowKit

def seS : SEl := ⟨49, 9, .string ⟨#[]⟩, 1, 16⟩
theorem seS_ok : seS.Ok := ⟨by kernel_rfl, by kernel_rfl, by kernel_rfl, by decide, by decide, by decide⟩
def strC (l : List ByteArray) : List Value := l.map .string
theorem strC_at {l : List ByteArray} {j : Nat} {x : ByteArray} (h : l[j]? = some x) : (strC l)[j]? = some (.string x) := by simp [strC, h]
/-- The keys of a note that the law looks at. -/
def innerP (x : Rd) (k : ByteArray) : List ByteArray := if x.kd = 1 then [x.lo] else if x.kd = 2 then (if !Op.bytesLess k.toList x.lo.toList && ((x.hi.toList == []) || Op.bytesLess k.toList x.hi.toList) then [x.lo, k] else [x.lo]) else [k, ⟨#[]⟩]
/-- The value is a list of texts. -/
def TxtIs (w : World) (v : Value) (l : List ByteArray) : Prop := ∃ A c, v = .slice A l.length c ∧ SB w A l.length (strC l)
theorem TxtIs.gw {w w' : World} {v : Value} {l : List ByteArray} (h : TxtIs w v l) (g : Below w.heap.size w w') : TxtIs w' v l := by
  obtain ⟨A, c, e, hs⟩ := h
  exact ⟨A, c, e, hs.gw g⟩
theorem so_str1 {w : World} {base : Nat} (hb : base ≤ w.heap.size) (s : ByteArray) : SO seS base (w.alloc (.cells #[.string s] 9)) (.slice (some ⟨w.heap.size, 0, none⟩) 1 1) 1 (strC [s]) :=
  ⟨World.ownsRow_lit w #[.string s] 1 hb (by decide) rfl, rfl, by intro u hu; simp [strC] at hu; subst hu; rfl⟩
theorem so_str2 {w : World} {base : Nat} (hb : base ≤ w.heap.size) (s t : ByteArray) : SO seS base (w.alloc (.cells #[.string s, .string t] 9)) (.slice (some ⟨w.heap.size, 0, none⟩) 2 2) 2 (strC [s, t]) :=
  ⟨World.ownsRow_lit w #[.string s, .string t] 2 hb (by decide) rfl, rfl, by intro u hu; simp [strC] at hu; rcases hu with rfl | rfl <;> rfl⟩
theorem SO.txt {w : World} {base : Nat} {v : Value} {l : List ByteArray} {n : Nat} (h : SO seS base w v n (strC l)) (hn : n = l.length) : TxtIs w v l := by
  subst hn
  obtain ⟨A, c, e, hs, -⟩ := h.form
  exact ⟨A, c, e, by rwa [show seS.s * l.length = l.length from Nat.one_mul _] at hs⟩
set_option maxHeartbeats 8000000 in
theorem wInner (w : World) (x : Rd) (k : ByteArray) : Calls Try.prog 24 #[rdV x, .string k] w fun e w' => ∃ v, e = .returned v ∧ TxtIs w' v (innerP x k) ∧ Below w.heap.size w w' := by
  obtain ⟨tb, kd, lo, hi⟩ := x
  obtain ⟨W, hW⟩ : ∃ W, w.alloc (.cells #[.string tb, .int .i64 kd, .string lo, .string hi] 31) = W := ⟨_, rfl⟩
  have HW := Lib.hid hW
  have hB : Below w.heap.size w W := by rw [← hW]; exact below_alloc9 _ _
  have HB := Lib.hid hB
  have HZ := Lib.hid hB.size
  have q := rd_box w ⟨tb, kd, lo, hi⟩
  rw [hW] at q
  have x1 : W.cell? ⟨w.heap.size, 1, none⟩ = some (.int .i64 kd) := cell_of_row _ _ 1 _ _ _ q
  have x2 : W.cell? ⟨w.heap.size, 2, none⟩ = some (.string lo) := cell_of_row _ _ 2 _ _ _ q
  have x3 : W.cell? ⟨w.heap.size, 3, none⟩ = some (.string hi) := cell_of_row _ _ 3 _ _ _ q
  have b1 : ∀ (y : ByteArray), Below w.heap.size w (W.alloc (.cells #[.string y] 9)) := fun y => hB.alloc hB.size _
  have HB1 := Lib.hid b1
  have HB2 := Lib.hid (show ∀ (y z : ByteArray), Below w.heap.size w (W.alloc (.cells #[.string y, .string z] 9)) from fun y z => hB.alloc hB.size _)
  clear q hW hB b1
  unfold rdV
  by_cases k1 : kd = 1
  · subst k1
    have HM := Lib.hid (show innerP ⟨tb, 1, lo, hi⟩ k = [lo] by simp [innerP])
    go_enter Try.func24, Try.ntmps24
    go_upto_region 1 with fail
    rw [HW.out]
    go_wp2
    go_ret
    exact ⟨_, rfl, by rw [HM.out]; exact (so_str1 HZ.out lo).txt rfl, HB1.out lo⟩
  · have k1' : (kd == 1) = false := by simpa using k1
    by_cases k2 : kd = 2
    · subst k2
      cases e1 : Op.bytesLess k.toList lo.toList <;> cases e2 : (hi.toList == []) <;> cases e3 : Op.bytesLess k.toList hi.toList
      all_goals
        have HM := Lib.hid (show innerP ⟨tb, 2, lo, hi⟩ k = _ by unfold innerP; rw [if_neg (by simp), if_pos rfl, e1, e2, e3])
        obtain ⟨V, hV⟩ : ∃ V, W.alloc (.cells #[.string lo] 9) = V := ⟨_, rfl⟩
        have HV := Lib.hid hV
        have HO := Lib.hid (show SO seS w.heap.size V (.slice (some ⟨W.heap.size, 0, none⟩) 1 1) 1 (strC [lo]) by rw [← hV]; exact so_str1 HZ.out lo)
        have hB5 : Below w.heap.size w V := by rw [← hV]; exact HB1.out lo
        have HB5 := Lib.hid hB5
        have b5 : Below W.heap.size W V := by rw [← hV]; exact below_alloc9 _ _
        have y2 : V.cell? ⟨w.heap.size, 2, none⟩ = some (.string lo) := keep_below x2 b5
        have y3 : V.cell? ⟨w.heap.size, 3, none⟩ = some (.string hi) := keep_below x3 b5
        have HT := Lib.hid (show SB (V.alloc (.cells #[.string k] 9)) (some ⟨V.heap.size, 0, none⟩) (seS.s * 1) (strC [k]) by
          obtain ⟨A, c, e, hs, -⟩ := (so_str1 (w := V) (base := 0) (Nat.zero_le _) k).form
          cases e
          exact hs)
        clear hV hB5 b5
        go_enter Try.func24, Try.ntmps24
        go_upto_region 1 with fail
        rw [HW.out]
        go_upto_region 6 with fail
        rw [HV.out]
        first
        | (go_wp2
           go_ret
           exact ⟨_, rfl, by rw [HM.out]; exact HO.out.txt rfl, HB5.out⟩)
        | (go_wp2_with (at_builtin; go_loud (refine so_append seS_ok (by rfl) (.tmp 33) (.tmp 35) (by rfl) _ (by rfl) (HO.out.alloc _) (some ⟨V.heap.size, 0, none⟩) 1 1 (strC [k]) (by rfl) HT.out (by omega) (by have := HB5.out.size; simp; omega) ?_; intro v4 w4 o4 b4; have O4 := Lib.hid o4; have B4 := Lib.hid ((HB5.out.alloc HB5.out.size _).trans b4); clear o4 b4))
           go_ret
           exact ⟨_, rfl, by rw [HM.out]; exact O4.out.txt rfl, B4.out⟩)
    · have k2' : (kd == 2) = false := by simpa using k2
      have HM := Lib.hid (show innerP ⟨tb, kd, lo, hi⟩ k = [k, ⟨#[]⟩] by unfold innerP; rw [if_neg k1, if_neg k2])
      clear k1 k2
      go_enter Try.func24, Try.ntmps24
      go_upto_region 1 with fail
      rw [HW.out]
      go_wp2
      go_ret
      exact ⟨_, rfl, by rw [HM.out]; exact (so_str2 HZ.out k ⟨#[]⟩).txt rfl, HB2.out k ⟨#[]⟩⟩
end Go.Proofs.Ytcpifanhmkblmaa
