/- Layer 12: SameValue, sameToken, same: where both are one. -/
import Derived.Test.YtagangneoibbcaaDoorLxBg
set_option linter.unusedVariables false
namespace Go.Proofs.YtagangneoibbcaaDoor
set_option maxRecDepth 100000
set_option maxRecDepth 100000
open Go.RowKit

theorem wpStill_loadT {P : Program} {ops : Array Oper} {w : World} {Q : Act → Prop} {a : Act} {o : Oper} {rest : List Oper} (hgd : o.guard = none) (ty : TypeId) (x : Operand) (ho : o.op = .load ty x)
    (b off : Nat) (hx : a.eval x = .pointer (some ⟨b, off, none⟩)) (cs : List Value) (d : TypeDesc) (hc : w.rangeAt b off cs) (hu : P.underlying ty = some d) (hd : d.isRow = true) (hi : (P.info? ty).map (·.size) = some cs.length)
    (h : wpStill P ops w Q rest (a.put o.dst (.agg cs.toArray))) : wpStill P ops w Q (o :: rest) a := by
  refine wpStill_step (fun K hK => ?_)
  rw [if_pos (by simp [Region.wanted, hgd])]
  unfold Oper.still execOp
  simp only [ho, hx, Instr.loadAt, Instr.sureAddr, Sem.run_bind, Sem.run_pure, Result.andThen_ok, run_loadVar_mid w b off ty cs d hc hu hd hi, Oper.stillUpon_value]
  exact hK _ h
theorem ahead_len : ∀ (f a : Nat) (R : List Int), (aheadP f a R).1.length ≤ R.length
  | 0, _, _ => by simp [aheadP]
  | f + 1, a, R => by
    by_cases h : skipN false R = R.length
    · rw [ahead_end h]; simp
    · by_cases h2 : (oneP (a + skipN false R) (R.drop (skipN false R))).e = 0
      · rw [ahead_ok h h2, List.length_cons]
        have h3 := ahead_len f (a + skipN false R + (oneP (a + skipN false R) (R.drop (skipN false R))).n) (R.drop (skipN false R + (oneP (a + skipN false R) (R.drop (skipN false R))).n))
        have h4 := one_lenL (L := R) (a + skipN false R) (skipN false R) (by have := skipN_le false R; omega) h2
        rw [List.length_drop] at h3
        omega
      · rw [ahead_bad h h2]; simp
theorem toks_len (s : ByteArray) (hs : s.size ≤ 65536) : (toksP (strB s)).1.length ≤ 1000000 := by
  have := ahead_len ((strB s).length + 1) 0 (strB s)
  rw [strB_len] at this
  unfold toksP
  rw [strB_len]
  omega
theorem cx_eq (w : World) : (binOp .eql 32 (.complex .f64 0 0) (.complex .f64 0 0)).run Tryd.prog w = .ok (.bool true) w := by rfl
set_option maxHeartbeats 4000000 in
theorem wSameV (k n : Int) (b : ByteArray) (w : World) :
    Calls Tryd.prog 26 #[.agg #[.int .i64 k, .int .i64 n, .bool false, .string b, .complex .f64 0 0], .agg #[.int .i64 k, .int .i64 n, .bool false, .string b, .complex .f64 0 0]] w fun e w' => e = .returned (.bool true) ∧ Below w.heap.size w w' := by
  have hcx := fun w => cx_eq w
  go_enter Tryd.func26, Tryd.ntmps26
  go_wp2
  go_ret
  exact ⟨rfl, ((Below.refl _ _).alloc (Nat.le_refl _) _).alloc (by simp) _⟩
set_option maxHeartbeats 8000000 in
theorem wSameT (x : Tk) (w : World) :
    Calls Tryd.prog 15 #[.agg #[Value.int .i64 x.k, .string x.t, .int .i64 x.vk, .int .i64 x.vi, .bool false, .string x.vb, .complex .f64 0 0, .int .i64 (x.a : Nat)], .agg #[Value.int .i64 x.k, .string x.t, .int .i64 x.vk, .int .i64 x.vi, .bool false, .string x.vb, .complex .f64 0 0, .int .i64 (x.a : Nat)]] w fun e w' => e = .returned (.bool true) ∧ Below w.heap.size w w' := by
  have CV := Lib.hid fun W => wSameV x.vk x.vi x.vb W
  obtain ⟨k, t, vk, vi, vb, a⟩ := x
  dsimp only at CV ⊢
  obtain ⟨az, haz⟩ : ∃ z : Int, ((a : Nat) : Int) = z := ⟨_, rfl⟩
  rw [haz]
  have BB := Lib.hid (show ∀ o1 o2 W', Below ((w.alloc o1).alloc o2).heap.size ((w.alloc o1).alloc o2) W' → Below w.heap.size w W' from fun o1 o2 W' h => below_next (((Below.refl _ _).alloc (Nat.le_refl _) _).alloc (by simp) _) h)
  clear haz
  go_enter Tryd.func15, Tryd.ntmps15
  go_wp2_with (go_at_call 26; go_loud (refine (CV.out _).mono ?_; rintro e w1 ⟨rfl, b1⟩; have B1 := Lib.hid (BB.out _ _ _ b1); clear b1))
  go_ret
  exact ⟨rfl, B1.out⟩
set_option maxHeartbeats 8000000 in
theorem wSame {w : World} {A B : Option Addr} {c d : Nat} {l : List Tk} (h1 : SB w A (8 * l.length) (cellsE Tk.cells l)) (h2 : SB w B (8 * l.length) (cellsE Tk.cells l)) (hn : l.length ≤ 1000000) :
    Calls Tryd.prog 12 #[.slice A l.length c, .slice B l.length d] w fun e w' => e = .returned (.bool true) ∧ Below w.heap.size w w' := by
  have H1 := Lib.hid h1
  have H2 := Lib.hid h2
  obtain ⟨n, hn2⟩ : ∃ n, l.length = n := ⟨_, rfl⟩
  have HN := Lib.hid hn2
  have HL := Lib.hid (show n ≤ 1000000 by omega)
  rw [hn2]
  clear h1 h2 hn hn2
  go_enter Tryd.func12, Tryd.ntmps12
  go_wp2
  go_loopw [13] (fun v wr => ∃ j : Nat, v = .int .i64 (j : Nat) ∧ j ≤ n ∧ Below w.heap.size w wr) (fun v _ => n - (intOf v).toNat)
  case atStart => exact ⟨0, rfl, Nat.zero_le _, Below.refl _ _⟩
  case round =>
    rename World => wr
    obtain ⟨j, rfl, hj, hb⟩ := hrel
    have HB := Lib.hid hb
    by_cases hlt : j < n
    · obtain ⟨x, hx⟩ : ∃ x, l[j]? = some x := ⟨_, List.getElem?_eq_getElem (by rw [HN.out]; exact hlt)⟩
      obtain ⟨g, o, rfl, q1⟩ := SB.elE Tk.len (by decide) (H1.out.gw hb) hx
      obtain ⟨g2, o2, rfl, q2⟩ := SB.elE Tk.len (by decide) (H2.out.gw hb) hx
      have R1 := Lib.hid (show ∀ W : World, (∀ p v, wr.cell? p = some v → W.cell? p = some v) → W.rangeAt g (o + j * 8) [Value.int .i64 x.k, .string x.t, .int .i64 x.vk, .int .i64 x.vi, .bool false, .string x.vb, .complex .f64 0 0, .int .i64 (x.a : Nat)] from fun W hW i v hv => hW _ _ (q1 i v hv))
      have R2 := Lib.hid (show ∀ W : World, (∀ p v, wr.cell? p = some v → W.cell? p = some v) → W.rangeAt g2 (o2 + j * 8) [Value.int .i64 x.k, .string x.t, .int .i64 x.vk, .int .i64 x.vi, .bool false, .string x.vb, .complex .f64 0 0, .int .i64 (x.a : Nat)] from fun W hW i v hv => hW _ _ (q2 i v hv))
      have RD1 := Lib.hid (R1.out wr.drew fun p v h => h)
      have RD2 := Lib.hid (R2.out wr.drew fun p v h => h)
      have HI := Lib.hid (show (Tryd.prog.info? 36).map (·.size) = some [Value.int .i64 x.k, .string x.t, .int .i64 x.vk, .int .i64 x.vi, .bool false, .string x.vb, .complex .f64 0 0, .int .i64 (x.a : Nat)].length by rfl)
      have CT := Lib.hid fun W => wSameT x W
      have i1 : (j : Int) < (n : Int) := by omega
      have i2 : (j : Int) ≤ 1000000 := by have := HL.out; omega
      have HLT := Lib.hid hlt
      clear hb hx q1 q2 hlt
      go_upto_region 6 with fail
      refine wp_region_still_tail 8 (by kernel_rfl) (by kernel_rfl) ?_
      simp only [List.take_succ_cons, List.take_zero, List.drop_succ_cons, List.drop_zero]
      change wpStill _ _ wr.drew _ _ _
      iterate 3 still_step
      refine wpStill_loadT rfl 36 (.tmp 18) rfl g (o + j * 8) rfl [Value.int .i64 x.k, .string x.t, .int .i64 x.vk, .int .i64 x.vi, .bool false, .string x.vb, .complex .f64 0 0, .int .i64 (x.a : Nat)] _ RD1.out Tryd.underlying36 rfl HI.out ?_
      iterate 3 still_step
      refine wpStill_loadT rfl 36 (.tmp 22) rfl g2 (o2 + j * 8) rfl [Value.int .i64 x.k, .string x.t, .int .i64 x.vk, .int .i64 x.vi, .bool false, .string x.vb, .complex .f64 0 0, .int .i64 (x.a : Nat)] _ RD2.out Tryd.underlying36 rfl HI.out ?_
      refine wpStill_nil ?_
      change wpList _ _ _ _ _ wr.drew
      go_wp2_with (go_at_call 15; go_loud (refine (CT.out _).mono ?_; rintro e w1 ⟨rfl, b1⟩; have B1 := Lib.hid (HB.out.trans ((below_next (Below.refl _ _).drew b1).mono HB.out.size)); clear b1))
      go_roundw
      case rel => exact ⟨j + 1, by go_num, HLT.out, B1.out⟩
      case measure => have := HLT.out; simp [intOf]; omega
    · obtain rfl : j = n := by omega
      have i1 : ¬ (j : Int) < (j : Int) := by omega
      go_wp2
      go_ret
      exact ⟨rfl, HB.out⟩
end Go.Proofs.YtagangneoibbcaaDoor
