/- Layer 12: All: the function value that it makes, and what that value promises. -/
import Derived.Test.YtagangneoibbcaaDoorLxHx
import Derived.OwnWalkIn
set_option linter.unusedVariables false
namespace Go.Proofs.YtagangneoibbcaaDoor
set_option maxRecDepth 100000
set_option maxRecDepth 100000
open Go.RowKit Go.Shelf

attribute [local go_sem] Oper.semAt_some

theorem wpListIn_load_midT {F : Fence} {n : Nat} {P : Program} {ops : Array Oper} {rest : List Oper} {op : Oper} {a : Act} {w : World} {Q : Exit → Act → World → Prop} (hgd : op.guard = none) (ty : TypeId) (x : Operand) (ho : op.op = .load ty x)
    (b o : Nat) (hx : a.eval x = .pointer (some ⟨b, o, none⟩)) (cs : List Value) (d : TypeDesc) (hc : w.rangeAt b o cs)
    (hu : P.underlying ty = some d) (hd : d.isRow = true) (hi : (P.info? ty).map (·.size) = some cs.length)
    (h : wpListIn F n P ops Q rest (a.put op.dst (.agg cs.toArray)) w) : wpListIn F n P ops Q (op :: rest) a w := by
  refine wpListIn_plain hgd fun K hK => ?_
  unfold Oper.wpIn
  refine ⟨?_, ?_⟩
  · simp [Oper.about, ho]
  · rw [Oper.semAt_plain F _ _ (by rw [ho]; intro c hc'; cases hc')]
    unfold execOp
    simp only [ho, hx, Instr.loadAt, Instr.sureAddr, Sem.run_bind, Sem.run_pure, Result.andThen_ok, run_loadVar_mid w b o ty cs d hc hu hd hi]
    exact hK _ _ h
theorem YieldAt.anyDepthX {m : Nat} (m' : Nat) {P : Program} {l : Nat} {args : Array Value} {W : World} {R : Ending → World → Prop} (h : YieldAt Fence.wide m P l args W R) : YieldAt Fence.wide m' P l args W R := by
  obtain ⟨fn, tmps, assign, body, hy, hR⟩ := h
  exact ⟨fn, tmps, assign, body, hy, ⟨hR.1, fun c cs _ => hR.2 c cs (room_wide _)⟩⟩
/-- What is handed on: the number, the token. -/
def encX (x : Nat × Tk) : Array Value := #[.int .i64 (x.1 : Nat), .agg #[.int .i64 x.2.k, .string x.2.t, .int .i64 x.2.vk, .int .i64 x.2.vi, .bool false, .string x.2.vb, .complex .f64 0 0, .int .i64 (x.2.a : Nat)]]
def okX (l : List Tk) (pre : List (Nat × Tk)) (x : Nat × Tk) (_ : World) : Prop := x.1 = pre.length ∧ l[pre.length]? = some x.2
/-- What a round has to leave as it was. -/
def keepX (A B : World) : Prop := (∀ (k : Nat) (o : Obj), A.heap[k]? = some o → Rdr o → B.heap[k]? = some o) ∧ (ErrAt A → ErrAt B)
theorem LeftT.at_ {L : List Int} {done : List Tk} {i : Nat} {y : Tk} (h : LeftT L (done ++ [y]) i) : (toksP L).1[done.length]? = some y := by
  obtain ⟨f, -, e⟩ := h.fuel
  rw [e]
  simp
set_option maxHeartbeats 16000000 in
theorem hands_all (n bv : Nat) (s : ByteArray) (V : World) (hb : Bx V bv (.string s) 9) (he : ErrAt V) (hs : s.size ≤ 65536) :
    HandsX Fence.wide n Tryd.prog 31 #[.pointer (some ⟨bv, 0, none⟩)] encX (okX (toksP (strB s)).1) keepX (fun xs => xs.length = (toksP (strB s)).1.length) (fun _ => True) V := by
  intro l J Jx W hW hJ hJx hT hY h0
  have YY := Lib.hid (fun pre x X (hX : J pre X) (hp : okX (toksP (strB s)).1 pre x X) => YieldAt.anyDepthX 8 (hY pre x X hX hp))
  have TT := Lib.hid hT
  obtain ⟨L, hL⟩ : ∃ L, strB s = L := ⟨_, rfl⟩
  rw [hL] at YY ⊢
  have HLS := Lib.hid hL.symm
  have HLL := Lib.hid (show L.length = s.size by rw [← hL]; exact strB_len s)
  have he := he.below hW
  have HER := Lib.hid he
  have cb := (hb.gw hW).c
  obtain ⟨W0, hW0⟩ : ∃ X, W.alloc (.cells #[.string s, .int .i64 0, .int .i64 0, .string ⟨#[]⟩, .int .i64 0, .int .i64 0, .bool false, .string ⟨#[]⟩, .complex .f64 0 0, .int .i64 0, .int .i64 0, .int .i64 0] 50) = X := ⟨_, rfl⟩
  have HW0 := Lib.hid hW0
  have B0 := Lib.hid (show Below W.heap.size W W0 by rw [← hW0]; exact (Below.refl _ _).alloc (Nat.le_refl _) _)
  have R0 := Lib.hid (show Rd W0 W.heap.size s 0 Tk.zero 0 0 by rw [← hW0]; exact heap_alloc_new W _)
  have HG := Lib.hid (show 3 < W.heap.size from he.lt)
  have J0 := Lib.hid (hJ _ _ _ h0 B0.out)
  have E0 := Lib.hid (HER.out.below B0.out)
  obtain ⟨g, hg⟩ : ∃ g, W.heap.size = g := ⟨_, rfl⟩
  have HGW := Lib.hid hg
  have HGV := Lib.hid (show V.heap.size ≤ g by rw [← hg]; exact hW.size)
  rw [hg] at R0 HG
  clear hL he hW0 hg hY hJ hJx hT h0 hb hW
  refine callsIn_wide.2 ?_
  simp only [List.append_toArray, List.cons_append, List.nil_append]
  go_enter Tryd.func31, Tryd.ntmps31
  have hst := run_store_cx Tryd.prog
  go_wp2
  rw [HW0.out, HGW.out]
  clear hst cb
  go_loopw [4] (fun iv wr => ∃ (pre : List (Nat × Tk)) (done : List Tk) (i : Nat) (x : Tk), iv = .int .i64 (done.length : Nat) ∧ pre.length = done.length ∧ J pre wr ∧ Rd wr g s i x 0 0 ∧ ErrAt wr ∧ LeftT L done i) (fun _ wr => s.size - posW wr g)
  case atStart => exact ⟨[], [], 0, Tk.zero, rfl, rfl, J0.out, R0.out, E0.out, LeftT.start L⟩
  case round =>
    rename World => wr
    obtain ⟨pre, done, i, x, rfl, hpl, hj, hr, her, hlf⟩ := hrel
    have HR := Lib.hid hr
    have HJ := Lib.hid hj
    have HPL := Lib.hid hpl
    have HLF := Lib.hid hlf
    have CN := Lib.hid (wNext hr her HG.out (by have := hlf.1; rw [← HLL.out]; exact this) hs)
    rw [← HLS.out] at CN
    have HLE := Lib.hid (show done.length ≤ 65536 by have := hlf.1; have := hlf.2.1; have := HLL.out; omega)
    have HES := Lib.hid (show ErrAt wr from her)
    have JT := Lib.hid (fun (A B : World) (pre : List (Nat × Tk)) (hA : J pre A) (rA : ∃ i x f p, Rd A g s i x f p) (o : Out (fun k => k = g) A B) => by
      obtain ⟨i, x, f, p, rA⟩ := rA
      exact TT.out pre A B g _ hA HGV.out rA ⟨_, _, rfl⟩ o)
    by_cases hend : i + skipN false (L.drop i) = L.length
    · have HT := Lib.hid (hlf.ends hend)
      have CN := Lib.hid (CN.out.mono fun e w' h => h.end_ hend)
      obtain ⟨q, hq⟩ : ∃ q, done.length = q := ⟨_, rfl⟩
      rw [hq]
      have FIN := Lib.hid (show pre.length = (toksP L).1.length by rw [HT.out]; exact HPL.out)
      clear hr her hlf hend hj hpl hq
      go_wp2_with (go_at_call 27; go_loud (refine CN.out.mono ?_; rintro e w1 ⟨o1, rfl, r1⟩; have J1 := Lib.hid (JT.out _ _ _ HJ.out ⟨_, _, _, _, HR.out⟩ o1); clear o1 r1))
      go_end0
      exact ⟨⟨_, rfl⟩, .inl ⟨_, FIN.out, J1.out⟩⟩
    · have CN := Lib.hid (CN.out.mono fun e w' h => h.one_ hend)
      obtain ⟨b, hb⟩ : ∃ b, i + skipN false (L.drop i) = b := ⟨_, rfl⟩
      have OK := Lib.hid (fun h => hlf.ok hend h)
      have BAD := Lib.hid (fun h => hlf.bad hend h)
      rw [hb] at CN OK BAD
      obtain ⟨o, hoo⟩ : ∃ o, oneP b (L.drop b) = o := ⟨_, rfl⟩
      rw [hoo] at CN OK BAD
      by_cases h0 : o.e = 0
      · have OK2 := Lib.hid (OK.out h0)
        have CN2 := Lib.hid (CN.out.mono fun e w' h => h.yes_ h0)
        obtain ⟨y, hy⟩ : ∃ y, o.tk = y := ⟨_, rfl⟩
        obtain ⟨q, hq⟩ : ∃ q, b + o.n = q := ⟨_, rfl⟩
        rw [hy, hq] at CN2 OK2
        have HI := Lib.hid (show (Tryd.prog.info? 36).map (·.size) = some [Value.int .i64 y.k, .string y.t, .int .i64 y.vk, .int .i64 y.vi, .bool false, .string y.vb, .complex .f64 0 0, .int .i64 (y.a : Nat)].length by rfl)
        have OKX := Lib.hid (show ∀ X, okX (toksP L).1 pre (done.length, y) X from fun X => ⟨HPL.out.symm, by rw [HPL.out]; exact OK2.out.1.at_⟩)
        have HDL := Lib.hid (show (done ++ [y]).length = done.length + 1 by simp)
        obtain ⟨z, hz⟩ : ∃ z, done.length = z := ⟨_, rfl⟩
        rw [hz] at OKX HDL HLE HPL
        rw [hz]
        have hzl := HLE.out
        have i4 : IntKind.i64.wrap ((z : Int) + 1) = ((z + 1 : Nat) : Int) := by rw [IntKind.wrap_i64]; omega
        have i5 : wrap64 ((z : Int) + 1) = ((z + 1 : Nat) : Int) := by unfold wrap64; omega
        clear hr her hlf hend hj hpl hb hoo h0 hy hq hz OK BAD CN
        go_upto_region 4 with (go_at_call 27; go_loud (refine CN2.out.mono ?_; rintro e w1 ⟨rfl, r1, o1⟩; have J1 := Lib.hid (JT.out _ _ _ HJ.out ⟨_, _, _, _, HR.out⟩ o1); have E1 := Lib.hid (HES.out.out o1 HG.out); have R1 := Lib.hid r1; have HRow := Lib.hid r1.tok; clear o1 r1))
        obtain ⟨fn, tmps, assign, body, hy, hR⟩ := YY.out pre (z, y) w1 J1.out (OKX.out w1)
        have HRR := Lib.hid hR
        unfold encX at hy
        dsimp only at hy
        clear hR
        refine (wpIn_wide (n := 9)).1 ?_
        gi_wp2_with (with_reducible refine wpListIn_load_midT rfl 36 (.tmp 12) rfl g 2 rfl [Value.int .i64 y.k, .string y.t, .int .i64 y.vk, .int .i64 y.vi, .bool false, .string y.vb, .complex .f64 0 0, .int .i64 (y.a : Nat)] _ HRow.out Tryd.underlying36 rfl HI.out ?_)
        refine HRR.out.mono ?_
        rintro e W2 hb
        have HB2 := Lib.hid hb
        clear hb HRR
        obtain ⟨rfl, hj, hk⟩ | ⟨rfl, hx⟩ := HB2.out
        · have GJ := Lib.hid hj
          have RK := Lib.hid (show Rd W2 g s q y 0 0 from hk.1 _ _ R1.out ⟨_, _, rfl⟩)
          have EK := Lib.hid (hk.2 E1.out)
          clear hj hk HB2 hy
          gi_wp2
          go_wp2
          go_roundw
          case rel => exact ⟨pre ++ [(z, y)], done ++ [y], q, y, by rw [HDL.out, Int.natCast_add]; rfl, by rw [HDL.out, List.length_append, HPL.out]; rfl, GJ.out, RK.out, EK.out, OK2.out.1⟩
          case measure =>
            rw [RK.out.pos, HR.out.pos]
            have := OK2.out.2
            have := OK2.out.1.1
            have := HLL.out
            omega
        · have GX := Lib.hid hx
          clear hx HB2 hy
          gi_wp2
          go_wp2
          refine bodyPost_ret (results_none rfl _ _ _) rfl ?_
          exact ⟨⟨_, rfl⟩, .inr ⟨_, trivial, GX.out⟩⟩
      · have BAD2 := Lib.hid (BAD.out h0)
        have CN2 := Lib.hid (CN.out.mono fun e w' h => h.no_ h0)
        obtain ⟨q, hq⟩ : ∃ q, done.length = q := ⟨_, rfl⟩
        rw [hq]
        have FIN := Lib.hid (show pre.length = (toksP L).1.length by rw [BAD2.out]; exact HPL.out)
        clear hr her hlf hend hj hpl hb hoo h0 hq OK BAD CN
        go_wp2_with (go_at_call 27; go_loud (refine CN2.out.mono ?_; rintro e w1 ⟨rfl, -, o1⟩; have J1 := Lib.hid (JT.out _ _ _ HJ.out ⟨_, _, _, _, HR.out⟩ o1); clear o1))
        go_end0
        exact ⟨⟨_, rfl⟩, .inl ⟨_, FIN.out, J1.out⟩⟩
/-- All's value, and what it promises from the world X on. -/
def AllAt (l : List Tk) (v : Value) (X : World) : Prop :=
  ∃ gf lb, v = .func (.func gf) #[] lb ∧ (∀ args w, (callFunc gf args).run Tryd.prog w = .ok (.enter gf args) w) ∧ ∀ V n, ErrAt V → Below X.heap.size X V → HandsX Fence.wide n Tryd.prog gf lb encX (okX l) keepX (fun xs => xs.length = l.length) (fun _ => True) V
set_option maxHeartbeats 4000000 in
theorem wAll (s : ByteArray) (w : World) (hs : s.size ≤ 65536) :
    Calls Tryd.prog 14 #[.string s] w fun e w' => ∃ v, e = .returned v ∧ Below w.heap.size w w' ∧ AllAt (toksP (strB s)).1 v w' := by
  obtain ⟨W0, hW0⟩ : ∃ X, w.alloc (.cells #[.string s] 9) = X := ⟨_, rfl⟩
  have HW0 := Lib.hid hW0
  have BX := Lib.hid (show Bx W0 w.heap.size (.string s) 9 by rw [← hW0]; exact Bx.new w _ _)
  have B0 := Lib.hid (show Below w.heap.size w W0 by rw [← hW0]; exact (Below.refl _ _).alloc (Nat.le_refl _) _)
  have FIN := Lib.hid (show AllAt (toksP (strB s)).1 (.func (.func 31) #[] #[.pointer (some ⟨w.heap.size, 0, none⟩)]) W0 from
    ⟨_, _, rfl, enters_of Tryd.func31 (by kernel_rfl) rfl, fun V n he hb => hands_all n _ s V (BX.out.gw hb) he hs⟩)
  have c0 := BX.out.c
  have h1 : ¬ (65536 : Int) < (s.size : Int) := by omega
  clear hW0
  go_enter Tryd.func14, Tryd.ntmps14
  go_upto_region 1 with fail
  rw [HW0.out]
  go_wp2
  go_ret
  exact ⟨_, rfl, B0.out, FIN.out⟩
theorem wNoneX (n l : Nat) (W : World) : CallsIn Fence.wide n Tryd.prog 30 (#[.func (.yield l) #[] #[]] ++ #[]) W fun e w' => e = .returned (.tuple #[]) ∧ w' = W := by
  refine callsIn_wide.2 ?_
  simp only [Array.append_empty]
  go_enter Tryd.func30, Tryd.ntmps30
  go_wp2
  go_end0
  exact ⟨rfl, rfl⟩
set_option maxHeartbeats 4000000 in
theorem wAllLong (s : ByteArray) (w : World) (hs : 65536 < s.size) (hm : s.size ≤ 140737488351232) :
    Calls Tryd.prog 14 #[.string s] w fun e w' => ∃ v, e = .returned v ∧ Below w.heap.size w w' ∧ AllAt [] v w' := by
  obtain ⟨W0, hW0⟩ : ∃ X, w.alloc (.cells #[.string s] 9) = X := ⟨_, rfl⟩
  have HW0 := Lib.hid hW0
  have BX := Lib.hid (show Bx W0 w.heap.size (.string s) 9 by rw [← hW0]; exact Bx.new w _ _)
  have B0 := Lib.hid (show Below w.heap.size w W0 by rw [← hW0]; exact (Below.refl _ _).alloc (Nat.le_refl _) _)
  have FIN := Lib.hid (show AllAt [] (.func (.func 30) #[] #[]) W0 from
    ⟨_, _, rfl, enters_of Tryd.func30 (by kernel_rfl) rfl, fun V n he hb l J Jx W hW hJ hJx hT hY h0 => (wNoneX n l W).mono fun e w' ⟨h1, h2⟩ => ⟨⟨_, h1⟩, .inl ⟨[], rfl, by rw [h2]; exact h0⟩⟩⟩)
  have c0 := BX.out.c
  have h1 : (65536 : Int) < (s.size : Int) := by omega
  clear hW0
  go_enter Tryd.func14, Tryd.ntmps14
  go_upto_region 1 with fail
  rw [HW0.out]
  go_wp2
  go_ret
  exact ⟨_, rfl, B0.out, FIN.out⟩
end Go.Proofs.YtagangneoibbcaaDoor
