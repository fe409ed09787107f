/- Layer 12: Tokens. -/
import Derived.Test.YtagangneoibbcaaDoorLxT
set_option linter.unusedVariables false
namespace Go.Proofs.YtagangneoibbcaaDoor
set_option maxRecDepth 100000
set_option maxRecDepth 100000
open Go.RowKit

/-- What Tokens leaves. -/
def TokensIs (s : ByteArray) (w : World) (e : Ending) (w' : World) : Prop :=
  Below w.heap.size w w' ∧
  if 65536 < s.size then e = .returned (.tuple #[.slice none 0 0, .int .i64 65536, .int .i64 3])
  else if (toksP (strB s)).2.2 = 0 then ∃ v, e = .returned (.tuple #[v, .int .i64 0, .int .i64 0]) ∧ TL w.heap.size w' v (toksP (strB s)).1
  else e = .returned (.tuple #[.slice none 0 0, .int .i64 ((toksP (strB s)).2.1 : Nat), .int .i64 (toksP (strB s)).2.2])
theorem EndIs.yes_ {g : Nat} {s : ByteArray} {x : Tk} {f p : Int} {w w' : World} {o : One} {b j : Nat} {e : Ending} (h : EndIs g s x f p w o b j e w') (h0 : o.e = 0) : e = .returned (.bool true) ∧ Rd w' g s (b + o.n) o.tk f p ∧ Out (fun k => k = g) w w' := by
  unfold EndIs at h
  rw [if_pos h0] at h
  exact ⟨h.2.1, h.2.2, h.1⟩
theorem EndIs.no_ {g : Nat} {s : ByteArray} {x : Tk} {f p : Int} {w w' : World} {o : One} {b j : Nat} {e : Ending} (h : EndIs g s x f p w o b j e w') (h0 : ¬ o.e = 0) : e = .returned (.bool false) ∧ (∃ i, Rd w' g s i x o.e (j : Nat)) ∧ Out (fun k => k = g) w w' := by
  unfold EndIs at h
  rw [if_neg h0] at h
  exact ⟨h.2.1, h.2.2, h.1⟩
theorem ErrAt.belowB {base : Nat} {w w' : World} (h : ErrAt w) (hb : Below base w w') (hl : 3 < base) : ErrAt w' := by
  obtain ⟨te, pe, h⟩ := h
  exact ⟨te, pe, (hb.cell (p := ⟨3, 0, none⟩) hl).trans h⟩
theorem TL.mono_ {base base' : Nat} {w : World} {v : Value} {l : List Tk} (h : TL base w v l) (hb : base' ≤ base) : TL base' w v l := SO.base h hb rfl rfl
section
variable {L : List Int} {i g : Nat} {s : ByteArray} {x : Tk} {f p : Int} {w w' : World} {e : Ending}
theorem NextIs.end_ (h : NextIs L i g s x f p w e w') (he : i + skipN false (L.drop i) = L.length) : Out (fun k => k = g) w w' ∧ e = .returned (.bool false) ∧ Rd w' g s L.length x f p := by
  unfold NextIs at h
  rw [if_pos he] at h
  exact h
theorem NextIs.one_ (h : NextIs L i g s x f p w e w') (he : ¬ i + skipN false (L.drop i) = L.length) : EndIs g s x f p w (oneP (i + skipN false (L.drop i)) (L.drop (i + skipN false (L.drop i)))) (i + skipN false (L.drop i)) (i + skipN false (L.drop i) + (oneP (i + skipN false (L.drop i)) (L.drop (i + skipN false (L.drop i)))).n) e w' := by
  unfold NextIs at h
  rw [if_neg he] at h
  exact h
end
set_option maxHeartbeats 2000000 in
theorem wTokensLong (s : ByteArray) (w : World) (hs : 65536 < s.size) (hm : s.size ≤ 140737488351232) :
    Calls Tryd.prog 9 #[.string s] w fun e w' => e = .returned (.tuple #[.slice none 0 0, .int .i64 65536, .int .i64 3]) ∧ w = w' := by
  have h1 : (65536 : Int) < (s.size : Int) := by omega
  go_enter Tryd.func9, Tryd.ntmps9
  go_wp2
  go_ret3
  exact ⟨rfl, rfl⟩
set_option maxHeartbeats 16000000 in
theorem wTokens (s : ByteArray) (w : World) (hs : s.size ≤ 65536) (he : ErrAt w) : Calls Tryd.prog 9 #[.string s] w (TokensIs s w) := by
  obtain ⟨L, hL⟩ : ∃ L, strB s = L := ⟨_, rfl⟩
  have HLS := Lib.hid hL.symm
  have HLL := Lib.hid (show L.length = s.size by rw [← hL]; exact strB_len s)
  have HER := Lib.hid he
  have h1 : ¬ (65536 : Int) < (s.size : Int) := by omega
  obtain ⟨W0, hW0⟩ : ∃ W, w.alloc (.cells #[.string s, .int .i64 0, .int .i64 0, .string ⟨#[]⟩, .int .i64 0, .int .i64 0, .bool false, .string ⟨#[]⟩, .complex .f64 0 0, .int .i64 0, .int .i64 0, .int .i64 0] 50) = W := ⟨_, rfl⟩
  have HW0 := Lib.hid hW0
  have B0 := Lib.hid (show Below w.heap.size w W0 by rw [← hW0]; exact (Below.refl _ _).alloc (Nat.le_refl _) _)
  have R0 := Lib.hid (show Rd W0 w.heap.size s 0 Tk.zero 0 0 by rw [← hW0]; exact heap_alloc_new w _)
  have HS0 := Lib.hid (show W0.heap.size = w.heap.size + 1 by rw [← hW0]; simp)
  have HG := Lib.hid (show 3 < w.heap.size from he.lt)
  obtain ⟨g, hg⟩ : ∃ g, w.heap.size = g := ⟨_, rfl⟩
  have HGW := Lib.hid hg
  rw [hg] at B0 R0 HS0 HG
  have TI := Lib.hid (show ∀ e w', (Below g w w' ∧ if (toksP L).2.2 = 0 then ∃ v, e = .returned (.tuple #[v, .int .i64 0, .int .i64 0]) ∧ TL g w' v (toksP L).1 else e = .returned (.tuple #[.slice none 0 0, .int .i64 ((toksP L).2.1 : Nat), .int .i64 (toksP L).2.2])) → TokensIs s w e w' from fun e w' h => by
    unfold TokensIs
    rw [if_neg (by omega), ← HLS.out, HGW.out]
    exact h)
  clear hL he hW0 hg
  go_enter Tryd.func9, Tryd.ntmps9
  have hst := run_store_cx Tryd.prog
  go_wp2
  rw [HW0.out, HGW.out]
  clear hst
  go_loopw [5] (fun v wr => ∃ (done : List Tk) (i : Nat) (x : Tk), TL (g + 1) wr v done ∧ Rd wr g s i x 0 0 ∧ ErrAt wr ∧ Out (fun k => k = g) W0 wr ∧ LeftT L done i) (fun _ wr => s.size - posW wr g)
  case atStart => exact ⟨[], 0, Tk.zero, TL.nil _ _, R0.out, HER.out.below (HGW.out ▸ B0.out), Out.refl _ _, LeftT.start L⟩
  case round =>
    rename World => wr
    obtain ⟨done, i, x, hv, hr, her, ho, hlf⟩ := hrel
    have HV := Lib.hid hv
    have HR := Lib.hid hr
    have HO := Lib.hid ho
    have HLF := Lib.hid hlf
    have CN := Lib.hid (wNext hr her HG.out (by have := hlf.1; rw [← HLL.out]; exact this) hs)
    rw [← HLS.out] at CN
    have HLE := Lib.hid (show done.length ≤ 65536 by have := hlf.1; have := hlf.2.1; have := HLL.out; omega)
    have HES := Lib.hid (show ErrAt wr from her)
    have hgz := Lib.hid (Nat.le_trans (Nat.le_of_eq HS0.out.symm) ho.size)
    by_cases hend : i + skipN false (L.drop i) = L.length
    · have HT := Lib.hid (hlf.ends hend)
      have CN := Lib.hid (CN.out.mono fun e w' h => h.end_ hend)
      obtain ⟨A, c, rfl, -, -⟩ := hv.form
      clear hv hr her ho hlf hend
      go_wp2_with (go_at_call 27; go_loud (refine CN.out.mono ?_; rintro e w1 ⟨o1, rfl, r1⟩; have O1 := Lib.hid o1; have R1 := Lib.hid r1; have d10 : w1.cell? ⟨g, 10, none⟩ = some (.int .i64 0) := r1.cell 10; clear o1 r1))
      go_ret3
      refine TI.out _ _ ⟨B0.out.trans ((HO.out.then O1.out).below (B := g) (by have := HS0.out; omega) (fun k hk => Nat.ne_of_lt hk)), ?_⟩
      rw [HT.out, if_pos rfl]
      exact ⟨_, rfl, (HV.out.out O1.out (Nat.lt_succ_self g)).mono_ (Nat.le_succ g)⟩
    · have CN := Lib.hid (CN.out.mono fun e w' h => h.one_ hend)
      obtain ⟨b, hb⟩ : ∃ b, i + skipN false (L.drop i) = b := ⟨_, rfl⟩
      have OK := Lib.hid (fun h => hlf.ok hend h)
      have BAD := Lib.hid (fun h => hlf.bad hend h)
      rw [hb] at CN OK BAD
      obtain ⟨o, hoo⟩ : ∃ o, oneP b (L.drop b) = o := ⟨_, rfl⟩
      rw [hoo] at CN OK BAD
      by_cases h0 : o.e = 0
      · have OK2 := Lib.hid (OK.out h0)
        have CN2 := Lib.hid (CN.out.mono fun e w' h => h.yes_ h0)
        obtain ⟨A, c, rfl, -, -⟩ := hv.form
        obtain ⟨⟨tk, n, e0⟩⟩ : Nonempty One := ⟨o⟩
        obtain ⟨y, hy⟩ : ∃ y, o.tk = y := ⟨_, rfl⟩
        obtain ⟨q, hq⟩ : ∃ q, b + o.n = q := ⟨_, rfl⟩
        rw [hy, hq] at CN2 OK2
        have HI := Lib.hid (show (Tryd.prog.info? 36).map (·.size) = some [Value.int .i64 y.k, .string y.t, .int .i64 y.vk, .int .i64 y.vi, .bool false, .string y.vb, .complex .f64 0 0, .int .i64 (y.a : Nat)].length by rfl)
        clear hv hr her ho hlf hend hb hoo h0 hy hq OK BAD CN
        go_upto_region 6 with (go_at_call 27; go_loud (refine CN2.out.mono ?_; rintro e w1 ⟨rfl, r1, o1⟩; have O1 := Lib.hid o1; have R1 := Lib.hid r1; have HRow := Lib.hid r1.tok; clear o1 r1))
        obtain ⟨X, hX⟩ : ∃ X, w1.alloc (.cells #[.int .i64 y.k, .string y.t, .int .i64 y.vk, .int .i64 y.vi, .bool false, .string y.vb, .complex .f64 0 0, .int .i64 (y.a : Nat)] 36) = X := ⟨_, rfl⟩
        have HX := Lib.hid hX
        have SX := Lib.hid (show SB X (some ⟨w1.heap.size, 0, none⟩) (seT.s * 1) (cellsE Tk.cells [y]) by rw [← hX]; exact sb_tok w1 y)
        have BX := Lib.hid (show Below w1.heap.size w1 X by rw [← hX]; exact (Below.refl _ _).alloc (Nat.le_refl _) _)
        have VX := Lib.hid ((HV.out.out O1.out (Nat.lt_succ_self g)).below BX.out)
        have EX := Lib.hid (((HES.out.out O1.out HG.out).below BX.out))
        have RX := Lib.hid (R1.out.below BX.out)
        have OX := Lib.hid ((HO.out.then O1.out).then (Out.of_below BX.out (fun k => k = g)))
        have HB1 := Lib.hid (show g + 1 ≤ X.heap.size by have := hgz.out; have := O1.out.size; have := BX.out.size; omega)
        have HCE := Lib.hid (show cellsE Tk.cells done ++ cellsE Tk.cells [y] = cellsE Tk.cells (done ++ [y]) from (cellsE_app _ _).symm)
        clear hX
        go_wp2_with (first
          | (with_reducible refine wpList_load_mid rfl 36 (.tmp 14) rfl g 2 rfl [Value.int .i64 y.k, .string y.t, .int .i64 y.vk, .int .i64 y.vi, .bool false, .string y.vb, .complex .f64 0 0, .int .i64 (y.a : Nat)] _ HRow.out Tryd.underlying36 rfl HI.out ?_)
          | (at_builtin; go_loud (rw [HX.out]; refine so_append seT_ok rfl (.tmp 13) (.tmp 16) rfl _ rfl VX.out _ 1 1 _ rfl SX.out (by have := HLE.out; omega) HB1.out ?_; intro v' w3 hv' hb3; have HV3 := Lib.hid (show TL (g + 1) w3 v' (done ++ [y]) from SO.base hv' (Nat.le_refl _) HCE.out (by simp)); have B3 := Lib.hid hb3; obtain ⟨A', c', hvv, -, -⟩ := HV3.out.form; rw [show (done ++ [y]).length = done.length + 1 by simp] at hvv; subst hvv; clear hv' hb3)))
        go_roundw
        case rel => exact ⟨done ++ [y], q, y, HV3.out, RX.out.belowB B3.out (Nat.lt_succ_self g), EX.out.belowB B3.out (Nat.lt_succ_of_lt HG.out), OX.out.thenB B3.out (Nat.le_of_eq HS0.out), OK2.out.1⟩
        case measure =>
          rw [(RX.out.belowB B3.out (Nat.lt_succ_self g)).pos, HR.out.pos]
          have := OK2.out.2
          have := OK2.out.1.1
          have := HLL.out
          omega
      · have BAD2 := Lib.hid (BAD.out h0)
        have CN2 := Lib.hid (CN.out.mono fun e w' h => h.no_ h0)
        obtain ⟨A, c, rfl, -, -⟩ := hv.form
        obtain ⟨e0, he0⟩ : ∃ e0, o.e = e0 := ⟨_, rfl⟩
        obtain ⟨q, hq⟩ : ∃ q, b + o.n = q := ⟨_, rfl⟩
        rw [he0, hq] at CN2 BAD2
        rw [he0] at h0
        have h0b : (e0 != 0) = true := by simpa using h0
        have h0c : (e0 == 0) = false := by simpa using h0
        have H0 := Lib.hid h0
        clear hv hr her ho hlf hend hb hoo h0 he0 hq OK BAD CN
        go_wp2_with (go_at_call 27; go_loud (refine CN2.out.mono ?_; rintro e w1 ⟨rfl, ⟨i1, r1⟩, o1⟩; have O1 := Lib.hid o1; have d10 : w1.cell? ⟨g, 10, none⟩ = some (.int .i64 e0) := r1.cell 10; have d11 : w1.cell? ⟨g, 11, none⟩ = some (.int .i64 (q : Nat)) := r1.cell 11; clear o1 r1))
        go_quiet (fail)
        go_wp2
        go_ret3
        refine TI.out _ _ ⟨(B0.out.trans ((HO.out.then O1.out).below (B := g) (by have := HS0.out; omega) (fun k hk => Nat.ne_of_lt hk))).trans ⟨rfl, rfl, rfl, Nat.le_refl _, fun _ _ => rfl⟩, ?_⟩
        rw [BAD2.out, if_neg H0.out]
        rfl
end Go.Proofs.YtagangneoibbcaaDoor
