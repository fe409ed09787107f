/- LexisLoses: nothing is lost between tokens. -/
import Derived.Test.YtagangneoibbcaaDoorLxBl
import Derived.Test.YtagangneoibbcaaDoorLxSm
import Derived.Test.YtagangneoibbcaaDoorQuH
import Derived.Deep.CutRange
set_option linter.unusedVariables false
namespace Go.Proofs.YtagangneoibbcaaDoor
set_option maxRecDepth 100000
open Go.RowKit Go.Sort

theorem valL {k vk vi : Int} {t vb : ByteArray} {a : Nat} {i : Nat} {v : Value} (hv : [Value.int .i64 vk, .int .i64 vi, .bool false, .string vb, .complex .f64 0 0][i]? = some v) : (Tk.cells ⟨k, t, vk, vi, vb, a⟩)[2 + i]? = some v := by
  have hlt := (List.getElem?_eq_some_iff.1 hv).1
  simp only [List.length_cons, List.length_nil] at hlt
  match i, hlt, hv with
  | 0, _, h => exact h
  | 1, _, h => exact h
  | 2, _, h => exact h
  | 3, _, h => exact h
  | 4, _, h => exact h
theorem valA {k vk vi : Int} {t vb : ByteArray} {a : Nat} {i : Nat} {v : Value} (hv : [Value.int .i64 vk, .int .i64 vi, .bool false, .string vb, .complex .f64 0 0][i]? = some v) : (#[Value.int .i64 k, .string t, .int .i64 vk, .int .i64 vi, .bool false, .string vb, .complex .f64 0 0, .int .i64 (a : Nat)] : Array Value)[2 + i]? = some v := by
  have hlt := (List.getElem?_eq_some_iff.1 hv).1
  simp only [List.length_cons, List.length_nil] at hlt
  match i, hlt, hv with
  | 0, _, h => exact h
  | 1, _, h => exact h
  | 2, _, h => exact h
  | 3, _, h => exact h
  | 4, _, h => exact h
theorem toList_neL {u s : ByteArray} (h : u ≠ s) : ¬ u.toList = s.toList := fun e => h (by
  rw [show u.toList = u.data.toList from Go.ByteArray.toList_eq u, show s.toList = s.data.toList from Go.ByteArray.toList_eq s] at e
  exact ByteArray.ext (Array.ext' e))
theorem place_le : ∀ (f a : Nat) (R : List Int), (aheadP f a R).2.1 ≤ a + R.length
  | 0, a, R => by simp [aheadP]
  | f + 1, a, R => by
    by_cases h : skipN false R = R.length
    · rw [ahead_end h]; simp
    · have hk := skipN_le false R
      by_cases h2 : (oneP (a + skipN false R) (R.drop (skipN false R))).e = 0
      · rw [ahead_ok h h2]
        have hl := one_lenL (L := R) (a + skipN false R) (skipN false R) (by omega) h2
        have := place_le f (a + skipN false R + (oneP (a + skipN false R) (R.drop (skipN false R))).n) (R.drop (skipN false R + (oneP (a + skipN false R) (R.drop (skipN false R))).n))
        rw [List.length_drop] at this
        dsimp only
        omega
      · rw [ahead_bad h h2]
        dsimp only
        have hd : (R.drop (skipN false R)).length = R.length - skipN false R := List.length_drop
        generalize R.drop (skipN false R) = S at *
        have : (oneP (a + skipN false R) S).n ≤ S.length := by
          rcases S with _ | ⟨c, r⟩
          · rw [List.length_nil] at hd; omega
          unfold oneP at h2 ⊢
          split at h2
          · rename_i c1; rw [if_pos c1, nameP_n _ _ h2]; exact Nat.zero_le _
          · rename_i c1
            rw [if_neg c1]
            split at h2
            · rename_i c2; rw [if_pos c2, intP_n _ _ h2]; exact Nat.zero_le _
            · rename_i c2
              rw [if_neg c2]
              split at h2
              · rename_i c3
                rw [if_pos c3]
                unfold textP
                rw [List.drop_succ_cons, List.drop_zero]
                have hq := (qtP_len _ r (Nat.le_refl _)).1
                rcases hqt : qtP r with ⟨_ | b, n⟩
                · rw [hqt] at hq; dsimp only at hq ⊢; rw [List.length_cons]; omega
                · rw [hqt] at hq; dsimp only at hq ⊢
                  split
                  · exact Nat.zero_le _
                  · dsimp only; rw [List.length_cons]; omega
              · rename_i c3; rw [if_neg c3, signP_n _ _ h2]; exact Nat.zero_le _
        omega
theorem toks_place (s : ByteArray) : (toksP (strB s)).2.1 ≤ s.size := by
  have := place_le ((strB s).length + 1) 0 (strB s)
  rw [strB_len] at this
  unfold toksP
  rw [strB_len]; omega
set_option maxHeartbeats 4000000 in
theorem wSameNo (k n m : Int) (b : ByteArray) (w : World) (hne : n ≠ m) :
    Calls Tryd.prog 26 #[.agg #[.int .i64 k, .int .i64 n, .bool false, .string b, .complex .f64 0 0], .agg #[.int .i64 k, .int .i64 m, .bool false, .string b, .complex .f64 0 0]] w fun e w' => e = .returned (.bool false) ∧ Below w.heap.size w w' := by
  have hcx := fun w => cx_eq w
  have h0 : (n == m) = false := by simpa using hne
  clear hne
  go_enter Tryd.func26, Tryd.ntmps26
  go_wp2
  go_ret
  exact ⟨rfl, ((Below.refl _ _).alloc (Nat.le_refl _) _).alloc (by simp) _⟩
theorem TokensIs.at_ {s : ByteArray} {w w' : World} {e : Ending} (h : TokensIs s w e w') (hs : s.size ≤ 65536) {l : List Tk} (h0 : toksP (strB s) = (l, 0, 0)) : Below w.heap.size w w' ∧ ∃ v, e = .returned (.tuple #[v, .int .i64 0, .int .i64 0]) ∧ TL w.heap.size w' v l := by
  have := h.yes_ hs (by rw [h0])
  rwa [h0] at this
set_option maxHeartbeats 64000000 in
theorem walk_LexisLoses (s : ByteArray) (w : World) (he : ErrAt w) (hs : s.size ≤ 140737488351232) :
    Calls Tryd.prog 8 #[.string s] w fun e w' => e = .returned (.bool true) ∧ Below w.heap.size w w' := by
  have BG := Lib.hid fun W (h : ErrAt W) => wBegun W h
  have HE := Lib.hid he
  by_cases hl : s.size ≤ 65536
  · have CT := Lib.hid fun (u : ByteArray) (W : World) (hu : u.size ≤ 65536) (h : ErrAt W) => wTokens u W hu h
    have CB := Lib.hid fun (u : ByteArray) (W : World) (h : skipN false (strB u) = u.size) (hu : u.size ≤ 65536) => wBlanks u W h hu
    by_cases h0 : (toksP (strB s)).2.2 = 0
    · have C1 := Lib.hid (fun W (hW : ErrAt W) => (wTokens s W hl hW).mono fun e w' h => h.yes_ hl h0)
      have HLN := Lib.hid (show (toksP (strB s)).1.length ≤ 1000000 from toks_len s hl)
      have H0 := Lib.hid (LoT.start h0)
      obtain ⟨L, hL⟩ : ∃ L, strB s = L := ⟨_, rfl⟩
      have HLL := Lib.hid (show L.length = s.size by rw [← hL]; exact strB_len s)
      have HSUB := Lib.hid (fun (a b : Nat) => (show strB (s.extract a b) = (L.drop a).take (b - a) by rw [← hL]; exact strB_sub s a b))
      obtain ⟨l, hll⟩ : ∃ l, (toksP (strB s)).1 = l := ⟨_, rfl⟩
      rw [hll] at C1 HLN H0
      rw [hL] at H0
      have HS := Lib.hid hl
      obtain ⟨n, hn⟩ : ∃ n, l.length = n := ⟨_, rfl⟩
      have HN := Lib.hid hn
      rw [hn] at HLN
      clear h0 hl he hs hll hL
      go_enter Tryd.func8, Tryd.ntmps8
      go_upto_region 6 with (first
        | (go_at_call 9; go_loud (refine (C1.out _ (HE.out.below B0.out)).mono ?_; rintro e w1 ⟨b1, v1, rfl, t1⟩; obtain ⟨A1, c1, rfl, sb1, -⟩ := t1.form; have B1 := Lib.hid (below_next B0.out b1); have SB1 := Lib.hid sb1; clear b1 t1 sb1))
        | (go_at_call 11; go_loud (refine (BG.out _ HE.out).mono ?_; rintro e w0 ⟨rfl, b0⟩; have B0 := Lib.hid b0; clear b0)))
      clear hn
      have ER := Lib.hid (fun X (hX : Below w1.heap.size w1 X) => (HE.out.below (below_next B1.out hX) : ErrAt X))
      go_upto_region 8 with fail
      go_loopw [6, 40] (fun ev iv wr => ∃ j e : Nat, iv = .int .i64 (j : Nat) ∧ ev = .int .i64 (e : Nat) ∧ j ≤ n ∧ LoT L l j e ∧ Below w1.heap.size w1 wr) (fun _ iv _ => n - (intOf iv).toNat)
      case atStart => exact ⟨0, 0, rfl, rfl, Nat.zero_le _, H0.out, Below.refl _ _⟩
      case round =>
        rename World => wr
        obtain ⟨j, e, rfl, rfl, hj, hlo, hb⟩ := hrel
        have HB := Lib.hid hb
        by_cases hlt : j < n
        · obtain ⟨p, nn, t, S⟩ := hlo.step (by rw [HN.out]; exact hlt)
          obtain ⟨g, o, rfl, q0⟩ := SB.elE Tk.len (by decide) (SB1.out.gw hb) S.at_
          have HRow := Lib.hid (show wr.rangeAt g (o + j * 8) [Value.int .i64 t.k, .string t.t, .int .i64 t.vk, .int .i64 t.vi, .bool false, .string t.vb, .complex .f64 0 0, .int .i64 (t.a : Nat)] from fun i v hv => q0 i v hv)
          have HI := Lib.hid (show (Tryd.prog.info? 36).map (·.size) = some [Value.int .i64 t.k, .string t.t, .int .i64 t.vk, .int .i64 t.vi, .bool false, .string t.vb, .complex .f64 0 0, .int .i64 (t.a : Nat)].length by rfl)
          have hst := run_store_cx Tryd.prog
          have HS2 := Lib.hid S
          have HLT := Lib.hid hlt
          have i1 : (j : Int) < (n : Int) := by omega
          have i2 : (j : Int) ≤ 1000000 := by have := HLN.out; omega
          obtain ⟨tk, tt, tvk, tvi, tvb, ta⟩ := t
          dsimp only at HRow HI
          obtain rfl : ta = p := S.a
          have hp1 := S.le
          have hp2 := S.lt
          have hp3 := S.pos
          have hp4 := S.len
          rw [HLL.out] at hp2 hp4
          have hsz := HS.out
          have CB1 := Lib.hid (fun W => CB.out (s.extract e ta) W (by rw [HSUB.out, sub_size _ _ _ (by omega)]; exact S.gap) (by rw [sub_size _ _ _ (by omega)]; omega))
          obtain ⟨gb, hgb⟩ : ∃ g, wr.heap.size = g := ⟨_, rfl⟩
          obtain ⟨X, hX⟩ : ∃ X, wr.alloc (.cells #[Value.int .i64 tk, .string tt, .int .i64 tvk, .int .i64 tvi, .bool false, .string tvb, .complex .f64 0 0, .int .i64 (ta : Nat)] 36) = X := ⟨_, rfl⟩
          have HX := Lib.hid hX
          have TX := Lib.hid (show X.heap[gb]? = some (.cells #[Value.int .i64 tk, .string tt, .int .i64 tvk, .int .i64 tvi, .bool false, .string tvb, .complex .f64 0 0, .int .i64 (ta : Nat)] 36 (0, 0)) by rw [← hX, ← hgb]; exact heap_alloc_new wr _)
          have BX := Lib.hid (show Below wr.heap.size wr X by rw [← hX]; exact (Below.refl _ _).alloc (Nat.le_refl _) _)
          have HNX := Lib.hid (show ∀ j1, j + 1 = j1 → j1 < n → ∃ t2 : Tk, X.cell? ⟨g, o + j1 * 8 + 7, none⟩ = some (.int .i64 (t2.a : Nat)) ∧ ta + nn ≤ t2.a ∧ t2.a ≤ s.size from fun j1 hj1 h1 => by
            subst hj1
            obtain ⟨t2, ht2⟩ : ∃ t2, l[j + 1]? = some t2 := ⟨_, List.getElem?_eq_getElem (by rw [HN.out]; exact h1)⟩
            obtain ⟨g', o', e', q'⟩ := SB.elE Tk.len (by decide) (SB1.out.gw (below_next HB.out BX.out)) ht2
            cases e'
            have h2 := HS2.out.more.next (by rw [HN.out]; exact h1) ht2
            rw [HLL.out] at h2
            exact ⟨t2, q' 7 _ rfl, h2.1, by omega⟩)
          clear hj hlo hb hlt q0 S hX
          go_upto_region 10 with (with_reducible refine wpList_load_mid rfl 36 (.tmp 43) rfl g (o + j * 8) rfl [Value.int .i64 tk, .string tt, .int .i64 tvk, .int .i64 tvi, .bool false, .string tvb, .complex .f64 0 0, .int .i64 (ta : Nat)] _ HRow.out Tryd.underlying36 rfl HI.out ?_)
          rw [HX.out]
          clear hst
          have c7 : X.cell? ⟨gb, 7, none⟩ = some (.int .i64 (ta : Nat)) := cell_of_row _ _ 7 _ _ _ TX.out
          have a1 : ¬ (ta : Int) < (e : Int) := by omega
          have a2 : ¬ (s.size : Int) ≤ (ta : Int) := by omega
          have a3 : (e : Int) ≤ (ta : Int) := by omega
          have a4 : (ta : Int) ≤ (s.size : Int) := by omega
          obtain ⟨u1, hu1⟩ : ∃ u, s.extract e ta = u := ⟨_, rfl⟩
          rw [hu1] at CB1
          go_upto_region 12 with (go_at_call 25; go_loud (refine (CB1.out _).mono ?_; rintro e5 w5 ⟨rfl, rfl⟩))
          clear a1 a2 hu1
          have i4 : IntKind.i64.wrap ((j : Int) + 1) = ((j + 1 : Nat) : Int) := by rw [IntKind.wrap_i64]; omega
          have i5 : wrap64 ((j : Int) + 1) = ((j + 1 : Nat) : Int) := by unfold wrap64; omega
          obtain ⟨j1, hj1⟩ : ∃ x, j + 1 = x := ⟨_, rfl⟩
          rw [hj1] at i4 i5
          have i7 : (j1 : Int) ≤ 1000001 := by omega
          go_upto_if 71 with fail
          go_cut [9, 40] from 40 to 157 (fun v v40 wx => v40 = .int .i64 (j : Nat) ∧ wx = X ∧ ∃ N : Nat, v = .int .i64 (N : Nat) ∧ ta < N ∧ ta + nn ≤ N ∧ N ≤ s.size)
          case first =>
            by_cases h2 : j1 < n
            · obtain ⟨t2, c8, h3, h4⟩ := HNX.out j1 hj1 h2
              have i6 : (j1 : Int) < (n : Int) := by omega
              clear h2
              go_wp2
              go_meet
              exact ⟨rfl, rfl, t2.a, rfl, by omega, h3, h4⟩
            · have i6 : ¬ (j1 : Int) < (n : Int) := by omega
              clear h2
              go_wp2
              go_meet
              exact ⟨rfl, rfl, s.size, rfl, by omega, hp4, Nat.le_refl _⟩
          case rest =>
            obtain ⟨rfl, e6, N, rfl, hN1, hN2, hN3⟩ := hcut
            subst e6
            rename World => X
            have b1 : ¬ (N : Int) ≤ (ta : Int) := by omega
            have b2 : ¬ (s.size : Int) < (N : Int) := by omega
            have b3 : (N : Int) ≤ 65536 := by omega
            clear i4 i5 i7
            go_upto_region 19 with fail
            clear b1 b2
            go_loopw [10, 11] (fun lv kv wy => ∃ k : Nat, kv = .int .i64 (k : Nat) ∧ lv = .int .i64 0 ∧ 1 ≤ k ∧ k ≤ nn ∧ Below X.heap.size X wy) (fun _ kv _ => nn - (intOf kv).toNat)
            case atStart => exact ⟨1, rfl, rfl, Nat.le_refl _, hp3, Below.refl _ _⟩
            case round =>
              rename World => wy
              obtain ⟨k, rfl, rfl, hk1, hk2, hby⟩ := hrel
              have BY := Lib.hid hby
              have BWY := Lib.hid (below_next (below_next HB.out BX.out) hby)
              have ty := (hby.block gb (Array.getElem?_eq_some_iff.1 TX.out).1).trans TX.out
              have TY := Lib.hid ty
              have d7 : wy.cell? ⟨gb, 7, none⟩ = some (.int .i64 (ta : Nat)) := cell_of_row _ _ 7 _ _ _ ty
              have f1 : (k : Int) ≤ (N : Int) - (ta : Int) := by omega
              have f2 : (ta : Int) + (k : Int) ≤ (s.size : Int) := by omega
              have f3 : (k : Int) ≤ 65536 := by omega
              have f4 : (0 : Int) ≤ (k : Int) := by omega
              have f5 : (ta : Int) ≤ (ta : Int) + (k : Int) := by omega
              have f6 : ((ta : Int) + (k : Int)).toNat = ta + k := by omega
              have hux : (s.extract ta (ta + k)).size ≤ 65536 := by rw [sub_size _ _ _ (by omega)]; omega
              have hus := HSUB.out ta (ta + k)
              rw [Nat.add_sub_cancel_left] at hus
              have C := CT.out (s.extract ta (ta + k)) wy hux (ER.out _ BWY.out)
              obtain ⟨u2, hu2⟩ : ∃ u, s.extract ta (ta + k) = u := ⟨_, rfl⟩
              rw [hu2] at C hux hus
              clear hby ty
              by_cases hk : k < nn
              · have HK := Lib.hid hk
                rcases HS2.out.less k hk1 hk with hbad | ⟨x, hx, hle⟩
                · have C2 := Lib.hid (C.mono fun e w' h => h.no_ hux (by rw [hus]; exact hbad))
                  obtain ⟨e0, he0⟩ : ∃ e0, (toksP (strB u2)).2.2 = e0 := ⟨_, rfl⟩
                  have g0 : (e0 == 0) = false := by rw [← he0, hus]; simpa using hbad
                  obtain ⟨pl, hpl⟩ : ∃ q : Int, (((toksP (strB u2)).2.1 : Nat) : Int) = q := ⟨_, rfl⟩
                  rw [he0, hpl] at C2
                  clear C hux hus hbad he0 hpl hk
                  go_upto_region 22 with (go_at_call 9; go_loud (refine C2.out.mono ?_; rintro e7 w7 ⟨b7, rfl⟩; have B7 := Lib.hid b7; clear b7))
                  clear d7
                  refine wp_region_quietH (by kernel_rfl) (by kernel_rfl) ?_
                  iterate 41 (
                    refine wpQuiet_stepH (fun K hK => ?_)
                    go_simp
                    first
                      | (refine hK _ ?_; clear hK K)
                      | (apply Exists.intro
                         refine ⟨fun _ => ?_, hK _ ?_⟩
                         · fail
                         clear hK K))
                  refine wpQuiet_nilH ?_
                  intro _ hw'
                  obtain ⟨⟨dq, osq⟩, hw''⟩ := hw'
                  subst hw''
                  obtain ⟨Y, hY⟩ : ∃ Y, grow (redrawn w7 dq) osq = Y := ⟨_, rfl⟩
                  have BYY := Lib.hid (show Below w7.heap.size w7 Y by rw [← hY]; exact below_regrown w7 dq osq)
                  simp only [hY]
                  clear hY
                  go_wp2
                  go_roundw
                  case rel => exact ⟨k + 1, by go_num, rfl, by omega, HK.out, below_next (below_next BY.out B7.out) BYY.out⟩
                  case measure => have := HK.out; simp [intOf]; omega
                · obtain ⟨xk, xt, xvk, xvi, xvb, xa⟩ := x
                  obtain ⟨rfl, hle⟩ := hle
                  dsimp only at hle
                  have C2 := Lib.hid (C.mono fun e w' h => h.at_ hux (by rw [hus]; exact hx))
                  clear C hux hus hx hk
                  go_upto_region 22 with (go_at_call 9; go_loud (refine C2.out.mono ?_; rintro e7 w7 ⟨b7, v7, rfl, t7⟩; obtain ⟨A7, c7, rfl, sb7, -⟩ := t7.form; have B7 := Lib.hid b7; have SB7 := Lib.hid sb7; clear b7 t7 sb7))
                  clear d7
                  obtain ⟨g2, o2, rfl, q2⟩ := SB.elE Tk.len (by decide) SB7.out (j := 0) rfl
                  rw [Nat.zero_mul, Nat.add_zero] at q2
                  have t7 := (B7.out.block gb (Array.getElem?_eq_some_iff.1 TY.out).1).trans TY.out
                  have m0 := cell_regrown (show w7.cell? ⟨g2, o2, none⟩ = some (.int .i64 xk) from q2 0 _ rfl)
                  have m1 := cell_regrown (show w7.cell? ⟨g2, o2 + 1, none⟩ = some (.string xt) from q2 1 _ rfl)
                  have n0 := cell_regrown (show w7.cell? ⟨gb, 0, none⟩ = some (.int .i64 xk) from cell_of_row _ _ 0 _ _ _ t7)
                  have n1 := cell_regrown (show w7.cell? ⟨gb, 1, none⟩ = some (.string tt) from cell_of_row _ _ 1 _ _ _ t7)
                  rcases hle with hsz2 | ⟨rfl, rfl, rfl, hvi⟩
                  · have hst : (xt.toList == tt.toList) = false := by simpa using toList_neL (fun e => by rw [e] at hsz2; exact Nat.lt_irrefl _ hsz2)
                    clear hsz2
                    refine wp_region_quietH (by kernel_rfl) (by kernel_rfl) ?_
                    iterate 41 (
                      refine wpQuiet_stepH (fun K hK => ?_)
                      go_simp
                      first
                        | (refine hK _ ?_; clear hK K)
                        | (apply Exists.intro
                           refine ⟨fun _ => ?_, hK _ ?_⟩
                           · fail
                           clear hK K))
                    refine wpQuiet_nilH ?_
                    intro _ hw'
                    obtain ⟨⟨dq, osq⟩, hw''⟩ := hw'
                    subst hw''
                    obtain ⟨Y, hY⟩ : ∃ Y, grow (redrawn w7 dq) osq = Y := ⟨_, rfl⟩
                    have BYY := Lib.hid (show Below w7.heap.size w7 Y by rw [← hY]; exact below_regrown w7 dq osq)
                    simp only [hY]
                    clear hY m0 m1 n0 n1
                    go_wp2
                    go_roundw
                    case rel => exact ⟨k + 1, by go_num, rfl, by omega, HK.out, below_next (below_next BY.out B7.out) BYY.out⟩
                    case measure => have := HK.out; simp [intOf]; omega
                  · have hne : xvi ≠ tvi := by omega
                    have r2 := range_regrownH (show w7.rangeAt g2 (o2 + 2) [Value.int .i64 xvk, .int .i64 xvi, .bool false, .string xvb, .complex .f64 0 0] from fun i v hv => by rw [Nat.add_assoc]; exact q2 (2 + i) v (valL hv))
                    have rt := range_regrownH (show w7.rangeAt gb 2 [Value.int .i64 xvk, .int .i64 tvi, .bool false, .string xvb, .complex .f64 0 0] from fun i v hv => by rw [cell_of_row _ _ _ _ _ _ t7]; exact valA hv)
                    have cV := fun d os => Calls.regrown_of (wSameNo xvk xvi tvi xvb (grow (redrawn w7 d) os) hne)
                    have HIV := Lib.hid (show ∀ x y z : Value, (Tryd.prog.info? 34).map (·.size) = some [x, y, z, Value.bool false, .bool false].length from fun _ _ _ => rfl)
                    clear hvi
                    refine wp_region_quietH (by kernel_rfl) (by kernel_rfl) ?_
                    iterate 29 (
                      refine wpQuiet_stepH (fun K hK => ?_)
                      go_simp
                      first
                        | (refine hK _ ?_; clear hK K)
                        | (apply Exists.intro
                           refine ⟨fun _ => ?_, hK _ ?_⟩
                           · fail
                           clear hK K))
                    refine wpQuiet_loadH (by rfl) 34 (.tmp 137) rfl g2 (o2 + 2) rfl [Value.int .i64 xvk, .int .i64 xvi, .bool false, .string xvb, .complex .f64 0 0] _ r2 Tryd.underlying34 rfl rfl ?_
                    iterate 1 (
                      refine wpQuiet_stepH (fun K hK => ?_)
                      go_simp
                      first
                        | (refine hK _ ?_; clear hK K)
                        | (apply Exists.intro
                           refine ⟨fun _ => ?_, hK _ ?_⟩
                           · fail
                           clear hK K))
                    refine wpQuiet_loadH (by rfl) 34 (.tmp 139) rfl gb 2 rfl [Value.int .i64 xvk, .int .i64 tvi, .bool false, .string xvb, .complex .f64 0 0] _ rt Tryd.underlying34 rfl rfl ?_
                    iterate 9 (
                      refine wpQuiet_stepH (fun K hK => ?_)
                      go_simp
                      first
                        | (refine hK _ ?_; clear hK K)
                        | (apply Exists.intro
                           refine ⟨fun _ => ?_, hK _ ?_⟩
                           · exact cV _ _
                           clear hK K))
                    refine wpQuiet_nilH ?_
                    intro _ hw'
                    obtain ⟨⟨dq, osq⟩, hw''⟩ := hw'
                    subst hw''
                    obtain ⟨Y, hY⟩ : ∃ Y, grow (redrawn w7 dq) osq = Y := ⟨_, rfl⟩
                    have BYY := Lib.hid (show Below w7.heap.size w7 Y by rw [← hY]; exact below_regrown w7 dq osq)
                    simp only [hY]
                    clear hY m0 m1 n0 n1 r2 rt cV
                    go_wp2
                    go_roundw
                    case rel => exact ⟨k + 1, by go_num, rfl, by omega, HK.out, below_next (below_next BY.out B7.out) BYY.out⟩
                    case measure => have := HK.out; simp [intOf]; omega
              · have hkn : k = nn := by omega
                subst hkn
                have C2 := Lib.hid (C.mono fun e w' h => h.at_ hux (by rw [hus]; exact HS2.out.own))
                clear C hux hus hk
                go_upto_region 22 with (go_at_call 9; go_loud (refine C2.out.mono ?_; rintro e7 w7 ⟨b7, v7, rfl, t7⟩; obtain ⟨A7, c7, rfl, sb7, -⟩ := t7.form; have B7 := Lib.hid b7; have SB7 := Lib.hid sb7; clear b7 t7 sb7))
                clear d7
                obtain ⟨g2, o2, rfl, q2⟩ := SB.elE Tk.len (by decide) SB7.out (j := 0) rfl
                rw [Nat.zero_mul, Nat.add_zero] at q2
                have t7 := (B7.out.block gb (Array.getElem?_eq_some_iff.1 TY.out).1).trans TY.out
                have T7 := Lib.hid t7
                have m0 := cell_regrown (show w7.cell? ⟨g2, o2, none⟩ = some (.int .i64 tk) from q2 0 _ rfl)
                have m1 := cell_regrown (show w7.cell? ⟨g2, o2 + 1, none⟩ = some (.string tt) from q2 1 _ rfl)
                have m7 := cell_regrown (show w7.cell? ⟨g2, o2 + 7, none⟩ = some (.int .i64 0) from q2 7 _ rfl)
                have n0 := cell_regrown (show w7.cell? ⟨gb, 0, none⟩ = some (.int .i64 tk) from cell_of_row _ _ 0 _ _ _ t7)
                have n1 := cell_regrown (show w7.cell? ⟨gb, 1, none⟩ = some (.string tt) from cell_of_row _ _ 1 _ _ _ t7)
                have r2 := range_regrownH (show w7.rangeAt g2 (o2 + 2) [Value.int .i64 tvk, .int .i64 tvi, .bool false, .string tvb, .complex .f64 0 0] from fun i v hv => by rw [Nat.add_assoc]; exact q2 (2 + i) v (valL hv))
                have rt := range_regrownH (show w7.rangeAt gb 2 [Value.int .i64 tvk, .int .i64 tvi, .bool false, .string tvb, .complex .f64 0 0] from fun i v hv => by rw [cell_of_row _ _ _ _ _ _ t7]; exact valA hv)
                have cV := fun d os => Calls.regrown_of (wSameV tvk tvi tvb (grow (redrawn w7 d) os))
                clear t7
                refine wp_region_quietH (by kernel_rfl) (by kernel_rfl) ?_
                iterate 29 (
                  refine wpQuiet_stepH (fun K hK => ?_)
                  go_simp
                  first
                    | (refine hK _ ?_; clear hK K)
                    | (apply Exists.intro
                       refine ⟨fun _ => ?_, hK _ ?_⟩
                       · fail
                       clear hK K))
                refine wpQuiet_loadH (by rfl) 34 (.tmp 137) rfl g2 (o2 + 2) rfl [Value.int .i64 tvk, .int .i64 tvi, .bool false, .string tvb, .complex .f64 0 0] _ r2 Tryd.underlying34 rfl rfl ?_
                iterate 1 (
                  refine wpQuiet_stepH (fun K hK => ?_)
                  go_simp
                  first
                    | (refine hK _ ?_; clear hK K)
                    | (apply Exists.intro
                       refine ⟨fun _ => ?_, hK _ ?_⟩
                       · fail
                       clear hK K))
                refine wpQuiet_loadH (by rfl) 34 (.tmp 139) rfl gb 2 rfl [Value.int .i64 tvk, .int .i64 tvi, .bool false, .string tvb, .complex .f64 0 0] _ rt Tryd.underlying34 rfl rfl ?_
                iterate 9 (
                  refine wpQuiet_stepH (fun K hK => ?_)
                  go_simp
                  first
                    | (refine hK _ ?_; clear hK K)
                    | (apply Exists.intro
                       refine ⟨fun _ => ?_, hK _ ?_⟩
                       · exact cV _ _
                       clear hK K))
                refine wpQuiet_nilH ?_
                intro _ hw'
                obtain ⟨⟨dq, osq⟩, hw''⟩ := hw'
                subst hw''
                obtain ⟨Y, hY⟩ : ∃ Y, grow (redrawn w7 dq) osq = Y := ⟨_, rfl⟩
                have BYY := Lib.hid (show Below w7.heap.size w7 Y by rw [← hY]; exact below_regrown w7 dq osq)
                simp only [hY]
                clear hY m0 m1 m7 n0 n1 r2 rt cV
                have c7 : Y.cell? ⟨gb, 7, none⟩ = some (.int .i64 (ta : Nat)) := cell_of_row _ _ 7 _ _ _ ((BYY.out.block gb (Array.getElem?_eq_some_iff.1 T7.out).1).trans T7.out)
                have k0 : ((k : Int) == 0) = false := by simp; omega
                have k0' : ¬ (k : Int) = 0 := by omega
                go_wp2
                go_roundw
                case rel => exact ⟨j + 1, ta + k, by go_num, by go_num, HLT.out, HS2.out.more, below_next (below_next (below_next (below_next HB.out BX.out) BY.out) B7.out) BYY.out⟩
                case measure => have := HLT.out; simp [intOf]; omega
        · obtain rfl : j = n := by omega
          have hle := hlo.1
          rw [HLL.out] at hle
          have CB1 := Lib.hid (fun W => CB.out (s.extract e s.size) W (by rw [HSUB.out, sub_size _ _ _ (Nat.le_refl _)]; have := hlo.last (by rw [HN.out]; exact Nat.le_refl _); rw [List.take_of_length_le (by rw [List.length_drop, HLL.out]; exact Nat.le_refl _), this, List.length_drop, HLL.out]) (by rw [sub_size _ _ _ (Nat.le_refl _)]; have := HS.out; omega))
          have i1 : ¬ (j : Int) < (j : Int) := by omega
          have a3 : (e : Int) ≤ (s.size : Int) := by omega
          obtain ⟨u1, hu1⟩ : ∃ u, s.extract e s.size = u := ⟨_, rfl⟩
          rw [hu1] at CB1
          clear hj hlo hb hlt hle
          go_wp2_with (go_at_call 25; go_loud (refine (CB1.out _).mono ?_; rintro e5 w5 ⟨rfl, rfl⟩))
          go_ret
          exact ⟨rfl, below_next B1.out HB.out⟩
    · have C1 := Lib.hid (fun W (hW : ErrAt W) => (wTokens s W hl hW).mono fun e w' h => h.no_ hl h0)
      have hpl := toks_place s
      obtain ⟨q, hq⟩ : ∃ q, (toksP (strB s)).2.1 = q := ⟨_, rfl⟩
      obtain ⟨e0, he0⟩ : ∃ e0, (toksP (strB s)).2.2 = e0 := ⟨_, rfl⟩
      rw [hq, he0] at C1
      rw [hq] at hpl
      rw [he0] at h0
      have g0 : (e0 != 0) = true := by simpa using h0
      have g1 : (0 : Int) ≤ (q : Int) := by omega
      have g2 : (q : Int) ≤ (s.size : Int) := by omega
      clear h0 hl he hs hq he0 hpl
      go_enter Tryd.func8, Tryd.ntmps8
      go_wp2_with (first
        | (go_at_call 9; go_loud (refine (C1.out _ (HE.out.below B0.out)).mono ?_; rintro e w1 ⟨b1, rfl⟩; have B1 := Lib.hid (below_next B0.out b1); clear b1))
        | (go_at_call 11; go_loud (refine (BG.out _ HE.out).mono ?_; rintro e w0 ⟨rfl, b0⟩; have B0 := Lib.hid b0; clear b0)))
      go_ret
      exact ⟨rfl, B1.out⟩
  · have C1 := Lib.hid fun W => wTokensLong s W (by omega) hs
    have g2 : (65536 : Int) ≤ (s.size : Int) := by omega
    clear hl he hs
    go_enter Tryd.func8, Tryd.ntmps8
    go_wp2_with (first
      | (go_at_call 9; go_loud (refine (C1.out _).mono ?_; rintro e w1 ⟨rfl, rfl⟩))
      | (go_at_call 11; go_loud (refine (BG.out _ HE.out).mono ?_; rintro e w0 ⟨rfl, b0⟩; have B0 := Lib.hid b0; clear b0)))
    go_ret
    exact ⟨rfl, B0.out⟩
end Go.Proofs.YtagangneoibbcaaDoor
