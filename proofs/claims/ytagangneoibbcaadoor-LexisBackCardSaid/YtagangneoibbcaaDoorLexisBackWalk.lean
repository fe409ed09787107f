/- LexisBack: what is quoted is read; tokens written one by one, a blank between, are the same. -/
import Derived.Test.YtagangneoibbcaaDoorLxUq
import Derived.Test.YtagangneoibbcaaDoorLxSm
set_option linter.unusedVariables false
namespace Go.Proofs.YtagangneoibbcaaDoor
set_option maxRecDepth 100000
open Go.RowKit

theorem toks_good (s : ByteArray) : ∀ x ∈ (toksP (strB s)).1, Good x := ahead_good _ _ _ (strB_byte s)
theorem join_len {l : List Tk} (h : ∀ x ∈ l, Good x) : (joinP l).length ≤ 16401 * l.length := by
  induction l with
  | nil => simp [joinP]
  | cons x l ih =>
    rw [joinP_cons, List.length_append, List.length_cons, List.length_cons]
    have h1 := (h x (List.mem_cons_self ..)).len
    have h2 := ih fun y hy => h y (List.mem_cons_of_mem _ hy)
    omega
theorem join_next {l : List Tk} {j : Nat} {x : Tk} (h : l[j]? = some x) : joinP (l.take (j + 1)) = joinP (l.take j) ++ (wrP x ++ [32]) := by
  rw [List.take_add_one, h, Option.toList_some, joinP_snoc, List.append_assoc]
theorem wr_bytes {x : Tk} (h : Good x) : ∀ c ∈ wrP x, 0 ≤ c ∧ c ≤ 255 := by
  intro c hc
  unfold wrP at hc
  split at hc
  · have := (digP_is x.vi.toNat).2.1 c hc
    unfold digB at this
    rw [decide_eq_true_eq] at this
    omega
  · split at hc
    · exact quote_bytes (strB_byte _) c hc
    · exact strB_byte _ c hc
theorem join_bytes {l : List Tk} (h : ∀ x ∈ l, Good x) : ∀ c ∈ joinP l, 0 ≤ c ∧ c ≤ 255 := by
  intro c hc
  obtain ⟨x, hx, hc⟩ := List.mem_flatMap.1 hc
  rcases List.mem_append.1 hc with k | k
  · exact wr_bytes (h x hx) c k
  · rw [List.mem_singleton.1 k]; decide
set_option maxHeartbeats 64000000 in
theorem walk_LexisBack (b s : ByteArray) (w : World) (he : ErrAt w) (hb : b.size ≤ 140737488351232) (hs : s.size ≤ 140737488351232) :
    Calls Tryd.prog 7 #[.string b, .string s] w fun e w' => e = .returned (.bool true) ∧ Below w.heap.size w w' := by
  have BG := Lib.hid fun W (h : ErrAt W) => wBegun W h
  have HE := Lib.hid he
  have HER := Lib.hid (fun X (hX : Below w.heap.size w X) => (he.below hX : ErrAt X))
  have HS := Lib.hid hs
  clear he hs
  by_cases hb4 : b.size ≤ 4096
  · have CQ := Lib.hid fun W => wQuote b W hb4
    have CU := Lib.hid fun W => wUnquote b W hb4
    have a1 : (b.size : Int) ≤ 4096 := by omega
    obtain ⟨sq, hsq⟩ : ∃ x, strOfNums (quoteP (strB b)) = x := ⟨_, rfl⟩
    rw [hsq] at CQ CU
    clear hb hb4 hsq
    go_enter Tryd.func7, Tryd.ntmps7
    go_upto_region 10 with (first
      | (go_at_call 23; go_loud (refine (CU.out _).mono ?_; rintro e WX ⟨rfl, b2⟩; have BX := Lib.hid (below_next BQ.out b2); clear b2))
      | (go_at_call 22; go_loud (refine (CQ.out _).mono ?_; rintro e wq ⟨rfl, b1⟩; have BQ := Lib.hid (below_next B0.out b1); clear b1))
      | (go_at_call 11; go_loud (refine (BG.out _ HE.out).mono ?_; rintro e w0 ⟨rfl, b0⟩; have B0 := Lib.hid b0; clear b0)))
    clear a1
    by_cases hl : s.size ≤ 65536
    · have CT1 := Lib.hid (wTokens s WX hl (HER.out _ BX.out))
      by_cases h0 : (toksP (strB s)).2.2 = 0
      · have C1 := Lib.hid (CT1.out.mono fun e w' h => h.yes_ hl h0)
        have HLN := Lib.hid (show (toksP (strB s)).1.length ≤ 65536 by
          have := ahead_len ((strB s).length + 1) 0 (strB s)
          rw [strB_len] at this
          unfold toksP
          rw [strB_len]; omega)
        have HGD := Lib.hid (toks_good s)
        obtain ⟨l, hll⟩ : ∃ l, (toksP (strB s)).1 = l := ⟨_, rfl⟩
        rw [hll] at C1 HLN HGD
        obtain ⟨n, hn⟩ : ∃ n, l.length = n := ⟨_, rfl⟩
        have HN := Lib.hid hn
        rw [hn] at HLN
        clear h0 hl hll CT1
        go_upto_region 15 with (go_at_call 9; go_loud (refine C1.out.mono ?_; rintro e w1 ⟨b1, v1, rfl, t1⟩; obtain ⟨A1, c1, rfl, sb1, -⟩ := t1.form; have B1 := Lib.hid (below_next BX.out b1); have SB1 := Lib.hid sb1; clear b1 t1 sb1))
        clear hn
        go_loopw [11, 56] (fun tv iv wr => ∃ j : Nat, iv = .int .i64 (j : Nat) ∧ tv = .string (strOfNums (joinP (l.take j))) ∧ j ≤ n ∧ Below w1.heap.size w1 wr) (fun _ iv _ => n - (intOf iv).toNat)
        case atStart => exact ⟨0, rfl, rfl, Nat.zero_le _, Below.refl _ _⟩
        case round =>
          rename World => wr
          obtain ⟨j, rfl, rfl, hj, hbl⟩ := hrel
          have HB := Lib.hid hbl
          have HSZ := Lib.hid (show (strOfNums (joinP (l.take j))).size ≤ 1074872320 by
            rw [strOf_sz]
            refine Nat.le_trans (join_len fun x hx => HGD.out x (List.mem_of_mem_take hx)) ?_
            have := HLN.out
            rw [List.length_take]; omega)
          by_cases hlt : j < n
          · obtain ⟨t, ht⟩ : ∃ t, l[j]? = some t := ⟨_, List.getElem?_eq_getElem (by rw [HN.out]; exact hlt)⟩
            have hgt := HGD.out t (List.mem_of_getElem? ht)
            have CW := Lib.hid (fun W => wWritten hgt W)
            have hwl := hgt.len
            have HNX := Lib.hid (show strOfNums (joinP (l.take j)) ++ (strOfNums (wrP t) ++ ⟨#[32]⟩) = strOfNums (joinP (l.take (j + 1))) by rw [join_next ht, strOf_app, strOf_app]; rfl)
            obtain ⟨g, o, rfl, q0⟩ := SB.elE Tk.len (by decide) (SB1.out.gw hbl) ht
            obtain ⟨tk, tt, tvk, tvi, tvb, ta⟩ := t
            dsimp only at CW
            have HRow := Lib.hid (show wr.rangeAt g (o + j * 8) [Value.int .i64 tk, .string tt, .int .i64 tvk, .int .i64 tvi, .bool false, .string tvb, .complex .f64 0 0, .int .i64 (ta : Nat)] from fun i v hv => q0 i v hv)
            have HI := Lib.hid (show (Tryd.prog.info? 36).map (·.size) = some [Value.int .i64 tk, .string tt, .int .i64 tvk, .int .i64 tvi, .bool false, .string tvb, .complex .f64 0 0, .int .i64 (ta : Nat)].length by rfl)
            obtain ⟨sw, hsw⟩ : ∃ x, strOfNums (wrP ⟨tk, tt, tvk, tvi, tvb, ta⟩) = x := ⟨_, rfl⟩
            obtain ⟨st, hst⟩ : ∃ x, strOfNums (joinP (l.take j)) = x := ⟨_, rfl⟩
            have hsz1 : sw.size ≤ 16400 := by rw [← hsw, strOf_sz]; exact hwl
            rw [hsw] at CW
            rw [hsw, hst] at HNX
            rw [hst] at HSZ
            have hsz2 := HSZ.out
            have n1 : ¬ 9223372036854775807 < sw.size + 1 := by omega
            have n2 : ¬ 9223372036854775807 < st.size + (sw.size + 1) := by omega
            rw [hst]
            obtain ⟨gb, hgb⟩ : ∃ g, wr.heap.size = g := ⟨_, rfl⟩
            obtain ⟨X, hX⟩ : ∃ X, wr.alloc (.cells #[Value.int .i64 tk, .string tt, .int .i64 tvk, .int .i64 tvi, .bool false, .string tvb, .complex .f64 0 0, .int .i64 (ta : Nat)] 36) = X := ⟨_, rfl⟩
            have HX := Lib.hid hX
            have HRX := Lib.hid (show X.rangeAt gb 0 [Value.int .i64 tk, .string tt, .int .i64 tvk, .int .i64 tvi, .bool false, .string tvb, .complex .f64 0 0, .int .i64 (ta : Nat)] from fun i v hv => by
              rw [Nat.zero_add, ← hX, ← hgb, cell_of_row _ _ i _ _ _ (heap_alloc_new wr _)]
              simpa using hv)
            have BX2 := Lib.hid (show Below wr.heap.size wr X by rw [← hX]; exact (Below.refl _ _).alloc (Nat.le_refl _) _)
            have HLT := Lib.hid hlt
            have i1 : (j : Int) < (n : Int) := by omega
            have i2 : (j : Int) ≤ 65536 := by have := HLN.out; omega
            have hcx := run_store_cx Tryd.prog
            clear hj hbl hlt ht hgt hwl q0 hX hsw hst hsz1 hsz2
            go_upto_region 17 with (with_reducible refine wpList_load_mid rfl 36 (.tmp 58) rfl g (o + j * 8) rfl [Value.int .i64 tk, .string tt, .int .i64 tvk, .int .i64 tvi, .bool false, .string tvb, .complex .f64 0 0, .int .i64 (ta : Nat)] _ HRow.out Tryd.underlying36 rfl HI.out ?_)
            rw [HX.out]
            clear hcx
            go_wp2_with (first
              | (with_reducible refine wpList_load_mid rfl 36 (.tmp 13) rfl gb 0 rfl [Value.int .i64 tk, .string tt, .int .i64 tvk, .int .i64 tvi, .bool false, .string tvb, .complex .f64 0 0, .int .i64 (ta : Nat)] _ HRX.out Tryd.underlying36 rfl HI.out ?_)
              | (go_at_call 24; go_loud (refine (CW.out _).mono ?_; rintro e w5 ⟨rfl, b5⟩; have B5 := Lib.hid b5; clear b5)))
            go_roundw
            case rel => exact ⟨j + 1, by go_num, by rw [← HNX.out], HLT.out, below_next (below_next HB.out BX2.out) B5.out⟩
            case measure => have := HLT.out; simp [intOf]; omega
          · obtain rfl : j = n := by omega
            have i1 : ¬ (j : Int) < (j : Int) := by omega
            rw [show l.take j = l by rw [← HN.out, List.take_length]] at HSZ ⊢
            have HJS := Lib.hid (show strB (strOfNums (joinP l)) = joinP l from strB_nums12 _ (join_bytes HGD.out))
            obtain ⟨u, hu⟩ : ∃ u, strOfNums (joinP l) = u := ⟨_, rfl⟩
            rw [hu] at HJS HSZ ⊢
            have hsz2 := HSZ.out
            by_cases hul : u.size ≤ 65536
            · obtain ⟨k1, k2, k3⟩ := toks_join HGD.out
              rw [← HJS.out] at k1 k2 k3
              have C2 := Lib.hid ((wTokens u wr hul (HER.out _ (below_next B1.out hbl))).mono fun e w' h => h.yes_ hul k1)
              obtain ⟨ms, hms⟩ : ∃ ms, (toksP (strB u)).1 = ms := ⟨_, rfl⟩
              rw [hms] at C2 k2 k3
              rw [HN.out] at k2
              have K2 := Lib.hid k2
              have K3 := Lib.hid k3
              have a1 : ¬ (65536 : Int) < (u.size : Int) := by omega
              clear hj hbl hlt hu hsz2 hul k1 k2 k3 hms
              go_upto_region 28 with (go_at_call 9; go_loud (refine C2.out.mono ?_; rintro e w4 ⟨b4, v4, rfl, t4⟩; have B4 := Lib.hid b4; have T4 := Lib.hid (show SO seT wr.heap.size w4 v4 j (cellsE Tk.cells ms) by have := t4; unfold TL at this; rwa [K2.out] at this); obtain ⟨A4, c4, hv4, -, -⟩ := t4.form; rw [K2.out] at hv4; subst hv4; clear b4 t4))
              go_loopw [92] (fun iv wy => ∃ z : Nat, iv = .int .i64 (z : Nat) ∧ z ≤ j ∧ SO seT wr.heap.size wy (.slice A4 j c4) j (cellsE Tk.cells (l.take z ++ ms.drop z)) ∧ Below wr.heap.size wr wy) (fun iv _ => j - (intOf iv).toNat)
              case atStart => exact ⟨0, rfl, Nat.zero_le _, by simpa using T4.out, B4.out⟩
              case round =>
                rename World => wy
                obtain ⟨z, rfl, hz, hso, hb2⟩ := hrel
                have HB2 := Lib.hid hb2
                by_cases hzj : z < j
                · obtain ⟨x, hx⟩ : ∃ x, l[z]? = some x := ⟨_, List.getElem?_eq_getElem (by rw [HN.out]; exact hzj)⟩
                  obtain ⟨y, hy⟩ : ∃ y, ms[z]? = some y := ⟨_, List.getElem?_eq_getElem (by rw [K2.out]; exact hzj)⟩
                  have hsame := K3.out z x y hx hy
                  obtain ⟨g, o, rfl, q0⟩ := SB.elE Tk.len (by decide) ((SB1.out.gw HB.out).gw hb2) hx
                  have ca : wy.cell? ⟨g, o + z * 8 + 7, none⟩ = some (.int .i64 (x.a : Nat)) := q0 7 _ rfl
                  have hml : (l.take z).length = z := by rw [List.length_take, HN.out]; omega
                  have e1 : l.take z ++ ms.drop z = l.take z ++ y :: ms.drop (z + 1) := by
                    rw [List.drop_eq_getElem_cons (by rw [K2.out]; exact hzj)]
                    rw [List.getElem?_eq_getElem (by rw [K2.out]; exact hzj)] at hy
                    rw [Option.some.inj hy]
                  have e2 : l.take (z + 1) ++ ms.drop (z + 1) = l.take z ++ x :: ms.drop (z + 1) := by
                    rw [List.take_add_one, hx, Option.toList_some, List.append_assoc]; rfl
                  rw [e1] at hso
                  have hcell : (cellsE Tk.cells (l.take z ++ y :: ms.drop (z + 1)))[8 * z + 7]? = some (.int .i64 (y.a : Nat)) := cellsE_at Tk.len _ z y (by rw [List.getElem?_append_right (by omega), hml, Nat.sub_self]; rfl) 7 _ rfl
                  rcases hso.own.2 with ⟨hv, hz0⟩ | ⟨gm, cap, cur, hv, hbm, -, -, -, -, -⟩
                  · exfalso
                    have : j = 0 := by injection hv with e3 e4 e5
                    omega
                  · obtain ⟨rfl, rfl⟩ : A4 = some ⟨gm, 0, none⟩ ∧ c4 = cap := by injection hv with e3 e4 e5; exact ⟨e3, e5⟩
                    have cm : wy.cell? ⟨gm, z * 8 + 7, none⟩ = some (.int .i64 (y.a : Nat)) := by
                      rw [Nat.mul_comm z 8]
                      exact (hso.own.cellAt (8 * z + 7) (by rw [← hso.own.1]; exact (List.getElem?_eq_some_iff.1 hcell).1)).trans hcell
                    have fm : wy.frozen? ⟨gm, z * 8 + 7, none⟩ = false := hso.own.frozenAt _
                    have HSO2 := Lib.hid (show SO seT wr.heap.size (wy.setCell ⟨gm, z * 8 + 7, none⟩ (.int .i64 (x.a : Nat))) (.slice (some ⟨gm, 0, none⟩) j c4) j (cellsE Tk.cells (l.take (z + 1) ++ ms.drop (z + 1))) by
                      rw [e2, Nat.mul_comm z 8]
                      have := TL.set_place hso hsame
                      rwa [hml] at this)
                    have HGM := Lib.hid (show wr.heap.size ≤ gm from hbm)
                    have HZJ := Lib.hid hzj
                    have i1 : (z : Int) < (j : Int) := by omega
                    have i2 : (z : Int) ≤ 65536 := by have := HLN.out; omega
                    obtain ⟨xa, hxa⟩ : ∃ q : Int, ((x.a : Nat) : Int) = q := ⟨_, rfl⟩
                    rw [hxa] at ca HSO2
                    clear hz hso hb2 hzj hx hy hsame q0 hml e1 e2 hcell hv hbm hxa
                    go_wp2
                    go_roundw
                    case rel => exact ⟨z + 1, by go_num, HZJ.out, HSO2.out, HB2.out.setCell (p := ⟨gm, z * 8 + 7, none⟩) HGM.out _⟩
                    case measure => have := HZJ.out; simp [intOf]; omega
                · obtain rfl : z = j := by omega
                  have i1 : ¬ (z : Int) < (z : Int) := by omega
                  rw [show l.take z = l by rw [← HN.out, List.take_length], show ms.drop z = [] by rw [← K2.out, List.drop_length], List.append_nil] at hso
                  obtain ⟨A5, c5, hv5, hs5, -⟩ := hso.form
                  obtain ⟨rfl, rfl⟩ : A4 = A5 ∧ c4 = c5 := by injection hv5 with e3 e4 e5; exact ⟨e3, e5⟩
                  have CS := wSame (c := c1) (d := c4) (l := l) ((SB1.out.gw HB.out).gw hb2) (by rw [HN.out]; exact hs5) (by have := HLN.out; have := HN.out; omega)
                  rw [HN.out] at CS
                  have HCS := Lib.hid CS
                  clear hz hso hb2 hzj hs5 hv5 CS
                  go_wp2_with (go_at_call 12; go_loud (refine HCS.out.mono ?_; rintro e w6 ⟨rfl, b6⟩; have B6 := Lib.hid b6; clear b6))
                  go_ret
                  exact ⟨rfl, below_next (below_next (below_next B1.out HB.out) HB2.out) B6.out⟩
            · have a1 : (65536 : Int) < (u.size : Int) := by omega
              clear hj hbl hlt hu hul
              go_wp2
              go_ret
              exact ⟨rfl, below_next B1.out HB.out⟩
      · have C1 := Lib.hid (CT1.out.mono fun e w' h => h.no_ hl h0)
        obtain ⟨q, hq⟩ : ∃ q : Int, (((toksP (strB s)).2.1 : Nat) : Int) = q := ⟨_, rfl⟩
        obtain ⟨e0, he0⟩ : ∃ e0, (toksP (strB s)).2.2 = e0 := ⟨_, rfl⟩
        rw [hq, he0] at C1
        rw [he0] at h0
        have g0 : (e0 != 0) = true := by simpa using h0
        clear h0 hl hq he0 CT1
        go_wp2_with (go_at_call 9; go_loud (refine C1.out.mono ?_; rintro e w1 ⟨b1, rfl⟩; have B1 := Lib.hid (below_next BX.out b1); clear b1))
        go_ret
        exact ⟨rfl, B1.out⟩
    · have C1 := Lib.hid (wTokensLong s WX (by omega) HS.out)
      clear hl
      go_wp2_with (go_at_call 9; go_loud (refine C1.out.mono ?_; rintro e w1 ⟨rfl, rfl⟩))
      go_ret
      exact ⟨rfl, BX.out⟩
  · have CQ := Lib.hid fun W => wQuoteLong b W (by omega) hb
    have a1 : ¬ (b.size : Int) ≤ 4096 := by omega
    clear hb hb4
    go_enter Tryd.func7, Tryd.ntmps7
    go_upto_region 10 with (first
      | (go_at_call 22; go_loud (refine (CQ.out _).mono ?_; rintro e WX ⟨rfl, hq⟩; replace hq := hq.symm; subst hq))
      | (go_at_call 11; go_loud (refine (BG.out _ HE.out).mono ?_; rintro e w0 ⟨rfl, b0⟩; have BX := Lib.hid b0; clear b0)))
    clear a1
    by_cases hl : s.size ≤ 65536
    · have CT1 := Lib.hid (wTokens s WX hl (HER.out _ BX.out))
      by_cases h0 : (toksP (strB s)).2.2 = 0
      · have C1 := Lib.hid (CT1.out.mono fun e w' h => h.yes_ hl h0)
        have HLN := Lib.hid (show (toksP (strB s)).1.length ≤ 65536 by
          have := ahead_len ((strB s).length + 1) 0 (strB s)
          rw [strB_len] at this
          unfold toksP
          rw [strB_len]; omega)
        have HGD := Lib.hid (toks_good s)
        obtain ⟨l, hll⟩ : ∃ l, (toksP (strB s)).1 = l := ⟨_, rfl⟩
        rw [hll] at C1 HLN HGD
        obtain ⟨n, hn⟩ : ∃ n, l.length = n := ⟨_, rfl⟩
        have HN := Lib.hid hn
        rw [hn] at HLN
        clear h0 hl hll CT1
        go_upto_region 15 with (go_at_call 9; go_loud (refine C1.out.mono ?_; rintro e w1 ⟨b1, v1, rfl, t1⟩; obtain ⟨A1, c1, rfl, sb1, -⟩ := t1.form; have B1 := Lib.hid (below_next BX.out b1); have SB1 := Lib.hid sb1; clear b1 t1 sb1))
        clear hn
        go_loopw [11, 56] (fun tv iv wr => ∃ j : Nat, iv = .int .i64 (j : Nat) ∧ tv = .string (strOfNums (joinP (l.take j))) ∧ j ≤ n ∧ Below w1.heap.size w1 wr) (fun _ iv _ => n - (intOf iv).toNat)
        case atStart => exact ⟨0, rfl, rfl, Nat.zero_le _, Below.refl _ _⟩
        case round =>
          rename World => wr
          obtain ⟨j, rfl, rfl, hj, hbl⟩ := hrel
          have HB := Lib.hid hbl
          have HSZ := Lib.hid (show (strOfNums (joinP (l.take j))).size ≤ 1074872320 by
            rw [strOf_sz]
            refine Nat.le_trans (join_len fun x hx => HGD.out x (List.mem_of_mem_take hx)) ?_
            have := HLN.out
            rw [List.length_take]; omega)
          by_cases hlt : j < n
          · obtain ⟨t, ht⟩ : ∃ t, l[j]? = some t := ⟨_, List.getElem?_eq_getElem (by rw [HN.out]; exact hlt)⟩
            have hgt := HGD.out t (List.mem_of_getElem? ht)
            have CW := Lib.hid (fun W => wWritten hgt W)
            have hwl := hgt.len
            have HNX := Lib.hid (show strOfNums (joinP (l.take j)) ++ (strOfNums (wrP t) ++ ⟨#[32]⟩) = strOfNums (joinP (l.take (j + 1))) by rw [join_next ht, strOf_app, strOf_app]; rfl)
            obtain ⟨g, o, rfl, q0⟩ := SB.elE Tk.len (by decide) (SB1.out.gw hbl) ht
            obtain ⟨tk, tt, tvk, tvi, tvb, ta⟩ := t
            dsimp only at CW
            have HRow := Lib.hid (show wr.rangeAt g (o + j * 8) [Value.int .i64 tk, .string tt, .int .i64 tvk, .int .i64 tvi, .bool false, .string tvb, .complex .f64 0 0, .int .i64 (ta : Nat)] from fun i v hv => q0 i v hv)
            have HI := Lib.hid (show (Tryd.prog.info? 36).map (·.size) = some [Value.int .i64 tk, .string tt, .int .i64 tvk, .int .i64 tvi, .bool false, .string tvb, .complex .f64 0 0, .int .i64 (ta : Nat)].length by rfl)
            obtain ⟨sw, hsw⟩ : ∃ x, strOfNums (wrP ⟨tk, tt, tvk, tvi, tvb, ta⟩) = x := ⟨_, rfl⟩
            obtain ⟨st, hst⟩ : ∃ x, strOfNums (joinP (l.take j)) = x := ⟨_, rfl⟩
            have hsz1 : sw.size ≤ 16400 := by rw [← hsw, strOf_sz]; exact hwl
            rw [hsw] at CW
            rw [hsw, hst] at HNX
            rw [hst] at HSZ
            have hsz2 := HSZ.out
            have n1 : ¬ 9223372036854775807 < sw.size + 1 := by omega
            have n2 : ¬ 9223372036854775807 < st.size + (sw.size + 1) := by omega
            rw [hst]
            obtain ⟨gb, hgb⟩ : ∃ g, wr.heap.size = g := ⟨_, rfl⟩
            obtain ⟨X, hX⟩ : ∃ X, wr.alloc (.cells #[Value.int .i64 tk, .string tt, .int .i64 tvk, .int .i64 tvi, .bool false, .string tvb, .complex .f64 0 0, .int .i64 (ta : Nat)] 36) = X := ⟨_, rfl⟩
            have HX := Lib.hid hX
            have HRX := Lib.hid (show X.rangeAt gb 0 [Value.int .i64 tk, .string tt, .int .i64 tvk, .int .i64 tvi, .bool false, .string tvb, .complex .f64 0 0, .int .i64 (ta : Nat)] from fun i v hv => by
              rw [Nat.zero_add, ← hX, ← hgb, cell_of_row _ _ i _ _ _ (heap_alloc_new wr _)]
              simpa using hv)
            have BX2 := Lib.hid (show Below wr.heap.size wr X by rw [← hX]; exact (Below.refl _ _).alloc (Nat.le_refl _) _)
            have HLT := Lib.hid hlt
            have i1 : (j : Int) < (n : Int) := by omega
            have i2 : (j : Int) ≤ 65536 := by have := HLN.out; omega
            have hcx := run_store_cx Tryd.prog
            clear hj hbl hlt ht hgt hwl q0 hX hsw hst hsz1 hsz2
            go_upto_region 17 with (with_reducible refine wpList_load_mid rfl 36 (.tmp 58) rfl g (o + j * 8) rfl [Value.int .i64 tk, .string tt, .int .i64 tvk, .int .i64 tvi, .bool false, .string tvb, .complex .f64 0 0, .int .i64 (ta : Nat)] _ HRow.out Tryd.underlying36 rfl HI.out ?_)
            rw [HX.out]
            clear hcx
            go_wp2_with (first
              | (with_reducible refine wpList_load_mid rfl 36 (.tmp 13) rfl gb 0 rfl [Value.int .i64 tk, .string tt, .int .i64 tvk, .int .i64 tvi, .bool false, .string tvb, .complex .f64 0 0, .int .i64 (ta : Nat)] _ HRX.out Tryd.underlying36 rfl HI.out ?_)
              | (go_at_call 24; go_loud (refine (CW.out _).mono ?_; rintro e w5 ⟨rfl, b5⟩; have B5 := Lib.hid b5; clear b5)))
            go_roundw
            case rel => exact ⟨j + 1, by go_num, by rw [← HNX.out], HLT.out, below_next (below_next HB.out BX2.out) B5.out⟩
            case measure => have := HLT.out; simp [intOf]; omega
          · obtain rfl : j = n := by omega
            have i1 : ¬ (j : Int) < (j : Int) := by omega
            rw [show l.take j = l by rw [← HN.out, List.take_length]] at HSZ ⊢
            have HJS := Lib.hid (show strB (strOfNums (joinP l)) = joinP l from strB_nums12 _ (join_bytes HGD.out))
            obtain ⟨u, hu⟩ : ∃ u, strOfNums (joinP l) = u := ⟨_, rfl⟩
            rw [hu] at HJS HSZ ⊢
            have hsz2 := HSZ.out
            by_cases hul : u.size ≤ 65536
            · obtain ⟨k1, k2, k3⟩ := toks_join HGD.out
              rw [← HJS.out] at k1 k2 k3
              have C2 := Lib.hid ((wTokens u wr hul (HER.out _ (below_next B1.out hbl))).mono fun e w' h => h.yes_ hul k1)
              obtain ⟨ms, hms⟩ : ∃ ms, (toksP (strB u)).1 = ms := ⟨_, rfl⟩
              rw [hms] at C2 k2 k3
              rw [HN.out] at k2
              have K2 := Lib.hid k2
              have K3 := Lib.hid k3
              have a1 : ¬ (65536 : Int) < (u.size : Int) := by omega
              clear hj hbl hlt hu hsz2 hul k1 k2 k3 hms
              go_upto_region 28 with (go_at_call 9; go_loud (refine C2.out.mono ?_; rintro e w4 ⟨b4, v4, rfl, t4⟩; have B4 := Lib.hid b4; have T4 := Lib.hid (show SO seT wr.heap.size w4 v4 j (cellsE Tk.cells ms) by have := t4; unfold TL at this; rwa [K2.out] at this); obtain ⟨A4, c4, hv4, -, -⟩ := t4.form; rw [K2.out] at hv4; subst hv4; clear b4 t4))
              go_loopw [92] (fun iv wy => ∃ z : Nat, iv = .int .i64 (z : Nat) ∧ z ≤ j ∧ SO seT wr.heap.size wy (.slice A4 j c4) j (cellsE Tk.cells (l.take z ++ ms.drop z)) ∧ Below wr.heap.size wr wy) (fun iv _ => j - (intOf iv).toNat)
              case atStart => exact ⟨0, rfl, Nat.zero_le _, by simpa using T4.out, B4.out⟩
              case round =>
                rename World => wy
                obtain ⟨z, rfl, hz, hso, hb2⟩ := hrel
                have HB2 := Lib.hid hb2
                by_cases hzj : z < j
                · obtain ⟨x, hx⟩ : ∃ x, l[z]? = some x := ⟨_, List.getElem?_eq_getElem (by rw [HN.out]; exact hzj)⟩
                  obtain ⟨y, hy⟩ : ∃ y, ms[z]? = some y := ⟨_, List.getElem?_eq_getElem (by rw [K2.out]; exact hzj)⟩
                  have hsame := K3.out z x y hx hy
                  obtain ⟨g, o, rfl, q0⟩ := SB.elE Tk.len (by decide) ((SB1.out.gw HB.out).gw hb2) hx
                  have ca : wy.cell? ⟨g, o + z * 8 + 7, none⟩ = some (.int .i64 (x.a : Nat)) := q0 7 _ rfl
                  have hml : (l.take z).length = z := by rw [List.length_take, HN.out]; omega
                  have e1 : l.take z ++ ms.drop z = l.take z ++ y :: ms.drop (z + 1) := by
                    rw [List.drop_eq_getElem_cons (by rw [K2.out]; exact hzj)]
                    rw [List.getElem?_eq_getElem (by rw [K2.out]; exact hzj)] at hy
                    rw [Option.some.inj hy]
                  have e2 : l.take (z + 1) ++ ms.drop (z + 1) = l.take z ++ x :: ms.drop (z + 1) := by
                    rw [List.take_add_one, hx, Option.toList_some, List.append_assoc]; rfl
                  rw [e1] at hso
                  have hcell : (cellsE Tk.cells (l.take z ++ y :: ms.drop (z + 1)))[8 * z + 7]? = some (.int .i64 (y.a : Nat)) := cellsE_at Tk.len _ z y (by rw [List.getElem?_append_right (by omega), hml, Nat.sub_self]; rfl) 7 _ rfl
                  rcases hso.own.2 with ⟨hv, hz0⟩ | ⟨gm, cap, cur, hv, hbm, -, -, -, -, -⟩
                  · exfalso
                    have : j = 0 := by injection hv with e3 e4 e5
                    omega
                  · obtain ⟨rfl, rfl⟩ : A4 = some ⟨gm, 0, none⟩ ∧ c4 = cap := by injection hv with e3 e4 e5; exact ⟨e3, e5⟩
                    have cm : wy.cell? ⟨gm, z * 8 + 7, none⟩ = some (.int .i64 (y.a : Nat)) := by
                      rw [Nat.mul_comm z 8]
                      exact (hso.own.cellAt (8 * z + 7) (by rw [← hso.own.1]; exact (List.getElem?_eq_some_iff.1 hcell).1)).trans hcell
                    have fm : wy.frozen? ⟨gm, z * 8 + 7, none⟩ = false := hso.own.frozenAt _
                    have HSO2 := Lib.hid (show SO seT wr.heap.size (wy.setCell ⟨gm, z * 8 + 7, none⟩ (.int .i64 (x.a : Nat))) (.slice (some ⟨gm, 0, none⟩) j c4) j (cellsE Tk.cells (l.take (z + 1) ++ ms.drop (z + 1))) by
                      rw [e2, Nat.mul_comm z 8]
                      have := TL.set_place hso hsame
                      rwa [hml] at this)
                    have HGM := Lib.hid (show wr.heap.size ≤ gm from hbm)
                    have HZJ := Lib.hid hzj
                    have i1 : (z : Int) < (j : Int) := by omega
                    have i2 : (z : Int) ≤ 65536 := by have := HLN.out; omega
                    obtain ⟨xa, hxa⟩ : ∃ q : Int, ((x.a : Nat) : Int) = q := ⟨_, rfl⟩
                    rw [hxa] at ca HSO2
                    clear hz hso hb2 hzj hx hy hsame q0 hml e1 e2 hcell hv hbm hxa
                    go_wp2
                    go_roundw
                    case rel => exact ⟨z + 1, by go_num, HZJ.out, HSO2.out, HB2.out.setCell (p := ⟨gm, z * 8 + 7, none⟩) HGM.out _⟩
                    case measure => have := HZJ.out; simp [intOf]; omega
                · obtain rfl : z = j := by omega
                  have i1 : ¬ (z : Int) < (z : Int) := by omega
                  rw [show l.take z = l by rw [← HN.out, List.take_length], show ms.drop z = [] by rw [← K2.out, List.drop_length], List.append_nil] at hso
                  obtain ⟨A5, c5, hv5, hs5, -⟩ := hso.form
                  obtain ⟨rfl, rfl⟩ : A4 = A5 ∧ c4 = c5 := by injection hv5 with e3 e4 e5; exact ⟨e3, e5⟩
                  have CS := wSame (c := c1) (d := c4) (l := l) ((SB1.out.gw HB.out).gw hb2) (by rw [HN.out]; exact hs5) (by have := HLN.out; have := HN.out; omega)
                  rw [HN.out] at CS
                  have HCS := Lib.hid CS
                  clear hz hso hb2 hzj hs5 hv5 CS
                  go_wp2_with (go_at_call 12; go_loud (refine HCS.out.mono ?_; rintro e w6 ⟨rfl, b6⟩; have B6 := Lib.hid b6; clear b6))
                  go_ret
                  exact ⟨rfl, below_next (below_next (below_next B1.out HB.out) HB2.out) B6.out⟩
            · have a1 : (65536 : Int) < (u.size : Int) := by omega
              clear hj hbl hlt hu hul
              go_wp2
              go_ret
              exact ⟨rfl, below_next B1.out HB.out⟩
      · have C1 := Lib.hid (CT1.out.mono fun e w' h => h.no_ hl h0)
        obtain ⟨q, hq⟩ : ∃ q : Int, (((toksP (strB s)).2.1 : Nat) : Int) = q := ⟨_, rfl⟩
        obtain ⟨e0, he0⟩ : ∃ e0, (toksP (strB s)).2.2 = e0 := ⟨_, rfl⟩
        rw [hq, he0] at C1
        rw [he0] at h0
        have g0 : (e0 != 0) = true := by simpa using h0
        clear h0 hl hq he0 CT1
        go_wp2_with (go_at_call 9; go_loud (refine C1.out.mono ?_; rintro e w1 ⟨b1, rfl⟩; have B1 := Lib.hid (below_next BX.out b1); clear b1))
        go_ret
        exact ⟨rfl, B1.out⟩
    · have C1 := Lib.hid (wTokensLong s WX (by omega) HS.out)
      clear hl
      go_wp2_with (go_at_call 9; go_loud (refine C1.out.mono ?_; rintro e w1 ⟨rfl, rfl⟩))
      go_ret
      exact ⟨rfl, BX.out⟩
end Go.Proofs.YtagangneoibbcaaDoor
