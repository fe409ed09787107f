/- The walk of SireadLean: no note of a transaction covers another one of it. -/
import Derived.Test.YtcpifanhmkblmaaSiProg
namespace Go.Proofs.Ytcpifanhmkblmaa
set_option maxRecDepth 100000
set_option maxRecDepth 100000
open Go.RowKit

set_option maxHeartbeats 16000000 in
theorem walk_SireadLean (a0 : Int) (A1 : Option Addr) (n1 c1 : Nat) (z1 : List OpS) (w : World) (_ha0 : -9223372036854775808 ≤ a0 ∧ a0 ≤ 9223372036854775807) (h1 : RS w A1 n1 z1) (hn1 : n1 ≤ c1) (hc1 : c1 ≤ 1599289640354) :
    Calls Try.prog 7 #[.int .i64 a0, .slice A1 n1 c1] w fun e w' => e = .returned (.bool true) ∧ Below w.heap.size w w' := by
  clear _ha0
  have CL := Lib.hid (fun W => wlive9 api9 W)
  by_cases hin : capP a0 = false
  · have CB := Lib.hid (fun W => wbegun9_no api9 W a0 hin)
    clear h1 hin
    go_enter Try.func7, Try.ntmps7
    go_wp2_with (first
      | (go_at_call 10; go_loud (refine (CB.out _).mono ?_; rintro e w1 ⟨rfl, b1⟩; have B1 := Lib.hid b1; clear b1))
      | (go_at_call 11; go_loud (refine (CL.out _).mono ?_; rintro e w2 ⟨rfl, b2⟩; have B2 := Lib.hid b2; clear b2)))
    go_ret
    exact ⟨rfl, below_next (B1.out.alloc B1.out.size _) B2.out⟩
  · obtain ⟨m, rfl, m1, m2⟩ := cap_nat hin
    have CB := Lib.hid (fun W => wbegun9 api9 W m m1 m2)
    have HM := Lib.hid (And.intro m1 m2)
    have H1 := Lib.hid h1
    have HC := Lib.hid (show n1 ≤ 1599289640354 by omega)
    clear h1 hin hn1 hc1 m1 m2
    go_enter Try.func7, Try.ntmps7
    go_upto_region 2 with (go_at_call 10; go_loud (refine (CB.out _).mono ?_; rintro e w1 ⟨r, G, rfl, mm, hg, b1⟩; have M1 := Lib.hid mm; have G1 := Lib.hid hg; have B1 := Lib.hid b1; clear mm hg b1))
    obtain ⟨b, hb⟩ : ∃ b, w1.heap.size = b := ⟨_, rfl⟩
    obtain ⟨W3, hW3⟩ : ∃ W, w1.alloc (.cells #[.int .i64 (m : Int), .slice none 0 0] 26) = W := ⟨_, rfl⟩
    have L3 := Lib.hid (show Prog9 w W3 G r b m [] by rw [← hW3, ← hb]; exact ⟨two9_new api9 HM.out.1 HM.out.2 M1.out G1.out B1.out⟩)
    rw [hW3, hb]
    clear hb hW3 M1 B1 G1 CB
    go_upto_region 4 with (go_at_call 11; go_loud (refine (CL.out _).mono ?_; rintro e w4 ⟨rfl, b4⟩; have L4 := Lib.hid (L3.out.below b4); clear b4))
    clear L3 CL
    go_upto_region 5 with fail
    go_loopw [35] (fun i wr => ∃ (j : Nat) (G : Nat → Prop) (L : List Nt), i = .int .i64 (j : Nat) ∧ j ≤ n1 ∧ Prog9 w wr G r b m L) (fun i _ => n1 - (intOf i).toNat)
    case atStart => exact ⟨0, _, [], rfl, Nat.zero_le _, L4.out⟩
    case round =>
      rename World => wr
      clear L4
      obtain ⟨j, G, L, rfl, hj, hR⟩ := hrel
      by_cases hlt : j < n1
      · obtain ⟨x, hx⟩ : ∃ x, z1[j]? = some x := ⟨_, List.getElem?_eq_getElem (by have := H1.out.len; omega)⟩
        have HO := Lib.hid (H1.out.is x (List.mem_of_getElem? hx))
        obtain ⟨ab, ao, rfl, q0, q1, q2, q3, q4, q5, q6⟩ := (H1.out.below hR.two.bel).at_ hx
        have HT := Lib.hid (wf_of9 HO.out.rt)
        obtain ⟨bx, hbx⟩ : ∃ bx, wr.heap.size = bx := ⟨_, rfl⟩
        obtain ⟨Y, hY⟩ : ∃ Y, wr.alloc (.cells #[.int .i64 x.kind, .int .i64 x.tx, .string x.x.tb, .int .i64 x.x.kd, .string x.x.lo, .string x.x.hi, .string x.key] 33) = Y := ⟨_, rfl⟩
        have HY := Lib.hid hY
        have HBX := Lib.hid hbx
        have OY := Lib.hid (show OpAt Y bx x by rw [← hY, ← hbx]; exact OpAt.new wr x)
        have gY : Below wr.heap.size wr Y := by rw [← hY]; exact (Below.refl _ _).alloc (Nat.le_refl _) _
        have RY := Lib.hid (hR.below gY)
        have NB := Lib.hid (show ¬ G bx ∧ b ≠ bx by rw [← hbx]; exact hR.box)
        have i1 : (j : Int) < (n1 : Int) := by omega
        have jb : (j : Int) ≤ 1599289640354 := by have := HC.out; omega
        have HLT := Lib.hid hlt
        clear hx hR gY hlt hY hbx hj
        go_upto_region 7 with fail
        rw [HY.out, HBX.out]
        clear q0 q1 q2 q3 q4 q5 q6 HY HBX
        have CN := Lib.hid (RY.out.two.note api9 x.tx HT.out x.x ⟨HO.out.x.lo, HO.out.x.tb⟩)
        have NS := Lib.hid (fun (ht : 1 ≤ x.tx) (hm : mayP x.x = true) => note_some RY.out.inv.1 HM.out.1 ht hm)
        have CM := Lib.hid (fun W => wrMay W x.x)
        unfold rdV at CN CM
        obtain ⟨kind, tx, ⟨tb, kd, lo, hi⟩, key⟩ := x
        dsimp only at CN NS CM HT HO
        have y0 := OY.out.kind
        obtain ⟨s1, s2, s3, s4, s5, s6⟩ := OY.out.cells
        dsimp only at y0 s1 s2 s3 s4 s5 s6
        obtain ⟨nq, hnq⟩ : ∃ q, noteP m L tx ⟨tb, kd, lo, hi⟩ = q := ⟨_, rfl⟩
        rw [hnq] at CN NS
        obtain ⟨ze, L5⟩ := nq
        dsimp only at CN NS
        clear hnq
        go_upto_region 8 with (go_at_call 12; go_loud (refine CN.out.mono ?_; rintro e w5 ⟨rfl, G5, t5, g5, o5⟩; have R5 := Lib.hid (Prog9.mk t5); have O5 := Lib.hid (OY.out.out o5 NB.out.1); clear t5 g5 o5))
        clear s1 s2 s3 s4 s5 s6 y0 CN OY RY NB
        have y0 := O5.out.kind
        obtain ⟨s1, s2, s3, s4, s5, s6⟩ := O5.out.cells
        dsimp only at y0 s1 s2 s3 s4 s5 s6
        have CO := Lib.hid (api9.of R5.out.two.m tx HT.out)
        have LE := Lib.hid (fun i k y z (h1 : (ofP L5 tx)[i]? = some y) (h2 : (ofP L5 tx)[k]? = some z) (h3 : i ≠ k) => lean_at R5.out.inv.1.ln h1 h2 h3)
        have SL := Lib.hid (fun y (hy : y ∈ ofP L5 tx) => (show y.lo.size ≤ 140737488355328 from (api9.inv R5.out.two.m).2.1 _ (((of_is R5.out.inv.1.ln tx).2 y).1 hy)))
        have HL := Lib.hid (show (ofP L5 tx).length ≤ 65536 by have := ofP_le L5 tx; have := R5.out.inv.2.1; omega)
        obtain ⟨ls, hls⟩ : ∃ l, ofP L5 tx = l := ⟨_, rfl⟩
        rw [hls] at CO LE HL SL
        clear hls
        go_upto_region 9 with (go_at_call 27; go_loud (refine CO.out.mono ?_; rintro e w6 ⟨v6, rfl, o6, b6⟩; obtain ⟨A6, c6, hv6, hs6⟩ := o6.rds rfl; subst hv6; have S6 := Lib.hid hs6; have R6 := Lib.hid (R5.out.below b6); have O6 := Lib.hid (O5.out.below b6); clear o6 b6 hs6))
        clear s1 s2 s3 s4 s5 s6 y0 CO R5 O5
        go_upto_region 10 with fail
        go_loopw [51] (fun i wr => ∃ (q : Nat), i = .int .i64 (q : Nat) ∧ q ≤ ls.length ∧ Below w6.heap.size w6 wr) (fun i _ => ls.length - (intOf i).toNat)
        case atStart => exact ⟨0, rfl, Nat.zero_le _, Below.refl _ _⟩
        case round =>
          rename World => wx
          obtain ⟨q, rfl, hq, hB⟩ := hrel
          by_cases hql : q < ls.length
          · obtain ⟨y, hy⟩ : ∃ y, ls[q]? = some y := ⟨_, List.getElem?_eq_getElem hql⟩
            have i2 : (q : Int) < (ls.length : Int) := by omega
            have i2' : (0 : Int) ≤ (q : Int) := by omega
            have l2 : (q : Int) ≤ 65536 := by have := HL.out; omega
            have HQL := Lib.hid hql
            have HBx := Lib.hid hB
            have HYY := Lib.hid hy
            clear hq hB hql hy
            go_upto_region 13 with fail
            go_loopw [56] (fun i wr => ∃ (k : Nat), i = .int .i64 (k : Nat) ∧ k ≤ ls.length ∧ Below w6.heap.size w6 wr) (fun i _ => ls.length - (intOf i).toNat)
            case atStart => exact ⟨0, rfl, Nat.zero_le _, HBx.out⟩
            case round =>
              rename World => wz
              clear HBx
              obtain ⟨k, rfl, hk, hB⟩ := hrel
              by_cases hkl : k < ls.length
              · obtain ⟨z, hz⟩ : ∃ z, ls[k]? = some z := ⟨_, List.getElem?_eq_getElem hkl⟩
                have i3 : (k : Int) < (ls.length : Int) := by omega
                have i3' : (0 : Int) ≤ (k : Int) := by omega
                have l3 : (k : Int) ≤ 65536 := by have := HL.out; omega
                have HKL := Lib.hid hkl
                have HB := Lib.hid hB
                obtain ⟨g, o, rfl, S1, S2⟩ := (S6.out.gw hB).rd2 HYY.out hz
                by_cases hqk : q = k
                · subst hqk
                  have e1 : ((q : Int) != (q : Int)) = false := by simp
                  clear hk hB hkl hz
                  go_upto_region 15 with fail
                  go_region
                  all_goals
                    go_wp2
                    go_roundw
                    case rel => exact ⟨q + 1, by go_num, HKL.out, HB.out.drew⟩
                    case measure => have := HKL.out; simp [intOf]; omega
                · have e0 : ¬ (q : Int) = (k : Int) := by omega
                  have e1 : ((q : Int) != (k : Int)) = true := by simpa using e0
                  have hc := LE.out q k y z HYY.out hz hqk
                  have CC := Lib.hid (fun W => wpCovers W y z (SL.out y (List.mem_of_getElem? HYY.out)) (SL.out z (List.mem_of_getElem? hz)))
                  rw [hc] at CC
                  unfold rdV at CC
                  have S0 := And.intro S1 S2
                  have SK := Lib.hid (fun (W' : World) (hb : Below wz.heap.size wz W') => (⟨⟨keep_below S1.1 hb, keep_below S1.2.1 hb, keep_below S1.2.2.1 hb, keep_below S1.2.2.2 hb⟩, ⟨keep_below S2.1 hb, keep_below S2.2.1 hb, keep_below S2.2.2.1 hb, keep_below S2.2.2.2 hb⟩⟩ : (W'.cell? ⟨g, o + q * 4, none⟩ = some (.string y.tb) ∧ W'.cell? ⟨g, o + q * 4 + 1, none⟩ = some (.int .i64 y.kd) ∧ W'.cell? ⟨g, o + q * 4 + 2, none⟩ = some (.string y.lo) ∧ W'.cell? ⟨g, o + q * 4 + 3, none⟩ = some (.string y.hi)) ∧ (W'.cell? ⟨g, o + k * 4, none⟩ = some (.string z.tb) ∧ W'.cell? ⟨g, o + k * 4 + 1, none⟩ = some (.int .i64 z.kd) ∧ W'.cell? ⟨g, o + k * 4 + 2, none⟩ = some (.string z.lo) ∧ W'.cell? ⟨g, o + k * 4 + 3, none⟩ = some (.string z.hi))))
                  clear hk hB hkl hz hqk hc S1 S2
                  go_upto_region 15 with fail
                  go_region_held3 (fun w' => (w'.cell? ⟨g, o + q * 4, none⟩ = some (.string y.tb) ∧ w'.cell? ⟨g, o + q * 4 + 1, none⟩ = some (.int .i64 y.kd) ∧ w'.cell? ⟨g, o + q * 4 + 2, none⟩ = some (.string y.lo) ∧ w'.cell? ⟨g, o + q * 4 + 3, none⟩ = some (.string y.hi)) ∧ (w'.cell? ⟨g, o + k * 4, none⟩ = some (.string z.tb) ∧ w'.cell? ⟨g, o + k * 4 + 1, none⟩ = some (.int .i64 z.kd) ∧ w'.cell? ⟨g, o + k * 4 + 2, none⟩ = some (.string z.lo) ∧ w'.cell? ⟨g, o + k * 4 + 3, none⟩ = some (.string z.hi)))
                    (first | exact S0 | exact SA)
                    (first | (go_at_call 18; go_loud (refine (CC.out _).mono ?_; rintro e w7 ⟨rfl, b7⟩; have B7 := Lib.hid ((Below.refl wz.heap.size wz).drew.trans b7); have SA := SK.out w7 B7.out; clear b7)))
                  all_goals
                    go_wp2
                    go_roundw
                    case rel => exact ⟨k + 1, by go_num, HKL.out, below_next HB.out B7.out⟩
                    case measure => have := HKL.out; simp [intOf]; omega
              · obtain rfl : k = ls.length := by omega
                have i3 : ¬ (ls.length : Int) < (ls.length : Int) := by omega
                have HB := Lib.hid hB
                clear hk hB hkl
                go_wp2
                go_roundw
                case rel => exact ⟨q + 1, by go_num, HQL.out, HB.out⟩
                case measure => have := HQL.out; simp [intOf]; omega
          · obtain rfl : q = ls.length := by omega
            have i2 : ¬ (ls.length : Int) < (ls.length : Int) := by omega
            have RX := Lib.hid (R6.out.below hB)
            have OX := Lib.hid (O6.out.below hB)
            clear hB hql hq
            have y0 := OX.out.kind
            obtain ⟨s1, s2, s3, s4, s5, s6⟩ := OX.out.cells
            dsimp only at y0 s1 s2 s3 s4 s5 s6
            have CE := Lib.hid (fun W (g : Below wx.heap.size wx W) => api9.len (RX.out.below g).two.m)
            by_cases t1 : 1 ≤ tx
            · cases hm : mayP ⟨tb, kd, lo, hi⟩
              · rw [hm] at CM
                clear NS hm
                go_wp2_with (first
                  | (go_at_call 28; go_loud (refine (CM.out _).mono ?_; rintro e w7 ⟨rfl, b7⟩; have R7 := Lib.hid (RX.out.below b7); clear b7)))
                go_roundw
                case rel => exact ⟨j + 1, _, _, by go_num, HLT.out, R7.out⟩
                case measure => have := HLT.out; simp [intOf]; omega
              · rw [hm] at CM
                have hne := NS.out t1 hm
                obtain ⟨n5, hn5⟩ : ∃ n, L5.length = n := ⟨_, rfl⟩
                rw [hn5] at CE hne
                have e5 : ((n5 : Int) == 0) = false := by simpa using hne
                clear NS hm hn5
                by_cases hz : ls.length = 0
                · have e6 : ((ls.length : Int) == 0) = true := by rw [hz]; rfl
                  clear hz
                  go_wp2_with (first
                    | (go_at_call 28; go_loud (refine (CM.out _).mono ?_; rintro e w7 ⟨rfl, b7⟩; have B7 := Lib.hid b7; have R7 := Lib.hid (RX.out.below b7); clear b7))
                    | (go_at_call 23; go_loud (refine (CE.out _ B7.out).mono ?_; rintro e w8 ⟨rfl, b8⟩; have R8 := Lib.hid (R7.out.below b8); clear b8)))
                  go_roundw
                  case rel => exact ⟨j + 1, _, _, by go_num, HLT.out, R8.out⟩
                  case measure => have := HLT.out; simp [intOf]; omega
                · have e6 : ((ls.length : Int) == 0) = false := by
                    have : ¬ (ls.length : Int) = 0 := by omega
                    simpa using this
                  clear hz
                  go_wp2_with (go_at_call 28; go_loud (refine (CM.out _).mono ?_; rintro e w7 ⟨rfl, b7⟩; have B7 := Lib.hid b7; have R7 := Lib.hid (RX.out.below b7); clear b7))
                  go_roundw
                  case rel => exact ⟨j + 1, _, _, by go_num, HLT.out, R7.out⟩
                  case measure => have := HLT.out; simp [intOf]; omega
            · have t1' : decide (1 ≤ tx) = false := by simpa using t1
              clear NS CM
              go_wp2
              go_roundw
              case rel => exact ⟨j + 1, _, _, by go_num, HLT.out, RX.out⟩
              case measure => have := HLT.out; simp [intOf]; omega
      · obtain rfl : j = n1 := by omega
        have i1 : ¬ (j : Int) < (j : Int) := by omega
        have HB := Lib.hid hR.two.bel
        clear hR hlt hj
        go_wp2
        go_ret
        exact ⟨rfl, HB.out⟩
end Go.Proofs.Ytcpifanhmkblmaa
