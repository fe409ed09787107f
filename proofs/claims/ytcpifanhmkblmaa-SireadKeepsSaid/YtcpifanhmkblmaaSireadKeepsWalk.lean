/- The walk of SireadKeeps: nothing is forgotten, and there are no more notes than the cap. -/
import Derived.Test.YtcpifanhmkblmaaSiKeep
namespace Go.Proofs.Ytcpifanhmkblmaa
set_option maxRecDepth 100000
set_option maxRecDepth 100000
open Go.RowKit

set_option maxHeartbeats 16000000 in
theorem walk_SireadKeeps (a0 : Int) (A1 : Option Addr) (n1 c1 : Nat) (z1 : List OpS) (w : World) (_ha0 : -9223372036854775808 ≤ a0 ∧ a0 ≤ 9223372036854775807) (h1 : RS w A1 n1 z1) (hn1 : n1 ≤ c1) (hc1 : c1 ≤ 1599289640354) :
    Calls Try.prog 6 #[.int .i64 a0, .slice A1 n1 c1] w fun e w' => e = .returned (.bool true) ∧ Below w.heap.size w w' := by
  clear _ha0
  have CL := Lib.hid (fun W => wlive9 api9 W)
  by_cases hin : capP a0 = false
  · have CB := Lib.hid (fun W => wbegun9_no api9 W a0 hin)
    clear h1 hin
    go_enter Try.func6, Try.ntmps6
    go_wp2_with (first
      | (go_at_call 10; go_loud (refine (CB.out _).mono ?_; rintro e w1 ⟨rfl, b1⟩; have B1 := Lib.hid b1; clear b1))
      | (go_at_call 11; go_loud (refine (CL.out _).mono ?_; rintro e w2 ⟨rfl, b2⟩; have B2 := Lib.hid b2; clear b2)))
    go_ret
    exact ⟨rfl, below_next (B1.out.alloc B1.out.size _) B2.out⟩
  · obtain ⟨m, rfl, m1, m2⟩ := cap_nat hin
    have CB := Lib.hid (fun W => wbegun9 api9 W m m1 m2)
    have HM := Lib.hid (And.intro m1 m2)
    have H1 := Lib.hid h1
    have HC := Lib.hid (show n1 ≤ 1599289640354 by omega)
    clear h1 hin hn1 hc1 m1 m2
    go_enter Try.func6, Try.ntmps6
    go_upto_region 2 with (go_at_call 10; go_loud (refine (CB.out _).mono ?_; rintro e w1 ⟨r, G, rfl, mm, hg, b1⟩; have M1 := Lib.hid mm; have G1 := Lib.hid hg; have B1 := Lib.hid b1; clear mm hg b1))
    obtain ⟨b, hb⟩ : ∃ b, w1.heap.size = b := ⟨_, rfl⟩
    obtain ⟨W3, hW3⟩ : ∃ W, w1.alloc (.cells #[.int .i64 (m : Int), .slice none 0 0] 26) = W := ⟨_, rfl⟩
    have L3 := Lib.hid (show Solo9 w W3 G r m [] by rw [← hW3]; exact ⟨api9.below M1.out (below_alloc9 _ _), G1.out, below_next B1.out (below_alloc9 _ _)⟩)
    rw [hW3, hb]
    clear hb hW3 M1 B1 G1 CB
    go_upto_region 4 with (go_at_call 11; go_loud (refine (CL.out _).mono ?_; rintro e w4 ⟨rfl, b4⟩; have L4 := Lib.hid (L3.out.below b4); clear b4))
    clear L3 CL
    go_upto_region 6 with fail
    go_loopw [8, 39] (fun kv i wr => ∃ (j : Nat) (G : Nat → Prop) (L : List Nt) (K : List OpS), i = .int .i64 (j : Nat) ∧ j ≤ n1 ∧ K.length ≤ j ∧ Solo9 w wr G r m L ∧ KL w wr G kv K ∧ Kept K L) (fun _ i _ => n1 - (intOf i).toNat)
    case atStart => exact ⟨0, _, [], [], rfl, Nat.zero_le _, Nat.zero_le _, L4.out, KL.nil _ _ _, Kept.nil⟩
    case round =>
      rename World => wr
      clear L4
      obtain ⟨j, G, L, K, rfl, hj, hKj, hR, hK, hKK⟩ := hrel
      by_cases hlt : j < n1
      · obtain ⟨x, hx⟩ : ∃ x, z1[j]? = some x := ⟨_, List.getElem?_eq_getElem (by have := H1.out.len; omega)⟩
        have HO := Lib.hid (H1.out.is x (List.mem_of_getElem? hx))
        obtain ⟨ab, ao, rfl, q0, q1, q2, q3, q4, q5, q6⟩ := (H1.out.below hR.bel).at_ hx
        have HT := Lib.hid (wf_of9 HO.out.rt)
        obtain ⟨bx, hbx⟩ : ∃ bx, wr.heap.size = bx := ⟨_, rfl⟩
        obtain ⟨Y, hY⟩ : ∃ Y, wr.alloc (.cells #[.int .i64 x.kind, .int .i64 x.tx, .string x.x.tb, .int .i64 x.x.kd, .string x.x.lo, .string x.x.hi, .string x.key] 33) = Y := ⟨_, rfl⟩
        have HY := Lib.hid hY
        have HBX := Lib.hid hbx
        have OY := Lib.hid (show OpAt Y bx x by rw [← hY, ← hbx]; exact OpAt.new wr x)
        have gY : Below wr.heap.size wr Y := by rw [← hY]; exact (Below.refl _ _).alloc (Nat.le_refl _) _
        have RY := Lib.hid (hR.below gY)
        have NB := Lib.hid (show ¬ G bx by rw [← hbx]; exact hR.box)
        have i1 : (j : Int) < (n1 : Int) := by omega
        have jb : (j : Int) ≤ 1599289640354 := by have := HC.out; omega
        have HLT := Lib.hid hlt
        have KY := Lib.hid (hK.below gY)
        have KK := Lib.hid hKK
        have KJ := Lib.hid hKj
        have NK := Lib.hid (show u8.ownBlock ≠ some bx from fun e => by have := (hK.lt e).2; omega)
        clear hx hR gY hlt hY hbx hj hK hKK hKj
        go_upto_region 8 with fail
        rw [HY.out, HBX.out]
        clear q0 q1 q2 q3 q4 q5 q6 HY HBX
        by_cases k0 : x.kind = 0
        · have CN := Lib.hid (RY.out.note x.tx HT.out x.x ⟨HO.out.x.lo, HO.out.x.tb⟩)
          have QN := Lib.hid (KK.out.note RY.out.inv.1 x HO.out)
          have XX := Lib.hid (rfl : x = x)
          unfold rdV at CN
          obtain ⟨kind, tx, ⟨tb, kd, lo, hi⟩, key⟩ := x
          dsimp only at k0 CN QN HT HO
          subst k0
          have y0 := OY.out.kind
          obtain ⟨s1, s2, s3, s4, s5, s6⟩ := OY.out.cells
          dsimp only at y0 s1 s2 s3 s4 s5 s6
          obtain ⟨q, hq⟩ : ∃ q, noteP m L tx ⟨tb, kd, lo, hi⟩ = q := ⟨_, rfl⟩
          rw [hq] at CN QN
          obtain ⟨z, LV⟩ := q
          dsimp only at CN QN
          clear hq XX
          by_cases hz0 : z = 0
          · subst hz0
            rw [if_pos rfl] at QN
            go_upto_region 11 with (go_at_call 12; go_loud (refine CN.out.mono ?_; rintro e w5 ⟨rfl, G5, t5, g5, o5⟩; have T5 := Lib.hid t5; have O5 := Lib.hid (OY.out.out o5 NB.out); have K5 := Lib.hid (KY.out.turn g5 o5); clear t5 g5 o5))
            clear s1 s2 s3 s4 s5 s6 y0 CN OY KY RY
            have y0 := O5.out.kind
            obtain ⟨s1, s2, s3, s4, s5, s6⟩ := O5.out.cells
            dsimp only at y0 s1 s2 s3 s4 s5 s6
            obtain ⟨W6, hW6⟩ : ∃ W, w5.alloc (.cells #[.int .i64 0, .int .i64 tx, .string tb, .int .i64 kd, .string lo, .string hi, .string key] 33) = W := ⟨_, rfl⟩
            have HW6 := Lib.hid hW6
            have g6 : Below w5.heap.size w5 W6 := by rw [← hW6]; exact below_alloc9 _ _
            have T6 := Lib.hid (T5.out.below g6)
            have K6 := Lib.hid (K5.out.below g6)
            have HS := Lib.hid (show SB W6 (some ⟨w5.heap.size, 0, none⟩) (seO.s * 1) (cellsO [⟨0, tx, ⟨tb, kd, lo, hi⟩, key⟩]) by rw [← hW6]; exact sb_op w5 ⟨0, tx, ⟨tb, kd, lo, hi⟩, key⟩)
            have BB := Lib.hid (show (K.length + 1) * 88 ≤ 140737488355328 ∧ K.length + 1 ≤ maxLen by have := KJ.out; have := HLT.out; have := HC.out; simp only [maxLen]; omega)
            have HZ6 := Lib.hid T6.out.bel.size
            have O6 := Lib.hid (O5.out.below g6)
            clear hW6 g6
            go_upto_region 15 with (at_builtin; rw [HW6.out]; go_loud (refine so_appendL seO_ok (by rfl) (.tmp 54) (.tmp 56) (by rfl) _ (by rfl) K6.out.so w5.heap.size 1 (cellsO [⟨0, tx, ⟨tb, kd, lo, hi⟩, key⟩]) (by rfl) HS.out BB.out.1 BB.out.2 HZ6.out ?_; intro g7 c7 V o7 b7 l7; have P7 := KL.put T6.out K6.out (K' := K ++ [⟨0, tx, ⟨tb, kd, lo, hi⟩, key⟩]) (by rw [cellsO_app, List.length_append]; exact o7) b7 (own_slice _ _ _) l7; have RV := Lib.hid P7.1; have KV := Lib.hid P7.2; have OV := Lib.hid (show OpAt V bx ⟨0, tx, ⟨tb, kd, lo, hi⟩, key⟩ from (b7.block bx O6.out.lt fun e => NK.out e.symm).trans O6.out); clear o7 b7 l7 P7))
            have JV := Lib.hid (show (K ++ [(⟨0, tx, ⟨tb, kd, lo, hi⟩, key⟩ : OpS)]).length ≤ j + 1 by have := KJ.out; simp; omega)
            have QV := Lib.hid QN.out
            obtain ⟨KS, hKS⟩ : ∃ l, K ++ [(⟨0, tx, ⟨tb, kd, lo, hi⟩, key⟩ : OpS)] = l := ⟨_, rfl⟩
            obtain ⟨vk, hvk⟩ : ∃ v, Value.slice (some ⟨g7, 0, none⟩) (K.length + 1) c7 = v := ⟨_, rfl⟩
            rw [hKS] at JV QV KV
            rw [hvk] at KV
            rw [hvk]
            clear hKS hvk QN KJ T5 T6 K5 K6 O5 O6 HS BB HZ6 HW6 NK
            have IV := Lib.hid RV.out.inv
            have CE := Lib.hid (api9.len RV.out.m)
            have i5 : ¬ (m : Int) < (LV.length : Int) := by have := IV.out.2.2.2; omega
            have i5' : decide ((m : Int) < (LV.length : Int)) = false := by simpa using IV.out.2.2.2
            obtain ⟨A8, c8, e8, hs8, -⟩ := KV.out.so.form
            have S8 := Lib.hid (show SB V A8 (7 * KS.length) (cellsO KS) from hs8)
            have E8 := Lib.hid e8
            subst e8
            clear hs8
            go_upto_region 17 with (go_at_call 23; go_loud (refine CE.out.mono ?_; rintro e w15 ⟨rfl, b15⟩; have B15 := Lib.hid b15; clear b15))
            clear CE i5 i5'
            go_upto_region 18 with fail
            have KB := Lib.hid (show (KS.length : Int) ≤ 1599289640354 by have := JV.out; have := HLT.out; have := HC.out; omega)
            go_loopw [74] (fun i wr => ∃ (q : Nat), i = .int .i64 (q : Nat) ∧ q ≤ KS.length ∧ Below V.heap.size V wr) (fun i _ => KS.length - (intOf i).toNat)
            case atStart => exact ⟨0, rfl, Nat.zero_le _, B15.out⟩
            case round =>
              rename World => wx
              clear B15
              obtain ⟨q, rfl, hq, hB⟩ := hrel
              by_cases hql : q < KS.length
              · obtain ⟨y, hy⟩ : ∃ y, KS[q]? = some y := ⟨_, List.getElem?_eq_getElem hql⟩
                obtain ⟨ab2, ao2, rfl, p0, p1, p2, p3, p4, p5, p6⟩ := (S8.out.gw hB).op hy
                obtain ⟨by2, hby⟩ : ∃ by2, wx.heap.size = by2 := ⟨_, rfl⟩
                obtain ⟨Z, hZ⟩ : ∃ Z, wx.alloc (.cells #[.int .i64 y.kind, .int .i64 y.tx, .string y.x.tb, .int .i64 y.x.kd, .string y.x.lo, .string y.x.hi, .string y.key] 33) = Z := ⟨_, rfl⟩
                have HZ := Lib.hid hZ
                have HBY := Lib.hid hby
                have OZ := Lib.hid (show OpAt Z by2 y by rw [← hZ, ← hby]; exact OpAt.new wx y)
                have gZ : Below wx.heap.size wx Z := by rw [← hZ]; exact (Below.refl _ _).alloc (Nat.le_refl _) _
                have BZ := Lib.hid (below_next hB gZ)
                have YI := Lib.hid (QV.out.is y (List.mem_of_getElem? hy)).1
                have YR := Lib.hid (fun t ht => QV.out.read (List.mem_of_getElem? hy) key t ht)
                have i6 : (q : Int) < (KS.length : Int) := by omega
                have l6 : (q : Int) ≤ 1599289640354 := by have := KB.out; omega
                have HQL := Lib.hid hql
                clear hB hq hql hy gZ hZ hby
                go_upto_region 20 with fail
                rw [HZ.out, HBY.out]
                clear p0 p1 p2 p3 p4 p5 p6 HZ HBY
                have CI := Lib.hid (wInner Z y.x key)
                have NI := Lib.hid (inner_len y.x key)
                have SI := Lib.hid (inner_sz YI.out.x.lo HO.out.key)
                unfold rdV at CI
                obtain ⟨ykind, ytx, ⟨ytb, ykd, ylo, yhi⟩, ykey⟩ := y
                dsimp only at CI YR YI NI SI
                obtain ⟨li, hli⟩ : ∃ l, innerP ⟨ytb, ykd, ylo, yhi⟩ key = l := ⟨_, rfl⟩
                rw [hli] at CI YR NI SI
                obtain ⟨z1', z2, z3, z4, z5, z6⟩ := OZ.out.cells
                dsimp only at z1' z2 z3 z4 z5 z6
                have x6 := ((OV.out.below BZ.out).cells).2.2.2.2.2
                dsimp only at x6
                clear hli
                go_upto_region 21 with (go_at_call 24; go_loud (refine CI.out.mono ?_; rintro e w20 ⟨v20, rfl, ⟨A20, c20, hv20, hs20⟩, b20⟩; subst hv20; have S20 := Lib.hid hs20; have B20 := Lib.hid (below_next BZ.out b20); have O20 := Lib.hid (OZ.out.below b20); clear hs20 b20))
                clear z1' z2 z3 z4 z5 z6 x6 CI OZ BZ
                go_loopw [84] (fun i wr => ∃ (k : Nat), i = .int .i64 (k : Nat) ∧ k ≤ li.length ∧ Below w20.heap.size w20 wr) (fun i _ => li.length - (intOf i).toNat)
                case atStart => exact ⟨0, rfl, Nat.zero_le _, Below.refl _ _⟩
                case round =>
                  rename World => wz
                  obtain ⟨k, rfl, hk, hB⟩ := hrel
                  by_cases hkl : k < li.length
                  · obtain ⟨t, ht⟩ : ∃ t, li[k]? = some t := ⟨_, List.getElem?_eq_getElem hkl⟩
                    obtain ⟨g20, o20, rfl, u0⟩ := (S20.out.gw hB).at_ (strC_at ht)
                    have Rz := Lib.hid (RV.out.below (below_next B20.out hB))
                    have HM2 := Lib.hid (YR.out t (List.mem_of_getElem? ht))
                    have CP := Lib.hid (fun W (g : Below wz.heap.size wz W) => api9.readers (Rz.out.below g).m ytb t YI.out.x.tb (SI.out t (List.mem_of_getElem? ht)))
                    have HL := Lib.hid (show (txP LV fun n => hasP n.2 ytb t).length ≤ 10000000 by have := txP_le LV (fun n => hasP n.2 ytb t); have := IV.out.2.1; omega)
                    obtain ⟨l, hl⟩ : ∃ l, (txP LV fun n => hasP n.2 ytb t) = l := ⟨_, rfl⟩
                    rw [hl] at CP HL HM2
                    have i7 : (k : Int) < (li.length : Int) := by omega
                    have l7 : (k : Int) ≤ 10 := by have := NI.out; omega
                    have HKL := Lib.hid hkl
                    have HB := Lib.hid hB
                    have S0 : wz.cell? ⟨by2, 1, none⟩ = some (.int .i64 ytx) ∧ wz.cell? ⟨by2, 2, none⟩ = some (.string ytb) := ⟨(O20.out.below hB).cells.1, (O20.out.below hB).cells.2.1⟩
                    have SK := Lib.hid (fun (W' : World) (hb : Below wz.heap.size wz W') => (⟨keep_below S0.1 hb, keep_below S0.2 hb⟩ : W'.cell? ⟨by2, 1, none⟩ = some (.int .i64 ytx) ∧ W'.cell? ⟨by2, 2, none⟩ = some (.string ytb)))
                    clear hk hB hkl ht hl
                    go_upto_region 23 with fail
                    go_region_held3 (fun w' => w'.cell? ⟨by2, 1, none⟩ = some (.int .i64 ytx) ∧ w'.cell? ⟨by2, 2, none⟩ = some (.string ytb))
                      (first | exact S0 | exact SA | exact SB)
                      (first
                        | (go_at_call 21; go_loud (refine (CP.out _ (Below.refl wz.heap.size wz).drew).mono ?_; rintro e w23 ⟨v23, rfl, o23, g23⟩; obtain ⟨A23, c23, hv23, hs23⟩ := o23.num rfl; subst hv23; have S23 := Lib.hid hs23; have G23 := Lib.hid ((Below.refl wz.heap.size wz).drew.trans g23); have SA := SK.out w23 G23.out; clear g23 o23 hs23))
                        | (go_at_call 25; go_loud (refine (wcontainsN S23.out HL.out ytx).mono ?_; rintro e w24 ⟨he24, g24⟩; rw [decide_eq_true HM2.out] at he24; subst he24; have G24 := Lib.hid (below_next G23.out g24); have SB := SK.out w24 G24.out; clear g24)))
                    all_goals
                      go_wp2
                      go_roundw
                      case rel => exact ⟨k + 1, by go_num, HKL.out, below_next HB.out G24.out⟩
                      case measure => have := HKL.out; simp [intOf]; omega
                  · obtain rfl : k = li.length := by omega
                    have i7 : ¬ (li.length : Int) < (li.length : Int) := by omega
                    have HB := Lib.hid (below_next B20.out hB)
                    clear hk hB hkl
                    go_wp2
                    go_roundw
                    case rel => first | exact ⟨q + 1, by go_num, HQL.out, HB.out⟩ | exact ⟨_, _, _, _, ⟨q + 1, by go_num, HQL.out, HB.out⟩, rfl, rfl, rfl, rfl⟩
                    case measure => have := HQL.out; simp [intOf]; omega
              · obtain rfl : q = KS.length := by omega
                have i6 : ¬ (KS.length : Int) < (KS.length : Int) := by omega
                have HB := Lib.hid hB
                clear hB hql hq
                go_wp2
                go_roundw
                case rel => exact ⟨j + 1, _, _, _, by go_num, HLT.out, JV.out, RV.out.below HB.out, KV.out.below HB.out, QV.out⟩
                case measure => have := HLT.out; simp [intOf]; omega
          · rw [if_neg hz0] at QN
            have hz0' : (z == 0) = false := by simpa using hz0
            go_upto_region 15 with (go_at_call 12; go_loud (refine CN.out.mono ?_; rintro e V ⟨rfl, G5, t5, g5, o5⟩; have RV := Lib.hid t5; have OV := Lib.hid (OY.out.out o5 NB.out); have KV := Lib.hid (KY.out.turn g5 o5); clear t5 g5 o5))
            clear s1 s2 s3 s4 s5 s6 y0 CN OY KY RY hz0 hz0'
            have JV := Lib.hid (show K.length ≤ j + 1 by have := KJ.out; omega)
            have QV := QN
            obtain ⟨KS, hKS⟩ : ∃ l, K = l := ⟨_, rfl⟩
            rw [hKS] at JV QV KV
            clear hKS QN KJ NK
            have IV := Lib.hid RV.out.inv
            have CE := Lib.hid (api9.len RV.out.m)
            have i5 : ¬ (m : Int) < (LV.length : Int) := by have := IV.out.2.2.2; omega
            have i5' : decide ((m : Int) < (LV.length : Int)) = false := by simpa using IV.out.2.2.2
            obtain ⟨A8, c8, e8, hs8, -⟩ := KV.out.so.form
            have S8 := Lib.hid (show SB V A8 (7 * KS.length) (cellsO KS) from hs8)
            have E8 := Lib.hid e8
            subst e8
            clear hs8
            go_upto_region 17 with (go_at_call 23; go_loud (refine CE.out.mono ?_; rintro e w15 ⟨rfl, b15⟩; have B15 := Lib.hid b15; clear b15))
            clear CE i5 i5'
            go_upto_region 18 with fail
            have KB := Lib.hid (show (KS.length : Int) ≤ 1599289640354 by have := JV.out; have := HLT.out; have := HC.out; omega)
            go_loopw [74] (fun i wr => ∃ (q : Nat), i = .int .i64 (q : Nat) ∧ q ≤ KS.length ∧ Below V.heap.size V wr) (fun i _ => KS.length - (intOf i).toNat)
            case atStart => exact ⟨0, rfl, Nat.zero_le _, B15.out⟩
            case round =>
              rename World => wx
              clear B15
              obtain ⟨q, rfl, hq, hB⟩ := hrel
              by_cases hql : q < KS.length
              · obtain ⟨y, hy⟩ : ∃ y, KS[q]? = some y := ⟨_, List.getElem?_eq_getElem hql⟩
                obtain ⟨ab2, ao2, rfl, p0, p1, p2, p3, p4, p5, p6⟩ := (S8.out.gw hB).op hy
                obtain ⟨by2, hby⟩ : ∃ by2, wx.heap.size = by2 := ⟨_, rfl⟩
                obtain ⟨Z, hZ⟩ : ∃ Z, wx.alloc (.cells #[.int .i64 y.kind, .int .i64 y.tx, .string y.x.tb, .int .i64 y.x.kd, .string y.x.lo, .string y.x.hi, .string y.key] 33) = Z := ⟨_, rfl⟩
                have HZ := Lib.hid hZ
                have HBY := Lib.hid hby
                have OZ := Lib.hid (show OpAt Z by2 y by rw [← hZ, ← hby]; exact OpAt.new wx y)
                have gZ : Below wx.heap.size wx Z := by rw [← hZ]; exact (Below.refl _ _).alloc (Nat.le_refl _) _
                have BZ := Lib.hid (below_next hB gZ)
                have YI := Lib.hid (QV.out.is y (List.mem_of_getElem? hy)).1
                have YR := Lib.hid (fun t ht => QV.out.read (List.mem_of_getElem? hy) key t ht)
                have i6 : (q : Int) < (KS.length : Int) := by omega
                have l6 : (q : Int) ≤ 1599289640354 := by have := KB.out; omega
                have HQL := Lib.hid hql
                clear hB hq hql hy gZ hZ hby
                go_upto_region 20 with fail
                rw [HZ.out, HBY.out]
                clear p0 p1 p2 p3 p4 p5 p6 HZ HBY
                have CI := Lib.hid (wInner Z y.x key)
                have NI := Lib.hid (inner_len y.x key)
                have SI := Lib.hid (inner_sz YI.out.x.lo HO.out.key)
                unfold rdV at CI
                obtain ⟨ykind, ytx, ⟨ytb, ykd, ylo, yhi⟩, ykey⟩ := y
                dsimp only at CI YR YI NI SI
                obtain ⟨li, hli⟩ : ∃ l, innerP ⟨ytb, ykd, ylo, yhi⟩ key = l := ⟨_, rfl⟩
                rw [hli] at CI YR NI SI
                obtain ⟨z1', z2, z3, z4, z5, z6⟩ := OZ.out.cells
                dsimp only at z1' z2 z3 z4 z5 z6
                have x6 := ((OV.out.below BZ.out).cells).2.2.2.2.2
                dsimp only at x6
                clear hli
                go_upto_region 21 with (go_at_call 24; go_loud (refine CI.out.mono ?_; rintro e w20 ⟨v20, rfl, ⟨A20, c20, hv20, hs20⟩, b20⟩; subst hv20; have S20 := Lib.hid hs20; have B20 := Lib.hid (below_next BZ.out b20); have O20 := Lib.hid (OZ.out.below b20); clear hs20 b20))
                clear z1' z2 z3 z4 z5 z6 x6 CI OZ BZ
                go_loopw [84] (fun i wr => ∃ (k : Nat), i = .int .i64 (k : Nat) ∧ k ≤ li.length ∧ Below w20.heap.size w20 wr) (fun i _ => li.length - (intOf i).toNat)
                case atStart => exact ⟨0, rfl, Nat.zero_le _, Below.refl _ _⟩
                case round =>
                  rename World => wz
                  obtain ⟨k, rfl, hk, hB⟩ := hrel
                  by_cases hkl : k < li.length
                  · obtain ⟨t, ht⟩ : ∃ t, li[k]? = some t := ⟨_, List.getElem?_eq_getElem hkl⟩
                    obtain ⟨g20, o20, rfl, u0⟩ := (S20.out.gw hB).at_ (strC_at ht)
                    have Rz := Lib.hid (RV.out.below (below_next B20.out hB))
                    have HM2 := Lib.hid (YR.out t (List.mem_of_getElem? ht))
                    have CP := Lib.hid (fun W (g : Below wz.heap.size wz W) => api9.readers (Rz.out.below g).m ytb t YI.out.x.tb (SI.out t (List.mem_of_getElem? ht)))
                    have HL := Lib.hid (show (txP LV fun n => hasP n.2 ytb t).length ≤ 10000000 by have := txP_le LV (fun n => hasP n.2 ytb t); have := IV.out.2.1; omega)
                    obtain ⟨l, hl⟩ : ∃ l, (txP LV fun n => hasP n.2 ytb t) = l := ⟨_, rfl⟩
                    rw [hl] at CP HL HM2
                    have i7 : (k : Int) < (li.length : Int) := by omega
                    have l7 : (k : Int) ≤ 10 := by have := NI.out; omega
                    have HKL := Lib.hid hkl
                    have HB := Lib.hid hB
                    have S0 : wz.cell? ⟨by2, 1, none⟩ = some (.int .i64 ytx) ∧ wz.cell? ⟨by2, 2, none⟩ = some (.string ytb) := ⟨(O20.out.below hB).cells.1, (O20.out.below hB).cells.2.1⟩
                    have SK := Lib.hid (fun (W' : World) (hb : Below wz.heap.size wz W') => (⟨keep_below S0.1 hb, keep_below S0.2 hb⟩ : W'.cell? ⟨by2, 1, none⟩ = some (.int .i64 ytx) ∧ W'.cell? ⟨by2, 2, none⟩ = some (.string ytb)))
                    clear hk hB hkl ht hl
                    go_upto_region 23 with fail
                    go_region_held3 (fun w' => w'.cell? ⟨by2, 1, none⟩ = some (.int .i64 ytx) ∧ w'.cell? ⟨by2, 2, none⟩ = some (.string ytb))
                      (first | exact S0 | exact SA | exact SB)
                      (first
                        | (go_at_call 21; go_loud (refine (CP.out _ (Below.refl wz.heap.size wz).drew).mono ?_; rintro e w23 ⟨v23, rfl, o23, g23⟩; obtain ⟨A23, c23, hv23, hs23⟩ := o23.num rfl; subst hv23; have S23 := Lib.hid hs23; have G23 := Lib.hid ((Below.refl wz.heap.size wz).drew.trans g23); have SA := SK.out w23 G23.out; clear g23 o23 hs23))
                        | (go_at_call 25; go_loud (refine (wcontainsN S23.out HL.out ytx).mono ?_; rintro e w24 ⟨he24, g24⟩; rw [decide_eq_true HM2.out] at he24; subst he24; have G24 := Lib.hid (below_next G23.out g24); have SB := SK.out w24 G24.out; clear g24)))
                    all_goals
                      go_wp2
                      go_roundw
                      case rel => exact ⟨k + 1, by go_num, HKL.out, below_next HB.out G24.out⟩
                      case measure => have := HKL.out; simp [intOf]; omega
                  · obtain rfl : k = li.length := by omega
                    have i7 : ¬ (li.length : Int) < (li.length : Int) := by omega
                    have HB := Lib.hid (below_next B20.out hB)
                    clear hk hB hkl
                    go_wp2
                    go_roundw
                    case rel => first | exact ⟨q + 1, by go_num, HQL.out, HB.out⟩ | exact ⟨_, _, _, _, ⟨q + 1, by go_num, HQL.out, HB.out⟩, rfl, rfl, rfl, rfl⟩
                    case measure => have := HQL.out; simp [intOf]; omega
              · obtain rfl : q = KS.length := by omega
                have i6 : ¬ (KS.length : Int) < (KS.length : Int) := by omega
                have HB := Lib.hid hB
                clear hB hql hq
                go_wp2
                go_roundw
                case rel => exact ⟨j + 1, _, _, _, by go_num, HLT.out, JV.out, RV.out.below HB.out, KV.out.below HB.out, QV.out⟩
                case measure => have := HLT.out; simp [intOf]; omega
        · by_cases k1 : x.kind = 1
          · have CD := Lib.hid (RY.out.drop x.tx HT.out)
            have QN := Lib.hid (KK.out.drop x.tx)
            obtain ⟨kind, tx, ⟨tb, kd, lo, hi⟩, key⟩ := x
            dsimp only at k0 k1 CD QN HT HO
            subst k1
            have y0 := OY.out.kind
            obtain ⟨s1, s2, s3, s4, s5, s6⟩ := OY.out.cells
            dsimp only at y0 s1 s2 s3 s4 s5 s6
            obtain ⟨LV, hLV⟩ : ∃ q, (if tx < 1 then L else dropP L tx) = q := ⟨_, rfl⟩
            obtain ⟨z, hz⟩ : ∃ z : Int, (if tx < 1 then 1 else 0) = z := ⟨_, rfl⟩
            simp only [hLV, hz] at CD QN
            clear hLV hz
            go_upto_region 14 with (go_at_call 14; go_loud (refine CD.out.mono ?_; rintro e w5 ⟨rfl, G5, t5, g5, o5⟩; have T5 := Lib.hid t5; have O5 := Lib.hid (OY.out.out o5 NB.out); have K5 := Lib.hid (KY.out.turn g5 o5); clear t5 g5 o5))
            clear s1 s2 s3 s4 s5 s6 y0 CD OY KY RY
            have y0 := O5.out.kind
            obtain ⟨s1, s2, s3, s4, s5, s6⟩ := O5.out.cells
            dsimp only at y0 s1 s2 s3 s4 s5 s6
            obtain ⟨A5, c5, e5, hs5, -⟩ := K5.out.so.form
            have CW := Lib.hid (wWithout (c := c5) (show SB w5 A5 (7 * K.length) (cellsO K) from hs5) (by have := KJ.out; have := HLT.out; have := HC.out; omega) tx)
            subst e5
            clear hs5
            go_upto_region 15 with (go_at_call 22; go_loud (refine CW.out.mono ?_; rintro e V ⟨vk, rfl, o6, b6⟩; have RV := Lib.hid (T5.out.below b6); have OV := Lib.hid (O5.out.below b6); have KV := Lib.hid (KL.made T5.out o6); clear o6 b6))
            clear s1 s2 s3 s4 s5 s6 y0 CW T5 O5 K5
            have JV := Lib.hid (show (K.filter (notTx tx)).length ≤ j + 1 by have := KJ.out; have := List.length_filter_le (notTx tx) K; omega)
            have QV := QN
            obtain ⟨KS, hKS⟩ : ∃ l, K.filter (notTx tx) = l := ⟨_, rfl⟩
            rw [hKS] at JV QV KV
            clear hKS QN KJ NK k0
            have IV := Lib.hid RV.out.inv
            have CE := Lib.hid (api9.len RV.out.m)
            have i5 : ¬ (m : Int) < (LV.length : Int) := by have := IV.out.2.2.2; omega
            have i5' : decide ((m : Int) < (LV.length : Int)) = false := by simpa using IV.out.2.2.2
            obtain ⟨A8, c8, e8, hs8, -⟩ := KV.out.so.form
            have S8 := Lib.hid (show SB V A8 (7 * KS.length) (cellsO KS) from hs8)
            have E8 := Lib.hid e8
            subst e8
            clear hs8
            go_upto_region 17 with (go_at_call 23; go_loud (refine CE.out.mono ?_; rintro e w15 ⟨rfl, b15⟩; have B15 := Lib.hid b15; clear b15))
            clear CE i5 i5'
            go_upto_region 18 with fail
            have KB := Lib.hid (show (KS.length : Int) ≤ 1599289640354 by have := JV.out; have := HLT.out; have := HC.out; omega)
            go_loopw [74] (fun i wr => ∃ (q : Nat), i = .int .i64 (q : Nat) ∧ q ≤ KS.length ∧ Below V.heap.size V wr) (fun i _ => KS.length - (intOf i).toNat)
            case atStart => exact ⟨0, rfl, Nat.zero_le _, B15.out⟩
            case round =>
              rename World => wx
              clear B15
              obtain ⟨q, rfl, hq, hB⟩ := hrel
              by_cases hql : q < KS.length
              · obtain ⟨y, hy⟩ : ∃ y, KS[q]? = some y := ⟨_, List.getElem?_eq_getElem hql⟩
                obtain ⟨ab2, ao2, rfl, p0, p1, p2, p3, p4, p5, p6⟩ := (S8.out.gw hB).op hy
                obtain ⟨by2, hby⟩ : ∃ by2, wx.heap.size = by2 := ⟨_, rfl⟩
                obtain ⟨Z, hZ⟩ : ∃ Z, wx.alloc (.cells #[.int .i64 y.kind, .int .i64 y.tx, .string y.x.tb, .int .i64 y.x.kd, .string y.x.lo, .string y.x.hi, .string y.key] 33) = Z := ⟨_, rfl⟩
                have HZ := Lib.hid hZ
                have HBY := Lib.hid hby
                have OZ := Lib.hid (show OpAt Z by2 y by rw [← hZ, ← hby]; exact OpAt.new wx y)
                have gZ : Below wx.heap.size wx Z := by rw [← hZ]; exact (Below.refl _ _).alloc (Nat.le_refl _) _
                have BZ := Lib.hid (below_next hB gZ)
                have YI := Lib.hid (QV.out.is y (List.mem_of_getElem? hy)).1
                have YR := Lib.hid (fun t ht => QV.out.read (List.mem_of_getElem? hy) key t ht)
                have i6 : (q : Int) < (KS.length : Int) := by omega
                have l6 : (q : Int) ≤ 1599289640354 := by have := KB.out; omega
                have HQL := Lib.hid hql
                clear hB hq hql hy gZ hZ hby
                go_upto_region 20 with fail
                rw [HZ.out, HBY.out]
                clear p0 p1 p2 p3 p4 p5 p6 HZ HBY
                have CI := Lib.hid (wInner Z y.x key)
                have NI := Lib.hid (inner_len y.x key)
                have SI := Lib.hid (inner_sz YI.out.x.lo HO.out.key)
                unfold rdV at CI
                obtain ⟨ykind, ytx, ⟨ytb, ykd, ylo, yhi⟩, ykey⟩ := y
                dsimp only at CI YR YI NI SI
                obtain ⟨li, hli⟩ : ∃ l, innerP ⟨ytb, ykd, ylo, yhi⟩ key = l := ⟨_, rfl⟩
                rw [hli] at CI YR NI SI
                obtain ⟨z1', z2, z3, z4, z5, z6⟩ := OZ.out.cells
                dsimp only at z1' z2 z3 z4 z5 z6
                have x6 := ((OV.out.below BZ.out).cells).2.2.2.2.2
                dsimp only at x6
                clear hli
                go_upto_region 21 with (go_at_call 24; go_loud (refine CI.out.mono ?_; rintro e w20 ⟨v20, rfl, ⟨A20, c20, hv20, hs20⟩, b20⟩; subst hv20; have S20 := Lib.hid hs20; have B20 := Lib.hid (below_next BZ.out b20); have O20 := Lib.hid (OZ.out.below b20); clear hs20 b20))
                clear z1' z2 z3 z4 z5 z6 x6 CI OZ BZ
                go_loopw [84] (fun i wr => ∃ (k : Nat), i = .int .i64 (k : Nat) ∧ k ≤ li.length ∧ Below w20.heap.size w20 wr) (fun i _ => li.length - (intOf i).toNat)
                case atStart => exact ⟨0, rfl, Nat.zero_le _, Below.refl _ _⟩
                case round =>
                  rename World => wz
                  obtain ⟨k, rfl, hk, hB⟩ := hrel
                  by_cases hkl : k < li.length
                  · obtain ⟨t, ht⟩ : ∃ t, li[k]? = some t := ⟨_, List.getElem?_eq_getElem hkl⟩
                    obtain ⟨g20, o20, rfl, u0⟩ := (S20.out.gw hB).at_ (strC_at ht)
                    have Rz := Lib.hid (RV.out.below (below_next B20.out hB))
                    have HM2 := Lib.hid (YR.out t (List.mem_of_getElem? ht))
                    have CP := Lib.hid (fun W (g : Below wz.heap.size wz W) => api9.readers (Rz.out.below g).m ytb t YI.out.x.tb (SI.out t (List.mem_of_getElem? ht)))
                    have HL := Lib.hid (show (txP LV fun n => hasP n.2 ytb t).length ≤ 10000000 by have := txP_le LV (fun n => hasP n.2 ytb t); have := IV.out.2.1; omega)
                    obtain ⟨l, hl⟩ : ∃ l, (txP LV fun n => hasP n.2 ytb t) = l := ⟨_, rfl⟩
                    rw [hl] at CP HL HM2
                    have i7 : (k : Int) < (li.length : Int) := by omega
                    have l7 : (k : Int) ≤ 10 := by have := NI.out; omega
                    have HKL := Lib.hid hkl
                    have HB := Lib.hid hB
                    have S0 : wz.cell? ⟨by2, 1, none⟩ = some (.int .i64 ytx) ∧ wz.cell? ⟨by2, 2, none⟩ = some (.string ytb) := ⟨(O20.out.below hB).cells.1, (O20.out.below hB).cells.2.1⟩
                    have SK := Lib.hid (fun (W' : World) (hb : Below wz.heap.size wz W') => (⟨keep_below S0.1 hb, keep_below S0.2 hb⟩ : W'.cell? ⟨by2, 1, none⟩ = some (.int .i64 ytx) ∧ W'.cell? ⟨by2, 2, none⟩ = some (.string ytb)))
                    clear hk hB hkl ht hl
                    go_upto_region 23 with fail
                    go_region_held3 (fun w' => w'.cell? ⟨by2, 1, none⟩ = some (.int .i64 ytx) ∧ w'.cell? ⟨by2, 2, none⟩ = some (.string ytb))
                      (first | exact S0 | exact SA | exact SB)
                      (first
                        | (go_at_call 21; go_loud (refine (CP.out _ (Below.refl wz.heap.size wz).drew).mono ?_; rintro e w23 ⟨v23, rfl, o23, g23⟩; obtain ⟨A23, c23, hv23, hs23⟩ := o23.num rfl; subst hv23; have S23 := Lib.hid hs23; have G23 := Lib.hid ((Below.refl wz.heap.size wz).drew.trans g23); have SA := SK.out w23 G23.out; clear g23 o23 hs23))
                        | (go_at_call 25; go_loud (refine (wcontainsN S23.out HL.out ytx).mono ?_; rintro e w24 ⟨he24, g24⟩; rw [decide_eq_true HM2.out] at he24; subst he24; have G24 := Lib.hid (below_next G23.out g24); have SB := SK.out w24 G24.out; clear g24)))
                    all_goals
                      go_wp2
                      go_roundw
                      case rel => exact ⟨k + 1, by go_num, HKL.out, below_next HB.out G24.out⟩
                      case measure => have := HKL.out; simp [intOf]; omega
                  · obtain rfl : k = li.length := by omega
                    have i7 : ¬ (li.length : Int) < (li.length : Int) := by omega
                    have HB := Lib.hid (below_next B20.out hB)
                    clear hk hB hkl
                    go_wp2
                    go_roundw
                    case rel => first | exact ⟨q + 1, by go_num, HQL.out, HB.out⟩ | exact ⟨_, _, _, _, ⟨q + 1, by go_num, HQL.out, HB.out⟩, rfl, rfl, rfl, rfl⟩
                    case measure => have := HQL.out; simp [intOf]; omega
              · obtain rfl : q = KS.length := by omega
                have i6 : ¬ (KS.length : Int) < (KS.length : Int) := by omega
                have HB := Lib.hid hB
                clear hB hql hq
                go_wp2
                go_roundw
                case rel => exact ⟨j + 1, _, _, _, by go_num, HLT.out, JV.out, RV.out.below HB.out, KV.out.below HB.out, QV.out⟩
                case measure => have := HLT.out; simp [intOf]; omega
          · obtain ⟨kind, tx, ⟨tb, kd, lo, hi⟩, key⟩ := x
            dsimp only at k0 k1 HT HO
            have k0' : (kind == 0) = false := by simpa using k0
            have k1' : (kind == 1) = false := by simpa using k1
            have y0 := OY.out.kind
            dsimp only at y0
            clear k0 k1
            go_upto_region 15 with fail
            have JV := Lib.hid (show K.length ≤ j + 1 by have := KJ.out; omega)
            have QV := KK
            have RV := RY
            have OV := OY
            have KV := KY
            obtain ⟨V, hV⟩ : ∃ V, Y = V := ⟨_, rfl⟩
            obtain ⟨LV, hLV⟩ : ∃ V, L = V := ⟨_, rfl⟩
            obtain ⟨KS, hKS⟩ : ∃ l, K = l := ⟨_, rfl⟩
            rw [hV] at RV OV KV
            rw [hLV] at RV QV
            rw [hKS] at JV QV KV
            rw [hV]
            clear hV hLV hKS RY OY KY KK KJ NK y0 k0' k1'
            have IV := Lib.hid RV.out.inv
            have CE := Lib.hid (api9.len RV.out.m)
            have i5 : ¬ (m : Int) < (LV.length : Int) := by have := IV.out.2.2.2; omega
            have i5' : decide ((m : Int) < (LV.length : Int)) = false := by simpa using IV.out.2.2.2
            obtain ⟨A8, c8, e8, hs8, -⟩ := KV.out.so.form
            have S8 := Lib.hid (show SB V A8 (7 * KS.length) (cellsO KS) from hs8)
            have E8 := Lib.hid e8
            subst e8
            clear hs8
            go_upto_region 17 with (go_at_call 23; go_loud (refine CE.out.mono ?_; rintro e w15 ⟨rfl, b15⟩; have B15 := Lib.hid b15; clear b15))
            clear CE i5 i5'
            go_upto_region 18 with fail
            have KB := Lib.hid (show (KS.length : Int) ≤ 1599289640354 by have := JV.out; have := HLT.out; have := HC.out; omega)
            go_loopw [74] (fun i wr => ∃ (q : Nat), i = .int .i64 (q : Nat) ∧ q ≤ KS.length ∧ Below V.heap.size V wr) (fun i _ => KS.length - (intOf i).toNat)
            case atStart => exact ⟨0, rfl, Nat.zero_le _, B15.out⟩
            case round =>
              rename World => wx
              clear B15
              obtain ⟨q, rfl, hq, hB⟩ := hrel
              by_cases hql : q < KS.length
              · obtain ⟨y, hy⟩ : ∃ y, KS[q]? = some y := ⟨_, List.getElem?_eq_getElem hql⟩
                obtain ⟨ab2, ao2, rfl, p0, p1, p2, p3, p4, p5, p6⟩ := (S8.out.gw hB).op hy
                obtain ⟨by2, hby⟩ : ∃ by2, wx.heap.size = by2 := ⟨_, rfl⟩
                obtain ⟨Z, hZ⟩ : ∃ Z, wx.alloc (.cells #[.int .i64 y.kind, .int .i64 y.tx, .string y.x.tb, .int .i64 y.x.kd, .string y.x.lo, .string y.x.hi, .string y.key] 33) = Z := ⟨_, rfl⟩
                have HZ := Lib.hid hZ
                have HBY := Lib.hid hby
                have OZ := Lib.hid (show OpAt Z by2 y by rw [← hZ, ← hby]; exact OpAt.new wx y)
                have gZ : Below wx.heap.size wx Z := by rw [← hZ]; exact (Below.refl _ _).alloc (Nat.le_refl _) _
                have BZ := Lib.hid (below_next hB gZ)
                have YI := Lib.hid (QV.out.is y (List.mem_of_getElem? hy)).1
                have YR := Lib.hid (fun t ht => QV.out.read (List.mem_of_getElem? hy) key t ht)
                have i6 : (q : Int) < (KS.length : Int) := by omega
                have l6 : (q : Int) ≤ 1599289640354 := by have := KB.out; omega
                have HQL := Lib.hid hql
                clear hB hq hql hy gZ hZ hby
                go_upto_region 20 with fail
                rw [HZ.out, HBY.out]
                clear p0 p1 p2 p3 p4 p5 p6 HZ HBY
                have CI := Lib.hid (wInner Z y.x key)
                have NI := Lib.hid (inner_len y.x key)
                have SI := Lib.hid (inner_sz YI.out.x.lo HO.out.key)
                unfold rdV at CI
                obtain ⟨ykind, ytx, ⟨ytb, ykd, ylo, yhi⟩, ykey⟩ := y
                dsimp only at CI YR YI NI SI
                obtain ⟨li, hli⟩ : ∃ l, innerP ⟨ytb, ykd, ylo, yhi⟩ key = l := ⟨_, rfl⟩
                rw [hli] at CI YR NI SI
                obtain ⟨z1', z2, z3, z4, z5, z6⟩ := OZ.out.cells
                dsimp only at z1' z2 z3 z4 z5 z6
                have x6 := ((OV.out.below BZ.out).cells).2.2.2.2.2
                dsimp only at x6
                clear hli
                go_upto_region 21 with (go_at_call 24; go_loud (refine CI.out.mono ?_; rintro e w20 ⟨v20, rfl, ⟨A20, c20, hv20, hs20⟩, b20⟩; subst hv20; have S20 := Lib.hid hs20; have B20 := Lib.hid (below_next BZ.out b20); have O20 := Lib.hid (OZ.out.below b20); clear hs20 b20))
                clear z1' z2 z3 z4 z5 z6 x6 CI OZ BZ
                go_loopw [84] (fun i wr => ∃ (k : Nat), i = .int .i64 (k : Nat) ∧ k ≤ li.length ∧ Below w20.heap.size w20 wr) (fun i _ => li.length - (intOf i).toNat)
                case atStart => exact ⟨0, rfl, Nat.zero_le _, Below.refl _ _⟩
                case round =>
                  rename World => wz
                  obtain ⟨k, rfl, hk, hB⟩ := hrel
                  by_cases hkl : k < li.length
                  · obtain ⟨t, ht⟩ : ∃ t, li[k]? = some t := ⟨_, List.getElem?_eq_getElem hkl⟩
                    obtain ⟨g20, o20, rfl, u0⟩ := (S20.out.gw hB).at_ (strC_at ht)
                    have Rz := Lib.hid (RV.out.below (below_next B20.out hB))
                    have HM2 := Lib.hid (YR.out t (List.mem_of_getElem? ht))
                    have CP := Lib.hid (fun W (g : Below wz.heap.size wz W) => api9.readers (Rz.out.below g).m ytb t YI.out.x.tb (SI.out t (List.mem_of_getElem? ht)))
                    have HL := Lib.hid (show (txP LV fun n => hasP n.2 ytb t).length ≤ 10000000 by have := txP_le LV (fun n => hasP n.2 ytb t); have := IV.out.2.1; omega)
                    obtain ⟨l, hl⟩ : ∃ l, (txP LV fun n => hasP n.2 ytb t) = l := ⟨_, rfl⟩
                    rw [hl] at CP HL HM2
                    have i7 : (k : Int) < (li.length : Int) := by omega
                    have l7 : (k : Int) ≤ 10 := by have := NI.out; omega
                    have HKL := Lib.hid hkl
                    have HB := Lib.hid hB
                    have S0 : wz.cell? ⟨by2, 1, none⟩ = some (.int .i64 ytx) ∧ wz.cell? ⟨by2, 2, none⟩ = some (.string ytb) := ⟨(O20.out.below hB).cells.1, (O20.out.below hB).cells.2.1⟩
                    have SK := Lib.hid (fun (W' : World) (hb : Below wz.heap.size wz W') => (⟨keep_below S0.1 hb, keep_below S0.2 hb⟩ : W'.cell? ⟨by2, 1, none⟩ = some (.int .i64 ytx) ∧ W'.cell? ⟨by2, 2, none⟩ = some (.string ytb)))
                    clear hk hB hkl ht hl
                    go_upto_region 23 with fail
                    go_region_held3 (fun w' => w'.cell? ⟨by2, 1, none⟩ = some (.int .i64 ytx) ∧ w'.cell? ⟨by2, 2, none⟩ = some (.string ytb))
                      (first | exact S0 | exact SA | exact SB)
                      (first
                        | (go_at_call 21; go_loud (refine (CP.out _ (Below.refl wz.heap.size wz).drew).mono ?_; rintro e w23 ⟨v23, rfl, o23, g23⟩; obtain ⟨A23, c23, hv23, hs23⟩ := o23.num rfl; subst hv23; have S23 := Lib.hid hs23; have G23 := Lib.hid ((Below.refl wz.heap.size wz).drew.trans g23); have SA := SK.out w23 G23.out; clear g23 o23 hs23))
                        | (go_at_call 25; go_loud (refine (wcontainsN S23.out HL.out ytx).mono ?_; rintro e w24 ⟨he24, g24⟩; rw [decide_eq_true HM2.out] at he24; subst he24; have G24 := Lib.hid (below_next G23.out g24); have SB := SK.out w24 G24.out; clear g24)))
                    all_goals
                      go_wp2
                      go_roundw
                      case rel => exact ⟨k + 1, by go_num, HKL.out, below_next HB.out G24.out⟩
                      case measure => have := HKL.out; simp [intOf]; omega
                  · obtain rfl : k = li.length := by omega
                    have i7 : ¬ (li.length : Int) < (li.length : Int) := by omega
                    have HB := Lib.hid (below_next B20.out hB)
                    clear hk hB hkl
                    go_wp2
                    go_roundw
                    case rel => first | exact ⟨q + 1, by go_num, HQL.out, HB.out⟩ | exact ⟨_, _, _, _, ⟨q + 1, by go_num, HQL.out, HB.out⟩, rfl, rfl, rfl, rfl⟩
                    case measure => have := HQL.out; simp [intOf]; omega
              · obtain rfl : q = KS.length := by omega
                have i6 : ¬ (KS.length : Int) < (KS.length : Int) := by omega
                have HB := Lib.hid hB
                clear hB hql hq
                go_wp2
                go_roundw
                case rel => exact ⟨j + 1, _, _, _, by go_num, HLT.out, JV.out, RV.out.below HB.out, KV.out.below HB.out, QV.out⟩
                case measure => have := HLT.out; simp [intOf]; omega
      · obtain rfl : j = n1 := by omega
        have i1 : ¬ (j : Int) < (j : Int) := by omega
        obtain ⟨A8, c8, e8, hs8, -⟩ := hK.so.form
        have S8 := Lib.hid (show SB wr A8 (7 * K.length) (cellsO K) from hs8)
        have KB := Lib.hid (show (K.length : Int) ≤ 1599289640354 by have := HC.out; omega)
        have QV := Lib.hid hKK
        have R0 := Lib.hid hR
        have K0 := Lib.hid hK
        subst e8
        clear hR hK hKK hs8 hlt hj hKj
        go_upto_region 29 with fail
        go_loopw [103] (fun i wx => ∃ (q : Nat) (Gq : Nat → Prop), i = .int .i64 (q : Nat) ∧ q ≤ K.length ∧ Solo9 w wx Gq r m (leftP K q L) ∧ KL w wx Gq (.slice A8 K.length c8) K) (fun i _ => K.length - (intOf i).toNat)
        case atStart => exact ⟨0, _, rfl, Nat.zero_le _, by rw [left_zero]; exact R0.out, K0.out⟩
        case round =>
          rename World => wx
          clear R0 K0 S8
          obtain ⟨q, Gq, rfl, hq, hR, hK⟩ := hrel
          by_cases hql : q < K.length
          · obtain ⟨y, hy⟩ : ∃ y, K[q]? = some y := ⟨_, List.getElem?_eq_getElem hql⟩
            obtain ⟨A9, c9, e9, hs9, -⟩ := hK.so.form
            simp only [Value.slice.injEq] at e9
            obtain ⟨e9a, -, e9b⟩ := e9
            rw [← e9a] at hs9
            obtain ⟨ab2, ao2, e10, p0, p1, p2, p3, p4, p5, p6⟩ := (show SB wx A8 (7 * K.length) (cellsO K) from hs9).op hy
            obtain ⟨by2, hby⟩ : ∃ by2, wx.heap.size = by2 := ⟨_, rfl⟩
            obtain ⟨Z, hZ⟩ : ∃ Z, wx.alloc (.cells #[.int .i64 y.kind, .int .i64 y.tx, .string y.x.tb, .int .i64 y.x.kd, .string y.x.lo, .string y.x.hi, .string y.key] 33) = Z := ⟨_, rfl⟩
            have HZ := Lib.hid hZ
            have HBY := Lib.hid hby
            have OZ := Lib.hid (show OpAt Z by2 y by rw [← hZ, ← hby]; exact OpAt.new wx y)
            have gZ : Below wx.heap.size wx Z := by rw [← hZ]; exact (Below.refl _ _).alloc (Nat.le_refl _) _
            have RZ := Lib.hid (hR.below gZ)
            have KZ := Lib.hid (hK.below gZ)
            have YI := Lib.hid (QV.out.is y (List.mem_of_getElem? hy)).1
            have LQ := Lib.hid (left_step QV.out hy)
            have i6 : (q : Int) < (K.length : Int) := by omega
            have l6 : (q : Int) ≤ 1599289640354 := by have := KB.out; omega
            have HQL := Lib.hid hql
            have CD := Lib.hid (RZ.out.drop y.tx (wf_of9 YI.out.rt))
            subst e10
            clear hq hql hy gZ hZ hby hR hK hs9 e9a e9b
            go_upto_region 31 with fail
            rw [HZ.out, HBY.out]
            clear p0 p1 p2 p3 p4 p5 p6 HZ HBY
            rw [← LQ.out] at CD
            obtain ⟨z1', z2, z3, z4, z5, z6⟩ := OZ.out.cells
            go_wp2_with (go_at_call 14; go_loud (refine CD.out.mono ?_; rintro e w5 ⟨rfl, G5, t5, g5, o5⟩; have T5 := Lib.hid t5; have K5 := Lib.hid (KZ.out.turn g5 o5); clear t5 g5 o5))
            go_roundw
            case rel => exact ⟨q + 1, _, by go_num, HQL.out, T5.out, K5.out⟩
            case measure => have := HQL.out; simp [intOf]; omega
          · obtain rfl : q = K.length := by omega
            have i6 : ¬ (K.length : Int) < (K.length : Int) := by omega
            rw [left_all QV.out] at hR
            have HR := Lib.hid hR
            have CE := Lib.hid (api9.len hR.m)
            have CX := Lib.hid (fun W (g : Below wx.heap.size wx W) => api9.txns (HR.out.below g).m)
            rw [tx_nil] at CX
            clear hR hK hql hq
            go_wp2_with (first
              | (go_at_call 23; go_loud (refine CE.out.mono ?_; rintro e w5 ⟨rfl, b5⟩; have B5 := Lib.hid b5; clear b5))
              | (go_at_call 26; go_loud (refine (CX.out _ B5.out).mono ?_; rintro e w6 ⟨v6, rfl, o6, b6⟩; obtain ⟨A6, c6, hv6, -⟩ := o6.num rfl; replace hv6 : v6 = .slice A6 0 c6 := hv6; subst hv6; have B6 := Lib.hid (below_next B5.out b6); clear o6 b6)))
            go_ret
            exact ⟨by simp, (HR.out.below B6.out).bel⟩
end Go.Proofs.Ytcpifanhmkblmaa
