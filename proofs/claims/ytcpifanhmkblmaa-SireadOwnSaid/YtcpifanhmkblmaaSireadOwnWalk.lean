/- The walk of SireadOwn: what is answered is nobody's else. -/
import Derived.Test.YtcpifanhmkblmaaSiPlay
import Derived.Test.YtcpifanhmkblmaaSiScrib
namespace Go.Proofs.Ytcpifanhmkblmaa
set_option maxRecDepth 100000
set_option maxRecDepth 100000
open Go.RowKit

set_option maxHeartbeats 16000000 in
theorem walk_SireadOwn (a0 : Int) (A1 : Option Addr) (n1 c1 : Nat) (z1 : List OpS) (w : World) (_ha0 : -9223372036854775808 ≤ a0 ∧ a0 ≤ 9223372036854775807) (h1 : RS w A1 n1 z1) (hn1 : n1 ≤ c1) (hc1 : c1 ≤ 1599289640354) :
    Calls Try.prog 9 #[.int .i64 a0, .slice A1 n1 c1] w fun e w' => e = .returned (.bool true) ∧ Below w.heap.size w w' := by
  clear _ha0
  have CL := Lib.hid (fun W => wlive9 api9 W)
  by_cases hin : capP a0 = false
  · have CB := Lib.hid (fun W => wbegun9_no api9 W a0 hin)
    clear h1 hin
    go_enter Try.func9, Try.ntmps9
    go_wp2_with (first
      | (go_at_call 10; go_loud (refine (CB.out _).mono ?_; rintro e w1 ⟨rfl, b1⟩; have B1 := Lib.hid b1; clear b1))
      | (go_at_call 11; go_loud (refine (CL.out _).mono ?_; rintro e w2 ⟨rfl, b2⟩; have B2 := Lib.hid b2; clear b2)))
    go_ret
    exact ⟨rfl, below_next (B1.out.alloc B1.out.size _) B2.out⟩
  · obtain ⟨m, rfl, m1, m2⟩ := cap_nat hin
    have CB := Lib.hid (fun W => wbegun9 api9 W m m1 m2)
    have HM := Lib.hid (And.intro m1 m2)
    have H1 := Lib.hid h1
    have HC := Lib.hid (show n1 ≤ 1599289640354 by omega)
    clear h1 hin hn1 hc1 m1 m2
    go_enter Try.func9, Try.ntmps9
    go_upto_region 2 with (go_at_call 10; go_loud (refine (CB.out _).mono ?_; rintro e w1 ⟨r, G, rfl, mm, hg, b1⟩; have M1 := Lib.hid mm; have G1 := Lib.hid hg; have B1 := Lib.hid b1; clear mm hg b1))
    obtain ⟨b, hb⟩ : ∃ b, w1.heap.size = b := ⟨_, rfl⟩
    obtain ⟨W3, hW3⟩ : ∃ W, w1.alloc (.cells #[.int .i64 (m : Int), .slice none 0 0] 26) = W := ⟨_, rfl⟩
    have L3 := Lib.hid (show Run9 w W3 G r b m [] by rw [← hW3, ← hb]; exact ⟨two9_new api9 HM.out.1 HM.out.2 M1.out G1.out B1.out, WfL.nil⟩)
    rw [hW3, hb]
    clear hb hW3 M1 B1 G1 CB
    go_upto_region 4 with (go_at_call 11; go_loud (refine (CL.out _).mono ?_; rintro e w4 ⟨rfl, b4⟩; have L4 := Lib.hid (L3.out.below b4); clear b4))
    clear L3 CL
    go_upto_region 5 with fail
    go_loopw [34] (fun i wr => ∃ (j : Nat) (G : Nat → Prop) (L : List Nt), i = .int .i64 (j : Nat) ∧ j ≤ n1 ∧ Run9 w wr G r b m L) (fun i _ => n1 - (intOf i).toNat)
    case atStart => exact ⟨0, _, [], rfl, Nat.zero_le _, L4.out⟩
    case round =>
      rename World => wr
      clear L4
      obtain ⟨j, G, L, rfl, hj, hR⟩ := hrel
      by_cases hlt : j < n1
      · obtain ⟨x, hx⟩ : ∃ x, z1[j]? = some x := ⟨_, List.getElem?_eq_getElem (by have := H1.out.len; omega)⟩
        have HO := Lib.hid (H1.out.is x (List.mem_of_getElem? hx))
        obtain ⟨ab, ao, rfl, q0, q1, q2, q3, q4, q5, q6⟩ := (H1.out.below hR.two.bel).at_ hx
        have HT := Lib.hid (wf_of9 HO.out.rt)
        obtain ⟨bx, hbx⟩ : ∃ bx, wr.heap.size = bx := ⟨_, rfl⟩
        obtain ⟨Y, hY⟩ : ∃ Y, wr.alloc (.cells #[.int .i64 x.kind, .int .i64 x.tx, .string x.x.tb, .int .i64 x.x.kd, .string x.x.lo, .string x.x.hi, .string x.key] 33) = Y := ⟨_, rfl⟩
        have HY := Lib.hid hY
        have HBX := Lib.hid hbx
        have OY := Lib.hid (show OpAt Y bx x by rw [← hY, ← hbx]; exact OpAt.new wr x)
        have gY : Below wr.heap.size wr Y := by rw [← hY]; exact (Below.refl _ _).alloc (Nat.le_refl _) _
        have RY := Lib.hid (hR.below gY)
        have NB := Lib.hid (show ¬ G bx ∧ b ≠ bx by rw [← hbx]; exact hR.box)
        have i1 : (j : Int) < (n1 : Int) := by omega
        have jb : (j : Int) ≤ 1599289640354 := by have := HC.out; omega
        have HLT := Lib.hid hlt
        clear hx hR gY hlt hY hbx hj
        go_upto_region 7 with fail
        rw [HY.out, HBX.out]
        clear q0 q1 q2 q3 q4 q5 q6 HY HBX
        by_cases k0 : x.kind = 0
        · have CN := Lib.hid (RY.out.two.note api9 x.tx HT.out x.x ⟨HO.out.x.lo, HO.out.x.tb⟩)
          have CR := Lib.hid (fun W G' K (T : Two9 M9 w W G' r b m K L) => T.rnote api9 x.tx x.x HO.out.x.lo)
          have WN := Lib.hid (RY.out.wf.note RY.out.two.k.inv x.x HT.out)
          unfold rdV at CN CR
          obtain ⟨kind, tx, ⟨tb, kd, lo, hi⟩, key⟩ := x
          dsimp only at k0 CN CR WN HT HO
          subst k0
          have y0 := OY.out.kind
          obtain ⟨s1, s2, s3, s4, s5, s6⟩ := OY.out.cells
          dsimp only at y0 s1 s2 s3 s4 s5 s6
          obtain ⟨q, hq⟩ : ∃ q, noteP m L tx ⟨tb, kd, lo, hi⟩ = q := ⟨_, rfl⟩
          rw [hq] at CN CR WN
          obtain ⟨z, LV⟩ := q
          dsimp only at CN CR WN
          clear hq
          go_upto_region 9 with (go_at_call 12; go_loud (refine CN.out.mono ?_; rintro e w5 ⟨rfl, G5, t5, g5, o5⟩; have T5 := Lib.hid t5; have O5 := Lib.hid (OY.out.out o5 NB.out.1); clear t5 g5 o5))
          clear s1 s2 s3 s4 s5 s6 y0 CN
          have y0 := O5.out.kind
          obtain ⟨s1, s2, s3, s4, s5, s6⟩ := O5.out.cells
          dsimp only at y0 s1 s2 s3 s4 s5 s6
          go_upto_region 10 with (go_at_call 13; go_loud (refine (CR.out _ _ _ T5.out).mono ?_; rintro e V ⟨rfl, t6, o6⟩; have RV := Lib.hid (Run9.mk t6 WN.out); have OV := Lib.hid (O5.out.out o6 fun e => NB.out.2 e.symm); clear t6 o6))
          clear s1 s2 s3 s4 s5 s6 y0 CR T5 O5 OY RY WN NB
          have HTL := Lib.hid (fun f => (show (txP LV f).length ≤ 65536 by have := txP_le LV f; have := RV.out.two.k.len; omega))
          have CP := Lib.hid (fun W (g : Below V.heap.size V W) => api9.readers (RV.out.below g).two.m tb key HO.out.x.tb HO.out.key)
          have CX := Lib.hid (fun W (g : Below V.heap.size V W) => api9.txns (RV.out.below g).two.m)
          have CO := Lib.hid (fun W (g : Below V.heap.size V W) => api9.of (RV.out.below g).two.m tx HT.out)
          have y0 := OV.out.kind
          obtain ⟨s1, s2, s3, s4, s5, s6⟩ := OV.out.cells
          dsimp only at y0 s1 s2 s3 s4 s5 s6
          obtain ⟨l1, hl1⟩ : ∃ l, (txP LV fun n => hasP n.2 tb key) = l := ⟨_, rfl⟩
          obtain ⟨l2, hl2⟩ : ∃ l, (txP LV fun _ => true) = l := ⟨_, rfl⟩
          obtain ⟨l3, hl3⟩ : ∃ l, ofP LV tx = l := ⟨_, rfl⟩
          have N7 := Lib.hid (show l1.length ≤ 65536 by rw [← hl1]; exact HTL.out _)
          have N9 := Lib.hid (show l2.length ≤ 65536 by rw [← hl2]; exact HTL.out _)
          have N11 := Lib.hid (show l3.length ≤ 65536 by rw [← hl3]; have := ofP_le LV tx; have := RV.out.two.k.len; omega)
          rw [hl1] at CP
          rw [hl2] at CX
          rw [hl3] at CO
          clear hl1 hl2 hl3 HTL
          go_upto_region 11 with (first
            | (go_at_call 21; go_loud (refine (CP.out _ (Below.refl V.heap.size V)).mono ?_; rintro e w7 ⟨v7, rfl, o7, b7⟩; obtain ⟨A7, c7, rfl, -⟩ := o7.form; have O7 := Lib.hid o7; have B7 := Lib.hid b7; clear o7 b7))
            | (go_at_call 29; go_loud (refine (wscribble9 O7.out (ints_numC9 _) (by have := N7.out; omega) B7.out.size).mono ?_; rintro e w8 ⟨⟨u8, rfl⟩, b8⟩; have B8 := Lib.hid (B7.out.trans b8); clear b8)))
          clear CP O7 B7
          go_upto_region 12 with (first
            | (go_at_call 26; go_loud (refine (CX.out _ B8.out).mono ?_; rintro e w9 ⟨v9, rfl, o9, b9⟩; obtain ⟨A9, c9, rfl, -⟩ := o9.form; have O9 := Lib.hid o9; have B9 := Lib.hid b9; clear o9 b9))
            | (go_at_call 29; go_loud (refine (wscribble9 O9.out (ints_numC9 _) (by have := N9.out; omega) B9.out.size).mono ?_; rintro e w10 ⟨⟨u10, rfl⟩, b10⟩; have B10 := Lib.hid (B8.out.trans ((B9.out.trans b10).mono B8.out.size)); clear b10)))
          clear CX O9 B9 B8
          replace s1 := keep_below s1 B10.out
          replace s2 := keep_below s2 B10.out
          go_upto_region 13 with (go_at_call 27; go_loud (refine (CO.out _ B10.out).mono ?_; rintro e w11 ⟨v11, rfl, o11, b11⟩; obtain ⟨A11, c11, rfl, -⟩ := o11.form; have O11 := Lib.hid o11; have B11 := Lib.hid b11; clear o11 b11))
          clear CO s1 s2 s3 s4 s5 s6 y0
          go_upto_region 14 with fail
          go_loopw [69] (fun i wr => ∃ (q : Nat) (xs : List Value), i = .int .i64 (q : Nat) ∧ q ≤ l3.length ∧ SO seR w10.heap.size wr (.slice A11 l3.length c11) l3.length xs ∧ Below w10.heap.size w10 wr) (fun i _ => l3.length - (intOf i).toNat)
          case atStart => exact ⟨0, _, rfl, Nat.zero_le _, O11.out, B11.out⟩
          case round =>
            rename World => wy
            clear O11 B11
            obtain ⟨q, xs, rfl, hq, hO, hB⟩ := hrel
            by_cases hql : q < l3.length
            · obtain ⟨g, rfl, hg⟩ := hO.addr9 (by omega)
              have hxl : xs.length = 4 * l3.length := hO.len
              have hca : ∀ i, i < 4 → ∃ u, wy.cell? ⟨g, q * 4 + i, none⟩ = some u := fun i hi => ⟨_, (hO.own.cellAt (q * 4 + i) (by show q * 4 + i < l3.length * 4; omega)).trans (List.getElem?_eq_getElem (by omega))⟩
              obtain ⟨d0, e0⟩ := hca 0 (by omega)
              obtain ⟨d1, e1⟩ := hca 1 (by omega)
              obtain ⟨d2, e2⟩ := hca 2 (by omega)
              obtain ⟨d3, e3⟩ := hca 3 (by omega)
              rw [Nat.add_zero] at e0
              have f0 : wy.frozen? ⟨g, q * 4, none⟩ = false := hO.own.frozenAt _
              have f1 : wy.frozen? ⟨g, q * 4 + 1, none⟩ = false := hO.own.frozenAt _
              have f2 : wy.frozen? ⟨g, q * 4 + 2, none⟩ = false := hO.own.frozenAt _
              have f3 : wy.frozen? ⟨g, q * 4 + 3, none⟩ = false := hO.own.frozenAt _
              have i3 : (q : Int) < (l3.length : Int) := by omega
              have qb' : (q : Int) ≤ 65536 := by have := N11.out; omega
              have HQL := Lib.hid hql
              have HO2 := Lib.hid hO
              have HB2 := Lib.hid hB
              have HG := Lib.hid hg
              clear hO hB hg hql hq hxl hca
              go_wp2
              go_roundw
              case rel => exact ⟨q + 1, _, by go_num, HQL.out, (((HO2.out.set9 (q * 4) rfl).set9 (q * 4 + 1) rfl).set9 (q * 4 + 2) rfl).set9 (q * 4 + 3) rfl, (((HB2.out.setCell (p := ⟨g, q * 4, none⟩) HG.out _).setCell (p := ⟨g, q * 4 + 1, none⟩) HG.out _).setCell (p := ⟨g, q * 4 + 2, none⟩) HG.out _).setCell (p := ⟨g, q * 4 + 3, none⟩) HG.out _⟩
              case measure => have := HQL.out; simp [intOf]; omega
            · obtain rfl : q = l3.length := by omega
              have i3 : ¬ (l3.length : Int) < (l3.length : Int) := by omega
              have qb' : (l3.length : Int) ≤ 65536 := by have := N11.out; omega
              have HO2 := Lib.hid hO
              have HB2 := Lib.hid hB
              have HX := Lib.hid (show xs.length = 4 * l3.length from hO.len)
              have HL := Lib.hid (sb_rd wy ⟨⟨#[]⟩, -9, ⟨#[]⟩, ⟨#[]⟩⟩)
              have HZ := Lib.hid hB.size
              clear hO hB hql hq
              go_upto_region 19 with (at_builtin; go_loud (refine so_append seR_ok (by rfl) (.tmp 77) (.tmp 79) (by rfl) _ (by rfl) (HO2.out.alloc _) (some ⟨wy.heap.size, 0, none⟩) 1 1 (cellsR [⟨⟨#[]⟩, -9, ⟨#[]⟩, ⟨#[]⟩⟩]) (by rfl) HL.out (by have := N11.out; omega) (by have := HZ.out; simp; omega) ?_; intro v12 w12 o12 b12; obtain ⟨A12, c12, hv12, -⟩ := o12.form; subst hv12; obtain ⟨g12, hA12, hg12⟩ := o12.addr9 (by omega); subst hA12; have d12 : w12.cell? ⟨g12, l3.length * 4 + 1, none⟩ = some (.int .i64 (-9)) := ((o12.own.cellAt (l3.length * 4 + 1) (by show l3.length * 4 + 1 < (l3.length + 1) * 4; omega)).trans (by rw [List.getElem?_append_right (by have := HX.out; omega), HX.out, show l3.length * 4 + 1 - 4 * l3.length = 1 by omega]; rfl)); have f12 : w12.frozen? ⟨g12, l3.length * 4 + 1, none⟩ = false := o12.own.frozenAt _; have B12 := Lib.hid ((HB2.out.alloc HZ.out _).trans b12); have G12 := Lib.hid hg12; clear o12 b12 hg12))
              obtain ⟨X, hX⟩ : ∃ X, w12.setCell ⟨g12, l3.length * 4 + 1, none⟩ (.int .i64 (-10)) = X := ⟨_, rfl⟩
              have HX2 := Lib.hid hX
              have BX := Lib.hid (show Below V.heap.size V X by rw [← hX]; exact B10.out.trans ((B12.out.setCell (p := ⟨g12, l3.length * 4 + 1, none⟩) G12.out _).mono B10.out.size))
              clear hX
              go_upto_region 20 with fail
              rw [HX2.out]
              have RX := Lib.hid (RV.out.below BX.out)
              obtain ⟨s1, s2, s3, s4, s5, s6⟩ := (OV.out.below BX.out).cells
              dsimp only at s1 s2 s3 s4 s5 s6
              have C3 := Lib.hid (fun W (g : Below X.heap.size X W) => wasks9 api9 (RX.out.below g).two ⟨3, tx, ⟨⟨#[]⟩, 0, ⟨#[]⟩, ⟨#[]⟩⟩, ⟨#[]⟩⟩ HT.out (Nat.zero_le _) (Nat.zero_le _))
              have C2 := Lib.hid (fun W (g : Below X.heap.size X W) => wasks9 api9 (RX.out.below g).two ⟨2, 0, ⟨tb, kd, lo, hi⟩, key⟩ (show (Lit.int .i64 0).wf = true by decide) HO.out.x.tb HO.out.key)
              have C4 := Lib.hid (fun W (g : Below X.heap.size X W) => wasks9 api9 (RX.out.below g).two ⟨4, 0, ⟨⟨#[]⟩, 0, ⟨#[]⟩, ⟨#[]⟩⟩, ⟨#[]⟩⟩ (by decide) (Nat.zero_le _) (Nat.zero_le _))
              dsimp only at C3 C2 C4
              clear HX2 d12 f12
              go_wp2_with (go_at_call 16; go_loud (first
                | (refine (C4.out _ B14.out).mono ?_; rintro e w15 ⟨rfl, b15⟩; have B15 := Lib.hid (below_next B14.out b15); clear b15)
                | (refine (C2.out _ B13.out).mono ?_; rintro e w14 ⟨rfl, b14⟩; have B14 := Lib.hid (below_next B13.out b14); clear b14)
                | (refine (C3.out _ (Below.refl X.heap.size X)).mono ?_; rintro e w13 ⟨rfl, b13⟩; have B13 := Lib.hid b13; replace s2 := keep_below s2 b13; replace s3 := keep_below s3 b13; replace s4 := keep_below s4 b13; replace s5 := keep_below s5 b13; replace s6 := keep_below s6 b13; clear b13)))
              go_roundw
              case rel => exact ⟨j + 1, _, _, by go_num, HLT.out, RX.out.below B15.out⟩
              case measure => have := HLT.out; simp [intOf]; omega
        · obtain ⟨kind, tx, ⟨tb, kd, lo, hi⟩, key⟩ := x
          dsimp only at k0 HT HO
          have k0' : (kind == 0) = false := by simpa using k0
          have y0 := OY.out.kind
          dsimp only at y0
          go_upto_region 10 with fail
          clear y0 k0
          obtain ⟨V, hV⟩ : ∃ V, V = Y := ⟨_, rfl⟩
          obtain ⟨LV, hLV⟩ : ∃ V, V = L := ⟨_, rfl⟩
          rw [← hV, ← hLV] at RY
          rw [← hV] at OY
          subst hV hLV
          have RV := RY
          have OV := OY
          have HTL := Lib.hid (fun f => (show (txP LV f).length ≤ 65536 by have := txP_le LV f; have := RV.out.two.k.len; omega))
          have CP := Lib.hid (fun W (g : Below V.heap.size V W) => api9.readers (RV.out.below g).two.m tb key HO.out.x.tb HO.out.key)
          have CX := Lib.hid (fun W (g : Below V.heap.size V W) => api9.txns (RV.out.below g).two.m)
          have CO := Lib.hid (fun W (g : Below V.heap.size V W) => api9.of (RV.out.below g).two.m tx HT.out)
          have y0 := OV.out.kind
          obtain ⟨s1, s2, s3, s4, s5, s6⟩ := OV.out.cells
          dsimp only at y0 s1 s2 s3 s4 s5 s6
          obtain ⟨l1, hl1⟩ : ∃ l, (txP LV fun n => hasP n.2 tb key) = l := ⟨_, rfl⟩
          obtain ⟨l2, hl2⟩ : ∃ l, (txP LV fun _ => true) = l := ⟨_, rfl⟩
          obtain ⟨l3, hl3⟩ : ∃ l, ofP LV tx = l := ⟨_, rfl⟩
          have N7 := Lib.hid (show l1.length ≤ 65536 by rw [← hl1]; exact HTL.out _)
          have N9 := Lib.hid (show l2.length ≤ 65536 by rw [← hl2]; exact HTL.out _)
          have N11 := Lib.hid (show l3.length ≤ 65536 by rw [← hl3]; have := ofP_le LV tx; have := RV.out.two.k.len; omega)
          rw [hl1] at CP
          rw [hl2] at CX
          rw [hl3] at CO
          clear hl1 hl2 hl3 HTL
          go_upto_region 11 with (first
            | (go_at_call 21; go_loud (refine (CP.out _ (Below.refl V.heap.size V)).mono ?_; rintro e w7 ⟨v7, rfl, o7, b7⟩; obtain ⟨A7, c7, rfl, -⟩ := o7.form; have O7 := Lib.hid o7; have B7 := Lib.hid b7; clear o7 b7))
            | (go_at_call 29; go_loud (refine (wscribble9 O7.out (ints_numC9 _) (by have := N7.out; omega) B7.out.size).mono ?_; rintro e w8 ⟨⟨u8, rfl⟩, b8⟩; have B8 := Lib.hid (B7.out.trans b8); clear b8)))
          clear CP O7 B7
          go_upto_region 12 with (first
            | (go_at_call 26; go_loud (refine (CX.out _ B8.out).mono ?_; rintro e w9 ⟨v9, rfl, o9, b9⟩; obtain ⟨A9, c9, rfl, -⟩ := o9.form; have O9 := Lib.hid o9; have B9 := Lib.hid b9; clear o9 b9))
            | (go_at_call 29; go_loud (refine (wscribble9 O9.out (ints_numC9 _) (by have := N9.out; omega) B9.out.size).mono ?_; rintro e w10 ⟨⟨u10, rfl⟩, b10⟩; have B10 := Lib.hid (B8.out.trans ((B9.out.trans b10).mono B8.out.size)); clear b10)))
          clear CX O9 B9 B8
          replace s1 := keep_below s1 B10.out
          replace s2 := keep_below s2 B10.out
          go_upto_region 13 with (go_at_call 27; go_loud (refine (CO.out _ B10.out).mono ?_; rintro e w11 ⟨v11, rfl, o11, b11⟩; obtain ⟨A11, c11, rfl, -⟩ := o11.form; have O11 := Lib.hid o11; have B11 := Lib.hid b11; clear o11 b11))
          clear CO s1 s2 s3 s4 s5 s6 y0
          go_upto_region 14 with fail
          go_loopw [69] (fun i wr => ∃ (q : Nat) (xs : List Value), i = .int .i64 (q : Nat) ∧ q ≤ l3.length ∧ SO seR w10.heap.size wr (.slice A11 l3.length c11) l3.length xs ∧ Below w10.heap.size w10 wr) (fun i _ => l3.length - (intOf i).toNat)
          case atStart => exact ⟨0, _, rfl, Nat.zero_le _, O11.out, B11.out⟩
          case round =>
            rename World => wy
            clear O11 B11
            obtain ⟨q, xs, rfl, hq, hO, hB⟩ := hrel
            by_cases hql : q < l3.length
            · obtain ⟨g, rfl, hg⟩ := hO.addr9 (by omega)
              have hxl : xs.length = 4 * l3.length := hO.len
              have hca : ∀ i, i < 4 → ∃ u, wy.cell? ⟨g, q * 4 + i, none⟩ = some u := fun i hi => ⟨_, (hO.own.cellAt (q * 4 + i) (by show q * 4 + i < l3.length * 4; omega)).trans (List.getElem?_eq_getElem (by omega))⟩
              obtain ⟨d0, e0⟩ := hca 0 (by omega)
              obtain ⟨d1, e1⟩ := hca 1 (by omega)
              obtain ⟨d2, e2⟩ := hca 2 (by omega)
              obtain ⟨d3, e3⟩ := hca 3 (by omega)
              rw [Nat.add_zero] at e0
              have f0 : wy.frozen? ⟨g, q * 4, none⟩ = false := hO.own.frozenAt _
              have f1 : wy.frozen? ⟨g, q * 4 + 1, none⟩ = false := hO.own.frozenAt _
              have f2 : wy.frozen? ⟨g, q * 4 + 2, none⟩ = false := hO.own.frozenAt _
              have f3 : wy.frozen? ⟨g, q * 4 + 3, none⟩ = false := hO.own.frozenAt _
              have i3 : (q : Int) < (l3.length : Int) := by omega
              have qb' : (q : Int) ≤ 65536 := by have := N11.out; omega
              have HQL := Lib.hid hql
              have HO2 := Lib.hid hO
              have HB2 := Lib.hid hB
              have HG := Lib.hid hg
              clear hO hB hg hql hq hxl hca
              go_wp2
              go_roundw
              case rel => exact ⟨q + 1, _, by go_num, HQL.out, (((HO2.out.set9 (q * 4) rfl).set9 (q * 4 + 1) rfl).set9 (q * 4 + 2) rfl).set9 (q * 4 + 3) rfl, (((HB2.out.setCell (p := ⟨g, q * 4, none⟩) HG.out _).setCell (p := ⟨g, q * 4 + 1, none⟩) HG.out _).setCell (p := ⟨g, q * 4 + 2, none⟩) HG.out _).setCell (p := ⟨g, q * 4 + 3, none⟩) HG.out _⟩
              case measure => have := HQL.out; simp [intOf]; omega
            · obtain rfl : q = l3.length := by omega
              have i3 : ¬ (l3.length : Int) < (l3.length : Int) := by omega
              have qb' : (l3.length : Int) ≤ 65536 := by have := N11.out; omega
              have HO2 := Lib.hid hO
              have HB2 := Lib.hid hB
              have HX := Lib.hid (show xs.length = 4 * l3.length from hO.len)
              have HL := Lib.hid (sb_rd wy ⟨⟨#[]⟩, -9, ⟨#[]⟩, ⟨#[]⟩⟩)
              have HZ := Lib.hid hB.size
              clear hO hB hql hq
              go_upto_region 19 with (at_builtin; go_loud (refine so_append seR_ok (by rfl) (.tmp 77) (.tmp 79) (by rfl) _ (by rfl) (HO2.out.alloc _) (some ⟨wy.heap.size, 0, none⟩) 1 1 (cellsR [⟨⟨#[]⟩, -9, ⟨#[]⟩, ⟨#[]⟩⟩]) (by rfl) HL.out (by have := N11.out; omega) (by have := HZ.out; simp; omega) ?_; intro v12 w12 o12 b12; obtain ⟨A12, c12, hv12, -⟩ := o12.form; subst hv12; obtain ⟨g12, hA12, hg12⟩ := o12.addr9 (by omega); subst hA12; have d12 : w12.cell? ⟨g12, l3.length * 4 + 1, none⟩ = some (.int .i64 (-9)) := ((o12.own.cellAt (l3.length * 4 + 1) (by show l3.length * 4 + 1 < (l3.length + 1) * 4; omega)).trans (by rw [List.getElem?_append_right (by have := HX.out; omega), HX.out, show l3.length * 4 + 1 - 4 * l3.length = 1 by omega]; rfl)); have f12 : w12.frozen? ⟨g12, l3.length * 4 + 1, none⟩ = false := o12.own.frozenAt _; have B12 := Lib.hid ((HB2.out.alloc HZ.out _).trans b12); have G12 := Lib.hid hg12; clear o12 b12 hg12))
              obtain ⟨X, hX⟩ : ∃ X, w12.setCell ⟨g12, l3.length * 4 + 1, none⟩ (.int .i64 (-10)) = X := ⟨_, rfl⟩
              have HX2 := Lib.hid hX
              have BX := Lib.hid (show Below V.heap.size V X by rw [← hX]; exact B10.out.trans ((B12.out.setCell (p := ⟨g12, l3.length * 4 + 1, none⟩) G12.out _).mono B10.out.size))
              clear hX
              go_upto_region 20 with fail
              rw [HX2.out]
              have RX := Lib.hid (RV.out.below BX.out)
              obtain ⟨s1, s2, s3, s4, s5, s6⟩ := (OV.out.below BX.out).cells
              dsimp only at s1 s2 s3 s4 s5 s6
              have C3 := Lib.hid (fun W (g : Below X.heap.size X W) => wasks9 api9 (RX.out.below g).two ⟨3, tx, ⟨⟨#[]⟩, 0, ⟨#[]⟩, ⟨#[]⟩⟩, ⟨#[]⟩⟩ HT.out (Nat.zero_le _) (Nat.zero_le _))
              have C2 := Lib.hid (fun W (g : Below X.heap.size X W) => wasks9 api9 (RX.out.below g).two ⟨2, 0, ⟨tb, kd, lo, hi⟩, key⟩ (show (Lit.int .i64 0).wf = true by decide) HO.out.x.tb HO.out.key)
              have C4 := Lib.hid (fun W (g : Below X.heap.size X W) => wasks9 api9 (RX.out.below g).two ⟨4, 0, ⟨⟨#[]⟩, 0, ⟨#[]⟩, ⟨#[]⟩⟩, ⟨#[]⟩⟩ (by decide) (Nat.zero_le _) (Nat.zero_le _))
              dsimp only at C3 C2 C4
              clear HX2 d12 f12
              go_wp2_with (go_at_call 16; go_loud (first
                | (refine (C4.out _ B14.out).mono ?_; rintro e w15 ⟨rfl, b15⟩; have B15 := Lib.hid (below_next B14.out b15); clear b15)
                | (refine (C2.out _ B13.out).mono ?_; rintro e w14 ⟨rfl, b14⟩; have B14 := Lib.hid (below_next B13.out b14); clear b14)
                | (refine (C3.out _ (Below.refl X.heap.size X)).mono ?_; rintro e w13 ⟨rfl, b13⟩; have B13 := Lib.hid b13; replace s2 := keep_below s2 b13; replace s3 := keep_below s3 b13; replace s4 := keep_below s4 b13; replace s5 := keep_below s5 b13; replace s6 := keep_below s6 b13; clear b13)))
              go_roundw
              case rel => exact ⟨j + 1, _, _, by go_num, HLT.out, RX.out.below B15.out⟩
              case measure => have := HLT.out; simp [intOf]; omega
      · obtain rfl : j = n1 := by omega
        have i1 : ¬ (j : Int) < (j : Int) := by omega
        have HB := Lib.hid hR.two.bel
        clear hR hlt hj
        go_wp2
        go_ret
        exact ⟨rfl, HB.out⟩
end Go.Proofs.Ytcpifanhmkblmaa
