/- The walk of SireadPlays: whatever is noted, dropped and asked, each answer is the document's. -/
import Derived.Test.YtcpifanhmkblmaaSiPlay
namespace Go.Proofs.Ytcpifanhmkblmaa
set_option maxRecDepth 100000
set_option maxRecDepth 100000
open Go.RowKit

set_option maxHeartbeats 16000000 in
theorem walk_SireadPlays (a0 : Int) (A1 : Option Addr) (n1 c1 : Nat) (z1 : List OpS) (w : World) (_ha0 : -9223372036854775808 ≤ a0 ∧ a0 ≤ 9223372036854775807) (h1 : RS w A1 n1 z1) (hn1 : n1 ≤ c1) (hc1 : c1 ≤ 1599289640354) :
    Calls Try.prog 3 #[.int .i64 a0, .slice A1 n1 c1] w fun e w' => e = .returned (.bool true) ∧ Below w.heap.size w w' := by
  clear _ha0
  have CL := Lib.hid (fun W => wlive9 api9 W)
  by_cases hin : capP a0 = false
  · have CB := Lib.hid (fun W => wbegun9_no api9 W a0 hin)
    clear h1 hin
    go_enter Try.func3, Try.ntmps3
    go_wp2_with (first
      | (go_at_call 10; go_loud (refine (CB.out _).mono ?_; rintro e w1 ⟨rfl, b1⟩; have B1 := Lib.hid b1; clear b1))
      | (go_at_call 11; go_loud (refine (CL.out _).mono ?_; rintro e w2 ⟨rfl, b2⟩; have B2 := Lib.hid b2; clear b2)))
    go_ret
    exact ⟨rfl, below_next (B1.out.alloc B1.out.size _) B2.out⟩
  · obtain ⟨m, rfl, m1, m2⟩ := cap_nat hin
    have CB := Lib.hid (fun W => wbegun9 api9 W m m1 m2)
    have HM := Lib.hid (And.intro m1 m2)
    have H1 := Lib.hid h1
    have HC := Lib.hid (show n1 ≤ 1599289640354 by omega)
    clear h1 hin hn1 hc1 m1 m2
    go_enter Try.func3, Try.ntmps3
    go_upto_region 2 with (go_at_call 10; go_loud (refine (CB.out _).mono ?_; rintro e w1 ⟨r, G, rfl, mm, hg, b1⟩; have M1 := Lib.hid mm; have G1 := Lib.hid hg; have B1 := Lib.hid b1; clear mm hg b1))
    obtain ⟨b, hb⟩ : ∃ b, w1.heap.size = b := ⟨_, rfl⟩
    obtain ⟨W3, hW3⟩ : ∃ W, w1.alloc (.cells #[.int .i64 (m : Int), .slice none 0 0] 26) = W := ⟨_, rfl⟩
    have L3 := Lib.hid (show Run9 w W3 G r b m [] by rw [← hW3, ← hb]; exact ⟨two9_new api9 HM.out.1 HM.out.2 M1.out G1.out B1.out, WfL.nil⟩)
    rw [hW3, hb]
    clear hb hW3 M1 B1 G1 CB
    go_upto_region 4 with (go_at_call 11; go_loud (refine (CL.out _).mono ?_; rintro e w4 ⟨rfl, b4⟩; have L4 := Lib.hid (L3.out.below b4); clear b4))
    clear L3 CL
    go_upto_region 5 with fail
    go_loopw [7, 34] (fun okv i wr => ∃ (j : Nat) (G : Nat → Prop) (L : List Nt), okv = .bool true ∧ i = .int .i64 (j : Nat) ∧ j ≤ n1 ∧ Run9 w wr G r b m L) (fun _ i _ => n1 - (intOf i).toNat)
    case atStart => exact ⟨0, _, [], rfl, rfl, Nat.zero_le _, L4.out⟩
    case round =>
      rename World => wr
      clear L4
      obtain ⟨j, G, L, rfl, rfl, hj, hR⟩ := hrel
      by_cases hlt : j < n1
      · obtain ⟨x, hx⟩ : ∃ x, z1[j]? = some x := ⟨_, List.getElem?_eq_getElem (by have := H1.out.len; omega)⟩
        have HO := Lib.hid (H1.out.is x (List.mem_of_getElem? hx))
        obtain ⟨ab, ao, rfl, q0, q1, q2, q3, q4, q5, q6⟩ := (H1.out.below hR.two.bel).at_ hx
        have HT := Lib.hid (wf_of9 HO.out.rt)
        obtain ⟨bx, hbx⟩ : ∃ bx, wr.heap.size = bx := ⟨_, rfl⟩
        obtain ⟨Y, hY⟩ : ∃ Y, wr.alloc (.cells #[.int .i64 x.kind, .int .i64 x.tx, .string x.x.tb, .int .i64 x.x.kd, .string x.x.lo, .string x.x.hi, .string x.key] 33) = Y := ⟨_, rfl⟩
        have HY := Lib.hid hY
        have HBX := Lib.hid hbx
        have OY := Lib.hid (show OpAt Y bx x by rw [← hY, ← hbx]; exact OpAt.new wr x)
        have gY : Below wr.heap.size wr Y := by rw [← hY]; exact (Below.refl _ _).alloc (Nat.le_refl _) _
        have RY := Lib.hid (hR.below gY)
        have NB := Lib.hid (show ¬ G bx ∧ b ≠ bx by rw [← hbx]; exact hR.box)
        have i1 : (j : Int) < (n1 : Int) := by omega
        have jb : (j : Int) ≤ 1599289640354 := by have := HC.out; omega
        have HLT := Lib.hid hlt
        clear hx hR gY hlt hY hbx hj
        go_upto_region 7 with fail
        rw [HY.out, HBX.out]
        clear q0 q1 q2 q3 q4 q5 q6 HY HBX
        by_cases k0 : x.kind = 0
        · have CN := Lib.hid (fun W (g : Below Y.heap.size Y W) => (RY.out.two.below api9 g).note api9 x.tx HT.out x.x ⟨HO.out.x.lo, HO.out.x.tb⟩)
          have CR := Lib.hid (fun W G' K (T : Two9 M9 w W G' r b m K L) => T.rnote api9 x.tx x.x HO.out.x.lo)
          have WN := Lib.hid (RY.out.wf.note RY.out.two.k.inv x.x HT.out)
          unfold rdV at CN CR
          obtain ⟨kind, tx, ⟨tb, kd, lo, hi⟩, key⟩ := x
          dsimp only at k0 CN CR WN HT HO
          subst k0
          have y0 := OY.out.kind
          have S0 := OY.out.cells
          unfold OpC at S0
          dsimp only at y0 S0
          obtain ⟨q, hq⟩ : ∃ q, noteP m L tx ⟨tb, kd, lo, hi⟩ = q := ⟨_, rfl⟩
          rw [hq] at CN CR WN
          obtain ⟨z, L2⟩ := q
          dsimp only at CN CR WN
          clear hq
          go_upto_region 10 with fail
          go_region_held3 (fun w' => w'.cell? ⟨bx, 1, none⟩ = some (.int .i64 tx) ∧ w'.cell? ⟨bx, 2, none⟩ = some (.string tb) ∧ w'.cell? ⟨bx, 3, none⟩ = some (.int .i64 kd) ∧ w'.cell? ⟨bx, 4, none⟩ = some (.string lo) ∧ w'.cell? ⟨bx, 5, none⟩ = some (.string hi) ∧ w'.cell? ⟨bx, 6, none⟩ = some (.string key))
            (first | exact S0 | exact SA | exact SB)
            (first
              | (go_at_call 12; go_loud (refine (CN.out _ (Below.refl Y.heap.size Y).drew).mono ?_; rintro e w5 ⟨rfl, G5, t5, g5, o5⟩; have T5 := Lib.hid t5; have O5 := Lib.hid ((OY.out.below (Below.refl Y.heap.size Y).drew).out o5 NB.out.1); have SA := O5.out.cells; unfold OpC at SA; dsimp only at SA; clear t5 g5 o5))
              | (go_at_call 13; go_loud (refine (CR.out _ _ _ T5.out).mono ?_; rintro e w6 ⟨rfl, t6, o6⟩; have T6 := Lib.hid t6; have O6 := Lib.hid (O5.out.out o6 fun e => NB.out.2 e.symm); have SB := O6.out.cells; unfold OpC at SB; dsimp only at SB; clear t6 o6)))
          all_goals
            go_wp2
            go_roundw
            case rel => exact ⟨j + 1, _, _, by simp, by go_num, HLT.out, T6.out, WN.out⟩
            case measure => have := HLT.out; simp [intOf]; omega
        · by_cases k1 : x.kind = 1
          · have CN := Lib.hid (fun W (g : Below Y.heap.size Y W) => (RY.out.two.below api9 g).drop api9 x.tx HT.out)
            have CR := Lib.hid (fun W G' K (T : Two9 M9 w W G' r b m K L) => T.rdrop api9 x.tx)
            have WN := Lib.hid (RY.out.wf.drop x.tx)
            obtain ⟨kind, tx, ⟨tb, kd, lo, hi⟩, key⟩ := x
            dsimp only at k0 k1 CN CR WN HT HO
            subst k1
            have y0 := OY.out.kind
            have S0 := OY.out.cells
            unfold OpC at S0
            dsimp only at y0 S0
            obtain ⟨L2, hL2⟩ : ∃ q, (if tx < 1 then L else dropP L tx) = q := ⟨_, rfl⟩
            obtain ⟨z, hz⟩ : ∃ z : Int, (if tx < 1 then 1 else 0) = z := ⟨_, rfl⟩
            simp only [hL2, hz] at CN CR WN
            clear hL2 hz
            go_upto_region 12 with fail
            go_region_held3 (fun w' => w'.cell? ⟨bx, 1, none⟩ = some (.int .i64 tx) ∧ w'.cell? ⟨bx, 2, none⟩ = some (.string tb) ∧ w'.cell? ⟨bx, 3, none⟩ = some (.int .i64 kd) ∧ w'.cell? ⟨bx, 4, none⟩ = some (.string lo) ∧ w'.cell? ⟨bx, 5, none⟩ = some (.string hi) ∧ w'.cell? ⟨bx, 6, none⟩ = some (.string key))
              (first | exact S0 | exact SA | exact SB)
              (first
                | (go_at_call 14; go_loud (refine (CN.out _ (Below.refl Y.heap.size Y).drew).mono ?_; rintro e w5 ⟨rfl, G5, t5, g5, o5⟩; have T5 := Lib.hid t5; have O5 := Lib.hid ((OY.out.below (Below.refl Y.heap.size Y).drew).out o5 NB.out.1); have SA := O5.out.cells; unfold OpC at SA; dsimp only at SA; clear t5 g5 o5))
                | (go_at_call 15; go_loud (refine (CR.out _ _ _ T5.out).mono ?_; rintro e w6 ⟨rfl, t6, o6⟩; have T6 := Lib.hid t6; have O6 := Lib.hid (O5.out.out o6 fun e => NB.out.2 e.symm); have SB := O6.out.cells; unfold OpC at SB; dsimp only at SB; clear t6 o6)))
            all_goals
              go_wp2
              go_roundw
              case rel => exact ⟨j + 1, _, _, by simp, by go_num, HLT.out, T6.out, WN.out⟩
              case measure => have := HLT.out; simp [intOf]; omega
          · have CA := Lib.hid (wasks9 api9 RY.out.two x HT.out HO.out.x.tb HO.out.key)
            obtain ⟨kind, tx, ⟨tb, kd, lo, hi⟩, key⟩ := x
            dsimp only at k0 k1 CA HT HO
            have k0' : (kind == 0) = false := by simpa using k0
            have k1' : (kind == 1) = false := by simpa using k1
            have y0 := OY.out.kind
            obtain ⟨s1, s2, s3, s4, s5, s6⟩ := OY.out.cells
            dsimp only at y0 s1 s2 s3 s4 s5 s6
            clear k0 k1
            go_wp2_with (go_at_call 16; go_loud (refine CA.out.mono ?_; rintro e w5 ⟨rfl, b5⟩; have B5 := Lib.hid b5; clear b5))
            go_roundw
            case rel => exact ⟨j + 1, _, _, rfl, by go_num, HLT.out, RY.out.below B5.out⟩
            case measure => have := HLT.out; simp [intOf]; omega
      · obtain rfl : j = n1 := by omega
        have i1 : ¬ (j : Int) < (j : Int) := by omega
        have HR := Lib.hid hR
        have HL := Lib.hid (show L.length ≤ 65536 from hR.two.k.len)
        have HL2 := Lib.hid (show (txP L fun _ => true).length ≤ 65536 by have := txP_le L (fun _ => true); have := HL.out; omega)
        have CT := Lib.hid (wrTxns hR.two.n (by have := HL.out; omega))
        have HW := Lib.hid (fun y (hy : y ∈ txP L fun _ => true) => (show (Lit.int .i64 y).wf = true by
          obtain ⟨n, hn, -, e⟩ := ((tx_is L fun _ => true).2 y).1 hy
          rw [← e]; exact hR.wf n hn))
        obtain ⟨l, hl⟩ : ∃ l, (txP L fun _ => true) = l := ⟨_, rfl⟩
        rw [hl] at CT HL2 HW
        clear hR hl hlt hj
        go_upto_region 17 with (go_at_call 17; go_loud (refine CT.out.mono ?_; rintro e w7 ⟨v7, rfl, o7, g7⟩; obtain ⟨A7, c7, hv7, hs7⟩ := o7.num rfl; subst hv7; have S7 := Lib.hid hs7; have R7 := Lib.hid (HR.out.below g7); clear o7 g7 hs7))
        clear CT
        go_loopw [72] (fun i wr => ∃ (k : Nat), i = .int .i64 (k : Nat) ∧ k ≤ l.length ∧ Below w7.heap.size w7 wr) (fun i _ => l.length - (intOf i).toNat)
        case atStart => exact ⟨0, rfl, Nat.zero_le _, Below.refl _ _⟩
        case round =>
          rename World => wx
          clear i1
          obtain ⟨k, rfl, hk, hB⟩ := hrel
          by_cases hkl : k < l.length
          · obtain ⟨t, ht⟩ : ∃ t, l[k]? = some t := ⟨_, List.getElem?_eq_getElem hkl⟩
            obtain ⟨g, o, rfl, x0⟩ := (S7.out.gw hB).at_ (numC_at ht)
            have CA := Lib.hid (wasks9 api9 (R7.out.below hB).two ⟨3, t, ⟨⟨#[]⟩, 0, ⟨#[]⟩, ⟨#[]⟩⟩, ⟨#[]⟩⟩ (HW.out t (List.mem_of_getElem? ht)) (Nat.zero_le _) (Nat.zero_le _))
            dsimp only at CA
            have i2 : (k : Int) < (l.length : Int) := by omega
            have l2 : (k : Int) ≤ 65536 := by have := HL2.out; omega
            have HKL := Lib.hid hkl
            have HB := Lib.hid hB
            clear hk hB hkl ht
            go_wp2_with (go_at_call 16; go_loud (refine CA.out.mono ?_; rintro e w8 ⟨rfl, b8⟩; have B8 := Lib.hid (below_next HB.out b8); clear b8))
            go_roundw
            case rel => exact ⟨k + 1, by go_num, HKL.out, B8.out⟩
            case measure => have := HKL.out; simp [intOf]; omega
          · obtain rfl : k = l.length := by omega
            have i2 : ¬ (l.length : Int) < (l.length : Int) := by omega
            have RX := Lib.hid (R7.out.below hB)
            have C4 := Lib.hid (fun W (g : Below wx.heap.size wx W) => wasks9 api9 (RX.out.below g).two ⟨4, 0, ⟨⟨#[]⟩, 0, ⟨#[]⟩, ⟨#[]⟩⟩, ⟨#[]⟩⟩ (by decide) (Nat.zero_le _) (Nat.zero_le _))
            have C5 := Lib.hid (fun W (g : Below wx.heap.size wx W) => wasks9 api9 (RX.out.below g).two ⟨5, 0, ⟨⟨#[]⟩, 0, ⟨#[]⟩, ⟨#[]⟩⟩, ⟨#[]⟩⟩ (by decide) (Nat.zero_le _) (Nat.zero_le _))
            dsimp only at C4 C5
            clear hB hkl hk
            go_wp2_with (go_at_call 16; go_loud (first
              | (refine (C5.out _ B8.out).mono ?_; rintro e w9 ⟨rfl, b9⟩; have B9 := Lib.hid (below_next B8.out b9); clear b9)
              | (refine (C4.out _ (Below.refl wx.heap.size wx)).mono ?_; rintro e w8 ⟨rfl, b8⟩; have B8 := Lib.hid b8; clear b8)))
            go_ret
            exact ⟨rfl, (RX.out.below B9.out).two.bel⟩
end Go.Proofs.Ytcpifanhmkblmaa
