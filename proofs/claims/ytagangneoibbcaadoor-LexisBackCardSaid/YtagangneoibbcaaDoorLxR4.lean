/- Layer 12: the reference's quoted (made by wip/gen/mklxrq.py). -/
import Derived.Test.YtagangneoibbcaaDoorLxR3
import Derived.IntWalk
set_option linter.unusedVariables false
namespace Go.Proofs.YtagangneoibbcaaDoor
set_option maxRecDepth 100000
set_option maxRecDepth 100000
open Go.RowKit

/-- What the reference's quoted leaves. -/
def RQuotedIs (R : List Int) (i : Nat) (w : World) (e : Ending) (w' : World) : Prop :=
  Below w.heap.size w w' ∧
  match qtP R with
  | (none, n) => e = .returned (.tuple #[.string ⟨#[]⟩, .int .i64 (i + 1 + n : Nat), .int .i64 123])
  | (some b, n) => if 4096 < b.length then e = .returned (.tuple #[.string ⟨#[]⟩, .int .i64 (i : Nat), .int .i64 3]) else e = .returned (.tuple #[.string (strOfNums b), .int .i64 (i + 1 + n : Nat), .int .i64 0])
def seU : SEl := ⟨58, 5, .int .u8 0, 1, 1⟩
theorem seU_ok : seU.Ok := ⟨by kernel_rfl, by kernel_rfl, by kernel_rfl, by decide, by decide, by decide⟩
theorem OB.so {base : Nat} {w : World} {v : Value} {zs : List Int} (h : OB base w v zs) : SO seU base w v zs.length (zs.map (Value.int .u8)) := ⟨h.own, by simp [seU], fun u hu => by
  obtain ⟨z, -, rfl⟩ := List.mem_map.1 hu; rfl⟩
theorem SO.ob {base n : Nat} {w : World} {v : Value} {zs : List Int} {z : Int} (h : SO seU base w v n (zs.map (Value.int .u8) ++ [Value.int .u8 z])) (hz : ∀ x ∈ zs, 0 ≤ x ∧ x ≤ 255) (h1 : 0 ≤ z ∧ z ≤ 255) : OB base w v (zs ++ [z]) := by
  have hl := h.len
  simp only [List.length_append, List.length_map, List.length_singleton, seU, Nat.one_mul] at hl
  subst hl
  refine ⟨by have := h.own; simpa [seU] using this, fun x hx => ?_⟩
  rcases List.mem_append.1 hx with hx | hx
  · exact hz x hx
  · simp at hx; subst hx; exact h1
theorem sb_u8 (X : World) (z : Int) : SB (X.alloc (.cells #[.int .u8 z] 5)) (some ⟨X.heap.size, 0, none⟩) (seU.s * 1) [Value.int .u8 z] := by
  refine ⟨rfl, by simp [Value.oneCell'], fun _ => ⟨X.heap.size, 0, rfl, fun j u hj => ?_⟩⟩
  rw [cell_of_row _ _ _ _ _ _ (heap_alloc_new X _)]
  simpa using hj
theorem len_snoc (zs : List Int) (z : Int) : (zs ++ [z]).length = zs.length + 1 := by simp
theorem RQ.no {R : List Int} {i n : Nat} {w w' : World} {z : Int} (h : qtP R = (none, n)) (hb : Below w.heap.size w w') (hz : z = (i + 1 + n : Nat)) : RQuotedIs R i w (.returned (.tuple #[.string ⟨#[]⟩, .int .i64 z, .int .i64 123])) w' := by
  unfold RQuotedIs
  rw [h]
  subst hz
  exact ⟨hb, rfl⟩
theorem RQ.long {R : List Int} {i n : Nat} {b : List Int} {w w' : World} (h : qtP R = (some b, n)) (hb : Below w.heap.size w w') (hl : 4096 < b.length) : RQuotedIs R i w (.returned (.tuple #[.string ⟨#[]⟩, .int .i64 (i : Nat), .int .i64 3])) w' := by
  unfold RQuotedIs
  rw [h]
  exact ⟨hb, by dsimp only; rw [if_pos hl]⟩
theorem RQ.yes {R : List Int} {i n : Nat} {b : List Int} {w w' : World} {z : Int} (h : qtP R = (some b, n)) (hb : Below w.heap.size w w') (hl : ¬ 4096 < b.length) (hz : z = (i + 1 + n : Nat)) : RQuotedIs R i w (.returned (.tuple #[.string (strOfNums b), .int .i64 z, .int .i64 0])) w' := by
  unfold RQuotedIs
  rw [h]
  subst hz
  exact ⟨hb, by dsimp only; rw [if_neg hl]⟩
set_option maxHeartbeats 16000000 in
theorem wrQuoted (s : ByteArray) (i : Nat) (w : World) (hi : i < s.size) (hs : s.size ≤ 65536) :
    Calls Tryd.prog 52 #[.string s, .int .i64 (i : Nat)] w (RQuotedIs ((strB s).drop (i + 1)) i w) := by
  obtain ⟨L, hL⟩ : ∃ L, strB s = L := ⟨_, rfl⟩
  have HLL := Lib.hid (show L.length = s.size by rw [← hL]; exact strB_len s)
  have HC := Lib.hid (fun (j : Nat) (h : j < s.size) => (show L.drop j = ((s[j]'h).toNat : Int) :: L.drop (j + 1) by rw [← hL, chP_in (by rw [strB_len]; exact h), chP_at s j h]))
  have HEND := Lib.hid (fun (j : Nat) (h : s.size ≤ j) => (show L.drop j = [] from List.drop_eq_nil_of_le (by rw [← hL, strB_len]; exact h)))
  rw [hL]
  clear hL
  go_enter Tryd.func52, Tryd.ntmps52
  go_wp2
  go_loopw [1, 8] (fun va vb wr => ∃ (zs : List Int) (k j : Nat), va = .int .i64 (j : Nat) ∧ OB w.heap.size wr vb zs ∧ Below w.heap.size w wr ∧ j = i + 1 + k ∧ zs.length ≤ k ∧ j ≤ s.size ∧ qtP (L.drop (i + 1)) = upQ zs k (qtP (L.drop j))) (fun va _ _ => s.size - (intOf va).toNat)
  case atStart => exact ⟨[], 0, i + 1, by go_num, OB.nil _ _, Below.refl _ _, by omega, by simp, by omega, by rw [upQ_nil]⟩
  case round =>
    rename World => wr
    obtain ⟨zs, k, j, rfl, hob, hb, hkj, hkz, hj, hF⟩ := hrel
    have HOB := Lib.hid hob
    have HBB := Lib.hid hb
    have HKJ := Lib.hid hkj
    have HKZ := Lib.hid hkz
    have HF := Lib.hid hF
    have ZL := Lib.hid (show zs.length ≤ 65536 by omega)
    obtain ⟨A, c, rfl, hrb, -, -⟩ := hob.form
    have HRB := Lib.hid hrb
    clear hob hb hF hrb
    by_cases hlt : j < s.size
    · have hub := (s[j]'hlt).toNat_lt
      obtain ⟨ch, hch⟩ : ∃ ch : Int, ((s[j]'hlt).toNat : Int) = ch := ⟨_, rfl⟩
      have hc0 : 0 ≤ ch := by omega
      have hc1 : ch ≤ 255 := by omega
      have HD := Lib.hid (show L.drop j = ch :: L.drop (j + 1) from (HC.out j hlt).trans (by rw [← hch]))
      have hcb : 0 ≤ ch ∧ ch ≤ 255 := ⟨hc0, hc1⟩
      have HCH := Lib.hid hch
      have HLT := Lib.hid hlt
      clear hkj hkz hub
      by_cases h34 : ch = 34
      · have HE := Lib.hid (show qtP (L.drop (i + 1)) = (some zs, k + 1) by rw [HF.out, HD.out, h34, qt_end]; simp [upQ])
        have e34 : (((s[j]'hlt).toNat : Int) == 34) = true := by rw [hch]; simpa using h34
        by_cases hl : 4096 < zs.length
        · have hl2 : (4096 : Int) < (zs.length : Int) := by omega
          have HL := Lib.hid hl
          clear hch h34 hcb hl
          go_wp2
          go_ret3
          exact RQ.long HE.out HBB.out HL.out
        · have hl2 : ¬ (4096 : Int) < (zs.length : Int) := by omega
          have HL := Lib.hid hl
          have hcv := rb_str HRB.out c
          clear hch h34 hcb hl
          go_wp2
          go_ret3
          exact RQ.yes HE.out HBB.out HL.out (by have := HKJ.out; omega)
      have e34 : (((s[j]'hlt).toNat : Int) == 34) = false := by rw [hch]; simpa using h34
      by_cases h92 : ch = 92
      · have n92 : (((s[j]'hlt).toNat : Int) != 92) = false := by rw [hch]; simpa using h92
        have lo : ¬ ((s[j]'hlt).toNat : Int) < 32 := by omega
        have hi2 : ¬ 126 < ((s[j]'hlt).toNat : Int) := by omega
        have HF2 := Lib.hid (show qtP (L.drop (i + 1)) = upQ zs k (qtP (92 :: L.drop (j + 1))) by rw [HF.out, HD.out, h92])
        by_cases hlt1 : j + 1 < s.size
        · have hi1 : (j : Int) + 1 < (s.size : Int) := by omega
          have hub1 := (s[j + 1]'hlt1).toNat_lt
          obtain ⟨d, hd⟩ : ∃ d : Int, ((s[j + 1]'hlt1).toNat : Int) = d := ⟨_, rfl⟩
          have HD1 := Lib.hid (show L.drop (j + 1) = d :: L.drop (j + 2) from (HC.out (j + 1) hlt1).trans (by rw [← hd]))
          have hd0 : 0 ≤ d := by omega
          have hd1 : d ≤ 255 := by omega
          have HLT1 := Lib.hid hlt1
          clear hcb hch hub1
          by_cases hs1 : d = 34 ∨ d = 92
          · have HE := Lib.hid (show qtP (L.drop (i + 1)) = upQ (zs ++ [d]) (k + 2) (qtP (L.drop (j + 2))) by rw [HF2.out, HD1.out, qt_same hs1, upQ_upQ])
            have hcb : 0 ≤ d ∧ d ≤ 255 := ⟨hd0, hd1⟩
            rw [← hd] at HE hcb
            rcases hs1 with h1 | h1
            · have f34 : (((s[j + 1]'hlt1).toNat : Int) == 34) = true := by rw [hd]; simpa using h1
              clear h34 h92 h1 hd
              go_wp2_with ((at_builtin; go_loud (refine ob_append rfl (.tmp 53) (.tmp 57) rfl w.heap.size _ zs rfl (HOB.out.alloc _) _ 1 1 [((s[j + 1]'hlt1).toNat : Int)] rfl (rb_one1 _ _ hcb) (by have := ZL.out; omega) (Nat.le_trans HBB.out.size (by simp)) ?_; intro v' w3 hown' hb3 hg3; have OB3 := Lib.hid hown'; have B3 := Lib.hid ((HBB.out.alloc HBB.out.size _).trans hb3); obtain ⟨A', c', hv', -, -, -⟩ := hown'.form; rw [show (zs ++ [((s[j + 1]'hlt1).toNat : Int)]).length = zs.length + 1 from len_snoc zs _] at hv'; subst hv'; clear hown' hb3 hg3)))
              go_roundw
              case rel => exact ⟨zs ++ [((s[j + 1]'hlt1).toNat : Int)], k + 2, j + 2, by go_num, OB3.out, B3.out, by have := HKJ.out; omega, by have := HKZ.out; simp; omega, by have := HLT.out; omega, HE.out⟩
              case measure => have := HLT.out; simp [intOf]; omega
            · have f34 : (((s[j + 1]'hlt1).toNat : Int) == 34) = false := by rw [hd]; simp; omega
              have f92 : (((s[j + 1]'hlt1).toNat : Int) == 92) = true := by rw [hd]; simpa using h1
              clear h34 h92 h1 hd
              go_wp2_with ((at_builtin; go_loud (refine ob_append rfl (.tmp 53) (.tmp 57) rfl w.heap.size _ zs rfl (HOB.out.alloc _) _ 1 1 [((s[j + 1]'hlt1).toNat : Int)] rfl (rb_one1 _ _ hcb) (by have := ZL.out; omega) (Nat.le_trans HBB.out.size (by simp)) ?_; intro v' w3 hown' hb3 hg3; have OB3 := Lib.hid hown'; have B3 := Lib.hid ((HBB.out.alloc HBB.out.size _).trans hb3); obtain ⟨A', c', hv', -, -, -⟩ := hown'.form; rw [show (zs ++ [((s[j + 1]'hlt1).toNat : Int)]).length = zs.length + 1 from len_snoc zs _] at hv'; subst hv'; clear hown' hb3 hg3)))
              go_roundw
              case rel => exact ⟨zs ++ [((s[j + 1]'hlt1).toNat : Int)], k + 2, j + 2, by go_num, OB3.out, B3.out, by have := HKJ.out; omega, by have := HKZ.out; simp; omega, by have := HLT.out; omega, HE.out⟩
              case measure => have := HLT.out; simp [intOf]; omega
          have f34 : (((s[j + 1]'hlt1).toNat : Int) == 34) = false := by rw [hd]; simp; omega
          have f92 : (((s[j + 1]'hlt1).toNat : Int) == 92) = false := by rw [hd]; simp; omega
          by_cases h110 : d = 110
          · have HE := Lib.hid (show qtP (L.drop (i + 1)) = upQ (zs ++ [(10 : Int)]) (k + 2) (qtP (L.drop (j + 2))) by rw [HF2.out, HD1.out, h110, qt_n, upQ_upQ])
            have f110 : (((s[j + 1]'hlt1).toNat : Int) == 110) = true := by rw [hd]; simpa using h110
            have hcb : (0 : Int) ≤ (10 : Int) ∧ ((10 : Int) : Int) ≤ 255 := by omega
            clear h34 h92 hd h110 hs1
            go_wp2_with ((at_builtin; go_loud (refine ob_append rfl (.tmp 61) (.tmp 62) rfl w.heap.size _ zs rfl (HOB.out.alloc _) _ 1 1 [(10 : Int)] rfl (rb_one1 _ _ hcb) (by have := ZL.out; omega) (Nat.le_trans HBB.out.size (by simp)) ?_; intro v' w3 hown' hb3 hg3; have OB3 := Lib.hid hown'; have B3 := Lib.hid ((HBB.out.alloc HBB.out.size _).trans hb3); obtain ⟨A', c', hv', -, -, -⟩ := hown'.form; rw [show (zs ++ [(10 : Int)]).length = zs.length + 1 from len_snoc zs _] at hv'; subst hv'; clear hown' hb3 hg3)))
            go_roundw
            case rel => exact ⟨zs ++ [(10 : Int)], k + 2, j + 2, by go_num, OB3.out, B3.out, by have := HKJ.out; omega, by have := HKZ.out; simp; omega, by have := HLT.out; omega, HE.out⟩
            case measure => have := HLT.out; simp [intOf]; omega
          have f110 : (((s[j + 1]'hlt1).toNat : Int) == 110) = false := by rw [hd]; simpa using h110
          by_cases h116 : d = 116
          · have HE := Lib.hid (show qtP (L.drop (i + 1)) = upQ (zs ++ [(9 : Int)]) (k + 2) (qtP (L.drop (j + 2))) by rw [HF2.out, HD1.out, h116, qt_t, upQ_upQ])
            have f116 : (((s[j + 1]'hlt1).toNat : Int) == 116) = true := by rw [hd]; simpa using h116
            have hcb : (0 : Int) ≤ (9 : Int) ∧ ((9 : Int) : Int) ≤ 255 := by omega
            clear h34 h92 hd h116 hs1
            go_wp2_with ((at_builtin; go_loud (refine ob_append rfl (.tmp 66) (.tmp 67) rfl w.heap.size _ zs rfl (HOB.out.alloc _) _ 1 1 [(9 : Int)] rfl (rb_one1 _ _ hcb) (by have := ZL.out; omega) (Nat.le_trans HBB.out.size (by simp)) ?_; intro v' w3 hown' hb3 hg3; have OB3 := Lib.hid hown'; have B3 := Lib.hid ((HBB.out.alloc HBB.out.size _).trans hb3); obtain ⟨A', c', hv', -, -, -⟩ := hown'.form; rw [show (zs ++ [(9 : Int)]).length = zs.length + 1 from len_snoc zs _] at hv'; subst hv'; clear hown' hb3 hg3)))
            go_roundw
            case rel => exact ⟨zs ++ [(9 : Int)], k + 2, j + 2, by go_num, OB3.out, B3.out, by have := HKJ.out; omega, by have := HKZ.out; simp; omega, by have := HLT.out; omega, HE.out⟩
            case measure => have := HLT.out; simp [intOf]; omega
          have f116 : (((s[j + 1]'hlt1).toNat : Int) == 116) = false := by rw [hd]; simpa using h116
          by_cases h120 : d = 120
          · have f120 : (((s[j + 1]'hlt1).toNat : Int) == 120) = true := by rw [hd]; simpa using h120
            have HF3 := Lib.hid (show qtP (L.drop (i + 1)) = upQ zs k (qtP (92 :: 120 :: L.drop (j + 2))) by rw [HF2.out, HD1.out, h120])
            clear h34 h92 hd h120 h110 h116 hs1
            by_cases hlt2 : j + 2 < s.size
            · have hi3 : (j : Int) + 1 + 1 < (s.size : Int) := by omega
              have hub2 := (s[j + 1 + 1]'hlt2).toNat_lt
              have CH := Lib.hid fun W => wrHex ((s[j + 1 + 1]'hlt2).toNat : Int) W (by omega)
              obtain ⟨a, ha⟩ : ∃ a : Int, ((s[j + 1 + 1]'hlt2).toNat : Int) = a := ⟨_, rfl⟩
              have HD2 := Lib.hid (show L.drop (j + 2) = a :: L.drop (j + 3) from (HC.out (j + 2) hlt2).trans (by rw [← ha]))
              rcases hx : hexB a with _ | _
              · have HE := Lib.hid (show qtP (L.drop (i + 1)) = (none, k + 2) by rw [HF3.out, HD2.out, qt_x1 hx]; simp [upQ])
                rw [ha, hx, if_neg (by simp), ← ha] at CH
                clear hx ha hub2
                go_wp2
                refine wp_loop_rounds 1 ?_
                rw [rounds_succ]
                go_wp2_with ((go_at_call 65; go_loud (refine (CH.out _).mono ?_; rintro e wz ⟨rfl, rfl⟩)))
                go_ret3
                exact RQ.no (n := k + 2) HE.out HBB.out (by have := HKJ.out; omega)
              · have HVA := hexV_le hx
                rw [ha, hx, if_pos rfl] at CH
                obtain ⟨va, hva⟩ : ∃ v, hexV a = v := ⟨_, rfl⟩
                rw [hva] at CH HVA
                rw [← ha] at CH
                obtain ⟨va0, va1⟩ := HVA
                by_cases hlt3 : j + 3 < s.size
                · have hi4 : (j : Int) + 1 + 2 < (s.size : Int) := by omega
                  have hub3 := (s[j + 1 + 2]'hlt3).toNat_lt
                  have CH3 := Lib.hid fun W => wrHex ((s[j + 1 + 2]'hlt3).toNat : Int) W (by omega)
                  obtain ⟨l, hl⟩ : ∃ l : Int, ((s[j + 1 + 2]'hlt3).toNat : Int) = l := ⟨_, rfl⟩
                  have HD3 := Lib.hid (show L.drop (j + 3) = l :: L.drop (j + 4) from (HC.out (j + 3) hlt3).trans (by rw [← hl]))
                  rcases hy : hexB l with _ | _
                  · have HE := Lib.hid (show qtP (L.drop (i + 1)) = (none, k + 3) by rw [HF3.out, HD2.out, HD3.out, qt_x3 hx hy]; simp [upQ])
                    rw [hl, hy, if_neg (by simp), ← hl] at CH3
                    clear hx ha hub2 hub3 hy hl hva
                    go_wp2
                    refine wp_loop_rounds 2 ?_
                    rw [rounds_succ]
                    go_wp2_with ((go_at_call 65; go_loud (refine (CH.out _).mono ?_; rintro e wz ⟨rfl, rfl⟩)))
                    rw [rounds_succ]
                    go_wp2_with ((go_at_call 65; go_loud (refine (CH3.out _).mono ?_; rintro e wz ⟨rfl, rfl⟩)))
                    go_ret3
                    exact RQ.no (n := k + 3) HE.out HBB.out (by have := HKJ.out; omega)
                  · have HVB := hexV_le hy
                    rw [hl, hy, if_pos rfl] at CH3
                    obtain ⟨vb, hvb⟩ : ∃ v, hexV l = v := ⟨_, rfl⟩
                    rw [hvb] at CH3 HVB
                    rw [← hl] at CH3
                    obtain ⟨vb0, vb1⟩ := HVB
                    have HE := Lib.hid (show qtP (L.drop (i + 1)) = upQ (zs ++ [va * 16 + vb]) (k + 4) (qtP (L.drop (j + 4))) by rw [HF3.out, HD2.out, HD3.out, qt_x hx hy, upQ_upQ, hva, hvb])
                    have hcb : 0 ≤ va * 16 + vb ∧ va * 16 + vb ≤ 255 := by omega
                    have hm1 : va * 16 + vb ≤ 255 := by omega
                    have hm0 : 0 ≤ va * 16 + vb := by omega
                    clear hx ha hub2 hub3 hy hl hva hvb
                    go_wp2
                    refine wp_loop_rounds 3 ?_
                    rw [rounds_succ]
                    go_wp2_with ((go_at_call 65; go_loud (refine (CH.out _).mono ?_; rintro e wz ⟨rfl, rfl⟩)))
                    rw [rounds_succ]
                    go_wp2_with ((go_at_call 65; go_loud (refine (CH3.out _).mono ?_; rintro e wz ⟨rfl, rfl⟩)))
                    rw [rounds_succ]
                    go_wp2
                    have HOD := Lib.hid HOB.out.drew
                    have hw1 : IntKind.i64.wrap ((j : Int) + 1 + 1) = (j : Int) + 1 + 1 := IntWalk.i64_in _ (by omega)
                    have hw2 : IntKind.i64.wrap ((j : Int) + 1 + 2) = (j : Int) + 1 + 2 := IntWalk.i64_in _ (by omega)
                    have hw3 : IntKind.i64.wrap (va * 16) = va * 16 := IntWalk.i64_in _ (by omega)
                    have hw4 : IntKind.i64.wrap (va * 16 + vb) = va * 16 + vb := IntWalk.i64_in _ (by omega)
                    have hp1 : (0 : Int) ≤ (j : Int) + 1 + 1 := by omega
                    have hp2 : (0 : Int) ≤ (j : Int) + 1 + 2 := by omega
                    have ht1 : ((j : Int) + 1 + 1).toNat = j + 1 + 1 := by omega
                    have ht2 : ((j : Int) + 1 + 2).toNat = j + 1 + 2 := by omega
                    have HBD := Lib.hid HBB.out.drew
                    have HOS := Lib.hid HOB.out.so
                    have hw5 : IntKind.u8.wrap (va * 16 + vb) = va * 16 + vb := by simp only [IntKind.wrap, IntKind.bits, IntKind.signed]; simp; omega
                    go_region_held3 (fun W' => OB w.heap.size W' (.slice none 0 0) []) (exact OB.nil _ _) (first | (go_at_call 65; with_reducible refine (CH.out _).mono ?_; rintro e wz ⟨rfl, rfl⟩) | (go_at_call 65; with_reducible refine (CH3.out _).mono ?_; rintro e wz ⟨rfl, rfl⟩) | (refine so_step seU_ok (by rfl) (.tmp 93) (.tmp 107) (by rfl) _ (by rfl) ((HOS.out.alloc _).drew) _ 1 1 [Value.int .u8 (va * 16 + vb)] (by rfl) ((sb_u8 wr (va * 16 + vb)).gw ((Below.refl _ _).drew)) (by have := ZL.out; omega) (Nat.le_trans HBB.out.size (by simp)) ?_; intro v' w3 hs3 hb3; have OB3 := Lib.hid (show OB w.heap.size w3 v' (zs ++ [va * 16 + vb]) from SO.ob hs3 HOD.out.byte hcb); have B3 := Lib.hid ((HBB.out.alloc HBB.out.size _).drew.trans hb3); obtain ⟨A', c', hv', -, -, -⟩ := OB3.out.form; rw [show (zs ++ [va * 16 + vb]).length = zs.length + 1 from len_snoc zs _] at hv'; subst hv'; clear hs3 hb3))
                    all_goals
                      clear hw1 hw2 hw3 hw4 hw5
                      go_wp2
                      go_roundw
                      case rel => exact ⟨zs ++ [va * 16 + vb], k + 4, j + 4, by go_num, OB3.out, B3.out, by have := HKJ.out; omega, by have := HKZ.out; simp; omega, hlt3, HE.out⟩
                      case measure => have := HLT.out; simp [intOf]; omega
                · have HE := Lib.hid (show qtP (L.drop (i + 1)) = (none, k + 3) by rw [HF3.out, HD2.out, HEND.out (j + 3) (by omega), qt_x2 hx]; simp [upQ])
                  have hge : (s.size : Int) ≤ (j : Int) + 1 + 2 := by omega
                  have HSZ := Lib.hid (show s.size = j + 3 by omega)
                  clear hx ha hub2 hva
                  go_wp2
                  refine wp_loop_rounds 2 ?_
                  rw [rounds_succ]
                  go_wp2_with ((go_at_call 65; go_loud (refine (CH.out _).mono ?_; rintro e wz ⟨rfl, rfl⟩)))
                  rw [rounds_succ]
                  go_wp2
                  go_ret3
                  exact RQ.no (n := k + 3) HE.out HBB.out (by have := HKJ.out; have := HSZ.out; omega)
            · have HE := Lib.hid (show qtP (L.drop (i + 1)) = (none, k + 2) by rw [HF3.out, HEND.out (j + 2) (by omega), qt_x0]; simp [upQ])
              have hge : (s.size : Int) ≤ (j : Int) + 1 + 1 := by omega
              have HSZ := Lib.hid (show s.size = j + 2 by omega)
              go_wp2
              refine wp_loop_rounds 1 ?_
              rw [rounds_succ]
              go_wp2
              go_ret3
              exact RQ.no (n := k + 2) HE.out HBB.out (by have := HKJ.out; have := HSZ.out; omega)
          · have HE := Lib.hid (show qtP (L.drop (i + 1)) = (none, k + 1) by rw [HF2.out, HD1.out, qt_other (by omega) (by omega) h110 h116 h120]; simp [upQ])
            have f120 : (((s[j + 1]'hlt1).toNat : Int) == 120) = false := by rw [hd]; simpa using h120
            clear h34 h92 hd h120 h110 h116 hs1
            go_wp2
            go_ret3
            exact RQ.no (n := k + 1) HE.out HBB.out (by have := HKJ.out; omega)
        · have HE := Lib.hid (show qtP (L.drop (i + 1)) = (none, k + 1) by rw [HF2.out, HEND.out (j + 1) (by omega), qt_esc0]; simp [upQ])
          have hge : (s.size : Int) ≤ (j : Int) + 1 := by omega
          have HSZ := Lib.hid (show s.size = j + 1 by omega)
          clear h34 h92 hch hcb
          go_wp2
          go_ret3
          exact RQ.no (n := k + 1) HE.out HBB.out (by have := HKJ.out; have := HSZ.out; omega)
      · have n92 : (((s[j]'hlt).toNat : Int) != 92) = true := by rw [hch]; simpa using h92
        cases hp : plnB ch with
        | true =>
          have hpp : 32 ≤ ch ∧ ch ≤ 126 := by unfold plnB at hp; simp at hp; omega
          have lo : ¬ ((s[j]'hlt).toNat : Int) < 32 := by omega
          have hi2 : ¬ 126 < ((s[j]'hlt).toNat : Int) := by omega
          have HE := Lib.hid (show qtP (L.drop (i + 1)) = upQ (zs ++ [ch]) (k + 1) (qtP (L.drop (j + 1))) by rw [HF.out, HD.out, qt_plain hp, upQ_upQ])
          rw [← hch] at HE hcb
          clear h34 h92 hch hp hpp
          go_wp2_with ((at_builtin; go_loud (refine ob_append rfl (.tmp 36) (.tmp 38) rfl w.heap.size _ zs rfl (HOB.out.alloc _) _ 1 1 [((s[j]'hlt).toNat : Int)] rfl (rb_one1 _ _ hcb) (by have := ZL.out; omega) (Nat.le_trans HBB.out.size (by simp)) ?_; intro v' w3 hown' hb3 hg3; have OB3 := Lib.hid hown'; have B3 := Lib.hid ((HBB.out.alloc HBB.out.size _).trans hb3); obtain ⟨A', c', hv', -, -, -⟩ := hown'.form; rw [show (zs ++ [((s[j]'hlt).toNat : Int)]).length = zs.length + 1 from len_snoc zs _] at hv'; subst hv'; clear hown' hb3 hg3)))
          go_roundw
          case rel => exact ⟨zs ++ [((s[j]'hlt).toNat : Int)], k + 1, j + 1, by go_num, OB3.out, B3.out, by have := HKJ.out; omega, by have := HKZ.out; simp; omega, by have := HLT.out; omega, HE.out⟩
          case measure => have := HLT.out; simp [intOf]; omega
        | false =>
          have HE := Lib.hid (show qtP (L.drop (i + 1)) = (none, k) by rw [HF.out, HD.out, qt_bad hp h34 h92]; simp [upQ])
          by_cases lo : ((s[j]'hlt).toNat : Int) < 32
          · clear h34 h92 hch hcb hp
            go_wp2
            go_ret3
            exact RQ.no (n := k) HE.out HBB.out (by have := HKJ.out; omega)
          · have hi2 : 126 < ((s[j]'hlt).toNat : Int) := by
              unfold plnB at hp
              rw [decide_eq_false_iff_not] at hp
              omega
            clear h34 h92 hch hcb hp
            go_wp2
            go_ret3
            exact RQ.no (n := k) HE.out HBB.out (by have := HKJ.out; omega)
    · have HE := Lib.hid (show qtP (L.drop (i + 1)) = (none, k) by rw [HF.out, HEND.out j (by omega), qt_nil]; simp [upQ])
      have HSZ := Lib.hid (show s.size = j by omega)
      have hge : (s.size : Int) ≤ (j : Int) := by omega
      clear hkj hkz
      go_wp2
      go_ret3
      exact RQ.no (n := k) HE.out HBB.out (by have := HKJ.out; have := HSZ.out; omega)
end Go.Proofs.YtagangneoibbcaaDoor
