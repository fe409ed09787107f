/- Layer 12: appendQuoted, Quote. -/
import Derived.Test.YtagangneoibbcaaDoorLxBk
import Derived.Test.YtagangneoibbcaaDoorLxQ2
import Derived.Test.YtagangneoibbcaaDoorLxR4
set_option linter.unusedVariables false
namespace Go.Proofs.YtagangneoibbcaaDoor
set_option maxRecDepth 100000
open Go.RowKit

theorem rb_two (w : World) (z y : Int) (h : 0 ≤ z ∧ z ≤ 255) (h2 : 0 ≤ y ∧ y ≤ 255) : RB (w.alloc (.cells #[.int .u8 z, .int .u8 y] 5)) (some ⟨w.heap.size, 0, none⟩) 2 [z, y] := by
  have := RB.new w (zs := [z, y]) (e := 5) (fr := (0, 0)) (by simp; omega)
  simpa using this
def hexLit : ByteArray := ⟨#[48, 49, 50, 51, 52, 53, 54, 55, 56, 57, 97, 98, 99, 100, 101, 102]⟩
theorem hex_lit : ∀ q : Fin 16, ((hexLit[q.1]'q.2).toNat : Int) = hexD (q.1 : Int) := by decide
theorem rb_four (w : World) (z y x u : Int) (h : 0 ≤ z ∧ z ≤ 255) (h2 : 0 ≤ y ∧ y ≤ 255) (h3 : 0 ≤ x ∧ x ≤ 255) (h4 : 0 ≤ u ∧ u ≤ 255) : SB (w.alloc (.cells #[.int .u8 z, .int .u8 y, .int .u8 x, .int .u8 u] 5)) (some ⟨w.heap.size, 0, none⟩) (seU.s * 4) [Value.int .u8 z, .int .u8 y, .int .u8 x, .int .u8 u] := by
  refine ⟨rfl, by simp [Value.oneCell'], fun _ => ⟨w.heap.size, 0, rfl, fun j u hj => ?_⟩⟩
  rw [cell_of_row _ _ _ _ _ _ (heap_alloc_new w _)]
  simpa using hj
theorem SO.ob4 {base n : Nat} {w : World} {v : Value} {zs : List Int} {a b c d : Int} (h : SO seU base w v n (zs.map (Value.int .u8) ++ [.int .u8 a, .int .u8 b, .int .u8 c, .int .u8 d])) (hz : ∀ x ∈ zs, 0 ≤ x ∧ x ≤ 255) (ha : ∀ x ∈ [a, b, c, d], 0 ≤ x ∧ x ≤ 255) : OB base w v (zs ++ [a, b, c, d]) := by
  have hl := h.len
  simp only [List.length_append, List.length_map, List.length_cons, List.length_nil, seU, Nat.one_mul] at hl
  subst hl
  refine ⟨by have := h.own; simpa [seU] using this, fun x hx => ?_⟩
  rcases List.mem_append.1 hx with hx | hx
  · exact hz x hx
  · exact ha x hx
theorem qb_len (c : Int) : (qbP c).length ≤ 4 := by unfold qbP; (repeat' split) <;> simp
set_option maxHeartbeats 16000000 in
theorem wAppQ {base : Nat} {w : World} {v : Value} {zs : List Int} (hob : OB base w v zs) (c : Int) (hc : 0 ≤ c ∧ c ≤ 255) (hz : zs.length ≤ 100000) (hbase : base ≤ w.heap.size) :
    Calls Tryd.prog 37 #[v, .int .i32 c] w fun e w' => ∃ v', e = .returned v' ∧ OB base w' v' (zs ++ qbP c) ∧ Below base w w' := by
  have CP := Lib.hid fun W => wPlain c W
  have HOB := Lib.hid hob
  have ZL := Lib.hid hz
  have HBS := Lib.hid hbase
  obtain ⟨c0, c1⟩ := hc
  have HC := Lib.hid (And.intro c0 c1)
  have B0 := Lib.hid (show Below base w w from Below.refl _ _)
  clear hob hz hbase
  by_cases h1 : plnB c = true
  · rw [h1] at CP
    have HQ := Lib.hid (show qbP c = [c] by unfold qbP; rw [if_pos h1])
    clear h1
    go_enter Tryd.func37, Tryd.ntmps37
    go_wp2_with (first
      | (go_at_call 59; go_loud (refine (CP.out _).mono ?_; rintro e w2 ⟨rfl, rfl⟩))
      | (at_builtin; go_loud (refine ob_append rfl (.tmp 8) (.tmp 11) rfl base _ zs rfl (HOB.out.alloc _) _ 1 1 [c] rfl (rb_one1 _ _ HC.out) (by have := ZL.out; omega) (by have := HBS.out; simp; omega) ?_; intro v' w3 hown' hb3 hg3; have OB3 := Lib.hid hown'; have B3 := Lib.hid ((B0.out.alloc HBS.out _).trans hb3); clear hown' hb3 hg3)))
    go_ret
    exact ⟨_, rfl, by rw [HQ.out]; exact OB3.out, B3.out⟩
  · have h1' : plnB c = false := by simpa using h1
    rw [h1'] at CP
    clear h1'
    by_cases h2 : c = 34 ∨ c = 92
    · have HQ := Lib.hid (show qbP c = [92, c] by unfold qbP; rw [if_neg h1, if_pos h2])
      clear h1
      rcases h2 with rfl | rfl
      all_goals
        (go_enter Tryd.func37, Tryd.ntmps37
         go_wp2_with (first
           | (go_at_call 59; go_loud (refine (CP.out _).mono ?_; rintro e w2 ⟨rfl, rfl⟩))
           | (at_builtin; go_loud (refine ob_append rfl (.tmp 20) (.tmp 23) rfl base _ zs rfl (HOB.out.alloc _) _ 2 2 _ rfl (rb_two _ _ _ (by decide) HC.out) (by have := ZL.out; omega) (by have := HBS.out; simp; omega) ?_; intro v' w3 hown' hb3 hg3; have OB3 := Lib.hid hown'; have B3 := Lib.hid ((B0.out.alloc HBS.out _).trans hb3); clear hown' hb3 hg3)))
         go_ret
         exact ⟨_, rfl, by rw [HQ.out]; exact OB3.out, B3.out⟩)
    · by_cases h3 : c = 10
      · have HQ := Lib.hid (show qbP c = [92, 110] by unfold qbP; rw [if_neg h1, if_neg h2, if_pos h3])
        subst h3
        clear h1 h2
        go_enter Tryd.func37, Tryd.ntmps37
        go_wp2_with (first
          | (go_at_call 59; go_loud (refine (CP.out _).mono ?_; rintro e w2 ⟨rfl, rfl⟩))
          | (at_builtin; go_loud (refine ob_append rfl (.tmp 28) (.tmp 29) rfl base _ zs rfl (HOB.out.alloc _) _ 2 2 _ rfl (rb_two _ _ _ (by decide) (by decide)) (by have := ZL.out; omega) (by have := HBS.out; simp; omega) ?_; intro v' w3 hown' hb3 hg3; have OB3 := Lib.hid hown'; have B3 := Lib.hid ((B0.out.alloc HBS.out _).trans hb3); clear hown' hb3 hg3)))
        go_ret
        exact ⟨_, rfl, by rw [HQ.out]; exact OB3.out, B3.out⟩
      · by_cases h4 : c = 9
        · have HQ := Lib.hid (show qbP c = [92, 116] by unfold qbP; rw [if_neg h1, if_neg h2, if_neg h3, if_pos h4])
          subst h4
          clear h1 h2 h3
          go_enter Tryd.func37, Tryd.ntmps37
          go_wp2_with (first
            | (go_at_call 59; go_loud (refine (CP.out _).mono ?_; rintro e w2 ⟨rfl, rfl⟩))
            | (at_builtin; go_loud (refine ob_append rfl (.tmp 34) (.tmp 35) rfl base _ zs rfl (HOB.out.alloc _) _ 2 2 _ rfl (rb_two _ _ _ (by decide) (by decide)) (by have := ZL.out; omega) (by have := HBS.out; simp; omega) ?_; intro v' w3 hown' hb3 hg3; have OB3 := Lib.hid hown'; have B3 := Lib.hid ((B0.out.alloc HBS.out _).trans hb3); clear hown' hb3 hg3)))
          go_ret
          exact ⟨_, rfl, by rw [HQ.out]; exact OB3.out, B3.out⟩
        · have HQ := Lib.hid (show qbP c = [92, 120, hexD (c / 16), hexD (c % 16)] by unfold qbP; rw [if_neg h1, if_neg h2, if_neg h3, if_neg h4])
          have e1 : (c == 34) = false := by simp; omega
          have e2 : (c == 92) = false := by simp; omega
          have e3 : (c == 10) = false := by simp; omega
          have e4 : (c == 9) = false := by simp; omega
          obtain ⟨q1, hq1⟩ : ∃ q : Nat, c / 16 = (q : Int) := ⟨(c / 16).toNat, by omega⟩
          obtain ⟨q2, hq2⟩ : ∃ q : Nat, c % 16 = (q : Int) := ⟨(c % 16).toNat, by omega⟩
          have k1 : q1 < 16 := by omega
          have k2 : q2 < 16 := by omega
          rw [hq1, hq2] at HQ
          have j1 : c.tdiv 16 = (q1 : Int) := by rw [Int.tdiv_eq_ediv_of_nonneg c0]; exact hq1
          have j2 : c.tmod 16 = (q2 : Int) := by rw [Int.tmod_eq_emod_of_nonneg c0]; exact hq2
          have w1 : IntKind.i32.wrap (q1 : Int) = (q1 : Int) := by simp only [IntKind.wrap, IntKind.bits, IntKind.signed]; simp; omega
          have t1 : (q1 : Int) < 16 := by omega
          have t2 : (q2 : Int) < 16 := by omega
          obtain ⟨y1, hy1⟩ : ∃ x, (((⟨#[48, 49, 50, 51, 52, 53, 54, 55, 56, 57, 97, 98, 99, 100, 101, 102]⟩ : ByteArray)[q1]'k1).toNat : Int) = x := ⟨_, rfl⟩
          obtain ⟨y2, hy2⟩ : ∃ x, (((⟨#[48, 49, 50, 51, 52, 53, 54, 55, 56, 57, 97, 98, 99, 100, 101, 102]⟩ : ByteArray)[q2]'k2).toNat : Int) = x := ⟨_, rfl⟩
          have Y1 := Lib.hid (show y1 = hexD q1 from hy1.symm.trans (hex_lit ⟨q1, k1⟩))
          have Y2 := Lib.hid (show y2 = hexD q2 from hy2.symm.trans (hex_lit ⟨q2, k2⟩))
          have HBY := Lib.hid (show ∀ x ∈ [(92 : Int), 120, y1, y2], 0 ≤ x ∧ x ≤ 255 from fun x hx => by
            have hd : ∀ d : Int, 0 ≤ d → d < 16 → 0 ≤ hexD d ∧ hexD d ≤ 255 := fun d _ _ => by unfold hexD; split <;> omega
            have := hd q1 (by omega) t1
            have := hd q2 (by omega) t2
            rw [← Y1.out] at *
            rw [← Y2.out] at *
            simp at hx
            rcases hx with rfl | rfl | rfl | rfl <;> omega)
          have HOS := Lib.hid HOB.out.so
          clear h1 h2 h3 h4 hq1 hq2
          go_enter Tryd.func37, Tryd.ntmps37
          go_upto_region 9 with (go_at_call 59; go_loud (refine (CP.out _).mono ?_; rintro e w2 ⟨rfl, rfl⟩))
          go_region_held3 (fun W' => OB base W' (.slice none 0 0) []) (exact OB.nil _ _) (first | (refine so_step seU_ok (by rfl) (.tmp 37) (.tmp 44) (by rfl) _ (by rfl) ((HOS.out.alloc _).drew) _ 4 4 [Value.int .u8 92, .int .u8 120, .int .u8 y1, .int .u8 y2] (by rfl) ((rb_four w 92 120 y1 y2 (by decide) (by decide) (HBY.out y1 (by simp)) (HBY.out y2 (by simp))).gw ((Below.refl _ _).drew)) (by have := ZL.out; omega) (by have := HBS.out; simp; omega) ?_; intro v' w3 hs3 hb3; have OB3 := Lib.hid (SO.ob4 hs3 HOB.out.byte HBY.out); have B3 := Lib.hid ((B0.out.alloc HBS.out _).trans (((Below.refl _ _).drew).trans hb3)); clear hs3 hb3))
          all_goals
            go_wp2
            go_ret
            exact ⟨_, rfl, by rw [HQ.out, ← Y1.out, ← Y2.out]; exact OB3.out, B3.out⟩
theorem qs_len (L : List Int) : (L.flatMap qbP).length ≤ 4 * L.length := by
  induction L with
  | nil => simp
  | cons c L ih => rw [List.flatMap_cons, List.length_append, List.length_cons]; have := qb_len c; omega
theorem qs_snoc {L : List Int} {j : Nat} {c : Int} (h : L[j]? = some c) : (L.take (j + 1)).flatMap qbP = (L.take j).flatMap qbP ++ qbP c := by
  rw [List.take_add_one, h, Option.toList_some, List.flatMap_append]; simp
set_option maxHeartbeats 16000000 in
theorem wQuote (b : ByteArray) (w : World) (hb : b.size ≤ 4096) :
    Calls Tryd.prog 22 #[.string b] w fun e w' => e = .returned (.tuple #[.string (strOfNums (quoteP (strB b))), .int .i64 0]) ∧ Below w.heap.size w w' := by
  obtain ⟨L, hL⟩ : ∃ L, strB b = L := ⟨_, rfl⟩
  have HLL := Lib.hid (show L.length = b.size by rw [← hL]; exact strB_len b)
  have HLB := Lib.hid (show ∀ z ∈ L, 0 ≤ z ∧ z ≤ 255 by rw [← hL]; exact strB_byte b)
  have HC := Lib.hid (fun (j : Nat) (h : j < b.size) => (show L[j]? = some ((b[j]'h).toNat : Int) by
    have hl : j < L.length := by rw [HLL.out]; exact h
    have h1 := chP_at b j h
    rw [hL] at h1
    rw [List.getElem?_eq_getElem hl, ← h1]
    unfold chP
    rw [List.getD_eq_getElem?_getD, List.getElem?_eq_getElem hl]; rfl))
  have h1 : ¬ (4096 : Int) < (b.size : Int) := by omega
  obtain ⟨n, hn⟩ : ∃ n, b.size = n := ⟨_, rfl⟩
  have HN := Lib.hid hn
  have HNB := Lib.hid (show n ≤ 4096 by omega)
  obtain ⟨W0, hW0⟩ : ∃ X, w.alloc (.cells #[.int .u8 34] 5) = X := ⟨_, rfl⟩
  have HW0 := Lib.hid hW0
  have B0 := Lib.hid (show Below w.heap.size w W0 by rw [← hW0]; exact (Below.refl _ _).alloc (Nat.le_refl _) _)
  have OB0 := Lib.hid (show OB w.heap.size W0 (.slice (some ⟨w.heap.size, 0, none⟩) 1 1) [34] by
    rw [← hW0]
    refine ⟨⟨rfl, .inr ⟨w.heap.size, 1, #[.int .u8 34], rfl, Nat.le_refl _, heap_alloc_new w _, Nat.le_refl _, by simp [maxLen], rfl, rfl⟩⟩, by simp⟩)
  rw [hL]
  clear hL hW0 hb
  go_enter Tryd.func22, Tryd.ntmps22
  go_upto_region 5 with fail
  rw [HW0.out]
  go_loopw [4, 12] (fun lv iv wr => ∃ j : Nat, iv = .int .i64 (j : Nat) ∧ j ≤ n ∧ OB w.heap.size wr lv (34 :: (L.take j).flatMap qbP) ∧ Below w.heap.size w wr) (fun _ iv _ => n - (intOf iv).toNat)
  case atStart => exact ⟨0, rfl, Nat.zero_le _, OB0.out, B0.out⟩
  case round =>
    rename World => wr
    obtain ⟨j, rfl, hj, hob, hbl⟩ := hrel
    have HLEN := Lib.hid (show (34 :: (L.take j).flatMap qbP).length ≤ 20000 by
      have := qs_len (L.take j)
      rw [List.length_take] at this
      rw [List.length_cons]
      have := HNB.out
      omega)
    obtain ⟨zs, hzs⟩ : ∃ zs, 34 :: (L.take j).flatMap qbP = zs := ⟨_, rfl⟩
    have HZS := Lib.hid hzs
    rw [hzs] at hob HLEN
    clear hzs
    by_cases hlt : j < n
    · have hlb : j < b.size := by omega
      have hcj := HC.out j hlb
      have hcb := HLB.out _ (List.mem_of_getElem? hcj)
      have HS := Lib.hid (qs_snoc hcj)
      obtain ⟨cv, hcv⟩ : ∃ x, ((b[j]'hlb).toNat : Int) = x := ⟨_, rfl⟩
      rw [hcv] at hcb HS
      have CA := Lib.hid (wAppQ hob cv hcb (by have := HLEN.out; omega) hbl.size)
      have HB := Lib.hid hbl
      have HLT := Lib.hid hlt
      have i1 : (j : Int) < (n : Int) := by omega
      have i3 : (j : Int) ≤ 4096 := by have := HNB.out; omega
      obtain ⟨A, c, rfl, -, -, -⟩ := hob.form
      obtain ⟨c0, c1⟩ := hcb
      clear hcj hob hbl hj hlt
      go_wp2_with (go_at_call 37; go_loud (refine CA.out.mono ?_; rintro e w2 ⟨v2, rfl, ob2, b2⟩; have OB2 := Lib.hid ob2; have B2 := Lib.hid b2; clear ob2 b2))
      go_roundw
      case rel => exact ⟨j + 1, by go_num, HLT.out, by rw [HS.out, ← List.cons_append, HZS.out]; exact OB2.out, HB.out.trans B2.out⟩
      case measure => have := HLT.out; simp [intOf]; omega
    · obtain rfl : j = n := by omega
      have i1 : ¬ (j : Int) < (j : Int) := by omega
      have HB := Lib.hid hbl
      have HOB := Lib.hid hob
      have hall : L.take j = L := by rw [← HN.out, ← HLL.out, List.take_length]
      have HALL := Lib.hid hall
      obtain ⟨A, c, rfl, -, -, -⟩ := hob.form
      clear hob hbl hj hlt hall
      go_wp2_with (at_builtin; go_loud (refine ob_append rfl (.tmp 22) (.tmp 23) rfl w.heap.size _ zs rfl (HOB.out.alloc _) _ 1 1 [34] rfl (rb_one1 _ _ (by decide)) (by have := HLEN.out; omega) (by have := HB.out.size; simp; omega) ?_; intro v' w3 hown' hb3 hg3; have OB3 := Lib.hid hown'; have B3 := Lib.hid ((HB.out.alloc HB.out.size _).trans hb3); obtain ⟨A', c', hv', hrb', -, -⟩ := hown'.form; rw [len_snoc zs _] at hv' hrb'; subst hv'; have hcv := rb_str hrb' c'; clear hown' hb3 hg3))
      go_ret2
      exact ⟨by unfold quoteP; rw [← HZS.out, HALL.out]; rfl, B3.out⟩
set_option maxHeartbeats 4000000 in
theorem wQuoteLong (b : ByteArray) (w : World) (hb : 4096 < b.size) (hm : b.size ≤ 140737488351232) :
    Calls Tryd.prog 22 #[.string b] w fun e w' => e = .returned (.tuple #[.string ⟨#[]⟩, .int .i64 3]) ∧ w = w' := by
  have h1 : (4096 : Int) < (b.size : Int) := by omega
  clear hb
  go_enter Tryd.func22, Tryd.ntmps22
  go_wp2
  go_ret2
  exact ⟨rfl, rfl⟩
end Go.Proofs.YtagangneoibbcaaDoor
