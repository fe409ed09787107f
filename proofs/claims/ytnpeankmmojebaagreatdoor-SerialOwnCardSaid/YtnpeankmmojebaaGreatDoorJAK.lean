import Derived.Test.YtnpeankmmojebaaGreatDoorJAH
import Derived.BigQuiet
import Derived.Deep.RegionHeld3
/- Layer 11: the reference's place and writes. -/
set_option linter.unusedVariables false
namespace Go.Proofs.YtnpeankmmojebaaGreatDoor
set_option maxRecDepth 100000
set_option maxRecDepth 100000
open Go.RowKit

/-- A history in a block of its own, as a function takes it. -/
structure Boxed (w W : World) (A : Option Addr) (n c : Nat) (B : Option Addr) (m d : Nat) (cs : List Int) (ac : List Ac) : Prop where
  eq : w.alloc (.cells #[.slice A n c, .slice B m d] 25) = W
  below : Below w.heap.size w W
  size : W.heap.size = w.heap.size + 1
  x0 : W.cell? ⟨w.heap.size, 0, none⟩ = some (.slice A n c)
  x1 : W.cell? ⟨w.heap.size, 1, none⟩ = some (.slice B m d)
  h : Hist W A n c B m d cs ac
theorem Hist.box {w : World} {A B : Option Addr} {n c m d : Nat} {cs : List Int} {ac : List Ac} (h : Hist w A n c B m d cs ac) : ∃ W, Boxed w W A n c B m d cs ac := by
  have b0 : Below w.heap.size w (w.alloc (.cells #[.slice A n c, .slice B m d] 25)) := alloc_below11 _ _
  have q0 := heap_alloc_new w (.cells #[.slice A n c, .slice B m d] 25)
  exact ⟨_, rfl, b0, by simp, cell_of_row _ _ 0 _ _ _ q0, cell_of_row _ _ 1 _ _ _ q0, h.gw b0⟩
/-- An act in a block of its own. -/
structure ActAt (w W : World) (a : Ac) : Prop where
  eq : w.alloc (.cells #[.int .i64 a.txn, .bool a.wr, .string a.item, .int .i64 a.ver] 44) = W
  below : Below w.heap.size w W
  size : W.heap.size = w.heap.size + 1
  d0 : W.cell? ⟨w.heap.size, 0, none⟩ = some (.int .i64 a.txn)
  d1 : W.cell? ⟨w.heap.size, 1, none⟩ = some (.bool a.wr)
  d2 : W.cell? ⟨w.heap.size, 2, none⟩ = some (.string a.item)
  d3 : W.cell? ⟨w.heap.size, 3, none⟩ = some (.int .i64 a.ver)
theorem Ac.box (w : World) (a : Ac) : ∃ W, ActAt w W a := by
  have q0 := heap_alloc_new w (.cells #[.int .i64 a.txn, .bool a.wr, .string a.item, .int .i64 a.ver] 44)
  exact ⟨_, rfl, alloc_below11 _ _, by simp, cell_of_row _ _ 0 _ _ _ q0, cell_of_row _ _ 1 _ _ _ q0, cell_of_row _ _ 2 _ _ _ q0, cell_of_row _ _ 3 _ _ _ q0⟩
theorem any_take11 {α : Type} {p : α → Bool} {l : List α} {k : Nat} {x : α} (h : l[k]? = some x) : (l.take (k + 1)).any p = ((l.take k).any p || p x) := by
  rw [List.take_add_one, h, Option.toList_some, List.any_append]; simp
theorem strEq11 (a b : ByteArray) : (a.toList == b.toList) = decide (a = b) := toList_beq8 a b
section
variable {w : World} {A B : Option Addr} {n c m d : Nat} {cs : List Int} {ac : List Ac}
set_option maxHeartbeats 8000000 in
theorem wrPlace (h : Hist w A n c B m d cs ac) (hn : n ≤ 4096) (t : Int) :
    Calls Tryz.prog 39 #[histV A n c B m d, .int .i64 t] w fun e w' => e = .returned (.int .i64 (plcP cs t)) ∧ Below w.heap.size w w' := by
  obtain ⟨W0, hB⟩ := h.box
  have HB := Lib.hid hB
  have x0 := hB.x0
  have HW := Lib.hid hB.eq
  have HN := Lib.hid hn
  clear h hB hn
  unfold histV
  go_enter Tryz.func39, Tryz.ntmps39
  go_upto_region 1 with fail
  rw [HW.out]
  go_upto_region 2 with fail
  go_loopw [5] (fun i wr => ∃ j : Nat, i = .int .i64 (j : Nat) ∧ j ≤ n ∧ (∀ x ∈ cs.take j, x ≠ t) ∧ wr = W0) (fun i _ => n - (intOf i).toNat)
  case atStart => exact ⟨0, rfl, Nat.zero_le _, by simp, rfl⟩
  case round =>
    rename World => wr
    obtain ⟨j, rfl, hj, ha, rfl⟩ := hrel
    by_cases hlt : j < n
    · obtain ⟨x, hx⟩ : ∃ x, cs[j]? = some x := ⟨_, List.getElem?_eq_getElem (by rw [HB.out.h.cl]; exact hlt)⟩
      obtain ⟨g, o, rfl, c0⟩ := HB.out.h.cb.num hx
      have i1 : (j : Int) < (n : Int) := by omega
      have l1 : (j : Int) ≤ 4096 := by have := HN.out; omega
      have l2 : (0 : Int) ≤ (j : Int) := by omega
      have HA := Lib.hid ha
      have HX := Lib.hid hx
      have HLT := Lib.hid hlt
      clear hx ha hj hlt
      by_cases hp : x = t
      · subst hp
        have HT := Lib.hid (show plcP cs x = (j : Int) from plcP_first HX.out HA.out)
        go_wp2
        go_ret
        exact ⟨by rw [HT.out]; rfl, HB.out.below⟩
      · have hp' : (x == t) = false := by simpa using hp
        go_wp2
        go_roundw
        case rel => exact ⟨j + 1, by go_num, HLT.out, fun y hy => by
          rw [List.take_add_one, HX.out] at hy
          rcases List.mem_append.1 hy with h1 | h1
          · exact HA.out y h1
          · rw [List.mem_singleton.1 h1]; exact hp, by first | rfl | trivial⟩
        case measure => have := HLT.out; simp [intOf]; omega
    · obtain rfl : j = n := by omega
      have i1 : ¬ (j : Int) < (j : Int) := by omega
      have HT := Lib.hid (show plcP cs t = -1 by
        rw [← HB.out.h.cl, List.take_length] at ha
        unfold plcP
        rw [if_neg (fun hm => ha t hm rfl)])
      clear ha hj hlt
      go_wp2
      go_ret
      exact ⟨by rw [HT.out]; rfl, HB.out.below⟩
set_option maxHeartbeats 8000000 in
theorem wrWrites (h : Hist w A n c B m d cs ac) (hm : m ≤ 4096) (t : Int) (it : ByteArray) :
    Calls Tryz.prog 61 #[histV A n c B m d, .int .i64 t, .string it] w fun e w' => e = .returned (.bool (writesP ac t it)) ∧ Below w.heap.size w w' := by
  obtain ⟨W0, hB⟩ := h.box
  have HB := Lib.hid hB
  have x1 := hB.x1
  have HW := Lib.hid hB.eq
  have HN := Lib.hid hm
  clear h hB hm
  unfold histV
  go_enter Tryz.func61, Tryz.ntmps61
  go_upto_region 1 with fail
  rw [HW.out]
  go_upto_region 2 with fail
  go_loopw [7] (fun i wr => ∃ j : Nat, i = .int .i64 (j : Nat) ∧ j ≤ m ∧ (ac.take j).any (wrB t it) = false ∧ wr = W0) (fun i _ => m - (intOf i).toNat)
  case atStart => exact ⟨0, rfl, Nat.zero_le _, by simp, rfl⟩
  case round =>
    rename World => wr
    obtain ⟨j, rfl, hj, ha, rfl⟩ := hrel
    by_cases hlt : j < m
    · obtain ⟨a, hx⟩ : ∃ a, ac[j]? = some a := ⟨_, List.getElem?_eq_getElem (by rw [HB.out.h.al]; exact hlt)⟩
      obtain ⟨g, o, rfl, c0, c1, c2, -⟩ := HB.out.h.act hx
      have i1 : (j : Int) < (m : Int) := by omega
      have l1 : (j : Int) ≤ 4096 := by have := HN.out; omega
      have l2 : (0 : Int) ≤ (j : Int) := by omega
      have HTK := Lib.hid (any_take11 (p := wrB t it) hx)
      have HA := Lib.hid ha
      have HLT := Lib.hid hlt
      have HWR := Lib.hid (show wrB t it a = true → writesP ac t it = true from fun k => List.any_eq_true.2 ⟨a, List.mem_of_getElem? hx, k⟩)
      clear hx ha hj hlt
      obtain ⟨at_, aw, ai, av⟩ := a
      dsimp only at *
      cases aw
      · have HT := Lib.hid (show (ac.take (j + 1)).any (wrB t it) = false by rw [HTK.out, HA.out]; simp [wrB])
        go_wp2
        go_roundw
        case rel => exact ⟨j + 1, by go_num, HLT.out, HT.out, by first | rfl | trivial⟩
        case measure => have := HLT.out; simp [intOf]; omega
      · by_cases ht : at_ = t
        · subst ht
          by_cases hi : ai = it
          · subst hi
            have HT := Lib.hid (HWR.out (by simp [wrB]))
            go_wp2
            go_ret
            exact ⟨by rw [HT.out]; rfl, HB.out.below⟩
          · have HT := Lib.hid (show (ac.take (j + 1)).any (wrB at_ it) = false by rw [HTK.out, HA.out]; simp [wrB, hi])
            have hi' : (ai.toList == it.toList) = false := by rw [strEq11]; simpa using hi
            go_wp2
            go_roundw
            case rel => exact ⟨j + 1, by go_num, HLT.out, HT.out, by first | rfl | trivial⟩
            case measure => have := HLT.out; simp [intOf]; omega
        · have HT := Lib.hid (show (ac.take (j + 1)).any (wrB t it) = false by rw [HTK.out, HA.out]; simp [wrB, ht])
          have ht' : (at_ == t) = false := by simpa using ht
          go_wp2
          go_roundw
          case rel => exact ⟨j + 1, by go_num, HLT.out, HT.out, by first | rfl | trivial⟩
          case measure => have := HLT.out; simp [intOf]; omega
    · obtain rfl : j = m := by omega
      have i1 : ¬ (j : Int) < (j : Int) := by omega
      have HT := Lib.hid (show writesP ac t it = false by
        rw [← HB.out.h.al, List.take_length] at ha
        exact ha)
      clear ha hj hlt
      go_wp2
      go_ret
      exact ⟨by rw [HT.out]; rfl, HB.out.below⟩
end
end Go.Proofs.YtnpeankmmojebaaGreatDoor

/- Layer 11: the reference's next and less. -/
namespace Go.Proofs.YtnpeankmmojebaaGreatDoor
set_option maxRecDepth 100000
set_option maxRecDepth 100000
open Go.RowKit

theorem find_first {α : Type} {p : α → Bool} {l : List α} {i : Nat} {x : α} (hx : l[i]? = some x) (hp : p x = true) (hn : ∀ y ∈ l.take i, p y = false) : l.find? p = some x := by
  obtain ⟨hi, e⟩ := List.getElem?_eq_some_iff.1 hx
  rw [← List.take_append_drop i l, List.find?_append, List.find?_eq_none.2 (fun y hy => by rw [hn y hy]; simp), List.drop_eq_getElem_cons hi, List.find?_cons_of_pos (by rw [e]; exact hp), e]
  rfl
section
variable {w : World} {A B : Option Addr} {n c m d : Nat} {cs : List Int} {ac : List Ac}
theorem next_start (cs : List Int) (v : Int) : (if v = 0 then 0 else (plcP cs v + 1).toNat) ≤ cs.length ∧ (v ≠ 0 → ((if v = 0 then 0 else (plcP cs v + 1).toNat : Nat) : Int) = plcP cs v + 1) := by
  have h1 : plcP cs v + 1 ≤ cs.length ∧ 0 ≤ plcP cs v + 1 := by
    unfold plcP
    split
    · rename_i h; have := List.idxOf_lt_length_of_mem h; omega
    · omega
  split
  · rename_i h; exact ⟨Nat.zero_le _, fun h2 => absurd h h2⟩
  · exact ⟨by omega, fun _ => by omega⟩
set_option maxHeartbeats 16000000 in
theorem wrNext (h : Hist w A n c B m d cs ac) (hn : n ≤ 4096) (hm : m ≤ 4096) (it : ByteArray) (v : Int) :
    Calls Tryz.prog 38 #[histV A n c B m d, .string it, .int .i64 v] w fun e w' => e = .returned (.int .i64 (nextP cs ac it v)) ∧ Below w.heap.size w w' := by
  obtain ⟨W0, hB⟩ := h.box
  have HB := Lib.hid hB
  have HW := Lib.hid hB.eq
  have x0 := hB.x0
  have x1 := hB.x1
  have CP := Lib.hid (wrPlace hB.h hn v)
  have HN := Lib.hid hn
  have HM := Lib.hid hm
  have HS := Lib.hid (next_start cs v)
  have HE := Lib.hid (show nextP cs ac it v = ((cs.drop (if v = 0 then 0 else (plcP cs v + 1).toNat)).find? fun n => writesP ac n it).getD 0 from rfl)
  obtain ⟨f, hf⟩ : ∃ f, (if v = 0 then 0 else (plcP cs v + 1).toNat) = f := ⟨_, rfl⟩
  have HS0 := Lib.hid (show v = 0 → f = 0 from fun h0 => by rw [← hf, if_pos h0])
  rw [hf] at HS HE
  have HCL := Lib.hid h.cl
  obtain ⟨z, hz⟩ : ∃ z, nextP cs ac it v = z := ⟨_, rfl⟩
  rw [hz] at HE ⊢
  have hfn : f ≤ n := by have := HS.out.1; rw [HCL.out] at this; exact this
  have HF := Lib.hid hfn
  unfold histV at CP
  unfold histV
  have CW := Lib.hid (fun W (hW : Below W0.heap.size W0 W) (t : Int) => wrWrites (hB.h.gw hW) hm t it)
  have hplc := HS.out.2
  obtain ⟨p, hp⟩ : ∃ p, plcP cs v = p := ⟨_, rfl⟩
  rw [hp] at CP hplc
  have l0 : -1 ≤ p ∧ p ≤ 4096 := by
    rw [← hp]
    unfold plcP
    split
    · rename_i hh; have := List.idxOf_lt_length_of_mem hh; have := HCL.out; have := HN.out; omega
    · omega
  clear h hB hn hm hf hz hfn hp
  obtain ⟨l0, l00⟩ := l0
  by_cases hv : v = 0
  · subst hv
    have hf0 : f = 0 := by
      rcases Nat.eq_zero_or_pos f with h0 | h0
      · exact h0
      · exact HS0.out rfl
    have HF0 := Lib.hid hf0
    clear hf0
    go_enter Tryz.func38, Tryz.ntmps38
    go_upto_region 1 with fail
    rw [HW.out]
    go_upto_region 5 with fail
    have u0 := x0
    have u1 := x1
    obtain ⟨W1, hW1⟩ : ∃ W, W0 = W := ⟨_, rfl⟩
    have BW1 := Lib.hid (show Below W0.heap.size W0 W1 by rw [← hW1]; exact Below.refl _ _)
    rw [hW1] at u0 u1
    rw [hW1]
    clear x0 x1 hW1
    go_loopw [8] (fun i wr => ∃ j : Nat, i = .int .i64 (j : Nat) ∧ f ≤ j ∧ j ≤ n ∧ (∀ y ∈ (cs.drop f).take (j - f), writesP ac y it = false) ∧ Below W1.heap.size W1 wr) (fun i _ => n - (intOf i).toNat)
    case atStart => exact ⟨f, by rw [HF0.out]; rfl, Nat.le_refl _, HF.out, by simp, Below.refl _ _⟩
    case round =>
      rename World => wr
      obtain ⟨j, rfl, hfj, hj, ha, hbl⟩ := hrel
      have y0 := keep_below u0 hbl
      have y1 := keep_below u1 hbl
      by_cases hlt : j < n
      · obtain ⟨x, hx⟩ : ∃ x, cs[j]? = some x := ⟨_, List.getElem?_eq_getElem (by rw [HCL.out]; exact hlt)⟩
        obtain ⟨g, o, rfl, c0⟩ := (HB.out.h.gw (below_next BW1.out hbl)).cb.num hx
        have CX := Lib.hid (CW.out wr.drew ((below_next BW1.out hbl).drew) x)
        have i1 : (j : Int) < (n : Int) := by omega
        have l1 : (j : Int) ≤ 4096 := by have := HN.out; omega
        have l2 : (0 : Int) ≤ (j : Int) := by omega
        have HA := Lib.hid ha
        have hxd : (cs.drop f)[j - f]? = some x := by rw [List.getElem?_drop, show f + (j - f) = j by omega]; exact hx
        have HXD := Lib.hid hxd
        have HLT := Lib.hid hlt
        have HBL := Lib.hid hbl
        have HFJ := Lib.hid hfj
        have S0 : wr.cell? ⟨w.heap.size, 0, none⟩ = some (.slice (some ⟨g, o, none⟩) n c) ∧ wr.cell? ⟨w.heap.size, 1, none⟩ = some (.slice B m d) ∧ wr.cell? ⟨g, o + j, none⟩ = some (.int .i64 x) := ⟨y0, y1, c0⟩
        have S2 : ∀ W : World, Below wr.heap.size wr.drew W → W.cell? ⟨w.heap.size, 0, none⟩ = some (.slice (some ⟨g, o, none⟩) n c) ∧ W.cell? ⟨w.heap.size, 1, none⟩ = some (.slice B m d) ∧ W.cell? ⟨g, o + j, none⟩ = some (.int .i64 x) := fun W hW => ⟨keep_below (w := wr.drew) S0.1 hW, keep_below (w := wr.drew) S0.2.1 hW, keep_below (w := wr.drew) S0.2.2 hW⟩
        unfold histV at CX
        clear hx ha hj hlt hbl hxd hfj
        cases hq : writesP ac x it
        · rw [hq] at CX
          have HT := Lib.hid (show ∀ y ∈ (cs.drop f).take (j + 1 - f), writesP ac y it = false from fun y hy => by
            rw [show j + 1 - f = (j - f) + 1 by have := HFJ.out; omega, List.take_add_one, HXD.out] at hy
            rcases List.mem_append.1 hy with h1 | h1
            · exact HA.out y h1
            · rw [List.mem_singleton.1 h1]; exact hq)
          clear hq
          go_upto_region 7 with fail
          go_region_held3 (fun W => W.cell? ⟨w.heap.size, 0, none⟩ = some (.slice (some ⟨g, o, none⟩) n c) ∧ W.cell? ⟨w.heap.size, 1, none⟩ = some (.slice B m d) ∧ W.cell? ⟨g, o + j, none⟩ = some (.int .i64 x)) (first | exact S0 | exact S2 _ B2.out)
            (first | (go_at_call 61; go_loud (refine CX.out.mono ?_; rintro e w2 ⟨rfl, b2⟩; have B2 := Lib.hid (show Below wr.heap.size wr.drew w2 from b2); clear b2)))
          all_goals
            go_wp2
            go_roundw
            case rel => exact ⟨j + 1, by go_num, by have := HFJ.out; omega, HLT.out, HT.out, HBL.out.trans ((((Below.refl _ _).drew).trans B2.out).mono HBL.out.size)⟩
            case measure => have := HLT.out; simp [intOf]; omega
        · rw [hq] at CX
          have HT := Lib.hid (show z = x by rw [HE.out, find_first HXD.out hq HA.out]; rfl)
          clear hq
          go_upto_region 7 with fail
          go_region_held3 (fun W => W.cell? ⟨w.heap.size, 0, none⟩ = some (.slice (some ⟨g, o, none⟩) n c) ∧ W.cell? ⟨w.heap.size, 1, none⟩ = some (.slice B m d) ∧ W.cell? ⟨g, o + j, none⟩ = some (.int .i64 x)) (first | exact S0 | exact S2 _ B2.out)
            (first | (go_at_call 61; go_loud (refine CX.out.mono ?_; rintro e w2 ⟨rfl, b2⟩; have B2 := Lib.hid (show Below wr.heap.size wr.drew w2 from b2); obtain ⟨t0, t1, t2⟩ := S2 _ b2; clear b2)))
          all_goals
            go_wp2
            go_ret
            exact ⟨by rw [HT.out]; rfl, below_next (below_next (below_next HB.out.below BW1.out) HBL.out) (((Below.refl _ _).drew).trans B2.out)⟩
      · obtain rfl : j = n := by omega
        have i1 : ¬ (j : Int) < (j : Int) := by omega
        have HT := Lib.hid (show z = 0 by
          rw [List.take_of_length_le (by rw [List.length_drop, HCL.out]; exact Nat.le_refl _)] at ha
          rw [HE.out, List.find?_eq_none.2 (fun y hy => by rw [ha y hy]; simp)]; rfl)
        have HBL := Lib.hid hbl
        clear ha hj hlt hbl hfj
        go_wp2
        go_ret
        exact ⟨by rw [HT.out]; rfl, below_next (below_next HB.out.below BW1.out) HBL.out⟩
  · have hv' : (v != 0) = true := by simpa using hv
    have HPL := Lib.hid (hplc hv)
    clear hplc
    go_enter Tryz.func38, Tryz.ntmps38
    go_upto_region 1 with fail
    rw [HW.out]
    go_upto_region 5 with (go_at_call 39; go_loud (refine CP.out.mono ?_; rintro e W1 ⟨rfl, b1⟩; have BW1 := Lib.hid b1; have u0 := keep_below x0 b1; have u1 := keep_below x1 b1; clear b1))
    clear x0 x1
    go_loopw [8] (fun i wr => ∃ j : Nat, i = .int .i64 (j : Nat) ∧ f ≤ j ∧ j ≤ n ∧ (∀ y ∈ (cs.drop f).take (j - f), writesP ac y it = false) ∧ Below W1.heap.size W1 wr) (fun i _ => n - (intOf i).toNat)
    case atStart => exact ⟨f, by rw [HPL.out], Nat.le_refl _, HF.out, by simp, Below.refl _ _⟩
    case round =>
      rename World => wr
      obtain ⟨j, rfl, hfj, hj, ha, hbl⟩ := hrel
      have y0 := keep_below u0 hbl
      have y1 := keep_below u1 hbl
      by_cases hlt : j < n
      · obtain ⟨x, hx⟩ : ∃ x, cs[j]? = some x := ⟨_, List.getElem?_eq_getElem (by rw [HCL.out]; exact hlt)⟩
        obtain ⟨g, o, rfl, c0⟩ := (HB.out.h.gw (below_next BW1.out hbl)).cb.num hx
        have CX := Lib.hid (CW.out wr.drew ((below_next BW1.out hbl).drew) x)
        have i1 : (j : Int) < (n : Int) := by omega
        have l1 : (j : Int) ≤ 4096 := by have := HN.out; omega
        have l2 : (0 : Int) ≤ (j : Int) := by omega
        have HA := Lib.hid ha
        have hxd : (cs.drop f)[j - f]? = some x := by rw [List.getElem?_drop, show f + (j - f) = j by omega]; exact hx
        have HXD := Lib.hid hxd
        have HLT := Lib.hid hlt
        have HBL := Lib.hid hbl
        have HFJ := Lib.hid hfj
        have S0 : wr.cell? ⟨w.heap.size, 0, none⟩ = some (.slice (some ⟨g, o, none⟩) n c) ∧ wr.cell? ⟨w.heap.size, 1, none⟩ = some (.slice B m d) ∧ wr.cell? ⟨g, o + j, none⟩ = some (.int .i64 x) := ⟨y0, y1, c0⟩
        have S2 : ∀ W : World, Below wr.heap.size wr.drew W → W.cell? ⟨w.heap.size, 0, none⟩ = some (.slice (some ⟨g, o, none⟩) n c) ∧ W.cell? ⟨w.heap.size, 1, none⟩ = some (.slice B m d) ∧ W.cell? ⟨g, o + j, none⟩ = some (.int .i64 x) := fun W hW => ⟨keep_below (w := wr.drew) S0.1 hW, keep_below (w := wr.drew) S0.2.1 hW, keep_below (w := wr.drew) S0.2.2 hW⟩
        unfold histV at CX
        clear hx ha hj hlt hbl hxd hfj
        cases hq : writesP ac x it
        · rw [hq] at CX
          have HT := Lib.hid (show ∀ y ∈ (cs.drop f).take (j + 1 - f), writesP ac y it = false from fun y hy => by
            rw [show j + 1 - f = (j - f) + 1 by have := HFJ.out; omega, List.take_add_one, HXD.out] at hy
            rcases List.mem_append.1 hy with h1 | h1
            · exact HA.out y h1
            · rw [List.mem_singleton.1 h1]; exact hq)
          clear hq
          go_upto_region 7 with fail
          go_region_held3 (fun W => W.cell? ⟨w.heap.size, 0, none⟩ = some (.slice (some ⟨g, o, none⟩) n c) ∧ W.cell? ⟨w.heap.size, 1, none⟩ = some (.slice B m d) ∧ W.cell? ⟨g, o + j, none⟩ = some (.int .i64 x)) (first | exact S0 | exact S2 _ B2.out)
            (first | (go_at_call 61; go_loud (refine CX.out.mono ?_; rintro e w2 ⟨rfl, b2⟩; have B2 := Lib.hid (show Below wr.heap.size wr.drew w2 from b2); clear b2)))
          all_goals
            go_wp2
            go_roundw
            case rel => exact ⟨j + 1, by go_num, by have := HFJ.out; omega, HLT.out, HT.out, HBL.out.trans ((((Below.refl _ _).drew).trans B2.out).mono HBL.out.size)⟩
            case measure => have := HLT.out; simp [intOf]; omega
        · rw [hq] at CX
          have HT := Lib.hid (show z = x by rw [HE.out, find_first HXD.out hq HA.out]; rfl)
          clear hq
          go_upto_region 7 with fail
          go_region_held3 (fun W => W.cell? ⟨w.heap.size, 0, none⟩ = some (.slice (some ⟨g, o, none⟩) n c) ∧ W.cell? ⟨w.heap.size, 1, none⟩ = some (.slice B m d) ∧ W.cell? ⟨g, o + j, none⟩ = some (.int .i64 x)) (first | exact S0 | exact S2 _ B2.out)
            (first | (go_at_call 61; go_loud (refine CX.out.mono ?_; rintro e w2 ⟨rfl, b2⟩; have B2 := Lib.hid (show Below wr.heap.size wr.drew w2 from b2); obtain ⟨t0, t1, t2⟩ := S2 _ b2; clear b2)))
          all_goals
            go_wp2
            go_ret
            exact ⟨by rw [HT.out]; rfl, below_next (below_next (below_next HB.out.below BW1.out) HBL.out) (((Below.refl _ _).drew).trans B2.out)⟩
      · obtain rfl : j = n := by omega
        have i1 : ¬ (j : Int) < (j : Int) := by omega
        have HT := Lib.hid (show z = 0 by
          rw [List.take_of_length_le (by rw [List.length_drop, HCL.out]; exact Nat.le_refl _)] at ha
          rw [HE.out, List.find?_eq_none.2 (fun y hy => by rw [ha y hy]; simp)]; rfl)
        have HBL := Lib.hid hbl
        clear ha hj hlt hbl hfj
        go_wp2
        go_ret
        exact ⟨by rw [HT.out]; rfl, below_next (below_next HB.out.below BW1.out) HBL.out⟩
end
def dpV (d : Dp) : Value := .agg #[.int .i64 d.fr, .int .i64 d.to, .int .i64 d.kd]
set_option maxHeartbeats 8000000 in
theorem wrLess (w : World) (a b : Dp) :
    Calls Tryz.prog 60 #[dpV a, dpV b] w fun e w' => e = .returned (.bool (lessD a b)) ∧ Below w.heap.size w w' := by
  obtain ⟨W1, hW1⟩ : ∃ W, w.alloc (.cells #[.int .i64 a.fr, .int .i64 a.to, .int .i64 a.kd] 51) = W := ⟨_, rfl⟩
  obtain ⟨W2, hW2⟩ : ∃ W, W1.alloc (.cells #[.int .i64 b.fr, .int .i64 b.to, .int .i64 b.kd] 51) = W := ⟨_, rfl⟩
  have b1 : Below w.heap.size w W1 := by rw [← hW1]; exact alloc_below11 _ _
  have b2 : Below W1.heap.size W1 W2 := by rw [← hW2]; exact alloc_below11 _ _
  have q1 : W1.heap[w.heap.size]? = some (.cells #[.int .i64 a.fr, .int .i64 a.to, .int .i64 a.kd] 51 (0, 0)) := by rw [← hW1]; exact heap_alloc_new _ _
  have q2 : W2.heap[W1.heap.size]? = some (.cells #[.int .i64 b.fr, .int .i64 b.to, .int .i64 b.kd] 51 (0, 0)) := by rw [← hW2]; exact heap_alloc_new _ _
  have a0 := keep_below (cell_of_row _ _ 0 _ _ _ q1) b2
  have a1 := keep_below (cell_of_row _ _ 1 _ _ _ q1) b2
  have a2 := keep_below (cell_of_row _ _ 2 _ _ _ q1) b2
  have c0 := cell_of_row _ _ 0 _ _ _ q2
  have c1 := cell_of_row _ _ 1 _ _ _ q2
  have c2 := cell_of_row _ _ 2 _ _ _ q2
  have s1 : W1.heap.size = w.heap.size + 1 := by have := congrArg (fun W => W.heap.size) hW1; simpa using this.symm
  rw [s1] at c0 c1 c2
  have HW1 := Lib.hid hW1
  have HW2 := Lib.hid hW2
  have BB := Lib.hid (below_next b1 b2)
  clear b1 b2 q1 q2 hW1 hW2 s1
  obtain ⟨af, at_, ak⟩ := a
  obtain ⟨bf, bt, bk⟩ := b
  dsimp only at *
  unfold dpV
  dsimp only
  by_cases h1 : af = bf
  · subst h1
    by_cases h2 : at_ = bt
    · subst h2
      have HL := Lib.hid (show lessD ⟨af, at_, ak⟩ ⟨af, at_, bk⟩ = decide (ak < bk) by simp [lessD])
      rw [HL.out]
      obtain ⟨q, hq⟩ : ∃ q, decide (ak < bk) = q := ⟨_, rfl⟩
      rw [hq]
      have HQ := Lib.hid hq
      clear hq HL
      go_enter Tryz.func60, Tryz.ntmps60
      go_upto_region 1 with fail
      rw [HW1.out, HW2.out]
      go_wp2
      go_ret
      exact ⟨by rw [← HQ.out]; rfl, BB.out⟩
    · have h2' : (at_ != bt) = true := by simpa using h2
      have HL := Lib.hid (show lessD ⟨af, at_, ak⟩ ⟨af, bt, bk⟩ = decide (at_ < bt) by simp [lessD, h2])
      rw [HL.out]
      obtain ⟨q, hq⟩ : ∃ q, decide (at_ < bt) = q := ⟨_, rfl⟩
      rw [hq]
      have HQ := Lib.hid hq
      clear hq HL
      go_enter Tryz.func60, Tryz.ntmps60
      go_upto_region 1 with fail
      rw [HW1.out, HW2.out]
      go_wp2
      go_ret
      exact ⟨by rw [← HQ.out]; rfl, BB.out⟩
  · have h1' : (af != bf) = true := by simpa using h1
    have HL := Lib.hid (show lessD ⟨af, at_, ak⟩ ⟨bf, bt, bk⟩ = decide (af < bf) by simp [lessD, h1])
    rw [HL.out]
    obtain ⟨q, hq⟩ : ∃ q, decide (af < bf) = q := ⟨_, rfl⟩
    rw [hq]
    have HQ := Lib.hid hq
    clear hq HL
    go_enter Tryz.func60, Tryz.ntmps60
    go_upto_region 1 with fail
    rw [HW1.out, HW2.out]
    go_wp2
    go_ret
    exact ⟨by rw [← HQ.out]; rfl, BB.out⟩
end Go.Proofs.YtnpeankmmojebaaGreatDoor
