import Derived.Test.YtnpeankmmojebaaGreatDoorJAN
import Derived.Deep.RegionHeld3
/- Layer 11: the program's fits; which numbers are below one (slices.ContainsFunc). -/
set_option linter.unusedVariables false
namespace Go.Proofs.YtnpeankmmojebaaGreatDoor
set_option maxRecDepth 100000
set_option maxRecDepth 100000
open Go.RowKit Go.Maps Go.ChangeMaps Go.MapKept

/-- The first place at which something holds; -1: nowhere. -/
def idxP (p : Int → Bool) (l : List Int) : Int := if l.any p = true then (l.findIdx p : Nat) else -1
theorem idxP_first {p : Int → Bool} {l : List Int} {j : Nat} {x : Int} (hx : l[j]? = some x) (hp : p x = true) (hn : (l.take j).any p = false) : idxP p l = (j : Int) := by
  obtain ⟨hj, e⟩ := List.getElem?_eq_some_iff.1 hx
  have ha : l.any p = true := List.any_eq_true.2 ⟨x, List.mem_of_getElem? hx, hp⟩
  unfold idxP
  rw [if_pos ha]
  have h1 : l.findIdx p ≤ j := by
    rcases Nat.lt_or_ge j (l.findIdx p) with h | h
    · have := List.not_of_lt_findIdx h
      rw [e, hp] at this; cases this
    · exact h
  have h2 : ¬ l.findIdx p < j := fun h => by
    have hlt : l.findIdx p < l.length := by omega
    have h3 := List.findIdx_getElem (w := hlt)
    have h4 := List.any_eq_false.1 hn (l[l.findIdx p]) (List.mem_of_getElem? (i := l.findIdx p) (by rw [List.getElem?_take, if_pos h, List.getElem?_eq_getElem hlt]))
    exact h4 h3
  have : l.findIdx p = j := by omega
  rw [this]
theorem idxP_none {p : Int → Bool} {l : List Int} (hn : l.any p = false) : idxP p l = -1 := by unfold idxP; rw [if_neg (by rw [hn]; simp)]
theorem wsRight1 (x : Int) (w : World) : Calls Tryz.prog 63 #[.int .i64 x] w fun e w' => e = .returned (.bool (decide (x < 1))) ∧ w' = w := by
  obtain ⟨q, hq⟩ : ∃ q, decide (x < 1) = q := ⟨_, rfl⟩
  have HQ := Lib.hid hq
  clear hq
  go_enter Tryz.func63, Tryz.ntmps63
  go_wp2
  go_ret
  exact ⟨by rw [HQ.out]; rfl, rfl⟩
set_option maxHeartbeats 8000000 in
theorem wsIdx1 {w : World} {A : Option Addr} {n c : Nat} {l : List Int} (h : SB w A n (numC l)) (hl : l.length = n) (hn : n ≤ 4096) :
    Calls Tryz.prog 58 #[.slice A n c, .func (.func 63) #[] #[]] w fun e w' => e = .returned (.int .i64 (idxP (fun x => decide (x < 1)) l)) ∧ w' = w := by
  have HS := Lib.hid h
  have HL := Lib.hid hl
  have HN := Lib.hid hn
  clear h hl hn
  go_enter Tryz.func58, Tryz.ntmps58
  go_upto_region 2 with fail
  go_loopw [8] (fun i wr => ∃ j : Nat, i = .int .i64 (j : Nat) ∧ j ≤ n ∧ (l.take j).any (fun x => decide (x < 1)) = false ∧ wr = w) (fun i _ => n - (intOf i).toNat)
  case atStart => exact ⟨0, rfl, Nat.zero_le _, by simp, rfl⟩
  case round =>
    rename World => wr
    obtain ⟨j, rfl, hj, ha, rfl⟩ := hrel
    by_cases hlt : j < n
    · obtain ⟨x, hx⟩ : ∃ x, l[j]? = some x := ⟨_, List.getElem?_eq_getElem (by rw [HL.out]; exact hlt)⟩
      obtain ⟨g, o, rfl, c0⟩ := HS.out.num hx
      have i1 : (j : Int) < (n : Int) := by omega
      have l1 : (j : Int) ≤ 4096 := by have := HN.out; omega
      have l2 : (0 : Int) ≤ (j : Int) := by omega
      have HA := Lib.hid ha
      have HX := Lib.hid hx
      have HLT := Lib.hid hlt
      have CR := Lib.hid (wsRight1 x wr)
      clear hx ha hj hlt
      by_cases hp : x < 1
      · have HT := Lib.hid (show idxP (fun x => decide (x < 1)) l = (j : Int) from idxP_first HX.out (by simpa using hp) HA.out)
        rw [show decide (x < 1) = true by simpa using hp] at CR
        clear hp
        go_wp2_with (go_at_call 63; go_loud (refine CR.out.mono ?_; rintro e w3 ⟨rfl, hw⟩; replace hw := hw.symm; subst hw))
        go_ret
        exact ⟨by rw [HT.out]; rfl, rfl⟩
      · have HP := Lib.hid hp
        rw [show decide (x < 1) = false by simpa using hp] at CR
        clear hp
        go_wp2_with (go_at_call 63; go_loud (refine CR.out.mono ?_; rintro e w3 ⟨rfl, hw⟩; replace hw := hw.symm; subst hw))
        go_roundw
        case rel => exact ⟨j + 1, by go_num, HLT.out, by rw [List.take_add_one, HX.out, List.any_append, HA.out]; simpa using HP.out, by first | rfl | trivial⟩
        case measure => have := HLT.out; simp [intOf]; omega
    · obtain rfl : j = n := by omega
      have i1 : ¬ (j : Int) < (j : Int) := by omega
      have HT := Lib.hid (show idxP (fun x => decide (x < 1)) l = -1 from idxP_none (by rw [← HL.out, List.take_length] at ha; exact ha))
      clear ha hj hlt
      go_wp2
      go_ret
      exact ⟨by rw [HT.out]; rfl, rfl⟩
theorem wsHasLow {w : World} {A : Option Addr} {n c : Nat} {l : List Int} (h : SB w A n (numC l)) (hl : l.length = n) (hn : n ≤ 4096) :
    Calls Tryz.prog 62 #[.slice A n c, .func (.func 63) #[] #[]] w fun e w' => e = .returned (.bool (l.any fun x => decide (x < 1))) ∧ w' = w := by
  have CI := Lib.hid (wsIdx1 (c := c) h hl hn)
  have HE := Lib.hid (show (l.any fun x => decide (x < 1)) = decide (0 ≤ idxP (fun x => decide (x < 1)) l) by
    unfold idxP
    cases ha : l.any fun x => decide (x < 1) <;> simp)
  rw [HE.out]
  generalize idxP (fun x => decide (x < 1)) l = z at CI ⊢
  clear h hl hn HE
  go_enter Tryz.func62, Tryz.ntmps62
  go_wp2_with (go_at_call 58; go_loud (refine CI.out.mono ?_; rintro e w3 ⟨rfl, hw⟩; replace hw := hw.symm; subst hw))
  go_ret
  exact ⟨by first | rfl | simp, rfl⟩
/-- What the program asks of an act beside the counts of the writes. -/
def fitsP (cnt : Vr → Int) (a : Ac) : Bool := if a.wr then decide (a.ver = 0) && decide (cnt (a.item, a.txn) = 1) else decide (a.ver = 0) || decide (0 < cnt (a.item, a.ver))
set_option maxHeartbeats 8000000 in
theorem wsFits {w : World} {r : Nat} {hs : List (Vr × Value)} (hM : MapM KV w r hs) {cnt : Vr → Int} (hc : ∀ v, (getM hs v).getD (.int .i64 0) = .int .i64 (cnt v)) {a : Ac} (ha : wfI a.txn ∧ wfI a.ver ∧ a.item.size ≤ maxLen) :
    Calls Tryz.prog 64 #[acV a, .map (some r)] w fun e w' => e = .returned (.bool (fitsP cnt a)) ∧ Below w.heap.size w w' := by
  obtain ⟨W0, hW0⟩ : ∃ W, w.alloc (.cells #[.int .i64 a.txn, .bool a.wr, .string a.item, .int .i64 a.ver] 44) = W := ⟨_, rfl⟩
  have b0 : Below w.heap.size w W0 := by rw [← hW0]; exact alloc_below11 _ _
  have q0 : W0.heap[w.heap.size]? = some (.cells #[.int .i64 a.txn, .bool a.wr, .string a.item, .int .i64 a.ver] 44 (0, 0)) := by rw [← hW0]; exact heap_alloc_new _ _
  have m0 : MapM KV W0 r hs := hM.block (b0.block _ hM.lt)
  have c0 : W0.cell? ⟨w.heap.size, 0, none⟩ = some (.int .i64 a.txn) := cell_of_row _ _ 0 _ _ _ q0
  have c1 : W0.cell? ⟨w.heap.size, 1, none⟩ = some (.bool a.wr) := cell_of_row _ _ 1 _ _ _ q0
  have c2 : W0.cell? ⟨w.heap.size, 2, none⟩ = some (.string a.item) := cell_of_row _ _ 2 _ _ _ q0
  have c3 : W0.cell? ⟨w.heap.size, 3, none⟩ = some (.int .i64 a.ver) := cell_of_row _ _ 3 _ _ _ q0
  have k1 : (Instr.lookup mapVI (.map (some r)) (.agg #[.string a.item, .int .i64 a.txn]) false).run Tryz.prog W0 = .ok (.int .i64 (cnt (a.item, a.txn))) W0 := by
    have := m0.look mapVI_und (zeroI W0) (x := (a.item, a.txn)) ⟨ha.2.2, ha.1⟩
    rw [hc] at this
    exact this
  have k2 : (Instr.lookup mapVI (.map (some r)) (.agg #[.string a.item, .int .i64 a.ver]) false).run Tryz.prog W0 = .ok (.int .i64 (cnt (a.item, a.ver))) W0 := by
    have := m0.look mapVI_und (zeroI W0) (x := (a.item, a.ver)) ⟨ha.2.2, ha.2.1⟩
    rw [hc] at this
    exact this
  have B0 := Lib.hid b0
  obtain ⟨at_, aw, ai, av⟩ := a
  dsimp only at *
  have HF := Lib.hid (show fitsP cnt ⟨at_, aw, ai, av⟩ = if aw then decide (av = 0) && decide (cnt (ai, at_) = 1) else decide (av = 0) || decide (0 < cnt (ai, av)) from rfl)
  generalize cnt (ai, at_) = z1 at k1 HF
  generalize cnt (ai, av) = z2 at k2 HF
  rw [HF.out]
  have HW0 := Lib.hid hW0
  unfold acV
  dsimp only
  clear hM hc ha b0 q0 m0 hW0 HF
  cases aw
  · by_cases hv : av = 0
    · subst hv
      go_enter Tryz.func64, Tryz.ntmps64
      go_upto_region 1 with fail
      rw [HW0.out]
      go_wp2
      go_ret
      exact ⟨by simp, B0.out⟩
    · have hv' : (av == 0) = false := by simpa using hv
      go_enter Tryz.func64, Tryz.ntmps64
      go_upto_region 1 with fail
      rw [HW0.out]
      go_wp2
      go_ret
      exact ⟨by simp, B0.out⟩
  · by_cases hv : av = 0
    · subst hv
      go_enter Tryz.func64, Tryz.ntmps64
      go_upto_region 1 with fail
      rw [HW0.out]
      go_wp2
      go_ret
      exact ⟨by first | rfl | simp | (simp; rfl), B0.out⟩
    · have hv' : (av == 0) = false := by simpa using hv
      go_enter Tryz.func64, Tryz.ntmps64
      go_upto_region 1 with fail
      rw [HW0.out]
      go_wp2
      go_ret
      exact ⟨by simp, B0.out⟩
end Go.Proofs.YtnpeankmmojebaaGreatDoor

/- Layer 11: the program's right and Check. -/
namespace Go.Proofs.YtnpeankmmojebaaGreatDoor
set_option maxRecDepth 100000
set_option maxRecDepth 100000
open Go.RowKit Go.Maps Go.ChangeMaps Go.MapKept

/-- How often a version is written. -/
def cntW (l : List Ac) (v : Vr) : Int := (l.countP fun a => a.wr && decide ((a.item, a.txn) = v) : Nat)
theorem cntW_next {l : List Ac} {j : Nat} {a : Ac} (h : l[j]? = some a) (v : Vr) : cntW (l.take (j + 1)) v = if a.wr = true ∧ v = (a.item, a.txn) then cntW (l.take j) v + 1 else cntW (l.take j) v := by
  unfold cntW
  rw [List.take_add_one, h, Option.toList_some, List.countP_append]
  cases hw : a.wr
  · simp [hw]
  · by_cases e : v = (a.item, a.txn)
    · subst e; simp [hw]
    · have e2 : ¬ (a.item, a.txn) = v := fun k => e k.symm
      simp [hw, e, e2]
theorem cntW_le (l : List Ac) (j : Nat) (v : Vr) : 0 ≤ cntW (l.take j) v ∧ cntW (l.take j) v ≤ j := by
  unfold cntW
  have := List.countP_le_length (p := fun a : Ac => a.wr && decide ((a.item, a.txn) = v)) (l := l.take j)
  have h2 := List.length_take_le j l
  omega
def rightB (cs : List Int) (ac : List Ac) : Bool := (decide cs.Nodup && !cs.any fun x => decide (x < 1)) && ((ac.all fun a => decide (a.txn ∈ cs)) && ac.all (fitsP (cntW ac)))
theorem cntW_pos {l : List Ac} {it : ByteArray} {t : Int} : 0 < cntW l (it, t) ↔ writesP l t it = true := by
  unfold cntW
  rw [writesP_is]
  have : (0 : Int) < (l.countP fun a => a.wr && decide ((a.item, a.txn) = (it, t)) : Nat) ↔ 0 < l.countP fun a => a.wr && decide ((a.item, a.txn) = (it, t)) := by omega
  rw [this, List.countP_pos_iff]
  constructor
  · rintro ⟨a, h1, h2⟩
    simp at h2
    exact ⟨a, h1, h2.1, h2.2.2, h2.2.1⟩
  · rintro ⟨a, h1, h2, h3, h4⟩
    exact ⟨a, h1, by simp [h2, h3, h4]⟩
theorem cntW_one {l : List Ac} {i : Nat} {a : Ac} (ha : l[i]? = some a) (hw : a.wr = true) (h1 : cntW l (a.item, a.txn) = 1) : (l.take i).any (wrB a.txn a.item) = false := by
  rw [← Bool.not_eq_true]
  intro h
  have h2 : 0 < cntW (l.take i) (a.item, a.txn) := cntW_pos.2 h
  have h3 := cntW_next ha (a.item, a.txn)
  rw [if_pos ⟨hw, rfl⟩] at h3
  have h4 : cntW (l.take (i + 1)) (a.item, a.txn) ≤ cntW l (a.item, a.txn) := by
    unfold cntW
    have := (List.take_sublist (i + 1) l).countP_le (p := fun b : Ac => b.wr && decide ((b.item, b.txn) = (a.item, a.txn)))
    omega
  omega
theorem cntW_two {l : List Ac} (h : ∀ i a, l[i]? = some a → a.wr = true → (l.take i).any (wrB a.txn a.item) = false) (v : Vr) : cntW l v ≤ 1 := by
  have key : ∀ j, j ≤ l.length → cntW (l.take j) v ≤ 1 := by
    intro j
    induction j with
    | zero => intro _; simp [cntW]
    | succ j ih =>
      intro hj
      obtain ⟨a, ha⟩ : ∃ a, l[j]? = some a := ⟨_, List.getElem?_eq_getElem (by omega)⟩
      rw [cntW_next ha]
      split
      · rename_i e
        have h1 := h j a ha e.1
        have h2 : ¬ 0 < cntW (l.take j) v := fun h3 => by
          rw [e.2] at h3
          have := cntW_pos.1 h3
          unfold writesP at this
          rw [h1] at this; cases this
        have := (cntW_le l j v).1
        omega
      · exact ih (by omega)
  have := key l.length (Nat.le_refl _)
  rwa [List.take_length] at this
theorem rightB_iff {cs : List Int} {ac : List Ac} (h1 : ac.length ≤ 4096) (h2 : cs.length ≤ 4096) : rightB cs ac = true ↔ Right cs ac := by
  unfold rightB
  rw [Bool.and_eq_true, Bool.and_eq_true, Bool.and_eq_true, List.all_eq_true, List.all_eq_true]
  constructor
  · rintro ⟨⟨k1, k2⟩, k3, k4⟩
    have hpos : ∀ n ∈ cs, 1 ≤ n := fun n hn => by
      rw [Bool.not_eq_true'] at k2
      have := List.any_eq_false.1 k2 n hn
      simp at this; exact this
    have htx : ∀ a ∈ ac, a.txn ∈ cs := fun a ha => by simpa using k3 a ha
    refine ⟨h1, h2, by simpa using k1, hpos, htx, fun a ha hw => ?_, fun a ha hw => ?_, fun i a ha hw => ?_⟩
    · have := k4 a ha
      unfold fitsP at this
      rw [hw] at this
      simp only [Bool.false_eq_true, if_false, Bool.or_eq_true, decide_eq_true_eq] at this
      rcases this with h | h
      · exact .inl h
      · have hwr := cntW_pos.1 h
        obtain ⟨b, hb, -, e, -⟩ := writesP_is.1 hwr
        exact .inr ⟨by rw [← e]; exact htx b hb, hwr⟩
    · have := k4 a ha
      unfold fitsP at this
      rw [hw] at this
      simp at this
      exact this.1
    · have := k4 a (List.mem_of_getElem? ha)
      unfold fitsP at this
      rw [hw] at this
      simp at this
      exact cntW_one ha hw this.2
  · intro h
    refine ⟨⟨by simpa using h.nd, ?_⟩, fun a ha => by simpa using h.txn a ha, fun a ha => ?_⟩
    · rw [Bool.not_eq_true', List.any_eq_false]
      intro x hx
      have := h.pos x hx
      simp; omega
    · unfold fitsP
      cases hw : a.wr
      · rcases h.rd a ha hw with h3 | ⟨-, h3⟩
        · simp [h3]
        · simp [cntW_pos.2 h3]
      · have h3 : 0 < cntW ac (a.item, a.txn) := cntW_pos.2 (writesP_is.2 ⟨a, ha, hw, rfl, rfl⟩)
        have h4 := cntW_two h.once (a.item, a.txn)
        have h5 : cntW ac (a.item, a.txn) = 1 := by omega
        simp [h.wv a ha hw, h5]
end Go.Proofs.YtnpeankmmojebaaGreatDoor
