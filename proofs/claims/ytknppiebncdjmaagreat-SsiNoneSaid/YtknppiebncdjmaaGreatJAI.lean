import Derived.Test.YtknppiebncdjmaaGreatJAH
/- Layer 9: notes in a list in memory; the reference's count and coarse. -/
namespace Go.Proofs.YtknppiebncdjmaaGreat
set_option maxRecDepth 100000
set_option maxRecDepth 100000
open Go.RowKit

def ntC (n : Nt) : List Value := [.int .i64 n.1, .string n.2.tb, .int .i64 n.2.kd, .string n.2.lo, .string n.2.hi]
def cellsT (L : List Nt) : List Value := L.flatMap ntC
def seT : SEl := ⟨30, 222, .agg #[.int .i64 0, .string ⟨#[]⟩, .int .i64 0, .string ⟨#[]⟩, .string ⟨#[]⟩], 5, 64⟩
theorem seT_ok : seT.Ok := ⟨by kernel_rfl, by kernel_rfl, by kernel_rfl, by decide, by decide, by decide⟩
theorem cellsT_len (L : List Nt) : (cellsT L).length = 5 * L.length := by
  induction L with
  | nil => rfl
  | cons p ps ih => simp only [cellsT, List.flatMap_cons, List.length_append, List.length_cons] at ih ⊢; rw [ih]; show 5 + _ = _; omega
theorem cellsT_cons (p : Nt) (ps : List Nt) : cellsT (p :: ps) = Value.int .i64 p.1 :: Value.string p.2.tb :: Value.int .i64 p.2.kd :: Value.string p.2.lo :: Value.string p.2.hi :: cellsT ps := by simp [cellsT, ntC]
theorem cellsT_app (a b : List Nt) : cellsT (a ++ b) = cellsT a ++ cellsT b := by simp [cellsT]
theorem cellsT_one (ps : List Nt) : ∀ u ∈ cellsT ps, u.oneCell' = true := by
  intro u hu
  simp only [cellsT, List.mem_flatMap] at hu
  obtain ⟨p, -, hu⟩ := hu
  simp [ntC] at hu
  rcases hu with rfl | rfl | rfl | rfl | rfl <;> rfl
theorem cellsT_at : ∀ (ps : List Nt) (j : Nat) (p : Nt), ps[j]? = some p → (cellsT ps)[5 * j]? = some (.int .i64 p.1) ∧ (cellsT ps)[5 * j + 1]? = some (.string p.2.tb) ∧ (cellsT ps)[5 * j + 2]? = some (.int .i64 p.2.kd) ∧ (cellsT ps)[5 * j + 3]? = some (.string p.2.lo) ∧ (cellsT ps)[5 * j + 4]? = some (.string p.2.hi)
  | [], _, _, h => by cases h
  | q :: ps, 0, p, h => by cases h; rw [cellsT_cons]; exact ⟨rfl, rfl, rfl, rfl, rfl⟩
  | q :: ps, j + 1, p, h => by
    have := cellsT_at ps j p h
    rw [cellsT_cons]
    exact this
/-- The j-th note of a list. -/
theorem SB.note {w : World} {A : Option Addr} {L : List Nt} (h : SB w A (5 * L.length) (cellsT L)) {j : Nat} {p : Nt} (hp : L[j]? = some p) : ∃ g o, A = some ⟨g, o, none⟩ ∧ w.cell? ⟨g, o + j * 5, none⟩ = some (.int .i64 p.1) ∧ w.cell? ⟨g, o + j * 5 + 1, none⟩ = some (.string p.2.tb) ∧ w.cell? ⟨g, o + j * 5 + 2, none⟩ = some (.int .i64 p.2.kd) ∧ w.cell? ⟨g, o + j * 5 + 3, none⟩ = some (.string p.2.lo) ∧ w.cell? ⟨g, o + j * 5 + 4, none⟩ = some (.string p.2.hi) := by
  obtain ⟨a0, a1, a2, a3, a4⟩ := cellsT_at L j p hp
  have hlt := (List.getElem?_eq_some_iff.1 hp).1
  obtain ⟨g, o, e, hc⟩ := h.cell (by omega)
  refine ⟨g, o, e, ?_, ?_, ?_, ?_, ?_⟩
  · have := hc _ _ a0; rwa [Nat.mul_comm] at this
  · have := hc _ _ a1; rwa [Nat.mul_comm, ← Nat.add_assoc] at this
  · have := hc _ _ a2; rwa [Nat.mul_comm, ← Nat.add_assoc] at this
  · have := hc _ _ a3; rwa [Nat.mul_comm, ← Nat.add_assoc] at this
  · have := hc _ _ a4; rwa [Nat.mul_comm, ← Nat.add_assoc] at this
theorem cnt_take {L : List Nt} {t : Int} {tb : ByteArray} {j : Nat} {p : Nt} (hp : L[j]? = some p) : cntP (L.take (j + 1)) t tb = cntP (L.take j) t tb + (if (decide (p.1 = t) && (p.2.tb.toList == tb.toList)) = true then 1 else 0) := by
  unfold cntP
  rw [List.take_add_one, hp, Option.toList_some, List.filter_append, List.length_append]
  congr 1
  by_cases h : (decide (p.1 = t) && (p.2.tb.toList == tb.toList)) = true
  · rw [if_pos h]; simp only [List.filter_cons, h, if_true, List.filter_nil, List.length_singleton]
  · rw [if_neg h]; simp only [List.filter_cons, h, if_false, List.filter_nil, List.length_nil]; simp
theorem cnt_le (L : List Nt) (t : Int) (tb : ByteArray) (j : Nat) : cntP (L.take j) t tb ≤ L.length := by
  unfold cntP
  have h1 := List.length_filter_le (fun n : Nt => decide (n.1 = t) && (n.2.tb.toList == tb.toList)) (L.take j)
  have h2 := List.length_take_le' j L
  omega

set_option maxHeartbeats 8000000 in
theorem wrCount {w : World} {A : Option Addr} {c : Nat} {L : List Nt} (h : SB w A (5 * L.length) (cellsT L)) (hn : L.length ≤ 4000000) (t : Int) (tb : ByteArray) :
    Calls Tryz.prog 211 #[.slice A L.length c, .int .i64 t, .string tb] w fun e w' => e = .returned (.int .i64 (cntP L t tb : Nat)) ∧ w' = w := by
  have HS := Lib.hid h
  have HN := Lib.hid hn
  clear h hn
  go_enter Tryz.func211, Tryz.ntmps211
  go_upto_region 3 with fail
  go_loopw [7, 8] (fun nv i' wr => ∃ j : Nat, i' = .int .i64 (j : Nat) ∧ j ≤ L.length ∧ nv = .int .i64 (cntP (L.take j) t tb : Nat) ∧ wr = w) (fun _ i' _ => L.length - (intOf i').toNat)
  case atStart => exact ⟨0, rfl, Nat.zero_le _, by simp [cntP], rfl⟩
  case round =>
    obtain ⟨j, rfl, hj, rfl, hw⟩ := hrel
    subst hw
    have LE := cnt_le L t tb j
    obtain ⟨n, hnn⟩ : ∃ n, cntP (L.take j) t tb = n := ⟨_, rfl⟩
    rw [hnn] at LE ⊢
    by_cases hlt : j < L.length
    · obtain ⟨p, hp⟩ : ∃ p, L[j]? = some p := ⟨_, List.getElem?_eq_getElem hlt⟩
      have HT := cnt_take (t := t) (tb := tb) hp
      rw [hnn] at HT
      obtain ⟨g, o, rfl, c0, c1, -, -, -⟩ := HS.out.note hp
      have i1 : (j : Int) < (L.length : Int) := by omega
      have l1 : (j : Int) ≤ 4000000 := by have := HN.out; omega
      have n1 : (n : Int) ≤ 4000000 := by have := HN.out; omega
      have HLT := Lib.hid hlt
      have HJ := Lib.hid hj
      clear hnn hp LE hj hlt
      by_cases h1 : p.1 = t
      · have h1' : (p.1 == t) = true := by simpa using h1
        cases h2 : (p.2.tb.toList == tb.toList)
        · have HT := Lib.hid (show cntP (L.take (j + 1)) t tb = n by rw [HT, h2, Bool.and_false]; rfl)
          clear h1
          go_wp2
          go_roundw
          case rel => exact ⟨j + 1, by go_num, HLT.out, by rw [HT.out], by first | trivial | rfl⟩
          case measure => have := HLT.out; simp [intOf]; omega
        · have HT := Lib.hid (show cntP (L.take (j + 1)) t tb = n + 1 by rw [HT, h2, h1]; simp)
          clear h1
          go_wp2
          go_roundw
          case rel => exact ⟨j + 1, by go_num, HLT.out, by rw [HT.out]; go_num, by first | trivial | rfl⟩
          case measure => have := HLT.out; simp [intOf]; omega
      · have h1' : (p.1 == t) = false := by simpa using h1
        have HT := Lib.hid (show cntP (L.take (j + 1)) t tb = n by rw [HT]; simp [h1])
        clear h1
        go_wp2
        go_roundw
        case rel => exact ⟨j + 1, by go_num, HLT.out, by rw [HT.out], by first | trivial | rfl⟩
        case measure => have := HLT.out; simp [intOf]; omega
    · obtain rfl : j = L.length := by omega
      have i1 : ¬ (L.length : Int) < (L.length : Int) := by omega
      have HE := Lib.hid (show cntP L t tb = n by rw [← hnn, List.take_length])
      clear hnn LE hlt hj
      go_wp2
      go_ret
      exact ⟨by rw [HE.out] <;> rfl, rfl⟩

theorem sb_note (X : World) (n : Nt) : SB (X.alloc (.cells #[.int .i64 n.1, .string n.2.tb, .int .i64 n.2.kd, .string n.2.lo, .string n.2.hi] 222)) (some ⟨X.heap.size, 0, none⟩) (seT.s * 1) (cellsT [n]) := by
  refine ⟨rfl, cellsT_one _, fun _ => ⟨X.heap.size, 0, rfl, fun j u hj => ?_⟩⟩
  rw [cell_of_row _ _ _ _ _ _ (heap_alloc_new X (.cells #[.int .i64 n.1, .string n.2.tb, .int .i64 n.2.kd, .string n.2.lo, .string n.2.hi] 222))]
  simpa [cellsT, ntC] using hj
def notOf (t : Int) (tb : ByteArray) (n : Nt) : Bool := !(decide (n.1 = t) && (n.2.tb.toList == tb.toList))
theorem filter_take {L : List Nt} {f : Nt → Bool} {j : Nat} {p : Nt} (hp : L[j]? = some p) : (L.take (j + 1)).filter f = (L.take j).filter f ++ (if f p = true then [p] else []) := by
  rw [List.take_add_one, hp, Option.toList_some, List.filter_append]
  congr 1
  by_cases h : f p = true
  · rw [if_pos h]; simp [h]
  · rw [if_neg h]; simp [h]
theorem filter_take_le (L : List Nt) (f : Nt → Bool) (j : Nat) : ((L.take j).filter f).length ≤ L.length := by
  have h1 := List.length_filter_le f (L.take j)
  have h2 := List.length_take_le' j L
  omega
set_option maxHeartbeats 16000000 in
theorem wrCoarse {w : World} {A : Option Addr} {c : Nat} {L : List Nt} (h : SB w A (5 * L.length) (cellsT L)) (hn : L.length ≤ 4000000) (t : Int) (tb : ByteArray) :
    Calls Tryz.prog 189 #[.slice A L.length c, .int .i64 t, .string tb] w fun e w' => ∃ v, e = .returned v ∧ SO seT w.heap.size w' v (coarseP L t tb).length (cellsT (coarseP L t tb)) ∧ Below w.heap.size w w' := by
  have HS := Lib.hid h
  have HN := Lib.hid hn
  clear h hn
  go_enter Tryz.func189, Tryz.ntmps189
  go_upto_region 3 with fail
  go_loopw [7, 8] (fun lv i' wr => ∃ j : Nat, i' = .int .i64 (j : Nat) ∧ j ≤ L.length ∧ SO seT w.heap.size wr lv ((L.take j).filter (notOf t tb)).length (cellsT ((L.take j).filter (notOf t tb))) ∧ Below w.heap.size w wr) (fun _ i' _ => L.length - (intOf i').toNat)
  case atStart => exact ⟨0, rfl, Nat.zero_le _, SO.nil _ _ _, Below.refl _ _⟩
  case round =>
    rename World => wr
    obtain ⟨j, rfl, hj, ho, hb⟩ := hrel
    have LE := filter_take_le L (notOf t tb) j
    by_cases hlt : j < L.length
    · obtain ⟨p, hp⟩ : ∃ p, L[j]? = some p := ⟨_, List.getElem?_eq_getElem hlt⟩
      have HT := filter_take (f := notOf t tb) hp
      obtain ⟨zs, hzs⟩ : ∃ zs, (L.take j).filter (notOf t tb) = zs := ⟨_, rfl⟩
      rw [hzs] at HT ho LE
      obtain ⟨g, o, rfl, c0, c1, c2, c3, c4⟩ := (HS.out.gw hb).note hp
      have i1 : (j : Int) < (L.length : Int) := by omega
      have l1 : (j : Int) ≤ 4000000 := by have := HN.out; omega
      have HLT := Lib.hid hlt
      have HO := Lib.hid ho
      have HB := Lib.hid hb
      have HLE := Lib.hid LE
      clear hzs hp LE hj hlt ho hb
      obtain ⟨pt, px⟩ := p
      dsimp only at c0 c1 c2 c3 c4
      by_cases h1 : pt = t
      rotate_left
      · have h1' : (pt == t) = false := by simpa using h1
        have hf : notOf t tb (pt, px) = true := by
          simp [notOf, h1]
        have HT := Lib.hid (show (L.take (j + 1)).filter (notOf t tb) = zs ++ [(pt, px)] by rw [HT, if_pos hf])
        clear hf
        go_wp2_with (at_builtin; go_loud (refine so_append seT_ok (by rfl) (.tmp 32) (.tmp 37) (by rfl) _ (by rfl) (HO.out.alloc _) (some ⟨wr.heap.size, 0, none⟩) 1 1 (cellsT [(pt, px)]) (by rfl) (sb_note wr (pt, px)) (by have := HLE.out; have := HN.out; omega) (by have := HB.out.size; simp; omega) ?_; intro v3 w3 o3 b3; have O3 := Lib.hid o3; have B3 := Lib.hid ((HB.out.alloc HB.out.size _).trans b3); clear o3 b3))
        go_roundw
        case rel => exact ⟨j + 1, by go_num, HLT.out, by rw [HT.out]; exact O3.out.base (Nat.le_refl _) (by rw [cellsT_app]) (by simp), B3.out⟩
        case measure => have := HLT.out; simp [intOf]; omega
      · subst h1
        cases h2 : (px.tb.toList == tb.toList)
        · have hf : notOf pt tb (pt, px) = true := by unfold notOf; rw [h2, Bool.and_false]; rfl
          have HT := Lib.hid (show (L.take (j + 1)).filter (notOf pt tb) = zs ++ [(pt, px)] by rw [HT, if_pos hf])
          clear hf
          go_wp2_with (at_builtin; go_loud (refine so_append seT_ok (by rfl) (.tmp 32) (.tmp 37) (by rfl) _ (by rfl) (HO.out.alloc _) (some ⟨wr.heap.size, 0, none⟩) 1 1 (cellsT [(pt, px)]) (by rfl) (sb_note wr (pt, px)) (by have := HLE.out; have := HN.out; omega) (by have := HB.out.size; simp; omega) ?_; intro v3 w3 o3 b3; have O3 := Lib.hid o3; have B3 := Lib.hid ((HB.out.alloc HB.out.size _).trans b3); clear o3 b3))
          go_roundw
          case rel => exact ⟨j + 1, by go_num, HLT.out, by rw [HT.out]; exact O3.out.base (Nat.le_refl _) (by rw [cellsT_app]) (by simp), B3.out⟩
          case measure => have := HLT.out; simp [intOf]; omega
        · have hf : notOf pt tb (pt, px) = false := by
            simp [notOf, h2]
          have HT := Lib.hid (show (L.take (j + 1)).filter (notOf pt tb) = zs by rw [HT, if_neg (by rw [hf]; simp), List.append_nil])
          clear hf
          go_wp2
          go_roundw
          case rel => exact ⟨j + 1, by go_num, HLT.out, by rw [HT.out]; exact HO.out, HB.out⟩
          case measure => have := HLT.out; simp [intOf]; omega
    · obtain rfl : j = L.length := by omega
      have i1 : ¬ (L.length : Int) < (L.length : Int) := by omega
      rw [List.take_length] at ho LE
      have HO := Lib.hid ho
      have HB := Lib.hid hb
      have HLE := Lib.hid LE
      have HE := Lib.hid (show coarseP L t tb = L.filter (notOf t tb) ++ [(t, ⟨tb, 3, ⟨#[]⟩, ⟨#[]⟩⟩)] from rfl)
      clear ho hb LE hj hlt
      go_wp2_with (at_builtin; go_loud (refine so_append seT_ok (by rfl) (.tmp 39) (.tmp 44) (by rfl) _ (by rfl) (HO.out.alloc _) (some ⟨wr.heap.size, 0, none⟩) 1 1 (cellsT [(t, ⟨tb, 3, ⟨#[]⟩, ⟨#[]⟩⟩)]) (by rfl) (sb_note wr (t, ⟨tb, 3, ⟨#[]⟩, ⟨#[]⟩⟩)) (by have := HLE.out; have := HN.out; omega) (by have := HB.out.size; simp; omega) ?_; intro v3 w3 o3 b3; have O3 := Lib.hid o3; have B3 := Lib.hid ((HB.out.alloc HB.out.size _).trans b3); clear o3 b3))
      go_ret
      exact ⟨_, rfl, by rw [HE.out]; exact O3.out.base (Nat.le_refl _) (by rw [cellsT_app]) (by simp), B3.out⟩
end Go.Proofs.YtknppiebncdjmaaGreat

/- Layer 9: the reference's coarsest. -/
namespace Go.Proofs.YtknppiebncdjmaaGreat
set_option maxRecDepth 100000
set_option maxRecDepth 100000
open Go.RowKit

def accP (L : List Nt) (j : Nat) : Option (Int × ByteArray) × Nat := (L.take j).foldl (coarsestStep L) (none, 1)
theorem acc_succ {L : List Nt} {j : Nat} {p : Nt} (hp : L[j]? = some p) : accP L (j + 1) = coarsestStep L (accP L j) p := by
  unfold accP
  rw [List.take_add_one, hp, Option.toList_some, List.foldl_append]
  rfl
/-- What the loop's two variables say. -/
def AccIs (L : List Nt) (acc : Option (Int × ByteArray) × Nat) (bv mv : Int) : Prop :=
  (acc = (none, 1) ∧ bv = -1 ∧ mv = 1) ∨ ∃ (b : Nat) (nb : Nt) (n : Nat), bv = (b : Int) ∧ L[b]? = some nb ∧ acc = (some (prP nb), n) ∧ mv = (n : Int) ∧ n ≤ L.length ∧ 2 ≤ n
theorem cntP_le (L : List Nt) (t : Int) (tb : ByteArray) : cntP L t tb ≤ L.length := by
  have := cnt_le L t tb L.length
  rwa [List.take_length] at this
theorem acc_new {L : List Nt} {acc : Option (Int × ByteArray) × Nat} {j : Nat} {p : Nt} (hp : L[j]? = some p) (h2 : ¬ cntP L p.1 p.2.tb < 2) (h3 : ¬ cntP L p.1 p.2.tb < acc.2) (h4 : acc.2 < cntP L p.1 p.2.tb ∨ (acc.1.elim false fun q => pairLt (p.1, p.2.tb) q) = true) :
    AccIs L (coarsestStep L acc p) (j : Int) (cntP L p.1 p.2.tb : Nat) := by
  unfold coarsestStep
  rw [if_neg (by omega), if_pos h4]
  exact .inr ⟨j, p, _, rfl, hp, rfl, rfl, cntP_le _ _ _, by omega⟩
theorem acc_skip {L : List Nt} {acc : Option (Int × ByteArray) × Nat} {p : Nt} (h : cntP L p.1 p.2.tb < 2 ∨ cntP L p.1 p.2.tb < acc.2) : coarsestStep L acc p = acc := by
  unfold coarsestStep
  rw [if_pos h]
theorem acc_keep {L : List Nt} {q : Int × ByteArray} {n : Nat} {p : Nt} (h3 : ¬ n < cntP L p.1 p.2.tb) (h4 : pairLt (p.1, p.2.tb) q = false) : coarsestStep L (some q, n) p = (some q, n) := by
  unfold coarsestStep
  split
  · rfl
  · rw [if_neg]
    rintro (h | h)
    · exact h3 h
    · simp only [Option.elim_some, h4] at h; cases h

/-- Which note coarsest tells. -/
def CoIs (L : List Nt) (bv : Int) : Prop := (coarsestP L = none ∧ bv = -1) ∨ ∃ (b : Nat) (nb : Nt), bv = (b : Int) ∧ L[b]? = some nb ∧ coarsestP L = some (prP nb)
set_option maxHeartbeats 32000000 in
theorem wrCoarsest {w : World} {A : Option Addr} {c : Nat} {L : List Nt} (h : SB w A (5 * L.length) (cellsT L)) (hn : L.length ≤ 4000000) :
    Calls Tryz.prog 188 #[.slice A L.length c] w fun e w' => (∃ bv : Int, e = .returned (.int .i64 bv) ∧ CoIs L bv) ∧ Below w.heap.size w w' := by
  have HS := Lib.hid h
  have HN := Lib.hid hn
  clear h hn
  go_enter Tryz.func188, Tryz.ntmps188
  go_upto_region 3 with fail
  go_loopw [3, 4, 5] (fun b' m' i' wr => ∃ (j : Nat) (bv mv : Int), i' = .int .i64 (j : Nat) ∧ j ≤ L.length ∧ b' = .int .i64 bv ∧ m' = .int .i64 mv ∧ AccIs L (accP L j) bv mv ∧ Below w.heap.size w wr) (fun _ _ i' _ => L.length - (intOf i').toNat)
  case atStart => exact ⟨0, -1, 1, rfl, Nat.zero_le _, rfl, rfl, .inl ⟨by simp [accP], rfl, rfl⟩, Below.refl _ _⟩
  case round =>
    rename World => wr
    obtain ⟨j, bv, mv, rfl, hj, rfl, rfl, hA, hb⟩ := hrel
    by_cases hlt : j < L.length
    · obtain ⟨p, hp⟩ : ∃ p, L[j]? = some p := ⟨_, List.getElem?_eq_getElem hlt⟩
      have HACC := acc_succ hp
      have HS2 := HS.out.gw hb
      have CC := Lib.hid (fun n => wrCount (c := c) (HS2.gw (below_drewN9 wr n)) HN.out p.1 p.2.tb)
      have NEW := Lib.hid (acc_new (acc := accP L j) hp)
      have SKIP := Lib.hid (acc_skip (L := L) (acc := accP L j) (p := p))
      have KEEP := Lib.hid (fun q n => acc_keep (L := L) (q := q) (n := n) (p := p))
      have CLE := cntP_le L p.1 p.2.tb
      obtain ⟨cn, hcn⟩ : ∃ cn, cntP L p.1 p.2.tb = cn := ⟨_, rfl⟩
      rw [hcn] at CC CLE NEW SKIP
      simp only [hcn] at KEEP
      obtain ⟨g, o, hAA, c0, c1, -, -, -⟩ := HS2.note hp
      subst hAA
      have HSB := Lib.hid HS2
      have i1 : (j : Int) < (L.length : Int) := by omega
      have l1 : (j : Int) ≤ 4000000 := by have := HN.out; omega
      have HLT := Lib.hid hlt
      have HB := Lib.hid hb
      have HAC := Lib.hid HACC
      clear hcn hp HS2 HACC hj hlt hb
      have k1 : (cn : Int) ≤ 4000000 := by have := HN.out; omega
      go_upto_region 5 with fail
      go_quiet ((go_at_call 211; (try simp only [World.drewN_drewN]); exact Calls.quiet_of_same (CC.out _)))
      by_cases h2 : cn < 2
      · have i2 : (cn : Int) < 2 := by omega
        go_wp2
        go_roundw
        case rel => exact ⟨j + 1, _, _, by go_num, HLT.out, rfl, rfl, by rw [HAC.out, SKIP.out (.inl h2)]; exact hA, below_next HB.out (below_drewN9 _ _)⟩
        case measure => have := HLT.out; simp [intOf]; omega
      · have i2 : ¬ (cn : Int) < 2 := by omega
        rcases hA with ⟨ha, rfl, rfl⟩ | ⟨b, nb, n, rfl, hnb, ha, rfl, hnl, hn2⟩
        · have i3 : ¬ (cn : Int) < 1 := by omega
          have i4 : (1 : Int) < (cn : Int) := by omega
          have HNX := Lib.hid (NEW.out h2 (by rw [ha]; simp; omega) (.inl (by rw [ha]; simp; omega)))
          clear ha NEW SKIP KEEP h2
          go_upto_region 7 with fail
          go_quiet (fail)
          go_wp2
          go_roundw
          case rel => exact ⟨j + 1, _, _, by go_num, HLT.out, rfl, rfl, by rw [HAC.out]; exact HNX.out, below_next HB.out (below_drewN9 _ _)⟩
          case measure => have := HLT.out; simp [intOf]; omega
        · have n1 : (n : Int) ≤ 4000000 := by have := HN.out; omega
          by_cases h3 : cn < n
          · have i3 : (cn : Int) < (n : Int) := by omega
            have HNX := Lib.hid (show AccIs L (accP L (j + 1)) (b : Int) (n : Int) by rw [HAC.out, SKIP.out (.inr (by rw [ha]; exact h3)), ha]; exact .inr ⟨b, nb, n, rfl, hnb, rfl, rfl, hnl, hn2⟩)
            clear ha NEW SKIP KEEP h2 h3 hnb
            go_wp2
            go_roundw
            case rel => exact ⟨j + 1, _, _, by go_num, HLT.out, rfl, rfl, HNX.out, below_next HB.out (below_drewN9 _ _)⟩
            case measure => have := HLT.out; simp [intOf]; omega
          · have i3 : ¬ (cn : Int) < (n : Int) := by omega
            by_cases h4 : n < cn
            · have i4 : (n : Int) < (cn : Int) := by omega
              have HNX := Lib.hid (NEW.out h2 (by rw [ha]; exact h3) (.inl (by rw [ha]; exact h4)))
              clear ha NEW SKIP KEEP h2 h3 h4 hnb
              go_upto_region 7 with fail
              go_quiet (fail)
              go_wp2
              go_roundw
              case rel => exact ⟨j + 1, _, _, by go_num, HLT.out, rfl, rfl, by rw [HAC.out]; exact HNX.out, below_next HB.out (below_drewN9 _ _)⟩
              case measure => have := HLT.out; simp [intOf]; omega
            · have i4 : ¬ (n : Int) < (cn : Int) := by omega
              obtain ⟨g2, o2, e2, d0, d1, -, -, -⟩ := HSB.out.note hnb
              cases e2
              have b1 : (b : Int) < (L.length : Int) := by have := (List.getElem?_eq_some_iff.1 hnb).1; omega
              have b2 : (b : Int) ≤ 4000000 := by have := HN.out; omega
              have b3 : 0 ≤ (b : Int) := by omega
              have HKN := Lib.hid (show pairLt (prP p) (prP nb) = false → AccIs L (accP L (j + 1)) (b : Int) (n : Int) from fun hlt' => by
                rw [HAC.out, ha, KEEP.out (prP nb) n h4 hlt']; exact .inr ⟨b, nb, n, rfl, hnb, rfl, rfl, hnl, hn2⟩)
              have HYN := Lib.hid (show pairLt (prP p) (prP nb) = true → AccIs L (accP L (j + 1)) (j : Int) (cn : Int) from fun hlt' => by
                rw [HAC.out]; exact NEW.out h2 (by rw [ha]; exact h3) (.inr (by rw [ha]; exact hlt')))
              clear ha NEW SKIP KEEP h2 h3 h4 hnb
              obtain ⟨pt, px⟩ := p
              obtain ⟨bt, bx⟩ := nb
              dsimp only at c0 c1 d0 d1
              unfold prP pairLt at HKN HYN
              dsimp only at HKN HYN
              by_cases h5 : pt < bt
              · have HNX := Lib.hid (HYN.out (by simp [h5]))
                clear HKN HYN
                go_upto_region 7 with fail
                go_quiet (fail)
                go_wp2
                go_roundw
                case rel => exact ⟨j + 1, _, _, by go_num, HLT.out, rfl, rfl, HNX.out, below_next HB.out (below_drewN9 _ _)⟩
                case measure => have := HLT.out; simp [intOf]; omega
              · by_cases h6 : pt = bt
                · subst h6
                  cases h7 : Op.bytesLess px.tb.toList bx.tb.toList
                  · have HNX := Lib.hid (HKN.out (by simp [show klB px.tb bx.tb = false from h7]))
                    clear HKN HYN
                    go_upto_region 7 with fail
                    go_quiet (fail)
                    go_wp2
                    go_roundw
                    case rel => exact ⟨j + 1, _, _, by go_num, HLT.out, rfl, rfl, HNX.out, below_next HB.out (below_drewN9 _ _)⟩
                    case measure => have := HLT.out; simp [intOf]; omega
                  · have HNX := Lib.hid (HYN.out (by simp [show klB px.tb bx.tb = true from h7]))
                    clear HKN HYN
                    go_upto_region 7 with fail
                    go_quiet (fail)
                    go_wp2
                    go_roundw
                    case rel => exact ⟨j + 1, _, _, by go_num, HLT.out, rfl, rfl, HNX.out, below_next HB.out (below_drewN9 _ _)⟩
                    case measure => have := HLT.out; simp [intOf]; omega
                · have h6' : (pt == bt) = false := by simpa using h6
                  have HNX := Lib.hid (HKN.out (by simp [h5, h6]))
                  clear HKN HYN
                  go_upto_region 7 with fail
                  go_quiet (fail)
                  go_wp2
                  go_roundw
                  case rel => exact ⟨j + 1, _, _, by go_num, HLT.out, rfl, rfl, HNX.out, below_next HB.out (below_drewN9 _ _)⟩
                  case measure => have := HLT.out; simp [intOf]; omega
    · obtain rfl : j = L.length := by omega
      have i1 : ¬ (L.length : Int) < (L.length : Int) := by omega
      have HB := Lib.hid hb
      have HE := Lib.hid (show CoIs L bv by
        have e : (accP L L.length).1 = coarsestP L := by unfold accP coarsestP; rw [List.take_length]
        rcases hA with ⟨ha, rfl, -⟩ | ⟨b, nb, n, rfl, hnb, ha, -⟩
        · exact .inl ⟨by rw [← e, ha], rfl⟩
        · exact .inr ⟨b, nb, rfl, hnb, by rw [← e, ha]⟩)
      clear hA hb hlt hj
      go_wp2
      go_ret
      exact ⟨⟨_, rfl, HE.out⟩, HB.out⟩
end Go.Proofs.YtknppiebncdjmaaGreat
