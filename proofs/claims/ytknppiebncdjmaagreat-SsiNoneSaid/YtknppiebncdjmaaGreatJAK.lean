import Derived.Test.YtknppiebncdjmaaGreatJAJ
import Derived.Deep.DeepCutAuto
/- Layer 9: the reference's ahead, Of, New. -/
namespace Go.Proofs.YtknppiebncdjmaaGreat
set_option maxRecDepth 100000
set_option maxRecDepth 100000
open Go.RowKit

/-- The order of notes. -/
def aheadP (a b : Rd) : Bool := if a.tb.toList == b.tb.toList then (if a.kd == b.kd then (if a.lo.toList == b.lo.toList then klB a.hi b.hi else klB a.lo b.lo) else decide (a.kd < b.kd)) else klB a.tb b.tb
theorem rd_ext {a b : Rd} (h1 : a.tb = b.tb) (h2 : a.kd = b.kd) (h3 : a.lo = b.lo) (h4 : a.hi = b.hi) : a = b := by
  cases a; cases b; simp only at h1 h2 h3 h4; subst h1; subst h2; subst h3; subst h4; rfl
theorem ahead_is (a b : Rd) : aheadP a b = true ↔ klB a.tb b.tb = true ∨ (a.tb = b.tb ∧ (a.kd < b.kd ∨ (a.kd = b.kd ∧ (klB a.lo b.lo = true ∨ (a.lo = b.lo ∧ klB a.hi b.hi = true))))) := by
  unfold aheadP
  rw [toList_beq8, toList_beq8]
  by_cases h1 : a.tb = b.tb
  · rw [if_pos (by simpa using h1), h1, klB_irrefl]
    by_cases h2 : a.kd = b.kd
    · rw [if_pos (by simpa using h2), h2]
      by_cases h3 : a.lo = b.lo
      · rw [if_pos (by simpa using h3), h3, klB_irrefl]; simp
      · rw [if_neg (by simpa using h3)]; simp [h3]
    · rw [if_neg (by simpa using h2)]; simp [h2]
  · rw [if_neg (by simpa using h1)]; simp [h1]
theorem ahead_irr (a : Rd) : aheadP a a = false := by
  cases h : aheadP a a
  · rfl
  · rcases (ahead_is _ _).1 h with h1 | ⟨-, h1 | ⟨-, h1 | ⟨-, h1⟩⟩⟩
    · rw [klB_irrefl] at h1; cases h1
    · omega
    · rw [klB_irrefl] at h1; cases h1
    · rw [klB_irrefl] at h1; cases h1
theorem ahead_tr (a b c : Rd) (h1 : aheadP a b = true) (h2 : aheadP b c = true) : aheadP a c = true := by
  rw [ahead_is] at *
  rcases h1 with h1 | ⟨e1, h1⟩ <;> rcases h2 with h2 | ⟨e2, h2⟩
  · exact .inl (klB_trans h1 h2)
  · exact .inl (e2 ▸ h1)
  · exact .inl (e1 ▸ h2)
  · refine .inr ⟨e1.trans e2, ?_⟩
    rcases h1 with h1 | ⟨d1, h1⟩ <;> rcases h2 with h2 | ⟨d2, h2⟩
    · exact .inl (by omega)
    · exact .inl (by omega)
    · exact .inl (by omega)
    · refine .inr ⟨d1.trans d2, ?_⟩
      rcases h1 with h1 | ⟨c1, h1⟩ <;> rcases h2 with h2 | ⟨c2, h2⟩
      · exact .inl (klB_trans h1 h2)
      · exact .inl (c2 ▸ h1)
      · exact .inl (c1 ▸ h2)
      · exact .inr ⟨c1.trans c2, klB_trans h1 h2⟩
theorem ahead_tri (a b : Rd) (h1 : aheadP a b = false) (h2 : aheadP b a = false) : a = b := by
  have n1 : ¬ aheadP a b = true := by rw [h1]; simp
  have n2 : ¬ aheadP b a = true := by rw [h2]; simp
  rw [ahead_is] at n1 n2
  have e1 : a.tb = b.tb := klB_tri (by cases h : klB a.tb b.tb with | false => rfl | true => exact absurd (.inl h) n1) (by cases h : klB b.tb a.tb with | false => rfl | true => exact absurd (.inl h) n2)
  have e2 : a.kd = b.kd := by
    have m1 : ¬ a.kd < b.kd := fun h => n1 (.inr ⟨e1, .inl h⟩)
    have m2 : ¬ b.kd < a.kd := fun h => n2 (.inr ⟨e1.symm, .inl h⟩)
    omega
  have e3 : a.lo = b.lo := klB_tri (by cases h : klB a.lo b.lo with | false => rfl | true => exact absurd (.inr ⟨e1, .inr ⟨e2, .inl h⟩⟩) n1) (by cases h : klB b.lo a.lo with | false => rfl | true => exact absurd (.inr ⟨e1.symm, .inr ⟨e2.symm, .inl h⟩⟩) n2)
  have e4 : a.hi = b.hi := klB_tri (by cases h : klB a.hi b.hi with | false => rfl | true => exact absurd (.inr ⟨e1, .inr ⟨e2, .inr ⟨e3, h⟩⟩⟩) n1) (by cases h : klB b.hi a.hi with | false => rfl | true => exact absurd (.inr ⟨e1.symm, .inr ⟨e2.symm, .inr ⟨e3.symm, h⟩⟩⟩) n2)
  exact rd_ext e1 e2 e3 e4
theorem ahead_asy (a b : Rd) (h : aheadP a b = true) : aheadP b a = false := by
  cases h2 : aheadP b a
  · rfl
  · have := ahead_tr _ _ _ h h2; rw [ahead_irr] at this; cases this

set_option maxHeartbeats 16000000 in
theorem wrAhead (w : World) (a b : Rd) : Calls Tryz.prog 154 #[rdV a, rdV b] w fun e w' => e = .returned (.bool (aheadP a b)) ∧ Below w.heap.size w w' := by
  obtain ⟨W1, hW1⟩ : ∃ W, w.alloc (.cells #[.string a.tb, .int .i64 a.kd, .string a.lo, .string a.hi] 114) = W := ⟨_, rfl⟩
  obtain ⟨W, hW⟩ : ∃ W, W1.alloc (.cells #[.string b.tb, .int .i64 b.kd, .string b.lo, .string b.hi] 114) = W := ⟨_, rfl⟩
  have HW1 := Lib.hid hW1
  have HW := Lib.hid hW
  have b1 : Below w.heap.size w W1 := by rw [← hW1]; exact below_alloc9 _ _
  have b2 : Below W1.heap.size W1 W := by rw [← hW]; exact below_alloc9 _ _
  have HB := Lib.hid (below_next b1 b2)
  have hz1 : W1.heap.size = w.heap.size + 1 := by rw [← hW1]; simp
  have q1 := rd_box w a
  rw [hW1] at q1
  have q1 := (b2.block _ (by omega)).trans q1
  have q2 := rd_box W1 b
  rw [hW, hz1] at q2
  have x0 : W.cell? ⟨w.heap.size, 0, none⟩ = some (.string a.tb) := cell_of_row _ _ 0 _ _ _ q1
  have x1 : W.cell? ⟨w.heap.size, 1, none⟩ = some (.int .i64 a.kd) := cell_of_row _ _ 1 _ _ _ q1
  have x2 : W.cell? ⟨w.heap.size, 2, none⟩ = some (.string a.lo) := cell_of_row _ _ 2 _ _ _ q1
  have x3 : W.cell? ⟨w.heap.size, 3, none⟩ = some (.string a.hi) := cell_of_row _ _ 3 _ _ _ q1
  have y0 : W.cell? ⟨w.heap.size + 1, 0, none⟩ = some (.string b.tb) := cell_of_row _ _ 0 _ _ _ q2
  have y1 : W.cell? ⟨w.heap.size + 1, 1, none⟩ = some (.int .i64 b.kd) := cell_of_row _ _ 1 _ _ _ q2
  have y2 : W.cell? ⟨w.heap.size + 1, 2, none⟩ = some (.string b.lo) := cell_of_row _ _ 2 _ _ _ q2
  have y3 : W.cell? ⟨w.heap.size + 1, 3, none⟩ = some (.string b.hi) := cell_of_row _ _ 3 _ _ _ q2
  clear hW1 hW b1 b2 hz1 q1 q2
  unfold rdV
  cases e0 : (a.tb.toList == b.tb.toList)
  · have HM := Lib.hid (show aheadP a b = klB a.tb b.tb by unfold aheadP; rw [e0]; rfl)
    go_enter Tryz.func154, Tryz.ntmps154
    go_upto_region 1 with fail
    rw [HW1.out, HW.out]
    go_wp2
    go_ret
    exact ⟨by rw [HM.out] <;> rfl, HB.out⟩
  · cases e1 : (a.kd == b.kd)
    · have HM := Lib.hid (show aheadP a b = decide (a.kd < b.kd) by unfold aheadP; rw [e0, e1]; rfl)
      go_enter Tryz.func154, Tryz.ntmps154
      go_upto_region 1 with fail
      rw [HW1.out, HW.out]
      go_wp2
      go_ret
      exact ⟨by rw [HM.out] <;> rfl, HB.out⟩
    · cases e2 : (a.lo.toList == b.lo.toList)
      · have HM := Lib.hid (show aheadP a b = klB a.lo b.lo by unfold aheadP; rw [e0, e1, e2]; rfl)
        go_enter Tryz.func154, Tryz.ntmps154
        go_upto_region 1 with fail
        rw [HW1.out, HW.out]
        go_wp2
        go_ret
        exact ⟨by rw [HM.out] <;> rfl, HB.out⟩
      · have HM := Lib.hid (show aheadP a b = klB a.hi b.hi by unfold aheadP; rw [e0, e1, e2]; rfl)
        go_enter Tryz.func154, Tryz.ntmps154
        go_upto_region 1 with fail
        rw [HW1.out, HW.out]
        go_wp2
        go_ret
        exact ⟨by rw [HM.out] <;> rfl, HB.out⟩
end Go.Proofs.YtknppiebncdjmaaGreat

/- Layer 9: the reference's Of. -/
namespace Go.Proofs.YtknppiebncdjmaaGreat
set_option maxRecDepth 100000
set_option maxRecDepth 100000
open Go.RowKit

def seR : SEl := ⟨111, 114, .agg #[.string ⟨#[]⟩, .int .i64 0, .string ⟨#[]⟩, .string ⟨#[]⟩], 4, 56⟩
theorem seR_ok : seR.Ok := ⟨by kernel_rfl, by kernel_rfl, by kernel_rfl, by decide, by decide, by decide⟩
def cellsR (ls : List Rd) : List Value := ls.flatMap rdC
theorem cellsR_len (ls : List Rd) : (cellsR ls).length = 4 * ls.length := by
  induction ls with
  | nil => rfl
  | cons p ps ih => simp only [cellsR, List.flatMap_cons, List.length_append, List.length_cons] at ih ⊢; rw [ih]; show 4 + _ = _; omega
theorem cellsR_cons (p : Rd) (ps : List Rd) : cellsR (p :: ps) = Value.string p.tb :: Value.int .i64 p.kd :: Value.string p.lo :: Value.string p.hi :: cellsR ps := by simp [cellsR, rdC]
theorem cellsR_app (a b : List Rd) : cellsR (a ++ b) = cellsR a ++ cellsR b := by simp [cellsR]
theorem cellsR_one (ps : List Rd) : ∀ u ∈ cellsR ps, u.oneCell' = true := by
  intro u hu
  simp only [cellsR, List.mem_flatMap] at hu
  obtain ⟨p, -, hu⟩ := hu
  simp [rdC] at hu
  rcases hu with rfl | rfl | rfl | rfl <;> rfl
theorem cellsR_at : ∀ (ps : List Rd) (j : Nat) (p : Rd), ps[j]? = some p → (cellsR ps)[4 * j]? = some (.string p.tb) ∧ (cellsR ps)[4 * j + 1]? = some (.int .i64 p.kd) ∧ (cellsR ps)[4 * j + 2]? = some (.string p.lo) ∧ (cellsR ps)[4 * j + 3]? = some (.string p.hi)
  | [], _, _, h => by cases h
  | q :: ps, 0, p, h => by cases h; rw [cellsR_cons]; exact ⟨rfl, rfl, rfl, rfl⟩
  | q :: ps, j + 1, p, h => by
    have := cellsR_at ps j p h
    rw [cellsR_cons]
    exact this
theorem cellsR_take : ∀ (ps : List Rd) (i : Nat), cellsR (ps.take i) = (cellsR ps).take (4 * i)
  | [], i => by simp [cellsR]
  | p :: ps, 0 => by simp [cellsR]
  | p :: ps, i + 1 => by
    rw [List.take_succ_cons, cellsR_cons, cellsR_cons, cellsR_take ps i]
    rfl
theorem cellsR_drop : ∀ (ps : List Rd) (i : Nat), cellsR (ps.drop i) = (cellsR ps).drop (4 * i)
  | [], i => by simp [cellsR]
  | p :: ps, 0 => by simp [cellsR]
  | p :: ps, i + 1 => by
    rw [List.drop_succ_cons, cellsR_cons, cellsR_drop ps i]
    rfl
/-- The j-th of a list of notes. -/
theorem SB.rd {w : World} {A : Option Addr} {L : List Rd} (h : SB w A (4 * L.length) (cellsR L)) {j : Nat} {p : Rd} (hp : L[j]? = some p) : ∃ g o, A = some ⟨g, o, none⟩ ∧ w.cell? ⟨g, o + j * 4, none⟩ = some (.string p.tb) ∧ w.cell? ⟨g, o + j * 4 + 1, none⟩ = some (.int .i64 p.kd) ∧ w.cell? ⟨g, o + j * 4 + 2, none⟩ = some (.string p.lo) ∧ w.cell? ⟨g, o + j * 4 + 3, none⟩ = some (.string p.hi) := by
  obtain ⟨a0, a1, a2, a3⟩ := cellsR_at L j p hp
  have hlt := (List.getElem?_eq_some_iff.1 hp).1
  obtain ⟨g, o, e, hc⟩ := h.cell (by omega)
  refine ⟨g, o, e, ?_, ?_, ?_, ?_⟩
  · have := hc _ _ a0; rwa [Nat.mul_comm] at this
  · have := hc _ _ a1; rwa [Nat.mul_comm, ← Nat.add_assoc] at this
  · have := hc _ _ a2; rwa [Nat.mul_comm, ← Nat.add_assoc] at this
  · have := hc _ _ a3; rwa [Nat.mul_comm, ← Nat.add_assoc] at this
theorem sb_rd (X : World) (x : Rd) : SB (X.alloc (.cells #[.string x.tb, .int .i64 x.kd, .string x.lo, .string x.hi] 114)) (some ⟨X.heap.size, 0, none⟩) (seR.s * 1) (cellsR [x]) := by
  refine ⟨rfl, cellsR_one _, fun _ => ⟨X.heap.size, 0, rfl, fun j u hj => ?_⟩⟩
  rw [cell_of_row _ _ _ _ _ _ (heap_alloc_new X (.cells #[.string x.tb, .int .i64 x.kd, .string x.lo, .string x.hi] 114))]
  simpa [cellsR, rdC] using hj
/-- The place of a note in a list. -/
def plR (l : List Rd) (x : Rd) : Nat := (l.takeWhile (aheadP · x)).length
def insR (l : List Rd) (x : Rd) : List Rd := l.take (plR l x) ++ [x] ++ l.drop (plR l x)
/-- A transaction's notes, in the order of the list. -/
def hisR (hs : List Nt) (tx : Int) : List Rd := (hs.filter (fun h => decide (h.1 = tx))).map (·.2)
/-- A transaction's notes, in order. -/
def ofP (hs : List Nt) (tx : Int) : List Rd := (hisR hs tx).foldl insR []
theorem plR_le (l : List Rd) (x : Rd) : plR l x ≤ l.length := (List.takeWhile_prefix _).length_le
theorem plR_below : ∀ (l : List Rd) (x : Rd) (j : Nat) (a : Rd), j < plR l x → l[j]? = some a → aheadP a x = true
  | [], x, j, a, h, _ => by simp [plR] at h
  | b :: l, x, j, a, h, ha => by
    unfold plR at h
    by_cases hb : aheadP b x = true
    · rw [List.takeWhile_cons_of_pos (p := fun y => aheadP y x) hb] at h
      cases j with
      | zero => cases ha; exact hb
      | succ j => exact plR_below l x j a (by simpa [plR] using h) ha
    · rw [List.takeWhile_cons_of_neg (p := fun y => aheadP y x) hb] at h
      simp at h
theorem plR_at : ∀ (l : List Rd) (x a : Rd), l[plR l x]? = some a → aheadP a x = false
  | [], x, a, h => by simp [plR] at h
  | b :: l, x, a, h => by
    unfold plR at h
    by_cases hb : aheadP b x = true
    · rw [List.takeWhile_cons_of_pos (p := fun y => aheadP y x) hb] at h
      exact plR_at l x a (by simpa [plR] using h)
    · rw [List.takeWhile_cons_of_neg (p := fun y => aheadP y x) hb] at h
      simp at h; subst h; simpa using hb
theorem insR_len (l : List Rd) (x : Rd) : (insR l x).length = l.length + 1 := by
  unfold insR
  have := plR_le l x
  simp; omega
theorem hisR_take {hs : List Nt} {tx : Int} {j : Nat} {p : Nt} (hp : hs[j]? = some p) : hisR (hs.take (j + 1)) tx = hisR (hs.take j) tx ++ (if p.1 = tx then [p.2] else []) := by
  unfold hisR
  rw [List.take_add_one, hp, List.filter_append, List.map_append]
  congr 1
  by_cases h : p.1 = tx <;> simp [h]
theorem ofP_take {hs : List Nt} {tx : Int} {j : Nat} {p : Nt} (hp : hs[j]? = some p) : ofP (hs.take (j + 1)) tx = if p.1 = tx then insR (ofP (hs.take j) tx) p.2 else ofP (hs.take j) tx := by
  unfold ofP
  rw [hisR_take hp, List.foldl_append]
  by_cases h : p.1 = tx <;> simp [h]
theorem ofP_len (hs : List Nt) (tx : Int) (j : Nat) : (ofP (hs.take j) tx).length ≤ hs.length := by
  have h0 : ∀ (l out : List Rd), (l.foldl insR out).length = out.length + l.length := by
    intro l
    induction l with
    | nil => intro out; simp
    | cons x l ih => intro out; have h1 := ih (insR out x); have h2 := insR_len out x; simp only [List.foldl_cons, List.length_cons]; omega
  have h1 := h0 (hisR (hs.take j) tx) []
  have h2 := List.length_take_le' j hs
  have h3 := List.length_filter_le (fun h : Nt => decide (h.1 = tx)) (hs.take j)
  unfold ofP
  rw [h1]
  unfold hisR
  simp only [List.length_nil, List.length_map]
  omega
set_option maxHeartbeats 8000000 in
theorem wrOf {F : Nat → Prop} {w : World} {b : Nat} {most : Nat} {hs : List Nt} (h : RN F w b most hs) (hn : hs.length ≤ 3000000) (tx : Int) :
    Calls Tryz.prog 115 #[.pointer (some ⟨b, 0, none⟩), .int .i64 tx] w fun e w' => ∃ v, e = .returned v ∧ SO seR w.heap.size w' v (ofP hs tx).length (cellsR (ofP hs tx)) ∧ Below w.heap.size w w' := by
  obtain ⟨A, c, h1, h2, h3, h4, h5⟩ := h.ex
  have H1 := Lib.hid h1
  have HS0 := Lib.hid h2
  have HN := Lib.hid hn
  have HBS := Lib.hid (Array.getElem?_eq_some_iff.1 h1).1
  have CL0 := fun W a b => wrAhead W a b
  unfold rdV at CL0
  have CL := Lib.hid CL0
  clear CL0
  clear h h1 h2 h3 h4 h5 hn
  go_enter Tryz.func115, Tryz.ntmps115
  go_upto_region 3 with fail
  go_loopw [5, 6] (fun lv i' wr => ∃ j : Nat, i' = .int .i64 (j : Nat) ∧ j ≤ hs.length ∧ SO seR w.heap.size wr lv (ofP (hs.take j) tx).length (cellsR (ofP (hs.take j) tx)) ∧ Below w.heap.size w wr) (fun _ i' _ => hs.length - (intOf i').toNat)
  case atStart => exact ⟨0, rfl, Nat.zero_le _, SO.nil _ _ _, Below.refl _ _⟩
  case round =>
    rename World => wr
    obtain ⟨j, rfl, hj, ho, hb⟩ := hrel
    have c2 : wr.cell? ⟨b, 1, none⟩ = some (.slice A hs.length c) := cell_of_row _ _ 1 _ _ _ ((hb.block b HBS.out).trans H1.out)
    have LR := Lib.hid (ofP_len hs tx j)
    by_cases hlt : j < hs.length
    · obtain ⟨p, hp⟩ : ∃ p, hs[j]? = some p := ⟨_, List.getElem?_eq_getElem hlt⟩
      have HT := Lib.hid (ofP_take (tx := tx) hp)
      obtain ⟨out, hout⟩ : ∃ out, ofP (hs.take j) tx = out := ⟨_, rfl⟩
      rw [hout] at ho LR HT
      have HS2 := HS0.out.gw hb
      obtain ⟨g, o, rfl, c3, c0, c1, c4, c5⟩ := HS2.note hp
      have i1 : (j : Int) < (hs.length : Int) := by omega
      have l1 : (j : Int) ≤ 4000000 := by have := HN.out; omega
      have HLT := Lib.hid hlt
      have HO := Lib.hid ho
      have HB := Lib.hid hb
      clear hj hlt hp HS2
      by_cases he : p.1 = tx
      · obtain ⟨A1, cc1, rfl, hsb, hnc, hcm, hbl⟩ := ho.form
        have HS := Lib.hid (show SB wr A1 (4 * out.length) (cellsR out) from hsb)
        have HC := Lib.hid (And.intro hnc hcm)
        have C2 := Lib.hid c2
        have C0 := Lib.hid c0
        have C1 := Lib.hid c1
        have C4 := Lib.hid c4
        have C5 := Lib.hid c5
        obtain ⟨x, hx⟩ : ∃ x, p.2 = x := ⟨_, rfl⟩
        obtain ⟨q, hq⟩ : ∃ q, plR out x = q := ⟨_, rfl⟩
        have HQ := Lib.hid hq
        have hql := plR_le out x
        rw [hq] at hql
        have HQL := Lib.hid hql
        have HX := Lib.hid hx
        rw [if_pos he, hx] at HT
        clear hout ho hb hsb hnc hcm hbl hq hql
        go_upto_region 7 with fail
        clear c0 c1 c2 c3 c4 c5
        go_loopw [7] (fun a' wz => ∃ a : Nat, a' = .int .i64 (a : Nat) ∧ a ≤ q ∧ Below wr.heap.size wr wz) (fun a' _ => q - (intOf a').toNat)
        case atStart => exact ⟨0, rfl, Nat.zero_le _, Below.refl _ _⟩
        case round =>
          rename World => wz
          obtain ⟨a, rfl, ha, hbz⟩ := hrel
          have d0 := keep_below C0.out hbz
          have d1 := keep_below C1.out hbz
          have d2 := keep_below C2.out hbz
          have d4 := keep_below C4.out hbz
          have d5 := keep_below C5.out hbz
          rw [hx] at d0 d1 d4 d5
          have HBZ := Lib.hid hbz
          have HA := Lib.hid ha
          by_cases haq : a < q
          · obtain ⟨y, hy⟩ : ∃ y, out[a]? = some y := ⟨_, List.getElem?_eq_getElem (by have := HQL.out; omega)⟩
            have i2 : aheadP y x = true := plR_below out x a y (by rw [HQ.out]; exact haq) hy
            obtain ⟨g3, o3, rfl, y0, y1, y2, y3⟩ := (HS.out.gw hbz).rd hy
            have i3 : (a : Int) < (out.length : Int) := by have := HQL.out; omega
            have l2 : (a : Int) ≤ 4000000 := by have := HN.out; have := HLT.out; have := LR.out; omega
            have HAQ := Lib.hid haq
            clear hy ha hbz haq
            go_upto_region 7 with fail
            go_still_tail 17, (by kernel_rfl)
            go_wp2_with (go_at_call 154; go_loud (refine (CL.out _ y x).mono ?_; rintro e w1 ⟨rfl, hb1⟩; rw [i2]; have BL := Lib.hid (show Below wr.heap.size wr w1 from below_next HBZ.out.drew hb1); clear hb1))
            go_roundw
            case rel => exact ⟨a + 1, by go_num, HAQ.out, BL.out⟩
            case measure => have := HAQ.out; simp [intOf]; omega
          · have haq2 : a = q := by omega
            subst haq2
            have HA2 := Lib.hid (show a ≤ 4000000 by have := HN.out; have := LR.out; have := HQL.out; omega)
            obtain ⟨A2, hA2⟩ : ∃ A2, (if cc1 = a then A1 else A1.map (·.add (a * seR.s))) = A2 := ⟨_, rfl⟩
            have q1 : ∀ W, (Instr.slice 111 (.slice A1 out.length cc1) none (some (.int .i64 (a : Int))) none).run Tryz.prog W = .ok (.slice A1 a cc1) W := fun W => run_uptoE seR_ok W A1 out.length cc1 a (by have := HQL.out; have := HC.out.1; omega)
            have q2 : ∀ W, (Instr.slice 111 (.slice A1 out.length cc1) (some (.int .i64 (a : Int))) none none).run Tryz.prog W = .ok (.slice A2 (out.length - a) (cc1 - a)) W := fun W => by rw [← hA2]; exact run_fromE seR_ok W A1 out.length cc1 a HQL.out HC.out.1
            have P1 := Lib.hid (show ∀ W, Below wr.heap.size wr W → SB W A1 (seR.s * a) (cellsR (out.take a)) from fun W hW => by
              rw [cellsR_take]
              exact (HS.out.gw hW).take (Nat.mul_le_mul_left 4 HQL.out))
            have P2 := Lib.hid (show ∀ W, Below wr.heap.size wr W → SB W A2 (seR.s * (out.length - a)) (cellsR (out.drop a)) from fun W hW => by
              rw [cellsR_drop, ← hA2]
              exact SB.cut (s := 4) (HS.out.gw hW) HQL.out HC.out.1)
            have LA := Lib.hid (show out.length ≤ 4000000 by have := HN.out; have := LR.out; omega)
            have L1 := Lib.hid (show (out.take a).length = a by rw [List.length_take]; have := HQL.out; omega)
            clear hA2
            by_cases hqo : a < out.length
            · obtain ⟨y, hy⟩ : ∃ y, out[a]? = some y := ⟨_, List.getElem?_eq_getElem hqo⟩
              have i2 : aheadP y x = false := plR_at out x y (by rw [HQ.out]; exact hy)
              obtain ⟨g3, o3, rfl, y0, y1, y2, y3⟩ := (HS.out.gw hbz).rd hy
              have i3 : (a : Int) < (out.length : Int) := by omega
              have l2 : (a : Int) ≤ 4000000 := by have := HA2.out; omega
              clear hy ha hbz haq
              go_upto_region 7 with fail
              go_still_tail 17, (by kernel_rfl)
              go_upto_region 9 with (first | (go_at_call 154; go_loud (refine (CL.out _ y x).mono ?_; rintro e w1 ⟨rfl, hb1⟩; rw [i2]; have BL := Lib.hid (show Below wr.heap.size wr w1 from below_next HBZ.out.drew hb1); clear hb1)))
              clear d0 d1 d2 d4 d5 y0 y1 y2 y3
              have HIN := Lib.hid (show insR out x = out.take a ++ [x] ++ out.drop a by unfold insR; rw [HQ.out])
              go_upto_region 11 with (at_builtin; go_loud (refine so_append seR_ok (by rfl) (.tmp 49) (.tmp 52) (by rfl) _ (by rfl) (SO.nil seR wr.heap.size _) _ a cc1 (cellsR (out.take a)) (by rfl) (P1.out _ BL.out) (by have := HA2.out; omega) (by exact (BL.out).size) ?_; intro v3 w3 o3 b3; have O3 := Lib.hid o3; have B3 := Lib.hid (show Below wr.heap.size wr w3 from Below.trans BL.out b3); clear o3 b3))
              have f0 := keep_below C0.out B3.out
              have f1 := keep_below C1.out B3.out
              have f2 := keep_below C2.out B3.out
              have f4 := keep_below C4.out B3.out
              have f5 := keep_below C5.out B3.out
              rw [hx] at f0 f1 f4 f5
              go_upto_region 12 with (at_builtin; go_loud (refine so_append seR_ok (by rfl) (.tmp 54) (.tmp 63) (by rfl) _ (by rfl) (O3.out.alloc _) (some ⟨w3.heap.size, 0, none⟩) 1 1 (cellsR [x]) (by rfl) (sb_rd w3 x) (by have := HA2.out; simp; omega) (by have := B3.out.size; simp; omega) ?_; intro v4 w4 o4 b4; have O4 := Lib.hid o4; have B4 := Lib.hid (show Below wr.heap.size wr w4 from (B3.out.alloc B3.out.size _).trans b4); clear o4 b4))
              go_wp2_with (at_builtin; go_loud (refine so_append seR_ok (by rfl) (.tmp 65) (.tmp 68) (by rfl) _ (by rfl) O4.out A2 (out.length - a) (cc1 - a) (cellsR (out.drop a)) (by rfl) (P2.out _ B4.out) (by have := HA2.out; have := LA.out; omega) B4.out.size ?_; intro v5 w5 o5 b5; have O5 := Lib.hid o5; have B5 := Lib.hid (show Below wr.heap.size wr w5 from B4.out.trans b5); clear o5 b5))
              go_roundw
              case rel => exact ⟨j + 1, by go_num, HLT.out, by rw [HT.out, HIN.out]; exact O5.out.base HB.out.size (by simp [cellsR]) (by simp [L1.out]; try omega), below_next HB.out B5.out⟩
              case measure => have := HLT.out; simp [intOf]; omega
            · have i3 : ¬ (a : Int) < (out.length : Int) := by omega
              clear ha hbz haq
              go_upto_region 7 with fail
              go_region
              have HIN := Lib.hid (show insR out x = out.take a ++ [x] ++ out.drop a by unfold insR; rw [HQ.out])
              go_upto_region 11 with (at_builtin; go_loud (refine so_append seR_ok (by rfl) (.tmp 49) (.tmp 52) (by rfl) _ (by rfl) (SO.nil seR wr.heap.size _) _ a cc1 (cellsR (out.take a)) (by rfl) (P1.out _ (by first | exact HBZ.out.drew | exact HBZ.out)) (by have := HA2.out; omega) (by exact HBZ.out.size) ?_; intro v3 w3 o3 b3; have O3 := Lib.hid o3; have B3 := Lib.hid (show Below wr.heap.size wr w3 from Below.trans (by first | exact HBZ.out.drew | exact HBZ.out) b3); clear o3 b3))
              have f0 := keep_below C0.out B3.out
              have f1 := keep_below C1.out B3.out
              have f2 := keep_below C2.out B3.out
              have f4 := keep_below C4.out B3.out
              have f5 := keep_below C5.out B3.out
              rw [hx] at f0 f1 f4 f5
              go_upto_region 12 with (at_builtin; go_loud (refine so_append seR_ok (by rfl) (.tmp 54) (.tmp 63) (by rfl) _ (by rfl) (O3.out.alloc _) (some ⟨w3.heap.size, 0, none⟩) 1 1 (cellsR [x]) (by rfl) (sb_rd w3 x) (by have := HA2.out; simp; omega) (by have := B3.out.size; simp; omega) ?_; intro v4 w4 o4 b4; have O4 := Lib.hid o4; have B4 := Lib.hid (show Below wr.heap.size wr w4 from (B3.out.alloc B3.out.size _).trans b4); clear o4 b4))
              go_wp2_with (at_builtin; go_loud (refine so_append seR_ok (by rfl) (.tmp 65) (.tmp 68) (by rfl) _ (by rfl) O4.out A2 (out.length - a) (cc1 - a) (cellsR (out.drop a)) (by rfl) (P2.out _ B4.out) (by have := HA2.out; have := LA.out; omega) B4.out.size ?_; intro v5 w5 o5 b5; have O5 := Lib.hid o5; have B5 := Lib.hid (show Below wr.heap.size wr w5 from B4.out.trans b5); clear o5 b5))
              go_roundw
              case rel => exact ⟨j + 1, by go_num, HLT.out, by rw [HT.out, HIN.out]; exact O5.out.base HB.out.size (by simp [cellsR]) (by simp [L1.out]; try omega), below_next HB.out B5.out⟩
              case measure => have := HLT.out; simp [intOf]; omega
      · rw [if_neg he] at HT
        clear ho hb
        go_wp2
        go_roundw
        case rel => exact ⟨j + 1, by go_num, HLT.out, by rw [HT.out]; exact HO.out, HB.out⟩
        case measure => have := HLT.out; simp [intOf]; omega
    · have hje : j = hs.length := by omega
      subst hje
      have i1 : ¬ (hs.length : Int) < (hs.length : Int) := by omega
      rw [List.take_length] at ho
      have HO := Lib.hid ho
      have HB := Lib.hid hb
      clear hj hlt ho hb
      go_wp2
      go_ret
      exact ⟨_, rfl, HO.out, HB.out⟩
end Go.Proofs.YtknppiebncdjmaaGreat

/- Layer 9, plain lists: what is told of notes doesn't hang on their order. -/
namespace Go.Proofs.YtknppiebncdjmaaGreat
set_option maxRecDepth 100000
set_option maxRecDepth 100000

theorem cnt_perm {L M : List Nt} (h : L.Perm M) (p : Int × ByteArray) : cntR L p = cntR M p := (h.filter _).length_eq
theorem pair_perm {L M : List Nt} (h : L.Perm M) {p : Int × ByteArray} (hp : PairIs L L p) : PairIs M M p := by
  obtain ⟨n, hn, e⟩ := hp.from_
  refine ⟨⟨n, h.mem_iff.1 hn, e⟩, by rw [← cnt_perm h]; exact hp.two, fun m hm => ?_, fun m hm e => ?_⟩
  · rw [← cnt_perm h, ← cnt_perm h]; exact hp.most m (h.mem_iff.2 hm)
  · rw [← cnt_perm h, ← cnt_perm h] at e; exact hp.least m (h.mem_iff.2 hm) e
theorem coarsest_perm {L M : List Nt} (h : L.Perm M) : coarsestP L = coarsestP M := by
  rcases coarsest_is L with ⟨h1, h2⟩ | ⟨p, h1, hp⟩
  · rcases coarsest_is M with ⟨h3, -⟩ | ⟨q, h3, hq⟩
    · rw [h1, h3]
    · obtain ⟨n, hn, e⟩ := hq.from_
      have h4 := h2 n (h.mem_iff.2 hn)
      have h5 := hq.two
      rw [e, cnt_perm h] at h4
      omega
  · have hp2 := pair_perm h hp
    rcases coarsest_is M with ⟨h3, h4⟩ | ⟨q, h3, hq⟩
    · obtain ⟨n, hn, e⟩ := hp2.from_
      have h5 := h4 n hn
      have h6 := hp2.two
      rw [e] at h5
      omega
    · rw [h1, h3, pair_unique hp2 hq]
theorem coarse_perm {L M : List Nt} (h : L.Perm M) (t : Int) (tb : ByteArray) : (coarseP L t tb).Perm (coarseP M t tb) := (h.filter _).append_right _
theorem shrink_perm {most : Nat} : ∀ (f : Nat) {L M : List Nt}, L.Perm M → (shrinkP most f L = none ∧ shrinkP most f M = none) ∨ ∃ A B, shrinkP most f L = some A ∧ shrinkP most f M = some B ∧ A.Perm B
  | 0, L, M, h => by
    unfold shrinkP
    rw [h.length_eq]
    split
    · exact .inr ⟨L, M, rfl, rfl, h⟩
    · exact .inl ⟨rfl, rfl⟩
  | f + 1, L, M, h => by
    unfold shrinkP
    rw [h.length_eq, coarsest_perm h]
    split
    · exact .inr ⟨L, M, rfl, rfl, h⟩
    · cases coarsestP M with
      | none => exact .inl ⟨rfl, rfl⟩
      | some p => exact shrink_perm f (coarse_perm h _ _)
theorem any_perm {L M : List Nt} (h : L.Perm M) (f : Nt → Bool) : L.any f = M.any f := by
  cases h1 : M.any f with
  | true =>
    obtain ⟨n, hn, hf⟩ := List.any_eq_true.1 h1
    exact List.any_eq_true.2 ⟨n, h.mem_iff.2 hn, hf⟩
  | false =>
    rw [List.any_eq_false] at h1 ⊢
    exact fun n hn => h1 n (h.mem_iff.1 hn)
/-- Note answers alike, and leaves alike. -/
theorem note_perm {most : Nat} {L M : List Nt} (h : L.Perm M) (t : Int) (x : Rd) : (noteP most L t x).1 = (noteP most M t x).1 ∧ (noteP most L t x).2.Perm (noteP most M t x).2 := by
  unfold noteP
  by_cases h1 : t < 1 ∨ mayP x = false
  · rw [if_pos h1, if_pos h1]; exact ⟨rfl, h⟩
  · rw [if_neg h1, if_neg h1, any_perm h, h.length_eq]
    split
    · exact ⟨rfl, h⟩
    · rcases shrink_perm (most := most) (M.length + 1) (show (addP L t x).Perm (addP M t x) from (h.filter _).append_right _) with ⟨e1, e2⟩ | ⟨A, B, e1, e2, hp⟩
      · rw [e1, e2]; exact ⟨rfl, h⟩
      · rw [e1, e2]; exact ⟨rfl, hp⟩
theorem drop_perm {L M : List Nt} (h : L.Perm M) (t : Int) : (dropP L t).Perm (dropP M t) := h.filter _
/-- A list that rises strictly, of just the transactions that are asked for, is what Readers and Txns answer. -/
theorem tx_unique {L : List Nt} {f : Nt → Bool} {m : List Int} (h : m.Pairwise (ltN · · = true)) (hm : ∀ y, y ∈ m ↔ ∃ n ∈ L, f n = true ∧ n.1 = y) : m = txP L f :=
  rise_unique h fun y => by
    rw [hm]
    simp only [List.mem_map, List.mem_filter]
    constructor
    · rintro ⟨n, h1, h2, h3⟩; exact ⟨n, ⟨h1, h2⟩, h3⟩
    · rintro ⟨n, ⟨h1, h2⟩, h3⟩; exact ⟨n, h1, h2, h3⟩
theorem tx_is (L : List Nt) (f : Nt → Bool) : (txP L f).Pairwise (ltN · · = true) ∧ ∀ y, y ∈ txP L f ↔ ∃ n ∈ L, f n = true ∧ n.1 = y := by
  refine ⟨(rise_is _).1, fun y => ?_⟩
  unfold txP
  rw [(rise_is _).2]
  simp only [List.mem_map, List.mem_filter]
  constructor
  · rintro ⟨n, ⟨h1, h2⟩, h3⟩; exact ⟨n, h1, h2, h3⟩
  · rintro ⟨n, h1, h2, h3⟩; exact ⟨n, ⟨h1, h2⟩, h3⟩
theorem tx_perm {L M : List Nt} (h : L.Perm M) (f : Nt → Bool) : txP L f = txP M f := tx_unique (tx_is L f).1 fun y => by
  rw [(tx_is L f).2]
  constructor
  · rintro ⟨n, hn, e⟩; exact ⟨n, h.mem_iff.1 hn, e⟩
  · rintro ⟨n, hn, e⟩; exact ⟨n, h.mem_iff.2 hn, e⟩
/-- No note is there twice. -/
theorem Lean9.nodup {L : List Nt} (h : Lean9 L) (t : Int) : (hisR L t).Nodup := by
  unfold hisR
  have h2 := (h.filter fun n => decide (n.1 = t))
  rw [List.nodup_iff_pairwise_ne, List.pairwise_map]
  refine (List.Pairwise.imp_of_mem ?_ h2.lean)
  intro a b ha hb hc e
  have ea := (List.mem_filter.1 ha).2
  have eb := (List.mem_filter.1 hb).2
  simp only [decide_eq_true_eq] at ea eb
  have hself := covers_self (h2.may b hb).1
  have := (hc (ea.trans eb.symm)).1
  rw [e, hself] at this
  cases this
theorem of_is {L : List Nt} (h : Lean9 L) (t : Int) : (ofP L t).Pairwise (aheadP · · = true) ∧ ∀ y, y ∈ ofP L t ↔ (t, y) ∈ L := by
  have key : ∀ (l out : List Rd), out.Pairwise (aheadP · · = true) → l.Nodup → (∀ y ∈ l, y ∉ out) → (l.foldl insR out).Pairwise (aheadP · · = true) ∧ ∀ y, y ∈ l.foldl insR out ↔ y ∈ out ∨ y ∈ l := by
    intro l
    induction l with
    | nil => intro out h1 _ _; exact ⟨h1, by simp⟩
    | cons x l ih =>
      intro out h1 h2 h3
      obtain ⟨n1, n2⟩ := List.nodup_cons.1 h2
      have hx : ∀ y ∈ out, y ≠ x := fun y hy e => h3 x (by simp) (e ▸ hy)
      have i1 : (insR out x).Pairwise (aheadP · · = true) := ins_strict (lt := aheadP) ahead_tr ahead_tri h1 hx
      have i2 : ∀ y, y ∈ insR out x ↔ y ∈ out ∨ y = x := fun y => ins_mem out x y _
      obtain ⟨j1, j2⟩ := ih _ i1 n2 fun y hy hy2 => by
        rcases (i2 y).1 hy2 with e | e
        · exact h3 y (List.mem_cons_of_mem _ hy) e
        · exact n1 (e ▸ hy)
      refine ⟨j1, fun y => ?_⟩
      rw [List.foldl_cons, j2, i2, List.mem_cons, or_assoc]
  obtain ⟨h1, h2⟩ := key (hisR L t) [] List.Pairwise.nil (h.nodup t) (by simp)
  refine ⟨h1, fun y => ?_⟩
  unfold ofP
  rw [h2]
  unfold hisR
  simp only [List.mem_map, List.mem_filter, List.not_mem_nil, false_or]
  constructor
  · rintro ⟨n, ⟨h3, h4⟩, rfl⟩
    have : n.1 = t := by simpa using h4
    rw [← this]; exact h3
  · intro h3; exact ⟨(t, y), ⟨h3, by simp⟩, rfl⟩
/-- A list that stands in order, of just a transaction's notes, is what Of answers. -/
theorem of_unique {L : List Nt} (h : Lean9 L) {t : Int} {m : List Rd} (hp : m.Pairwise (aheadP · · = true)) (hm : ∀ y, y ∈ m ↔ (t, y) ∈ L) : m = ofP L t :=
  strict_ext ahead_irr ahead_asy _ _ hp (of_is h t).1 fun y => (hm y).trans ((of_is h t).2 y).symm
theorem Lean9.perm {L M : List Nt} (h : Lean9 L) (hp : L.Perm M) : Lean9 M := by
  refine ⟨fun n hn => h.may n (hp.mem_iff.2 hn), ?_⟩
  exact h.lean.perm hp fun {a b} hab e => ⟨(hab e.symm).2, (hab e.symm).1⟩
theorem of_perm {L M : List Nt} (h : Lean9 L) (hp : L.Perm M) (t : Int) : ofP L t = ofP M t :=
  of_unique (h.perm hp) (of_is h t).1 fun y => ((of_is h t).2 y).trans hp.mem_iff
end Go.Proofs.YtknppiebncdjmaaGreat
