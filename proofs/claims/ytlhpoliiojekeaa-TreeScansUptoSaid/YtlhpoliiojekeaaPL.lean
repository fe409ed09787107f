/- Lists of pairs in memory; the reference's Rank, Has, Put. -/
import Derived.Test.YtlhpoliiojekeaaGrow
namespace Go.Proofs.Ytlhpoliiojekeaa
set_option maxRecDepth 100000
open Go.RowKit

def cellsP (ps : List Pr) : List Value := ps.flatMap fun p => [Value.string p.1, Value.int .i64 p.2]
theorem cellsP_len (ps : List Pr) : (cellsP ps).length = 2 * ps.length := by
  induction ps with
  | nil => rfl
  | cons p ps ih => simp only [cellsP, List.flatMap_cons, List.length_append, List.length_cons, List.length_nil] at ih ⊢; omega
theorem cellsP_app (a b : List Pr) : cellsP (a ++ b) = cellsP a ++ cellsP b := by simp [cellsP]
theorem cellsP_cons (p : Pr) (ps : List Pr) : cellsP (p :: ps) = Value.string p.1 :: Value.int .i64 p.2 :: cellsP ps := by simp [cellsP]
theorem cellsP_one (ps : List Pr) : ∀ u ∈ cellsP ps, u.oneCell' = true := by
  intro u hu
  simp only [cellsP, List.mem_flatMap] at hu
  obtain ⟨p, -, hu⟩ := hu
  simp at hu
  rcases hu with rfl | rfl <;> rfl
theorem cellsP_at : ∀ (ps : List Pr) (j : Nat) (p : Pr), ps[j]? = some p → (cellsP ps)[2 * j]? = some (.string p.1) ∧ (cellsP ps)[2 * j + 1]? = some (.int .i64 p.2)
  | [], _, _, h => by cases h
  | q :: ps, 0, p, h => by cases h; rw [cellsP_cons]; exact ⟨rfl, rfl⟩
  | q :: ps, j + 1, p, h => by
    have := cellsP_at ps j p h
    rw [cellsP_cons]
    exact this
theorem cellsP_take : ∀ (ps : List Pr) (i : Nat), cellsP (ps.take i) = (cellsP ps).take (2 * i)
  | [], i => by simp [cellsP]
  | p :: ps, 0 => by simp [cellsP]
  | p :: ps, i + 1 => by
    rw [List.take_succ_cons, cellsP_cons, cellsP_cons, cellsP_take ps i]
    rfl
theorem cellsP_drop : ∀ (ps : List Pr) (i : Nat), cellsP (ps.drop i) = (cellsP ps).drop (2 * i)
  | [], i => by simp [cellsP]
  | p :: ps, 0 => by simp [cellsP]
  | p :: ps, i + 1 => by
    rw [List.drop_succ_cons, cellsP_cons, cellsP_drop ps i]
    rfl
/-- The slice reads as the pairs. -/
def PB (w : World) (A : Option Addr) (n : Nat) (ps : List Pr) : Prop := ps.length = n ∧ VB w A (2 * n) (cellsP ps)
theorem PB.at_ {w : World} {A : Option Addr} {n j : Nat} {ps : List Pr} {p : Pr} (h : PB w A n ps) (hj : ps[j]? = some p) : ∃ ad, A = some ad ∧ w.cell? (ad.add (j * 2)) = some (.string p.1) := by
  have h1 := (cellsP_at ps j p hj).1
  rw [Nat.mul_comm] at h1
  exact h.2.at_ h1
theorem info_pair : (Try.prog.info? 43).map (fun i => (i.zero, i.size, i.bytes)) = some (some (.agg #[.string ⟨#[]⟩, .int .i64 0]), 2, 24) := by kernel_rfl
/-- The value is a slice of pairs that owns its row. -/
def PO (base : Nat) (w : World) (v : Value) (ps : List Pr) : Prop := w.ownsRow base 43 2 v ps.length (cellsP ps)
theorem PO.nil (base : Nat) (w : World) : PO base w (.slice none 0 0) [] := World.ownsRow_nil _ _ _ _
theorem PO.form {base : Nat} {w : World} {v : Value} {ps : List Pr} (h : PO base w v ps) : ∃ A c, v = .slice A ps.length c ∧ PB w A ps.length ps ∧ ps.length ≤ c ∧ c ≤ maxLen := by
  rcases h.2 with ⟨rfl, h0⟩ | ⟨g, cap, cur, rfl, _, hh, hc, hm, _, ht⟩
  · have hz : ps = [] := List.eq_nil_of_length_eq_zero h0
    subst hz
    exact ⟨none, 0, rfl, ⟨rfl, VB.empty w _⟩, Nat.le_refl _, by simp [maxLen]⟩
  · exact ⟨_, cap, rfl, ⟨rfl, cellsP_len ps, cellsP_one ps, fun hn => ⟨_, rfl, NT.row hh (by decide), fun j u hj => World.ownsRow.cells h (g := g) rfl j u hj⟩⟩, hc, hm⟩

/-- append of pairs. -/
theorem po_append {w : World} {ops : Array Oper} {rest : List Oper} {o : Oper} {a : Act} {Q : Exit → Act → World → Prop} (hgd : o.guard = none) (s x : Operand)
    (ho : o.op = .call { callee := .builtin .append, args := #[s, x], argTypes := #[25, 25] })
    (base : Nat) (v : Value) (ps : List Pr) (hs : a.eval s = v) (hown : PO base w v ps) (A : Option Addr) (m c : Nat) (qs : List Pr) (hx : a.eval x = .slice A m c) (hr : PB w A m qs)
    (hsz : ps.length + m ≤ 10000000) (hbase : base ≤ w.heap.size)
    (h : ∀ v' w', PO base w' v' (ps ++ qs) → Below base w w' → wpList Try.prog ops Q rest (a.put o.dst v') w') : wpList Try.prog ops Q (o :: rest) a w := by
  obtain ⟨i0, hi, hz0, hz1, hz2⟩ := info_parts info_pair
  have hrow : ∀ k, v.ownBlock = some k → base ≤ k := fun k hk => (hown.lt k hk).1
  obtain ⟨hlen, hv⟩ := hr
  rcases A with _ | ad
  · have hm : m = 0 := by
      rcases Nat.eq_zero_or_pos m with h0 | h0
      · exact h0
      · obtain ⟨ad, e, _⟩ := hv.cell (by omega)
        cases e
    subst hm
    have hy : qs = [] := List.eq_nil_of_length_eq_zero hlen
    subst hy
    refine wpList_plain hgd fun K hK => ?_
    have hrun := run_append_nothing w 25 o.type i0 Try.underlying25 hi hown c
    unfold Oper.wp
    simp [execOp, ho, resolve, invoke, builtin, hs, hx, hrun, Result.andThen]
    exact hK _ _ (h v w (by simpa using hown) (Below.refl _ _))
  · refine wpList_append_own w hgd s x 25 ho base 43 i0 (.agg #[.string ⟨#[]⟩, .int .i64 0]) 2 24 Try.underlying25 hi hz0 hz1 hz2 rfl (by decide) v ps.length _ hs hown ad m c (cellsP qs) hx (by rw [cellsP_len, hlen]; omega) ?_ (cellsP_one qs)
      (by simp only [maxLen]; omega) (by omega) hbase ?_
    · intro j u hu
      obtain ⟨ad', e, hc⟩ := hv.at_ hu
      injection e with e
      subst e
      exact hc
    · intro v' w' hown' hg _
      refine h v' w' ?_ (below_of_grown hg hbase hrow)
      unfold PO
      rw [List.length_append, hlen, cellsP_app]; exact hown'

set_option maxHeartbeats 2000000 in
theorem wrefRank {w : World} {A : Option Addr} {n c : Nat} {ps : List Pr} (hr : PB w A n ps) (hn : n ≤ 10000000) (k : ByteArray) :
    Calls Try.prog 33 #[.slice A n c, .string k] w fun e w' => e = .returned (.int .i64 (rk (keys ps) k : Nat)) ∧ w' = w := by
  have HR := Lib.hid hr
  have HL := Lib.hid hr.1
  have hrk := rk_le (keys ps) k
  rw [keys_len] at hrk
  have HRK := Lib.hid hrk
  clear hr hrk
  go_enter Try.func33, Try.ntmps33
  go_upto_region 2 with fail
  go_loopw [5] (fun i' wr => ∃ j : Nat, i' = .int .i64 (j : Nat) ∧ j ≤ rk (keys ps) k ∧ wr = w) (fun i' _ => n - (intOf i').toNat)
  case atStart => exact ⟨0, rfl, Nat.zero_le _, by first | rfl | trivial⟩
  case round =>
    obtain ⟨j, rfl, hj, rfl⟩ := hrel
    have HJ := Lib.hid hj
    by_cases hlt : j < n
    · obtain ⟨p, hp⟩ : ∃ p, ps[j]? = some p := ⟨_, List.getElem?_eq_getElem (by have := HL.out; omega)⟩
      obtain ⟨ad, rfl, c0⟩ := HR.out.at_ hp
      have hkp : (keys ps)[j]? = some p.1 := by rw [keys_get, hp]; rfl
      have i1 : (j : Int) < (n : Int) := by omega
      have HLT := Lib.hid hlt
      cases hk : kl p.1 k
      · have HE := Lib.hid (show rk (keys ps) k = j by
          rcases Nat.lt_or_ge j (rk (keys ps) k) with h | h
          · rw [rk_below _ _ _ _ h hkp] at hk; cases hk
          · omega)
        unfold kl at hk
        clear hj hlt hp hkp
        go_wp2
        go_ret
        exact ⟨by rw [HE.out]; first | done | rfl, rfl⟩
      · have HE := Lib.hid (show j + 1 ≤ rk (keys ps) k by
          rcases Nat.lt_or_ge j (rk (keys ps) k) with h | h
          · exact h
          · have : rk (keys ps) k = j := by have := HJ.out; omega
            have h2 := rk_at (keys ps) k p.1 (by rw [this]; exact hkp)
            rw [h2] at hk; cases hk)
        unfold kl at hk
        clear hj hlt hp hkp
        go_wp2
        go_roundw
        case rel => exact ⟨j + 1, by go_num, HE.out, by first | rfl | trivial⟩
        case measure => have := HLT.out; simp [intOf]; omega
    · have HE := Lib.hid (show rk (keys ps) k = j by have := HRK.out; have := HL.out; omega)
      have i1 : ¬ (j : Int) < (n : Int) := by omega
      clear hj hlt
      go_wp2
      go_ret
      exact ⟨by rw [HE.out]; first | done | rfl, rfl⟩

set_option maxHeartbeats 2000000 in
theorem wrefHas {w : World} {A : Option Addr} {n c : Nat} {ps : List Pr} (hr : PB w A n ps) (hn : n ≤ 10000000) (k : ByteArray) :
    Calls Try.prog 18 #[.slice A n c, .string k] w fun e w' => e = .returned (.bool (has (keys ps) k)) ∧ w' = w := by
  have CR := Lib.hid (wrefRank (c := c) hr hn k)
  obtain ⟨q, hq⟩ : ∃ q, rk (keys ps) k = q := ⟨_, rfl⟩
  rw [hq] at CR
  have hl := hr.1
  by_cases hlt : q < n
  · obtain ⟨p, hp⟩ : ∃ p, ps[q]? = some p := ⟨_, List.getElem?_eq_getElem (by omega)⟩
    obtain ⟨ad, rfl, c0⟩ := hr.at_ hp
    have HH := Lib.hid (show has (keys ps) k = (p.1.toList == k.toList) by unfold has; rw [hq, keys_get, hp, toList_beq]; simp)
    have i1 : (q : Int) < (n : Int) := by omega
    clear hr hq hl hlt hp
    go_enter Try.func18, Try.ntmps18
    go_wp2_with (go_at_call 33; refine CR.out.mono ?_; rintro e w1 ⟨rfl, hw⟩; replace hw := hw.symm; subst hw)
    go_ret
    exact ⟨by rw [HH.out]; first | done | rfl, rfl⟩
  · have HH := Lib.hid (show has (keys ps) k = false by unfold has; rw [hq, keys_get, List.getElem?_eq_none (by omega)]; simp)
    have i1 : ¬ (q : Int) < (n : Int) := by omega
    clear hr hq hl hlt
    go_enter Try.func18, Try.ntmps18
    go_wp2_with (go_at_call 33; refine CR.out.mono ?_; rintro e w1 ⟨rfl, hw⟩; replace hw := hw.symm; subst hw)
    go_ret
    exact ⟨by rw [HH.out]; first | done | rfl, rfl⟩
end Go.Proofs.Ytlhpoliiojekeaa
