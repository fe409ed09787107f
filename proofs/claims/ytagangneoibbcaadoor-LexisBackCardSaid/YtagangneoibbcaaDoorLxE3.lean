/- Layer 12: the end of a text between quotes. -/
import Derived.Test.YtagangneoibbcaaDoorLxE2
set_option linter.unusedVariables false
namespace Go.Proofs.YtagangneoibbcaaDoor
set_option maxRecDepth 100000
set_option maxRecDepth 100000
open Go.RowKit Go.Shelf
section
variable {w : World} {g i : Nat} {s : ByteArray} {x : Tk} {f p : Int}
theorem qtP_len : ∀ (n : Nat) (R : List Int), R.length ≤ n → (qtP R).2 ≤ R.length ∧ ∀ b, (qtP R).1 = some b → b.length ≤ R.length
  | 0, R, h => by
    obtain rfl := List.eq_nil_of_length_eq_zero (Nat.le_zero.1 h)
    rw [qt_nil]; simp
  | n + 1, R, h => by
    have up : ∀ (z : List Int) (k : Nat) (r : List Int) (m : Nat), z.length ≤ k → r.length + k ≤ m → (r.length ≤ n) → (upQ z k (qtP r)).2 ≤ m ∧ ∀ b, (upQ z k (qtP r)).1 = some b → b.length ≤ m := fun z k r m hz hm hr => by
      obtain ⟨h1, h2⟩ := qtP_len n r hr
      refine ⟨by show k + (qtP r).2 ≤ m; omega, fun b hb => ?_⟩
      cases e : (qtP r).1 with
      | none => simp [upQ, e] at hb
      | some b' =>
        simp [upQ, e] at hb
        subst hb
        have := h2 b' e
        rw [List.length_append]; omega
    rcases R with _ | ⟨c, r⟩
    · rw [qt_nil]; simp
    rw [List.length_cons] at h
    by_cases h34 : c = 34
    · subst h34; rw [qt_end]; simp
    by_cases h92 : c = 92
    · subst h92
      rcases r with _ | ⟨d, r2⟩
      · rw [qt_esc0]; simp
      simp only [List.length_cons] at h ⊢
      by_cases hs : d = 34 ∨ d = 92
      · rw [qt_same hs]; exact up _ _ _ _ (by simp) (by omega) (by omega)
      by_cases hn : d = 110
      · subst hn; rw [qt_n]; exact up _ _ _ _ (by simp) (by omega) (by omega)
      by_cases ht : d = 116
      · subst ht; rw [qt_t]; exact up _ _ _ _ (by simp) (by omega) (by omega)
      by_cases hx : d = 120
      · subst hx
        rcases r2 with _ | ⟨a, r3⟩
        · rw [qt_x0]; simp
        cases ha : hexB a with
        | false => rw [qt_x1 ha]; simp
        | true =>
          rcases r3 with _ | ⟨l, r4⟩
          · rw [qt_x2 ha]; simp
          simp only [List.length_cons] at h ⊢
          cases hl : hexB l with
          | false => rw [qt_x3 ha hl]; simp
          | true => rw [qt_x ha hl]; exact up _ _ _ _ (by simp) (by omega) (by omega)
      · rw [qt_other (by omega) (by omega) hn ht hx]; simp
    cases hp : plnB c with
    | true => rw [qt_plain hp]; exact up _ _ _ _ (by simp) (by simp) (by omega)
    | false => rw [qt_bad hp h34 h92]; simp

set_option maxHeartbeats 8000000 in
theorem wEndText (h : Rd w g s i x f p) (hi : i < s.size) (hs : s.size ≤ 65536) :
    Calls Tryd.prog 44 #[.pointer (some ⟨g, 0, none⟩), .int .i64 (i : Nat)] w (EndIs g s x f p w (textP i ((strB s).drop i)) i (i + (textP i ((strB s).drop i)).n)) := by
  have CQ := Lib.hid (wQuoted h hi hs)
  have HG := Lib.hid h.lt
  have htp : textP i ((strB s).drop i) = match qtP ((strB s).drop (i + 1)) with
      | (none, n) => ⟨Tk.zero, 1 + n, 123⟩
      | (some b, n) => if 4096 < b.length then ⟨Tk.zero, 0, 3⟩ else ⟨⟨3, ⟨#[]⟩, 3, 0, strOfNums b, i⟩, 1 + n, 0⟩ := by
    unfold textP; rw [List.drop_drop]
    rfl
  have hql := qtP_len _ ((strB s).drop (i + 1)) (Nat.le_refl _)
  rw [List.length_drop, strB_len] at hql
  obtain ⟨o, ho⟩ : ∃ o, textP i ((strB s).drop i) = o := ⟨_, rfl⟩
  rw [ho] at htp ⊢
  clear ho
  unfold QuotedIs at CQ
  have i0 : (0 : Int) ≤ (i : Int) := by omega
  rcases hq : qtP ((strB s).drop (i + 1)) with ⟨_ | b, n⟩
  · rw [hq] at htp CQ hql
    dsimp only at htp CQ hql
    subst htp
    have hb := hql.1
    have bj : ((i + 1 + n : Nat) : Int) ≤ 65536 := by omega
    clear hq hql h
    go_enter Tryd.func44, Tryd.ntmps44
    go_wp2_with (first
      | (go_at_call 46; go_loud (refine (wWrong R1.out ((i + 1 + n : Nat) : Int) 123).mono ?_; rintro e w2 ⟨rfl, r2, o2⟩; have R2 := Lib.hid r2; have O2 := Lib.hid o2; clear r2 o2))
      | (go_at_call 39; go_loud (refine CQ.out.mono ?_; rintro e w1 ⟨o1, r1, rfl⟩; have R1 := Lib.hid r1; have O1 := Lib.hid o1; have d1 : w1.cell? ⟨g, 1, none⟩ = some (.int .i64 ((i + 1 + n : Nat) : Int)) := r1.cell 1; clear r1 o1)))
    go_ret
    exact EndIs.no (by show ¬ (123 : Int) = 0; decide) (O1.out.then O2.out) _ ((show i + (1 + n) = i + 1 + n by omega) ▸ R2.out)
  · rw [hq] at htp CQ hql
    dsimp only at htp CQ hql
    have hbl := hql.2 b rfl
    have bl0 : (0 : Int) ≤ (b.length : Int) := by omega
    have bl1 : (b.length : Int) ≤ 65536 := by omega
    obtain ⟨k, hk⟩ : ∃ k, b.length = k := ⟨_, rfl⟩
    have HK := Lib.hid hk
    rw [hk] at htp bl0 bl1
    by_cases hlt : 4096 < k
    · rw [if_pos hlt] at htp
      subst htp
      have hlt2 : (4096 : Int) < (k : Int) := by omega
      clear hq hql h hk hbl
      go_enter Tryd.func44, Tryd.ntmps44
      go_wp2_with (first
        | (go_at_call 46; go_loud (refine (wWrong R1.out (i : Nat) 3).mono ?_; rintro e w2 ⟨rfl, r2, o2⟩; have R2 := Lib.hid r2; have O2 := Lib.hid o2; clear r2 o2))
        | (go_at_call 39; go_loud (refine CQ.out.mono ?_; rintro e w1 ⟨o1, r1, v, rfl, ob⟩; have R1 := Lib.hid r1; have O1 := Lib.hid o1; obtain ⟨A, c, hv, -, -, -⟩ := ob.form; rw [HK.out] at hv; subst hv; clear r1 o1 ob)))
      go_ret
      exact EndIs.no (by decide) (O1.out.then O2.out) _ R2.out
    · rw [if_neg hlt] at htp
      subst htp
      have hlt2 : ¬ (4096 : Int) < (k : Int) := by omega
      obtain ⟨t, ht⟩ : ∃ t, strOfNums b = t := ⟨_, rfl⟩
      have HT := Lib.hid ht
      rw [ht]
      clear hq hql h hk hbl ht
      go_enter Tryd.func44, Tryd.ntmps44
      go_wp2_with (first
        | (go_at_call 61; go_loud (refine (wFound R1.out ⟨3, ⟨#[]⟩, 3, 0, t, i⟩).mono ?_; rintro e w2 ⟨rfl, r2, o2⟩; have R2 := Lib.hid r2; have O2 := Lib.hid o2; clear r2 o2))
        | (go_at_call 39; go_loud (refine CQ.out.mono ?_; rintro e w1 ⟨o1, r1, v, rfl, ob⟩; have R1 := Lib.hid r1; have O1 := Lib.hid o1; obtain ⟨A, c, hv, hrb, -, -⟩ := ob.form; have hcv := rb_str hrb c; rw [HK.out] at hv hcv; rw [HT.out] at hcv; subst hv; clear r1 o1 ob hrb)))
      go_ret
      exact EndIs.yes rfl (O1.out.then O2.out) ((show i + 1 + n = i + (1 + n) by omega) ▸ R2.out)
end
end Go.Proofs.YtagangneoibbcaaDoor
