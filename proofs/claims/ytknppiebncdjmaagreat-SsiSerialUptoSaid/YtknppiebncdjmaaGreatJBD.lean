import Derived.Test.YtknppiebncdjmaaGreatJAF
import Derived.Test.YtknppiebncdjmaaGreatJBC
import Derived.StillTailTactics
/- Layer 9, plain lists: notes of one transaction and one table, none of which covers another one, rising by where they begin. -/
namespace Go.Proofs.YtknppiebncdjmaaGreat
set_option maxRecDepth 100000

theorem ends_lo {x : Rd} (h : mayP x = true) : (endsP x).1 = x.lo := by
  unfold endsP
  rcases may_kd h with h1 | h1 | h1
  · rw [if_pos h1]
  · rw [if_neg (by omega), if_pos h1]
  · rw [if_neg (by omega), if_neg (by omega)]
    unfold mayP at h
    rw [if_neg (by omega), if_neg (by omega), if_pos h1] at h
    simp only [Bool.and_eq_true, isE_is, decide_eq_true_eq] at h
    exact h.1.symm
/-- One ends where the other one does, or ahead of it. -/
def leE (a b : Rd) : Bool := !(endsP b).2.2 || ((endsP a).2.2 && !klB (endsP b).2.1 (endsP a).2.1)
theorem leE_total (a b : Rd) : leE a b = true ∨ leE b a = true := by
  unfold leE
  cases (endsP a).2.2 <;> cases (endsP b).2.2 <;> simp
  cases h : klB (endsP b).2.1 (endsP a).2.1
  · exact .inl rfl
  · exact .inr (klB_asymm h)
theorem leE_trans {a b c : Rd} (h1 : leE a b = true) (h2 : leE b c = true) : leE a c = true := by
  unfold leE at *
  cases ha : (endsP a).2.2 <;> cases hb : (endsP b).2.2 <;> cases hc : (endsP c).2.2 <;> simp_all
  cases h : klB (endsP c).2.1 (endsP a).2.1
  · rfl
  · have := klB_lt_le h h1
    rw [this] at h2; cases h2
theorem covers_is {a b : Rd} (ha : mayP a = true) (hb : mayP b = true) (ht : a.tb = b.tb) : coversP a b = (!klB b.lo a.lo && leE b a) := by
  unfold coversP leE
  rw [ha, hb, ht, ends_lo ha, ends_lo hb]
  simp
structure OrdL (tb : ByteArray) (xs : List Rd) : Prop where
  may : ∀ x ∈ xs, mayP x = true ∧ x.tb = tb
  ord : xs.Pairwise fun a b => klB a.lo b.lo = true
  apart : xs.Pairwise fun a b => coversP a b = false ∧ coversP b a = false
theorem OrdL.nil (tb : ByteArray) : OrdL tb [] := ⟨by simp, List.Pairwise.nil, List.Pairwise.nil⟩
theorem OrdL.one {x : Rd} (h : mayP x = true) : OrdL x.tb [x] := ⟨by simpa using h, List.pairwise_singleton _ _, List.pairwise_singleton _ _⟩
theorem OrdL.weak {tb : ByteArray} {xs : List Rd} (h : OrdL tb xs) : xs.Pairwise fun a b => klB b.lo a.lo = false := h.ord.imp fun h => klB_asymm h
/-- Of two the later one ends behind the other one. -/
theorem OrdL.ends {tb : ByteArray} {xs : List Rd} (h : OrdL tb xs) : xs.Pairwise fun a b => leE a b = true ∧ leE b a = false := by
  have h2 := List.Pairwise.and h.ord h.apart
  refine List.Pairwise.imp_of_mem ?_ h2
  rintro a b ha hb ⟨h3, h4, -⟩
  obtain ⟨ma, ta⟩ := h.may a ha
  obtain ⟨mb, tb'⟩ := h.may b hb
  rw [covers_is ma mb (ta.trans tb'.symm), klB_asymm h3] at h4
  have h5 : leE b a = false := by simpa using h4
  exact ⟨(leE_total a b).resolve_right (by rw [h5]; simp), h5⟩
def begN (xs : List Rd) (key : ByteArray) : Nat := xs.countP fun x => !klB key x.lo
theorem weak_split {xs : List Rd} (h : xs.Pairwise fun a b => klB b.lo a.lo = false) (key : ByteArray) : ∀ i x, xs[i]? = some x → (klB key x.lo = false ↔ i < begN xs key) := by
  induction xs with
  | nil => intro i x hx; simp at hx
  | cons y xs ih =>
    obtain ⟨h1, h2⟩ := List.pairwise_cons.1 h
    intro i x hx
    unfold begN
    rw [List.countP_cons]
    cases hy : klB key y.lo with
    | false =>
      simp only [Bool.not_false, if_true]
      cases i with
      | zero => cases hx; simp [hy]
      | succ i =>
        have := ih h2 i x hx
        unfold begN at this
        rw [this]; omega
    | true =>
      have h0 : xs.countP (fun x => !klB key x.lo) = 0 := List.countP_eq_zero.2 fun z hz => by
        rw [klB_lt_le hy (h1 z hz)]; simp
      rw [h0]
      simp only [Bool.not_true, Bool.false_eq_true, if_false, Nat.not_lt_zero, iff_false, Nat.add_zero]
      cases i with
      | zero => cases hx; rw [hy]; simp
      | succ i =>
        have hm : x ∈ xs := List.mem_of_getElem? hx
        rw [klB_lt_le hy (h1 x hm)]; simp
theorem begN_le (xs : List Rd) (key : ByteArray) : begN xs key ≤ xs.length := List.countP_le_length
def coverP (xs : List Rd) (x : Rd) : Bool := decide (0 < begN xs x.lo) && (xs[begN xs x.lo - 1]?).elim false fun y => coversP y x
theorem cover_any {tb : ByteArray} {xs : List Rd} (h : OrdL tb xs) {x : Rd} (hm : mayP x = true) (ht : x.tb = tb) : coverP xs x = xs.any fun y => coversP y x := by
  have hsp := weak_split h.weak x.lo
  cases ha : xs.any fun y => coversP y x with
  | false =>
    rw [List.any_eq_false] at ha
    unfold coverP
    cases hx : xs[begN xs x.lo - 1]? with
    | none => simp
    | some y =>
      have := ha y (List.mem_of_getElem? hx)
      simp [this]
  | true =>
    obtain ⟨y, hy, hc⟩ := List.any_eq_true.1 ha
    obtain ⟨i, hi⟩ := List.getElem?_of_mem hy
    obtain ⟨my, ty⟩ := h.may y hy
    rw [covers_is my hm (ty.trans ht.symm)] at hc
    simp only [Bool.and_eq_true, Bool.not_eq_true'] at hc
    have h1 := (hsp i y hi).1 hc.1
    have h2 := begN_le xs x.lo
    obtain ⟨z, hz⟩ : ∃ z, xs[begN xs x.lo - 1]? = some z := ⟨_, List.getElem?_eq_getElem (by omega)⟩
    have hzm := List.mem_of_getElem? hz
    obtain ⟨mz, tz⟩ := h.may z hzm
    have h3 := (hsp _ z hz).2 (by omega)
    have h4 : leE y z = true := by
      rcases Nat.eq_or_lt_of_le (show i ≤ begN xs x.lo - 1 by omega) with e | e
      · rw [← e, hi] at hz
        cases hz
        exact (leE_total y y).elim id id
      · have hp := List.pairwise_iff_getElem.1 h.ends i (begN xs x.lo - 1) (by omega) (by omega) e
        rw [List.getElem?_eq_getElem (by omega)] at hi hz
        cases hi; cases hz
        exact hp.1
    unfold coverP
    rw [hz]
    simp only [Option.elim_some, Bool.and_eq_true, decide_eq_true_eq]
    refine ⟨by omega, ?_⟩
    rw [covers_is mz hm (tz.trans ht.symm), h3, leE_trans hc.2 h4]
    rfl
/-- From which one on the new one takes the others' place. -/
def firstN (xs : List Rd) (x : Rd) : Nat := if 0 < begN xs x.lo ∧ ((xs[begN xs x.lo - 1]?).elim false fun y => coversP x y) = true then begN xs x.lo - 1 else begN xs x.lo
def lastN (xs : List Rd) (x : Rd) : Nat := firstN xs x + ((xs.drop (firstN xs x)).takeWhile (coversP x)).length
def withP (xs : List Rd) (x : Rd) : List Rd := xs.take (firstN xs x) ++ [x] ++ xs.drop (lastN xs x)
theorem first_le (xs : List Rd) (x : Rd) : firstN xs x ≤ xs.length := by
  have := begN_le xs x.lo
  unfold firstN
  split <;> omega
theorem last_le (xs : List Rd) (x : Rd) : lastN xs x ≤ xs.length := by
  have := first_le xs x
  have h2 := (List.takeWhile_prefix (coversP x) (l := xs.drop (firstN xs x))).length_le
  rw [List.length_drop] at h2
  unfold lastN
  omega
theorem takeWhile_true {α : Type} (f : α → Bool) : ∀ (l : List α) (y : α), y ∈ l.takeWhile f → f y = true
  | [], y, h => by simp at h
  | a :: l, y, h => by
    cases ha : f a with
    | false => rw [List.takeWhile_cons_of_neg (by rw [ha]; simp)] at h; simp at h
    | true =>
      rw [List.takeWhile_cons_of_pos ha] at h
      rcases List.mem_cons.1 h with e | e
      · rw [e]; exact ha
      · exact takeWhile_true f l y e
/-- What lies between is covered, all else is not. -/
theorem with_split {tb : ByteArray} {xs : List Rd} (h : OrdL tb xs) {x : Rd} (hm : mayP x = true) (ht : x.tb = tb) (hn : xs.any (fun y => coversP y x) = false) :
    (∀ y ∈ xs.take (firstN xs x), coversP x y = false ∧ klB y.lo x.lo = true) ∧ (∀ y ∈ xs.drop (lastN xs x), coversP x y = false ∧ klB x.lo y.lo = true) ∧
      ∀ y ∈ (xs.drop (firstN xs x)).takeWhile (coversP x), coversP x y = true := by
  have hsp := weak_split h.weak x.lo
  have hb := begN_le xs x.lo
  have hcx : ∀ y ∈ xs, coversP x y = (!klB y.lo x.lo && leE y x) := fun y hy => covers_is hm (h.may y hy).1 (ht.trans (h.may y hy).2.symm)
  have hcy : ∀ y ∈ xs, (klB x.lo y.lo = true ∨ leE x y = false) := fun y hy => by
    have h1 := List.any_eq_false.1 hn y hy
    rw [covers_is (h.may y hy).1 hm ((h.may y hy).2.trans ht.symm)] at h1
    cases h2 : klB x.lo y.lo
    · rw [h2] at h1; simp at h1; exact .inr h1
    · exact .inl rfl
  have hA : ∀ i y, xs[i]? = some y → i < firstN xs x → coversP x y = false ∧ klB y.lo x.lo = true := fun i y hi hf => by
    have hym := List.mem_of_getElem? hi
    have hib : i < begN xs x.lo := by unfold firstN at hf; split at hf <;> omega
    have hle := (hsp i y hi).2 hib
    have hlt : klB y.lo x.lo = true := by
      cases hlt : klB y.lo x.lo with
      | true => rfl
      | false =>
        exfalso
        have heq := klB_tri hlt hle
        have hxy : leE x y = false := (hcy y hym).resolve_left (by rw [hle]; simp)
        have hyx : leE y x = true := (leE_total y x).resolve_right (by rw [hxy]; simp)
        have hc : coversP x y = true := by rw [hcx y hym, hlt, hyx]; rfl
        have hlast : i = begN xs x.lo - 1 := by
          rcases Nat.lt_or_ge i (begN xs x.lo - 1) with e | e
          · exfalso
            obtain ⟨z, hz⟩ : ∃ z, xs[begN xs x.lo - 1]? = some z := ⟨_, List.getElem?_eq_getElem (by omega)⟩
            have h1 := (hsp _ z hz).2 (by omega)
            have hp := List.pairwise_iff_getElem.1 h.ord i (begN xs x.lo - 1) (by omega) (by omega) e
            rw [List.getElem?_eq_getElem (by omega)] at hi hz
            cases hi; cases hz
            rw [heq, h1] at hp
            cases hp
          · omega
        unfold firstN at hf
        rw [← hlast, hi] at hf
        simp only [Option.elim_some, hc, and_true] at hf
        rw [if_pos (by omega)] at hf
        omega
    exact ⟨by rw [hcx y hym, hlt]; rfl, hlt⟩
  have hfl : firstN xs x ≤ begN xs x.lo := by unfold firstN; split <;> omega
  have hlast : begN xs x.lo ≤ lastN xs x := by
    unfold lastN
    by_cases hc : 0 < begN xs x.lo ∧ ((xs[begN xs x.lo - 1]?).elim false fun y => coversP x y) = true
    · have hf : firstN xs x = begN xs x.lo - 1 := by unfold firstN; rw [if_pos hc]
      rw [hf]
      obtain ⟨z, hz⟩ : ∃ z, xs[begN xs x.lo - 1]? = some z := ⟨_, List.getElem?_eq_getElem (by omega)⟩
      have hc2 := hc.2
      rw [hz] at hc2
      simp only [Option.elim_some] at hc2
      rw [List.drop_eq_getElem_cons (by omega)]
      rw [List.getElem?_eq_getElem (by omega)] at hz
      cases hz
      rw [List.takeWhile_cons_of_pos hc2]
      simp; omega
    · have hf : firstN xs x = begN xs x.lo := by unfold firstN; rw [if_neg hc]
      rw [hf]; omega
  refine ⟨fun y hy => ?_, fun y hy => ?_, fun y hy => takeWhile_true _ _ y hy⟩
  · obtain ⟨i, hi⟩ := List.getElem?_of_mem hy
    rw [List.getElem?_take] at hi
    split at hi
    · exact hA i y hi ‹_›
    · cases hi
  · obtain ⟨k, hk⟩ := List.getElem?_of_mem hy
    rw [List.getElem?_drop] at hk
    have hym := List.mem_of_getElem? hk
    have hlt : klB x.lo y.lo = true := by
      cases h1 : klB x.lo y.lo with
      | true => rfl
      | false => have := (hsp _ y hk).1 h1; omega
    refine ⟨?_, hlt⟩
    have hkl : lastN xs x < xs.length := by
      have := (List.getElem?_eq_some_iff.1 hk).1
      omega
    obtain ⟨z, hz⟩ : ∃ z, xs[lastN xs x]? = some z := ⟨_, List.getElem?_eq_getElem hkl⟩
    have hzm := List.mem_of_getElem? hz
    have hzc : coversP x z = false := by
      have hd : (xs.drop (firstN xs x))[((xs.drop (firstN xs x)).takeWhile (coversP x)).length]? = some z := by rw [List.getElem?_drop]; exact hz
      generalize xs.drop (firstN xs x) = l at hd
      clear hz
      induction l with
      | nil => simp at hd
      | cons a l ih =>
        cases ha : coversP x a with
        | false => rw [List.takeWhile_cons_of_neg (by rw [ha]; simp)] at hd; simp at hd; rw [← hd]; exact ha
        | true => rw [List.takeWhile_cons_of_pos ha] at hd; simp at hd; exact ih hd
    have hzl : klB z.lo x.lo = false := by
      cases h1 : klB x.lo z.lo with
      | true => exact klB_asymm h1
      | false => have := (hsp _ z hz).1 h1; omega
    have hze : leE z x = false := by
      rw [hcx z hzm, hzl] at hzc
      simpa using hzc
    rw [hcx y hym]
    have : leE y x = false := by
      cases h1 : leE y x with
      | false => rfl
      | true =>
        rcases Nat.eq_zero_or_pos k with e | e
        · subst e; rw [Nat.add_zero, hz] at hk; cases hk; rw [hze] at h1; cases h1
        · have hlt2 := (List.getElem?_eq_some_iff.1 hk).1
          have hp := List.pairwise_iff_getElem.1 h.ends (lastN xs x) (lastN xs x + k) hkl hlt2 (by omega)
          rw [List.getElem?_eq_getElem hkl] at hz
          rw [List.getElem?_eq_getElem hlt2] at hk
          cases hz; cases hk
          rw [leE_trans hp.1 h1] at hze
          cases hze
    rw [this]; simp
/-- What with makes of them. -/
theorem with_is {tb : ByteArray} {xs : List Rd} (h : OrdL tb xs) {x : Rd} (hm : mayP x = true) (ht : x.tb = tb) (hn : xs.any (fun y => coversP y x) = false) :
    OrdL tb (withP xs x) ∧ (withP xs x).Perm ((xs.filter fun y => !coversP x y) ++ [x]) := by
  obtain ⟨h1, h2, h3⟩ := with_split h hm ht hn
  have hany := List.any_eq_false.1 hn
  have hxs : xs = xs.take (firstN xs x) ++ ((xs.drop (firstN xs x)).takeWhile (coversP x) ++ xs.drop (lastN xs x)) := by
    conv => lhs; rw [← List.take_append_drop (firstN xs x) xs]
    congr 1
    conv => lhs; rw [← List.takeWhile_append_dropWhile (p := coversP x) (l := xs.drop (firstN xs x))]
    congr 1
    unfold lastN
    rw [← List.drop_drop]
    generalize xs.drop (firstN xs x) = l
    induction l with
    | nil => simp
    | cons a l ih =>
      cases ha : coversP x a with
      | false => rw [List.takeWhile_cons_of_neg (by rw [ha]; simp), List.dropWhile_cons_of_neg (by rw [ha]; simp)]; rfl
      | true => rw [List.takeWhile_cons_of_pos ha, List.dropWhile_cons_of_pos ha, ih]; rfl
  have hsub1 : (xs.take (firstN xs x)).Sublist xs := List.take_sublist _ _
  have hsub2 : (xs.drop (lastN xs x)).Sublist xs := List.drop_sublist _ _
  have hsub : (xs.take (firstN xs x) ++ xs.drop (lastN xs x)).Sublist xs := by
    conv => rhs; rw [hxs]
    exact (List.Sublist.refl _).append (List.sublist_append_right _ _)
  have hpw : ∀ {R : Rd → Rd → Prop}, xs.Pairwise R → (∀ y ∈ xs.take (firstN xs x), R y x) → (∀ y ∈ xs.drop (lastN xs x), R x y) → (withP xs x).Pairwise R := fun {R} hR ha hc => by
    have h0 := List.pairwise_append.1 (hR.sublist hsub)
    unfold withP
    rw [List.append_assoc, List.pairwise_append]
    refine ⟨h0.1, ?_, ?_⟩
    · rw [List.singleton_append, List.pairwise_cons]
      exact ⟨hc, h0.2.1⟩
    · intro a ha' b hb
      rcases List.mem_cons.1 (by simpa using hb : b ∈ x :: _) with e | e
      · rw [e]; exact ha a ha'
      · exact h0.2.2 a ha' b e
  refine ⟨⟨fun y hy => ?_, hpw h.ord (fun y hy => (h1 y hy).2) (fun y hy => (h2 y hy).2), hpw h.apart (fun y hy => ⟨by simpa using hany y (hsub1.subset hy), (h1 y hy).1⟩) (fun y hy => ⟨(h2 y hy).1, by simpa using hany y (hsub2.subset hy)⟩)⟩, ?_⟩
  · unfold withP at hy
    simp only [List.mem_append, List.mem_singleton] at hy
    rcases hy with (hy | hy) | hy
    · exact h.may y (hsub1.subset hy)
    · rw [hy]; exact ⟨hm, ht⟩
    · exact h.may y (hsub2.subset hy)
  · have hf : xs.filter (fun y => !coversP x y) = xs.take (firstN xs x) ++ xs.drop (lastN xs x) := by
      conv => lhs; rw [hxs]
      rw [List.filter_append, List.filter_append, List.filter_eq_self.2 (fun y hy => by rw [(h1 y hy).1]; rfl), List.filter_eq_nil_iff.2 (fun y hy => by rw [h3 y hy]; simp), List.filter_eq_self.2 (fun y hy => by rw [(h2 y hy).1]; rfl)]
      rfl
    rw [hf]
    unfold withP
    rw [List.append_assoc, List.append_assoc]
    exact (List.Perm.refl _).append List.perm_append_comm
end Go.Proofs.YtknppiebncdjmaaGreat

/- Layer 9: whether one of the notes of a list covers a note. -/
namespace Go.Proofs.YtknppiebncdjmaaGreat
set_option maxRecDepth 100000
set_option maxRecDepth 100000
open Go.RowKit

theorem rd_get {ls : List (Nat × Rd)} {i : Nat} {q : Nat × Rd} (h : ls[i]? = some q) : (ls.map (·.2))[i]? = some q.2 := by rw [List.getElem?_map, h]; rfl
set_option maxHeartbeats 4000000 in
theorem wpCover {w : World} {v : Value} {ls : List (Nat × Rd)} (h : NL w v ls) (hn : ls.length ≤ 100000) (hs : (ls.map (·.2)).Pairwise fun a b => klB b.lo a.lo = false) (hz : ∀ q ∈ ls, q.2.lo.size ≤ 140737488355328) (x : Rd) (hx : x.lo.size ≤ 140737488355328) :
    Calls Tryz.prog 97 #[v, rdV x] w fun e w' => e = .returned (.bool (coverP (ls.map (·.2)) x)) ∧ Below w.heap.size w w' := by
  obtain ⟨W, hW⟩ : ∃ W, w.alloc (.cells #[.string x.tb, .int .i64 x.kd, .string x.lo, .string x.hi] 114) = W := ⟨_, rfl⟩
  have HW := Lib.hid hW
  have hb1 : Below w.heap.size w W := by rw [← hW]; exact below_alloc9 _ _
  have HB := Lib.hid hb1
  have q := rd_box w x
  rw [hW] at q
  have x0 : W.cell? ⟨w.heap.size, 0, none⟩ = some (.string x.tb) := cell_of_row _ _ 0 _ _ _ q
  have x1 : W.cell? ⟨w.heap.size, 1, none⟩ = some (.int .i64 x.kd) := cell_of_row _ _ 1 _ _ _ q
  have x2 : W.cell? ⟨w.heap.size, 2, none⟩ = some (.string x.lo) := cell_of_row _ _ 2 _ _ _ q
  have x3 : W.cell? ⟨w.heap.size, 3, none⟩ = some (.string x.hi) := cell_of_row _ _ 3 _ _ _ q
  have CB := Lib.hid (wpBeg (h.gw hb1) hn hs (key := x.lo))
  have hle : begN (ls.map (·.2)) x.lo ≤ ls.length := by have := begN_le (ls.map (·.2)) x.lo; rw [List.length_map] at this; exact this
  have hcv : coverP (ls.map (·.2)) x = (decide (0 < begN (ls.map (·.2)) x.lo) && ((ls.map (·.2))[begN (ls.map (·.2)) x.lo - 1]?).elim false fun y => coversP y x) := rfl
  have hbb : begP (ls.map (·.2)) x.lo = begN (ls.map (·.2)) x.lo := rfl
  rw [hbb] at CB
  have hN := Lib.hid (h.gw hb1)
  generalize begN (ls.map (·.2)) x.lo = n at *
  clear h hs hb1 hW q hbb
  unfold rdV
  rcases Nat.eq_zero_or_pos n with h0 | h0
  · subst h0
    have HM := Lib.hid (show coverP (ls.map (·.2)) x = false by rw [hcv]; rfl)
    clear hcv
    go_enter Tryz.func97, Tryz.ntmps97
    go_upto_region 1 with fail
    rw [HW.out]
    go_upto_region 2 with (go_at_call 141; go_loud (refine CB.out.mono ?_; rintro e w1 ⟨rfl, g1⟩; have G1 := Lib.hid (below_next HB.out g1); clear g1))
    go_quiet (fail)
    go_wp2
    go_ret
    exact ⟨by rw [HM.out] <;> rfl, below_next G1.out (below_drewN9 _ _)⟩
  · obtain ⟨p, hp⟩ : ∃ p, ls[n - 1]? = some p := ⟨_, List.getElem?_eq_getElem (by omega)⟩
    have HM := Lib.hid (show coverP (ls.map (·.2)) x = coversP p.2 x by rw [hcv, rd_get hp]; simp [h0])
    have CC := Lib.hid (fun W => wpCovers W p.2 x (hz p (List.mem_of_getElem? hp)) hx)
    unfold rdV at CC
    have HNF := hN.out.form
    obtain ⟨A, c, rfl, a1, a2, a3⟩ := HNF
    obtain ⟨g, rfl, c1, hr⟩ := a3 _ p hp
    obtain ⟨y0, y1, y2, y3⟩ := hr.cells
    unfold ptV at c1
    obtain ⟨m, hm⟩ : ∃ m, n - 1 = m := ⟨_, rfl⟩
    have i1 : (0 : Int) < (n : Int) := by omega
    have i2 : (m : Int) < (ls.length : Int) := by omega
    have i3 : IntKind.i64.wrap ((n : Int) - 1) = (m : Int) := by rw [IntKind.wrap_i64]; omega
    rw [hm] at c1
    clear hm hcv hr a3 hp hN hz hx
    go_enter Tryz.func97, Tryz.ntmps97
    go_upto_region 1 with fail
    rw [HW.out]
    go_upto_region 2 with (go_at_call 141; go_loud (refine CB.out.mono ?_; rintro e w1 ⟨rfl, g1⟩; have G1 := Lib.hid (below_next HB.out g1); replace x0 := keep_below x0 g1; replace x1 := keep_below x1 g1; replace x2 := keep_below x2 g1; replace x3 := keep_below x3 g1; replace y0 := keep_below y0 g1; replace y1 := keep_below y1 g1; replace y2 := keep_below y2 g1; replace y3 := keep_below y3 g1; replace c1 := keep_below c1 g1; clear g1))
    go_still_tail 11, (by kernel_rfl)
    go_wp2_with (go_at_call 142; go_loud (refine (CC.out _).mono ?_; rintro e w2 ⟨rfl, g2⟩; have G2 := Lib.hid (below_next G1.out.drew g2); clear g2))
    go_ret
    exact ⟨by rw [HM.out] <;> rfl, G2.out⟩
end Go.Proofs.YtknppiebncdjmaaGreat
