/- Layer 10, plain lists: those that have committed have an order. -/
import Derived.Test.YtknppiebncdjmaaGreatSsC
namespace Go.Proofs.YtknppiebncdjmaaGreat
set_option maxRecDepth 100000
set_option maxRecDepth 100000

def verBy (vs : List Ver10) (k : Int) : Int := (vs[k.toNat]?).elim 0 (·.by_)
def verNext (vs : List Ver10) (k : Int) : Int := (vs[k.toNat]?).elim 0 (·.next)
/-- The dependencies of a read of the i-th. -/
def depRead (vs : List Ver10) (i : Int) (p : Lk × Int) : List (Int × Int) :=
  if 0 ≤ p.2 then (verBy vs p.2, i) :: (if 0 ≤ verNext vs p.2 then [(i, verBy vs (verNext vs p.2))] else [])
  else if 0 ≤ firstP vs p.1 then [(i, verBy vs (firstP vs p.1))] else []
def depRun (vs : List Ver10) (p : Run10 × Nat) : List (Int × Int) := if p.1.com = true then p.1.reads.flatMap (depRead vs (p.2 : Int)) else []
def depVer (vs : List Ver10) (v : Ver10) : List (Int × Int) := if 0 ≤ v.next then [(v.by_, verBy vs v.next)] else []
/-- All dependencies between those that have committed. -/
def depsP (vs : List Ver10) (rs : List Run10) : List (Int × Int) := rs.zipIdx.flatMap (depRun vs) ++ vs.flatMap (depVer vs)
section
variable {c : Cp10} {S : St10} {vs : List Ver10} {rs : List Run10} {now : Int}
/-- From one to another one, in the order. -/
def Goes (rs : List Run10) (key : Nat → Int) (d : Int × Int) : Prop := ∃ a b : Nat, d = ((a : Int), (b : Int)) ∧ a < rs.length ∧ b < rs.length ∧ (a ≠ b → key a < key b)
theorem Inv10.key (h : Inv10 c S vs rs now) : ∃ key : Nat → Int, ∀ d ∈ depsP vs rs, Goes rs key d := by
  obtain ⟨gi, go, f1, f2, f3⟩ := h.fl
  obtain ⟨key, hkey⟩ : ∃ key : Nat → Int, ∀ (i : Nat) r, rs[i]? = some r → key i = if go i = true then r.begun else r.ended := by
    refine ⟨fun i => (rs[i]?).elim 0 fun r => if go i = true then r.begun else r.ended, fun i r hi => ?_⟩
    simp only [hi, Option.elim_some]
  have lt : ∀ {j : Nat} {q : Run10}, rs[j]? = some q → j < rs.length := fun hq => (List.getElem?_eq_some_iff.1 hq).1
  -- one behind the other
  have before : ∀ {a b : Nat} {ra rb : Run10}, rs[a]? = some ra → rs[b]? = some rb → ra.com = true → rb.com = true → ra.ended < rb.begun → key a < key b := fun {a b ra rb} ha hb ca cb hlt => by
    obtain ⟨-, h1, h2, -⟩ := h.la a ra ha
    obtain ⟨-, h3, h4, -⟩ := h.la b rb hb
    have h5 := (h1 (h2 ca)).1
    have h6 := (h3 (h4 cb)).1
    rw [hkey a ra ha, hkey b rb hb]
    split <;> split <;> omega
  have wr : ∀ {i : Nat} {r : Run10} {v : Ver10}, rs[i]? = some r → r.com = true → v ∈ vs → v.num ≤ r.snap → Goes rs key (v.by_, (i : Int)) := fun {i r v} hi hc hv hle => by
    obtain ⟨j, q, h1, h2, h3, -, -, -, h7⟩ := h.ve v hv
    exact ⟨j, i, by rw [h1], lt h2, lt hi, fun _ => before h2 hi h3 hc ((h7 i r hi).1 hle)⟩
  have rw_ : ∀ {i : Nat} {r : Run10} {v : Ver10} {s : Int}, rs[i]? = some r → r.com = true → v ∈ vs → ¬ v.num ≤ r.snap → (v.at_, s) ∈ r.reads → Goes rs key ((i : Int), v.by_) := fun {i r v s} hi hc hv hgt hrd => by
    obtain ⟨j, q, h1, h2, h3, h4, -, -, h7⟩ := h.ve v hv
    refine ⟨i, j, by rw [h1], lt hi, lt h2, fun hij => ?_⟩
    have hnb : ¬ q.ended < r.begun := fun e => hgt ((h7 i r hi).2 e)
    have ho := (h.la j q h2).2.2.1 h3
    have hor := (h.la i r hi).2.2.1 hc
    have hne := h.ne i j r q hi h2 ho
    have hne2 := h.ne j i q r h2 hi hor
    by_cases hb : r.ended < q.begun
    · exact before hi h2 hc h3 hb
    · obtain ⟨g1, g2⟩ := f3 i j r q v.at_ s hij hi h2 (.inr hc) (.inr h3) ⟨fun _ => by omega, fun _ => by omega⟩ hrd h4
      have hg : ¬ go j = true := fun e => f2 j q h2 h3 ⟨g2, e⟩
      rw [hkey i r hi, hkey j q h2, if_pos g1, if_neg hg]
      omega
  refine ⟨key, fun d hd => ?_⟩
  rcases List.mem_append.1 hd with hd | hd
  · obtain ⟨⟨r, i⟩, hri, hd⟩ := List.mem_flatMap.1 hd
    have hi : rs[i]? = some r := by
      have := List.mem_zipIdx_iff_getElem?.1 hri
      simpa using this
    unfold depRun at hd
    by_cases hc : r.com = true
    · rw [if_pos hc] at hd
      obtain ⟨⟨l, s⟩, hp, hd⟩ := List.mem_flatMap.1 hd
      have hs : s = newestP vs l r.snap := h.rd i r hi (l, s) hp
      unfold depRead at hd
      simp only at hd
      rcases newest_is vs l r.snap with ⟨e, hno⟩ | ⟨k, v, e, hv, hok, hmax⟩
      · rw [if_neg (by omega)] at hd
        rcases first_is vs l with ⟨e2, -⟩ | ⟨k, v, e2, hv, e3⟩
        · rw [e2, if_neg (by omega)] at hd; cases hd
        · rw [e2, if_pos (by omega)] at hd
          rw [List.mem_singleton.1 hd]
          have : verBy vs (k : Int) = v.by_ := by unfold verBy; rw [Int.toNat_natCast, hv]; rfl
          rw [this]
          exact rw_ hi hc (List.mem_of_getElem? hv) (fun hle => hno k v hv ⟨e3, hle⟩) (by rw [e3]; exact hp)
      · rw [hs, e, if_pos (by omega)] at hd
        have hvb : verBy vs (k : Int) = v.by_ := by unfold verBy; rw [Int.toNat_natCast, hv]; rfl
        have hvn : verNext vs (k : Int) = v.next := by unfold verNext; rw [Int.toNat_natCast, hv]; rfl
        rw [hvb, hvn] at hd
        rcases List.mem_cons.1 hd with rfl | hd
        · exact wr hi hc (List.mem_of_getElem? hv) hok.2
        · rcases h.vn k v hv with ⟨e2, -⟩ | ⟨m, u, e2, hkm, hu, eu⟩
          · rw [e2, if_neg (by omega)] at hd; cases hd
          · rw [e2, if_pos (by omega)] at hd
            rw [List.mem_singleton.1 hd]
            have : verBy vs (m : Int) = u.by_ := by unfold verBy; rw [Int.toNat_natCast, hu]; rfl
            rw [this]
            refine rw_ (s := s) hi hc (List.mem_of_getElem? hu) (fun hle => ?_) (by rw [eu, hok.1]; exact hp)
            have := hmax m u hu ⟨eu.trans hok.1, hle⟩
            omega
    · rw [if_neg hc] at hd; cases hd
  · obtain ⟨v, hv, hd⟩ := List.mem_flatMap.1 hd
    obtain ⟨k, hk⟩ := List.mem_iff_getElem?.1 hv
    unfold depVer at hd
    rcases h.vn k v hk with ⟨e2, -⟩ | ⟨m, u, e2, hkm, hu, eu⟩
    · rw [e2, if_neg (by omega)] at hd; cases hd
    · rw [e2, if_pos (by omega)] at hd
      rw [List.mem_singleton.1 hd]
      have hub : verBy vs (m : Int) = u.by_ := by unfold verBy; rw [Int.toNat_natCast, hu]; rfl
      rw [hub]
      obtain ⟨j, q, h1, h2, h3, -⟩ := h.ve u (List.mem_of_getElem? hu)
      rw [h1]
      exact wr h2 h3 hv (h.ww k m v u hk hu hkm eu.symm j q h1 h2)
end
/-- Is the i-th free to go? -/
def freeP (deps : List (Int × Int)) (gone : List Bool) (i : Nat) : Bool := !(gone.getD i false) && deps.all fun d => !(decide (d.2 = (i : Int)) && decide (d.1 ≠ (i : Int)) && !(gone.getD d.1.toNat false))
def oneP (deps : List (Int × Int)) (gone : List Bool) (i : Nat) : List Bool := if freeP deps gone i = true then gone.set i true else gone
/-- A round over all. -/
def roundP (deps : List (Int × Int)) (gone : List Bool) : List Bool := (List.range gone.length).foldl (oneP deps) gone
def roundsP (deps : List (Int × Int)) : Nat → List Bool → List Bool
  | 0, g => g
  | n + 1, g => roundsP deps n (roundP deps g)
def orderedP (n : Nat) (deps : List (Int × Int)) : Bool := (roundsP deps n (List.replicate n false)).all id
/-- The first's are the second's too. -/
def GoneLe (g g' : List Bool) : Prop := g.length = g'.length ∧ ∀ i, g.getD i false = true → g'.getD i false = true
theorem GoneLe.refl (g : List Bool) : GoneLe g g := ⟨rfl, fun _ h => h⟩
theorem GoneLe.trans {a b c : List Bool} (h : GoneLe a b) (k : GoneLe b c) : GoneLe a c := ⟨h.1.trans k.1, fun i hi => k.2 i (h.2 i hi)⟩
theorem getD_set (g : List Bool) (i j : Nat) : (g.set i true).getD j false = if i = j ∧ i < g.length then true else g.getD j false := by
  rw [List.getD_eq_getElem?_getD, List.getElem?_set, List.getD_eq_getElem?_getD]
  by_cases e : i = j
  · subst e
    by_cases hl : i < g.length
    · simp [hl]
    · rw [if_pos rfl, if_neg hl, if_neg (by omega), List.getElem?_eq_none (by omega)]
  · rw [if_neg e, if_neg (by omega)]
theorem one_le (deps : List (Int × Int)) (g : List Bool) (i : Nat) : GoneLe g (oneP deps g i) := by
  unfold oneP
  split
  · refine ⟨by simp, fun j hj => ?_⟩
    rw [getD_set]
    split
    · rfl
    · exact hj
  · exact GoneLe.refl g
theorem fold_le (deps : List (Int × Int)) : ∀ (l : List Nat) (g : List Bool), GoneLe g (l.foldl (oneP deps) g)
  | [], g => GoneLe.refl g
  | i :: l, g => (one_le deps g i).trans (fold_le deps l _)
theorem fold_gone {deps : List (Int × Int)} {g0 : List Bool} {i : Nat} (hi : i < g0.length) (hd : ∀ d ∈ deps, d.2 = (i : Int) → d.1 ≠ (i : Int) → g0.getD d.1.toNat false = true) : ∀ (l : List Nat) (g : List Bool), GoneLe g0 g → i ∈ l → (l.foldl (oneP deps) g).getD i false = true
  | j :: l, g, hg, hm => by
    rw [List.foldl_cons]
    rcases List.mem_cons.1 hm with rfl | hm
    · refine (fold_le deps l _).2 i ?_
      unfold oneP
      by_cases hgi : g.getD i false = true
      · have : freeP deps g i = false := by unfold freeP; rw [hgi]; rfl
        rw [this, if_neg (by simp)]; exact hgi
      · have hf : freeP deps g i = true := by
          unfold freeP
          simp only [Bool.and_eq_true, Bool.not_eq_true', List.all_eq_true]
          refine ⟨by simpa using hgi, fun d hdm => ?_⟩
          by_cases e1 : d.2 = (i : Int)
          · by_cases e2 : d.1 = (i : Int)
            · simp [e2]
            · have := hg.2 _ (hd d hdm e1 e2)
              simp only [List.getD_eq_getElem?_getD] at this ⊢
              simp [this]
          · simp [e1]
        rw [if_pos hf, getD_set, if_pos ⟨rfl, by rw [← hg.1]; exact hi⟩]
    · exact fold_gone hi hd l _ (hg.trans (one_le deps g j)) hm
theorem round_le (deps : List (Int × Int)) (g : List Bool) : GoneLe g (roundP deps g) := fold_le deps _ g
def cntG (g : List Bool) : Nat := g.countP id
theorem cntg_le {g g' : List Bool} (h : GoneLe g g') : cntG g ≤ cntG g' := by
  obtain ⟨hl, hi⟩ := h
  unfold cntG
  induction g generalizing g' with
  | nil => simp
  | cons a g ih =>
    cases g' with
    | nil => simp at hl
    | cons b g' =>
      have h0 := hi 0
      have := ih (g' := g') (by simpa using hl) fun i hi2 => by have := hi (i + 1); simpa using this (by simpa using hi2)
      cases a <;> cases b <;> simp_all [List.countP_cons] <;> omega
theorem cntg_lt {g g' : List Bool} (h : GoneLe g g') {i : Nat} (h1 : g.getD i false = false) (h2 : g'.getD i false = true) : cntG g < cntG g' := by
  obtain ⟨hl, hi⟩ := h
  induction g generalizing g' i with
  | nil =>
    have : g' = [] := List.eq_nil_of_length_eq_zero (by simpa using hl.symm)
    subst this
    simp at h2
  | cons a g ih =>
    cases g' with
    | nil => simp at hl
    | cons b g' =>
      have htl : GoneLe g g' := ⟨by simpa using hl, fun i hi2 => by have := hi (i + 1); simpa using this (by simpa using hi2)⟩
      have hab : a = true → b = true := fun e => by have := hi 0; simpa [e] using this
      cases i with
      | zero =>
        have ha : a = false := by simpa using h1
        have hb : b = true := by simpa using h2
        have := cntg_le htl
        unfold cntG at *
        subst ha hb
        simp [List.countP_cons]
        omega
      | succ i =>
        have := ih (g' := g') (i := i) (by simpa using h1) (by simpa using h2) htl.1 htl.2
        unfold cntG at *
        cases a <;> cases b <;> simp_all [List.countP_cons] <;> omega
/-- Where numbers rise along all dependencies, all go. -/
theorem ordered_of {n : Nat} {deps : List (Int × Int)} {key : Nat → Int} (h : ∀ d ∈ deps, ∃ a b : Nat, d = ((a : Int), (b : Int)) ∧ a < n ∧ b < n ∧ (a ≠ b → key a < key b)) : orderedP n deps = true := by
  -- of those that have not gone there is one with the least number
  have least : ∀ (m : Nat) (g : List Bool), (∃ i, i < m ∧ g.getD i false = false) → ∃ i, i < m ∧ g.getD i false = false ∧ ∀ j, j < m → g.getD j false = false → key i ≤ key j := by
    intro m g
    induction m with
    | zero => rintro ⟨i, hi, -⟩; omega
    | succ m ih =>
      rintro ⟨i, hi, hgi⟩
      by_cases hm : ∃ i, i < m ∧ g.getD i false = false
      · obtain ⟨a, h1, h2, h3⟩ := ih hm
        by_cases hg : g.getD m false = false
        · by_cases hk : key a ≤ key m
          · refine ⟨a, by omega, h2, fun j hj hgj => ?_⟩
            rcases Nat.lt_succ_iff_lt_or_eq.1 hj with h4 | rfl
            · exact h3 j h4 hgj
            · exact hk
          · refine ⟨m, by omega, hg, fun j hj hgj => ?_⟩
            rcases Nat.lt_succ_iff_lt_or_eq.1 hj with h4 | rfl
            · have := h3 j h4 hgj; omega
            · exact Int.le_refl _
        · refine ⟨a, by omega, h2, fun j hj hgj => ?_⟩
          rcases Nat.lt_succ_iff_lt_or_eq.1 hj with h4 | rfl
          · exact h3 j h4 hgj
          · exact absurd hgj hg
      · have him : i = m := by
          rcases Nat.lt_succ_iff_lt_or_eq.1 hi with h4 | h4
          · exact absurd ⟨i, h4, hgi⟩ hm
          · exact h4
        subst him
        refine ⟨i, by omega, hgi, fun j hj hgj => ?_⟩
        rcases Nat.lt_succ_iff_lt_or_eq.1 hj with h4 | rfl
        · exact absurd ⟨j, h4, hgj⟩ hm
        · exact Int.le_refl _
  have more : ∀ g : List Bool, g.length = n → (roundP deps g).length = n ∧ (cntG g = n ∨ cntG g < cntG (roundP deps g)) := fun g hg => by
    have hle := round_le deps g
    refine ⟨hle.1.symm.trans hg, ?_⟩
    by_cases hall : ∃ i, i < n ∧ g.getD i false = false
    · obtain ⟨i, h1, h2, h3⟩ := least n g hall
      refine .inr (cntg_lt hle h2 ?_)
      unfold roundP
      refine fold_gone (by omega) (fun d hd e1 e2 => ?_) _ g (GoneLe.refl g) (List.mem_range.2 (by omega))
      obtain ⟨a, b, rfl, ha, hb, hk⟩ := h d hd
      simp only at e1 e2 ⊢
      have hbi : b = i := by omega
      subst hbi
      have hlt := hk fun e => e2 (by rw [e])
      rw [Int.toNat_natCast]
      cases hga : g.getD a false with
      | true => rfl
      | false => have := h3 a ha hga; omega
    · left
      unfold cntG
      rw [← hg, List.countP_eq_length]
      intro b hb
      obtain ⟨i, hi⟩ := List.mem_iff_getElem?.1 hb
      have hil := (List.getElem?_eq_some_iff.1 hi).1
      cases b with
      | true => rfl
      | false => exact absurd ⟨i, by omega, by rw [List.getD_eq_getElem?_getD, hi]; rfl⟩ hall
  have rounds : ∀ (m : Nat) (g : List Bool), g.length = n → (roundsP deps m g).length = n ∧ (cntG g + m ≤ cntG (roundsP deps m g) ∨ cntG (roundsP deps m g) = n) := by
    intro m
    induction m with
    | zero => intro g hg; exact ⟨hg, .inl (Nat.le_refl _)⟩
    | succ m ih =>
      intro g hg
      obtain ⟨h1, h2⟩ := more g hg
      obtain ⟨h3, h4⟩ := ih _ h1
      unfold roundsP
      refine ⟨h3, ?_⟩
      have hle : ∀ g : List Bool, g.length = n → cntG g ≤ n := fun g hg => by unfold cntG; rw [← hg]; exact List.countP_le_length
      rcases h4 with h4 | h4
      · rcases h2 with h2 | h2
        · right
          have := cntg_le (round_le deps g)
          have := hle _ h3
          omega
        · left; omega
      · exact .inr h4
  obtain ⟨h1, h2⟩ := rounds n (List.replicate n false) (by simp)
  unfold orderedP
  have h3 : cntG (roundsP deps n (List.replicate n false)) = (roundsP deps n (List.replicate n false)).length := by
    have hle : cntG (roundsP deps n (List.replicate n false)) ≤ n := by unfold cntG; conv => rhs; rw [← h1]
                                                                        exact List.countP_le_length
    rw [h1]
    rcases h2 with h2 | h2 <;> omega
  unfold cntG at h3
  rw [List.countP_eq_length] at h3
  rw [List.all_eq_true]
  exact h3
end Go.Proofs.YtknppiebncdjmaaGreat
