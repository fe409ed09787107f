import Derived.Test.YtknppiebncdjmaaGreatSsC
/- Layer 10, plain lists: those that have committed have an order. -/
namespace Go.Proofs.YtknppiebncdjmaaGreat
set_option maxRecDepth 100000
set_option maxRecDepth 100000

def verBy (vs : List Ver10) (k : Int) : Int := (vs[k.toNat]?).elim 0 (·.by_)
def verNext (vs : List Ver10) (k : Int) : Int := (vs[k.toNat]?).elim 0 (·.next)
/-- The dependencies of a read of the i-th. -/
def depRead (vs : List Ver10) (i : Int) (p : Lk × Int) : List (Int × Int) :=
  if 0 ≤ p.2 then (verBy vs p.2, i) :: (if 0 ≤ verNext vs p.2 then [(i, verBy vs (verNext vs p.2))] else [])
  else if 0 ≤ firstP vs p.1 then [(i, verBy vs (firstP vs p.1))] else []
def depRun (vs : List Ver10) (p : Run10 × Nat) : List (Int × Int) := if p.1.com = true then p.1.reads.flatMap (depRead vs (p.2 : Int)) else []
def depVer (vs : List Ver10) (v : Ver10) : List (Int × Int) := if 0 ≤ v.next then [(v.by_, verBy vs v.next)] else []
/-- All dependencies between those that have committed. -/
def depsP (vs : List Ver10) (rs : List Run10) : List (Int × Int) := rs.zipIdx.flatMap (depRun vs) ++ vs.flatMap (depVer vs)
section
variable {c : Cp10} {S : St10} {vs : List Ver10} {rs : List Run10} {now : Int}
/-- From one to another one, in the order. -/
def Goes (rs : List Run10) (key : Nat → Int) (d : Int × Int) : Prop := ∃ a b : Nat, d = ((a : Int), (b : Int)) ∧ a < rs.length ∧ b < rs.length ∧ (a ≠ b → key a < key b)
theorem Inv10.key (h : Inv10 c S vs rs now) : ∃ key : Nat → Int, ∀ d ∈ depsP vs rs, Goes rs key d := by
  obtain ⟨gi, go, f1, f2, f3⟩ := h.fl
  obtain ⟨key, hkey⟩ : ∃ key : Nat → Int, ∀ (i : Nat) r, rs[i]? = some r → key i = if go i = true then r.begun else r.ended := by
    refine ⟨fun i => (rs[i]?).elim 0 fun r => if go i = true then r.begun else r.ended, fun i r hi => ?_⟩
    simp only [hi, Option.elim_some]
  have lt : ∀ {j : Nat} {q : Run10}, rs[j]? = some q → j < rs.length := fun hq => (List.getElem?_eq_some_iff.1 hq).1
  -- one behind the other
  have before : ∀ {a b : Nat} {ra rb : Run10}, rs[a]? = some ra → rs[b]? = some rb → ra.com = true → rb.com = true → ra.ended < rb.begun → key a < key b := fun {a b ra rb} ha hb ca cb hlt => by
    obtain ⟨-, h1, h2, -⟩ := h.la a ra ha
    obtain ⟨-, h3, h4, -⟩ := h.la b rb hb
    have h5 := (h1 (h2 ca)).1
    have h6 := (h3 (h4 cb)).1
    rw [hkey a ra ha, hkey b rb hb]
    split <;> split <;> omega
  have wr : ∀ {i : Nat} {r : Run10} {v : Ver10}, rs[i]? = some r → r.com = true → v ∈ vs → v.num ≤ r.snap → Goes rs key (v.by_, (i : Int)) := fun {i r v} hi hc hv hle => by
    obtain ⟨j, q, h1, h2, h3, -, -, -, h7⟩ := h.ve v hv
    exact ⟨j, i, by rw [h1], lt h2, lt hi, fun _ => before h2 hi h3 hc ((h7 i r hi).1 hle)⟩
  have rw_ : ∀ {i : Nat} {r : Run10} {v : Ver10} {s : Int}, rs[i]? = some r → r.com = true → v ∈ vs → ¬ v.num ≤ r.snap → (v.at_, s) ∈ r.reads → Goes rs key ((i : Int), v.by_) := fun {i r v s} hi hc hv hgt hrd => by
    obtain ⟨j, q, h1, h2, h3, h4, -, -, h7⟩ := h.ve v hv
    refine ⟨i, j, by rw [h1], lt hi, lt h2, fun hij => ?_⟩
    have hnb : ¬ q.ended < r.begun := fun e => hgt ((h7 i r hi).2 e)
    have ho := (h.la j q h2).2.2.1 h3
    have hor := (h.la i r hi).2.2.1 hc
    have hne := h.ne i j r q hi h2 ho
    have hne2 := h.ne j i q r h2 hi hor
    by_cases hb : r.ended < q.begun
    · exact before hi h2 hc h3 hb
    · obtain ⟨g1, g2⟩ := f3 i j r q v.at_ s hij hi h2 (.inr hc) (.inr h3) ⟨fun _ => by omega, fun _ => by omega⟩ hrd h4
      have hg : ¬ go j = true := fun e => f2 j q h2 h3 ⟨g2, e⟩
      rw [hkey i r hi, hkey j q h2, if_pos g1, if_neg hg]
      omega
  refine ⟨key, fun d hd => ?_⟩
  rcases List.mem_append.1 hd with hd | hd
  · obtain ⟨⟨r, i⟩, hri, hd⟩ := List.mem_flatMap.1 hd
    have hi : rs[i]? = some r := by
      have := List.mem_zipIdx_iff_getElem?.1 hri
      simpa using this
    unfold depRun at hd
    by_cases hc : r.com = true
    · rw [if_pos hc] at hd
      obtain ⟨⟨l, s⟩, hp, hd⟩ := List.mem_flatMap.1 hd
      have hs : s = newestP vs l r.snap := h.rd i r hi (l, s) hp
      unfold depRead at hd
      simp only at hd
      rcases newest_is vs l r.snap with ⟨e, hno⟩ | ⟨k, v, e, hv, hok, hmax⟩
      · rw [if_neg (by omega)] at hd
        rcases first_is vs l with ⟨e2, -⟩ | ⟨k, v, e2, hv, e3⟩
        · rw [e2, if_neg (by omega)] at hd; cases hd
        · rw [e2, if_pos (by omega)] at hd
          rw [List.mem_singleton.1 hd]
          have : verBy vs (k : Int) = v.by_ := by unfold verBy; rw [Int.toNat_natCast, hv]; rfl
          rw [this]
          exact rw_ hi hc (List.mem_of_getElem? hv) (fun hle => hno k v hv ⟨e3, hle⟩) (by rw [e3]; exact hp)
      · rw [hs, e, if_pos (by omega)] at hd
        have hvb : verBy vs (k : Int) = v.by_ := by unfold verBy; rw [Int.toNat_natCast, hv]; rfl
        have hvn : verNext vs (k : Int) = v.next := by unfold verNext; rw [Int.toNat_natCast, hv]; rfl
        rw [hvb, hvn] at hd
        rcases List.mem_cons.1 hd with rfl | hd
        · exact wr hi hc (List.mem_of_getElem? hv) hok.2
        · rcases h.vn k v hv with ⟨e2, -⟩ | ⟨m, u, e2, hkm, hu, eu⟩
          · rw [e2, if_neg (by omega)] at hd; cases hd
          · rw [e2, if_pos (by omega)] at hd
            rw [List.mem_singleton.1 hd]
            have : verBy vs (m : Int) = u.by_ := by unfold verBy; rw [Int.toNat_natCast, hu]; rfl
            rw [this]
            refine rw_ (s := s) hi hc (List.mem_of_getElem? hu) (fun hle => ?_) (by rw [eu, hok.1]; exact hp)
            have := hmax m u hu ⟨eu.trans hok.1, hle⟩
            omega
    · rw [if_neg hc] at hd; cases hd
  · obtain ⟨v, hv, hd⟩ := List.mem_flatMap.1 hd
    obtain ⟨k, hk⟩ := List.mem_iff_getElem?.1 hv
    unfold depVer at hd
    rcases h.vn k v hk with ⟨e2, -⟩ | ⟨m, u, e2, hkm, hu, eu⟩
    · rw [e2, if_neg (by omega)] at hd; cases hd
    · rw [e2, if_pos (by omega)] at hd
      rw [List.mem_singleton.1 hd]
      have hub : verBy vs (m : Int) = u.by_ := by unfold verBy; rw [Int.toNat_natCast, hu]; rfl
      rw [hub]
      obtain ⟨j, q, h1, h2, h3, -⟩ := h.ve u (List.mem_of_getElem? hu)
      rw [h1]
      exact wr h2 h3 hv (h.ww k m v u hk hu hkm eu.symm j q h1 h2)
end
/-- Is the i-th free to go? -/
def freeP (deps : List (Int × Int)) (gone : List Bool) (i : Nat) : Bool := !(gone.getD i false) && deps.all fun d => !(decide (d.2 = (i : Int)) && decide (d.1 ≠ (i : Int)) && !(gone.getD d.1.toNat false))
def oneP (deps : List (Int × Int)) (gone : List Bool) (i : Nat) : List Bool := if freeP deps gone i = true then gone.set i true else gone
/-- A round over all. -/
def roundP (deps : List (Int × Int)) (gone : List Bool) : List Bool := (List.range gone.length).foldl (oneP deps) gone
def roundsP (deps : List (Int × Int)) : Nat → List Bool → List Bool
  | 0, g => g
  | n + 1, g => roundsP deps n (roundP deps g)
def orderedP (n : Nat) (deps : List (Int × Int)) : Bool := (roundsP deps n (List.replicate n false)).all id
/-- The first's are the second's too. -/
def GoneLe (g g' : List Bool) : Prop := g.length = g'.length ∧ ∀ i, g.getD i false = true → g'.getD i false = true
theorem GoneLe.refl (g : List Bool) : GoneLe g g := ⟨rfl, fun _ h => h⟩
theorem GoneLe.trans {a b c : List Bool} (h : GoneLe a b) (k : GoneLe b c) : GoneLe a c := ⟨h.1.trans k.1, fun i hi => k.2 i (h.2 i hi)⟩
theorem getD_set (g : List Bool) (i j : Nat) : (g.set i true).getD j false = if i = j ∧ i < g.length then true else g.getD j false := by
  rw [List.getD_eq_getElem?_getD, List.getElem?_set, List.getD_eq_getElem?_getD]
  by_cases e : i = j
  · subst e
    by_cases hl : i < g.length
    · simp [hl]
    · rw [if_pos rfl, if_neg hl, if_neg (by omega), List.getElem?_eq_none (by omega)]
  · rw [if_neg e, if_neg (by omega)]
theorem one_le (deps : List (Int × Int)) (g : List Bool) (i : Nat) : GoneLe g (oneP deps g i) := by
  unfold oneP
  split
  · refine ⟨by simp, fun j hj => ?_⟩
    rw [getD_set]
    split
    · rfl
    · exact hj
  · exact GoneLe.refl g
theorem fold_le (deps : List (Int × Int)) : ∀ (l : List Nat) (g : List Bool), GoneLe g (l.foldl (oneP deps) g)
  | [], g => GoneLe.refl g
  | i :: l, g => (one_le deps g i).trans (fold_le deps l _)
theorem fold_gone {deps : List (Int × Int)} {g0 : List Bool} {i : Nat} (hi : i < g0.length) (hd : ∀ d ∈ deps, d.2 = (i : Int) → d.1 ≠ (i : Int) → g0.getD d.1.toNat false = true) : ∀ (l : List Nat) (g : List Bool), GoneLe g0 g → i ∈ l → (l.foldl (oneP deps) g).getD i false = true
  | j :: l, g, hg, hm => by
    rw [List.foldl_cons]
    rcases List.mem_cons.1 hm with rfl | hm
    · refine (fold_le deps l _).2 i ?_
      unfold oneP
      by_cases hgi : g.getD i false = true
      · have : freeP deps g i = false := by unfold freeP; rw [hgi]; rfl
        rw [this, if_neg (by simp)]; exact hgi
      · have hf : freeP deps g i = true := by
          unfold freeP
          simp only [Bool.and_eq_true, Bool.not_eq_true', List.all_eq_true]
          refine ⟨by simpa using hgi, fun d hdm => ?_⟩
          by_cases e1 : d.2 = (i : Int)
          · by_cases e2 : d.1 = (i : Int)
            · simp [e2]
            · have := hg.2 _ (hd d hdm e1 e2)
              simp only [List.getD_eq_getElem?_getD] at this ⊢
              simp [this]
          · simp [e1]
        rw [if_pos hf, getD_set, if_pos ⟨rfl, by rw [← hg.1]; exact hi⟩]
    · exact fold_gone hi hd l _ (hg.trans (one_le deps g j)) hm
theorem round_le (deps : List (Int × Int)) (g : List Bool) : GoneLe g (roundP deps g) := fold_le deps _ g
def cntG (g : List Bool) : Nat := g.countP id
theorem cntg_le {g g' : List Bool} (h : GoneLe g g') : cntG g ≤ cntG g' := by
  obtain ⟨hl, hi⟩ := h
  unfold cntG
  induction g generalizing g' with
  | nil => simp
  | cons a g ih =>
    cases g' with
    | nil => simp at hl
    | cons b g' =>
      have h0 := hi 0
      have := ih (g' := g') (by simpa using hl) fun i hi2 => by have := hi (i + 1); simpa using this (by simpa using hi2)
      cases a <;> cases b <;> simp_all [List.countP_cons] <;> omega
theorem cntg_lt {g g' : List Bool} (h : GoneLe g g') {i : Nat} (h1 : g.getD i false = false) (h2 : g'.getD i false = true) : cntG g < cntG g' := by
  obtain ⟨hl, hi⟩ := h
  induction g generalizing g' i with
  | nil =>
    have : g' = [] := List.eq_nil_of_length_eq_zero (by simpa using hl.symm)
    subst this
    simp at h2
  | cons a g ih =>
    cases g' with
    | nil => simp at hl
    | cons b g' =>
      have htl : GoneLe g g' := ⟨by simpa using hl, fun i hi2 => by have := hi (i + 1); simpa using this (by simpa using hi2)⟩
      have hab : a = true → b = true := fun e => by have := hi 0; simpa [e] using this
      cases i with
      | zero =>
        have ha : a = false := by simpa using h1
        have hb : b = true := by simpa using h2
        have := cntg_le htl
        unfold cntG at *
        subst ha hb
        simp [List.countP_cons]
        omega
      | succ i =>
        have := ih (g' := g') (i := i) (by simpa using h1) (by simpa using h2) htl.1 htl.2
        unfold cntG at *
        cases a <;> cases b <;> simp_all [List.countP_cons] <;> omega
/-- Where numbers rise along all dependencies, all go. -/
theorem ordered_of {n : Nat} {deps : List (Int × Int)} {key : Nat → Int} (h : ∀ d ∈ deps, ∃ a b : Nat, d = ((a : Int), (b : Int)) ∧ a < n ∧ b < n ∧ (a ≠ b → key a < key b)) : orderedP n deps = true := by
  -- of those that have not gone there is one with the least number
  have least : ∀ (m : Nat) (g : List Bool), (∃ i, i < m ∧ g.getD i false = false) → ∃ i, i < m ∧ g.getD i false = false ∧ ∀ j, j < m → g.getD j false = false → key i ≤ key j := by
    intro m g
    induction m with
    | zero => rintro ⟨i, hi, -⟩; omega
    | succ m ih =>
      rintro ⟨i, hi, hgi⟩
      by_cases hm : ∃ i, i < m ∧ g.getD i false = false
      · obtain ⟨a, h1, h2, h3⟩ := ih hm
        by_cases hg : g.getD m false = false
        · by_cases hk : key a ≤ key m
          · refine ⟨a, by omega, h2, fun j hj hgj => ?_⟩
            rcases Nat.lt_succ_iff_lt_or_eq.1 hj with h4 | rfl
            · exact h3 j h4 hgj
            · exact hk
          · refine ⟨m, by omega, hg, fun j hj hgj => ?_⟩
            rcases Nat.lt_succ_iff_lt_or_eq.1 hj with h4 | rfl
            · have := h3 j h4 hgj; omega
            · exact Int.le_refl _
        · refine ⟨a, by omega, h2, fun j hj hgj => ?_⟩
          rcases Nat.lt_succ_iff_lt_or_eq.1 hj with h4 | rfl
          · exact h3 j h4 hgj
          · exact absurd hgj hg
      · have him : i = m := by
          rcases Nat.lt_succ_iff_lt_or_eq.1 hi with h4 | h4
          · exact absurd ⟨i, h4, hgi⟩ hm
          · exact h4
        subst him
        refine ⟨i, by omega, hgi, fun j hj hgj => ?_⟩
        rcases Nat.lt_succ_iff_lt_or_eq.1 hj with h4 | rfl
        · exact absurd ⟨j, h4, hgj⟩ hm
        · exact Int.le_refl _
  have more : ∀ g : List Bool, g.length = n → (roundP deps g).length = n ∧ (cntG g = n ∨ cntG g < cntG (roundP deps g)) := fun g hg => by
    have hle := round_le deps g
    refine ⟨hle.1.symm.trans hg, ?_⟩
    by_cases hall : ∃ i, i < n ∧ g.getD i false = false
    · obtain ⟨i, h1, h2, h3⟩ := least n g hall
      refine .inr (cntg_lt hle h2 ?_)
      unfold roundP
      refine fold_gone (by omega) (fun d hd e1 e2 => ?_) _ g (GoneLe.refl g) (List.mem_range.2 (by omega))
      obtain ⟨a, b, rfl, ha, hb, hk⟩ := h d hd
      simp only at e1 e2 ⊢
      have hbi : b = i := by omega
      subst hbi
      have hlt := hk fun e => e2 (by rw [e])
      rw [Int.toNat_natCast]
      cases hga : g.getD a false with
      | true => rfl
      | false => have := h3 a ha hga; omega
    · left
      unfold cntG
      rw [← hg, List.countP_eq_length]
      intro b hb
      obtain ⟨i, hi⟩ := List.mem_iff_getElem?.1 hb
      have hil := (List.getElem?_eq_some_iff.1 hi).1
      cases b with
      | true => rfl
      | false => exact absurd ⟨i, by omega, by rw [List.getD_eq_getElem?_getD, hi]; rfl⟩ hall
  have rounds : ∀ (m : Nat) (g : List Bool), g.length = n → (roundsP deps m g).length = n ∧ (cntG g + m ≤ cntG (roundsP deps m g) ∨ cntG (roundsP deps m g) = n) := by
    intro m
    induction m with
    | zero => intro g hg; exact ⟨hg, .inl (Nat.le_refl _)⟩
    | succ m ih =>
      intro g hg
      obtain ⟨h1, h2⟩ := more g hg
      obtain ⟨h3, h4⟩ := ih _ h1
      unfold roundsP
      refine ⟨h3, ?_⟩
      have hle : ∀ g : List Bool, g.length = n → cntG g ≤ n := fun g hg => by unfold cntG; rw [← hg]; exact List.countP_le_length
      rcases h4 with h4 | h4
      · rcases h2 with h2 | h2
        · right
          have := cntg_le (round_le deps g)
          have := hle _ h3
          omega
        · left; omega
      · exact .inr h4
  obtain ⟨h1, h2⟩ := rounds n (List.replicate n false) (by simp)
  unfold orderedP
  have h3 : cntG (roundsP deps n (List.replicate n false)) = (roundsP deps n (List.replicate n false)).length := by
    have hle : cntG (roundsP deps n (List.replicate n false)) ≤ n := by unfold cntG; conv => rhs; rw [← h1]
                                                                        exact List.countP_le_length
    rw [h1]
    rcases h2 with h2 | h2 <;> omega
  unfold cntG at h3
  rw [List.countP_eq_length] at h3
  rw [List.all_eq_true]
  exact h3
end Go.Proofs.YtknppiebncdjmaaGreat

/- Layer 10, plain lists: each operation, told honestly, keeps what is kept. -/
namespace Go.Proofs.YtknppiebncdjmaaGreat
set_option maxRecDepth 100000
set_option maxRecDepth 100000

section
variable {c : Cp10} {S : St10} {vs : List Ver10} {rs : List Run10} {now : Int}
/-- One who is under way, in the manager's list. -/
theorem Inv10.under (h : Inv10 c S vs rs now) {i : Nat} {r : Run10} (hi : rs[i]? = some r) (hr : r.over = false) : ∃ (k : Nat) (t : Tx10), underP S.list r.tx = some k ∧ S.list[k]? = some t ∧ t.num = (i : Int) + 1 ∧ t.ended = 0 ∧ t.snap = r.snap := by
  obtain ⟨t, ht, e, e0⟩ := h.al i r hi hr
  have htx := h.tx i r hi
  cases hu : underP S.list r.tx with
  | none =>
    unfold underP at hu
    have := List.findIdx?_eq_none_iff.1 hu t ht
    simp [htx, e, liveT, e0] at this
  | some k =>
    unfold underP at hu
    obtain ⟨hk, h1, -⟩ := List.findIdx?_eq_some_iff_getElem.1 hu
    simp only [Bool.and_eq_true, decide_eq_true_eq, liveT] at h1
    have hm : S.list[k] ∈ S.list := List.getElem_mem hk
    have : S.list[k] = t := nums_inj h.nd hm ht (by rw [h1.1, htx, e])
    refine ⟨k, t, rfl, by rw [List.getElem?_eq_getElem hk, this], e, e0, ?_⟩
    obtain ⟨j, q, hj, e2, e3, -⟩ := h.tr t ht
    have : j = i := num_inj (e2.symm.trans e)
    subst this
    rw [hi] at hj; cases hj
    exact e3
theorem numP_at {l : List Tx10} {k : Nat} {t : Tx10} (h : l[k]? = some t) : numP l k = t.num := by unfold numP; rw [h]; rfl
theorem snapP_at {l : List Tx10} {k : Nat} {t : Tx10} (h : l[k]? = some t) : snapP l k = t.snap := by unfold snapP; rw [h]; rfl
/-- The other one, concurrent, with rows or notes: where it stands. -/
theorem Inv10.other (h : Inv10 c S vs rs now) {i j k : Nat} {r q : Run10} {t : Tx10} (hi : rs[i]? = some r) (hr : r.over = false) (hk : S.list[k]? = some t) (ht : t.num = (i : Int) + 1) (hji : j ≠ i) (hj : rs[j]? = some q) (hv : Val10 q) (hc : q.over = true → r.begun < q.ended) (hm : q.writes ≠ [] ∨ q.reads ≠ []) :
    ∃ (o : Nat) (u : Tx10), S.list[o]? = some u ∧ u.num = (j : Int) + 1 ∧ concP S.list k o = true ∧ (u.ended = 0 ∧ q.over = false ∨ u.ended ≠ 0 ∧ ∀ l, l ∈ u.wrote ↔ l ∈ q.writes) := by
  have htm := List.mem_of_getElem? hk
  have conc : ∀ {o : Nat} {u : Tx10}, S.list[o]? = some u → u.num = (j : Int) + 1 → (u.ended = 0 ∨ t.begun < u.ended) → concP S.list k o = true := fun {o u} ho e hor => by
    have hne : k ≠ o := fun e2 => by
      subst e2
      rw [hk] at ho; cases ho
      exact hji (num_inj (e.symm.trans ht))
    unfold concP
    rw [hk, ho]
    simp [hne, hor]
  by_cases hov : q.over = true
  · have hcom : q.com = true := by
      rcases hv with h1 | h1
      · rw [hov] at h1; cases h1
      · exact h1
    obtain ⟨u, hu, e⟩ := h.kp i j r q hi hj hr hcom (hc hov) hm
    obtain ⟨o, ho⟩ := List.mem_iff_getElem?.1 hu
    obtain ⟨j2, q2, hj2, e2, -, -, -, -, h7, h8⟩ := h.tr u hu
    have : j = j2 := num_inj (e.symm.trans e2)
    subst this
    rw [hj] at hj2; cases hj2
    have hne : u.ended ≠ 0 := fun e3 => by have := (h7 e3).1; rw [hov] at this; cases this
    exact ⟨o, u, ho, e, conc ho e (.inr ((h.mo u hu t htm j i q r hj hi e ht hne).2 (hc hov))), .inr ⟨hne, (h8 hne).2⟩⟩
  · have hov' : q.over = false := by simpa using hov
    obtain ⟨u, hu, e, e0⟩ := h.al j q hj hov'
    obtain ⟨o, ho⟩ := List.mem_iff_getElem?.1 hu
    exact ⟨o, u, ho, e, conc ho e (.inl e0), .inl ⟨e0, hov'⟩⟩
theorem set_same {i : Nat} {r : Run10} (hi : rs[i]? = some r) : rs.set i r = rs := by
  obtain ⟨hl, he⟩ := List.getElem?_eq_some_iff.1 hi
  rw [← he]; exact List.set_getElem_self hl
/-- A read of rows that a note holds. -/
theorem Inv10.noted (h : Inv10 c S vs rs now) {i k : Nat} {r : Run10} {t : Tx10} (hi : rs[i]? = some r) (hr : r.over = false) (hk : S.list[k]? = some t) (ht : t.num = (i : Int) + 1) (x : Rd) (lo hi' : ByteArray) (ls : List Lk)
    (hls : ∀ l ∈ ls, hasP x l.1 l.2 = true ∧ l.1 = x.tb ∧ withinB l.2 lo hi' = true) :
    ((note10 c S k x lo hi').1 = 0 → Inv10 c (note10 c S k x lo hi').2 vs (rs.set i (ls.foldl (seesP vs) r)) (now + 1)) ∧ ((note10 c S k x lo hi').1 ≠ 0 → Inv10 c (note10 c S k x lo hi').2 vs (rs.set i { r with over := true, ended := now }) (now + 1)) := by
  obtain ⟨q, hq⟩ : ∃ q, noteP c.reads S.L (numP S.list k) x = q := ⟨_, rfl⟩
  obtain ⟨k1, k2, k3, k4⟩ := note_keeps h.n9 (numP S.list k) x
  rw [hq] at k1 k2 k3 k4
  rw [numP_at hk, ht] at k3 k4
  obtain ⟨a, L1⟩ := q
  simp only at k1 k2 k3 k4
  have hf : ∀ n ∈ L1, n.1 = (i : Int) + 1 ∨ ∃ m ∈ S.L, m.1 = n.1 := fun n hn => by
    rcases k3 n hn with ⟨e, -⟩ | h1
    · exact .inl e
    · exact .inr h1
  unfold note10
  rw [hq]
  simp only
  by_cases ha : a = 0
  · subst ha
    simp only [ne_eq, not_true_eq_false, if_false]
    obtain ⟨-, -, k5⟩ := k4 rfl
    obtain ⟨oth, hoth⟩ : ∃ o, writersP { S with L := L1 } k x.tb lo hi' = o := ⟨_, rfl⟩
    rw [hoth]
    unfold putP10
    simp only
    cases hb : badP (oth.foldl (flagP true k) S.list) k oth with
    | true =>
      simp only [if_true]
      refine ⟨fun e => (by cases e), fun _ => ?_⟩
      exact h.abort hi hr hk ht h.on (fun _ _ _ => Iff.rfl) k1 hf k2 (H1 := S.H) (L1 := L1)
    | false =>
      simp only [Bool.false_eq_true, if_false, not_true_eq_false, ne_eq, false_implies, and_true, true_implies]
      obtain ⟨f1, f2, f3, f4, f5, f6, f7, f8⟩ := sees_fields vs ls r
      have hrr : (ls.foldl (seesP vs) r) = { r with reads := (ls.foldl (seesP vs) r).reads, writes := r.writes } := by
        obtain ⟨q, hq⟩ : ∃ q, ls.foldl (seesP vs) r = q := ⟨_, rfl⟩
        rw [hq] at f1 f2 f3 f4 f5 f6 f7 ⊢
        obtain ⟨q1, q2, q3, q4, q5, q6, q7, q8⟩ := q
        obtain ⟨r1, r2, r3, r4, r5, r6, r7, r8⟩ := r
        simp only at f1 f2 f3 f4 f5 f6 f7
        subst f1 f2 f3 f4 f5 f6 f7
        rfl
      rw [hrr]
      refine h.put hi hr hk ht (H1 := S.H) (L1 := L1) oth true _ r.writes h.on (fun _ _ _ => Iff.rfl) (fun l => ?_) k1 hf k2 (fun p hp => ?_) (fun p hp => ?_) (h.la i r hi).2.2.2.2 (fun v hv hw => h.fw i r hi hr v hv hw) hb (fun j q l s hji hj hv hc hl hw => ?_) (fun j q l s hji hj hv hc hl hw => .inl hw)
      · rw [h.hs]
        constructor
        · rintro ⟨j, q, e, hj, -, hl⟩
          have : j = i := (num_inj e).symm
          subst this
          rw [hi] at hj; cases hj
          exact hl
        · intro hl; exact ⟨i, r, rfl, hi, hr, hl⟩
      · rcases (f8 p).1 hp with hp | ⟨hp, -, -⟩
        · obtain ⟨n, hn, e1, e2⟩ := h.nr t (List.mem_of_getElem? hk) i r hi ht p hp
          obtain ⟨m, hm, e3, e4⟩ := k2 n hn _ _ e2
          exact ⟨m, hm, e3.trans (e1.trans ht), e4⟩
        · exact k5 _ _ (hls p.1 hp).1
      · rcases (f8 p).1 hp with hp | ⟨-, -, e⟩
        · exact h.rd i r hi p hp
        · exact e
      · rcases (f8 (l, s)).1 hl with hl | ⟨hl, -, -⟩
        · exact .inl ⟨s, hl⟩
        · right
          refine ⟨rfl, ?_⟩
          obtain ⟨o, u, ho, e, hcc, hor⟩ := h.other hi hr hk ht hji hj hv hc.2 (.inl fun e => by rw [e] at hw; cases hw)
          obtain ⟨-, g2, g3⟩ := hls l hl
          refine ⟨o, ?_, u, ho, e⟩
          rw [← hoth]
          unfold writersP
          rw [List.mem_filter, List.mem_range]
          refine ⟨(List.getElem?_eq_some_iff.1 ho).1, ?_⟩
          simp only [hcc, ho, Option.elim_some, Bool.true_and]
          unfold wroteP
          rcases hor with ⟨e0, hov⟩ | ⟨e0, hwr⟩
          · rw [Bool.or_eq_true]
            left
            rw [Bool.and_eq_true]
            refine ⟨by simp [liveT, e0], ?_⟩
            rw [List.any_eq_true]
            refine ⟨u.num, ((rise_is _).2 _).2 ?_, by simp⟩
            unfold whoP
            rw [List.mem_map]
            refine ⟨(l, u.num), List.mem_filter.2 ⟨(h.hs l u.num).2 ⟨j, q, e, hj, hov, hw⟩, ?_⟩, rfl⟩
            unfold inH
            simp only [g2, g3, beq_self_eq_true, Bool.and_self]
          · rw [Bool.or_eq_true]
            right
            rw [List.any_eq_true]
            exact ⟨l, (hwr l).2 hw, by simp [g2, g3]⟩
  · rw [if_pos ha]
    refine ⟨fun e => absurd e ha, fun _ => ?_⟩
    exact h.abort hi hr hk ht h.on (fun _ _ _ => Iff.rfl) k1 hf k2 (H1 := S.H) (L1 := L1)
theorem within_self (k : ByteArray) : withinB k k (k ++ ⟨#[0]⟩) = true := by
  unfold withinB
  rw [klB_irrefl, klB_zero, klB_irrefl]
  simp
/-- Read. -/
theorem Inv10.read (h : Inv10 c S vs rs now) {i : Nat} {r : Run10} (hi : rs[i]? = some r) (hr : r.over = false) (l : Lk) :
    ((read10 c S r.tx l).1 = 0 → Inv10 c (read10 c S r.tx l).2 vs (rs.set i (seesP vs r l)) (now + 1)) ∧ ((read10 c S r.tx l).1 ≠ 0 → Inv10 c (read10 c S r.tx l).2 vs (rs.set i { r with over := true, ended := now }) (now + 1)) := by
  obtain ⟨k, t, hu, hk, ht, -, -⟩ := h.under hi hr
  unfold read10
  rw [hu]
  simp only
  by_cases hh : holderP S.H l = some r.tx
  · rw [if_pos hh]
    refine ⟨fun _ => ?_, fun e => absurd rfl e⟩
    have hw : l ∈ r.writes := by
      have := (holder_some h.on).1 hh
      rw [h.tx i r hi] at this
      obtain ⟨j, q, e, hj, -, hl⟩ := (h.hs _ _).1 this
      have : j = i := (num_inj e).symm
      subst this
      rw [hi] at hj; cases hj
      exact hl
    have : seesP vs r l = r := by unfold seesP; rw [if_pos (hasLk_is.2 hw)]
    rw [this, set_same hi]
    exact h.tick
  · rw [if_neg hh]
    have := h.noted hi hr hk ht ⟨l.1, 1, l.2, ⟨#[]⟩⟩ l.2 (l.2 ++ ⟨#[0]⟩) [l] fun l' hl' => by
      rw [List.mem_singleton.1 hl']
      refine ⟨?_, rfl, within_self _⟩
      unfold hasP
      simp
    exact this
/-- Scan: the rows of the range are read. -/
theorem Inv10.scan (h : Inv10 c S vs rs now) {i : Nat} {r : Run10} (hi : rs[i]? = some r) (hr : r.over = false) (tb lo hi' : ByteArray) (ls : List Lk) (hls : ∀ l ∈ ls, l.1 = tb ∧ withinB l.2 lo hi' = true) :
    ((scan10 c S r.tx tb lo hi').1 = 0 → Inv10 c (scan10 c S r.tx tb lo hi').2 vs (rs.set i (ls.foldl (seesP vs) r)) (now + 1)) ∧ ((scan10 c S r.tx tb lo hi').1 ≠ 0 → Inv10 c (scan10 c S r.tx tb lo hi').2 vs (rs.set i { r with over := true, ended := now }) (now + 1)) := by
  obtain ⟨k, t, hu, hk, ht, -, -⟩ := h.under hi hr
  unfold scan10
  rw [hu]
  simp only
  cases hh : !(hi'.toList == []) && !klB lo hi' with
  | true =>
    rw [if_pos rfl]
    refine ⟨fun _ => ?_, fun e => absurd rfl e⟩
    simp only [Bool.and_eq_true, Bool.not_eq_true'] at hh
    have hnil : ls = [] := by
      cases ls with
      | nil => rfl
      | cons l ls =>
        obtain ⟨-, h1⟩ := hls l (List.mem_cons_self ..)
        unfold withinB at h1
        rw [hh.1] at h1
        simp only [Bool.false_or, Bool.and_eq_true, Bool.not_eq_true'] at h1
        have := klB_le_lt h1.1 h1.2
        rw [hh.2] at this; cases this
    subst hnil
    rw [List.foldl_nil, set_same hi]
    exact h.tick
  | false =>
    rw [if_neg (by simp)]
    refine h.noted hi hr hk ht ⟨tb, 2, lo, hi'⟩ lo hi' ls fun l hl => ?_
    obtain ⟨h1, h2⟩ := hls l hl
    refine ⟨?_, h1, h2⟩
    unfold hasP
    unfold withinB at h2
    simp only [h1, beq_self_eq_true, Bool.true_and]
    rw [if_neg (show ¬ (2 : Int) = 1 by decide), if_pos trivial]
    exact h2
/-- Write, told honestly of what commit the row is. -/
theorem Inv10.write (h : Inv10 c S vs rs now) {i : Nat} {r : Run10} (hi : rs[i]? = some r) (hr : r.over = false) (l : Lk) (last : Int) (hl0 : 0 ≤ last) (hlast : ∀ v ∈ vs, v.at_ = l → v.num ≤ last) :
    ((write10 c S r.tx l last).1 = 0 → Inv10 c (write10 c S r.tx l last).2 vs (rs.set i { r with writes := if hasLk r.writes l = true then r.writes else r.writes ++ [l] }) (now + 1)) ∧ ((write10 c S r.tx l last).1 ≠ 0 → Inv10 c (write10 c S r.tx l last).2 vs (rs.set i { r with over := true, ended := now }) (now + 1)) := by
  obtain ⟨k, t, hu, hk, ht, ht0, hsn⟩ := h.under hi hr
  have htx := h.tx i r hi
  have mine : ∀ l, (l, (i : Int) + 1) ∈ S.H ↔ l ∈ r.writes := fun l => by
    rw [h.hs]
    constructor
    · rintro ⟨j, q, e, hj, -, hl⟩
      have : j = i := (num_inj e).symm
      subst this
      rw [hi] at hj; cases hj
      exact hl
    · intro hl; exact ⟨i, r, rfl, hi, hr, hl⟩
  unfold write10
  rw [hu]
  simp only
  rw [if_neg (by omega)]
  by_cases hh : holderP S.H l = some r.tx
  · rw [if_pos hh]
    refine ⟨fun _ => ?_, fun e => absurd rfl e⟩
    have hw : l ∈ r.writes := by
      have := (holder_some h.on).1 hh
      rw [htx] at this
      exact (mine l).1 this
    rw [if_pos (hasLk_is.2 hw), set_same hi]
    exact h.tick
  · rw [if_neg hh]
    have hnw : l ∉ r.writes := fun hw => hh ((holder_some h.on).2 (by rw [htx]; exact (mine l).2 hw))
    rw [snapP_at hk, hsn]
    have ho := h.on.take (most := c.locks) r.tx r.snap last l
    obtain ⟨q, hq⟩ : ∃ q, takeP c.locks S.H r.tx r.snap last l = q := ⟨_, rfl⟩
    rw [hq] at ho
    have spec : (q.1 ≠ 0 ∧ q.2 = S.H) ∨ (q.1 = 0 ∧ q.2 = S.H ++ [(l, r.tx)] ∧ last ≤ r.snap) := by
      rw [← hq]
      unfold takeP
      split
      · exact .inl ⟨by simp, rfl⟩
      · split
        · rename_i x hx
          split
          · rename_i e
            rw [e] at hx; exact absurd hx hh
          · exact .inl ⟨by simp, rfl⟩
        · split
          · exact .inl ⟨by simp, rfl⟩
          · split
            · exact .inl ⟨by simp, rfl⟩
            · exact .inr ⟨rfl, rfl, by omega⟩
    rw [hq]
    obtain ⟨a, H1⟩ := q
    simp only at ho spec ⊢
    have hL : Holds9 S.L S.L := Holds9.refl _
    have hf : ∀ n ∈ S.L, n.1 = (i : Int) + 1 ∨ ∃ m ∈ S.L, m.1 = n.1 := fun n hn => .inr ⟨n, hn, rfl⟩
    rcases spec with ⟨ha, rfl⟩ | ⟨rfl, rfl, hle⟩
    · rw [if_pos ha]
      exact ⟨fun e => absurd e ha, fun _ => h.abort hi hr hk ht h.on (fun _ _ _ => Iff.rfl) h.n9 hf hL (H1 := S.H) (L1 := S.L)⟩
    · have hH : ∀ l' x, x ≠ (i : Int) + 1 → ((l', x) ∈ S.H ++ [(l, r.tx)] ↔ (l', x) ∈ S.H) := fun l' x hx => by
        simp only [List.mem_append, List.mem_singleton, Prod.mk.injEq]
        refine ⟨fun h1 => ?_, .inl⟩
        rcases h1 with h1 | ⟨-, e⟩
        · exact h1
        · exact absurd (e.trans htx) hx
      rw [if_neg (by simp)]
      cases htk : takenP S.list k l with
      | true =>
        rw [if_pos rfl]
        exact ⟨fun e => (by cases e), fun _ => h.abort hi hr hk ht ho hH h.n9 hf hL (L1 := S.L)⟩
      | false =>
        rw [if_neg (by simp)]
        obtain ⟨oth, hoth⟩ : ∃ o, readersP { S with H := S.H ++ [(l, r.tx)] } k l = o := ⟨_, rfl⟩
        rw [hoth]
        unfold putP10
        simp only
        cases hb : badP (oth.foldl (flagP false k) S.list) k oth with
        | true =>
          simp only [if_true]
          exact ⟨fun e => (by cases e), fun _ => h.abort hi hr hk ht ho hH h.n9 hf hL (L1 := S.L)⟩
        | false =>
          have hnl : hasLk r.writes l = false := by
            cases e : hasLk r.writes l with
            | false => rfl
            | true => exact absurd (hasLk_is.1 e) hnw
          simp only [Bool.false_eq_true, if_false, not_true_eq_false, ne_eq, false_implies, and_true, true_implies, hnl]
          have := h.put hi hr hk ht (H1 := S.H ++ [(l, r.tx)]) (L1 := S.L) oth false r.reads (r.writes ++ [l]) ho hH (fun l' => ?_) h.n9 hf hL (fun p hp => ?_) (fun p hp => h.rd i r hi p hp) ?_ (fun v hv hw => ?_) hb (fun j q l' s hji hj hv hc hl hw => .inl ⟨s, hl⟩) (fun j q l' s hji hj hv hc hl hw => ?_)
          · exact this
          · simp only [List.mem_append, List.mem_singleton, Prod.mk.injEq, mine, htx, and_true]
          · obtain ⟨n, hn, e1, e2⟩ := h.nr t (List.mem_of_getElem? hk) i r hi ht p hp
            exact ⟨n, hn, e1.trans ht, e2⟩
          · rw [List.nodup_append]
            refine ⟨(h.la i r hi).2.2.2.2, by simp, fun a ha b hb2 e => ?_⟩
            rw [List.mem_singleton.1 hb2] at e
            exact hnw (e ▸ ha)
          · rcases List.mem_append.1 hw with hw | hw
            · exact h.fw i r hi hr v hv hw
            · have := hlast v hv (List.mem_singleton.1 hw)
              omega
          · rcases List.mem_append.1 hw with hw | hw
            · exact .inl hw
            · right
              refine ⟨rfl, ?_⟩
              rw [List.mem_singleton.1 hw] at hl
              obtain ⟨o, u, ho1, e, hcc, -⟩ := h.other hi hr hk ht hji hj hv (fun e => hc.1 e) (.inr fun e => by rw [e] at hl; cases hl)
              refine ⟨o, ?_, u, ho1, e⟩
              rw [← hoth]
              unfold readersP
              rw [List.mem_filter, List.mem_range]
              refine ⟨(List.getElem?_eq_some_iff.1 ho1).1, ?_⟩
              obtain ⟨n, hn, e1, e2⟩ := h.nr u (List.mem_of_getElem? ho1) j q hj e (l, s) hl
              simp only [hcc, Bool.true_and, decide_eq_true_eq, numP_at ho1]
              exact ((tx_is _ _).2 _).2 ⟨n, hn, e2, e1⟩
/-- Abort. -/
theorem Inv10.aborted (h : Inv10 c S vs rs now) {i : Nat} {r : Run10} (hi : rs[i]? = some r) (hr : r.over = false) :
    (abort10 S r.tx).1 = 0 ∧ Inv10 c (abort10 S r.tx).2 vs (rs.set i { r with over := true, ended := now }) (now + 1) := by
  obtain ⟨k, t, hu, hk, ht, -, -⟩ := h.under hi hr
  unfold abort10
  rw [hu]
  exact ⟨rfl, h.abort hi hr hk ht h.on (fun _ _ _ => Iff.rfl) h.n9 (fun n hn => .inr ⟨n, hn, rfl⟩) (Holds9.refl _) (H1 := S.H) (L1 := S.L)⟩
theorem two_live {l : List Tx10} {k o : Nat} {t u : Tx10} (hk : l[k]? = some t) (ho : l[o]? = some u) (hne : k ≠ o) (ht : t.ended = 0) (hu : u.ended = 0) : activeP l ≠ 1 := by
  have key : ∀ {l : List Tx10} {k o : Nat} {t u : Tx10}, k < o → l[k]? = some t → l[o]? = some u → t.ended = 0 → u.ended = 0 → 2 ≤ activeP l := by
    intro l
    induction l with
    | nil => intro k o t u _ h1; simp at h1
    | cons x l ih =>
      intro k o t u hlt h1 h2 h3 h4
      cases o with
      | zero => omega
      | succ o =>
        have h2' : l[o]? = some u := by simpa using h2
        cases k with
        | zero =>
          have hx : x = t := by simpa using h1
          subst hx
          have : 1 ≤ (l.filter liveT).length := List.length_pos_of_mem (List.mem_filter.2 ⟨List.mem_of_getElem? h2', by simp [liveT, h4]⟩)
          unfold activeP
          rw [List.filter_cons_of_pos (by simp [liveT, h3]), List.length_cons]
          omega
        | succ k =>
          have := ih (k := k) (o := o) (by omega) (by simpa using h1) h2' h3 h4
          unfold activeP at *
          have h5 := List.length_filter_le liveT l
          by_cases hx : liveT x = true
          · rw [List.filter_cons_of_pos hx, List.length_cons]; omega
          · rw [List.filter_cons_of_neg hx]; exact this
  rcases Nat.lt_or_gt_of_ne hne with h1 | h1
  · have := key h1 hk ho ht hu; omega
  · have := key h1 ho hk hu ht; omega
/-- What Commit's answer makes of the versions. -/
def layP (vs : List Ver10) (num i : Int) (ws : List Lk) : List Ver10 := ws.foldl (layV · num i ·) vs
/-- Commit. -/
theorem Inv10.committed (h : Inv10 c S vs rs now) {i : Nat} {r : Run10} (hi : rs[i]? = some r) (hr : r.over = false) :
    ((commit10 c S r.tx).1.2 = 0 → (commit10 c S r.tx).1.1 = (if r.writes = [] then S.last else S.last + 1) ∧ (commit10 c S r.tx).2.last = (commit10 c S r.tx).1.1 ∧
      Inv10 c (commit10 c S r.tx).2 (layP vs (commit10 c S r.tx).1.1 (i : Int) r.writes) (rs.set i { r with over := true, com := true, ended := now }) (now + 1)) ∧
    ((commit10 c S r.tx).1.2 ≠ 0 → Inv10 c (commit10 c S r.tx).2 vs (rs.set i { r with over := true, ended := now }) (now + 1)) := by
  obtain ⟨k, t, hu, hk, ht, ht0, -⟩ := h.under hi hr
  have htx := h.tx i r hi
  have ab := h.abort hi hr hk ht h.on (fun _ _ _ => Iff.rfl) h.n9 (fun n hn => .inr ⟨n, hn, rfl⟩) (Holds9.refl _) (H1 := S.H) (L1 := S.L)
  have hwr : ∀ l, l ∈ heldP S.H r.tx ↔ l ∈ r.writes := fun l => by
    rw [(held_is h.on r.tx).2, htx, h.hs]
    constructor
    · rintro ⟨j, q, e, hj, -, hl⟩
      have : j = i := (num_inj e).symm
      subst this
      rw [hi] at hj; cases hj
      exact hl
    · intro hl; exact ⟨i, r, rfl, hi, hr, hl⟩
  have hwn : heldP S.H r.tx = [] ↔ r.writes = [] := by
    constructor
    · intro e
      cases hw : r.writes with
      | nil => rfl
      | cons l ls => have := (hwr l).2 (by rw [hw]; exact List.mem_cons_self ..); rw [e] at this; cases this
    · intro e
      cases hw : heldP S.H r.tx with
      | nil => rfl
      | cons l ls => have := (hwr l).1 (by rw [hw]; exact List.mem_cons_self ..); rw [e] at this; cases this
  unfold commit10
  rw [hu]
  simp only
  cases hb : bothP S.list k with
  | true =>
    rw [if_pos rfl]
    exact ⟨fun e => (by cases e), fun _ => ab⟩
  | false =>
    rw [if_neg (by simp)]
    obtain ⟨wr, hw⟩ : ∃ w, heldP S.H r.tx = w := ⟨_, rfl⟩
    rw [hw] at hwr hwn ⊢
    obtain ⟨mat, hmat⟩ : ∃ m, (decide (wr ≠ []) || decide (ofP S.L r.tx ≠ [])) = m := ⟨_, rfl⟩
    rw [hmat]
    split
    · exact ⟨fun e => (by cases e), fun _ => ab⟩
    · refine ⟨fun _ => ⟨by simp only [ne_eq, ite_not, hwn], ?_, ?_⟩, fun e => absurd rfl e⟩
      · have hsw : ∀ X : St10, (sweepP X).last = X.last := fun _ => rfl
        simp only
        rw [hsw]
        by_cases hc : activeP S.list = 1 ∨ mat = false
        · rw [if_pos hc]
        · rw [if_neg hc]
      · obtain ⟨keep, hkeep⟩ : ∃ b : Bool, b = !(decide (activeP S.list = 1) || !mat) := ⟨_, rfl⟩
        obtain ⟨last, hlast⟩ : ∃ x : Int, (if wr ≠ [] then S.last + 1 else S.last) = x := ⟨_, rfl⟩
        rw [hlast]
        have hl2 : last = if r.writes = [] then S.last else S.last + 1 := by rw [← hlast]; simp only [ne_eq, ite_not, hwn]
        have hlc := h.lc
        have hlay : LayIs vs (layP vs last (i : Int) r.writes) last (i : Int) r.writes := by
          by_cases hwe : r.writes = []
          · rw [hwe]
            exact ⟨Nat.le_refl _, fun k v hv => ⟨v, hv, rfl, rfl, rfl⟩, fun k u hu hk => by have := (List.getElem?_eq_some_iff.1 hu).1; unfold layP at this; simp at this; omega, fun l hl => absurd hl (by simp), h.vn, h.vi⟩
          · rw [if_neg hwe] at hl2
            have := lay_all (vs := vs) (N := last) (i := (i : Int)) (fun v hv => by
              obtain ⟨j, q, -, -, -, -, h5, -⟩ := h.ve v hv
              omega) r.writes [] vs (by simpa using (h.la i r hi).2.2.2.2) ⟨Nat.le_refl _, fun k v hv => ⟨v, hv, rfl, rfl, rfl⟩, fun k u hu hk => by have := (List.getElem?_eq_some_iff.1 hu).1; omega, fun l hl => (by cases hl), h.vn, h.vi⟩
            rw [List.nil_append] at this
            exact this
        have := h.commit hi hr hk ht wr hwr keep last hl2 (fun a ra hai ha hov hne => ?_) (fun hbo => ?_) hlay (fun e => by rw [e]; rfl)
        · have hS : comS S k t wr keep last = sweepP (if activeP S.list = 1 ∨ mat = false then { S with last := last, mom := S.mom + 1, H := releaseP S.H r.tx, list := (S.list.modify k fun t => { t with ended := S.mom + 1, wrote := wr }).eraseIdx k, L := dropN S.L r.tx } else { S with last := last, mom := S.mom + 1, H := releaseP S.H r.tx, list := S.list.modify k fun t => { t with ended := S.mom + 1, wrote := wr } }) := by
            unfold comS
            rw [ht, ← htx]
            by_cases hc : activeP S.list = 1 ∨ mat = false
            · have : keep = false := by rw [hkeep]; rcases hc with hc | hc <;> simp [hc]
              rw [this, if_neg (by simp), if_pos hc]
            · have : keep = true := by
                rw [hkeep]
                simp only [not_or] at hc
                simp [hc.1, hc.2]
              rw [this, if_pos rfl, if_neg hc]
          rw [hS] at this
          exact this
        · obtain ⟨u, hu2, eu, eu0⟩ := h.al a ra ha hov
          obtain ⟨o, ho⟩ := List.mem_iff_getElem?.1 hu2
          have hko : k ≠ o := fun e => by
            subst e
            rw [hk] at ho; cases ho
            exact hai (num_inj (eu.symm.trans ht))
          have h1 := two_live hk ho hko ht0 eu0
          have h2 : mat = true := by
            rw [← hmat]
            rcases hne with hne | hne
            · have : wr ≠ [] := fun e => hne (hwn.1 e)
              simp [this]
            · cases hrd : r.reads with
              | nil => exact absurd hrd hne
              | cons p ps =>
                obtain ⟨n, hn, e1, -⟩ := h.nr t (List.mem_of_getElem? hk) i r hi ht p (by rw [hrd]; exact List.mem_cons_self ..)
                have h3 : n.2 ∈ ofP S.L r.tx := ((of_is h.n9.ln r.tx).2 n.2).2 (by
                  have : n = (r.tx, n.2) := Prod.ext (by rw [e1, ht, htx]) rfl
                  rw [← this]; exact hn)
                have h4 : ofP S.L r.tx ≠ [] := fun e => by rw [e] at h3; cases h3
                simp [h4]
          rw [hkeep, h2]
          simp [h1]
        · unfold bothP at hb
          rw [hk] at hb
          simp only [Option.elim_some, hbo.1, hbo.2] at hb
          cases hb
/-- Begin. -/
theorem Inv10.began (h : Inv10 c S vs rs now) (hnow : 0 ≤ now) :
    ((begin10 c S).1.2.2 = 0 → (begin10 c S).1.2.1 = S.last ∧ (begin10 c S).2.last = S.last ∧ Inv10 c (begin10 c S).2 vs (rs ++ [⟨(begin10 c S).1.1, (begin10 c S).1.2.1, now, 0, false, false, [], []⟩]) (now + 1)) ∧ ((begin10 c S).1.2.2 ≠ 0 → (begin10 c S).2 = S) := by
  unfold begin10
  split
  · exact ⟨fun e => (by cases e), fun _ => rfl⟩
  · exact ⟨fun _ => ⟨rfl, rfl, h.begin hnow⟩, fun e => absurd rfl e⟩
theorem Inv10.new (c : Cp10) (hc : 1 ≤ c.reads) : Inv10 c (new10 0) [] [] 0 := by
  refine { nx := rfl, tx := fun i r hi => by simp at hi, nd := List.nodup_nil, tr := fun t ht => (by cases ht), al := fun i r hi => by simp at hi, mo := fun t ht => (by cases ht), mm := Int.le_refl _, on := Once.nil, hs := fun l x => ⟨fun h => (by cases h), fun ⟨i, r, _, hi, _⟩ => by simp at hi⟩, n9 := Inv9.nil _, no := fun n hn => (by cases hn), nr := fun t ht => (by cases ht), kp := fun i j r q hi => by simp at hi, la := fun i r hi => by simp at hi, ne := fun i j r q hi => by simp at hi, lc := ⟨Int.le_refl _, Int.le_refl _⟩, ve := fun v hv => (by cases hv), vw := fun j q hq => by simp at hq, vi := fun k m v u hv => by simp at hv, vn := fun k v hv => by simp at hv, fw := fun i r hi => by simp at hi, ww := fun k m v u hv => by simp at hv, rd := fun i r hi => by simp at hi, fl := ⟨fun _ => false, fun _ => false, fun t ht => (by cases ht), fun i r hi => by simp at hi, fun i j r q l s _ hi => by simp at hi⟩ }
/-- Of two that have committed and written one row, one had ended when the other one began. -/
theorem Inv10.first (h : Inv10 c S vs rs now) {a b : Nat} {ra rb : Run10} (ha : rs[a]? = some ra) (hb : rs[b]? = some rb) (hab : a ≠ b) (ca : ra.com = true) (cb : rb.com = true) {l : Lk} (la : l ∈ ra.writes) (lb : l ∈ rb.writes) : ra.ended < rb.begun ∨ rb.ended < ra.begun := by
  obtain ⟨v, hv, e1, e2⟩ := h.vw a ra ha ca l la
  obtain ⟨u, hu, e3, e4⟩ := h.vw b rb hb cb l lb
  obtain ⟨k, hk⟩ := List.mem_iff_getElem?.1 hv
  obtain ⟨m, hm⟩ := List.mem_iff_getElem?.1 hu
  have iff_ : ∀ {v : Ver10} {j : Nat} {q : Run10}, v ∈ vs → v.by_ = (j : Int) → rs[j]? = some q → ∀ (i : Nat) r, rs[i]? = some r → (v.num ≤ r.snap ↔ q.ended < r.begun) := fun {v j q} hv e hj => by
    obtain ⟨j2, q2, h1, h2, -, -, -, -, h7⟩ := h.ve v hv
    have : j = j2 := by omega
    subst this
    rw [hj] at h2; cases h2
    exact h7
  rcases Nat.lt_trichotomy k m with hlt | rfl | hlt
  · exact .inl ((iff_ hv e2 ha b rb hb).1 (h.ww k m v u hk hm hlt (e1.trans e3.symm) b rb e4 hb))
  · rw [hk] at hm; cases hm
    exact absurd (by omega) hab
  · exact .inr ((iff_ hu e4 hb a ra ha).1 (h.ww m k u v hm hk hlt (e3.trans e1.symm) a ra e2 ha))
end
end Go.Proofs.YtknppiebncdjmaaGreat
