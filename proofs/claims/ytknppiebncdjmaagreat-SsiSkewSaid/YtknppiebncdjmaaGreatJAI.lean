import Derived.Test.YtknppiebncdjmaaGreatJAH
set_option linter.unusedVariables false
namespace Go.Proofs.YtknppiebncdjmaaGreat
set_option maxRecDepth 100000

structure Run10 where
  tx : Int
  snap : Int
  begun : Int
  ended : Int
  com : Bool
  over : Bool
  reads : List (Lk × Int)
  writes : List Lk
structure Ver10 where
  at_ : Lk
  num : Int
  by_ : Int
  next : Int
def okV (l : Lk) (up : Int) (v : Ver10) : Bool := lkEq v.at_ l && decide (v.num ≤ up)
theorem okV_is {l : Lk} {up : Int} {v : Ver10} : okV l up v = true ↔ v.at_ = l ∧ v.num ≤ up := by
  unfold okV
  rw [lkEq_is]
  simp
def newGo : List Ver10 → Nat → Lk → Int → Int → Int
  | [], _, _, _, b => b
  | v :: vs, i, l, up, b => newGo vs (i + 1) l up (if okV l up v then (i : Int) else b)
def newestP (vs : List Ver10) (l : Lk) (up : Int) : Int := newGo vs 0 l up (-1)
theorem newGo_is : ∀ (vs : List Ver10) (i : Nat) (l : Lk) (up b : Int),
    (newGo vs i l up b = b ∧ ∀ (k : Nat) (v : Ver10), vs[k]? = some v → okV l up v = false) ∨ ∃ (k : Nat) (v : Ver10), newGo vs i l up b = ((i + k : Nat) : Int) ∧ vs[k]? = some v ∧ okV l up v = true ∧ ∀ (k' : Nat) (v' : Ver10), vs[k']? = some v' → okV l up v' = true → k' ≤ k
  | [], i, l, up, b => .inl ⟨rfl, fun k v h => by simp at h⟩
  | v :: vs, i, l, up, b => by
    unfold newGo
    rcases newGo_is vs (i + 1) l up (if okV l up v then (i : Int) else b) with ⟨h1, h2⟩ | ⟨k, u, h1, h2, h3, h4⟩
    · cases hv : okV l up v with
      | true =>
        rw [hv] at h1
        refine .inr ⟨0, v, by rw [if_pos rfl] at h1 ⊢; rw [h1]; simp, rfl, hv, fun k' v' hk' ho => ?_⟩
        cases k' with
        | zero => exact Nat.le_refl _
        | succ k' => rw [h2 k' v' (by simpa using hk')] at ho; cases ho
      | false =>
        rw [hv] at h1
        refine .inl ⟨by simpa using h1, fun k' v' hk' => ?_⟩
        cases k' with
        | zero => cases hk'; exact hv
        | succ k' => exact h2 k' v' (by simpa using hk')
    · refine .inr ⟨k + 1, u, by rw [h1]; congr 1; omega, by simpa using h2, h3, fun k' v' hk' ho => ?_⟩
      cases k' with
      | zero => omega
      | succ k' => have := h4 k' v' (by simpa using hk') ho; omega
theorem newest_is (vs : List Ver10) (l : Lk) (up : Int) :
    (newestP vs l up = -1 ∧ ∀ (k : Nat) (v : Ver10), vs[k]? = some v → ¬ (v.at_ = l ∧ v.num ≤ up)) ∨ ∃ (k : Nat) (v : Ver10), newestP vs l up = (k : Int) ∧ vs[k]? = some v ∧ (v.at_ = l ∧ v.num ≤ up) ∧ ∀ (k' : Nat) (v' : Ver10), vs[k']? = some v' → v'.at_ = l ∧ v'.num ≤ up → k' ≤ k := by
  unfold newestP
  rcases newGo_is vs 0 l up (-1) with ⟨h1, h2⟩ | ⟨k, u, h1, h2, h3, h4⟩
  · exact .inl ⟨h1, fun k v hk ho => by have := h2 k v hk; rw [okV_is.2 ho] at this; cases this⟩
  · exact .inr ⟨k, u, by rw [h1]; congr 1; omega, h2, okV_is.1 h3, fun k' v' hk' ho => h4 k' v' hk' (okV_is.2 ho)⟩
theorem newest_unique {vs : List Ver10} {l : Lk} {up : Int} {k : Nat} {v : Ver10} (h1 : vs[k]? = some v) (h2 : v.at_ = l ∧ v.num ≤ up) (h3 : ∀ (k' : Nat) (v' : Ver10), vs[k']? = some v' → v'.at_ = l ∧ v'.num ≤ up → k' ≤ k) : newestP vs l up = (k : Int) := by
  rcases newest_is vs l up with ⟨h4, h5⟩ | ⟨k2, v2, h4, h5, h6, h7⟩
  · exact absurd h2 (h5 k v h1)
  · have := h3 k2 v2 h5 h6
    have := h7 k v h1 h2
    rw [h4]; congr 1; omega
theorem newest_none {vs : List Ver10} {l : Lk} {up : Int} (h : ∀ v ∈ vs, ¬ (v.at_ = l ∧ v.num ≤ up)) : newestP vs l up = -1 := by
  rcases newest_is vs l up with ⟨h4, h5⟩ | ⟨k2, v2, h4, h5, h6, h7⟩
  · exact h4
  · exact absurd h6 (h v2 (List.mem_of_getElem? h5))
def firstP (vs : List Ver10) (l : Lk) : Int := ((vs.findIdx? fun v => lkEq v.at_ l).map fun k : Nat => (k : Int)).getD (-1)
theorem first_is (vs : List Ver10) (l : Lk) : (firstP vs l = -1 ∧ ∀ v ∈ vs, v.at_ ≠ l) ∨ ∃ (k : Nat) (v : Ver10), firstP vs l = (k : Int) ∧ vs[k]? = some v ∧ v.at_ = l := by
  unfold firstP
  cases h : vs.findIdx? fun v => lkEq v.at_ l with
  | none =>
    refine .inl ⟨rfl, fun v hv e => ?_⟩
    have := (List.findIdx?_eq_none_iff.1 h) v hv
    rw [lkEq_is] at this
    simp [e] at this
  | some k =>
    obtain ⟨hk, h1, -⟩ := List.findIdx?_eq_some_iff_getElem.1 h
    refine .inr ⟨k, vs[k], rfl, List.getElem?_eq_getElem hk, ?_⟩
    rw [lkEq_is] at h1
    simpa using h1
def hasLk (ls : List Lk) (l : Lk) : Bool := ls.any fun x => lkEq x l
theorem hasLk_is {ls : List Lk} {l : Lk} : hasLk ls l = true ↔ l ∈ ls := by
  unfold hasLk
  rw [List.any_eq_true]
  constructor
  · rintro ⟨x, hx, e⟩
    rw [lkEq_is] at e
    have : x = l := by simpa using e
    rw [← this]; exact hx
  · intro h; exact ⟨l, h, by rw [lkEq_is]; simp⟩
def seesP (vs : List Ver10) (r : Run10) (l : Lk) : Run10 := if hasLk r.writes l = true then r else { r with reads := r.reads ++ [(l, newestP vs l r.snap)] }
def layV (vs : List Ver10) (num by_ : Int) (l : Lk) : List Ver10 :=
  (if 0 ≤ newestP vs l num then vs.modify (newestP vs l num).toNat fun v => { v with next := (vs.length : Int) } else vs) ++ [⟨l, num, by_, -1⟩]
theorem sees_fields (vs : List Ver10) (ls : List Lk) (r : Run10) : (ls.foldl (seesP vs) r).tx = r.tx ∧ (ls.foldl (seesP vs) r).snap = r.snap ∧ (ls.foldl (seesP vs) r).begun = r.begun ∧ (ls.foldl (seesP vs) r).ended = r.ended ∧ (ls.foldl (seesP vs) r).com = r.com ∧ (ls.foldl (seesP vs) r).over = r.over ∧ (ls.foldl (seesP vs) r).writes = r.writes ∧
    ∀ p, p ∈ (ls.foldl (seesP vs) r).reads ↔ p ∈ r.reads ∨ (p.1 ∈ ls ∧ p.1 ∉ r.writes ∧ p.2 = newestP vs p.1 r.snap) := by
  induction ls generalizing r with
  | nil => simp
  | cons l ls ih =>
    obtain ⟨h1, h2, h3, h4, h5, h6, h7, h8⟩ := ih (seesP vs r l)
    rw [List.foldl_cons]
    have hf : (seesP vs r l).tx = r.tx ∧ (seesP vs r l).snap = r.snap ∧ (seesP vs r l).begun = r.begun ∧ (seesP vs r l).ended = r.ended ∧ (seesP vs r l).com = r.com ∧ (seesP vs r l).over = r.over ∧ (seesP vs r l).writes = r.writes := by
      unfold seesP; split <;> exact ⟨rfl, rfl, rfl, rfl, rfl, rfl, rfl⟩
    obtain ⟨f1, f2, f3, f4, f5, f6, f7⟩ := hf
    refine ⟨h1.trans f1, h2.trans f2, h3.trans f3, h4.trans f4, h5.trans f5, h6.trans f6, h7.trans f7, fun p => ?_⟩
    rw [h8, f2, f7]
    have hr : p ∈ (seesP vs r l).reads ↔ p ∈ r.reads ∨ (l ∉ r.writes ∧ p = (l, newestP vs l r.snap)) := by
      unfold seesP
      split
      · rename_i hl; rw [hasLk_is] at hl; simp [hl]
      · rename_i hl; rw [hasLk_is] at hl; simp [hl]
    rw [hr]
    obtain ⟨pl, ps⟩ := p
    simp only [Prod.mk.injEq, List.mem_cons]
    constructor
    · rintro ((h | ⟨h9, rfl, rfl⟩) | ⟨h9, h10, h11⟩)
      · exact .inl h
      · exact .inr ⟨.inl rfl, h9, rfl⟩
      · exact .inr ⟨.inr h9, h10, h11⟩
    · rintro (h | ⟨rfl | h9, h10, h11⟩)
      · exact .inl (.inl h)
      · exact .inl (.inr ⟨h10, rfl, h11⟩)
      · exact .inr ⟨h9, h10, h11⟩
end Go.Proofs.YtknppiebncdjmaaGreat

namespace Go.Proofs.YtknppiebncdjmaaGreat
set_option maxRecDepth 100000

def Conc10 (r q : Run10) : Prop := (r.over = true → q.begun < r.ended) ∧ (q.over = true → r.begun < q.ended)
def Val10 (r : Run10) : Prop := r.over = false ∨ r.com = true
structure Inv10 (c : Cp10) (S : St10) (vs : List Ver10) (rs : List Run10) (now : Int) : Prop where
  nx : S.next = (rs.length : Int)
  tx : ∀ (i : Nat) r, rs[i]? = some r → r.tx = (i : Int) + 1
  nd : (S.list.map (·.num)).Nodup
  tr : ∀ t ∈ S.list, ∃ (i : Nat) (r : Run10), rs[i]? = some r ∧ t.num = (i : Int) + 1 ∧ t.snap = r.snap ∧ 0 ≤ t.ended ∧ t.begun ≤ S.mom ∧ t.ended ≤ S.mom ∧ (t.ended = 0 → r.over = false ∧ t.wrote = []) ∧ (t.ended ≠ 0 → r.com = true ∧ ∀ l, l ∈ t.wrote ↔ l ∈ r.writes)
  al : ∀ (i : Nat) r, rs[i]? = some r → r.over = false → ∃ t ∈ S.list, t.num = (i : Int) + 1 ∧ t.ended = 0
  mo : ∀ t ∈ S.list, ∀ u ∈ S.list, ∀ (i j : Nat) r q, rs[i]? = some r → rs[j]? = some q → t.num = (i : Int) + 1 → u.num = (j : Int) + 1 → t.ended ≠ 0 → (u.begun < t.ended ↔ q.begun < r.ended)
  mm : 0 ≤ S.mom
  on : Once S.H
  hs : ∀ l x, (l, x) ∈ S.H ↔ ∃ (i : Nat) (r : Run10), x = (i : Int) + 1 ∧ rs[i]? = some r ∧ r.over = false ∧ l ∈ r.writes
  n9 : Inv9 c.reads S.L
  no : ∀ n ∈ S.L, ∃ t ∈ S.list, t.num = n.1
  nr : ∀ t ∈ S.list, ∀ (i : Nat) r, rs[i]? = some r → t.num = (i : Int) + 1 → ∀ p ∈ r.reads, ∃ n ∈ S.L, n.1 = t.num ∧ hasP n.2 p.1.1 p.1.2 = true
  kp : ∀ (i j : Nat) r q, rs[i]? = some r → rs[j]? = some q → r.over = false → q.com = true → r.begun < q.ended → (q.writes ≠ [] ∨ q.reads ≠ []) → ∃ t ∈ S.list, t.num = (j : Int) + 1
  la : ∀ (i : Nat) r, rs[i]? = some r → r.begun < now ∧ (r.over = true → r.begun < r.ended ∧ r.ended < now) ∧ (r.com = true → r.over = true) ∧ r.snap ≤ S.last ∧ r.writes.Nodup
  ne : ∀ (i j : Nat) r q, rs[i]? = some r → rs[j]? = some q → q.over = true → r.begun ≠ q.ended
  lc : 0 ≤ S.last ∧ S.last ≤ now
  ve : ∀ v ∈ vs, ∃ (j : Nat) (q : Run10), v.by_ = (j : Int) ∧ rs[j]? = some q ∧ q.com = true ∧ v.at_ ∈ q.writes ∧ v.num ≤ S.last ∧ 0 ≤ v.num ∧ ∀ (i : Nat) r, rs[i]? = some r → (v.num ≤ r.snap ↔ q.ended < r.begun)
  vw : ∀ (j : Nat) q, rs[j]? = some q → q.com = true → ∀ l ∈ q.writes, ∃ v ∈ vs, v.at_ = l ∧ v.by_ = (j : Int)
  vi : ∀ (k m : Nat) v u, vs[k]? = some v → vs[m]? = some u → k < m → v.at_ = u.at_ → v.num < u.num
  vn : ∀ (k : Nat) v, vs[k]? = some v → (v.next = -1 ∧ ∀ (m : Nat) u, k < m → vs[m]? = some u → u.at_ ≠ v.at_) ∨ ∃ (m : Nat) (u : Ver10), v.next = (m : Int) ∧ k < m ∧ vs[m]? = some u ∧ u.at_ = v.at_
  fw : ∀ (i : Nat) r, rs[i]? = some r → r.over = false → ∀ v ∈ vs, v.at_ ∈ r.writes → v.num ≤ r.snap
  ww : ∀ (k m : Nat) v u, vs[k]? = some v → vs[m]? = some u → k < m → v.at_ = u.at_ → ∀ (j : Nat) q, u.by_ = (j : Int) → rs[j]? = some q → v.num ≤ q.snap
  rd : ∀ (i : Nat) r, rs[i]? = some r → ∀ p ∈ r.reads, p.2 = newestP vs p.1 r.snap
  fl : ∃ gi go : Nat → Bool, (∀ t ∈ S.list, ∀ i : Nat, t.num = (i : Int) + 1 → t.fin = gi i ∧ t.fout = go i) ∧ (∀ (i : Nat) r, rs[i]? = some r → r.com = true → ¬ (gi i = true ∧ go i = true)) ∧
    (∀ (i j : Nat) r q l s, i ≠ j → rs[i]? = some r → rs[j]? = some q → Val10 r → Val10 q → Conc10 r q → (l, s) ∈ r.reads → l ∈ q.writes → go i = true ∧ gi j = true)
theorem set_get {rs : List Run10} {i j : Nat} {r' q : Run10} (h : (rs.set i r')[j]? = some q) : (j = i ∧ q = r') ∨ (j ≠ i ∧ rs[j]? = some q) := by
  rw [List.getElem?_set] at h
  by_cases e : i = j
  · rw [if_pos e] at h
    split at h
    · cases h; exact .inl ⟨e.symm, rfl⟩
    · cases h
  · rw [if_neg e] at h
    exact .inr ⟨fun e2 => e e2.symm, h⟩
theorem set_self {rs : List Run10} {i : Nat} {r r' : Run10} (h : rs[i]? = some r) : (rs.set i r')[i]? = some r' := by
  rw [List.getElem?_set, if_pos rfl, if_pos (List.getElem?_eq_some_iff.1 h).1]
theorem set_other {rs : List Run10} {i j : Nat} {r' : Run10} (h : j ≠ i) : (rs.set i r')[j]? = rs[j]? := by
  rw [List.getElem?_set, if_neg fun e => h e.symm]
theorem num_inj {i j : Nat} (h : (i : Int) + 1 = (j : Int) + 1) : i = j := by omega
section
variable {c : Cp10} {S : St10} {vs : List Ver10} {rs : List Run10} {now : Int}
theorem Inv10.pos (h : Inv10 c S vs rs now) : ∀ t ∈ S.list, 1 ≤ t.num := fun t ht => by
  obtain ⟨i, r, -, e, -⟩ := h.tr t ht
  omega
theorem Inv10.tick (h : Inv10 c S vs rs now) : Inv10 c S vs rs (now + 1) :=
  { h with la := fun i r hi => by obtain ⟨h1, h2, h3⟩ := h.la i r hi; exact ⟨by omega, fun ho => ⟨(h2 ho).1, by have := (h2 ho).2; omega⟩, h3⟩, lc := by have := h.lc; omega }
theorem Inv10.abort (h : Inv10 c S vs rs now) {i k : Nat} {r : Run10} {t : Tx10} (hi : rs[i]? = some r) (hr : r.over = false) (hk : S.list[k]? = some t) (ht : t.num = (i : Int) + 1) {H1 : List Hd} {L1 : List Nt}
    (ho : Once H1) (hH : ∀ l x, x ≠ (i : Int) + 1 → ((l, x) ∈ H1 ↔ (l, x) ∈ S.H)) (hL : Inv9 c.reads L1) (hf : ∀ n ∈ L1, n.1 = (i : Int) + 1 ∨ ∃ m ∈ S.L, m.1 = n.1) (hh : Holds9 S.L L1) :
    Inv10 c (abortP { S with H := H1, L := L1 } k) vs (rs.set i { r with over := true, ended := now }) (now + 1) := by
  have hs1 : ∀ t ∈ ({ S with H := H1, L := L1 } : St10).list, 1 ≤ t.num := h.pos
  have A := abort_is hs1 h.nd (S := { S with H := H1, L := L1 }) hk
  obtain ⟨S', hS'⟩ : ∃ S', abortP { S with H := H1, L := L1 } k = S' := ⟨_, rfl⟩
  rw [hS'] at A ⊢
  have Am := A.mem
  have AH := A.H
  have AL := A.L
  simp only at Am AH AL
  rw [ht] at Am AH AL
  have hrc : r.com = false := by
    cases e : r.com with
    | false => rfl
    | true => have := (h.la i r hi).2.2.1 e; rw [hr] at this; cases this
  have old : ∀ {j : Nat} {q : Run10}, (rs.set i { r with over := true, ended := now })[j]? = some q → (j = i ∧ q = { r with over := true, ended := now }) ∨ (j ≠ i ∧ rs[j]? = some q) := fun hq => set_get hq
  have alive : ∀ {j : Nat} {q : Run10}, (rs.set i { r with over := true, ended := now })[j]? = some q → q.over = false → j ≠ i ∧ rs[j]? = some q := fun hq ho => by
    rcases old hq with ⟨-, rfl⟩ | h1
    · cases ho
    · exact h1
  have coms : ∀ {j : Nat} {q : Run10}, (rs.set i { r with over := true, ended := now })[j]? = some q → q.com = true → j ≠ i ∧ rs[j]? = some q := fun hq ho => by
    rcases old hq with ⟨-, rfl⟩ | h1
    · simp only at ho; rw [hrc] at ho; cases ho
    · exact h1
  -- every run as it was: begun, snap, reads, writes
  have same : ∀ {j : Nat} {q : Run10}, (rs.set i { r with over := true, ended := now })[j]? = some q → ∃ q0, rs[j]? = some q0 ∧ q.tx = q0.tx ∧ q.snap = q0.snap ∧ q.begun = q0.begun ∧ q.reads = q0.reads ∧ q.writes = q0.writes := fun {j q} hq => by
    rcases old hq with ⟨rfl, rfl⟩ | ⟨-, h1⟩
    · exact ⟨r, hi, rfl, rfl, rfl, rfl, rfl⟩
    · exact ⟨q, h1, rfl, rfl, rfl, rfl, rfl⟩
  refine { nx := ?_, tx := ?_, nd := ?_, tr := ?_, al := ?_, mo := ?_, mm := ?_, on := ?_, hs := ?_, n9 := ?_, no := ?_, nr := ?_, kp := ?_, la := ?_, ne := ?_, lc := ?_, ve := ?_, vw := fun j q hq hc => h.vw j q (coms hq hc).2 hc, vi := h.vi, vn := h.vn, fw := ?_, ww := ?_, rd := ?_, fl := ?_ }
  · rw [A.next, List.length_set]; exact h.nx
  · intro j q hq
    obtain ⟨q0, h1, h2, -⟩ := same hq
    rw [h2]; exact h.tx j q0 h1
  · exact List.Nodup.sublist (A.sub.map _) h.nd
  · intro u hu
    obtain ⟨h1, h2, -⟩ := (Am u).1 hu
    obtain ⟨j, q, hj, e, h3⟩ := h.tr u h1
    have hji : j ≠ i := fun e2 => h2 (by rw [e, e2])
    refine ⟨j, q, by rw [set_other hji]; exact hj, e, ?_⟩
    rw [A.mom]; exact h3
  · intro j q hq ho
    obtain ⟨hji, hj⟩ := alive hq ho
    obtain ⟨u, hu, e, e0⟩ := h.al j q hj ho
    exact ⟨u, (Am u).2 ⟨hu, fun e2 => hji (num_inj (e.symm.trans e2)), .inl e0⟩, e, e0⟩
  · intro u hu v hv a b ra rb ha hb ea eb e0
    obtain ⟨h1, h2, -⟩ := (Am u).1 hu
    obtain ⟨h3, h4, -⟩ := (Am v).1 hv
    have hai : a ≠ i := fun e2 => h2 (by rw [ea, e2])
    have hbi : b ≠ i := fun e2 => h4 (by rw [eb, e2])
    rw [set_other hai] at ha
    rw [set_other hbi] at hb
    exact h.mo u h1 v h3 a b ra rb ha hb ea eb e0
  · rw [A.mom]; exact h.mm
  · exact A.once ho
  · intro l x
    rw [AH]
    constructor
    · rintro ⟨h1, h2⟩
      obtain ⟨j, q, e, hj, h3⟩ := (h.hs l x).1 ((hH l x h2).1 h1)
      exact ⟨j, q, e, by rw [set_other fun e2 => h2 (by rw [e, e2])]; exact hj, h3⟩
    · rintro ⟨j, q, e, hq, h3, h4⟩
      obtain ⟨hji, hj⟩ := alive hq h3
      have hx : x ≠ (i : Int) + 1 := fun e2 => hji (num_inj (e.symm.trans e2))
      exact ⟨(hH l x hx).2 ((h.hs l x).2 ⟨j, q, e, hj, h3, h4⟩), hx⟩
  · exact A.keep _ hL
  · intro n hn
    obtain ⟨h1, h2, h3⟩ := (AL n).1 hn
    rcases hf n h1 with e | ⟨m, hm, e⟩
    · exact absurd e h2
    · obtain ⟨u, hu, e2⟩ := h.no m hm
      have hne : u.num ≠ (i : Int) + 1 := fun e3 => h2 (by rw [← e, ← e2, e3])
      refine ⟨u, ?_, e2.trans e⟩
      refine Classical.byContradiction fun hnu => ?_
      exact h3 u hu hne hnu (by rw [e2, e])
  · intro u hu j q hq e p hp
    obtain ⟨h1, h2, h3⟩ := (Am u).1 hu
    have hji : j ≠ i := fun e2 => h2 (by rw [e, e2])
    rw [set_other hji] at hq
    obtain ⟨n, hn, e1, e2⟩ := h.nr u h1 j q hq e p hp
    obtain ⟨m, hm, e3, e4⟩ := hh n hn _ _ e2
    refine ⟨m, (AL m).2 ⟨hm, fun e5 => h2 (by rw [← e1, ← e3, e5]), fun v hv hv2 hv3 e5 => hv3 ?_⟩, e3.trans e1, e4⟩
    have : u = v := nums_inj h.nd h1 hv (by rw [← e1, ← e3, e5])
    rw [← this]; exact hu
  · intro a b ra rb ha hb h1 h2 h3 h4
    obtain ⟨hai, ha⟩ := alive ha h1
    obtain ⟨hbi, hb⟩ := coms hb h2
    obtain ⟨u, hu, e⟩ := h.kp a b ra rb ha hb h1 h2 h3 h4
    obtain ⟨v, hv, ev, e0⟩ := h.al a ra ha h1
    refine ⟨u, (Am u).2 ⟨hu, fun e2 => hbi (num_inj (e.symm.trans e2)), ?_⟩, e⟩
    by_cases hz : u.ended = 0
    · exact .inl hz
    · exact .inr ⟨v, hv, fun e2 => hai (num_inj (ev.symm.trans e2)), e0, (h.mo u hu v hv b a rb ra hb ha e ev hz).2 h3⟩
  · intro j q hq
    rcases old hq with ⟨rfl, rfl⟩ | ⟨-, hj⟩
    · obtain ⟨h1, -, -, h4, h5⟩ := h.la j r hi
      exact ⟨by simp only; omega, fun _ => ⟨h1, by simp only; omega⟩, fun _ => rfl, by rw [A.last]; exact h4, h5⟩
    · obtain ⟨h1, h2, h3, h4, h5⟩ := h.la j q hj
      exact ⟨by omega, fun ho => ⟨(h2 ho).1, by have := (h2 ho).2; omega⟩, h3, by rw [A.last]; exact h4, h5⟩
  · intro a b ra rb ha hb hov
    obtain ⟨q0, h1, -, -, h2, -⟩ := same ha
    rw [h2]
    rcases old hb with ⟨rfl, rfl⟩ | ⟨-, hb⟩
    · have := (h.la a q0 h1).1
      simp only; omega
    · exact h.ne a b q0 rb h1 hb hov
  · rw [A.last]; have := h.lc; simp only; omega
  · intro v hv
    obtain ⟨j, q, h1, h2, h3, h4, h5, h6, h7⟩ := h.ve v hv
    have hji : j ≠ i := fun e => by subst e; rw [hi] at h2; cases h2; rw [hrc] at h3; cases h3
    refine ⟨j, q, h1, by rw [set_other hji]; exact h2, h3, h4, by rw [A.last]; exact h5, h6, fun a ra ha => ?_⟩
    obtain ⟨q0, h8, -, h9, h10, -⟩ := same ha
    rw [h9, h10]; exact h7 a q0 h8
  · intro j q hq ho
    obtain ⟨-, hj⟩ := alive hq ho
    exact h.fw j q hj ho
  · intro k m v u hv hu hkm e j q hj hq
    obtain ⟨q0, h8, -, h9, -⟩ := same hq
    rw [h9]; exact h.ww k m v u hv hu hkm e j q0 hj h8
  · intro j q hq p hp
    obtain ⟨q0, h8, -, h9, -, h10, -⟩ := same hq
    rw [h9]; rw [h10] at hp; exact h.rd j q0 h8 p hp
  · obtain ⟨gi, go, f1, f2, f3⟩ := h.fl
    refine ⟨gi, go, fun u hu j e => f1 u ((Am u).1 hu).1 j e, fun j q hq hc => f2 j q (coms hq hc).2 hc, ?_⟩
    intro a b ra rb l s hab ha hb va vb hc hl hw
    have ha' : a ≠ i ∧ rs[a]? = some ra := by
      rcases va with va | va
      · exact alive ha va
      · exact coms ha va
    have hb' : b ≠ i ∧ rs[b]? = some rb := by
      rcases vb with vb | vb
      · exact alive hb vb
      · exact coms hb vb
    exact f3 a b ra rb l s hab ha'.2 hb'.2 va vb hc hl hw
theorem Inv10.begin (h : Inv10 c S vs rs now) (hnow : 0 ≤ now) :
    Inv10 c { S with next := S.next + 1, mom := S.mom + 1, list := S.list ++ [⟨S.next + 1, S.last, S.mom + 1, 0, false, false, []⟩] } vs (rs ++ [⟨S.next + 1, S.last, now, 0, false, false, [], []⟩]) (now + 1) := by
  have get : ∀ {j : Nat} {q : Run10}, (rs ++ [(⟨S.next + 1, S.last, now, 0, false, false, [], []⟩ : Run10)])[j]? = some q → rs[j]? = some q ∨ (j = rs.length ∧ q = ⟨S.next + 1, S.last, now, 0, false, false, [], []⟩) := fun {j q} hq => by
    rw [List.getElem?_append] at hq
    split at hq
    · exact .inl hq
    · rename_i hge
      have hj : j - rs.length < 1 := by have := (List.getElem?_eq_some_iff.1 hq).1; simpa using this
      have hj0 : j - rs.length = 0 := by omega
      rw [hj0] at hq
      refine .inr ⟨by omega, ?_⟩
      simpa using hq.symm
  have put : ∀ {j : Nat} {q : Run10}, rs[j]? = some q → (rs ++ [(⟨S.next + 1, S.last, now, 0, false, false, [], []⟩ : Run10)])[j]? = some q := fun {j q} hq => by
    rw [List.getElem?_append_left (List.getElem?_eq_some_iff.1 hq).1]; exact hq
  have fresh : ∀ t ∈ S.list, t.num ≠ S.next + 1 := fun t ht => by
    obtain ⟨i, r, hi, e, -⟩ := h.tr t ht
    have := (List.getElem?_eq_some_iff.1 hi).1
    have := h.nx
    omega
  have lt : ∀ {j : Nat} {q : Run10}, rs[j]? = some q → j < rs.length := fun hq => (List.getElem?_eq_some_iff.1 hq).1
  have nx := h.nx
  have mem : ∀ {u : Tx10}, u ∈ S.list ++ [(⟨S.next + 1, S.last, S.mom + 1, 0, false, false, []⟩ : Tx10)] → u ∈ S.list ∨ u = ⟨S.next + 1, S.last, S.mom + 1, 0, false, false, []⟩ := fun hu => by
    rcases List.mem_append.1 hu with h1 | h1
    · exact .inl h1
    · exact .inr (List.mem_singleton.1 h1)
  refine { nx := ?_, tx := ?_, nd := ?_, tr := ?_, al := ?_, mo := ?_, mm := ?_, on := h.on, hs := ?_, n9 := h.n9, no := ?_, nr := ?_, kp := ?_, la := ?_, ne := ?_, lc := ?_, ve := ?_, vw := ?_, vi := h.vi, vn := h.vn, fw := ?_, ww := ?_, rd := ?_, fl := ?_ }
  · simp [nx]
  · intro j q hq
    rcases get hq with h1 | ⟨rfl, rfl⟩
    · exact h.tx j q h1
    · simp only; omega
  · rw [List.map_append, List.nodup_append]
    refine ⟨h.nd, by simp, fun a ha b hb e => ?_⟩
    obtain ⟨t, ht, rfl⟩ := List.mem_map.1 ha
    simp only [List.map_cons, List.map_nil, List.mem_singleton] at hb
    exact fresh t ht (e.trans hb)
  · intro u hu
    rcases mem hu with hu | rfl
    · obtain ⟨j, q, h1, h2, h3, h4, h5, h6, h7⟩ := h.tr u hu
      exact ⟨j, q, put h1, h2, h3, h4, by simp only; omega, by simp only; omega, h7⟩
    · refine ⟨rs.length, ⟨S.next + 1, S.last, now, 0, false, false, [], []⟩, by rw [List.getElem?_append_right (Nat.le_refl _), Nat.sub_self]; rfl, by simp only; omega, rfl, Int.le_refl _, Int.le_refl _, by have := h.mm; simp only; omega, fun _ => ⟨rfl, rfl⟩, fun e => absurd rfl e⟩
  · intro j q hq ho
    rcases get hq with h1 | ⟨rfl, rfl⟩
    · obtain ⟨t, ht, e⟩ := h.al j q h1 ho
      exact ⟨t, List.mem_append.2 (.inl ht), e⟩
    · exact ⟨_, List.mem_append.2 (.inr (List.mem_singleton.2 rfl)), by simp only; omega, rfl⟩
  · intro t ht u hu a b ra rb ha hb ea eb e0
    rcases mem ht with ht | rfl
    · obtain ⟨a', ra', h1, h2, -, -, h5, h6, -, h8⟩ := h.tr t ht
      have haa : a = a' := num_inj (ea.symm.trans h2)
      subst haa
      have hra : ra = ra' := by
        have := put h1
        rw [ha] at this; cases this; rfl
      subst hra
      rcases mem hu with hu | rfl
      · obtain ⟨b', rb', k1, k2, -⟩ := h.tr u hu
        have hbb : b = b' := num_inj (eb.symm.trans k2)
        subst hbb
        have hrb : rb = rb' := by
          have := put k1
          rw [hb] at this; cases this; rfl
        subst hrb
        exact h.mo t ht u hu a b ra rb h1 k1 ea eb e0
      · have hbl : b = rs.length := by simp only at eb; omega
        have hrb : rb = ⟨S.next + 1, S.last, now, 0, false, false, [], []⟩ := by
          rcases get hb with k1 | ⟨-, k1⟩
          · have := lt k1; omega
          · exact k1
        subst hrb
        have hl := (h.la a ra h1).2.1 ((h.la a ra h1).2.2.1 (h8 e0).1)
        simp only
        constructor <;> intro _ <;> omega
    · exact absurd rfl e0
  · have := h.mm; simp only; omega
  · intro l x
    rw [h.hs l x]
    constructor
    · rintro ⟨j, q, e, h1, h2⟩; exact ⟨j, q, e, put h1, h2⟩
    · rintro ⟨j, q, e, h1, h2, h3⟩
      rcases get h1 with h4 | ⟨-, rfl⟩
      · exact ⟨j, q, e, h4, h2, h3⟩
      · cases h3
  · intro n hn
    obtain ⟨t, ht, e⟩ := h.no n hn
    exact ⟨t, List.mem_append.2 (.inl ht), e⟩
  · intro t ht j q hq e p hp
    rcases get hq with h1 | ⟨rfl, rfl⟩
    · rcases mem ht with ht | rfl
      · exact h.nr t ht j q h1 e p hp
      · have := lt h1; simp only at e; omega
    · cases hp
  · intro a b ra rb ha hb h1 h2 h3 h4
    rcases get hb with hb | ⟨rfl, rfl⟩
    · rcases get ha with ha | ⟨rfl, rfl⟩
      · obtain ⟨t, ht, e⟩ := h.kp a b ra rb ha hb h1 h2 h3 h4
        exact ⟨t, List.mem_append.2 (.inl ht), e⟩
      · have := (h.la b rb hb).2.1 ((h.la b rb hb).2.2.1 h2)
        simp only at h3; omega
    · cases h2
  · intro j q hq
    rcases get hq with h1 | ⟨rfl, rfl⟩
    · obtain ⟨k1, k2, k3⟩ := h.la j q h1
      exact ⟨by omega, fun ho => ⟨(k2 ho).1, by have := (k2 ho).2; omega⟩, k3⟩
    · exact ⟨by simp only; omega, fun e => absurd e Bool.false_ne_true, fun e => absurd e Bool.false_ne_true, Int.le_refl _, List.nodup_nil⟩
  · intro a b ra rb ha hb ho
    rcases get hb with hb | ⟨rfl, rfl⟩
    · rcases get ha with ha | ⟨rfl, rfl⟩
      · exact h.ne a b ra rb ha hb ho
      · have := ((h.la b rb hb).2.1 ho).2
        simp only; omega
    · cases ho
  · have := h.lc; simp only; omega
  · intro v hv
    obtain ⟨j, q, h1, h2, h3, h4, h5, h6, h7⟩ := h.ve v hv
    refine ⟨j, q, h1, put h2, h3, h4, h5, h6, fun a ra ha => ?_⟩
    rcases get ha with ha | ⟨rfl, rfl⟩
    · exact h7 a ra ha
    · have := ((h.la j q h2).2.1 ((h.la j q h2).2.2.1 h3)).2
      simp only
      constructor <;> intro _ <;> omega
  · intro j q hq hc
    rcases get hq with h1 | ⟨rfl, rfl⟩
    · exact h.vw j q h1 hc
    · cases hc
  · intro j q hq ho v hv hw
    rcases get hq with h1 | ⟨rfl, rfl⟩
    · exact h.fw j q h1 ho v hv hw
    · cases hw
  · intro k m v u hv hu hkm e j q hj hq
    rcases get hq with h1 | ⟨rfl, rfl⟩
    · exact h.ww k m v u hv hu hkm e j q hj h1
    · obtain ⟨j2, q2, e2, h2, -⟩ := h.ve u (List.mem_of_getElem? hu)
      have := lt h2; omega
  · intro j q hq p hp
    rcases get hq with h1 | ⟨rfl, rfl⟩
    · exact h.rd j q h1 p hp
    · cases hp
  · obtain ⟨gi, go, f1, f2, f3⟩ := h.fl
    refine ⟨fun j => if j = rs.length then false else gi j, fun j => if j = rs.length then false else go j, fun u hu j e => ?_, fun j q hq hc => ?_, ?_⟩
    · rcases mem hu with hu | rfl
      · have hj : j ≠ rs.length := fun e2 => fresh u hu (by rw [e, e2]; omega)
        simp only [if_neg hj]
        exact f1 u hu j e
      · have hj : j = rs.length := by simp only at e; omega
        simp [hj]
    · rcases get hq with h1 | ⟨rfl, rfl⟩
      · have hj : j ≠ rs.length := fun e2 => by have := lt h1; omega
        simp only [if_neg hj]
        exact f2 j q h1 hc
      · cases hc
    · intro a b ra rb l s hab ha hb va vb hc hl hw
      rcases get ha with ha | ⟨rfl, rfl⟩
      · rcases get hb with hb | ⟨rfl, rfl⟩
        · have h1 : a ≠ rs.length := fun e2 => by have := lt ha; omega
          have h2 : b ≠ rs.length := fun e2 => by have := lt hb; omega
          simp only [if_neg h1, if_neg h2]
          exact f3 a b ra rb l s hab ha hb va vb hc hl hw
        · cases hw
      · cases hl
end
end Go.Proofs.YtknppiebncdjmaaGreat

namespace Go.Proofs.YtknppiebncdjmaaGreat
set_option maxRecDepth 100000

def flagT (out : Bool) (k : Nat) (others : List Nat) (o : Nat) (t : Tx10) : Tx10 :=
  if out = true then { t with fout := t.fout || (decide (o = k) && !others.isEmpty), fin := t.fin || others.any fun x => decide (x = o) }
  else { t with fin := t.fin || (decide (o = k) && !others.isEmpty), fout := t.fout || others.any fun x => decide (x = o) }
theorem flag_one (out : Bool) (k : Nat) (l : List Tx10) (x o : Nat) : (flagP out k l x)[o]? = (l[o]?).map (flagT out k [x] o) := by
  cases out
  · unfold flagP setOut setIn flagT
    simp only [Bool.false_eq_true, if_false, List.getElem?_modify, List.isEmpty_cons, Bool.not_false, Bool.and_true, List.any_cons, List.any_nil, Bool.or_false]
    cases h : l[o]? with
    | none => by_cases h1 : x = o <;> by_cases h2 : k = o <;> simp [h1, h2]
    | some t => by_cases h1 : x = o <;> by_cases h2 : k = o <;> simp [h1, h2, eq_comm]
  · unfold flagP setOut setIn flagT
    simp only [if_true, List.getElem?_modify, List.isEmpty_cons, Bool.not_false, Bool.and_true, List.any_cons, List.any_nil, Bool.or_false]
    cases h : l[o]? with
    | none => by_cases h1 : x = o <;> by_cases h2 : k = o <;> simp [h1, h2]
    | some t => by_cases h1 : x = o <;> by_cases h2 : k = o <;> simp [h1, h2, eq_comm]
theorem flagT_comp (out : Bool) (k x o : Nat) (others : List Nat) (t : Tx10) : flagT out k others o (flagT out k [x] o t) = flagT out k (x :: others) o t := by
  unfold flagT
  cases out <;> simp [Bool.or_assoc] <;> cases others <;> simp
theorem flags_get (out : Bool) (k : Nat) : ∀ (others : List Nat) (l : List Tx10) (o : Nat), (others.foldl (flagP out k) l)[o]? = (l[o]?).map (flagT out k others o)
  | [], l, o => by
    have : flagT out k [] o = id := by funext t; unfold flagT; cases out <;> simp
    rw [this, Option.map_id]
    rfl
  | x :: others, l, o => by
    rw [List.foldl_cons, flags_get out k others _ o, flag_one, Option.map_map]
    congr 1
    funext t
    exact flagT_comp out k x o others t
theorem flagT_same (out : Bool) (k : Nat) (others : List Nat) (o : Nat) (t : Tx10) : (flagT out k others o t).num = t.num ∧ (flagT out k others o t).snap = t.snap ∧ (flagT out k others o t).begun = t.begun ∧ (flagT out k others o t).ended = t.ended ∧ (flagT out k others o t).wrote = t.wrote := by
  unfold flagT
  cases out <;> exact ⟨rfl, rfl, rfl, rfl, rfl⟩
theorem flags_mem {out : Bool} {k : Nat} {others : List Nat} {l : List Tx10} {u' : Tx10} (h : u' ∈ others.foldl (flagP out k) l) : ∃ (o : Nat) (u : Tx10), l[o]? = some u ∧ u' = flagT out k others o u ∧ u ∈ l ∧ u'.num = u.num ∧ u'.snap = u.snap ∧ u'.begun = u.begun ∧ u'.ended = u.ended ∧ u'.wrote = u.wrote := by
  obtain ⟨o, ho⟩ := List.mem_iff_getElem?.1 h
  rw [flags_get] at ho
  cases hu : l[o]? with
  | none => rw [hu] at ho; cases ho
  | some u =>
    rw [hu] at ho
    simp only [Option.map_some, Option.some.injEq] at ho
    obtain ⟨h1, h2, h3, h4, h5⟩ := flagT_same out k others o u
    exact ⟨o, u, hu.symm ▸ rfl, ho.symm, List.mem_of_getElem? hu, ho ▸ h1, ho ▸ h2, ho ▸ h3, ho ▸ h4, ho ▸ h5⟩
theorem flags_to {out : Bool} {k : Nat} {others : List Nat} {l : List Tx10} {u : Tx10} (h : u ∈ l) : ∃ u' ∈ others.foldl (flagP out k) l, u'.num = u.num ∧ u'.snap = u.snap ∧ u'.begun = u.begun ∧ u'.ended = u.ended ∧ u'.wrote = u.wrote := by
  obtain ⟨o, ho⟩ := List.mem_iff_getElem?.1 h
  refine ⟨flagT out k others o u, List.mem_of_getElem? (i := o) (by rw [flags_get, ho]; rfl), flagT_same out k others o u⟩
theorem flags_nums (out : Bool) (k : Nat) (others : List Nat) (l : List Tx10) : (others.foldl (flagP out k) l).map (·.num) = l.map (·.num) := by
  refine List.ext_getElem? fun o => ?_
  rw [List.getElem?_map, List.getElem?_map, flags_get, Option.map_map]
  congr 1
  funext t
  exact (flagT_same out k others o t).1
section
variable {c : Cp10} {S : St10} {vs : List Ver10} {rs : List Run10} {now : Int}
theorem Inv10.put (h : Inv10 c S vs rs now) {i k : Nat} {r : Run10} {t : Tx10} (hi : rs[i]? = some r) (hr : r.over = false) (hk : S.list[k]? = some t) (ht : t.num = (i : Int) + 1) {H1 : List Hd} {L1 : List Nt} (others : List Nat) (out : Bool) (R : List (Lk × Int)) (Wr : List Lk)
    (ho : Once H1) (hH : ∀ l x, x ≠ (i : Int) + 1 → ((l, x) ∈ H1 ↔ (l, x) ∈ S.H)) (hH2 : ∀ l, (l, (i : Int) + 1) ∈ H1 ↔ l ∈ Wr)
    (hL : Inv9 c.reads L1) (hf : ∀ n ∈ L1, n.1 = (i : Int) + 1 ∨ ∃ m ∈ S.L, m.1 = n.1) (hh : Holds9 S.L L1) (hR : ∀ p ∈ R, ∃ n ∈ L1, n.1 = (i : Int) + 1 ∧ hasP n.2 p.1.1 p.1.2 = true) (hR2 : ∀ p ∈ R, p.2 = newestP vs p.1 r.snap)
    (hW : Wr.Nodup) (hW2 : ∀ v ∈ vs, v.at_ ∈ Wr → v.num ≤ r.snap)
    (hb : badP (others.foldl (flagP out k) S.list) k others = false)
    (c1 : ∀ (j : Nat) q l s, j ≠ i → rs[j]? = some q → Val10 q → Conc10 r q → (l, s) ∈ R → l ∈ q.writes → (∃ s', (l, s') ∈ r.reads) ∨ (out = true ∧ ∃ o ∈ others, ∃ u, S.list[o]? = some u ∧ u.num = (j : Int) + 1))
    (c2 : ∀ (j : Nat) q l s, j ≠ i → rs[j]? = some q → Val10 q → Conc10 q r → (l, s) ∈ q.reads → l ∈ Wr → l ∈ r.writes ∨ (out = false ∧ ∃ o ∈ others, ∃ u, S.list[o]? = some u ∧ u.num = (j : Int) + 1)) :
    Inv10 c { S with H := H1, L := L1, list := others.foldl (flagP out k) S.list } vs (rs.set i { r with reads := R, writes := Wr }) (now + 1) := by
  have old : ∀ {j : Nat} {q : Run10}, (rs.set i { r with reads := R, writes := Wr })[j]? = some q → (j = i ∧ q = { r with reads := R, writes := Wr }) ∨ (j ≠ i ∧ rs[j]? = some q) := fun hq => set_get hq
  have same : ∀ {j : Nat} {q : Run10}, (rs.set i { r with reads := R, writes := Wr })[j]? = some q → ∃ q0, rs[j]? = some q0 ∧ q.tx = q0.tx ∧ q.snap = q0.snap ∧ q.begun = q0.begun ∧ q.ended = q0.ended ∧ q.com = q0.com ∧ q.over = q0.over := fun {j q} hq => by
    rcases old hq with ⟨rfl, rfl⟩ | ⟨-, h1⟩
    · exact ⟨r, hi, rfl, rfl, rfl, rfl, rfl, rfl⟩
    · exact ⟨q, h1, rfl, rfl, rfl, rfl, rfl, rfl⟩
  have hrc : r.com = false := by
    cases e : r.com with
    | false => rfl
    | true => have := (h.la i r hi).2.2.1 e; rw [hr] at this; cases this
  have put : ∀ {j : Nat} {q : Run10}, j ≠ i → rs[j]? = some q → (rs.set i { r with reads := R, writes := Wr })[j]? = some q := fun hji hq => by rw [set_other hji]; exact hq
  have self := set_self (r' := { r with reads := R, writes := Wr }) hi
  have here : ∀ {o : Nat} {u : Tx10}, S.list[o]? = some u → u.num = (i : Int) + 1 → o = k := fun hu e => idx_inj h.nd hu hk (e.trans ht.symm)
  have kept : ∀ {j : Nat} {q : Run10}, j ≠ i → ∀ {q1 : Run10}, rs[j]? = some q1 → (rs.set i { r with reads := R, writes := Wr })[j]? = some q → q = q1 := fun hji _ h1 h2 => by
    rw [set_other hji] at h2; rw [h1] at h2; cases h2; rfl
  refine { nx := ?_, tx := ?_, nd := ?_, tr := ?_, al := ?_, mo := ?_, mm := h.mm, on := ho, hs := ?_, n9 := hL, no := ?_, nr := ?_, kp := ?_, la := ?_, ne := ?_, lc := ?_, ve := ?_, vw := ?_, vi := h.vi, vn := h.vn, fw := ?_, ww := ?_, rd := ?_, fl := ?_ }
  · rw [List.length_set]; exact h.nx
  · intro j q hq
    obtain ⟨q0, h1, h2, -⟩ := same hq
    rw [h2]; exact h.tx j q0 h1
  · simp only
    rw [flags_nums]; exact h.nd
  · intro u' hu
    obtain ⟨o, u, ho1, -, hu0, e1, e2, e3, e4, e5⟩ := flags_mem hu
    obtain ⟨j, q, hj, k1, k2, k3, k4, k5, k6, k7⟩ := h.tr u hu0
    rw [e1, e2, e3, e4, e5]
    by_cases hji : j = i
    · subst hji
      rw [hi] at hj
      cases hj
      refine ⟨j, _, self, k1, k2, k3, k4, k5, k6, fun e0 => ?_⟩
      have := (k7 e0).1
      rw [hrc] at this; cases this
    · exact ⟨j, q, put hji hj, k1, k2, k3, k4, k5, k6, k7⟩
  · intro j q hq hov
    obtain ⟨q0, h1, -, -, -, -, -, h2⟩ := same hq
    obtain ⟨u, hu, e, e0⟩ := h.al j q0 h1 (by rw [← h2]; exact hov)
    obtain ⟨u', hu', e1, -, -, e4, -⟩ := flags_to (out := out) (k := k) (others := others) hu
    exact ⟨u', hu', e1.trans e, e4.trans e0⟩
  · intro u' hu v' hv a b ra rb ha hb2 ea eb e0
    obtain ⟨-, u, -, -, hu0, u1, -, u3, u4, -⟩ := flags_mem hu
    obtain ⟨-, v, -, -, hv0, v1, -, v3, v4, -⟩ := flags_mem hv
    obtain ⟨qa, h1, -, -, -, h2, -⟩ := same ha
    obtain ⟨qb, h3, -, -, h4, -⟩ := same hb2
    rw [u4, v3, h2, h4]
    rw [u1] at ea; rw [v1] at eb; rw [u4] at e0
    exact h.mo u hu0 v hv0 a b qa qb h1 h3 ea eb e0
  · intro l x
    simp only
    by_cases hx : x = (i : Int) + 1
    · subst hx
      rw [hH2]
      constructor
      · intro hl; exact ⟨i, _, rfl, self, hr, hl⟩
      · rintro ⟨j, q, e, hq, -, hl⟩
        have hji : j = i := (num_inj e).symm
        subst hji
        rw [self] at hq; cases hq
        exact hl
    · rw [hH l x hx, h.hs l x]
      constructor
      · rintro ⟨j, q, e, hq, h3⟩; exact ⟨j, q, e, put (fun e2 => hx (by rw [e, e2])) hq, h3⟩
      · rintro ⟨j, q, e, hq, h3⟩
        have hji : j ≠ i := fun e2 => hx (by rw [e, e2])
        rw [set_other hji] at hq
        exact ⟨j, q, e, hq, h3⟩
  · intro n hn
    rcases hf n hn with e | ⟨m, hm, e⟩
    · obtain ⟨u', hu', e1, -⟩ := flags_to (out := out) (k := k) (others := others) (List.mem_of_getElem? hk)
      exact ⟨u', hu', e1.trans (ht.trans e.symm)⟩
    · obtain ⟨u, hu, e2⟩ := h.no m hm
      obtain ⟨u', hu', e1, -⟩ := flags_to (out := out) (k := k) (others := others) hu
      exact ⟨u', hu', e1.trans (e2.trans e)⟩
  · intro u' hu j q hq e p hp
    obtain ⟨-, u, -, -, hu0, u1, -⟩ := flags_mem hu
    rw [u1] at e ⊢
    rcases old hq with ⟨rfl, rfl⟩ | ⟨hji, hj⟩
    · obtain ⟨n, hn, e1, e2⟩ := hR p hp
      exact ⟨n, hn, e1.trans e.symm, e2⟩
    · obtain ⟨n, hn, e1, e2⟩ := h.nr u hu0 j q hj e p hp
      obtain ⟨m, hm, e3, e4⟩ := hh n hn _ _ e2
      exact ⟨m, hm, e3.trans e1, e4⟩
  · intro a b ra rb ha hb2 h1 h2 h3 h4
    have hbi : b ≠ i := fun e => by
      subst e
      rw [self] at hb2; cases hb2
      rw [hrc] at h2; cases h2
    rw [set_other hbi] at hb2
    obtain ⟨qa, k1, -, -, k2, -, -, k3⟩ := same ha
    obtain ⟨u, hu, e⟩ := h.kp a b qa rb k1 hb2 (by rw [← k3]; exact h1) h2 (by rw [← k2]; exact h3) h4
    obtain ⟨u', hu', e1, -⟩ := flags_to (out := out) (k := k) (others := others) hu
    exact ⟨u', hu', e1.trans e⟩
  · intro j q hq
    rcases old hq with ⟨rfl, rfl⟩ | ⟨-, hj⟩
    · obtain ⟨h1, h2, h3, h4, h5⟩ := h.la j r hi
      exact ⟨by simp only; omega, fun e => absurd (show r.over = true from e) (by rw [hr]; simp), h3, h4, hW⟩
    · obtain ⟨h1, h2, h3, h4, h5⟩ := h.la j q hj
      exact ⟨by omega, fun e => ⟨(h2 e).1, by have := (h2 e).2; omega⟩, h3, h4, h5⟩
  · intro a b ra rb ha hb2 hov
    obtain ⟨qa, k1, -, -, k2, -⟩ := same ha
    obtain ⟨qb, k3, -, -, -, k4, -, k5⟩ := same hb2
    rw [k2, k4]
    exact h.ne a b qa qb k1 k3 (by rw [← k5]; exact hov)
  · have := h.lc; simp only; omega
  · intro v hv
    obtain ⟨j, q, h1, h2, h3, h4, h5, h6, h7⟩ := h.ve v hv
    have hji : j ≠ i := fun e => by subst e; rw [hi] at h2; cases h2; rw [hrc] at h3; cases h3
    refine ⟨j, q, h1, put hji h2, h3, h4, h5, h6, fun a ra ha => ?_⟩
    obtain ⟨qa, k1, -, k2, k3, -⟩ := same ha
    rw [k2, k3]; exact h7 a qa k1
  · intro j q hq hc
    rcases old hq with ⟨rfl, rfl⟩ | ⟨-, hj⟩
    · simp only at hc; rw [hrc] at hc; cases hc
    · exact h.vw j q hj hc
  · intro j q hq hov v hv hw
    rcases old hq with ⟨rfl, rfl⟩ | ⟨-, hj⟩
    · exact hW2 v hv hw
    · exact h.fw j q hj hov v hv hw
  · intro a m v u hv hu ham e j q hj hq
    obtain ⟨q0, k1, -, k2, -⟩ := same hq
    rw [k2]; exact h.ww a m v u hv hu ham e j q0 hj k1
  · intro j q hq p hp
    rcases old hq with ⟨rfl, rfl⟩ | ⟨-, hj⟩
    · exact hR2 p hp
    · exact h.rd j q hj p hp
  · obtain ⟨gi, go, f1, f2, f3⟩ := h.fl
    obtain ⟨oth, hoth⟩ : ∃ oth : Nat → Bool, ∀ j : Nat, oth j = true ↔ ∃ o ∈ others, ∃ u, S.list[o]? = some u ∧ u.num = (j : Int) + 1 := by
      refine ⟨fun j => others.any fun o => (S.list[o]?).elim false fun u => decide (u.num = (j : Int) + 1), fun j => ?_⟩
      rw [List.any_eq_true]
      refine exists_congr fun o => and_congr_right fun _ => ?_
      cases S.list[o]? with
      | none => simp
      | some u => simp
    have any_is : ∀ {o : Nat} {u : Tx10} {j : Nat}, S.list[o]? = some u → u.num = (j : Int) + 1 → (others.any fun x => decide (x = o)) = oth j := fun {o u j} hu e => by
      rw [Bool.eq_iff_iff, hoth, List.any_eq_true]
      constructor
      · rintro ⟨x, hx, e2⟩
        have : x = o := by simpa using e2
        subst this
        exact ⟨x, hx, u, hu, e⟩
      · rintro ⟨x, hx, u2, hu2, e2⟩
        exact ⟨x, hx, by simpa using idx_inj h.nd hu2 hu (e2.trans e.symm)⟩
    have me_is : ∀ {o : Nat} {u : Tx10} {j : Nat}, S.list[o]? = some u → u.num = (j : Int) + 1 → decide (o = k) = decide (j = i) := fun {o u j} hu e => by
      rw [decide_eq_decide]
      constructor
      · rintro rfl
        rw [hk] at hu; cases hu
        exact num_inj (e.symm.trans ht)
      · rintro rfl
        exact here hu e
    obtain ⟨gi', hgi⟩ : ∃ g : Nat → Bool, ∀ j, g j = (gi j || (if out = true then oth j else decide (j = i) && !others.isEmpty)) := ⟨_, fun _ => rfl⟩
    obtain ⟨go', hgo⟩ : ∃ g : Nat → Bool, ∀ j, g j = (go j || (if out = true then decide (j = i) && !others.isEmpty else oth j)) := ⟨_, fun _ => rfl⟩
    have F1 : ∀ (o : Nat) (u : Tx10) (j : Nat), S.list[o]? = some u → u.num = (j : Int) + 1 → (flagT out k others o u).fin = gi' j ∧ (flagT out k others o u).fout = go' j := fun o u j hu e => by
      obtain ⟨k1, k2⟩ := f1 u (List.mem_of_getElem? hu) j e
      rw [hgi, hgo]
      unfold flagT
      cases out
      · simp only [Bool.false_eq_true, if_false, k1, k2, any_is hu e, me_is hu e, and_self]
      · simp only [if_true, k1, k2, any_is hu e, me_is hu e, and_self]
    refine ⟨gi', go', fun u' hu j e => ?_, fun j q hq hc => ?_, ?_⟩
    · obtain ⟨o, u, ho1, hu2, hu0, u1, -⟩ := flags_mem hu
      rw [hu2]
      exact F1 o u j ho1 (u1.symm.trans e)
    · have hji : j ≠ i := fun e => by
        subst e
        rw [self] at hq; cases hq
        rw [hrc] at hc; cases hc
      rw [set_other hji] at hq
      by_cases hoj : oth j = true
      · obtain ⟨o, ho1, u, hu, e⟩ := (hoth j).1 hoj
        have hb1 : (others.any fun o => ((others.foldl (flagP out k) S.list)[o]?).elim false fun t => decide (0 < t.ended) && t.fin && t.fout) = false := by
          unfold badP at hb
          simp only [Bool.or_eq_false_iff] at hb
          exact hb.2
        have hb2 := List.any_eq_false.1 hb1 o ho1
        rw [flags_get, hu] at hb2
        obtain ⟨g1, g2⟩ := F1 o u j hu e
        simp only [Option.map_some, Option.elim_some, g1, g2, (flagT_same out k others o u).2.2.2.1] at hb2
        rintro ⟨g3, g4⟩
        obtain ⟨j2, q2, hj2, e3, -, e4, -, -, e5, -⟩ := h.tr u (List.mem_of_getElem? hu)
        have hjj : j = j2 := num_inj (e.symm.trans e3)
        subst hjj
        rw [hq] at hj2
        cases hj2
        have hne : u.ended ≠ 0 := fun e6 => by
          have := (e5 e6).1
          have := (h.la j q hq).2.2.1 hc
          simp_all
        simp only [g3, g4, Bool.and_true, decide_eq_true_eq] at hb2
        omega
      · have hoj' : oth j = false := by simpa using hoj
        have hij : decide (j = i) = false := by simpa using hji
        rw [hgi, hgo, hoj', hij]
        cases out <;> simpa using f2 j q hq hc
    · intro a b ra rb l s hab ha hb2 va vb hc hl hw
      have mono : go a = true ∧ gi b = true → go' a = true ∧ gi' b = true := fun ⟨g1, g2⟩ => by rw [hgo, hgi, g1, g2]; simp
      have some_ : ∀ {j : Nat}, oth j = true → others.isEmpty = false := fun {j} hj => by
        obtain ⟨o, ho1, -⟩ := (hoth j).1 hj
        cases others with
        | nil => cases ho1
        | cons => rfl
      rcases old ha with ⟨rfl, rfl⟩ | ⟨hai, ha'⟩
      · have hbi : b ≠ a := fun e => hab e.symm
        rw [set_other hbi] at hb2
        rcases c1 b rb l s hbi hb2 vb hc hl hw with ⟨s', hs'⟩ | ⟨rfl, h1⟩
        · exact mono (f3 a b r rb l s' hab hi hb2 (.inl hr) vb hc hs' hw)
        · have h2 := (hoth b).2 h1
          rw [hgo, hgi, h2, some_ h2]
          simp
      · rcases old hb2 with ⟨rfl, rfl⟩ | ⟨hbi, hb2⟩
        · rcases c2 a ra l s hai ha' va hc hl hw with hw' | ⟨rfl, h1⟩
          · exact mono (f3 a b ra r l s hab ha' hi va (.inl hr) hc hl hw')
          · have h2 := (hoth a).2 h1
            rw [hgo, hgi, h2, some_ h2]
            simp
        · exact mono (f3 a b ra rb l s hab ha' hb2 va vb hc hl hw)
end
end Go.Proofs.YtknppiebncdjmaaGreat
