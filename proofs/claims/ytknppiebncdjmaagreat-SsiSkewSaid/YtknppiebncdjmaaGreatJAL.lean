import Derived.Test.YtknppiebncdjmaaGreatJAH
import Derived.Test.YtknppiebncdjmaaGreatJAK
import Derived.Test.YtknppiebncdjmaaGreatJAE
import Derived.DeepKeys4
import Derived.Maps.OwnSet
import Derived.Maps.Range
set_option linter.unusedVariables false
namespace Go.Proofs.YtknppiebncdjmaaGreat
set_option maxRecDepth 100000

structure Sim10 (c : Cp10) (P : Pg) (S : St10) : Prop where
  now : P.now = S.last
  beg : P.begun = S.next
  H : P.H = S.H
  L : P.L = S.L
  oa : OnceA P.act
  ok : OnceA P.kep
  of : OnceA P.flg
  nd : (S.list.map (·.num)).Nodup
  m0 : 0 ≤ S.mom ∧ 0 ≤ S.next ∧ 0 ≤ S.last
  rg : ∀ t ∈ S.list, (1 ≤ t.num ∧ t.num ≤ S.next) ∧ (t.begun ≤ S.mom) ∧ (0 ≤ t.ended ∧ t.ended ≤ S.mom) ∧ 0 ≤ t.snap ∧ t.snap ≤ S.last
  act : ∀ x s, getA P.act x = some s ↔ ∃ t ∈ S.list, t.ended = 0 ∧ t.num = x ∧ t.snap = s
  kep1 : ∀ x k, getA P.kep x = some k → ∃ t ∈ S.list, 0 < t.ended ∧ t.num = x ∧ t.wrote = k.wrote ∧ (0 ≤ k.upto ∧ k.upto ≤ S.next) ∧ ∀ u ∈ S.list, u.ended = 0 → (u.begun < t.ended ↔ u.num ≤ k.upto)
  kep2 : ∀ t ∈ S.list, 0 < t.ended → ∃ k, getA P.kep t.num = some k
  flg1 : ∀ t ∈ S.list, flgOf P t.num = (t.fin, t.fout)
  flg2 : ∀ x f, getA P.flg x = some f → ∃ t ∈ S.list, t.num = x
  wr0 : ∀ t ∈ S.list, t.ended = 0 → t.wrote = []
  hh : ∀ h ∈ S.H, ∃ t ∈ S.list, t.ended = 0 ∧ t.num = h.2
  ll : ∀ n ∈ S.L, ∃ t ∈ S.list, t.num = n.1
  na : (P.act.length : Int) ≤ c.act
  nk : (P.kep.length : Int) ≤ c.kept
section
variable {c : Cp10} {P : Pg} {S : St10}
theorem Sim10.pos (h : Sim10 c P S) : ∀ t ∈ S.list, 1 ≤ t.num := fun t ht => (h.rg t ht).1.1
theorem Sim10.isa (h : Sim10 c P S) (x : Int) : isAct P x = true ↔ ∃ t ∈ S.list, t.ended = 0 ∧ t.num = x := by
  unfold isAct
  rw [Option.isSome_iff_exists]
  constructor
  · rintro ⟨s, hs⟩
    obtain ⟨t, ht, h1, h2, -⟩ := (h.act x s).1 hs
    exact ⟨t, ht, h1, h2⟩
  · rintro ⟨t, ht, h1, h2⟩
    exact ⟨t.snap, (h.act x t.snap).2 ⟨t, ht, h1, h2, rfl⟩⟩
theorem Sim10.under (h : Sim10 c P S) (x : Int) : (isAct P x = false ∧ underP S.list x = none) ∨ ∃ i t, isAct P x = true ∧ underP S.list x = some i ∧ S.list[i]? = some t ∧ t.ended = 0 ∧ t.num = x ∧ t ∈ S.list ∧ getA P.act x = some t.snap := by
  cases ha : isAct P x with
  | false =>
    refine .inl ⟨rfl, under_none fun t ht e h0 => ?_⟩
    have := (h.isa x).2 ⟨t, ht, h0, e⟩
    rw [ha] at this; cases this
  | true =>
    obtain ⟨t, ht, h0, e⟩ := (h.isa x).1 ha
    obtain ⟨i, hi⟩ := List.mem_iff_getElem?.1 ht
    have := under_is h.nd hi h0
    rw [e] at this
    exact .inr ⟨i, t, rfl, this, hi, h0, e, ht, (h.act x t.snap).2 ⟨t, ht, h0, e, rfl⟩⟩
theorem Sim10.kept (h : Sim10 c P S) {t : Tx10} (ht : t ∈ S.list) {k : KpR} (hk : getA P.kep t.num = some k) : 0 < t.ended ∧ t.wrote = k.wrote ∧ (0 ≤ k.upto ∧ k.upto ≤ S.next) ∧ ∀ u ∈ S.list, u.ended = 0 → (u.begun < t.ended ↔ u.num ≤ k.upto) := by
  obtain ⟨t', ht', h1, h2, h3⟩ := h.kep1 _ _ hk
  have := nums_inj h.nd ht' ht h2
  subst this
  exact ⟨h1, h3⟩
theorem Sim10.live (h : Sim10 c P S) {t : Tx10} (ht : t ∈ S.list) (h0 : t.ended = 0) : getA P.kep t.num = none := by
  cases e : getA P.kep t.num with
  | none => rfl
  | some k => have := (h.kept ht e).1; omega
theorem firstG_le (P : Pg) {k : Int} (hk : k ≤ P.begun) : firstG P ≤ k ↔ ∃ p ∈ P.act, p.1 ≤ k := by
  have key : ∀ (l : List (Int × Int)) (a : Int), l.foldl (fun a p => min a p.1) a ≤ a ∧ (∀ p ∈ l, l.foldl (fun a p => min a p.1) a ≤ p.1) ∧ (l.foldl (fun a p => min a p.1) a = a ∨ ∃ p ∈ l, l.foldl (fun a p => min a p.1) a = p.1) := by
    intro l
    induction l with
    | nil => intro a; simp
    | cons p l ih =>
      intro a
      obtain ⟨h1, h2, h3⟩ := ih (min a p.1)
      rw [List.foldl_cons]
      refine ⟨by omega, fun q hq => ?_, ?_⟩
      · rcases List.mem_cons.1 hq with rfl | hq
        · omega
        · exact h2 q hq
      · rcases h3 with h3 | ⟨q, hq, h3⟩
        · by_cases e : a ≤ p.1
          · exact .inl (by rw [h3]; omega)
          · exact .inr ⟨p, List.mem_cons_self .., by rw [h3]; omega⟩
        · exact .inr ⟨q, List.mem_cons_of_mem _ hq, h3⟩
  obtain ⟨h1, h2, h3⟩ := key P.act (P.begun + 1)
  unfold firstG
  constructor
  · intro h
    rcases h3 with h3 | ⟨p, hp, h3⟩
    · omega
    · exact ⟨p, hp, by omega⟩
  · rintro ⟨p, hp, h⟩
    have := h2 p hp
    omega
theorem Sim10.gone (h : Sim10 c P S) {t : Tx10} (ht : t ∈ S.list) : goneG P (firstG P) t.num = true ↔ neededP S.list t = false := by
  have hn : (neededP S.list t = false) ↔ ¬ (t.ended = 0 ∨ ∃ u ∈ S.list, u.ended = 0 ∧ u.begun < t.ended) := by
    rw [← needed_is]; simp
  rw [hn]
  by_cases h0 : t.ended = 0
  · unfold goneG
    rw [h.live ht h0]
    simp [h0]
  · obtain ⟨k, hk⟩ := h.kep2 t ht (by have := (h.rg t ht).2.2.1; omega)
    obtain ⟨-, -, h3, h4⟩ := h.kept ht hk
    unfold goneG
    rw [hk]
    simp only [Option.elim_some, decide_eq_true_eq]
    have hf := firstG_le P (k := k.upto) (by rw [h.beg]; exact h3.2)
    have hx : (∃ p ∈ P.act, p.1 ≤ k.upto) ↔ ∃ u ∈ S.list, u.ended = 0 ∧ u.begun < t.ended := by
      constructor
      · rintro ⟨p, hp, hle⟩
        obtain ⟨u, hu, h5, h6, -⟩ := (h.act p.1 p.2).1 ((getA_some h.oa).2 hp)
        exact ⟨u, hu, h5, (h4 u hu h5).2 (by rw [h6]; exact hle)⟩
      · rintro ⟨u, hu, h5, h6⟩
        exact ⟨(u.num, u.snap), getA_mem ((h.act _ _).2 ⟨u, hu, h5, rfl, rfl⟩), (h4 u hu h5).1 h6⟩
    rw [hx] at hf
    constructor
    · intro h7 h8
      rcases h8 with h8 | h8
      · exact h0 h8
      · have := hf.2 h8; omega
    · intro h7
      have : ¬ firstG P ≤ k.upto := fun h8 => h7 (.inr (hf.1 h8))
      omega
theorem drops_filter : ∀ (ts : List Tx10) (L : List Nt), (∀ t ∈ ts, 1 ≤ t.num) → ts.foldl (fun L t => dropN L t.num) L = L.filter fun n => !ts.any fun t => decide (n.1 = t.num)
  | [], L, _ => (List.filter_eq_self.2 (by simp)).symm
  | t :: ts, L, h => by
    rw [List.foldl_cons, drops_filter ts _ fun u hu => h u (List.mem_cons_of_mem _ hu)]
    unfold dropN dropP
    rw [if_neg (by have := h t (List.mem_cons_self ..); omega), List.filter_filter]
    congr 1
    funext n
    simp only [List.any_cons, Bool.not_or]
    exact Bool.and_comm _ _
theorem Sim10.sweep (h : Sim10 c P S) : Sim10 c (sweepG P (firstG P)) (sweepP S) := by
  have hm : ∀ t, t ∈ (sweepP S).list ↔ t ∈ S.list ∧ neededP S.list t = true := fun t => by unfold sweepP; exact List.mem_filter
  have hlive : ∀ t ∈ S.list, t.ended = 0 → t ∈ (sweepP S).list := fun t ht h0 => (hm t).2 ⟨ht, needed_is.2 (.inl h0)⟩
  have hsub : (sweepP S).list.Sublist S.list := by unfold sweepP; exact List.filter_sublist
  have hng : ∀ t ∈ S.list, goneG P (firstG P) t.num = false ↔ t ∈ (sweepP S).list := fun t ht => by
    rw [hm]
    have := h.gone ht
    constructor
    · intro e
      refine ⟨ht, ?_⟩
      cases e2 : neededP S.list t with
      | true => rfl
      | false => rw [this.2 e2] at e; cases e
    · rintro ⟨-, e⟩
      cases e2 : goneG P (firstG P) t.num with
      | false => rfl
      | true => rw [this.1 e2] at e; cases e
  have hkf : ∀ x k, getA (sweepG P (firstG P)).kep x = some k ↔ getA P.kep x = some k ∧ goneG P (firstG P) x = false := fun x k => by
    show getA (P.kep.filter fun p => decide (firstG P ≤ p.2.upto)) x = some k ↔ _
    rw [getA_filter h.ok]
    unfold goneG
    cases e : getA P.kep x with
    | none => simp
    | some u =>
      simp only [Option.filter, Option.elim_some]
      by_cases hle : firstG P ≤ u.upto
      · have h2 : ¬ u.upto < firstG P := by omega
        simp [hle, h2]
      · have h2 : u.upto < firstG P := by omega
        simp only [hle, decide_false, h2, decide_true]
        simp
  refine ⟨h.now, h.beg, h.H, ?_, h.oa, h.ok.filter _, h.of.filter _, List.Nodup.sublist (hsub.map _) h.nd, h.m0, fun t ht => h.rg t (hsub.subset ht), fun x s => ?_, fun x k hk => ?_, fun t ht h0 => ?_, fun t ht => ?_, fun x f hf => ?_, fun t ht => h.wr0 t (hsub.subset ht), fun x hx => ?_, fun n hn => ?_, h.na, ?_⟩
  · show P.L.filter (fun n => !goneG P (firstG P) n.1) = (S.list.filter fun t => !neededP S.list t).foldl (fun L t => dropN L t.num) S.L
    rw [drops_filter _ _ fun t ht => h.pos t (List.mem_filter.1 ht).1, h.L]
    refine List.filter_congr fun n hn => ?_
    obtain ⟨t, ht, e⟩ := h.ll n hn
    congr 1
    rw [← e]
    cases e2 : goneG P (firstG P) t.num with
    | true =>
      have := (h.gone ht).1 e2
      symm
      rw [List.any_eq_true]
      exact ⟨t, List.mem_filter.2 ⟨ht, by rw [this]; rfl⟩, by simp⟩
    | false =>
      symm
      rw [List.any_eq_false]
      intro u hu e3
      obtain ⟨h1, h2⟩ := List.mem_filter.1 hu
      have := nums_inj h.nd ht h1 (by simpa using e3)
      subst this
      have h3 := ((hm t).1 ((hng t ht).1 e2)).2
      rw [h3] at h2; cases h2
  · rw [show (sweepG P (firstG P)).act = P.act from rfl, h.act]
    constructor
    · rintro ⟨t, ht, h1, h2⟩
      exact ⟨t, hlive t ht h1, h1, h2⟩
    · rintro ⟨t, ht, h1, h2⟩
      exact ⟨t, hsub.subset ht, h1, h2⟩
  · obtain ⟨h1, h2⟩ := (hkf x k).1 hk
    obtain ⟨t, ht, h3, h4, h5, h6, h7⟩ := h.kep1 x k h1
    exact ⟨t, (hng t ht).1 (by rw [h4]; exact h2), h3, h4, h5, h6, fun u hu => h7 u (hsub.subset hu)⟩
  · obtain ⟨k, hk⟩ := h.kep2 t (hsub.subset ht) h0
    exact ⟨k, (hkf _ _).2 ⟨hk, (hng t (hsub.subset ht)).2 ht⟩⟩
  · have h1 := h.flg1 t (hsub.subset ht)
    have h2 := (hng t (hsub.subset ht)).2 ht
    unfold flgOf at h1 ⊢
    rw [← h1]
    show (getA (P.flg.filter fun p => !goneG P (firstG P) p.1) t.num).getD _ = _
    rw [getA_filter h.of]
    cases e : getA P.flg t.num with
    | none => rfl
    | some f => simp [Option.filter, h2]
  · have hf : getA (P.flg.filter fun p => !goneG P (firstG P) p.1) x = some f := hf
    rw [getA_filter h.of] at hf
    cases e : getA P.flg x with
    | none => rw [e] at hf; cases hf
    | some g =>
      rw [e] at hf
      obtain ⟨t, ht, e2⟩ := h.flg2 x g e
      refine ⟨t, (hng t ht).1 ?_, e2⟩
      rw [e2]
      cases e3 : goneG P (firstG P) x with
      | false => rfl
      | true => simp [Option.filter, e3] at hf
  · obtain ⟨t, ht, h1, h2⟩ := h.hh x hx
    exact ⟨t, hlive t ht h1, h1, h2⟩
  · have hL : n ∈ S.L ∧ ∀ t ∈ S.list, t ∉ (sweepP S).list → n.1 ≠ t.num := ((sweep_is h.pos).L n).1 hn
    obtain ⟨t, ht, e⟩ := h.ll n hL.1
    by_cases h1 : t ∈ (sweepP S).list
    · exact ⟨t, h1, e⟩
    · exact absurd e.symm (hL.2 t ht h1)
  · have h1 : (P.kep.filter fun p => decide (firstG P ≤ p.2.upto)).length ≤ P.kep.length := List.length_filter_le _ _
    have h2 := h.nk
    show ((P.kep.filter fun p => decide (firstG P ≤ p.2.upto)).length : Int) ≤ c.kept
    omega
end
end Go.Proofs.YtknppiebncdjmaaGreat

namespace Go.Proofs.YtknppiebncdjmaaGreat
set_option maxRecDepth 100000

section
variable {c : Cp10} {P : Pg} {S : St10}
theorem Sim10.setHL (h : Sim10 c P S) {H1 : List Hd} {L1 : List Nt} (hh : ∀ h ∈ H1, ∃ t ∈ S.list, t.ended = 0 ∧ t.num = h.2) (ll : ∀ n ∈ L1, ∃ t ∈ S.list, t.num = n.1) : Sim10 c { P with H := H1, L := L1 } { S with H := H1, L := L1 } :=
  ⟨h.now, h.beg, rfl, rfl, h.oa, h.ok, h.of, h.nd, h.m0, h.rg, h.act, h.kep1, h.kep2, h.flg1, h.flg2, h.wr0, hh, ll, h.na, h.nk⟩
theorem Sim10.abort (h : Sim10 c P S) {i : Nat} {t : Tx10} (hi : S.list[i]? = some t) (h0 : t.ended = 0) : Sim10 c (abortG P t.num) (abortP S i) := by
  have ht := List.mem_of_getElem? hi
  have hp := h.pos t ht
  have he := erase_mem h.nd hi
  unfold abortP
  rw [hi]
  simp only
  unfold abortG endG
  refine Sim10.sweep ⟨h.now, h.beg, ?_, ?_, h.oa.del _, h.ok, h.of.del _, List.Nodup.sublist ((List.eraseIdx_sublist ..).map _) h.nd, h.m0, fun u hu => h.rg u ((he u).1 hu).1, fun x s => ?_, fun x k hk => ?_, fun u hu h1 => h.kep2 u ((he u).1 hu).1 h1, fun u hu => ?_, fun x f hf => ?_, fun u hu => h.wr0 u ((he u).1 hu).1, fun x hx => ?_, fun n hn => ?_, ?_, h.nk⟩
  · show releaseP P.H t.num = releaseP S.H t.num
    rw [h.H]
  · show dropN P.L t.num = dropN S.L t.num
    rw [h.L]
  · show getA (delA P.act t.num) x = some s ↔ _
    rw [getA_del h.oa]
    by_cases e : x = t.num
    · rw [if_pos e]
      constructor
      · intro e2; cases e2
      · rintro ⟨u, hu, -, h2, -⟩
        exact absurd (h2.trans e) ((he u).1 hu).2
    · rw [if_neg e, h.act]
      constructor
      · rintro ⟨u, hu, h1, h2, h3⟩
        exact ⟨u, (he u).2 ⟨hu, fun e2 => e (h2.symm.trans e2)⟩, h1, h2, h3⟩
      · rintro ⟨u, hu, h1⟩
        exact ⟨u, ((he u).1 hu).1, h1⟩
  · obtain ⟨u, hu, h1, h2, h3, h4, h5⟩ := h.kep1 x k hk
    refine ⟨u, (he u).2 ⟨hu, fun e => ?_⟩, h1, h2, h3, h4, fun v hv => h5 v ((he v).1 hv).1⟩
    have := nums_inj h.nd hu ht e
    subst this
    omega
  · obtain ⟨h1, h2⟩ := (he u).1 hu
    have := h.flg1 u h1
    unfold flgOf at this ⊢
    show (getA (delA P.flg t.num) u.num).getD _ = _
    rw [getA_del h.of, if_neg h2]
    exact this
  · have hf : getA (delA P.flg t.num) x = some f := hf
    rw [getA_del h.of] at hf
    by_cases e : x = t.num
    · rw [if_pos e] at hf; cases hf
    · rw [if_neg e] at hf
      obtain ⟨u, hu, h1⟩ := h.flg2 x f hf
      exact ⟨u, (he u).2 ⟨hu, by rw [h1]; exact e⟩, h1⟩
  · obtain ⟨x1, x2⟩ := x
    obtain ⟨h1, h2⟩ := release_mem.1 (show (x1, x2) ∈ releaseP S.H t.num from hx)
    obtain ⟨u, hu, h3, h4⟩ := h.hh _ h1
    exact ⟨u, (he u).2 ⟨hu, by rw [h4]; exact h2⟩, h3, h4⟩
  · obtain ⟨h1, h2⟩ := (dropN_mem hp).1 (show n ∈ dropN S.L t.num from hn)
    obtain ⟨u, hu, h3⟩ := h.ll n h1
    exact ⟨u, (he u).2 ⟨hu, by rw [h3]; exact h2⟩, h3⟩
  · have h1 := del_lenA (l := P.act) t.num
    have h2 := h.na
    show ((delA P.act t.num).length : Int) ≤ c.act
    omega
def ow (out : Bool) : Bool × Bool := if out = true then (false, true) else (true, false)
def th (out : Bool) : Bool × Bool := if out = true then (true, false) else (false, true)
structure OsIs (P : Pg) (S : St10) (i : Nat) (tx : Int) (os : List Int) (others : List Nat) : Prop where
  iff : ∀ x, (x ∈ os ∧ x ≠ tx ∧ concG P tx x = true) ↔ ∃ o ∈ others, ∃ u, S.list[o]? = some u ∧ u.num = x
  ne : ∀ o ∈ others, o ≠ i ∧ ∃ u, S.list[o]? = some u
theorem Sim10.put (h : Sim10 c P S) {i : Nat} {t : Tx10} (hi : S.list[i]? = some t) (h0 : t.ended = 0) {os : List Int} {others : List Nat} (hos : OsIs P S i t.num os others) (out : Bool) :
    (dependG P t.num os (ow out) (th out)).1 = (putP10 S i others out).1 ∧ Sim10 c (dependG P t.num os (ow out) (th out)).2 (putP10 S i others out).2 := by
  obtain ⟨oT, gT⟩ := thens_get P t.num (ow out) (th out) os
  have hany : (os.any (fun o => decide (o ≠ t.num) && concG P t.num o) = true) ↔ others ≠ [] := by
    rw [List.any_eq_true]
    constructor
    · rintro ⟨x, hx, e⟩
      rw [Bool.and_eq_true, decide_eq_true_eq] at e
      obtain ⟨o, ho, -⟩ := (hos.iff x).1 ⟨hx, e.1, e.2⟩
      exact List.ne_nil_of_mem ho
    · intro hn
      obtain ⟨o, ho⟩ := List.exists_mem_of_ne_nil _ hn
      obtain ⟨-, u, hu⟩ := hos.ne o ho
      obtain ⟨a, b, d⟩ := (hos.iff u.num).2 ⟨o, ho, u, hu, rfl⟩
      exact ⟨u.num, a, by rw [Bool.and_eq_true, decide_eq_true_eq]; exact ⟨b, d⟩⟩
  obtain ⟨T, hT⟩ : ∃ T, thensG P t.num (ow out) (th out) os = T := ⟨_, rfl⟩
  rw [hT] at oT gT
  have hin : ∀ (j : Nat) (u : Tx10), S.list[j]? = some u → j ≠ i → (u.num ∈ os ∧ concG P t.num u.num = true ↔ j ∈ others) := by
    intro j u hj hji
    have hne : u.num ≠ t.num := fun e => hji (idx_inj h.nd hj hi e)
    constructor
    · rintro ⟨a, b⟩
      obtain ⟨o, ho, v, hv, e⟩ := (hos.iff u.num).1 ⟨a, hne, b⟩
      rw [idx_inj h.nd hj hv e.symm]; exact ho
    · intro hm
      obtain ⟨a, -, b⟩ := (hos.iff u.num).2 ⟨j, hm, u, hj, rfl⟩
      exact ⟨a, b⟩
  have hii : i ∉ others := fun hm => (hos.ne i hm).1 rfl
  have hflag : ∀ (j : Nat) (u : Tx10), S.list[j]? = some u → (getA T u.num).getD (flgOf P u.num) = ((flagT out i others j u).fin, (flagT out i others j u).fout) := by
    intro j u hj
    rw [gT]
    by_cases hji : j = i
    · subst hji
      rw [hi] at hj; cases hj
      rw [if_pos rfl, Option.getD_some, h.flg1 t (List.mem_of_getElem? hi)]
      have hno : (others.any fun x => decide (x = j)) = false := by
        rw [List.any_eq_false]
        intro x hx e
        exact hii (by rw [← (show x = j by simpa using e)]; exact hx)
      by_cases hn : others = []
      · have : ¬ (os.any (fun o => decide (o ≠ t.num) && concG P t.num o) = true) := fun e => (hany.1 e) hn
        rw [if_neg this]
        unfold flagT
        subst hn
        cases out <;> simp
      · rw [if_pos (hany.2 hn)]
        have he : others.isEmpty = false := by cases others with | nil => exact absurd rfl hn | cons => rfl
        unfold flagT orF ow
        cases out <;> simp [he, hno]
    · have hne : u.num ≠ t.num := fun e => hji (idx_inj h.nd hj hi e)
      rw [if_neg hne]
      have hx := hin j u hj hji
      by_cases hm : j ∈ others
      · rw [if_pos (hx.2 hm), Option.getD_some, h.flg1 u (List.mem_of_getElem? hj)]
        have ha : (others.any fun x => decide (x = j)) = true := List.any_eq_true.2 ⟨j, hm, by simp⟩
        unfold flagT orF th
        cases out <;> simp [ha, hji]
      · rw [if_neg (fun e => hm (hx.1 e)), Option.getD_none, h.flg1 u (List.mem_of_getElem? hj)]
        have ha : (others.any fun x => decide (x = j)) = false := by
          rw [List.any_eq_false]
          intro x hx2 e
          exact hm (by rw [← (show x = j by simpa using e)]; exact hx2)
        unfold flagT
        cases out <;> simp [ha, hji]
  have hTin : ∀ x f, getA T x = some f → x = t.num ∨ ∃ o ∈ others, ∃ u, S.list[o]? = some u ∧ u.num = x := by
    intro x f hf
    rw [gT] at hf
    by_cases e : x = t.num
    · exact .inl e
    · rw [if_neg e] at hf
      by_cases e2 : x ∈ os ∧ concG P t.num x = true
      · exact .inr ((hos.iff x).1 ⟨e2.1, e, e2.2⟩)
      · rw [if_neg e2] at hf; cases hf
  have hTt : ∀ (j : Nat) (u : Tx10), S.list[j]? = some u → (j = i ∨ j ∈ others) → ∃ f, getA T u.num = some f ∧ f = ((flagT out i others j u).fin, (flagT out i others j u).fout) := by
    intro j u hj hm
    have hf := hflag j u hj
    have hs : ∃ f, getA T u.num = some f := by
      rw [gT]
      rcases hm with rfl | hm
      · rw [hi] at hj; cases hj
        rw [if_pos rfl]; exact ⟨_, rfl⟩
      · have hji : j ≠ i := fun e => hii (e ▸ hm)
        have hne : u.num ≠ t.num := fun e => hji (idx_inj h.nd hj hi e)
        rw [if_neg hne, if_pos ((hin j u hj hji).2 hm)]; exact ⟨_, rfl⟩
    obtain ⟨f, e⟩ := hs
    rw [e, Option.getD_some] at hf
    exact ⟨f, e, hf⟩
  have hbad : badG P t.num T = badP (others.foldl (flagP out i) S.list) i others := by
    rw [Bool.eq_iff_iff]
    unfold badG badP bothP
    rw [List.any_eq_true, Bool.or_eq_true, List.any_eq_true]
    constructor
    · rintro ⟨⟨x, f⟩, hm, e⟩
      rw [Bool.and_eq_true, Bool.or_eq_true, decide_eq_true_eq] at e
      obtain ⟨e1, e2⟩ := e
      have hg := (getA_some oT).2 hm
      have case1 : x = t.num → ((others.foldl (flagP out i) S.list)[i]?).elim false (fun t => t.fin && t.fout) = true := fun ex => by
        obtain ⟨f', g1, g2⟩ := hTt i t hi (.inl rfl)
        have ex : x = t.num := ex
        rw [ex, g1] at hg; cases hg
        rw [flags_get, hi]
        simp only [Option.map_some, Option.elim_some]
        have e1 : bothF f = true := e1
        rw [g2] at e1
        exact e1
      by_cases ex : x = t.num
      · exact .inl (case1 ex)
      · rcases e2 with e2 | e2
        · exact absurd e2 ex
        · rcases hTin x f hg with ex2 | ⟨o, ho, u, hu, eu⟩
          · exact absurd ex2 ex
          · refine .inr ⟨o, ho, ?_⟩
            obtain ⟨f', g1, g2⟩ := hTt o u hu (.inr ho)
            rw [eu, hg] at g1; cases g1
            rw [flags_get, hu]
            simp only [Option.map_some, Option.elim_some]
            have hend : 0 < u.ended := by
              have hum := List.mem_of_getElem? hu
              have h1 := (h.rg u hum).2.2.1
              by_cases e0 : u.ended = 0
              · have := (h.isa x).2 ⟨u, hum, e0, eu⟩
                rw [this] at e2; cases e2
              · omega
            have e1 : bothF f = true := e1
            rw [g2] at e1
            have e1' : ((flagT out i others o u).fin && (flagT out i others o u).fout) = true := e1
            rw [(flagT_same out i others o u).2.2.2.1, Bool.and_assoc, e1']
            simpa using hend
    · rintro (e | ⟨o, ho, e⟩)
      · obtain ⟨f', g1, g2⟩ := hTt i t hi (.inl rfl)
        refine ⟨(t.num, f'), getA_mem g1, ?_⟩
        rw [flags_get, hi] at e
        simp only [Option.map_some, Option.elim_some] at e
        rw [g2]
        show (bothF _ && (decide (t.num = t.num) || _)) = true
        unfold bothF
        rw [e]; simp
      · obtain ⟨-, u, hu⟩ := hos.ne o ho
        obtain ⟨f', g1, g2⟩ := hTt o u hu (.inr ho)
        refine ⟨(u.num, f'), getA_mem g1, ?_⟩
        rw [flags_get, hu] at e
        simp only [Option.map_some, Option.elim_some] at e
        rw [(flagT_same out i others o u).2.2.2.1, Bool.and_assoc, Bool.and_eq_true, decide_eq_true_eq] at e
        have hna : isAct P u.num = false := by
          cases ha : isAct P u.num with
          | false => rfl
          | true =>
            obtain ⟨v, hv, a, b⟩ := (h.isa u.num).1 ha
            have := nums_inj h.nd hv (List.mem_of_getElem? hu) b
            subst this
            omega
        rw [g2]
        show (bothF _ && (decide (u.num = t.num) || !isAct P u.num)) = true
        unfold bothF
        rw [e.2, hna]; simp
  unfold dependG putP10
  rw [hT, hbad]
  by_cases hb : badP (others.foldl (flagP out i) S.list) i others = true
  · rw [if_pos hb, if_pos hb]
    exact ⟨rfl, h.abort hi h0⟩
  · rw [if_neg hb, if_neg hb]
    have hmem := fun u' hu' => flags_mem (out := out) (k := i) (others := others) (l := S.list) (u' := u') hu'
    refine ⟨rfl, h.now, h.beg, h.H, h.L, h.oa, h.ok, copy_once _ _ h.of, ?_, h.m0, fun u' hu' => ?_, fun x s => ?_, fun x k hk => ?_, fun u' hu' h1 => ?_, fun u' hu' => ?_, fun x f hf => ?_, fun u' hu' h1 => ?_, fun x hx => ?_, fun n hn => ?_, h.na, h.nk⟩
    · show ((others.foldl (flagP out i) S.list).map (·.num)).Nodup
      rw [flags_nums]; exact h.nd
    · obtain ⟨o, u, -, -, hu, e1, e2, e3, e4, -⟩ := hmem u' hu'
      rw [e1, e2, e3, e4]; exact h.rg u hu
    · show getA P.act x = some s ↔ _
      rw [h.act]
      constructor
      · rintro ⟨u, hu, a, b, d⟩
        obtain ⟨u', hu', e1, e2, e3, e4, -⟩ := flags_to (out := out) (k := i) (others := others) hu
        exact ⟨u', hu', e4.trans a, e1.trans b, e2.trans d⟩
      · rintro ⟨u', hu', a, b, d⟩
        obtain ⟨o, u, -, -, hu, e1, e2, e3, e4, -⟩ := hmem u' hu'
        exact ⟨u, hu, e4.symm.trans a, e1.symm.trans b, e2.symm.trans d⟩
    · obtain ⟨u, hu, h1, h2, h3, h4, h5⟩ := h.kep1 x k hk
      obtain ⟨u', hu', e1, e2, e3, e4, e5⟩ := flags_to (out := out) (k := i) (others := others) hu
      refine ⟨u', hu', by rw [e4]; exact h1, e1.trans h2, e5.trans h3, h4, fun v' hv' hv0 => ?_⟩
      obtain ⟨o, v, -, -, hv, f1, f2, f3, f4, -⟩ := hmem v' hv'
      rw [f3, e4, f1]
      exact h5 v hv (f4.symm.trans hv0)
    · obtain ⟨o, u, -, -, hu, e1, e2, e3, e4, -⟩ := hmem u' hu'
      rw [e1]
      exact h.kep2 u hu (by rw [← e4]; exact h1)
    · obtain ⟨o, u, ho, eu, hu, e1, -⟩ := hmem u' hu'
      have hf := hflag o u ho
      unfold flgOf at hf ⊢
      show (getA (copyG P.flg T) u'.num).getD (false, false) = _
      rw [copy_get T P.flg h.of oT, e1, eu, ← hf]
      cases getA T u.num <;> rfl
    · have hf : getA (copyG P.flg T) x = some f := hf
      rw [copy_get T P.flg h.of oT] at hf
      have hx : ∃ u ∈ S.list, u.num = x := by
        cases e : getA T x with
        | none => rw [e] at hf; exact h.flg2 x f hf
        | some g =>
          rcases hTin x g e with ex | ⟨o, ho, u, hu, eu⟩
          · exact ⟨t, List.mem_of_getElem? hi, ex.symm⟩
          · exact ⟨u, List.mem_of_getElem? hu, eu⟩
      obtain ⟨u, hu, e⟩ := hx
      obtain ⟨u', hu', e1, -⟩ := flags_to (out := out) (k := i) (others := others) hu
      exact ⟨u', hu', e1.trans e⟩
    · obtain ⟨o, u, -, -, hu, e1, e2, e3, e4, e5⟩ := hmem u' hu'
      rw [e5]; exact h.wr0 u hu (e4.symm.trans h1)
    · obtain ⟨u, hu, a, b⟩ := h.hh x hx
      obtain ⟨u', hu', e1, e2, e3, e4, -⟩ := flags_to (out := out) (k := i) (others := others) hu
      exact ⟨u', hu', e4.trans a, e1.trans b⟩
    · obtain ⟨u, hu, a⟩ := h.ll n hn
      obtain ⟨u', hu', e1, -⟩ := flags_to (out := out) (k := i) (others := others) hu
      exact ⟨u', hu', e1.trans a⟩
end
end Go.Proofs.YtknppiebncdjmaaGreat

namespace Go.Proofs.YtknppiebncdjmaaGreat
set_option maxRecDepth 100000
open Go.RowKit Go.Maps Go.ChangeMaps Go.MapKept

def keyLit (l : Lk) : Lit := .string (keyBytes [.string l.1.data.toList, .string l.2.data.toList])
def Sz (l : Lk) : Prop := l.1.size ≤ maxLen ∧ l.2.size ≤ maxLen
theorem keyOf_lk {l : Lk} (h : Sz l) : keyOf Tryz.prog 42 (lkV l) = some (keyLit l) := by
  have hs : Tryz.prog.underlying 42 = some (.struct (Tryz.prog.fieldsOf 42)) := by kernel_rfl
  have hk : Tryz.prog.keyType 42 = true := by kernel_rfl
  have hc : Tryz.prog.cellsOf 42 = 2 := by kernel_rfl
  have hc1 : Tryz.prog.cellsOf 9 = 1 := by kernel_rfl
  have hn : (Tryz.prog.fieldsOf 42).all (·.name != "_") = true := by kernel_rfl
  have hf : (Tryz.prog.fieldsOf 42).toList.map (fun f => (f.type, f.offset)) = [(9, 0), (9, 1)] := by kernel_rfl
  obtain ⟨n, hsz⟩ : ∃ n, Tryz.prog.types.size = n + 1 := ⟨Tryz.prog.types.size - 1, by have : 0 < Tryz.prog.types.size := of_decide_eq_true (by kernel_rfl); omega⟩
  have hw : (lkV l).formed Tryz.prog 42 = true := by simp [lkV, Value.formed, hs, hc]
  have hl : Tryz.prog.keyLits (Tryz.prog.types.size + 1) 42 (lkV l).cells.toList = some [.string l.1.data.toList, .string l.2.data.toList] := by
    rw [hsz]
    unfold Program.keyLits
    rw [hs]
    simp only [lkV, Value.cells, List.length_cons, List.length_nil, hc, hn]
    generalize (Tryz.prog.fieldsOf 42).toList = fs at hf
    obtain ⟨f, fs1, rfl, hf1, hf⟩ := List.map_eq_cons_iff.1 hf
    obtain ⟨g, fs2, rfl, hg1, hf⟩ := List.map_eq_cons_iff.1 hf
    have : fs2 = [] := by simpa using hf
    subst this
    simp only [Prod.mk.injEq] at hf1 hg1
    obtain ⟨f2, f3⟩ := hf1
    obtain ⟨g2, g3⟩ := hg1
    have k1 : ∀ s : ByteArray, s.size ≤ maxLen → Tryz.prog.keyLits (n + 1) 9 [.string s] = some [.string s.data.toList] := fun s h => by
      unfold Program.keyLits
      rw [Tryz.underlying9]
      simp [h]
    simp [f2, f3, g2, g3, hc1, k1 _ h.1, k1 _ h.2]
  unfold keyOf
  rw [hs]
  simp only [hk, hw, hl, Bool.and_self, if_true, Option.map_some]
  rfl
theorem lawLk : Keyed Tryz.prog 42 := Keyed.of_law (deep_law_laid (by kernel_rfl) (m := 3) (by omega) (of_decide_eq_true (by kernel_rfl)) (by kernel_rfl) (by kernel_rfl))
theorem keyLit_inj {a b : Lk} (ha : Sz a) (hb : Sz b) (h : keyLit a = keyLit b) : a = b := by
  have h1 := keyOf_lk ha
  have h2 := keyOf_lk hb
  rw [h] at h1
  have := lawLk.inj h1 h2
  unfold lkV at this
  simp only [Value.agg.injEq, Array.mk.injEq, List.cons.injEq, Value.string.injEq, and_true] at this
  exact Prod.ext this.1 this.2
theorem keyLit_is (l : Lk) : WideAt.IsKeyLit (keyLit l) := trivial
end Go.Proofs.YtknppiebncdjmaaGreat

namespace Go.Proofs.YtknppiebncdjmaaGreat
set_option maxRecDepth 100000
open Go.RowKit Go.Maps Go.ChangeMaps Go.MapKept

theorem holder_app (hs : List Hd) (l : Lk) (tx : Int) (k : Lk) : holderP (hs ++ [(l, tx)]) k = if k = l then some ((holderP hs k).getD tx) else holderP hs k := by
  unfold holderP
  rw [List.find?_append]
  cases h : hs.find? (fun h => lkEq h.1 k) with
  | some x => by_cases e : k = l <;> simp [e]
  | none =>
    by_cases e : k = l
    · subst e; simp [lkEq_is]
    · simp [lkEq_is, e, Ne.symm e]
theorem holder_but (hs : List Hd) (l k : Lk) : holderP (hs.filter fun h => !decide (h.1 = l)) k = if k = l then none else holderP hs k := by
  induction hs with
  | nil => simp [holderP]
  | cons x hs ih =>
    unfold holderP at ih ⊢
    by_cases hx : x.1 = l
    · rw [List.filter_cons_of_neg (by simp [hx]), ih]
      by_cases e : k = l
      · simp [e]
      · rw [if_neg e, if_neg e, List.find?_cons_of_neg (by rw [lkEq_is, hx]; simpa using Ne.symm e)]
    · rw [List.filter_cons_of_pos (by simp [hx])]
      by_cases e2 : x.1 = k
      · rw [List.find?_cons_of_pos (by rw [lkEq_is]; simpa using e2), List.find?_cons_of_pos (by rw [lkEq_is]; simpa using e2)]
        rw [if_neg (by rw [← e2]; exact hx)]
      · rw [List.find?_cons_of_neg (by rw [lkEq_is]; simpa using e2), ih, List.find?_cons_of_neg (by rw [lkEq_is]; simpa using e2)]

structure View (D : DataW Unit) (hs : List Hd) : Prop where
  once : Once hs
  sz : ∀ h ∈ hs, Sz h.1
  wf : ∀ h ∈ hs, (Lit.int .i64 h.2).wf = true
  tidy : Tidy D
  size : Maps.size D = hs.length
  has : ∀ l, Sz l → Maps.has D (keyLit l) = (holderP hs l).isSome
  at_ : ∀ l, Sz l → D.atKey (keyLit l) (.lit (.int .i64 0)) = .lit (.int .i64 ((holderP hs l).getD 0))
theorem View.nil : View (.map []) [] := ⟨Once.nil, by simp, by simp, tidy_empty, rfl, fun l _ => rfl, fun l _ => rfl⟩
theorem View.put {D : DataW Unit} {hs : List Hd} (h : View D hs) {l : Lk} {tx : Int} (hl : Sz l) (ht : (Lit.int .i64 tx).wf = true) (hn : holderP hs l = none) : View (D.put (keyLit l) (.lit (.int .i64 tx))) (hs ++ [(l, tx)]) := by
  have hhas := h.has l hl
  rw [hn] at hhas
  refine ⟨?_, fun x hx => ?_, fun x hx => ?_, h.tidy.put (keyLit_is l) _, ?_, fun k hk => ?_, fun k hk => ?_⟩
  · show ((hs ++ [(l, tx)]).map (·.1)).Nodup
    rw [List.map_append, List.map_cons, List.map_nil]
    refine List.nodup_append.2 ⟨h.once, by simp, fun a ha b hb => ?_⟩
    rw [List.mem_singleton.1 hb]
    rintro rfl
    obtain ⟨x, hx, e⟩ := List.mem_map.1 ha
    exact holder_none.1 hn x.2 (by rw [← e]; exact hx)
  · rcases List.mem_append.1 hx with e | e
    · exact h.sz x e
    · rw [List.mem_singleton.1 e]; exact hl
  · rcases List.mem_append.1 hx with e | e
    · exact h.wf x e
    · rw [List.mem_singleton.1 e]; exact ht
  · rw [size_put h.tidy, hhas, h.size]; simp
  · rw [holder_app]
    by_cases e : k = l
    · subst e; rw [has_put_same h.tidy.isMap (keyLit_is _), if_pos rfl]; rfl
    · rw [has_put_other (fun e2 => e (keyLit_inj hk hl e2)), if_neg e]; exact h.has k hk
  · rw [holder_app]
    by_cases e : k = l
    · subst e; rw [atKey_put_same h.tidy.isMap (keyLit_is _), if_pos rfl, hn]; rfl
    · rw [atKey_put_other (fun e2 => e (keyLit_inj hk hl e2)), if_neg e]; exact h.at_ k hk
theorem but_len {hs : List Hd} (h : Once hs) {l : Lk} {tx : Int} (hm : (l, tx) ∈ hs) : (hs.filter fun h => !decide (h.1 = l)).length + 1 = hs.length := by
  induction hs with
  | nil => cases hm
  | cons x hs ih =>
    obtain ⟨n1, n2⟩ := List.nodup_cons.1 (show (x.1 :: hs.map (·.1)).Nodup from h)
    by_cases e : x.1 = l
    · rw [List.filter_cons_of_neg (by simp [e])]
      have : (hs.filter fun h => !decide (h.1 = l)) = hs := List.filter_eq_self.2 fun y hy => by
        have : y.1 ≠ l := fun e2 => n1 (List.mem_map.2 ⟨y, hy, by rw [e2, e]⟩)
        simpa using this
      rw [this]; rfl
    · rw [List.filter_cons_of_pos (by simp [e])]
      rcases List.mem_cons.1 hm with e2 | e2
      · exact absurd (by rw [← e2]) e
      · simp only [List.length_cons]
        rw [ih n2 e2]
theorem View.del {D : DataW Unit} {hs : List Hd} (h : View D hs) {l : Lk} {tx : Int} (hl : Sz l) (hm : (l, tx) ∈ hs) : View (D.del (keyLit l)) (hs.filter fun h => !decide (h.1 = l)) := by
  have hhas := h.has l hl
  rw [(holder_some h.once).2 hm] at hhas
  refine ⟨List.Nodup.sublist (List.Sublist.map _ List.filter_sublist) h.once, fun x hx => h.sz x (List.mem_filter.1 hx).1, fun x hx => h.wf x (List.mem_filter.1 hx).1, h.tidy.del _, ?_, fun k hk => ?_, fun k hk => ?_⟩
  · have h1 := size_del (k := keyLit l) h.tidy
    rw [hhas, h.size] at h1
    have h2 := but_len h.once hm
    simp at h1
    omega
  · rw [holder_but]
    by_cases e : k = l
    · subst e; rw [has_del_same, if_pos rfl]; rfl
    · rw [has_del_other (fun e2 => e (keyLit_inj hk hl e2)), if_neg e]; exact h.has k hk
  · rw [holder_but]
    by_cases e : k = l
    · subst e; rw [atKey_del_same, if_pos rfl]; rfl
    · rw [atKey_del_other (fun e2 => e (keyLit_inj hk hl e2)), if_neg e]; exact h.at_ k hk
theorem View.perm {D : DataW Unit} {hs hs2 : List Hd} (h : View D hs) (h2 : Once hs2) (hm : ∀ x, x ∈ hs2 ↔ x ∈ hs) (hl : hs2.length = hs.length) : View D hs2 := by
  have hh : ∀ l, holderP hs2 l = holderP hs l := fun l => by
    cases e : holderP hs l with
    | none => exact holder_none.2 fun tx hx => holder_none.1 e tx ((hm _).1 hx)
    | some tx => exact (holder_some h2).2 ((hm _).2 ((holder_some h.once).1 e))
  exact ⟨h2, fun x hx => h.sz x ((hm x).1 hx), fun x hx => h.wf x ((hm x).1 hx), h.tidy, by rw [h.size, hl], fun l hl => by rw [hh]; exact h.has l hl, fun l hl => by rw [hh]; exact h.at_ l hl⟩

def MapAt (w : World) (r : Nat) (hs : List Hd) : Prop := ∃ D : DataW Unit, w.ownsMap Tryz.prog 42 (plainElem Tryz.prog 2) r hs.length D ∧ View D hs
theorem MapAt.block {w w' : World} {r : Nat} {hs : List Hd} (h : MapAt w r hs) (hb : w'.heap[r]? = w.heap[r]?) : MapAt w' r hs := by
  obtain ⟨D, ⟨es, clock, h1, h2⟩, hv⟩ := h
  exact ⟨D, ⟨es, clock, hb.trans h1, h2⟩, hv⟩
theorem MapAt.lt {w : World} {r : Nat} {hs : List Hd} (h : MapAt w r hs) : r < w.heap.size := by
  obtain ⟨D, ho, -⟩ := h
  exact ho.lt
theorem MapAt.new (w : World) : MapAt (w.alloc (.map #[] 0)) w.heap.size [] := ⟨_, World.ownsMap_made _ _ _ _, View.nil⟩
theorem MapAt.no {w : World} {r : Nat} {hs : List Hd} (h : MapAt w r hs) {cs : Array Value} {e : TypeId} {fr : Nat × Nat} {b : Nat} (hb : w.heap[b]? = some (.cells cs e fr)) : b ≠ r := by
  rintro rfl
  obtain ⟨D, ⟨es, clock, h1, -⟩, -⟩ := h
  rw [hb] at h1; cases h1
end Go.Proofs.YtknppiebncdjmaaGreat
