import Derived.Test.YtknppiebncdjmaaGreatJAG
import Derived.Test.YtknppiebncdjmaaGreatJAE
import Derived.Test.YtknppiebncdjmaaGreatJAA
set_option linter.unusedVariables false
namespace Go.Proofs.YtknppiebncdjmaaGreat
set_option maxRecDepth 100000
open Go.RowKit

def seR : SEl := ⟨111, 114, .agg #[.string ⟨#[]⟩, .int .i64 0, .string ⟨#[]⟩, .string ⟨#[]⟩], 4, 56⟩
theorem seR_ok : seR.Ok := ⟨by kernel_rfl, by kernel_rfl, by kernel_rfl, by decide, by decide, by decide⟩
def cellsR (ls : List Rd) : List Value := ls.flatMap rdC
theorem cellsR_len (ls : List Rd) : (cellsR ls).length = 4 * ls.length := by
  induction ls with
  | nil => rfl
  | cons p ps ih => simp only [cellsR, List.flatMap_cons, List.length_append, List.length_cons] at ih ⊢; rw [ih]; show 4 + _ = _; omega
theorem cellsR_cons (p : Rd) (ps : List Rd) : cellsR (p :: ps) = Value.string p.tb :: Value.int .i64 p.kd :: Value.string p.lo :: Value.string p.hi :: cellsR ps := by simp [cellsR, rdC]
theorem cellsR_app (a b : List Rd) : cellsR (a ++ b) = cellsR a ++ cellsR b := by simp [cellsR]
theorem cellsR_one (ps : List Rd) : ∀ u ∈ cellsR ps, u.oneCell' = true := by
  intro u hu
  simp only [cellsR, List.mem_flatMap] at hu
  obtain ⟨p, -, hu⟩ := hu
  simp [rdC] at hu
  rcases hu with rfl | rfl | rfl | rfl <;> rfl
theorem cellsR_at : ∀ (ps : List Rd) (j : Nat) (p : Rd), ps[j]? = some p → (cellsR ps)[4 * j]? = some (.string p.tb) ∧ (cellsR ps)[4 * j + 1]? = some (.int .i64 p.kd) ∧ (cellsR ps)[4 * j + 2]? = some (.string p.lo) ∧ (cellsR ps)[4 * j + 3]? = some (.string p.hi)
  | [], _, _, h => by cases h
  | q :: ps, 0, p, h => by cases h; rw [cellsR_cons]; exact ⟨rfl, rfl, rfl, rfl⟩
  | q :: ps, j + 1, p, h => by
    have := cellsR_at ps j p h
    rw [cellsR_cons]
    exact this
theorem SB.rd {w : World} {A : Option Addr} {L : List Rd} (h : SB w A (4 * L.length) (cellsR L)) {j : Nat} {p : Rd} (hp : L[j]? = some p) : ∃ g o, A = some ⟨g, o, none⟩ ∧ w.cell? ⟨g, o + j * 4, none⟩ = some (.string p.tb) ∧ w.cell? ⟨g, o + j * 4 + 1, none⟩ = some (.int .i64 p.kd) ∧ w.cell? ⟨g, o + j * 4 + 2, none⟩ = some (.string p.lo) ∧ w.cell? ⟨g, o + j * 4 + 3, none⟩ = some (.string p.hi) := by
  obtain ⟨a0, a1, a2, a3⟩ := cellsR_at L j p hp
  have hlt := (List.getElem?_eq_some_iff.1 hp).1
  obtain ⟨g, o, e, hc⟩ := h.cell (by omega)
  refine ⟨g, o, e, ?_, ?_, ?_, ?_⟩
  · have := hc _ _ a0; rwa [Nat.mul_comm] at this
  · have := hc _ _ a1; rwa [Nat.mul_comm, ← Nat.add_assoc] at this
  · have := hc _ _ a2; rwa [Nat.mul_comm, ← Nat.add_assoc] at this
  · have := hc _ _ a3; rwa [Nat.mul_comm, ← Nat.add_assoc] at this
def plR (l : List Rd) (x : Rd) : Nat := (l.takeWhile (aheadP · x)).length
def insR (l : List Rd) (x : Rd) : List Rd := l.take (plR l x) ++ [x] ++ l.drop (plR l x)
def hisR (hs : List Nt) (tx : Int) : List Rd := (hs.filter (fun h => decide (h.1 = tx))).map (·.2)
def ofP (hs : List Nt) (tx : Int) : List Rd := (hisR hs tx).foldl insR []
end Go.Proofs.YtknppiebncdjmaaGreat

namespace Go.Proofs.YtknppiebncdjmaaGreat
set_option maxRecDepth 100000

theorem cnt_perm {L M : List Nt} (h : L.Perm M) (p : Int × ByteArray) : cntR L p = cntR M p := (h.filter _).length_eq
theorem pair_perm {L M : List Nt} (h : L.Perm M) {p : Int × ByteArray} (hp : PairIs L L p) : PairIs M M p := by
  obtain ⟨n, hn, e⟩ := hp.from_
  refine ⟨⟨n, h.mem_iff.1 hn, e⟩, by rw [← cnt_perm h]; exact hp.two, fun m hm => ?_, fun m hm e => ?_⟩
  · rw [← cnt_perm h, ← cnt_perm h]; exact hp.most m (h.mem_iff.2 hm)
  · rw [← cnt_perm h, ← cnt_perm h] at e; exact hp.least m (h.mem_iff.2 hm) e
theorem coarsest_perm {L M : List Nt} (h : L.Perm M) : coarsestP L = coarsestP M := by
  rcases coarsest_is L with ⟨h1, h2⟩ | ⟨p, h1, hp⟩
  · rcases coarsest_is M with ⟨h3, -⟩ | ⟨q, h3, hq⟩
    · rw [h1, h3]
    · obtain ⟨n, hn, e⟩ := hq.from_
      have h4 := h2 n (h.mem_iff.2 hn)
      have h5 := hq.two
      rw [e, cnt_perm h] at h4
      omega
  · have hp2 := pair_perm h hp
    rcases coarsest_is M with ⟨h3, h4⟩ | ⟨q, h3, hq⟩
    · obtain ⟨n, hn, e⟩ := hp2.from_
      have h5 := h4 n hn
      have h6 := hp2.two
      rw [e] at h5
      omega
    · rw [h1, h3, pair_unique hp2 hq]
theorem coarse_perm {L M : List Nt} (h : L.Perm M) (t : Int) (tb : ByteArray) : (coarseP L t tb).Perm (coarseP M t tb) := (h.filter _).append_right _
theorem shrink_perm {most : Nat} : ∀ (f : Nat) {L M : List Nt}, L.Perm M → (shrinkP most f L = none ∧ shrinkP most f M = none) ∨ ∃ A B, shrinkP most f L = some A ∧ shrinkP most f M = some B ∧ A.Perm B
  | 0, L, M, h => by
    unfold shrinkP
    rw [h.length_eq]
    split
    · exact .inr ⟨L, M, rfl, rfl, h⟩
    · exact .inl ⟨rfl, rfl⟩
  | f + 1, L, M, h => by
    unfold shrinkP
    rw [h.length_eq, coarsest_perm h]
    split
    · exact .inr ⟨L, M, rfl, rfl, h⟩
    · cases coarsestP M with
      | none => exact .inl ⟨rfl, rfl⟩
      | some p => exact shrink_perm f (coarse_perm h _ _)
theorem any_perm {L M : List Nt} (h : L.Perm M) (f : Nt → Bool) : L.any f = M.any f := by
  cases h1 : M.any f with
  | true =>
    obtain ⟨n, hn, hf⟩ := List.any_eq_true.1 h1
    exact List.any_eq_true.2 ⟨n, h.mem_iff.2 hn, hf⟩
  | false =>
    rw [List.any_eq_false] at h1 ⊢
    exact fun n hn => h1 n (h.mem_iff.1 hn)
theorem note_perm {most : Nat} {L M : List Nt} (h : L.Perm M) (t : Int) (x : Rd) : (noteP most L t x).1 = (noteP most M t x).1 ∧ (noteP most L t x).2.Perm (noteP most M t x).2 := by
  unfold noteP
  by_cases h1 : t < 1 ∨ mayP x = false
  · rw [if_pos h1, if_pos h1]; exact ⟨rfl, h⟩
  · rw [if_neg h1, if_neg h1, any_perm h, h.length_eq]
    split
    · exact ⟨rfl, h⟩
    · rcases shrink_perm (most := most) (M.length + 1) (show (addP L t x).Perm (addP M t x) from (h.filter _).append_right _) with ⟨e1, e2⟩ | ⟨A, B, e1, e2, hp⟩
      · rw [e1, e2]; exact ⟨rfl, h⟩
      · rw [e1, e2]; exact ⟨rfl, hp⟩
theorem drop_perm {L M : List Nt} (h : L.Perm M) (t : Int) : (dropP L t).Perm (dropP M t) := h.filter _
theorem tx_unique {L : List Nt} {f : Nt → Bool} {m : List Int} (h : m.Pairwise (ltN · · = true)) (hm : ∀ y, y ∈ m ↔ ∃ n ∈ L, f n = true ∧ n.1 = y) : m = txP L f :=
  rise_unique h fun y => by
    rw [hm]
    simp only [List.mem_map, List.mem_filter]
    constructor
    · rintro ⟨n, h1, h2, h3⟩; exact ⟨n, ⟨h1, h2⟩, h3⟩
    · rintro ⟨n, ⟨h1, h2⟩, h3⟩; exact ⟨n, h1, h2, h3⟩
theorem tx_is (L : List Nt) (f : Nt → Bool) : (txP L f).Pairwise (ltN · · = true) ∧ ∀ y, y ∈ txP L f ↔ ∃ n ∈ L, f n = true ∧ n.1 = y := by
  refine ⟨(rise_is _).1, fun y => ?_⟩
  unfold txP
  rw [(rise_is _).2]
  simp only [List.mem_map, List.mem_filter]
  constructor
  · rintro ⟨n, ⟨h1, h2⟩, h3⟩; exact ⟨n, h1, h2, h3⟩
  · rintro ⟨n, h1, h2, h3⟩; exact ⟨n, ⟨h1, h2⟩, h3⟩
theorem tx_perm {L M : List Nt} (h : L.Perm M) (f : Nt → Bool) : txP L f = txP M f := tx_unique (tx_is L f).1 fun y => by
  rw [(tx_is L f).2]
  constructor
  · rintro ⟨n, hn, e⟩; exact ⟨n, h.mem_iff.1 hn, e⟩
  · rintro ⟨n, hn, e⟩; exact ⟨n, h.mem_iff.2 hn, e⟩
theorem Lean9.nodup {L : List Nt} (h : Lean9 L) (t : Int) : (hisR L t).Nodup := by
  unfold hisR
  have h2 := (h.filter fun n => decide (n.1 = t))
  rw [List.nodup_iff_pairwise_ne, List.pairwise_map]
  refine (List.Pairwise.imp_of_mem ?_ h2.lean)
  intro a b ha hb hc e
  have ea := (List.mem_filter.1 ha).2
  have eb := (List.mem_filter.1 hb).2
  simp only [decide_eq_true_eq] at ea eb
  have hself := covers_self (h2.may b hb).1
  have := (hc (ea.trans eb.symm)).1
  rw [e, hself] at this
  cases this
theorem of_is {L : List Nt} (h : Lean9 L) (t : Int) : (ofP L t).Pairwise (aheadP · · = true) ∧ ∀ y, y ∈ ofP L t ↔ (t, y) ∈ L := by
  have key : ∀ (l out : List Rd), out.Pairwise (aheadP · · = true) → l.Nodup → (∀ y ∈ l, y ∉ out) → (l.foldl insR out).Pairwise (aheadP · · = true) ∧ ∀ y, y ∈ l.foldl insR out ↔ y ∈ out ∨ y ∈ l := by
    intro l
    induction l with
    | nil => intro out h1 _ _; exact ⟨h1, by simp⟩
    | cons x l ih =>
      intro out h1 h2 h3
      obtain ⟨n1, n2⟩ := List.nodup_cons.1 h2
      have hx : ∀ y ∈ out, y ≠ x := fun y hy e => h3 x (by simp) (e ▸ hy)
      have i1 : (insR out x).Pairwise (aheadP · · = true) := ins_strict (lt := aheadP) ahead_tr ahead_tri h1 hx
      have i2 : ∀ y, y ∈ insR out x ↔ y ∈ out ∨ y = x := fun y => ins_mem out x y _
      obtain ⟨j1, j2⟩ := ih _ i1 n2 fun y hy hy2 => by
        rcases (i2 y).1 hy2 with e | e
        · exact h3 y (List.mem_cons_of_mem _ hy) e
        · exact n1 (e ▸ hy)
      refine ⟨j1, fun y => ?_⟩
      rw [List.foldl_cons, j2, i2, List.mem_cons, or_assoc]
  obtain ⟨h1, h2⟩ := key (hisR L t) [] List.Pairwise.nil (h.nodup t) (by simp)
  refine ⟨h1, fun y => ?_⟩
  unfold ofP
  rw [h2]
  unfold hisR
  simp only [List.mem_map, List.mem_filter, List.not_mem_nil, false_or]
  constructor
  · rintro ⟨n, ⟨h3, h4⟩, rfl⟩
    have : n.1 = t := by simpa using h4
    rw [← this]; exact h3
  · intro h3; exact ⟨(t, y), ⟨h3, by simp⟩, rfl⟩
theorem of_unique {L : List Nt} (h : Lean9 L) {t : Int} {m : List Rd} (hp : m.Pairwise (aheadP · · = true)) (hm : ∀ y, y ∈ m ↔ (t, y) ∈ L) : m = ofP L t :=
  strict_ext ahead_irr ahead_asy _ _ hp (of_is h t).1 fun y => (hm y).trans ((of_is h t).2 y).symm
theorem Lean9.perm {L M : List Nt} (h : Lean9 L) (hp : L.Perm M) : Lean9 M := by
  refine ⟨fun n hn => h.may n (hp.mem_iff.2 hn), ?_⟩
  exact h.lean.perm hp fun {a b} hab e => ⟨(hab e.symm).2, (hab e.symm).1⟩
theorem of_perm {L M : List Nt} (h : Lean9 L) (hp : L.Perm M) (t : Int) : ofP L t = ofP M t :=
  of_unique (h.perm hp) (of_is h t).1 fun y => ((of_is h t).2 y).trans hp.mem_iff
end Go.Proofs.YtknppiebncdjmaaGreat

namespace Go.Proofs.YtknppiebncdjmaaGreat
set_option maxRecDepth 100000

structure Tx10 where
  num : Int
  snap : Int
  begun : Int
  ended : Int
  fin : Bool
  fout : Bool
  wrote : List Lk
structure Cp10 where
  act : Int
  kept : Int
  reads : Nat
  locks : Int
structure St10 where
  last : Int
  next : Int
  mom : Int
  list : List Tx10
  L : List Nt
  H : List Hd
def liveT (t : Tx10) : Bool := decide (t.ended = 0)
def underP (l : List Tx10) (tx : Int) : Option Nat := l.findIdx? fun t => decide (t.num = tx) && liveT t
def activeP (l : List Tx10) : Nat := (l.filter liveT).length
def dropN (L : List Nt) (t : Int) : List Nt := if t < 1 then L else dropP L t
def neededP (l : List Tx10) (t : Tx10) : Bool := liveT t || l.any fun u => liveT u && decide (u.begun < t.ended)
def sweepP (S : St10) : St10 := { S with list := S.list.filter (neededP S.list), L := (S.list.filter fun t => !neededP S.list t).foldl (fun L t => dropN L t.num) S.L }
def abortP (S : St10) (i : Nat) : St10 := match S.list[i]? with
  | none => S
  | some t => sweepP { S with list := S.list.eraseIdx i, H := releaseP S.H t.num, L := dropN S.L t.num }
def setOut (l : List Tx10) (i : Nat) : List Tx10 := l.modify i fun t => { t with fout := true }
def setIn (l : List Tx10) (i : Nat) : List Tx10 := l.modify i fun t => { t with fin := true }
def flagP (out : Bool) (i : Nat) (l : List Tx10) (o : Nat) : List Tx10 := if out then setIn (setOut l i) o else setOut (setIn l i) o
def bothP (l : List Tx10) (i : Nat) : Bool := (l[i]?).elim false fun t => t.fin && t.fout
def badP (l : List Tx10) (i : Nat) (others : List Nat) : Bool := bothP l i || others.any fun o => (l[o]?).elim false fun t => decide (0 < t.ended) && t.fin && t.fout
def putP10 (S : St10) (i : Nat) (others : List Nat) (out : Bool) : Int × St10 :=
  let l := others.foldl (flagP out i) S.list
  if badP l i others then (100, abortP S i) else (0, { S with list := l })
def concP (l : List Tx10) (i o : Nat) : Bool := decide (i ≠ o) && (match l[i]?, l[o]? with
  | some t, some u => decide (u.ended = 0) || decide (t.begun < u.ended)
  | _, _ => false)
def wroteP (H : List Hd) (table lo hi : ByteArray) (t : Tx10) : Bool := (liveT t && (riseP (whoP H table lo hi)).any fun h => decide (h = t.num)) || t.wrote.any fun l => (l.1.toList == table.toList) && withinB l.2 lo hi
def writersP (S : St10) (i : Nat) (table lo hi : ByteArray) : List Nat := (List.range S.list.length).filter fun o => concP S.list i o && (S.list[o]?).elim false (wroteP S.H table lo hi)
def numP (l : List Tx10) (i : Nat) : Int := (l[i]?).elim 0 (·.num)
def snapP (l : List Tx10) (i : Nat) : Int := (l[i]?).elim 0 (·.snap)
def note10 (c : Cp10) (S : St10) (i : Nat) (x : Rd) (lo hi : ByteArray) : Int × St10 :=
  let r := noteP c.reads S.L (numP S.list i) x
  if r.1 ≠ 0 then (r.1, abortP { S with L := r.2 } i) else putP10 { S with L := r.2 } i (writersP { S with L := r.2 } i x.tb lo hi) true
def takenP (l : List Tx10) (i : Nat) (at_ : Lk) : Bool := (List.range l.length).any fun o => (l[o]?).elim false fun u => !liveT u && concP l i o && u.wrote.any fun w => lkEq w at_
def readersP (S : St10) (i : Nat) (at_ : Lk) : List Nat := (List.range S.list.length).filter fun o => concP S.list i o && decide (numP S.list o ∈ txP S.L fun n => hasP n.2 at_.1 at_.2)
def begin10 (c : Cp10) (S : St10) : (Int × Int × Int) × St10 :=
  if c.act ≤ (activeP S.list : Int) then ((0, 0, 4), S)
  else ((S.next + 1, S.last, 0), { S with next := S.next + 1, mom := S.mom + 1, list := S.list ++ [⟨S.next + 1, S.last, S.mom + 1, 0, false, false, []⟩] })
def read10 (c : Cp10) (S : St10) (tx : Int) (at_ : Lk) : Int × St10 := match underP S.list tx with
  | none => (101, S)
  | some i => if holderP S.H at_ = some tx then (0, S) else note10 c S i ⟨at_.1, 1, at_.2, ⟨#[]⟩⟩ at_.2 (at_.2 ++ ⟨#[0]⟩)
def scan10 (c : Cp10) (S : St10) (tx : Int) (table lo hi : ByteArray) : Int × St10 := match underP S.list tx with
  | none => (101, S)
  | some i => if !(hi.toList == []) && !klB lo hi then (0, S) else note10 c S i ⟨table, 2, lo, hi⟩ lo hi
def write10 (c : Cp10) (S : St10) (tx : Int) (at_ : Lk) (last : Int) : Int × St10 := match underP S.list tx with
  | none => (101, S)
  | some i => if last < 0 then (1, S) else if holderP S.H at_ = some tx then (0, S) else
    let r := takeP c.locks S.H tx (snapP S.list i) last at_
    if r.1 ≠ 0 then (r.1, abortP { S with H := r.2 } i)
    else if takenP S.list i at_ then (81, abortP { S with H := r.2 } i)
    else putP10 { S with H := r.2 } i (readersP { S with H := r.2 } i at_) false
def commit10 (c : Cp10) (S : St10) (tx : Int) : (Int × Int) × St10 := match underP S.list tx with
  | none => ((0, 101), S)
  | some i =>
    if bothP S.list i then ((0, 100), abortP S i) else
    let wrote := heldP S.H tx
    let matters := decide (wrote ≠ []) || decide (ofP S.L tx ≠ [])
    if decide (1 < activeP S.list) && matters && decide (c.kept ≤ (S.list.length : Int) - activeP S.list) then ((0, 4), abortP S i) else
    let last := if wrote ≠ [] then S.last + 1 else S.last
    let l := S.list.modify i fun t => { t with ended := S.mom + 1, wrote := wrote }
    let S1 : St10 := { S with last := last, mom := S.mom + 1, H := releaseP S.H tx, list := l }
    let S2 : St10 := if activeP S.list = 1 ∨ matters = false then { S1 with list := l.eraseIdx i, L := dropN S.L tx } else S1
    ((last, 0), sweepP S2)
def abort10 (S : St10) (tx : Int) : Int × St10 := match underP S.list tx with
  | none => (101, S)
  | some i => (0, abortP S i)
def new10 (now : Int) : St10 := ⟨now, 0, 0, [], [], []⟩
def of10 (S : St10) (tx : Int) : Int × (Bool × Bool) × Int := match underP S.list tx with
  | none => (0, (false, false), 101)
  | some i => (snapP S.list i, ((S.list[i]?).elim (false, false) fun t => (t.fin, t.fout)), 0)
end Go.Proofs.YtknppiebncdjmaaGreat

namespace Go.Proofs.YtknppiebncdjmaaGreat
set_option maxRecDepth 100000

theorem dropN_mem {L : List Nt} {t : Int} (ht : 1 ≤ t) {n : Nt} : n ∈ dropN L t ↔ n ∈ L ∧ n.1 ≠ t := by
  unfold dropN dropP
  rw [if_neg (by omega), List.mem_filter]
  simp
theorem dropN_keeps {most : Nat} {L : List Nt} (h : Inv9 most L) (t : Int) : Inv9 most (dropN L t) := by
  unfold dropN
  split
  · exact h
  · exact drop_keeps h t
theorem drops_mem : ∀ (ts : List Tx10) (L : List Nt) (n : Nt), (∀ t ∈ ts, 1 ≤ t.num) → (n ∈ ts.foldl (fun L t => dropN L t.num) L ↔ n ∈ L ∧ ∀ t ∈ ts, n.1 ≠ t.num)
  | [], L, n, _ => by simp
  | t :: ts, L, n, h => by
    rw [List.foldl_cons, drops_mem ts _ n fun u hu => h u (List.mem_cons_of_mem _ hu), dropN_mem (h t (List.mem_cons_self ..))]
    simp only [List.mem_cons, forall_eq_or_imp, and_assoc]
theorem drops_keep {most : Nat} : ∀ (ts : List Tx10) (L : List Nt), Inv9 most L → Inv9 most (ts.foldl (fun L t => dropN L t.num) L)
  | [], _, h => h
  | t :: ts, L, h => by
    rw [List.foldl_cons]
    exact drops_keep ts _ (dropN_keeps h _)
theorem needed_is {l : List Tx10} {t : Tx10} : neededP l t = true ↔ t.ended = 0 ∨ ∃ u ∈ l, u.ended = 0 ∧ u.begun < t.ended := by
  unfold neededP liveT
  simp only [Bool.or_eq_true, decide_eq_true_eq, List.any_eq_true, Bool.and_eq_true]
structure SwpIs (S S' : St10) : Prop where
  last : S'.last = S.last
  next : S'.next = S.next
  mom : S'.mom = S.mom
  H : S'.H = S.H
  sub : S'.list.Sublist S.list
  mem : ∀ t, t ∈ S'.list ↔ t ∈ S.list ∧ (t.ended = 0 ∨ ∃ u ∈ S.list, u.ended = 0 ∧ u.begun < t.ended)
  L : ∀ n, n ∈ S'.L ↔ n ∈ S.L ∧ ∀ t ∈ S.list, t ∉ S'.list → n.1 ≠ t.num
  keep : ∀ most, Inv9 most S.L → Inv9 most S'.L
theorem sweep_is {S : St10} (h : ∀ t ∈ S.list, 1 ≤ t.num) : SwpIs S (sweepP S) := by
  have hm : ∀ t, t ∈ (sweepP S).list ↔ t ∈ S.list ∧ neededP S.list t = true := fun t => by unfold sweepP; exact List.mem_filter
  refine ⟨rfl, rfl, rfl, rfl, List.filter_sublist, fun t => by rw [hm, needed_is], fun n => ?_, fun most hi => drops_keep _ _ hi⟩
  unfold sweepP
  simp only
  rw [drops_mem _ _ _ fun t ht => h t (List.mem_filter.1 ht).1]
  refine and_congr_right fun _ => ⟨fun h1 t ht hn => h1 t (List.mem_filter.2 ⟨ht, ?_⟩), fun h1 t ht => h1 t (List.mem_filter.1 ht).1 fun h2 => ?_⟩
  · cases h2 : neededP S.list t with
    | false => rfl
    | true => exact absurd ((hm t).2 ⟨ht, h2⟩) hn
  · have h3 := (List.mem_filter.1 ht).2
    have h4 := (List.mem_filter.1 h2).2
    rw [h4] at h3; cases h3
theorem idx_inj {l : List Tx10} (h : (l.map (·.num)).Nodup) {i k : Nat} {t u : Tx10} (hi : l[i]? = some t) (hk : l[k]? = some u) (e : t.num = u.num) : i = k := by
  have p := List.pairwise_iff_getElem.1 h
  obtain ⟨il, ie⟩ := List.getElem?_eq_some_iff.1 hi
  obtain ⟨kl, ke⟩ := List.getElem?_eq_some_iff.1 hk
  rcases Nat.lt_trichotomy i k with hlt | heq | hlt
  · exact absurd (by rw [List.getElem_map, List.getElem_map, ie, ke, e]) (p i k (by simpa using il) (by simpa using kl) hlt)
  · exact heq
  · exact absurd (by rw [List.getElem_map, List.getElem_map, ie, ke, e]) (p k i (by simpa using kl) (by simpa using il) hlt)
theorem nums_inj {l : List Tx10} (h : (l.map (·.num)).Nodup) {t u : Tx10} (ht : t ∈ l) (hu : u ∈ l) (e : t.num = u.num) : t = u := by
  obtain ⟨i, hi⟩ := List.mem_iff_getElem?.1 ht
  obtain ⟨k, hk⟩ := List.mem_iff_getElem?.1 hu
  have := idx_inj h hi hk e
  subst this
  rw [hi] at hk
  cases hk
  rfl
theorem erase_mem {l : List Tx10} (h : (l.map (·.num)).Nodup) {k : Nat} {t : Tx10} (hk : l[k]? = some t) (u : Tx10) : u ∈ l.eraseIdx k ↔ u ∈ l ∧ u.num ≠ t.num := by
  rw [List.mem_eraseIdx_iff_getElem?]
  constructor
  · rintro ⟨i, hne, hi⟩
    refine ⟨List.mem_of_getElem? hi, fun e => hne ?_⟩
    exact idx_inj h hi hk e
  · rintro ⟨hu, hne⟩
    obtain ⟨i, hi⟩ := List.mem_iff_getElem?.1 hu
    refine ⟨i, fun e => ?_, hi⟩
    subst e
    rw [hk] at hi
    cases hi
    exact hne rfl
theorem release_mem {H : List Hd} {t : Int} {l : Lk} {x : Int} : (l, x) ∈ releaseP H t ↔ (l, x) ∈ H ∧ x ≠ t := by
  unfold releaseP
  rw [List.mem_filter]
  simp
structure AbIs (S S' : St10) (t : Tx10) : Prop where
  last : S'.last = S.last
  next : S'.next = S.next
  mom : S'.mom = S.mom
  H : ∀ l x, (l, x) ∈ S'.H ↔ (l, x) ∈ S.H ∧ x ≠ t.num
  once : Once S.H → Once S'.H
  sub : S'.list.Sublist S.list
  mem : ∀ u, u ∈ S'.list ↔ u ∈ S.list ∧ u.num ≠ t.num ∧ (u.ended = 0 ∨ ∃ v ∈ S.list, v.num ≠ t.num ∧ v.ended = 0 ∧ v.begun < u.ended)
  L : ∀ n, n ∈ S'.L ↔ n ∈ S.L ∧ n.1 ≠ t.num ∧ ∀ u ∈ S.list, u.num ≠ t.num → u ∉ S'.list → n.1 ≠ u.num
  keep : ∀ most, Inv9 most S.L → Inv9 most S'.L
theorem abort_is {S : St10} (hp : ∀ t ∈ S.list, 1 ≤ t.num) (hn : (S.list.map (·.num)).Nodup) {k : Nat} {t : Tx10} (hk : S.list[k]? = some t) : AbIs S (abortP S k) t := by
  unfold abortP
  rw [hk]
  simp only
  have he := erase_mem hn hk
  have ht := hp t (List.mem_of_getElem? hk)
  have h := sweep_is (S := { S with list := S.list.eraseIdx k, H := releaseP S.H t.num, L := dropN S.L t.num }) fun u hu => hp u ((he u).1 hu).1
  refine ⟨h.last, h.next, h.mom, fun l x => by rw [h.H]; exact release_mem, fun ho => by rw [h.H]; exact ho.release _, h.sub.trans (List.eraseIdx_sublist ..), fun u => ?_, fun n => ?_, fun most hi => h.keep most (dropN_keeps hi _)⟩
  · rw [h.mem]
    simp only [he]
    constructor
    · rintro ⟨⟨h1, h2⟩, h3⟩
      refine ⟨h1, h2, h3.imp id ?_⟩
      rintro ⟨v, ⟨h4, h5⟩, h6⟩
      exact ⟨v, h4, h5, h6⟩
    · rintro ⟨h1, h2, h3⟩
      refine ⟨⟨h1, h2⟩, h3.imp id ?_⟩
      rintro ⟨v, h4, h5, h6⟩
      exact ⟨v, ⟨h4, h5⟩, h6⟩
  · rw [h.L]
    simp only [he, dropN_mem ht, and_assoc]
    refine and_congr_right fun _ => and_congr_right fun _ => ⟨fun h1 u hu hne hnu => h1 u ⟨hu, hne⟩ hnu, fun h1 u hu hnu => h1 u hu.1 hu.2 hnu⟩
end Go.Proofs.YtknppiebncdjmaaGreat

namespace Go.Proofs.YtknppiebncdjmaaGreat
set_option maxRecDepth 100000

structure KpR where
  val : Value
  wrote : List Lk
  upto : Int
structure Pg where
  now : Int
  begun : Int
  act : List (Int × Int)
  kep : List (Int × KpR)
  flg : List (Int × (Bool × Bool))
  H : List Hd
  L : List Nt
def isAct (P : Pg) (x : Int) : Bool := (getA P.act x).isSome
def flgOf (P : Pg) (x : Int) : Bool × Bool := (getA P.flg x).getD (false, false)
def concG (P : Pg) (tx o : Int) : Bool := isAct P o || decide (tx ≤ ((getA P.kep o).map (·.upto)).getD 0)
def orF (a b : Bool × Bool) : Bool × Bool := (a.1 || b.1, a.2 || b.2)
def bothF (a : Bool × Bool) : Bool := a.1 && a.2
def forgetG (P : Pg) (x : Int) : Pg := { P with L := dropN P.L x, flg := delA P.flg x }
def firstG (P : Pg) : Int := P.act.foldl (fun a p => min a p.1) (P.begun + 1)
def goneG (P : Pg) (f x : Int) : Bool := (getA P.kep x).elim false fun k => decide (k.upto < f)
def sweepG (P : Pg) (f : Int) : Pg := { P with kep := P.kep.filter fun p => decide (f ≤ p.2.upto), flg := P.flg.filter fun p => !goneG P f p.1, L := P.L.filter fun n => !goneG P f n.1 }
def endG (P : Pg) (tx : Int) : Pg := sweepG { P with act := delA P.act tx } (firstG { P with act := delA P.act tx })
def abortG (P : Pg) (tx : Int) : Pg := endG (forgetG { P with H := releaseP P.H tx } tx) tx
def thenG (P : Pg) (tx : Int) (own theirs : Bool × Bool) (T : List (Int × (Bool × Bool))) (o : Int) : List (Int × (Bool × Bool)) :=
  if o ≠ tx ∧ concG P tx o = true then putA (putA T tx (orF ((getA T tx).getD (false, false)) own)) o (orF (flgOf P o) theirs) else T
def thensG (P : Pg) (tx : Int) (own theirs : Bool × Bool) (os : List Int) : List (Int × (Bool × Bool)) := os.foldl (thenG P tx own theirs) [(tx, flgOf P tx)]
def badG (P : Pg) (tx : Int) (T : List (Int × (Bool × Bool))) : Bool := T.any fun p => bothF p.2 && (decide (p.1 = tx) || !isAct P p.1)
def copyG (F T : List (Int × (Bool × Bool))) : List (Int × (Bool × Bool)) := T.foldl (fun F p => putA F p.1 p.2) F
def dependG (P : Pg) (tx : Int) (os : List Int) (own theirs : Bool × Bool) : Int × Pg :=
  if badG P tx (thensG P tx own theirs os) = true then (100, abortG P tx) else (0, { P with flg := copyG P.flg (thensG P tx own theirs os) })
theorem copy_once : ∀ (T F : List (Int × (Bool × Bool))), OnceA F → OnceA (copyG F T)
  | [], F, h => h
  | p :: T, F, h => copy_once T (putA F p.1 p.2) (h.put _ _)
theorem copy_get : ∀ (T F : List (Int × (Bool × Bool))), OnceA F → OnceA T → ∀ x, getA (copyG F T) x = (getA T x).or (getA F x)
  | [], F, h, _, x => rfl
  | p :: T, F, h, k, x => by
    obtain ⟨n1, n2⟩ := List.nodup_cons.1 (show (p.1 :: T.map (·.1)).Nodup from k)
    have e := copy_get T (putA F p.1 p.2) (h.put _ _) n2 x
    show getA (copyG (putA F p.1 p.2) T) x = _
    rw [e, getA_put h]
    by_cases hx : x = p.1
    · subst hx
      have : getA T p.1 = none := getA_none.2 fun v hv => n1 (List.mem_map.2 ⟨_, hv, rfl⟩)
      rw [this, if_pos rfl, (getA_some k).2 (List.mem_cons_self .. : (p.1, p.2) ∈ p :: T)]
      rfl
    · rw [if_neg hx]
      have : getA (p :: T) x = getA T x := by
        unfold getA
        rw [List.find?_cons_of_neg (by simpa using Ne.symm hx)]
      rw [this]
theorem thens_get (P : Pg) (tx : Int) (own theirs : Bool × Bool) : ∀ (os : List Int), OnceA (thensG P tx own theirs os) ∧ ∀ x, getA (thensG P tx own theirs os) x =
      if x = tx then some (if os.any (fun o => decide (o ≠ tx) && concG P tx o) = true then orF (flgOf P tx) own else flgOf P tx)
      else if x ∈ os ∧ concG P tx x = true then some (orF (flgOf P x) theirs) else none := by
  suffices h : ∀ (os done : List Int) (T : List (Int × (Bool × Bool))), OnceA T → (∀ x, getA T x =
      if x = tx then some (if done.any (fun o => decide (o ≠ tx) && concG P tx o) = true then orF (flgOf P tx) own else flgOf P tx)
      else if x ∈ done ∧ concG P tx x = true then some (orF (flgOf P x) theirs) else none) →
      OnceA (os.foldl (thenG P tx own theirs) T) ∧ ∀ x, getA (os.foldl (thenG P tx own theirs) T) x =
      if x = tx then some (if (done ++ os).any (fun o => decide (o ≠ tx) && concG P tx o) = true then orF (flgOf P tx) own else flgOf P tx)
      else if x ∈ done ++ os ∧ concG P tx x = true then some (orF (flgOf P x) theirs) else none by
    intro os
    refine h os [] _ (by unfold OnceA; simp) fun x => ?_
    unfold getA
    by_cases hx : x = tx
    · subst hx; simp
    · rw [List.find?_cons_of_neg (by simpa using Ne.symm hx)]
      simp [hx]
  intro os
  induction os with
  | nil => intro done T h1 h2; rw [List.append_nil]; exact ⟨h1, h2⟩
  | cons o os ih =>
    intro done T h1 h2
    have := ih (done ++ [o]) (thenG P tx own theirs T o) ?_ ?_
    · rw [show done ++ o :: os = done ++ [o] ++ os by simp]; exact this
    · unfold thenG
      split
      · exact (h1.put _ _).put _ _
      · exact h1
    · intro x
      unfold thenG
      by_cases hc : o ≠ tx ∧ concG P tx o = true
      · rw [if_pos hc, getA_put (h1.put _ _), getA_put h1, h2 tx, if_pos rfl]
        by_cases hx : x = o
        · subst hx
          rw [if_pos rfl, if_neg hc.1]
          simp [hc.2]
        · rw [if_neg hx]
          by_cases hx2 : x = tx
          · subst hx2
            have ha : (done ++ [o]).any (fun o => decide (o ≠ x) && concG P x o) = true := by simp [hc.1, hc.2]
            rw [if_pos rfl, if_pos rfl, if_pos ha, Option.getD_some]
            split
            · unfold orF; congr 1; ext <;> simp
            · rfl
          · rw [if_neg hx2, if_neg hx2, h2, if_neg hx2]
            simp [hx]
      · rw [if_neg hc, h2]
        have e1 : (done ++ [o]).any (fun o => decide (o ≠ tx) && concG P tx o) = done.any (fun o => decide (o ≠ tx) && concG P tx o) := by
          rw [List.any_append]
          have : (decide (o ≠ tx) && concG P tx o) = false := by
            cases h3 : (decide (o ≠ tx) && concG P tx o) with
            | false => rfl
            | true =>
              rw [Bool.and_eq_true, decide_eq_true_eq] at h3
              exact absurd h3 hc
          rw [List.any_cons, this]; simp
        rw [e1]
        by_cases hx2 : x = tx
        · rw [if_pos hx2, if_pos hx2]
        · rw [if_neg hx2, if_neg hx2]
          by_cases hx : x = o
          · subst hx
            have : ¬ concG P tx x = true := fun h => hc ⟨hx2, h⟩
            simp [this]
          · simp [hx]
end Go.Proofs.YtknppiebncdjmaaGreat
