import Derived.Test.YtknppiebncdjmaaGreatSsB
import Derived.Test.YtknppiebncdjmaaGreatJAL
import Derived.Test.YtknppiebncdjmaaGreatTxCommit2
set_option linter.unusedVariables false
namespace Go.Proofs.YtknppiebncdjmaaGreat
set_option maxRecDepth 100000

theorem within_one (k key : ByteArray) : withinB key k (k ++ ⟨#[0]⟩) = true ↔ key = k := by
  unfold withinB
  rw [klB_zero]
  constructor
  · intro h
    rw [Bool.and_eq_true, Bool.or_eq_true] at h
    obtain ⟨h1, h2⟩ := h
    have h1 : klB key k = false := by simpa using h1
    rcases h2 with h2 | h2
    · have : (k ++ ⟨#[0]⟩ : ByteArray).toList = [] := by simpa using h2
      rw [ByteArray.toList_eq] at this
      simp at this
    · have h2 : klB k key = false := by simpa using h2
      exact klB_tri h1 h2
  · rintro rfl
    rw [klB_irrefl]; simp
section
variable {c : Cp10} {P : Pg} {S : St10}
theorem Sim10.conc (h : Sim10 c P S) {i o : Nat} {t u : Tx10} (hi : S.list[i]? = some t) (h0 : t.ended = 0) (ho : S.list[o]? = some u) (hne : o ≠ i) : concG P t.num u.num = concP S.list i o := by
  have hu := List.mem_of_getElem? ho
  have ht := List.mem_of_getElem? hi
  unfold concP
  rw [hi, ho]
  simp only
  have e1 : decide (i ≠ o) = true := by simpa using Ne.symm hne
  rw [e1, Bool.true_and]
  unfold concG
  by_cases e : u.ended = 0
  · have := (h.isa u.num).2 ⟨u, hu, e, rfl⟩
    rw [this]; simp [e]
  · have hna : isAct P u.num = false := by
      cases ha : isAct P u.num with
      | false => rfl
      | true =>
        obtain ⟨v, hv, a, b⟩ := (h.isa u.num).1 ha
        have := nums_inj h.nd hv hu b
        subst this
        exact absurd a e
    obtain ⟨k, hk⟩ := h.kep2 u hu (by have := (h.rg u hu).2.2.1; omega)
    obtain ⟨-, -, -, h4⟩ := h.kept hu hk
    rw [hna, hk]
    simp only [Bool.false_or, Option.map_some, Option.getD_some, e, decide_false]
    rw [decide_eq_decide]
    exact (h4 t ht h0).symm
theorem Sim10.writers (h : Sim10 c P S) {i : Nat} {t : Tx10} (hi : S.list[i]? = some t) (h0 : t.ended = 0) {tb lo hi' : ByteArray} {zs hs : List Int} (hz : KwIs P t.num tb lo hi' zs) (hhs : ∀ x, x ∈ hs ↔ x ∈ riseP (whoP S.H tb lo hi')) : OsIs P S i t.num (zs ++ hs) (writersP S i tb lo hi') := by
  have hw : ∀ o, o ∈ writersP S i tb lo hi' ↔ ∃ u, S.list[o]? = some u ∧ concP S.list i o = true ∧ wroteP S.H tb lo hi' u = true := by
    intro o
    unfold writersP
    rw [List.mem_filter, List.mem_range, Bool.and_eq_true]
    constructor
    · rintro ⟨a, b, d⟩
      exact ⟨S.list[o], List.getElem?_eq_getElem a, b, by rw [List.getElem?_eq_getElem a] at d; exact d⟩
    · rintro ⟨u, a, b, d⟩
      exact ⟨(List.getElem?_eq_some_iff.1 a).1, b, by rw [a]; exact d⟩
  have hne : ∀ o, concP S.list i o = true → o ≠ i := fun o e => by
    unfold concP at e
    rw [Bool.and_eq_true, decide_eq_true_eq] at e
    exact Ne.symm e.1
  refine ⟨fun x => ?_, fun o ho => ?_⟩
  · constructor
    · rintro ⟨hx, hxt, hxc⟩
      rcases List.mem_append.1 hx with hx | hx
      · obtain ⟨k, hk, e⟩ := (hz.1 x).1 hx
        unfold kwB at e
        rw [Bool.and_eq_true] at e
        have hg := (getA_some h.ok).2 hk
        obtain ⟨u, hu, a, b, d, -⟩ := h.kep1 x k hg
        obtain ⟨o, ho⟩ := List.mem_iff_getElem?.1 hu
        have hoi : o ≠ i := fun e2 => by subst e2; rw [hi] at ho; cases ho; omega
        refine ⟨o, (hw o).2 ⟨u, ho, ?_, ?_⟩, u, ho, b⟩
        · rw [← h.conc hi h0 ho hoi, b]; exact e.1
        · unfold wroteP
          rw [d]
          have e2 := e.2
          unfold wroteB at e2
          rw [e2, Bool.or_true]
      · have hr := (hhs x).1 hx
        have hm := ((rise_is _).2 x).1 hr
        unfold whoP at hm
        obtain ⟨q, hq, e⟩ := List.mem_map.1 hm
        obtain ⟨u, hu, a, b⟩ := h.hh q (List.mem_filter.1 hq).1
        obtain ⟨o, ho⟩ := List.mem_iff_getElem?.1 hu
        have hoi : o ≠ i := fun e2 => by subst e2; rw [hi] at ho; cases ho; exact hxt (e.symm.trans b.symm)
        have hxu : u.num = x := b.trans e
        refine ⟨o, (hw o).2 ⟨u, ho, ?_, ?_⟩, u, ho, hxu⟩
        · rw [← h.conc hi h0 ho hoi, hxu]; exact hxc
        · unfold wroteP liveT
          have : (riseP (whoP S.H tb lo hi')).any (fun y => decide (y = u.num)) = true := List.any_eq_true.2 ⟨x, hr, by simp [hxu]⟩
          rw [this]
          simp [a]
    · rintro ⟨o, ho, u, hu, rfl⟩
      obtain ⟨u', hu', e1, e2⟩ := (hw o).1 ho
      rw [hu] at hu'; cases hu'
      have hoi := hne o e1
      have hum := List.mem_of_getElem? hu
      have hxt : u.num ≠ t.num := fun e => hoi (idx_inj h.nd hu hi e)
      have hxc : concG P t.num u.num = true := by rw [h.conc hi h0 hu hoi]; exact e1
      refine ⟨?_, hxt, hxc⟩
      unfold wroteP at e2
      rw [Bool.or_eq_true] at e2
      rcases e2 with e2 | e2
      · rw [Bool.and_eq_true, List.any_eq_true] at e2
        obtain ⟨-, y, hy, ey⟩ := e2
        have : y = u.num := by simpa using ey
        subst this
        exact List.mem_append_right _ ((hhs _).2 hy)
      · have hkd : 0 < u.ended := by
          by_cases e0 : u.ended = 0
          · rw [h.wr0 u hum e0] at e2; cases e2
          · have := (h.rg u hum).2.2.1; omega
        obtain ⟨k, hk⟩ := h.kep2 u hum hkd
        obtain ⟨-, hwk, -, -⟩ := h.kept hum hk
        refine List.mem_append_left _ ((hz.1 u.num).2 ⟨k, getA_mem hk, ?_⟩)
        unfold kwB wroteB
        rw [hxc, ← hwk, e2]; rfl
  · obtain ⟨u, hu, e1, -⟩ := (hw o).1 ho
    exact ⟨hne o e1, u, hu⟩
theorem Sim10.noted (h : Sim10 c P S) (h9 : Inv9 c.reads S.L) {i : Nat} {t : Tx10} (hi : S.list[i]? = some t) (h0 : t.ended = 0) (x : Rd) {lo hi' : ByteArray} {zs hs : List Int} (hz : KwIs P t.num x.tb lo hi' zs) (hhs : ∀ y, y ∈ hs ↔ y ∈ riseP (whoP S.H x.tb lo hi')) :
    (noteG c P t.num x (zs ++ hs)).1 = (note10 c S i x lo hi').1 ∧ Sim10 c (noteG c P t.num x (zs ++ hs)).2 (note10 c S i x lo hi').2 := by
  have hn : numP S.list i = t.num := numP_at hi
  obtain ⟨-, -, hf, -⟩ := note_keeps h9 t.num x
  unfold noteG note10
  rw [hn, h.L]
  obtain ⟨q, hq⟩ : ∃ q, noteP c.reads S.L t.num x = q := ⟨_, rfl⟩
  rw [hq] at hf ⊢
  have hs2 : Sim10 c { P with L := q.2 } { S with L := q.2 } := by
    have := h.setHL (H1 := S.H) (L1 := q.2) h.hh fun n hn2 => by
      rcases hf n hn2 with ⟨e, -⟩ | ⟨m, hm, e⟩
      · exact ⟨t, List.mem_of_getElem? hi, e.symm⟩
      · obtain ⟨u, hu, e2⟩ := h.ll m hm
        exact ⟨u, hu, e2.trans e⟩
    rw [← h.H] at this
    have e : ({ S with H := P.H, L := q.2 } : St10) = { S with L := q.2 } := by rw [h.H]
    rw [e] at this
    exact this
  simp only
  by_cases hq0 : q.1 = 0
  · rw [if_neg (by simpa using hq0), if_neg (by simpa using hq0)]
    exact hs2.put (S := { S with L := q.2 }) hi h0 (hs2.writers (S := { S with L := q.2 }) hi h0 hz hhs) true
  · rw [if_pos hq0, if_pos hq0]
    exact ⟨rfl, hs2.abort (S := { S with L := q.2 }) hi h0⟩
theorem Sim10.read (h : Sim10 c P S) (h9 : Inv9 c.reads S.L) (ho : Once S.H) (tx : Int) (l : Lk) {zs : List Int} (hz : isAct P tx = true → holderP P.H l ≠ some tx → KwIs P tx l.1 l.2 (l.2 ++ ⟨#[0]⟩) zs) :
    (readG c P tx l zs).1 = (read10 c S tx l).1 ∧ Sim10 c (readG c P tx l zs).2 (read10 c S tx l).2 := by
  unfold readG read10
  rcases h.under tx with ⟨ha, hu⟩ | ⟨i, t, ha, hu, hi, h0, rfl, ht, -⟩
  · rw [ha, hu]; exact ⟨rfl, h⟩
  · rw [hu, if_neg (by rw [ha]; simp)]
    simp only
    rw [← h.H]
    by_cases hh : holderP P.H l = some t.num
    · rw [if_pos hh, if_pos hh]; exact ⟨rfl, h⟩
    · rw [if_neg hh, if_neg hh]
      refine h.noted h9 hi h0 _ (hz ha hh) fun y => ?_
      rw [(rise_is _).2]
      unfold whoP
      rw [List.mem_map]
      constructor
      · intro hy
        cases e : holderP P.H l with
        | none => rw [e] at hy; cases hy
        | some z =>
          rw [e, Option.toList_some, List.mem_singleton] at hy
          subst hy
          rw [h.H] at e
          refine ⟨(l, y), List.mem_filter.2 ⟨(holder_some ho).1 e, ?_⟩, rfl⟩
          unfold inH
          rw [Bool.and_eq_true]
          exact ⟨by simp, (within_one _ _).2 rfl⟩
      · rintro ⟨⟨l', z⟩, hq, rfl⟩
        obtain ⟨h1, h2⟩ := List.mem_filter.1 hq
        unfold inH at h2
        rw [Bool.and_eq_true, toList_beq8, decide_eq_true_eq, within_one] at h2
        have : l' = l := Prod.ext h2.1 h2.2
        subst this
        rw [h.H, (holder_some ho).2 h1]
        exact List.mem_singleton.2 rfl
theorem Sim10.scan (h : Sim10 c P S) (h9 : Inv9 c.reads S.L) (tx : Int) (tb lo hi' : ByteArray) {zs : List Int} (hz : isAct P tx = true → (!(hi'.toList == []) && !klB lo hi') = false → KwIs P tx tb lo hi' zs) :
    (scanG c P tx tb lo hi' zs).1 = (scan10 c S tx tb lo hi').1 ∧ Sim10 c (scanG c P tx tb lo hi' zs).2 (scan10 c S tx tb lo hi').2 := by
  unfold scanG scan10
  rcases h.under tx with ⟨ha, hu⟩ | ⟨i, t, ha, hu, hi, h0, rfl, ht, -⟩
  · rw [ha, hu]; exact ⟨rfl, h⟩
  · rw [hu, if_neg (by rw [ha]; simp)]
    simp only
    by_cases hh : (!(hi'.toList == []) && !klB lo hi') = true
    · rw [if_pos hh, if_pos hh]; exact ⟨rfl, h⟩
    · rw [if_neg hh, if_neg hh]
      exact h.noted h9 hi h0 ⟨tb, 2, lo, hi'⟩ (hz ha (by simpa using hh)) fun y => by rw [h.H]
theorem take_mem {most : Int} {H : List Hd} {tx sn last : Int} {l : Lk} : ∀ x ∈ (takeP most H tx sn last l).2, x ∈ H ∨ x = (l, tx) := by
  intro x hx
  unfold takeP at hx
  split at hx
  · exact .inl hx
  · split at hx
    · split at hx <;> exact .inl hx
    · split at hx
      · exact .inl hx
      · split at hx
        · exact .inl hx
        · rcases List.mem_append.1 hx with hx | hx
          · exact .inl hx
          · exact .inr (List.mem_singleton.1 hx)
theorem Sim10.write (h : Sim10 c P S) (tx : Int) (l : Lk) (last : Int) {zs : List Int} (hz : isAct P tx = true → 0 ≤ last → holderP P.H l ≠ some tx → (takeG c P tx l last).1 = 0 → KwIs P tx l.1 l.2 (l.2 ++ ⟨#[0]⟩) zs) :
    (writeG c P tx l last zs).1 = (write10 c S tx l last).1 ∧ Sim10 c (writeG c P tx l last zs).2 (write10 c S tx l last).2 := by
  unfold writeG write10
  rcases h.under tx with ⟨ha, hu⟩ | ⟨i, t, ha, hu, hi, h0, rfl, ht, hsn⟩
  · rw [ha, hu]; exact ⟨rfl, h⟩
  · rw [hu, if_neg (by rw [ha]; simp)]
    simp only
    by_cases hl : last < 0
    · rw [if_pos hl, if_pos hl]; exact ⟨rfl, h⟩
    · rw [if_neg hl, if_neg hl, ← h.H]
      by_cases hh : holderP P.H l = some t.num
      · rw [if_pos hh, if_pos hh]; exact ⟨rfl, h⟩
      · rw [if_neg hh, if_neg hh]
        have hz2 := hz ha (by omega) hh
        have htk : takeG c P t.num l last = takeP c.locks P.H t.num (snapP S.list i) last l := by unfold takeG; rw [hsn, snapP_at hi]; rfl
        rw [htk] at hz2 ⊢
        have hmem := take_mem (most := c.locks) (H := P.H) (tx := t.num) (sn := snapP S.list i) (last := last) (l := l)
        obtain ⟨q, hq⟩ : ∃ q, takeP c.locks P.H t.num (snapP S.list i) last l = q := ⟨_, rfl⟩
        rw [hq] at hz2 hmem ⊢
        have hs2 : Sim10 c { P with H := q.2 } { S with H := q.2 } := by
          have := h.setHL (H1 := q.2) (L1 := S.L) (fun x hx => by
            rcases hmem x hx with h1 | h1
            · exact h.hh x (by rw [← h.H]; exact h1)
            · exact ⟨t, ht, h0, by rw [h1]⟩) h.ll
          rw [← h.L] at this
          have e : ({ S with H := q.2, L := P.L } : St10) = { S with H := q.2 } := by rw [h.L]
          rw [e] at this
          exact this
        by_cases hq0 : q.1 = 0
        · have hq1 : ¬ q.1 ≠ 0 := fun e => e hq0
          rw [if_neg hq1, if_neg hq1]
          have hzz := hz2 hq0
          have htaken : takenP S.list i l = true ↔ zs ≠ [] := by
            unfold takenP
            rw [List.any_eq_true]
            constructor
            · rintro ⟨o, ho, e⟩
              rw [List.mem_range] at ho
              rw [List.getElem?_eq_getElem ho] at e
              simp only [Option.elim_some, Bool.and_eq_true] at e
              obtain ⟨⟨e1, e2⟩, e3⟩ := e
              obtain ⟨u, hu2⟩ : ∃ u, S.list[o]? = some u := ⟨_, List.getElem?_eq_getElem ho⟩
              have heq : S.list[o] = u := by rw [List.getElem?_eq_getElem ho] at hu2; exact Option.some.inj hu2
              rw [heq] at e1 e3
              have hum := List.mem_of_getElem? hu2
              have hoi : o ≠ i := fun e => by
                unfold concP at e2
                rw [Bool.and_eq_true, decide_eq_true_eq] at e2
                exact e2.1 e.symm
              have hkd : 0 < u.ended := by
                have := (h.rg u hum).2.2.1
                by_cases e0 : u.ended = 0
                · unfold liveT at e1; rw [e0] at e1; simp at e1
                · omega
              obtain ⟨k, hk⟩ := h.kep2 u hum hkd
              obtain ⟨-, hwk, -, -⟩ := h.kept hum hk
              refine List.ne_nil_of_mem ((hzz.1 u.num).2 ⟨k, getA_mem hk, ?_⟩)
              unfold kwB wroteB
              rw [Bool.and_eq_true, List.any_eq_true]
              obtain ⟨w, hw, ew⟩ := List.any_eq_true.1 e3
              rw [lkEq_is, decide_eq_true_eq] at ew
              subst ew
              exact ⟨by rw [h.conc hi h0 hu2 hoi]; exact e2, w, by rw [← hwk]; exact hw, by rw [Bool.and_eq_true]; exact ⟨by simp, (within_one _ _).2 rfl⟩⟩
            · intro hn
              obtain ⟨x, hx⟩ := List.exists_mem_of_ne_nil _ hn
              obtain ⟨k, hk, e⟩ := (hzz.1 x).1 hx
              unfold kwB wroteB at e
              rw [Bool.and_eq_true, List.any_eq_true] at e
              obtain ⟨e1, w, hw, ew⟩ := e
              rw [Bool.and_eq_true, toList_beq8, decide_eq_true_eq, within_one] at ew
              have : w = l := Prod.ext ew.1 ew.2
              subst this
              obtain ⟨u, hu2, a, b, d, -⟩ := h.kep1 x k ((getA_some h.ok).2 hk)
              obtain ⟨o, ho⟩ := List.mem_iff_getElem?.1 hu2
              have hoi : o ≠ i := fun e2 => by subst e2; rw [hi] at ho; cases ho; omega
              refine ⟨o, List.mem_range.2 (List.getElem?_eq_some_iff.1 ho).1, ?_⟩
              rw [ho]
              simp only [Option.elim_some, Bool.and_eq_true]
              refine ⟨⟨?_, ?_⟩, List.any_eq_true.2 ⟨w, by rw [d]; exact hw, by rw [lkEq_is]; simp⟩⟩
              · unfold liveT
                have : u.ended ≠ 0 := by omega
                simp [this]
              · rw [← h.conc hi h0 ho hoi, b]; exact e1
          by_cases hzn : zs ≠ []
          · rw [if_pos hzn, if_pos (htaken.2 hzn)]
            exact ⟨rfl, hs2.abort (S := { S with H := q.2 }) hi h0⟩
          · rw [if_neg hzn, if_neg (fun e => hzn (htaken.1 e))]
            refine hs2.put (S := { S with H := q.2 }) hi h0 (others := readersP { S with H := q.2 } i l) ⟨fun x => ?_, fun o ho => ?_⟩ false
            · unfold readersP
              constructor
              · rintro ⟨a, b, d⟩
                have a : x ∈ txP P.L fun n => hasP n.2 l.1 l.2 := a
                rw [h.L] at a
                obtain ⟨n, hn, e⟩ := tx_mem a
                obtain ⟨u, hu2, e2⟩ := h.ll n hn
                obtain ⟨o, ho⟩ := List.mem_iff_getElem?.1 hu2
                have hxu : u.num = x := e2.trans e
                have hoi : o ≠ i := fun e3 => by subst e3; rw [hi] at ho; cases ho; exact b hxu.symm
                refine ⟨o, List.mem_filter.2 ⟨List.mem_range.2 (List.getElem?_eq_some_iff.1 ho).1, ?_⟩, u, ho, hxu⟩
                rw [Bool.and_eq_true, decide_eq_true_eq]
                refine ⟨?_, ?_⟩
                · show concP S.list i o = true
                  rw [← h.conc hi h0 ho hoi, hxu]; exact d
                · show numP S.list o ∈ _
                  rw [numP_at ho, hxu]; exact a
              · rintro ⟨o, ho, u, hu2, rfl⟩
                obtain ⟨-, e⟩ := List.mem_filter.1 ho
                rw [Bool.and_eq_true, decide_eq_true_eq] at e
                obtain ⟨e1, e2⟩ := e
                have e1 : concP S.list i o = true := e1
                have e2 : numP S.list o ∈ txP S.L fun n => hasP n.2 l.1 l.2 := e2
                have hoi : o ≠ i := fun e => by
                  unfold concP at e1
                  rw [Bool.and_eq_true, decide_eq_true_eq] at e1
                  exact e1.1 e.symm
                have hu2 : S.list[o]? = some u := hu2
                rw [numP_at hu2] at e2
                refine ⟨by rw [h.L]; exact e2, fun e => hoi (idx_inj h.nd hu2 hi e), ?_⟩
                show concG P t.num u.num = true
                rw [h.conc hi h0 hu2 hoi]; exact e1
            · unfold readersP at ho
              obtain ⟨ho1, e⟩ := List.mem_filter.1 ho
              rw [Bool.and_eq_true] at e
              have e1 : concP S.list i o = true := e.1
              have ho1 : o < S.list.length := List.mem_range.1 ho1
              refine ⟨fun e => ?_, S.list[o], List.getElem?_eq_getElem ho1⟩
              unfold concP at e1
              rw [Bool.and_eq_true, decide_eq_true_eq] at e1
              exact e1.1 e.symm
        · rw [if_pos hq0, if_pos hq0]
          exact ⟨rfl, hs2.abort (S := { S with H := q.2 }) hi h0⟩
end
end Go.Proofs.YtknppiebncdjmaaGreat

namespace Go.Proofs.YtknppiebncdjmaaGreat
set_option maxRecDepth 100000

def commitG (c : Cp10) (P : Pg) (tx : Int) (v : Value) : (Int × Int) × Pg :=
  if isAct P tx = false then ((0, 101), P) else if bothF (flgOf P tx) = true then ((0, 100), abortG P tx)
  else if keepsG P tx = true ∧ c.kept ≤ (P.kep.length : Int) then ((0, 4), abortG P tx)
  else (((gone1 P tx).now, 0), endG (gone2 P tx v) tx)
section
variable {c : Cp10} {P : Pg} {S : St10}
theorem len_perm {l m : List Int} (h1 : l.Nodup) (h2 : m.Nodup) (h : ∀ x, x ∈ l ↔ x ∈ m) : l.length = m.length := ((List.perm_ext_iff_of_nodup h1 h2).2 h).length_eq
theorem Sim10.actN (h : Sim10 c P S) : P.act.length = activeP S.list := by
  have h1 : P.act.length = (P.act.map (·.1)).length := (List.length_map ..).symm
  have h2 : activeP S.list = ((S.list.filter liveT).map (·.num)).length := (List.length_map ..).symm
  rw [h1, h2]
  refine len_perm h.oa (List.Nodup.sublist (List.Sublist.map _ List.filter_sublist) h.nd) fun x => ?_
  rw [List.mem_map, List.mem_map]
  constructor
  · rintro ⟨⟨y, s⟩, hy, rfl⟩
    obtain ⟨t, ht, a, b, -⟩ := (h.act y s).1 ((getA_some h.oa).2 hy)
    exact ⟨t, List.mem_filter.2 ⟨ht, by unfold liveT; simp [a]⟩, b⟩
  · rintro ⟨t, ht, rfl⟩
    obtain ⟨a, b⟩ := List.mem_filter.1 ht
    exact ⟨(t.num, t.snap), getA_mem ((h.act _ _).2 ⟨t, a, by unfold liveT at b; simpa using b, rfl, rfl⟩), rfl⟩
theorem Sim10.kepN (h : Sim10 c P S) : (P.kep.length : Int) = (S.list.length : Int) - activeP S.list := by
  have h1 : P.kep.length = (P.kep.map (·.1)).length := (List.length_map ..).symm
  have h2 : keptN S.list = ((S.list.filter fun t => !liveT t).map (·.num)).length := (List.length_map ..).symm
  have h3 := kept_is S.list
  have h4 : P.kep.length = keptN S.list := by
    rw [h1, h2]
    refine len_perm h.ok (List.Nodup.sublist (List.Sublist.map _ List.filter_sublist) h.nd) fun x => ?_
    rw [List.mem_map, List.mem_map]
    constructor
    · rintro ⟨⟨y, k⟩, hy, rfl⟩
      obtain ⟨t, ht, a, b, -⟩ := h.kep1 y k ((getA_some h.ok).2 hy)
      have hne : t.ended ≠ 0 := by omega
      exact ⟨t, List.mem_filter.2 ⟨ht, by unfold liveT; simp [hne]⟩, b⟩
    · rintro ⟨t, ht, rfl⟩
      obtain ⟨a, b⟩ := List.mem_filter.1 ht
      have : t.ended ≠ 0 := by unfold liveT at b; simpa using b
      obtain ⟨k, hk⟩ := h.kep2 t a (by have := (h.rg t a).2.2.1; omega)
      exact ⟨(t.num, k), getA_mem hk, rfl⟩
  omega
theorem Sim10.begin_ (h : Sim10 c P S) : (beginG c P).1 = (begin10 c S).1 ∧ Sim10 c (beginG c P).2 (begin10 c S).2 := by
  unfold beginG begin10
  rw [h.actN]
  by_cases hf : c.act ≤ (activeP S.list : Int)
  · rw [if_pos hf, if_pos hf]; exact ⟨rfl, h⟩
  · rw [if_neg hf, if_neg hf, h.beg, h.now]
    have hm0 := h.m0
    have hnew : ∀ t ∈ S.list, t.num ≠ S.next + 1 := fun t ht e => by have := (h.rg t ht).1.2; omega
    have hga : getA P.act (S.next + 1) = none := by
      cases e : getA P.act (S.next + 1) with
      | none => rfl
      | some s =>
        obtain ⟨t, ht, -, a, -⟩ := (h.act _ _).1 e
        exact absurd a (hnew t ht)
    have hgf : getA P.flg (S.next + 1) = none := by
      cases e : getA P.flg (S.next + 1) with
      | none => rfl
      | some s =>
        obtain ⟨t, ht, a⟩ := h.flg2 _ _ e
        exact absurd a (hnew t ht)
    have hsub : ∀ t ∈ S.list, t ∈ S.list ++ [(⟨S.next + 1, S.last, S.mom + 1, 0, false, false, []⟩ : Tx10)] := fun t ht => List.mem_append_left _ ht
    have hcase : ∀ {p : Tx10 → Prop}, (∀ t ∈ S.list, p t) → p ⟨S.next + 1, S.last, S.mom + 1, 0, false, false, []⟩ → ∀ t ∈ S.list ++ [(⟨S.next + 1, S.last, S.mom + 1, 0, false, false, []⟩ : Tx10)], p t := fun h1 h2 t ht => by
      rcases List.mem_append.1 ht with ht | ht
      · exact h1 t ht
      · rw [List.mem_singleton.1 ht]; exact h2
    refine ⟨rfl, rfl, rfl, h.H, h.L, h.oa.put _ _, h.ok, h.of, ?_, ?_, ?_, fun x s => ?_, fun x k hk => ?_, ?_, ?_, fun x f hf2 => ?_, ?_, fun x hx => ?_, fun n hn => ?_, ?_, h.nk⟩
    · show ((S.list ++ [(⟨S.next + 1, S.last, S.mom + 1, 0, false, false, []⟩ : Tx10)]).map (·.num)).Nodup
      rw [List.map_append]
      refine List.nodup_append.2 ⟨h.nd, by simp, fun a ha b hb => ?_⟩
      obtain ⟨t, ht, e⟩ := List.mem_map.1 ha
      rw [List.map_singleton, List.mem_singleton] at hb
      rw [hb, ← e]
      exact hnew t ht
    · show 0 ≤ S.mom + 1 ∧ 0 ≤ S.next + 1 ∧ 0 ≤ S.last
      omega
    · refine hcase (fun t ht => ?_) ?_
      · have := h.rg t ht
        show (1 ≤ t.num ∧ t.num ≤ S.next + 1) ∧ (t.begun ≤ S.mom + 1) ∧ (0 ≤ t.ended ∧ t.ended ≤ S.mom + 1) ∧ 0 ≤ t.snap ∧ t.snap ≤ S.last
        omega
      · show (1 ≤ S.next + 1 ∧ S.next + 1 ≤ S.next + 1) ∧ (S.mom + 1 ≤ S.mom + 1) ∧ ((0 : Int) ≤ 0 ∧ 0 ≤ S.mom + 1) ∧ 0 ≤ S.last ∧ S.last ≤ S.last
        omega
    · show getA (putA P.act (S.next + 1) S.last) x = some s ↔ ∃ t ∈ S.list ++ [(⟨S.next + 1, S.last, S.mom + 1, 0, false, false, []⟩ : Tx10)], t.ended = 0 ∧ t.num = x ∧ t.snap = s
      rw [getA_put h.oa]
      by_cases e : x = S.next + 1
      · rw [if_pos e]
        constructor
        · intro e2
          exact ⟨_, List.mem_append_right _ (List.mem_singleton.2 rfl), rfl, e.symm, Option.some.inj e2⟩
        · rintro ⟨t, ht, a, b, d⟩
          rcases List.mem_append.1 ht with ht | ht
          · exact absurd (b.trans e) (hnew t ht)
          · rw [List.mem_singleton.1 ht] at d
            exact congrArg some d
      · rw [if_neg e, h.act]
        constructor
        · rintro ⟨t, ht, a⟩
          exact ⟨t, hsub t ht, a⟩
        · rintro ⟨t, ht, a, b, d⟩
          rcases List.mem_append.1 ht with ht | ht
          · exact ⟨t, ht, a, b, d⟩
          · rw [List.mem_singleton.1 ht] at b
            exact absurd b.symm e
    · obtain ⟨t, ht, h1, h2, h3, h4, h5⟩ := h.kep1 x k hk
      refine ⟨t, hsub t ht, h1, h2, h3, ⟨h4.1, by show k.upto ≤ S.next + 1; omega⟩, hcase h5 fun _ => ?_⟩
      have := (h.rg t ht).2.2.1
      show S.mom + 1 < t.ended ↔ S.next + 1 ≤ k.upto
      omega
    · exact hcase h.kep2 (fun e => absurd (show (0 : Int) < 0 from e) (by omega))
    · refine hcase h.flg1 ?_
      unfold flgOf
      show (getA P.flg (S.next + 1)).getD _ = _
      rw [hgf]; rfl
    · obtain ⟨t, ht, a⟩ := h.flg2 x f hf2
      exact ⟨t, hsub t ht, a⟩
    · exact hcase h.wr0 (fun _ => rfl)
    · obtain ⟨t, ht, a⟩ := h.hh x hx
      exact ⟨t, hsub t ht, a⟩
    · obtain ⟨t, ht, a⟩ := h.ll n hn
      exact ⟨t, hsub t ht, a⟩
    · have h1 := put_lenA (l := P.act) (S.next + 1) S.last
      have h2 := h.actN
      show ((putA P.act (S.next + 1) S.last).length : Int) ≤ c.act
      omega
theorem Sim10.abortC (h : Sim10 c P S) (tx : Int) : refG P tx = (abort10 S tx).1 ∧ Sim10 c (if isAct P tx = true then abortG P tx else P) (abort10 S tx).2 := by
  unfold abort10 refG
  rcases h.under tx with ⟨ha, hu⟩ | ⟨i, t, ha, hu, hi, h0, rfl, ht, -⟩
  · rw [ha, hu]; exact ⟨rfl, h⟩
  · rw [ha, hu]; exact ⟨rfl, h.abort hi h0⟩
theorem Sim10.of10 (h : Sim10 c P S) (tx : Int) : Go.Proofs.YtknppiebncdjmaaGreat.of10 S tx = ((getA P.act tx).getD 0, (if isAct P tx = true then flgOf P tx else (false, false)), refG P tx) := by
  unfold Go.Proofs.YtknppiebncdjmaaGreat.of10 refG
  rcases h.under tx with ⟨ha, hu⟩ | ⟨i, t, ha, hu, hi, h0, rfl, ht, hs⟩
  · rw [ha, hu]
    have : getA P.act tx = none := by unfold isAct at ha; cases e : getA P.act tx with | none => rfl | some v => rw [e] at ha; cases ha
    rw [this]; rfl
  · rw [ha, hu, hs, if_pos rfl, if_pos rfl, h.flg1 t ht]
    simp only
    rw [snapP_at hi, hi]; rfl
end
end Go.Proofs.YtknppiebncdjmaaGreat

namespace Go.Proofs.YtknppiebncdjmaaGreat
set_option maxRecDepth 100000

section
variable {c : Cp10} {P : Pg} {S : St10}
theorem Sim10.keep (h : Sim10 c P S) {i : Nat} {t : Tx10} (hi : S.list[i]? = some t) (h0 : t.ended = 0) (v : Value) (n l : Int) (H1 : List Hd) (hl : S.last ≤ l) (hH : ∀ x ∈ H1, x ∈ S.H ∧ x.2 ≠ t.num) (hk : (P.kep.length : Int) < c.kept) (ws : List Lk) :
    Sim10 c { P with now := l, H := H1, kep := putA P.kep t.num ⟨v, ws, P.begun⟩, act := delA P.act t.num } { S with last := l, mom := S.mom + 1, H := H1, list := S.list.modify i fun t => { t with ended := S.mom + 1, wrote := ws } } := by
  have ht := List.mem_of_getElem? hi
  obtain ⟨f, hf⟩ : ∃ f : Tx10 → Tx10, f = fun t => { t with ended := S.mom + 1, wrote := ws } := ⟨_, rfl⟩
  have hm : ∀ u, u ∈ S.list.modify i f ↔ (u ∈ S.list ∧ u.num ≠ t.num) ∨ u = f t := modify_mem h.nd hi
  have hfn : ∀ t, (f t).num = t.num := fun t => by rw [hf]
  have hm0 := h.m0
  have hmt : f t ∈ S.list.modify i f := (hm _).2 (.inr rfl)
  have hlive : ∀ u ∈ S.list.modify i f, u.ended = 0 → u ∈ S.list ∧ u.num ≠ t.num := fun u hu e => by
    rcases (hm u).1 hu with h1 | h1
    · exact h1
    · rw [h1, hf] at e
      have : S.mom + 1 = 0 := e
      omega
  rw [← hf]
  refine ⟨rfl, h.beg, rfl, h.L, h.oa.del _, h.ok.put _ _, h.of, ?_, ?_, fun u hu => ?_, fun x s => ?_, fun x k hk2 => ?_, fun u hu h1 => ?_, fun u hu => ?_, fun x g hg => ?_, fun u hu h1 => h.wr0 u (hlive u hu h1).1 h1, fun x hx => ?_, fun n hn => ?_, ?_, ?_⟩
  · show ((S.list.modify i f).map (·.num)).Nodup
    rw [modify_nums hfn]; exact h.nd
  · show 0 ≤ S.mom + 1 ∧ 0 ≤ S.next ∧ 0 ≤ l
    omega
  · show (1 ≤ u.num ∧ u.num ≤ S.next) ∧ (u.begun ≤ S.mom + 1) ∧ (0 ≤ u.ended ∧ u.ended ≤ S.mom + 1) ∧ 0 ≤ u.snap ∧ u.snap ≤ l
    rcases (hm u).1 hu with ⟨h1, -⟩ | h1
    · have := h.rg u h1; omega
    · have := h.rg t ht
      rw [h1, hf]
      show (1 ≤ t.num ∧ t.num ≤ S.next) ∧ (t.begun ≤ S.mom + 1) ∧ (0 ≤ S.mom + 1 ∧ S.mom + 1 ≤ S.mom + 1) ∧ 0 ≤ t.snap ∧ t.snap ≤ l
      omega
  · show getA (delA P.act t.num) x = some s ↔ ∃ u ∈ S.list.modify i f, u.ended = 0 ∧ u.num = x ∧ u.snap = s
    rw [getA_del h.oa]
    by_cases e : x = t.num
    · rw [if_pos e]
      constructor
      · intro e2; cases e2
      · rintro ⟨u, hu, a, b, -⟩
        exact absurd (b.trans e) (hlive u hu a).2
    · rw [if_neg e, h.act]
      constructor
      · rintro ⟨u, hu, a, b, d⟩
        exact ⟨u, (hm u).2 (.inl ⟨hu, fun e2 => e (b.symm.trans e2)⟩), a, b, d⟩
      · rintro ⟨u, hu, a, b, d⟩
        exact ⟨u, (hlive u hu a).1, a, b, d⟩
  · have hk2 : getA (putA P.kep t.num ⟨v, ws, P.begun⟩) x = some k := hk2
    rw [getA_put h.ok] at hk2
    by_cases e : x = t.num
    · rw [if_pos e] at hk2
      cases hk2
      refine ⟨f t, hmt, by rw [hf]; show 0 < S.mom + 1; omega, by rw [hfn, e], by rw [hf], ⟨by show 0 ≤ P.begun; rw [h.beg]; omega, by show P.begun ≤ S.next; rw [h.beg]; exact Int.le_refl _⟩, fun u hu hu0 => ?_⟩
      have h1 := h.rg u (hlive u hu hu0).1
      rw [hf]
      show u.begun < S.mom + 1 ↔ u.num ≤ P.begun
      rw [h.beg]
      show u.begun < S.mom + 1 ↔ u.num ≤ S.next
      omega
    · rw [if_neg e] at hk2
      obtain ⟨u, hu, h1, h2, h3, h4, h5⟩ := h.kep1 x k hk2
      exact ⟨u, (hm u).2 (.inl ⟨hu, by rw [h2]; exact e⟩), h1, h2, h3, h4, fun w hw hw0 => h5 w (hlive w hw hw0).1 hw0⟩
  · show ∃ k, getA (putA P.kep t.num _) u.num = some k
    rw [getA_put h.ok]
    by_cases e : u.num = t.num
    · rw [if_pos e]; exact ⟨_, rfl⟩
    · rw [if_neg e]
      rcases (hm u).1 hu with ⟨h2, -⟩ | h2
      · exact h.kep2 u h2 h1
      · rw [h2, hfn] at e; exact absurd rfl e
  · rcases (hm u).1 hu with ⟨h1, -⟩ | h1
    · exact h.flg1 u h1
    · have := h.flg1 t ht
      rw [h1, hfn]
      show flgOf P t.num = _
      rw [this, hf]
  · obtain ⟨u, hu, e⟩ := h.flg2 x g hg
    by_cases e2 : u.num = t.num
    · exact ⟨f t, hmt, by rw [hfn, ← e2]; exact e⟩
    · exact ⟨u, (hm u).2 (.inl ⟨hu, e2⟩), e⟩
  · obtain ⟨h1, h2⟩ := hH x hx
    obtain ⟨u, hu, a, b⟩ := h.hh x h1
    exact ⟨u, (hm u).2 (.inl ⟨hu, by rw [b]; exact h2⟩), a, b⟩
  · obtain ⟨u, hu, e⟩ := h.ll n hn
    by_cases e2 : u.num = t.num
    · exact ⟨f t, hmt, by rw [hfn, ← e2]; exact e⟩
    · exact ⟨u, (hm u).2 (.inl ⟨hu, e2⟩), e⟩
  · have h1 := del_lenA (l := P.act) t.num
    have h2 := h.na
    show ((delA P.act t.num).length : Int) ≤ c.act
    omega
  · have h1 := put_lenA (l := P.kep) t.num (⟨v, ws, P.begun⟩ : KpR)
    show ((putA P.kep t.num (⟨v, ws, P.begun⟩ : KpR)).length : Int) ≤ c.kept
    omega
theorem Sim10.leave (h : Sim10 c P S) {i : Nat} {t : Tx10} (hi : S.list[i]? = some t) (h0 : t.ended = 0) (l : Int) (H1 : List Hd) (hl : S.last ≤ l) (hH : ∀ x ∈ H1, x ∈ S.H ∧ x.2 ≠ t.num) (ws : List Lk) :
    Sim10 c { P with now := l, H := H1, L := dropN P.L t.num, flg := delA P.flg t.num, act := delA P.act t.num } { S with last := l, mom := S.mom + 1, H := H1, list := (S.list.modify i fun t => { t with ended := S.mom + 1, wrote := ws }).eraseIdx i, L := dropN S.L t.num } := by
  have ht := List.mem_of_getElem? hi
  have hp := h.pos t ht
  have hm0 := h.m0
  have he := erase_modify_mem h.nd hi (f := fun t => { t with ended := S.mom + 1, wrote := ws }) rfl
  refine ⟨rfl, h.beg, rfl, ?_, h.oa.del _, h.ok, h.of.del _, ?_, ?_, fun u hu => ?_, fun x s => ?_, fun x k hk => ?_, fun u hu h1 => h.kep2 u ((he u).1 hu).1 h1, fun u hu => ?_, fun x g hg => ?_, fun u hu h1 => h.wr0 u ((he u).1 hu).1 h1, fun x hx => ?_, fun n hn => ?_, ?_, h.nk⟩
  · show dropN P.L t.num = dropN S.L t.num
    rw [h.L]
  · have h1 : ((S.list.modify i fun t => { t with ended := S.mom + 1, wrote := ws }).map (·.num)).Nodup := by rw [modify_nums (f := fun t => { t with ended := S.mom + 1, wrote := ws }) (fun _ => rfl)]; exact h.nd
    exact List.Nodup.sublist ((List.eraseIdx_sublist ..).map _) h1
  · show 0 ≤ S.mom + 1 ∧ 0 ≤ S.next ∧ 0 ≤ l
    omega
  · have := h.rg u ((he u).1 hu).1
    show (1 ≤ u.num ∧ u.num ≤ S.next) ∧ (u.begun ≤ S.mom + 1) ∧ (0 ≤ u.ended ∧ u.ended ≤ S.mom + 1) ∧ 0 ≤ u.snap ∧ u.snap ≤ l
    omega
  · show getA (delA P.act t.num) x = some s ↔ ∃ u ∈ (S.list.modify i _).eraseIdx i, u.ended = 0 ∧ u.num = x ∧ u.snap = s
    rw [getA_del h.oa]
    by_cases e : x = t.num
    · rw [if_pos e]
      constructor
      · intro e2; cases e2
      · rintro ⟨u, hu, -, h2, -⟩
        exact absurd (h2.trans e) ((he u).1 hu).2
    · rw [if_neg e, h.act]
      constructor
      · rintro ⟨u, hu, h1, h2, h3⟩
        exact ⟨u, (he u).2 ⟨hu, fun e2 => e (h2.symm.trans e2)⟩, h1, h2, h3⟩
      · rintro ⟨u, hu, h1⟩
        exact ⟨u, ((he u).1 hu).1, h1⟩
  · obtain ⟨u, hu, h1, h2, h3, h4, h5⟩ := h.kep1 x k hk
    refine ⟨u, (he u).2 ⟨hu, fun e => ?_⟩, h1, h2, h3, h4, fun v hv => h5 v ((he v).1 hv).1⟩
    have := nums_inj h.nd hu ht e
    subst this
    omega
  · obtain ⟨h1, h2⟩ := (he u).1 hu
    have := h.flg1 u h1
    unfold flgOf at this ⊢
    show (getA (delA P.flg t.num) u.num).getD _ = _
    rw [getA_del h.of, if_neg h2]
    exact this
  · have hg : getA (delA P.flg t.num) x = some g := hg
    rw [getA_del h.of] at hg
    by_cases e : x = t.num
    · rw [if_pos e] at hg; cases hg
    · rw [if_neg e] at hg
      obtain ⟨u, hu, h1⟩ := h.flg2 x g hg
      exact ⟨u, (he u).2 ⟨hu, by rw [h1]; exact e⟩, h1⟩
  · obtain ⟨h1, h2⟩ := hH x hx
    obtain ⟨u, hu, h3, h4⟩ := h.hh _ h1
    exact ⟨u, (he u).2 ⟨hu, by rw [h4]; exact h2⟩, h3, h4⟩
  · obtain ⟨h1, h2⟩ := (dropN_mem hp).1 (show n ∈ dropN S.L t.num from hn)
    obtain ⟨u, hu, h3⟩ := h.ll n h1
    exact ⟨u, (he u).2 ⟨hu, by rw [h3]; exact h2⟩, h3⟩
  · have h1 := del_lenA (l := P.act) t.num
    have h2 := h.na
    show ((delA P.act t.num).length : Int) ≤ c.act
    omega
theorem Sim10.commit (h : Sim10 c P S) (h9 : Inv9 c.reads S.L) (ho : Once S.H) (tx : Int) (v : Value) :
    (commitG c P tx v).1 = (commit10 c S tx).1 ∧ Sim10 c (commitG c P tx v).2 (commit10 c S tx).2 := by
  unfold commitG commit10
  rcases h.under tx with ⟨ha, hu⟩ | ⟨i, t, ha, hu, hi, h0, rfl, ht, -⟩
  · rw [ha, hu]; exact ⟨rfl, h⟩
  · rw [hu, if_neg (by rw [ha]; simp)]
    simp only
    have hb : bothF (flgOf P t.num) = bothP S.list i := by unfold bothF bothP; rw [h.flg1 t ht, hi]; rfl
    rw [hb]
    by_cases hbo : bothP S.list i = true
    · rw [if_pos hbo, if_pos hbo]; exact ⟨rfl, h.abort hi h0⟩
    · rw [if_neg hbo, if_neg hbo]
      have hn1 : 1 ≤ activeP S.list := by
        rw [← h.actN]
        obtain ⟨s, hs⟩ := Option.isSome_iff_exists.1 (show (getA P.act t.num).isSome = true from ha)
        exact List.length_pos_iff.2 (List.ne_nil_of_mem (getA_mem hs))
      have hw : (0 < (heldP P.H t.num).length) ↔ heldP S.H t.num ≠ [] := by rw [h.H]; exact List.length_pos_iff
      have htx : (t.num ∈ txP P.L fun _ => true) ↔ ofP S.L t.num ≠ [] := by
        rw [(tx_is _ _).2, h.L]
        constructor
        · rintro ⟨n, hn, -, e⟩
          refine List.ne_nil_of_mem (a := n.2) ((of_is h9.ln t.num).2 n.2 |>.2 ?_)
          rw [← e]; exact hn
        · intro hne
          obtain ⟨y, hy⟩ := List.exists_mem_of_ne_nil _ hne
          exact ⟨(t.num, y), ((of_is h9.ln t.num).2 y).1 hy, rfl, rfl⟩
      obtain ⟨mt, hmt⟩ : ∃ m, (decide (heldP S.H t.num ≠ []) || decide (ofP S.L t.num ≠ [])) = m := ⟨_, rfl⟩
      rw [hmt]
      have hke : keepsG P t.num = (decide (1 < activeP S.list) && mt) := by
        unfold keepsG
        rw [h.actN, ← hmt, decide_eq_decide.2 hw, decide_eq_decide.2 htx]
      have hcond : (keepsG P t.num = true ∧ c.kept ≤ (P.kep.length : Int)) ↔ (decide (1 < activeP S.list) && mt && decide (c.kept ≤ (S.list.length : Int) - activeP S.list)) = true := by
        rw [hke, h.kepN]
        constructor
        · rintro ⟨a, b⟩
          rw [a]; simpa using b
        · intro e
          rw [Bool.and_eq_true] at e
          exact ⟨e.1, by simpa using e.2⟩
      by_cases hfu : keepsG P t.num = true ∧ c.kept ≤ (P.kep.length : Int)
      · rw [if_pos hfu, if_pos (hcond.1 hfu)]; exact ⟨rfl, h.abort hi h0⟩
      · rw [if_neg hfu, if_neg (fun e => hfu (hcond.2 e))]
        have hnow : (gone1 P t.num).now = if heldP S.H t.num ≠ [] then S.last + 1 else S.last := by
          unfold gone1
          by_cases e : heldP S.H t.num ≠ []
          · rw [if_pos (hw.2 e), if_pos e, ← h.now]
          · rw [if_neg (fun e2 => e (hw.1 e2)), if_neg e, h.now]
        have hHH : (gone1 P t.num).H = releaseP S.H t.num := by
          unfold gone1
          by_cases e : heldP S.H t.num ≠ []
          · rw [if_pos (hw.2 e), ← h.H]
          · rw [if_neg (fun e2 => e (hw.1 e2)), h.H]
            exact (release_id ho (by simpa using e)).symm
        obtain ⟨l, hl⟩ : ∃ l, (if heldP S.H t.num ≠ [] then S.last + 1 else S.last) = l := ⟨_, rfl⟩
        have hll : S.last ≤ l := by rw [← hl]; split <;> omega
        rw [hl] at hnow ⊢
        have hrel : ∀ x ∈ releaseP S.H t.num, x ∈ S.H ∧ x.2 ≠ t.num := fun x hx => by
          obtain ⟨x1, x2⟩ := x
          exact release_mem.1 hx
        obtain ⟨g1, g2, g3, g4⟩ := gone1_kep P t.num
        have gL : (gone1 P t.num).L = P.L := by unfold gone1; split <;> rfl
        refine ⟨by rw [hnow], ?_⟩
        unfold endG
        by_cases hkk : keepsG P t.num = true
        · have hlt : (P.kep.length : Int) < c.kept := by
            have : ¬ c.kept ≤ (P.kep.length : Int) := fun e => hfu ⟨hkk, e⟩
            omega
          have hno : ¬ (activeP S.list = 1 ∨ mt = false) := by
            rw [hke, Bool.and_eq_true, decide_eq_true_eq] at hkk
            rintro (e | e)
            · omega
            · rw [e] at hkk; cases hkk.2
          rw [if_neg hno]
          have e1 : ({ gone2 P t.num v with act := delA (gone2 P t.num v).act t.num } : Pg) = { P with now := l, H := releaseP S.H t.num, kep := putA P.kep t.num ⟨v, heldP S.H t.num, P.begun⟩, act := delA P.act t.num } := by
            unfold gone2
            rw [if_pos hkk]
            show (⟨(gone1 P t.num).now, (gone1 P t.num).begun, delA (gone1 P t.num).act t.num, putA P.kep t.num ⟨v, heldP P.H t.num, P.begun⟩, (gone1 P t.num).flg, (gone1 P t.num).H, (gone1 P t.num).L⟩ : Pg) = _
            rw [hnow, g2, g3, g4, hHH, gL, h.H]
          rw [e1]
          exact (h.keep hi h0 v 0 l (releaseP S.H t.num) hll hrel hlt (heldP S.H t.num)).sweep
        · have hyes : activeP S.list = 1 ∨ mt = false := by
            have hkk : keepsG P t.num = false := by simpa using hkk
            rw [hke] at hkk
            cases hm2 : mt with
            | false => exact .inr rfl
            | true =>
              rw [hm2, Bool.and_true, decide_eq_false_iff_not] at hkk
              exact .inl (by omega)
          rw [if_pos hyes]
          have e1 : ({ gone2 P t.num v with act := delA (gone2 P t.num v).act t.num } : Pg) = { P with now := l, H := releaseP S.H t.num, L := dropN P.L t.num, flg := delA P.flg t.num, act := delA P.act t.num } := by
            unfold gone2 forgetG
            rw [if_neg hkk]
            show (⟨(gone1 P t.num).now, (gone1 P t.num).begun, delA (gone1 P t.num).act t.num, (gone1 P t.num).kep, delA (gone1 P t.num).flg t.num, (gone1 P t.num).H, dropN (gone1 P t.num).L t.num⟩ : Pg) = _
            rw [hnow, g1, g2, g3, g4, hHH, gL]
          rw [e1]
          exact (h.leave hi h0 l (releaseP S.H t.num) hll hrel (heldP S.H t.num)).sweep
end
end Go.Proofs.YtknppiebncdjmaaGreat
