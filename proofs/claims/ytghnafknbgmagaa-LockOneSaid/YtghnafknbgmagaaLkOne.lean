/- Layer 8: what LockOne keeps beside the manager: two lists, cut and appended to. -/
import Derived.Test.YtghnafknbgmagaaLkRow
import Derived.Test.YtghnafknbgmagaaLkLaw
namespace Go.Proofs.Ytghnafknbgmagaa
set_option maxRecDepth 100000
set_option maxRecDepth 100000
open Go.RowKit Go.Maps Go.ChangeMaps Go.MapKept

/-- What is left of a list while a transaction's locks are cut out of it, p of them looked at. -/
def cutP (hs : List Hd) (tx : Int) (p : Nat) : List Hd := releaseP (hs.take p) tx ++ hs.drop p
def cutN (hs : List Hd) (tx : Int) (p : Nat) : Nat := (releaseP (hs.take p) tx).length
theorem cut_zero (hs : List Hd) (tx : Int) : cutP hs tx 0 = hs := by simp [cutP, releaseP]
theorem cutN_zero (hs : List Hd) (tx : Int) : cutN hs tx 0 = 0 := by simp [cutN, releaseP]
theorem cut_all (hs : List Hd) (tx : Int) : cutP hs tx hs.length = releaseP hs tx := by simp [cutP]
theorem cutN_all (hs : List Hd) (tx : Int) : cutN hs tx hs.length = (releaseP hs tx).length := by simp [cutN]
theorem cut_len {hs : List Hd} (tx : Int) (p : Nat) : (cutP hs tx p).length = cutN hs tx p + (hs.length - p) := by simp [cutP, cutN]
theorem cutN_le (hs : List Hd) (tx : Int) (p : Nat) : cutN hs tx p ≤ p := by
  unfold cutN releaseP
  have h1 := List.length_filter_le (fun h : Hd => !decide (h.2 = tx)) (hs.take p)
  have h2 := List.length_take_le p hs
  omega
theorem cut_at {hs : List Hd} (tx : Int) {p : Nat} {x : Hd} (hx : hs[p]? = some x) : (cutP hs tx p)[cutN hs tx p]? = some x := by
  unfold cutP cutN
  rw [List.getElem?_append_right (Nat.le_refl _), Nat.sub_self, List.getElem?_drop, Nat.add_zero, hx]
theorem drop_at {hs : List Hd} {p : Nat} {x : Hd} (hx : hs[p]? = some x) : hs.drop p = x :: hs.drop (p + 1) := by
  obtain ⟨h1, h2⟩ := List.getElem?_eq_some_iff.1 hx
  rw [List.drop_eq_getElem_cons h1, h2]
theorem cut_skip {hs : List Hd} {tx : Int} {p : Nat} {x : Hd} (hx : hs[p]? = some x) (hn : x.2 ≠ tx) : cutP hs tx (p + 1) = cutP hs tx p ∧ cutN hs tx (p + 1) = cutN hs tx p + 1 := by
  unfold cutP cutN
  rw [releaseP_take hx, if_neg hn]
  refine ⟨?_, by simp⟩
  rw [drop_at hx]
  simp
theorem cut_drop {hs : List Hd} {tx : Int} {p : Nat} {x : Hd} (hx : hs[p]? = some x) (hn : x.2 = tx) : cutP hs tx (p + 1) = (cutP hs tx p).take (cutN hs tx p) ++ (cutP hs tx p).drop (cutN hs tx p + 1) ∧ cutN hs tx (p + 1) = cutN hs tx p := by
  unfold cutP cutN
  rw [releaseP_take hx, if_pos hn]
  refine ⟨?_, by simp⟩
  rw [List.append_nil, List.take_left' rfl, drop_at hx, List.drop_append]
  simp
/-- Who holds a lock, as far as looked. -/
theorem holder_step {hs : List Hd} (ho : Once hs) {k : Nat} {x : Hd} (hx : hs[k]? = some x) (l : Lk) : (holderP (hs.take (k + 1)) l).getD 0 = if x.1 = l then x.2 else (holderP (hs.take k) l).getD 0 := by
  rw [List.take_add_one, hx, Option.toList_some]
  obtain ⟨xl, xt⟩ := x
  rw [holder_app]
  by_cases e : xl = l
  · subst e
    have hn : holderP (hs.take k) xl = none := holder_none.2 fun tx hm => by
      have h1 : (hs.take k).map (·.1) ++ (hs.drop k).map (·.1) = hs.map (·.1) := by rw [← List.map_append, List.take_append_drop]
      have h2 : ((hs.take k).map (·.1) ++ (hs.drop k).map (·.1)).Nodup := by rw [h1]; exact ho
      rw [List.nodup_append] at h2
      refine h2.2.2 xl (List.mem_map.2 ⟨_, hm, rfl⟩) xl ?_ rfl
      rw [drop_at hx]; simp
    rw [hn]; simp
  · rw [if_neg (Ne.symm e)]; simp [e]
theorem holder_is {hs : List Hd} (ho : Once hs) {k : Nat} {x : Hd} (hx : hs[k]? = some x) : holderP hs x.1 = some x.2 := (holder_some ho).2 (List.mem_of_getElem? hx)
theorem cells_cut (L : List Hd) (i k : Nat) : (cellsL (L.map (·.1))).take (seL.s * i) ++ (cellsL (L.map (·.1))).drop (seL.s * k) = cellsL ((L.take i ++ L.drop k).map (·.1)) := by
  show (cellsL (L.map (·.1))).take (2 * i) ++ (cellsL (L.map (·.1))).drop (2 * k) = _
  rw [← cellsL_take, ← cellsL_drop, List.map_append, cellsL_app, List.map_take, List.map_drop]
theorem nums_cut (L : List Hd) (i k : Nat) : (numC (L.map (·.2))).take (seN.s * i) ++ (numC (L.map (·.2))).drop (seN.s * k) = numC ((L.take i ++ L.drop k).map (·.2)) := by
  show (numC (L.map (·.2))).take (1 * i) ++ (numC (L.map (·.2))).drop (1 * k) = _
  simp [numC, Nat.one_mul, List.map_take, List.map_drop]

theorem LR.apart {E : SEl} {base n c : Nat} {w : World} {A : Option Addr} {vs : List Value} (h : LR E base w A n c vs) {k : Nat} {x : Obj} (hx : w.heap[k]? = some x) (hn : ∀ cur, x ≠ .cells cur E.e (0, 0)) : ∀ g, A = some ⟨g, 0, none⟩ → k ≠ g := by
  rintro g e rfl
  rcases h.blk with ⟨e0, -⟩ | ⟨g', cur, e0, -, hh, -⟩
  · rw [e] at e0; cases e0
  · rw [e] at e0; cases e0
    rw [hx] at hh
    exact hn cur (Option.some.inj hh)
/-- Where LockOne's loop stands: the manager, the list of locks, the list of holders. -/
structure One8 (w0 w : World) (m r : Nat) (most : Int) (hs : List Hd) (L1 L2 : List Hd) (A1 : Option Addr) (q1 c1 : Nat) (A2 : Option Addr) (q2 c2 : Nat) : Prop where
  mg : MG w m r most hs
  bel : Below w0.heap.size w0 w
  ml : w0.heap.size ≤ m
  rl : w0.heap.size ≤ r
  r1 : LR seL w0.heap.size w A1 q1 c1 (cellsL (L1.map (·.1)))
  r2 : LR seN w0.heap.size w A2 q2 c2 (numC (L2.map (·.2)))
  e1 : L1.length = q1
  e2 : L2.length = q2
  pos : ∀ h ∈ hs, 1 ≤ h.2
section
variable {w0 w w' : World} {m r : Nat} {most : Int} {hs hs' L1 L2 : List Hd} {A1 A2 : Option Addr} {q1 c1 q2 c2 : Nat}
theorem One8.below (h : One8 w0 w m r most hs L1 L2 A1 q1 c1 A2 q2 c2) (g : Below w.heap.size w w') : One8 w0 w' m r most hs L1 L2 A1 q1 c1 A2 q2 c2 :=
  ⟨h.mg.below g, below_next h.bel g, h.ml, h.rl, h.r1.below g, h.r2.below g, h.e1, h.e2, h.pos⟩
theorem One8.out (h : One8 w0 w m r most hs L1 L2 A1 q1 c1 A2 q2 c2) (hm : MG w' m r most hs') (hp : ∀ h ∈ hs', 1 ≤ h.2) (g : Out (fun k => k = r) w w') : One8 w0 w' m r most hs' L1 L2 A1 q1 c1 A2 q2 c2 := by
  have hr : ∀ {E : SEl} {base n c : Nat} {A : Option Addr} {vs : List Value}, LR E base w A n c vs → LR E base w' A n c vs := fun {E base n c A vs} hl => hl.stays fun k e => by
    rcases hl.blk with ⟨e0, -⟩ | ⟨g', cur, e0, -, hh, -⟩
    · rw [e] at e0; cases e0
    · rw [e] at e0; cases e0
      exact g.block k (Array.getElem?_eq_some_iff.1 hh).1 fun e2 => h.mg.map.no hh e2
  exact ⟨hm, h.bel.trans (g.below h.bel.size fun i hi e => by have := h.rl; omega), h.ml, h.rl, hr h.r1, hr h.r2, h.e1, h.e2, hp⟩
theorem One8.map_no (h : One8 w0 w m r most hs L1 L2 A1 q1 c1 A2 q2 c2) {E : SEl} {base n c : Nat} {A : Option Addr} {vs : List Value} (hl : LR E base w A n c vs) : ∀ g, A = some ⟨g, 0, none⟩ → r ≠ g := by
  obtain ⟨D, ⟨es, cl, hr, -⟩, -⟩ := h.mg.map
  exact hl.apart hr fun cur e => by cases e
theorem One8.mg_no (h : One8 w0 w m r most hs L1 L2 A1 q1 c1 A2 q2 c2) {E : SEl} {base n c : Nat} {A : Option Addr} {vs : List Value} (hl : LR E base w A n c vs) (hE : E.e ≠ 56) : ∀ g, A = some ⟨g, 0, none⟩ → m ≠ g :=
  hl.apart h.mg.blk fun cur e => hE (by injection e with _ e2; exact e2.symm)
theorem One8.keep (h : One8 w0 w m r most hs L1 L2 A1 q1 c1 A2 q2 c2) (f1 : w'.heap[m]? = w.heap[m]?) (f2 : w'.heap[r]? = w.heap[r]?) : MG w' m r most hs :=
  ⟨f1.trans h.mg.blk, h.mg.map.block f2, h.mg.m1, h.mg.m2, h.mg.len⟩
/-- The list of locks is another one. -/
theorem One8.app1 (h : One8 w0 w m r most hs L1 L2 A1 q1 c1 A2 q2 c2) {L1' : List Hd} {A1' : Option Addr} {q1' c1' : Nat} (hr : LR seL w0.heap.size w' A1' q1' c1' (cellsL (L1'.map (·.1)))) (he : L1'.length = q1') (b : Below w0.heap.size w w')
    (f : ∀ k, k < w.heap.size → (∀ g, A1 = some ⟨g, 0, none⟩ → k ≠ g) → w'.heap[k]? = w.heap[k]?) : One8 w0 w' m r most hs L1' L2 A1' q1' c1' A2 q2 c2 :=
  ⟨h.keep (f m (Array.getElem?_eq_some_iff.1 h.mg.blk).1 (h.mg_no h.r1 (by decide))) (f r h.mg.map.lt (h.map_no h.r1)), h.bel.trans b, h.ml, h.rl, hr, h.r2.stays fun g e => by
    rcases h.r2.blk with ⟨e0, -⟩ | ⟨g', cur, e0, -, hh, -⟩
    · rw [e] at e0; cases e0
    · rw [e] at e0; cases e0
      exact f g (Array.getElem?_eq_some_iff.1 hh).1 (h.r1.apart hh fun cur2 e2 => by injection e2 with _ e3; exact absurd e3 (by decide)), he, h.e2, h.pos⟩
theorem One8.app2 (h : One8 w0 w m r most hs L1 L2 A1 q1 c1 A2 q2 c2) {L2' : List Hd} {A2' : Option Addr} {q2' c2' : Nat} (hr : LR seN w0.heap.size w' A2' q2' c2' (numC (L2'.map (·.2)))) (he : L2'.length = q2') (b : Below w0.heap.size w w')
    (f : ∀ k, k < w.heap.size → (∀ g, A2 = some ⟨g, 0, none⟩ → k ≠ g) → w'.heap[k]? = w.heap[k]?) : One8 w0 w' m r most hs L1 L2' A1 q1 c1 A2' q2' c2' :=
  ⟨h.keep (f m (Array.getElem?_eq_some_iff.1 h.mg.blk).1 (h.mg_no h.r2 (by decide))) (f r h.mg.map.lt (h.map_no h.r2)), h.bel.trans b, h.ml, h.rl, h.r1.stays fun g e => by
    rcases h.r1.blk with ⟨e0, -⟩ | ⟨g', cur, e0, -, hh, -⟩
    · rw [e] at e0; cases e0
    · rw [e] at e0; cases e0
      exact f g (Array.getElem?_eq_some_iff.1 hh).1 (h.r2.apart hh fun cur2 e2 => by injection e2 with _ e3; exact absurd e3 (by decide)), hr, h.e1, he, h.pos⟩
/-- The k-th lock. -/
theorem One8.lock (h : One8 w0 w m r most hs L1 L2 A1 q1 c1 A2 q2 c2) {k : Nat} {x : Hd} (hx : L1[k]? = some x) : ∃ g, A1 = some ⟨g, 0, none⟩ ∧ w.cell? ⟨g, k * 2, none⟩ = some (.string x.1.1) ∧ w.cell? ⟨g, k * 2 + 1, none⟩ = some (.string x.1.2) := by
  have h1 := cellsL_at (L1.map (·.1)) k x.1 (by rw [List.getElem?_map, hx]; rfl)
  rcases h.r1.blk with ⟨-, e0, -⟩ | ⟨g, cur, e0, -, hh, hc⟩
  · have := (List.getElem?_eq_some_iff.1 hx).1
    have := h.e1
    omega
  · refine ⟨g, e0, ?_, ?_⟩
    · rw [Nat.mul_comm, cell_of_row _ _ _ _ _ _ hh]; exact hc _ _ h1.1
    · rw [Nat.mul_comm, cell_of_row _ _ _ _ _ _ hh]; exact hc _ _ h1.2
theorem One8.holder (h : One8 w0 w m r most hs L1 L2 A1 q1 c1 A2 q2 c2) {k : Nat} {x : Hd} (hx : L2[k]? = some x) : ∃ g, A2 = some ⟨g, 0, none⟩ ∧ w.cell? ⟨g, k, none⟩ = some (.int .i64 x.2) := by
  have h1 : (numC (L2.map (·.2)))[k]? = some (.int .i64 x.2) := by simp [numC, hx]
  rcases h.r2.blk with ⟨-, e0, -⟩ | ⟨g, cur, e0, -, hh, hc⟩
  · have := (List.getElem?_eq_some_iff.1 hx).1
    have := h.e2
    omega
  · exact ⟨g, e0, by rw [cell_of_row _ _ _ _ _ _ hh]; exact hc _ _ h1⟩
/-- A block of another type stays. -/
theorem One8.aside1 (h : One8 w0 w m r most hs L1 L2 A1 q1 c1 A2 q2 c2) {b : Nat} {cs : Array Value} {t : TypeId} (hb : w.heap[b]? = some (.cells cs t (0, 0))) (ht : t ≠ 34) (f : ∀ k, k < w.heap.size → (∀ g, A1 = some ⟨g, 0, none⟩ → k ≠ g) → w'.heap[k]? = w.heap[k]?) : w'.heap[b]? = some (.cells cs t (0, 0)) :=
  (f b (Array.getElem?_eq_some_iff.1 hb).1 (h.r1.apart hb fun cur e => ht (by injection e))).trans hb
theorem One8.aside2 (h : One8 w0 w m r most hs L1 L2 A1 q1 c1 A2 q2 c2) {b : Nat} {cs : Array Value} {t : TypeId} (hb : w.heap[b]? = some (.cells cs t (0, 0))) (ht : t ≠ 2) (f : ∀ k, k < w.heap.size → (∀ g, A2 = some ⟨g, 0, none⟩ → k ≠ g) → w'.heap[k]? = w.heap[k]?) : w'.heap[b]? = some (.cells cs t (0, 0)) :=
  (f b (Array.getElem?_eq_some_iff.1 hb).1 (h.r2.apart hb fun cur e => ht (by injection e))).trans hb
theorem One8.asideR (h : One8 w0 w m r most hs L1 L2 A1 q1 c1 A2 q2 c2) {b : Nat} {cs : Array Value} {t : TypeId} (hb : w.heap[b]? = some (.cells cs t (0, 0))) (g : Out (fun k => k = r) w w') : w'.heap[b]? = some (.cells cs t (0, 0)) :=
  (g.block b (Array.getElem?_eq_some_iff.1 hb).1 (h.mg.map.no hb)).trans hb
end
theorem pos_release {hs : List Hd} (h : ∀ x ∈ hs, 1 ≤ x.2) (tx : Int) : ∀ x ∈ releaseP hs tx, 1 ≤ x.2 := fun x hx => h x (List.mem_filter.1 hx).1
theorem pos_take {most : Int} {hs : List Hd} (h : ∀ x ∈ hs, 1 ≤ x.2) (tx snap last : Int) (l : Lk) : ∀ x ∈ (takeP most hs tx snap last l).2, 1 ≤ x.2 := by
  unfold takeP
  split
  · exact h
  · rename_i hn
    split
    · split <;> exact h
    · split
      · exact h
      · split
        · exact h
        · intro x hx
          rcases List.mem_append.1 hx with hx | hx
          · exact h x hx
          · rw [List.mem_singleton.1 hx]
            show 1 ≤ tx
            omega
/-- How long a slice is. -/
def sliceLen : Value → Nat
  | .slice _ n _ => n
  | _ => 0
/-- What Take answers, part by part. -/
theorem take_parts {most : Int} {hs : List Hd} (ho : Once hs) (hp : ∀ x ∈ hs, 1 ≤ x.2) (tx snap last : Int) (l : Lk) :
    (∃ e, takeP most hs tx snap last l = (e, hs) ∧ e ≠ 0 ∧ e ≠ 80) ∨
    (takeP most hs tx snap last l = (0, hs) ∧ (holderP hs l).getD 0 = tx ∧ 1 ≤ tx) ∨
    (∃ x, takeP most hs tx snap last l = (80, hs) ∧ (holderP hs l).getD 0 = x ∧ 1 ≤ x ∧ x ≠ tx) ∨
    (takeP most hs tx snap last l = (0, hs ++ [(l, tx)]) ∧ (holderP hs l).getD 0 = 0 ∧ 1 ≤ tx) := by
  unfold takeP
  by_cases h1 : tx < 1 ∨ snap < 0 ∨ last < 0
  · rw [if_pos h1]; exact .inl ⟨1, rfl, by decide, by decide⟩
  · rw [if_neg h1]
    cases h2 : holderP hs l with
    | some x =>
      have hx := hp _ ((holder_some ho).1 h2)
      simp only at hx ⊢
      by_cases h3 : x = tx
      · rw [if_pos h3]; exact .inr (.inl ⟨rfl, by simpa using h3, by omega⟩)
      · rw [if_neg h3]; exact .inr (.inr (.inl ⟨x, rfl, rfl, hx, h3⟩))
    | none =>
      simp only
      by_cases h3 : snap < last
      · rw [if_pos h3]; exact .inl ⟨81, rfl, by decide, by decide⟩
      · rw [if_neg h3]
        by_cases h4 : most ≤ (hs.length : Int)
        · rw [if_pos h4]; exact .inl ⟨4, rfl, by decide, by decide⟩
        · rw [if_neg h4]; exact .inr (.inr (.inr ⟨rfl, rfl, by omega⟩))
end Go.Proofs.Ytghnafknbgmagaa
