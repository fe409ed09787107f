import Derived.Test.YtcpifanhmkblmaaJAY
import Derived.Test.YtcpifanhmkblmaaSpTake
/- Layer 9, plain: which pair of a transaction and a table has the most notes, as they are gone through. -/
namespace Go.Proofs.Ytcpifanhmkblmaa
set_option maxRecDepth 100000

/-- Of the pairs in S this is the one with the most, of these the least. -/
def Bst (S : (Int × ByteArray) → Nat → Prop) (p : Int × ByteArray) (n : Nat) : Prop := (n = 0 ∧ ∀ q m, ¬ S q m) ∨ (S p n ∧ ∀ q m, S q m → m ≤ n ∧ (m = n → pairLt q p = false))
theorem Bst.congr {S S' : (Int × ByteArray) → Nat → Prop} {p : Int × ByteArray} {n : Nat} (h : Bst S p n) (hS : ∀ q m, S' q m ↔ S q m) : Bst S' p n := by
  rcases h with ⟨h1, h2⟩ | ⟨h1, h2⟩
  · exact .inl ⟨h1, fun q m hq => h2 q m ((hS q m).1 hq)⟩
  · exact .inr ⟨(hS _ _).2 h1, fun q m hq => h2 q m ((hS q m).1 hq)⟩
theorem Bst.take {S S' : (Int × ByteArray) → Nat → Prop} {p p2 : Int × ByteArray} {n n2 : Nat} (h : Bst S p n) (h0 : 0 < n2) (hS : ∀ q m, S' q m ↔ S q m ∨ (q = p2 ∧ m = n2)) (hb : n < n2 ∨ (n2 = n ∧ pairLt p2 p = true)) : Bst S' p2 n2 := by
  refine .inr ⟨(hS _ _).2 (.inr ⟨rfl, rfl⟩), fun q m hq => ?_⟩
  rcases (hS q m).1 hq with h1 | ⟨rfl, rfl⟩
  · rcases h with ⟨h2, h3⟩ | ⟨h2, h3⟩
    · exact absurd h1 (h3 q m)
    · obtain ⟨h4, h5⟩ := h3 q m h1
      rcases hb with hb | ⟨rfl, hb⟩
      · exact ⟨by omega, fun e => by omega⟩
      · refine ⟨h4, fun e => ?_⟩
        cases h6 : pairLt q p2 with
        | false => rfl
        | true =>
          have := h5 e
          rw [pairLt_tr h6 hb] at this
          cases this
  · exact ⟨Nat.le_refl _, fun _ => pairLt_irr _⟩
theorem Bst.leave {S S' : (Int × ByteArray) → Nat → Prop} {p p2 : Int × ByteArray} {n n2 : Nat} (h : Bst S p n) (h0 : 0 < n2) (hS : ∀ q m, S' q m ↔ S q m ∨ (q = p2 ∧ m = n2)) (hb : ¬ n < n2 ∧ (n2 = n → pairLt p2 p = false)) : Bst S' p n := by
  rcases h with ⟨h2, h3⟩ | ⟨h2, h3⟩
  · omega
  · refine .inr ⟨(hS _ _).2 (.inl h2), fun q m hq => ?_⟩
    rcases (hS q m).1 hq with h1 | ⟨rfl, rfl⟩
    · exact h3 q m h1
    · exact ⟨by omega, hb.2⟩
/-- A pair with so many notes. -/
def AllP (X : List Tx9) (p : Int × ByteArray) (n : Nat) : Prop := ∃ e ∈ X, ∃ q ∈ e.2.2, p = (e.1, q.1) ∧ n = q.2.2.length
def VisO (X : List Tx9) (left : List (Int × Value)) (p : Int × ByteArray) (n : Nat) : Prop := ∃ e ∈ X, (∀ v, (e.1, v) ∉ left) ∧ ∃ q ∈ e.2.2, p = (e.1, q.1) ∧ n = q.2.2.length
def VisI (X : List Tx9) (left : List (Int × Value)) (t : Int) (T : List Tb9) (leftT : List (ByteArray × Value)) (p : Int × ByteArray) (n : Nat) : Prop := (VisO X left p n ∧ p.1 ≠ t) ∨ ∃ q ∈ T, (∀ v, (q.1, v) ∉ leftT) ∧ p = (t, q.1) ∧ n = q.2.2.length
theorem visO_start (X : List Tx9) (p : Int × ByteArray) (n : Nat) : ¬ VisO X (topX X) p n := by
  rintro ⟨e, he, h, -⟩
  exact h _ (List.mem_map.2 ⟨e, he, rfl⟩)
theorem visO_end (X : List Tx9) (p : Int × ByteArray) (n : Nat) : VisO X [] p n ↔ AllP X p n := by
  unfold VisO AllP
  simp
theorem tx_eq {X : List Tx9} (h : (X.map (·.1)).Nodup) {e f : Tx9} (he : e ∈ X) (hf : f ∈ X) (e1 : e.1 = f.1) : e = f := by
  induction X with
  | nil => cases he
  | cons x X ih =>
    obtain ⟨n1, n2⟩ := List.nodup_cons.1 (show (x.1 :: X.map (·.1)).Nodup from h)
    rcases List.mem_cons.1 he with rfl | he <;> rcases List.mem_cons.1 hf with rfl | hf
    · rfl
    · exact (n1 (List.mem_map.2 ⟨f, by assumption, e1.symm⟩)).elim
    · exact (n1 (List.mem_map.2 ⟨e, by assumption, e1⟩)).elim
    · exact ih n2 he hf
theorem visI_start {X : List Tx9} (h : (X.map (·.1)).Nodup) {left : List (Int × Value)} {t : Int} {b : Nat} {T : List Tb9} (hm : (t, b, T) ∈ X) {v : Value} (hl : (t, v) ∈ left) (p : Int × ByteArray) (n : Nat) : VisI X (delM left t) t T (tabT T) p n ↔ VisO X left p n := by
  constructor
  · rintro (⟨⟨e, he, h1, q, hq, rfl, rfl⟩, hne⟩ | ⟨q, hq, h1, -, -⟩)
    · exact ⟨e, he, fun u hu => h1 u (mem_delM.2 ⟨hu, hne⟩), q, hq, rfl, rfl⟩
    · exact absurd (List.mem_map.2 ⟨q, hq, rfl⟩) (h1 q.2.1)
  · rintro ⟨e, he, h1, q, hq, rfl, rfl⟩
    have hne : e.1 ≠ t := fun e2 => h1 v (by rw [e2]; exact hl)
    exact .inl ⟨⟨e, he, fun u hu => h1 u (mem_delM.1 hu).1, q, hq, rfl, rfl⟩, hne⟩
theorem visI_end {X : List Tx9} (h : (X.map (·.1)).Nodup) {left : List (Int × Value)} (ho : OnceM left) {t : Int} {b : Nat} {T : List Tb9} (hm : (t, b, T) ∈ X) (p : Int × ByteArray) (n : Nat) : VisO X (delM left t) p n ↔ VisI X (delM left t) t T [] p n := by
  constructor
  · rintro ⟨e, he, h1, q, hq, rfl, rfl⟩
    by_cases hne : e.1 = t
    · have := tx_eq h he hm hne
      subst this
      exact .inr ⟨q, hq, by simp, rfl, rfl⟩
    · exact .inl ⟨⟨e, he, h1, q, hq, rfl, rfl⟩, hne⟩
  · rintro (⟨h1, -⟩ | ⟨q, hq, -, rfl, rfl⟩)
    · exact h1
    · exact ⟨(t, b, T), hm, fun u hu => (mem_delM.1 hu).2 rfl, q, hq, rfl, rfl⟩
theorem tb_eq {T : List Tb9} (h : (T.map (·.1)).Nodup) {e f : Tb9} (he : e ∈ T) (hf : f ∈ T) (e1 : e.1 = f.1) : e = f := by
  induction T with
  | nil => cases he
  | cons x T ih =>
    obtain ⟨n1, n2⟩ := List.nodup_cons.1 (show (x.1 :: T.map (·.1)).Nodup from h)
    rcases List.mem_cons.1 he with rfl | he <;> rcases List.mem_cons.1 hf with rfl | hf
    · rfl
    · exact (n1 (List.mem_map.2 ⟨f, by assumption, e1.symm⟩)).elim
    · exact (n1 (List.mem_map.2 ⟨e, by assumption, e1⟩)).elim
    · exact ih n2 he hf
theorem visI_step {X : List Tx9} {left : List (Int × Value)} {t : Int} {T : List Tb9} (hT : (T.map (·.1)).Nodup) {leftT : List (ByteArray × Value)} {q : Tb9} (hq : q ∈ T) {v : Value} (hl : (q.1, v) ∈ leftT) (p : Int × ByteArray) (n : Nat) :
    VisI X left t T (delM leftT q.1) p n ↔ VisI X left t T leftT p n ∨ (p = (t, q.1) ∧ n = q.2.2.length) := by
  constructor
  · rintro (h1 | ⟨q2, hq2, h1, rfl, rfl⟩)
    · exact .inl (.inl h1)
    · by_cases e : q2.1 = q.1
      · have := tb_eq hT hq2 hq e
        subst this
        exact .inr ⟨rfl, rfl⟩
      · exact .inl (.inr ⟨q2, hq2, fun u hu => h1 u (mem_delM.2 ⟨hu, e⟩), rfl, rfl⟩)
  · rintro ((h1 | ⟨q2, hq2, h1, rfl, rfl⟩) | ⟨rfl, rfl⟩)
    · exact .inl h1
    · exact .inr ⟨q2, hq2, fun u hu => h1 u (mem_delM.1 hu).1, rfl, rfl⟩
    · exact .inr ⟨q, hq, fun u hu => (mem_delM.1 hu).2 rfl, rfl, rfl⟩
section
variable {w : World} {ops : Array Oper} {rest : List Oper} {o : Oper} {a : Act} {Q : Exit → Act → World → Prop} {r : Nat}
theorem wp_nextI {hs : List (Int × Value)} (hg : o.guard = none) (p : Operand) (hop : o.op = Op.next p false) (it : Nat) (left : List (Int × Value)) (hp : a.eval p = .pointer (some ⟨it, 0, none⟩)) (hR : RangeM KI w r it hs left)
    (hDone : left = [] → wpList Try.prog ops Q rest (a.put o.dst (.tuple #[.bool false])) w)
    (hMore : ∀ (x : Int) (v : Value) (w' : World), (x, v) ∈ left → (Lit.int .i64 x).wf = true → RangeM KI w' r it hs (delM left x) → w.grownBy w' (some it) → w'.heap.size = w.heap.size → w'.rangeLeft r it < w.rangeLeft r it →
      (Instr.entry (.pointer (some ⟨it, 0, none⟩))).run Try.prog w' = .ok (.tuple #[.int .i64 x, v]) w' → wpList Try.prog ops Q rest (a.put o.dst (.tuple #[.bool true, .int .i64 x, v])) w') :
    wpList Try.prog ops Q (o :: rest) a w := wp_nextM KI hg p hop it left hp hR hDone hMore
theorem wp_nextS {hs : List (ByteArray × Value)} (hg : o.guard = none) (p : Operand) (hop : o.op = Op.next p false) (it : Nat) (left : List (ByteArray × Value)) (hp : a.eval p = .pointer (some ⟨it, 0, none⟩)) (hR : RangeM KS w r it hs left)
    (hDone : left = [] → wpList Try.prog ops Q rest (a.put o.dst (.tuple #[.bool false])) w)
    (hMore : ∀ (x : ByteArray) (v : Value) (w' : World), (x, v) ∈ left → x.size ≤ maxLen → RangeM KS w' r it hs (delM left x) → w.grownBy w' (some it) → w'.heap.size = w.heap.size → w'.rangeLeft r it < w.rangeLeft r it →
      (Instr.entry (.pointer (some ⟨it, 0, none⟩))).run Try.prog w' = .ok (.tuple #[.string x, v]) w' → wpList Try.prog ops Q rest (a.put o.dst (.tuple #[.bool true, .string x, v])) w') :
    wpList Try.prog ops Q (o :: rest) a w := wp_nextM KS hg p hop it left hp hR hDone hMore
end
theorem grown_below {B : Nat} {w w' : World} {k : Nat} (h : w.grownBy w' (some k)) (hB : B ≤ w.heap.size) (hk : B ≤ k) : RowKit.Below B w w' := ⟨h.os, h.tape, h.output, h.size, fun i hi => h.block i (Nat.lt_of_lt_of_le hi hB) (fun e => by have := Option.some.inj e; omega)⟩
theorem grown_none {B : Nat} {w w' : World} (h : w.grownBy w' none) (hB : B ≤ w.heap.size) : RowKit.Below B w w' := ⟨h.os, h.tape, h.output, h.size, fun i hi => h.block i (Nat.lt_of_lt_of_le hi hB) (by simp)⟩
end Go.Proofs.Ytcpifanhmkblmaa

/- Layer 9: put and take, told of all the notes. -/
namespace Go.Proofs.Ytcpifanhmkblmaa
set_option maxRecDepth 100000
set_option maxRecDepth 100000
open Go.RowKit

/-- A note of another transaction or table. -/
def notP (t : Int) (tb : ByteArray) (n : Nt) : Bool := !(decide (n.1 = t) && (n.2.tb.toList == tb.toList))
theorem mem_flatX {X : List Tx9} {n : Nt} : n ∈ flatX X ↔ ∃ e ∈ X, ∃ q ∈ e.2.2, ∃ z ∈ q.2.2, n = (e.1, z.2) := by
  unfold flatX flatT
  simp only [List.mem_flatMap, List.mem_map]
  constructor
  · rintro ⟨e, he, q, hq, z, hz, rfl⟩; exact ⟨e, he, q, hq, z, hz, rfl⟩
  · rintro ⟨e, he, q, hq, z, hz, rfl⟩; exact ⟨e, he, q, hq, z, hz, rfl⟩
theorem flatX_cons (e : Tx9) (X : List Tx9) : flatX (e :: X) = flatT e.1 e.2.2 ++ flatX X := by unfold flatX; rw [List.flatMap_cons]
theorem flatT_cons (t : Int) (q : Tb9) (T : List Tb9) : flatT t (q :: T) = (q.2.2.map fun z => (t, z.2)) ++ flatT t T := by unfold flatT; rw [List.flatMap_cons]
theorem tbOk_tb {t : Int} {q : Tb9} (h : TbOk t q) : ∀ z ∈ q.2.2, z.2.tb = q.1 := fun z hz => (h.ord.may z.2 (List.mem_map.2 ⟨z, hz, rfl⟩)).2
theorem filter_other {X : List Tx9} {t : Int} {tb : ByteArray} (h : ∀ e ∈ X, e.1 ≠ t) : (flatX X).filter (notP t tb) = flatX X := List.filter_eq_self.2 fun n hn => by
  obtain ⟨e, he, q, hq, z, hz, rfl⟩ := mem_flatX.1 hn
  unfold notP
  simp [h e he]
theorem filter_tabs {t : Int} {T : List Tb9} {tb : ByteArray} (hok : ∀ q ∈ T, TbOk t q) (h : ∀ q ∈ T, q.1 ≠ tb) : (flatT t T).filter (notP t tb) = flatT t T := List.filter_eq_self.2 fun n hn => by
  unfold flatT at hn
  simp only [List.mem_flatMap, List.mem_map] at hn
  obtain ⟨q, hq, z, hz, rfl⟩ := hn
  have h1 := tbOk_tb (hok q hq) z hz
  unfold notP
  rw [toList_beq8, h1]
  simp [h q hq]
theorem filter_own {t : Int} {q : Tb9} (hok : TbOk t q) : (q.2.2.map fun z => ((t, z.2) : Nt)).filter (notP t q.1) = [] := List.filter_eq_nil_iff.2 fun n hn => by
  obtain ⟨z, hz, rfl⟩ := List.mem_map.1 hn
  unfold notP
  rw [toList_beq8, tbOk_tb hok z hz]
  simp
theorem len_tx {X : List Tx9} (h : ∀ e ∈ X, e.2.2 ≠ [] ∧ ∀ q ∈ e.2.2, q.2.2 ≠ []) : X.length ≤ (flatX X).length := by
  induction X with
  | nil => simp [flatX]
  | cons e X ih =>
    rw [flatX_cons, List.length_append, List.length_cons]
    have h1 := ih fun e he => h e (List.mem_cons_of_mem _ he)
    obtain ⟨h2, h3⟩ := h e (List.mem_cons_self ..)
    obtain ⟨q, hq⟩ := List.exists_mem_of_ne_nil _ h2
    obtain ⟨z, hz⟩ := List.exists_mem_of_ne_nil _ (h3 q hq)
    have : 0 < (flatT e.1 e.2.2).length := List.length_pos_of_mem (a := (e.1, z.2)) (by unfold flatT; simp only [List.mem_flatMap, List.mem_map]; exact ⟨q, hq, z, hz, rfl⟩)
    omega
theorem len_tb {t : Int} {T : List Tb9} (h : ∀ q ∈ T, q.2.2 ≠ []) : T.length ≤ (flatT t T).length := by
  induction T with
  | nil => simp [flatT]
  | cons q T ih =>
    rw [flatT_cons, List.length_append, List.length_cons]
    have h1 := ih fun e he => h e (List.mem_cons_of_mem _ he)
    have h2 := List.length_pos_iff.2 (h q (List.mem_cons_self ..))
    rw [List.length_map]
    omega
theorem len_in {X : List Tx9} {e : Tx9} (he : e ∈ X) : (flatT e.1 e.2.2).length ≤ (flatX X).length := by
  obtain ⟨l1, l2, rfl⟩ := List.append_of_mem he
  unfold flatX
  simp
  omega
theorem len_own {t : Int} {T : List Tb9} {q : Tb9} (hq : q ∈ T) : q.2.2.length ≤ (flatT t T).length := by
  obtain ⟨l1, l2, rfl⟩ := List.append_of_mem hq
  unfold flatT
  simp
  omega
theorem getM_top {X : List Tx9} {t : Int} (h : OnceM (topX X)) {b : Nat} {T : List Tb9} (he : (t, b, T) ∈ X) : getM (topX X) t = some (.map (some b)) := (getM_some h).2 (List.mem_map.2 ⟨_, he, rfl⟩)
theorem getM_topN {X : List Tx9} {t : Int} (h : ∀ e ∈ X, e.1 ≠ t) : getM (topX X) t = none := getM_none.2 fun v hv => by
  obtain ⟨e, he, e1⟩ := List.mem_map.1 hv
  exact h e he (congrArg Prod.fst e1)
theorem getM_tab {T : List Tb9} (h : OnceM (tabT T)) {q : Tb9} (hq : q ∈ T) : getM (tabT T) q.1 = some q.2.1 := (getM_some h).2 (List.mem_map.2 ⟨_, hq, rfl⟩)
theorem getM_tabN {T : List Tb9} {tb : ByteArray} (h : ∀ q ∈ T, q.1 ≠ tb) : getM (tabT T) tb = none := getM_none.2 fun v hv => by
  obtain ⟨e, he, e1⟩ := List.mem_map.1 hv
  exact h e he (congrArg Prod.fst e1)
theorem delM_tab {T : List Tb9} {tb : ByteArray} (h : ∀ q ∈ T, q.1 ≠ tb) : delM (tabT T) tb = tabT T := del_none (getM_tabN h)
theorem delM_tab_cons {T : List Tb9} {tb : ByteArray} {v : Value} {ls : List (Nat × Rd)} (h : ∀ q ∈ T, q.1 ≠ tb) : delM (tabT ((tb, v, ls) :: T)) tb = tabT T := by
  have := delM_tab h
  unfold tabT delM at *
  rw [List.map_cons, List.filter_cons_of_neg (by simp)]
  exact this
theorem delM_top_cons {X : List Tx9} {t : Int} {b : Nat} {T : List Tb9} (h : ∀ e ∈ X, e.1 ≠ t) : delM (topX ((t, b, T) :: X)) t = topX X := by
  have := del_none (getM_topN h)
  unfold topX delM at *
  rw [List.map_cons, List.filter_cons_of_neg (by simp)]
  exact this
section
variable {E : Int → ByteArray → Prop} {w w' : World} {r mb most : Nat} {cnt : Int} {X Y : List Tx9} {t : Int} {b : Nat} {tb : ByteArray}
/-- The notes turn at one transaction that has some. -/
theorem Mem9.turn {T U : List Tb9} (h : Mem9 E w r mb most cnt ((t, b, T) :: Y)) {c : Int} (h1 : RBlk w' r mb most c) (h2 : MapM KS w' b (tabT U)) (hne : U ≠ []) (hok : ∀ q ∈ U, TbOk t q) (hl : ∀ q ∈ U, NL w' q.2.1 q.2.2)
    (hE : ∀ e ∈ Y, ∀ q ∈ e.2.2, ¬ E e.1 q.1) (hk : ∀ k, (k = mb ∨ ∃ e ∈ Y, k = e.2.1 ∨ ∃ q ∈ e.2.2, q.2.1.ownBlock = some k ∨ ∃ z ∈ q.2.2, k = z.1) → w'.heap[k]? = w.heap[k]?) (hrow : (U.map (·.2.1.ownBlock) ++ rowsX Y).Nodup) :
    Mem9 NoE w' r mb most c ((t, b, U) :: Y) := by
  have hm : ∀ e ∈ Y, e ∈ (t, b, T) :: Y := fun e he => List.mem_cons_of_mem _ he
  refine ⟨h1, h.top.block (hk mb (.inl rfl)), fun e he => ?_, fun e he => ?_, fun e he q hq => ?_, fun e he q hq _ => ?_, h.mbs, ?_⟩
  · rcases List.mem_cons.1 he with rfl | he
    · exact h2
    · exact (h.tab e (hm e he)).block (hk _ (.inr ⟨e, he, .inl rfl⟩))
  · rcases List.mem_cons.1 he with rfl | he
    · exact ⟨hne, (h.ne (t, b, T) (List.mem_cons_self ..)).2⟩
    · exact h.ne e (hm e he)
  · rcases List.mem_cons.1 he with rfl | he
    · exact hok q hq
    · exact h.ok e (hm e he) q hq
  · rcases List.mem_cons.1 he with rfl | he
    · exact hl q hq
    · exact (h.lst e (hm e he) q hq (hE e he q hq)).kept (fun k hk2 => hk k (.inr ⟨e, he, .inr ⟨q, hq, .inl hk2⟩⟩)) fun z hz => hk _ (.inr ⟨e, he, .inr ⟨q, hq, .inr ⟨z, hz, rfl⟩⟩⟩)
  · unfold rowsX at hrow ⊢
    rw [List.flatMap_cons]
    exact hrow
end
end Go.Proofs.Ytcpifanhmkblmaa
