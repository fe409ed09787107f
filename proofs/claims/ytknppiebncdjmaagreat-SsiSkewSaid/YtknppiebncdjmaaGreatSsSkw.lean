import Derived.Test.YtknppiebncdjmaaGreatJAK
/- Layer 10, plain: two that read what the other one writes. -/
set_option linter.unusedVariables false
namespace Go.Proofs.YtknppiebncdjmaaGreat
set_option maxRecDepth 100000
set_option maxRecDepth 100000

def cpMax : Cp10 := ⟨64, 1024, 65536, 4096⟩
def rdK (l : Lk) : Rd := ⟨l.1, 1, l.2, ⟨#[]⟩⟩
def skT (num begun ended : Int) (fin fout : Bool) (wrote : List Lk) : Tx10 := ⟨num, 0, begun, ended, fin, fout, wrote⟩
def skS1 : St10 := ⟨0, 1, 1, [skT 1 1 0 false false []], [], []⟩
def skA (L : List Nt) : St10 := ⟨0, 2, 2, [skT 1 1 0 false false [], skT 2 2 0 false false []], L, []⟩
def skS5 (a : Lk) (L : List Nt) : St10 := ⟨0, 2, 2, [skT 1 1 0 true false [], skT 2 2 0 false true []], L, [(a, 1)]⟩
def skS6 (a : Lk) (L : List Nt) : St10 := ⟨1, 2, 3, [skT 1 1 3 true false [a], skT 2 2 0 false true []], L, []⟩
def skS7 (a : Lk) (L : List Nt) : St10 := ⟨0, 2, 2, [skT 1 1 0 true false []], dropN L 2, [(a, 1)]⟩
theorem sk1 : begin10 cpMax (new10 0) = ((1, 0, 0), skS1) := by rfl
theorem sk2 : begin10 cpMax skS1 = ((2, 0, 0), skA []) := by rfl
theorem may_rdK (l : Lk) : mayP (rdK l) = true := by
  unfold mayP rdK isE
  simp [ByteArray.toList_eq]
theorem has_rdK (l : Lk) : hasP (rdK l) l.1 l.2 = true := by
  unfold hasP rdK
  simp
theorem lk_ne {a b : Lk} (h : a ≠ b) : lkEq a b = false := by
  rw [lkEq_is]; simpa using h
theorem rise_nil : riseP [] = [] := rfl
theorem note_sk {most : Nat} {L : List Nt} {tx : Int} {x : Rd} (ht : 1 ≤ tx) (hm : mayP x = true) (hn : ∀ n ∈ L, n.1 ≠ tx) (hl : L.length + 1 ≤ most) : noteP most L tx x = (0, L ++ [(tx, x)]) := by
  unfold noteP
  rw [if_neg (by rw [hm]; simp; omega)]
  have h1 : (L.any fun n => decide (n.1 = tx) && coversP n.2 x) = false := by
    rw [List.any_eq_false]
    intro n hnm
    simp [hn n hnm]
  have h2 : addP L tx x = L ++ [(tx, x)] := by
    unfold addP
    congr 1
    rw [List.filter_eq_self]
    intro n hnm
    simp [hn n hnm]
  rw [h1, if_neg (by simp), h2]
  unfold shrinkP
  rw [if_pos (by simpa using hl)]
  rfl
theorem sk_writers (L : List Nt) (i : Nat) (tb lo hi : ByteArray) : writersP (skA L) i tb lo hi = [] := by
  unfold writersP
  rw [List.filter_eq_nil_iff]
  intro o ho
  have ho2 : o < 2 := by simpa [skA] using ho
  match o, ho2 with
  | 0, _ => simp [wroteP, whoP, riseP, skA, skT]
  | 1, _ => simp [wroteP, whoP, riseP, skA, skT]
theorem sk3 (L : List Nt) (l : Lk) (hn : ∀ n ∈ L, n.1 ≠ 1) (hl : L.length ≤ 1) : read10 cpMax (skA L) 1 l = (0, skA (L ++ [(1, rdK l)])) := by
  have hu : underP (skA L).list 1 = some 0 := by rfl
  have hh : noteP cpMax.reads (skA L).L (numP (skA L).list 0) (rdK l) = (0, L ++ [(1, rdK l)]) := note_sk (by show (1 : Int) ≤ 1; decide) (may_rdK l) hn (by show L.length + 1 ≤ 65536; omega)
  unfold read10
  rw [hu]
  simp only
  rw [if_neg (by simp [holderP, skA])]
  unfold note10
  simp only
  rw [show (⟨l.1, 1, l.2, ⟨#[]⟩⟩ : Rd) = rdK l from rfl, hh]
  simp only [ne_eq, not_true_eq_false, if_false]
  show putP10 (skA (L ++ [(1, rdK l)])) 0 (writersP (skA (L ++ [(1, rdK l)])) 0 (rdK l).tb l.2 (l.2 ++ ⟨#[0]⟩)) true = _
  rw [sk_writers]
  rfl
theorem sk4 (L : List Nt) (l : Lk) (hn : ∀ n ∈ L, n.1 ≠ 2) (hl : L.length ≤ 1) : read10 cpMax (skA L) 2 l = (0, skA (L ++ [(2, rdK l)])) := by
  have hu : underP (skA L).list 2 = some 1 := by rfl
  have hh : noteP cpMax.reads (skA L).L (numP (skA L).list 1) (rdK l) = (0, L ++ [(2, rdK l)]) := note_sk (by show (1 : Int) ≤ 2; decide) (may_rdK l) hn (by show L.length + 1 ≤ 65536; omega)
  unfold read10
  rw [hu]
  simp only
  rw [if_neg (by simp [holderP, skA])]
  unfold note10
  simp only
  rw [show (⟨l.1, 1, l.2, ⟨#[]⟩⟩ : Rd) = rdK l from rfl, hh]
  simp only [ne_eq, not_true_eq_false, if_false]
  show putP10 (skA (L ++ [(2, rdK l)])) 1 (writersP (skA (L ++ [(2, rdK l)])) 1 (rdK l).tb l.2 (l.2 ++ ⟨#[0]⟩)) true = _
  rw [sk_writers]
  rfl
theorem in_tx {L : List Nt} {f : Nt → Bool} {n : Nt} (h1 : n ∈ L) (h2 : f n = true) : n.1 ∈ txP L f := ((tx_is _ _).2 _).2 ⟨n, h1, h2, rfl⟩
theorem sk5 (a : Lk) (L : List Nt) (h2 : (2, rdK a) ∈ L) : write10 cpMax (skA L) 1 a 0 = (0, skS5 a L) := by
  have hu : underP (skA L).list 1 = some 0 := by rfl
  unfold write10
  rw [hu]
  simp only
  rw [if_neg (by decide), if_neg (by simp [holderP, skA])]
  have ht : takeP cpMax.locks (skA L).H 1 (snapP (skA L).list 0) 0 a = (0, [(a, 1)]) := by
    unfold takeP
    rw [show holderP (skA L).H a = none from rfl]
    rfl
  rw [ht]
  simp only [ne_eq, not_true_eq_false, if_false]
  have hk : takenP (skA L).list 0 a = false := by rfl
  rw [hk, if_neg (by simp)]
  have hr : readersP { skA L with H := [(a, 1)] } 0 a = [1] := by
    unfold readersP
    have e0 : concP (skA L).list 0 0 = false := by rfl
    have e1 : concP (skA L).list 0 1 = true := by rfl
    have e2 : numP (skA L).list 1 = 2 := by rfl
    have e3 : (2 : Int) ∈ txP (skA L).L fun n => hasP n.2 a.1 a.2 := in_tx (n := (2, rdK a)) h2 (has_rdK a)
    have hl : (List.range ({ skA L with H := [(a, 1)] } : St10).list.length) = [0, 1] := by rfl
    rw [hl]
    simp only [List.filter_cons, List.filter_nil, e0, e1, e2, e3, Bool.false_and, Bool.true_and, decide_true, if_true, Bool.false_eq_true, if_false]
  rw [hr]
  rfl
theorem sk6 (a : Lk) (L : List Nt) : commit10 cpMax (skS5 a L) 1 = ((1, 0), skS6 a L) := by
  have hu : underP (skS5 a L).list 1 = some 0 := by rfl
  have hb : bothP (skS5 a L).list 0 = false := by rfl
  have hh : heldP (skS5 a L).H 1 = [a] := by rfl
  have ha : activeP (skS5 a L).list = 2 := by rfl
  unfold commit10
  rw [hu]
  simp only
  rw [hb, hh, ha]
  rw [if_neg (by simp), if_neg (by simp [cpMax, skS5])]
  rw [if_neg (show ¬ (2 = 1 ∨ (decide ([a] ≠ []) || decide (ofP (skS5 a L).L 1 ≠ [])) = false) by simp)]
  rfl
theorem sk8 (a b : Lk) (L : List Nt) (h : a ≠ b) (h1 : (1, rdK b) ∈ L) : (write10 cpMax (skS6 a L) 2 b 0).1 = 100 := by
  have hu : underP (skS6 a L).list 2 = some 1 := by rfl
  unfold write10
  rw [hu]
  simp only
  rw [if_neg (by decide), if_neg (by simp [holderP, skS6])]
  have ht : takeP cpMax.locks (skS6 a L).H 2 (snapP (skS6 a L).list 1) 0 b = (0, [(b, 2)]) := by
    unfold takeP
    rw [show holderP (skS6 a L).H b = none from rfl]
    rfl
  rw [ht]
  simp only [ne_eq, not_true_eq_false, if_false]
  have hk : takenP (skS6 a L).list 1 b = false := by
    unfold takenP
    have hl : (List.range (skS6 a L).list.length) = [0, 1] := by rfl
    rw [hl]
    simp [skS6, skT, liveT, lk_ne h]
  rw [hk, if_neg (by simp)]
  have hr : readersP { skS6 a L with H := [(b, 2)] } 1 b = [0] := by
    unfold readersP
    have e0 : concP (skS6 a L).list 1 0 = true := by rfl
    have e1 : concP (skS6 a L).list 1 1 = false := by rfl
    have e2 : numP (skS6 a L).list 0 = 1 := by rfl
    have e3 : (1 : Int) ∈ txP (skS6 a L).L fun n => hasP n.2 b.1 b.2 := in_tx (n := (1, rdK b)) h1 (has_rdK b)
    have hl : (List.range ({ skS6 a L with H := [(b, 2)] } : St10).list.length) = [0, 1] := by rfl
    rw [hl]
    simp only [List.filter_cons, List.filter_nil, e0, e1, e2, e3, Bool.false_and, Bool.true_and, decide_true, if_true, Bool.false_eq_true, if_false]
  rw [hr]
  rfl
theorem sk7 (a b : Lk) (L : List Nt) (h : a ≠ b) (h1 : (1, rdK b) ∈ L) : write10 cpMax (skS5 a L) 2 b 0 = (100, skS7 a L) := by
  have hu : underP (skS5 a L).list 2 = some 1 := by rfl
  have hho : holderP (skS5 a L).H b = none := by
    unfold holderP skS5
    simp [lk_ne h]
  unfold write10
  rw [hu]
  simp only
  rw [if_neg (by decide), if_neg (by rw [hho]; simp)]
  have ht : takeP cpMax.locks (skS5 a L).H 2 (snapP (skS5 a L).list 1) 0 b = (0, [(a, 1), (b, 2)]) := by
    unfold takeP
    rw [hho]
    rfl
  rw [ht]
  simp only [ne_eq, not_true_eq_false, if_false]
  have hk : takenP (skS5 a L).list 1 b = false := by rfl
  rw [hk, if_neg (by simp)]
  have hr : readersP { skS5 a L with H := [(a, 1), (b, 2)] } 1 b = [0] := by
    unfold readersP
    have e0 : concP (skS5 a L).list 1 0 = true := by rfl
    have e1 : concP (skS5 a L).list 1 1 = false := by rfl
    have e2 : numP (skS5 a L).list 0 = 1 := by rfl
    have e3 : (1 : Int) ∈ txP (skS5 a L).L fun n => hasP n.2 b.1 b.2 := in_tx (n := (1, rdK b)) h1 (has_rdK b)
    have hl : (List.range ({ skS5 a L with H := [(a, 1), (b, 2)] } : St10).list.length) = [0, 1] := by rfl
    rw [hl]
    simp only [List.filter_cons, List.filter_nil, e0, e1, e2, e3, Bool.false_and, Bool.true_and, decide_true, if_true, Bool.false_eq_true, if_false]
  rw [hr]
  rfl
theorem sk9 (a : Lk) (L : List Nt) : (commit10 cpMax (skS7 a L) 1).1 = (1, 0) := by
  have hu : underP (skS7 a L).list 1 = some 0 := by rfl
  have hb : bothP (skS7 a L).list 0 = false := by rfl
  have hh : heldP (skS7 a L).H 1 = [a] := by rfl
  have ha : activeP (skS7 a L).list = 1 := by rfl
  unfold commit10
  rw [hu]
  simp only
  rw [hb, hh, ha]
  rw [if_neg (by simp), if_neg (by simp)]
  rfl
/-- The others are under way nowhere. -/
theorem sk_none (L : List Nt) {tx : Int} (h1 : tx ≠ 1) (h2 : tx ≠ 2) (l : Lk) : read10 cpMax (skA L) tx l = (101, skA L) ∧ write10 cpMax (skA L) tx l 0 = (101, skA L) := by
  have hu : underP (skA L).list tx = none := under_none fun t ht e => by
    simp only [skA, List.mem_cons, List.not_mem_nil, or_false] at ht
    rcases ht with rfl | rfl
    · exact absurd e.symm h1
    · exact absurd e.symm h2
  unfold read10 write10
  rw [hu]
  exact ⟨rfl, rfl⟩
end Go.Proofs.YtknppiebncdjmaaGreat
