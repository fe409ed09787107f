/- Layer 8: locks and who holds them, over plain lists; lists of structs in memory. -/
import Derived.Test.YtghnafknbgmagaaProg
import Derived.Test.YtghnafknbgmagaaMem
import Derived.Laws.AppendOwnNone
import Derived.Deep.AppendLies
import Derived.Maps.AppendAt
import Derived.ProofKit
import Derived.Lib.AppendZerosOnto
import Derived.Deep.Cut
import Derived.Lib.SliceRun
import Derived.Deep.RegionWith
import Derived.Deep.RegionHeld3
import Derived.Deep.RegionLaw
import Derived.BigQuiet
import Derived.LoopTactic
import Derived.Laws.StructEq
namespace Go.Proofs.Ytghnafknbgmagaa
set_option maxRecDepth 100000
set_option maxRecDepth 100000
open Go.RowKit

/-- A lock: its table, its key. -/
abbrev Lk := ByteArray × ByteArray
/-- A lock, and who holds it. -/
abbrev Hd := Lk × Int
def lkV (l : Lk) : Value := .agg #[.string l.1, .string l.2]
def cellsH (hs : List Hd) : List Value := hs.flatMap fun h => [Value.string h.1.1, Value.string h.1.2, Value.int .i64 h.2]
theorem cellsH_len (hs : List Hd) : (cellsH hs).length = 3 * hs.length := by
  induction hs with
  | nil => rfl
  | cons p ps ih => simp only [cellsH, List.flatMap_cons, List.length_append, List.length_cons, List.length_nil] at ih ⊢; omega
theorem cellsH_cons (p : Hd) (ps : List Hd) : cellsH (p :: ps) = Value.string p.1.1 :: Value.string p.1.2 :: Value.int .i64 p.2 :: cellsH ps := by simp [cellsH]
theorem cellsH_app (a b : List Hd) : cellsH (a ++ b) = cellsH a ++ cellsH b := by simp [cellsH]
theorem cellsH_one (ps : List Hd) : ∀ u ∈ cellsH ps, u.oneCell' = true := by
  intro u hu
  simp only [cellsH, List.mem_flatMap] at hu
  obtain ⟨p, -, hu⟩ := hu
  simp at hu
  rcases hu with rfl | rfl | rfl <;> rfl
theorem cellsH_at : ∀ (ps : List Hd) (j : Nat) (p : Hd), ps[j]? = some p → (cellsH ps)[3 * j]? = some (.string p.1.1) ∧ (cellsH ps)[3 * j + 1]? = some (.string p.1.2) ∧ (cellsH ps)[3 * j + 2]? = some (.int .i64 p.2)
  | [], _, _, h => by cases h
  | q :: ps, 0, p, h => by cases h; rw [cellsH_cons]; exact ⟨rfl, rfl, rfl⟩
  | q :: ps, j + 1, p, h => by
    have := cellsH_at ps j p h
    rw [cellsH_cons]
    exact this

/-- The m cells from A on are these. -/
structure SB (w : World) (A : Option Addr) (m : Nat) (vs : List Value) : Prop where
  len : vs.length = m
  one : ∀ u ∈ vs, u.oneCell' = true
  cell : 0 < m → ∃ g o, A = some ⟨g, o, none⟩ ∧ ∀ (j : Nat) u, vs[j]? = some u → w.cell? ⟨g, o + j, none⟩ = some u
theorem SB.at_ {w : World} {A : Option Addr} {m : Nat} {vs : List Value} {k : Nat} {u : Value} (h : SB w A m vs) (hk : vs[k]? = some u) : ∃ g o, A = some ⟨g, o, none⟩ ∧ w.cell? ⟨g, o + k, none⟩ = some u := by
  have hlt : k < vs.length := by
    rcases Nat.lt_or_ge k vs.length with h1 | h1
    · exact h1
    · rw [List.getElem?_eq_none h1] at hk; cases hk
  obtain ⟨g, o, e, hc⟩ := h.cell (by have := h.len; omega)
  exact ⟨g, o, e, hc k u hk⟩
theorem SB.gw {w w' : World} {A : Option Addr} {m : Nat} {vs : List Value} (h : SB w A m vs) (hb : Below w.heap.size w w') : SB w' A m vs :=
  ⟨h.len, h.one, fun h0 => by
    obtain ⟨g, o, e, hc⟩ := h.cell h0
    exact ⟨g, o, e, fun j u hj => keep_below (hc j u hj) hb⟩⟩
theorem SB.empty (w : World) (A : Option Addr) : SB w A 0 [] := ⟨rfl, by simp, fun h => absurd h (by omega)⟩

/-- Are two locks one? -/
def lkEq (a b : Lk) : Bool := a.1.toList == b.1.toList && a.2.toList == b.2.toList
/-- Who holds a lock. -/
def holderP (hs : List Hd) (l : Lk) : Option Int := (hs.find? (fun h => lkEq h.1 l)).map (·.2)
/-- The reference's manager lies in block b. -/
structure RM (w : World) (b : Nat) (most : Int) (hs : List Hd) : Prop where
  ex : ∃ A c, w.heap[b]? = some (.cells #[.bool true, .int .i64 most, .slice A hs.length c] 29 (0, 0)) ∧ SB w A (3 * hs.length) (cellsH hs) ∧ hs.length ≤ c ∧ c ≤ maxLen ∧ ∀ ad, A = some ad → ad.block ≠ b
theorem RM.gw {w w' : World} {b : Nat} {most : Int} {hs : List Hd} (h : RM w b most hs) (g : Below w.heap.size w w') : RM w' b most hs := by
  obtain ⟨A, c, h1, h2, h3⟩ := h.ex
  exact ⟨A, c, (g.block b (Array.getElem?_eq_some_iff.1 h1).1).trans h1, h2.gw g, h3⟩
theorem eqLk (w : World) (a b c d : ByteArray) : (binOp .eql 34 (.agg #[.string a, .string b]) (.agg #[.string c, .string d])).run Try.prog w = .ok (.bool (lkEq (a, b) (c, d))) w := by
  have hs : Try.prog.underlying 34 = some (.struct (Try.prog.fieldsOf 34)) := by kernel_rfl
  have hp : Try.prog.stoodInHeld 34 = false := by kernel_rfl
  have hf : (Try.prog.fieldsOf 34).toList.map (fun f => (f.name == "_", f.type, f.offset)) = [(false, 9, 0), (false, 9, 1)] := by kernel_rfl
  have hu := Try.underlying9
  rw [run_eql_struct, run_equalIn_struct w 9999 _ _ _ hs hp]
  generalize (Try.prog.fieldsOf 34).toList = fs at hf
  obtain ⟨f, fs1, rfl, hf1, hf⟩ := List.map_eq_cons_iff.1 hf
  obtain ⟨g, fs2, rfl, hg1, hf⟩ := List.map_eq_cons_iff.1 hf
  have : fs2 = [] := by simpa using hf
  subst this
  simp only [Prod.mk.injEq] at hf1 hg1
  obtain ⟨f1, f2, f3⟩ := hf1
  obtain ⟨g1, g2, g3⟩ := hg1
  have f1' : f.name ≠ "_" := by simpa using f1
  have g1' : g.name ≠ "_" := by simpa using g1
  simp only [Op.eqFields, f1', g1', f2, f3, g2, g3, ne_eq, not_false_eq_true, if_true, Sem.run_bind]
  have e1 : (part 9 #[Value.string a, Value.string b] 0).run Try.prog w = .ok (.string a) w := by go_simp
  have e2 : (part 9 #[Value.string a, Value.string b] 1).run Try.prog w = .ok (.string b) w := by go_simp
  have e3 : (part 9 #[Value.string c, Value.string d] 0).run Try.prog w = .ok (.string c) w := by go_simp
  have e4 : (part 9 #[Value.string c, Value.string d] 1).run Try.prog w = .ok (.string d) w := by go_simp
  simp only [e1, e2, e3, e4, Result.andThen_ok, run_equalIn_string w 9998 _ _ _ hu]
  unfold lkEq
  cases h1 : (a.toList == c.toList) <;> cases h2 : (b.toList == d.toList) <;> simp [e2, e4, run_equalIn_string w 9998 _ _ _ hu, h2, Sem.run_ite]
end Go.Proofs.Ytghnafknbgmagaa
