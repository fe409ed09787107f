import Derived.Test.YtknppiebncdjmaaGreatJAC
import Derived.Test.YtknppiebncdjmaaGreatJAB
import Derived.WalkLawsBesides
import Derived.Deep.RegionWith
import Derived.Deep.DeepCutAuto
import Derived.StillTailTactics
set_option linter.unusedVariables false
namespace Go.Proofs.YtknppiebncdjmaaGreat
set_option maxRecDepth 100000
open Go.RowKit

end Go.Proofs.YtknppiebncdjmaaGreat

namespace Go.Proofs.YtknppiebncdjmaaGreat
set_option maxRecDepth 100000
open Go.RowKit

def lessB (a b : Lk) : Bool := klB a.1 b.1 || (a.1.toList == b.1.toList && klB a.2 b.2)
def withinB (key lo hi : ByteArray) : Bool := !klB key lo && (hi.toList == [] || klB key hi)

end Go.Proofs.YtknppiebncdjmaaGreat

namespace Go.Proofs.YtknppiebncdjmaaGreat
set_option maxRecDepth 100000
open Go.RowKit

def inH (table lo hi : ByteArray) (h : Hd) : Bool := h.1.1.toList == table.toList && withinB h.1.2 lo hi
def whoP (hs : List Hd) (table lo hi : ByteArray) : List Int := (hs.filter (inH table lo hi)).map (·.2)
end Go.Proofs.YtknppiebncdjmaaGreat

namespace Go.Proofs.YtknppiebncdjmaaGreat
set_option maxRecDepth 100000
open Go.RowKit

def cellsL (ls : List Lk) : List Value := ls.flatMap fun l => [Value.string l.1, Value.string l.2]
theorem cellsL_len (ls : List Lk) : (cellsL ls).length = 2 * ls.length := by
  induction ls with
  | nil => rfl
  | cons p ps ih => simp only [cellsL, List.flatMap_cons, List.length_append, List.length_cons, List.length_nil] at ih ⊢; omega
theorem cellsL_cons (p : Lk) (ps : List Lk) : cellsL (p :: ps) = Value.string p.1 :: Value.string p.2 :: cellsL ps := by simp [cellsL]
theorem cellsL_one (ps : List Lk) : ∀ u ∈ cellsL ps, u.oneCell' = true := by
  intro u hu
  simp only [cellsL, List.mem_flatMap] at hu
  obtain ⟨p, -, hu⟩ := hu
  simp at hu
  rcases hu with rfl | rfl <;> rfl
theorem cellsL_at : ∀ (ps : List Lk) (j : Nat) (p : Lk), ps[j]? = some p → (cellsL ps)[2 * j]? = some (.string p.1) ∧ (cellsL ps)[2 * j + 1]? = some (.string p.2)
  | [], _, _, h => by cases h
  | q :: ps, 0, p, h => by cases h; rw [cellsL_cons]; exact ⟨rfl, rfl⟩
  | q :: ps, j + 1, p, h => by
    have := cellsL_at ps j p h
    rw [cellsL_cons]
    exact this
def plL (l : List Lk) (x : Lk) : Nat := (l.takeWhile (lessB · x)).length
def insL (l : List Lk) (x : Lk) : List Lk := l.take (plL l x) ++ [x] ++ l.drop (plL l x)
def hisP (hs : List Hd) (tx : Int) : List Lk := (hs.filter (fun h => decide (h.2 = tx))).map (·.1)
def heldP (hs : List Hd) (tx : Int) : List Lk := (hisP hs tx).foldl insL []
theorem plL_le (l : List Lk) (x : Lk) : plL l x ≤ l.length := (List.takeWhile_prefix _).length_le
theorem insL_len (l : List Lk) (x : Lk) : (insL l x).length = l.length + 1 := by
  unfold insL
  have := plL_le l x
  simp; omega
theorem heldP_len (hs : List Hd) (tx : Int) (j : Nat) : (heldP (hs.take j) tx).length ≤ hs.length := by
  have h0 : ∀ (l out : List Lk), (l.foldl insL out).length = out.length + l.length := by
    intro l
    induction l with
    | nil => intro out; simp
    | cons x l ih => intro out; have h1 := ih (insL out x); have h2 := insL_len out x; simp only [List.foldl_cons, List.length_cons]; omega
  have h1 := h0 (hisP (hs.take j) tx) []
  have h2 := List.length_take_le' j hs
  have h3 := List.length_filter_le (fun h : Hd => decide (h.2 = tx)) (hs.take j)
  unfold heldP
  rw [h1]
  unfold hisP
  simp only [List.length_nil, List.length_map]
  omega
theorem sb_lock (X : World) (x : Lk) : SB (X.alloc (.cells #[.string x.1, .string x.2] 42)) (some ⟨X.heap.size, 0, none⟩) (seL.s * 1) (cellsL [x]) := by
  refine ⟨rfl, cellsL_one _, fun _ => ⟨X.heap.size, 0, rfl, fun j u hj => ?_⟩⟩
  rw [cell_of_row _ _ _ _ _ _ (heap_alloc_new X (.cells #[.string x.1, .string x.2] 42))]
  simpa [cellsL] using hj

end Go.Proofs.YtknppiebncdjmaaGreat

namespace Go.Proofs.YtknppiebncdjmaaGreat
set_option maxRecDepth 100000

section
variable {α : Type} {lt : α → α → Bool}
end

end Go.Proofs.YtknppiebncdjmaaGreat

namespace Go.Proofs.YtknppiebncdjmaaGreat
set_option maxRecDepth 100000
open Go.RowKit

def releaseP (hs : List Hd) (tx : Int) : List Hd := hs.filter fun h => !decide (h.2 = tx)
theorem heap_set8 (w : World) (b o : Nat) (u : Value) (k : Nat) (hk : k ≠ b) : (w.setCell ⟨b, o, none⟩ u).heap[k]? = w.heap[k]? := heap_setCells b [u] o w k hk
theorem SB.set {w : World} {A : Option Addr} {m : Nat} {vs : List Value} (h : SB w A m vs) {b o : Nat} (hn : ∀ ad, A = some ad → ad.block ≠ b) (u : Value) : SB (w.setCell ⟨b, o, none⟩ u) A m vs :=
  ⟨h.len, h.one, fun h0 => by
    obtain ⟨g, q, e, hc⟩ := h.cell h0
    have hg : g ≠ b := hn _ e
    exact ⟨g, q, e, fun j u hj => (World.cell?_of_block (w := w) (a := ⟨g, q + j, none⟩) (heap_set8 _ _ _ _ _ hg)).trans (hc j u hj)⟩⟩
end Go.Proofs.YtknppiebncdjmaaGreat
