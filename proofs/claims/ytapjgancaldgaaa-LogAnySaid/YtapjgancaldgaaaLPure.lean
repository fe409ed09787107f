/- What package log reads, over plain lists. No function is walked here. -/
import Derived.Test.YtapjgancaldgaaaDSt
import Derived.Test.YtapjgancaldgaaaBack
import Derived.Test.YtapjgancaldgaaaLBlocks
import Derived.Test.YtapjgancaldgaaaLMk
namespace Go.Proofs.Ytapjgancaldgaaa
set_option maxRecDepth 100000
open Go.RowKit

/-- A reader: what is left, and whether something did not stand there. -/
structure Rd where
  rest : List Int
  bad : Bool
def rdNum (most : Nat) (r : Rd) : Nat × Rd :=
  if (takeUint r.rest 0).2.2 ≠ 0 ∨ most < (takeUint r.rest 0).1 then (0, ⟨r.rest, true⟩) else ((takeUint r.rest 0).1, ⟨r.rest.drop (takeUint r.rest 0).2.1, r.bad⟩)
def rdText (r : Rd) : List Int × Rd :=
  if (takeText r.rest 0 64).2.2 ≠ 0 then ([], ⟨r.rest, true⟩) else ((takeText r.rest 0 64).1, ⟨r.rest.drop (takeText r.rest 0 64).2.1, r.bad⟩)
structure Pc where
  stamp : Nat
  len : Nat
  num : Nat
  bytes : List Int
def Pc.no : Pc := ⟨0, 0, 0, []⟩
def titleL : List Int := [107, 101, 121, 115, 116, 111, 110, 101, 32, 108, 111, 103]

def maxSt : Nat := 9223372036854775807
def pieceLen (num len : Nat) : Int := (min (num * 40 + 40) len : Nat) - (num * 40 : Nat)
def takePiece (c : List Int) : Pc :=
  let a := rdNum maxSt ⟨c, false⟩
  let b := rdNum 65536 a.2
  let d := rdNum 16384 b.2
  if d.2.bad = true ∨ (d.2.rest.length : Int) ≠ pieceLen d.1 b.1 then Pc.no else ⟨a.1, b.1, d.1, d.2.rest⟩
def takeMark (c : List Int) (size : Nat) : Mk :=
  let t := rdText ⟨c, false⟩
  if t.1 ≠ titleL then Mk.no else
  let a := rdNum 16384 t.2
  if a.1 ≠ size then Mk.no else
  let b := rdNum 2 a.2
  let d := rdNum 1 b.2
  let e := rdNum maxSt d.2
  if e.2.bad = true then Mk.no else ⟨b.1, d.1, e.1⟩

/-- A block's content. -/
def blockC (c : Cn) : List Int := if c.t then [] else (takeFrame c.b 0).1
def areaSize (n : Nat) : Nat := (n - 2) / 2
def markAt (L : List Cn) (i : Nat) : Mk := takeMark (blockC (L.getD i ⟨[], true⟩)) (areaSize L.length)
/-- The mark that counts among the first k, and its block. -/
def findS (L : List Cn) : Nat → Nat × Mk
  | 0 => (0, Mk.no)
  | k + 1 => if (markAt L k).newer (findS L k).2 then (k, markAt L k) else findS L k
def findM (L : List Cn) : Nat × Mk := findS L 2
def pieceAt (L : List Cn) (i : Nat) : Pc := takePiece (blockC (L.getD (2 + i) ⟨[], true⟩))
def piecesOf (L : List Cn) (k : Nat) : List Pc := (List.range k).map (pieceAt L)

/-- Does a whole record that counts stand at the front? -/
def starts (since : Nat) (ps : List Pc) : Bool :=
  match ps with
  | [] => false
  | f :: _ => decide (since ≤ f.stamp) && decide (nblocks f.len ≤ ps.length) && (List.range (nblocks f.len)).all fun i => decide ((ps.getD i Pc.no).stamp = f.stamp) && decide ((ps.getD i Pc.no).num = i)
/-- bytes laid over bytes, as many as fit. -/
def putB (r : List Int) (o : Nat) (b : List Int) : List Int := splice r o (b.take (r.length - o))
def buildRec : List Int → Nat → List Pc → List Int
  | r, _, [] => r
  | r, i, p :: t => buildRec (putB r (i * 40) p.bytes) (i + 1) t
def recOf (ps : List Pc) : List Int := buildRec (List.replicate (ps.headD Pc.no).len 0) 0 (ps.take (nblocks (ps.headD Pc.no).len))
def gatherN (since : Nat) : Nat → List Pc → List (List Int)
  | 0, _ => []
  | n + 1, ps => if starts since ps then recOf ps :: gatherN since n (ps.drop (nblocks (ps.headD Pc.no).len)) else []
def gather (since : Nat) (ps : List Pc) : List (List Int) := gatherN since ps.length ps

theorem gatherN_fuel (since : Nat) : ∀ (n m : Nat) (ps : List Pc), ps.length ≤ n → ps.length ≤ m → gatherN since n ps = gatherN since m ps
  | 0, m, ps, h, _ => by
    obtain rfl : ps = [] := List.eq_nil_of_length_eq_zero (by omega)
    cases m <;> simp [gatherN, starts]
  | n + 1, 0, ps, _, h => by
    obtain rfl : ps = [] := List.eq_nil_of_length_eq_zero (by omega)
    simp [gatherN, starts]
  | n + 1, m + 1, ps, h1, h2 => by
    have hp := nblocks_pos (ps.headD Pc.no).len
    rw [gatherN, gatherN]
    split
    · rw [gatherN_fuel since n m _ (by rw [List.length_drop]; omega) (by rw [List.length_drop]; omega)]
    · rfl
theorem gather_yes {since : Nat} {ps : List Pc} (h : starts since ps = true) : gather since ps = recOf ps :: gather since (ps.drop (nblocks (ps.headD Pc.no).len)) := by
  unfold gather
  cases ps with
  | nil => simp [starts] at h
  | cons f t =>
    have hp := nblocks_pos f.len
    rw [show (f :: t).length = t.length + 1 from rfl, gatherN, if_pos h]
    congr 1
    exact gatherN_fuel _ _ _ _ (by simp; omega) (by simp)
theorem gather_no {since : Nat} {ps : List Pc} (h : starts since ps = false) : gather since ps = [] := by
  unfold gather
  cases ps with
  | nil => rfl
  | cons f t => rw [show (f :: t).length = t.length + 1 from rfl, gatherN, if_neg (by simp [h])]

theorem rdNum_le (most : Nat) (r : Rd) : (rdNum most r).1 ≤ most := by
  unfold rdNum
  split
  · exact Nat.zero_le _
  · rename_i h; simp at h; exact h.2
theorem rdNum_len (most : Nat) (r : Rd) : (rdNum most r).2.rest.length ≤ r.rest.length := by
  unfold rdNum
  split <;> simp
theorem rdText_len (r : Rd) : (rdText r).2.rest.length ≤ r.rest.length := by
  unfold rdText
  split <;> simp
theorem takePiece_le (c : List Int) : (takePiece c).stamp ≤ maxSt ∧ (takePiece c).len ≤ 65536 ∧ (takePiece c).num ≤ 16384 ∧ (takePiece c).bytes.length ≤ 40 := by
  unfold takePiece
  simp only
  split
  · exact ⟨Nat.zero_le _, Nat.zero_le _, Nat.zero_le _, Nat.zero_le _⟩
  · rename_i h
    refine ⟨rdNum_le maxSt _, rdNum_le 65536 _, rdNum_le 16384 _, ?_⟩
    simp only [not_or, Decidable.not_not] at h
    have := h.2
    unfold pieceLen at this
    simp only
    omega
def mkOf (b d e : Nat × Rd) : Mk := if e.2.bad = true then Mk.no else ⟨b.1, d.1, e.1⟩
theorem mkOf_le (b d e : Nat × Rd) (h1 : b.1 ≤ 2) (h2 : d.1 ≤ 1) (h3 : e.1 ≤ maxSt) : (mkOf b d e).turn ≤ 2 ∧ (mkOf b d e).area ≤ 1 ∧ (mkOf b d e).since ≤ maxSt := by
  unfold mkOf
  split
  · exact ⟨Nat.zero_le _, Nat.zero_le _, Nat.zero_le _⟩
  · exact ⟨h1, h2, h3⟩
theorem takeMark_le (c : List Int) (size : Nat) : (takeMark c size).turn ≤ 2 ∧ (takeMark c size).area ≤ 1 ∧ (takeMark c size).since ≤ maxSt := by
  unfold takeMark
  simp only
  split
  · exact ⟨Nat.zero_le _, Nat.zero_le _, Nat.zero_le _⟩
  · split
    · exact ⟨Nat.zero_le _, Nat.zero_le _, Nat.zero_le _⟩
    · exact mkOf_le _ _ _ (rdNum_le _ _) (rdNum_le _ _) (rdNum_le _ _)
theorem findS_turn (L : List Cn) : ∀ k, (findS L k).2.turn ≤ 2 ∧ (findS L k).2.area ≤ 1 ∧ (findS L k).2.since ≤ maxSt ∧ (findS L k).1 ≤ k
  | 0 => ⟨Nat.zero_le _, Nat.zero_le _, Nat.zero_le _, Nat.zero_le _⟩
  | k + 1 => by
    have h := findS_turn L k
    rw [findS]
    split
    · have := takeMark_le (blockC (L.getD k ⟨[], true⟩)) (areaSize L.length)
      exact ⟨this.1, this.2.1, this.2.2, by simp only; omega⟩
    · exact ⟨h.1, h.2.1, h.2.2.1, by have := h.2.2.2; omega⟩
theorem blockC_len (c : Cn) (h : B64 c.b) : (blockC c).length ≤ 64 := by
  unfold blockC
  split
  · simp
  · unfold takeFrame
    split
    · simp
    · split
      · simp
      · split
        · simp
        · split
          · simp
          · rename_i h1 h2
            simp only
            rw [List.length_take, List.length_drop, h.len]; omega
theorem blockC_byte (c : Cn) (h : B64 c.b) : ∀ z ∈ blockC c, 0 ≤ z ∧ z ≤ 255 := by
  intro z hz
  unfold blockC at hz
  split at hz
  · simp at hz
  · unfold takeFrame at hz
    split at hz
    · simp at hz
    · split at hz
      · simp at hz
      · split at hz
        · simp at hz
        · split at hz
          · simp at hz
          · exact h.byte z (List.mem_of_mem_drop (List.mem_of_mem_take hz))
end Go.Proofs.Ytapjgancaldgaaa
