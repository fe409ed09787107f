/- Layer 12: blanks, bytes between quotes, tokens: over plain lists of bytes. -/
import Derived.Test.YtagangneoibbcaaDoorOwnB
import Derived.Lib.Hide
set_option linter.unusedVariables false
namespace Go.Proofs.YtagangneoibbcaaDoor
set_option maxRecDepth 100000
open Go.RowKit

def gapB (c : Int) : Bool := decide (c = 32 ∨ c = 9 ∨ c = 10 ∨ c = 13)
def lowB (c : Int) : Bool := decide (97 ≤ c ∧ c ≤ 122)
def digB (c : Int) : Bool := decide (48 ≤ c ∧ c ≤ 57)
def innB (c : Int) : Bool := lowB c || digB c || decide (c = 95)
def plnB (c : Int) : Bool := decide (32 ≤ c ∧ c ≤ 126 ∧ c ≠ 34 ∧ c ≠ 92)
def hexB (c : Int) : Bool := digB c || decide (97 ≤ c ∧ c ≤ 102)
def hexV (c : Int) : Int := if digB c then c - 48 else c - 87
theorem hexV_le {c : Int} (h : hexB c = true) : 0 ≤ hexV c ∧ hexV c ≤ 15 := by
  unfold hexB at h
  unfold hexV
  by_cases hd : digB c = true
  · rw [if_pos hd]; unfold digB at hd; rw [decide_eq_true_eq] at hd; omega
  · rw [if_neg hd]
    rw [Bool.or_eq_true, decide_eq_true_eq] at h
    rcases h with h | h
    · exact absurd h hd
    · omega

/-- How many blanks stand at the front; true: within a remark. -/
def skipN : Bool → List Int → Nat
  | _, [] => 0
  | false, c :: r => if gapB c then 1 + skipN false r else if c = 35 then 1 + skipN true r else 0
  | true, c :: r => if c = 10 then 1 + skipN false r else 1 + skipN true r
theorem skipN_le : ∀ (b : Bool) (R : List Int), skipN b R ≤ R.length
  | _, [] => by simp [skipN]
  | false, c :: r => by
    have h1 := skipN_le false r
    have h2 := skipN_le true r
    unfold skipN
    rw [List.length_cons]
    split
    · omega
    · split <;> omega
  | true, c :: r => by
    have h1 := skipN_le false r
    have h2 := skipN_le true r
    unfold skipN
    rw [List.length_cons]
    split <;> omega
theorem skip_nil (b : Bool) : skipN b [] = 0 := by cases b <;> rfl
theorem skip_gap {c : Int} (h : gapB c = true) (r : List Int) : skipN false (c :: r) = 1 + skipN false r := by rw [skipN, if_pos h]
theorem skip_hash (r : List Int) : skipN false (35 :: r) = 1 + skipN true r := by rw [skipN, if_neg (by decide), if_pos rfl]
theorem skip_tok {c : Int} (h : gapB c = false) (h2 : c ≠ 35) (r : List Int) : skipN false (c :: r) = 0 := by rw [skipN, if_neg (by simp [h]), if_neg h2]
theorem skip_in {c : Int} (h : c ≠ 10) (r : List Int) : skipN true (c :: r) = 1 + skipN true r := by rw [skipN, if_neg h]
theorem skip_line (r : List Int) : skipN true (10 :: r) = skipN false (10 :: r) := by rw [skip_gap (by decide)]; rw [skipN, if_pos rfl]

def upQ (z : List Int) (n : Nat) (x : Option (List Int) × Nat) : Option (List Int) × Nat := (x.1.map (z ++ ·), n + x.2)
theorem upQ_upQ (z z' : List Int) (n n' : Nat) (x : Option (List Int) × Nat) : upQ z n (upQ z' n' x) = upQ (z ++ z') (n + n') x := by
  obtain ⟨o, k⟩ := x
  cases o <;> simp [upQ, Nat.add_assoc]
theorem upQ_nil (x : Option (List Int) × Nat) : upQ [] 0 x = x := by
  obtain ⟨o, k⟩ := x
  cases o <;> simp [upQ]
/-- What stands between quotes, behind the first one: what it says and how many bytes it has with the last one; or where it can't go on. -/
def qtP : List Int → Option (List Int) × Nat
  | [] => (none, 0)
  | c :: r =>
    if c = 34 then (some [], 1)
    else if c = 92 then
      match r with
      | [] => (none, 1)
      | d :: r2 =>
        if d = 34 ∨ d = 92 then upQ [d] 2 (qtP r2)
        else if d = 110 then upQ [10] 2 (qtP r2)
        else if d = 116 then upQ [9] 2 (qtP r2)
        else if d = 120 then
          match r2 with
          | [] => (none, 2)
          | h :: r3 =>
            if hexB h then
              match r3 with
              | [] => (none, 3)
              | l :: r4 => if hexB l then upQ [hexV h * 16 + hexV l] 4 (qtP r4) else (none, 3)
            else (none, 2)
        else (none, 1)
    else if plnB c then upQ [c] 1 (qtP r)
    else (none, 0)
theorem qt_nil : qtP [] = (none, 0) := by rw [qtP]
theorem qt_end (r : List Int) : qtP (34 :: r) = (some [], 1) := by rw [qtP.eq_def]; rfl
theorem qt_plain {c : Int} (h : plnB c = true) (r : List Int) : qtP (c :: r) = upQ [c] 1 (qtP r) := by
  have hp : 32 ≤ c ∧ c ≤ 126 ∧ c ≠ 34 ∧ c ≠ 92 := by unfold plnB at h; simpa using h
  rw [qtP.eq_def]; simp only; rw [if_neg hp.2.2.1, if_neg hp.2.2.2, if_pos h]
theorem qt_bad {c : Int} (h : plnB c = false) (h1 : c ≠ 34) (h2 : c ≠ 92) (r : List Int) : qtP (c :: r) = (none, 0) := by
  rw [qtP.eq_def]; simp only; rw [if_neg h1, if_neg h2, if_neg (by simp [h])]
theorem qt_esc0 : qtP [92] = (none, 1) := by rw [qtP.eq_def]; rfl
theorem qt_same {d : Int} (h : d = 34 ∨ d = 92) (r : List Int) : qtP (92 :: d :: r) = upQ [d] 2 (qtP r) := by rw [qtP.eq_def]; simp only; rw [if_neg (by decide), if_pos trivial, if_pos h]
theorem qt_n (r : List Int) : qtP (92 :: 110 :: r) = upQ [10] 2 (qtP r) := by rw [qtP.eq_def]; simp only; rw [if_neg (by decide), if_pos trivial, if_neg (by decide), if_pos trivial]
theorem qt_t (r : List Int) : qtP (92 :: 116 :: r) = upQ [9] 2 (qtP r) := by rw [qtP.eq_def]; simp only; rw [if_neg (by decide), if_pos trivial, if_neg (by decide), if_neg (by decide), if_pos trivial]
theorem qt_other {d : Int} (h1 : d ≠ 34) (h2 : d ≠ 92) (h3 : d ≠ 110) (h4 : d ≠ 116) (h5 : d ≠ 120) (r : List Int) : qtP (92 :: d :: r) = (none, 1) := by
  rw [qtP.eq_def]; simp only; rw [if_neg (by decide), if_pos trivial, if_neg (by omega), if_neg h3, if_neg h4, if_neg h5]
theorem qt_x_eq (r : List Int) : qtP (92 :: 120 :: r) = match r with
    | [] => (none, 2)
    | h :: r3 => if hexB h then
        match r3 with
        | [] => (none, 3)
        | l :: r4 => if hexB l then upQ [hexV h * 16 + hexV l] 4 (qtP r4) else (none, 3)
      else (none, 2) := by
  rw [qtP.eq_def]; simp only; rw [if_neg (by decide), if_pos trivial, if_neg (by decide), if_neg (by decide), if_neg (by decide), if_pos trivial]
theorem qt_x0 : qtP [92, 120] = (none, 2) := by rw [qt_x_eq]
theorem qt_x1 {h : Int} (hh : hexB h = false) (r : List Int) : qtP (92 :: 120 :: h :: r) = (none, 2) := by rw [qt_x_eq]; simp [hh]
theorem qt_x2 {h : Int} (hh : hexB h = true) : qtP [92, 120, h] = (none, 3) := by rw [qt_x_eq]; simp [hh]
theorem qt_x3 {h l : Int} (hh : hexB h = true) (hl : hexB l = false) (r : List Int) : qtP (92 :: 120 :: h :: l :: r) = (none, 3) := by rw [qt_x_eq]; simp [hh, hl]
theorem qt_x {h l : Int} (hh : hexB h = true) (hl : hexB l = true) (r : List Int) : qtP (92 :: 120 :: h :: l :: r) = upQ [hexV h * 16 + hexV l] 4 (qtP r) := by rw [qt_x_eq]; simp [hh, hl]

/-- A token: its kind, its text, its value's kind, number and bytes, its place. -/
structure Tk where
  k : Int
  t : ByteArray
  vk : Int
  vi : Int
  vb : ByteArray
  a : Nat
def Tk.cells (x : Tk) : List Value := [.int .i64 x.k, .string x.t, .int .i64 x.vk, .int .i64 x.vi, .bool false, .string x.vb, .complex .f64 0 0, .int .i64 (x.a : Nat)]
def Tk.zero : Tk := ⟨0, ⟨#[]⟩, 0, 0, ⟨#[]⟩, 0⟩
/-- What stands at a place: a token and its length, or an error and where. -/
structure One where
  tk : Tk
  n : Nat
  e : Int
def chP (R : List Int) (i : Nat) : Int := R.getD i (-1)
def numP (d : List Int) : Nat := d.foldl (fun a c => a * 10 + (c - 48).toNat) 0
def signN (c d : Int) : Nat :=
  if c = 40 ∨ c = 41 ∨ c = 123 ∨ c = 125 ∨ c = 44 ∨ c = 59 ∨ c = 58 ∨ c = 43 ∨ c = 45 ∨ c = 42 ∨ c = 47 ∨ c = 37 then 1
  else if c = 61 ∨ c = 33 ∨ c = 60 then (if d = 61 then 2 else 1)
  else if c = 38 ∨ c = 124 then (if d = c then 2 else 0) else 0
def nameP (a : Nat) (R : List Int) : One := if 32 < (R.takeWhile innB).length then ⟨Tk.zero, 0, 121⟩ else ⟨⟨1, strOfNums (R.takeWhile innB), 0, 0, ⟨#[]⟩, a⟩, (R.takeWhile innB).length, 0⟩
def badN (R : List Int) : Bool := lowB (chP R (R.takeWhile digB).length) || decide (chP R (R.takeWhile digB).length = 95) || decide (9223372036854775808 ≤ numP (R.takeWhile digB)) || (decide (chP R 0 = 48) && decide (1 < (R.takeWhile digB).length))
def intP (a : Nat) (R : List Int) : One := if badN R then ⟨Tk.zero, 0, 122⟩ else ⟨⟨2, ⟨#[]⟩, 1, numP (R.takeWhile digB), ⟨#[]⟩, a⟩, (R.takeWhile digB).length, 0⟩
def textP (a : Nat) (R : List Int) : One :=
  match qtP (R.drop 1) with
  | (none, n) => ⟨Tk.zero, 1 + n, 123⟩
  | (some b, n) => if 4096 < b.length then ⟨Tk.zero, 0, 3⟩ else ⟨⟨3, ⟨#[]⟩, 3, 0, strOfNums b, a⟩, 1 + n, 0⟩
def signP (a : Nat) (R : List Int) : One := if signN (chP R 0) (chP R 1) = 0 then ⟨Tk.zero, 0, 120⟩ else ⟨⟨4, strOfNums (R.take (signN (chP R 0) (chP R 1))), 0, 0, ⟨#[]⟩, a⟩, signN (chP R 0) (chP R 1), 0⟩
def oneP (a : Nat) (R : List Int) : One :=
  if lowB (chP R 0) then nameP a R else if digB (chP R 0) then intP a R else if chP R 0 = 34 then textP a R else signP a R
/-- The tokens from a place on, up to a fault; its place and error. -/
def aheadP : Nat → Nat → List Int → List Tk × Nat × Int
  | 0, _, _ => ([], 0, 0)
  | f + 1, a, R =>
    if skipN false R = R.length then ([], 0, 0)
    else if (oneP (a + skipN false R) (R.drop (skipN false R))).e = 0 then
      ((oneP (a + skipN false R) (R.drop (skipN false R))).tk :: (aheadP f (a + skipN false R + (oneP (a + skipN false R) (R.drop (skipN false R))).n) (R.drop (skipN false R + (oneP (a + skipN false R) (R.drop (skipN false R))).n))).1,
        (aheadP f (a + skipN false R + (oneP (a + skipN false R) (R.drop (skipN false R))).n) (R.drop (skipN false R + (oneP (a + skipN false R) (R.drop (skipN false R))).n))).2)
    else ([], a + skipN false R + (oneP (a + skipN false R) (R.drop (skipN false R))).n, (oneP (a + skipN false R) (R.drop (skipN false R))).e)

theorem chP_0 (c : Int) (r : List Int) : chP (c :: r) 0 = c := rfl
theorem chP_drop (L : List Int) (i j : Nat) : chP (L.drop i) j = chP L (i + j) := by simp [chP, List.getD_eq_getElem?_getD, List.getElem?_drop]
theorem chP_end (L : List Int) (i : Nat) (h : L.length ≤ i) : chP L i = -1 := by simp [chP, List.getD_eq_getElem?_getD, List.getElem?_eq_none h]
theorem chP_in {L : List Int} {i : Nat} (h : i < L.length) : L.drop i = chP L i :: L.drop (i + 1) := by
  rw [List.drop_eq_getElem_cons h]; simp [chP, List.getD_eq_getElem?_getD, List.getElem?_eq_getElem h]
theorem chP_le (s : ByteArray) (i : Nat) : -1 ≤ chP (strB s) i ∧ chP (strB s) i ≤ 255 := by
  by_cases h : i < (strB s).length
  · have := strB_byte s (chP (strB s) i) (by simp [chP, List.getD_eq_getElem?_getD, List.getElem?_eq_getElem h])
    omega
  · rw [chP_end _ _ (by omega)]; decide
theorem chP_at (s : ByteArray) (i : Nat) (h : i < s.size) : chP (strB s) i = (s[i].toNat : Int) := by
  have hl : i < (strB s).length := by rw [strB_len]; exact h
  unfold chP
  rw [List.getD_eq_getElem?_getD, List.getElem?_eq_getElem hl, Option.getD_some]
  simp only [strB, List.getElem_map, Array.getElem_toList]
  rfl

/-- A text's tokens. -/
def toksP (L : List Int) : List Tk × Nat × Int := aheadP (L.length + 1) 0 L
end Go.Proofs.YtagangneoibbcaaDoor
