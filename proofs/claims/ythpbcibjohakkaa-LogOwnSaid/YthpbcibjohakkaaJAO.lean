import Derived.Test.YthpbcibjohakkaaJAN
import Derived.Test.YthpbcibjohakkaaJAB
import Derived.IntWalk
import Derived.Test.YthpbcibjohakkaaJAC
/- What is taken of what was put, with anything behind it, is what was put: on lists. -/
namespace Go.Proofs.Ythpbcibjohakkaa
set_option maxRecDepth 100000
open Go.RowKit

theorem dig_back : ∀ (m i x : Nat) (r : List Int), x + m * 2 ^ (7 * i) < 18446744073709551616 → i ≤ 9 → (0 < i → 1 ≤ m) →
    dig (uintB m ++ r) i x = some (x + m * 2 ^ (7 * i), i + (uintB m).length) := by
  intro m
  induction m using Nat.strongRecOn with
  | ind m ih =>
    intro i x r hlt hi hm
    have h63 : i = 9 → m * 2 ^ 63 < 18446744073709551616 := by
      intro e; subst e; have e2 : (2 : Nat) ^ (7 * 9) = 2 ^ 63 := by decide
      rw [e2] at hlt; omega
    by_cases h : m < 128
    · rw [uintB_last m h, List.cons_append, List.nil_append, dig_last _ _ _ _ (by rintro ⟨e, h1⟩; have := h63 e; omega) (by omega) (by rintro ⟨h0, h1⟩; have := hm h1; omega)]
      have e : ((m : Int) % 128).toNat = m := by omega
      rw [e]
      simp
    · have hi9 : i ≠ 9 := by intro e; have := h63 e; omega
      rw [uintB_on' m h, List.cons_append, dig_on _ _ _ _ (by rintro ⟨e, _⟩; exact hi9 e) (by omega)]
      have e : (((m : Int) % 128 + 128) % 128).toNat = m % 128 := by omega
      have hs : x + (m % 128) * 2 ^ (7 * i) + m / 128 * 2 ^ (7 * (i + 1)) = x + m * 2 ^ (7 * i) := by
        rw [pow_step, Nat.add_assoc]
        congr 1
        rw [← Nat.mul_assoc, ← Nat.add_mul]
        congr 1
        omega
      rw [e, ih (m / 128) (by omega) (i + 1) _ r (by rw [hs]; exact hlt) (by omega) (fun _ => by omega), hs]
      simp
      omega

theorem takeUint_back (u : Nat) (hu : u < 18446744073709551616) (r : List Int) : takeUint (uintB u ++ r) 0 = (u, (uintB u).length, 0) := by
  have h := dig_back u 0 0 r (by simpa using hu) (by omega) (fun h => absurd h (by omega))
  have := takeUint_place (uintB u ++ r) 0 (by omega)
  simp only [List.drop_zero] at this
  rw [h] at this
  simpa [ofDig] using this

theorem takeInt_back (n : Int) (hn : -9223372036854775808 ≤ n ∧ n ≤ 9223372036854775807) (r : List Int) : takeInt (uintB (intN n) ++ r) 0 = (n, (uintB (intN n)).length, 0) := by
  unfold takeInt
  rw [takeUint_back _ (intN_lt n hn)]
  simp only [Prod.mk.injEq, and_true]
  unfold intN
  by_cases h : n < 0
  · rw [if_pos h, if_pos (by omega)]; omega
  · rw [if_neg h, if_neg (by omega)]; omega

theorem takeText_back (s : ByteArray) (hs : s.size < 9223372036854775808) (r : List Int) : takeText (textB s ++ r) 0 s.size = (strB s, (textB s).length, 0) := by
  have ht := takeUint_back s.size (by omega) (strB s ++ r)
  rw [← List.append_assoc] at ht
  have ht2 : takeUint (textB s ++ r) 0 = (s.size, (uintB s.size).length, 0) := ht
  have hlen : (textB s).length = (uintB s.size).length + s.size := by unfold textB; rw [List.length_append, strB_len]
  unfold takeText
  rw [if_neg (by simp; omega), ht2]
  simp only [List.length_append]
  rw [if_neg (by omega), if_neg (by rw [hlen]; simp)]
  simp only [Int.toNat_zero, Nat.zero_add, Prod.mk.injEq, and_true]
  refine ⟨?_, by rw [hlen]⟩
  unfold textB
  rw [List.append_assoc, List.drop_left' rfl, List.take_left' (strB_len s)]

theorem takeFrame_back (b r : List Int) (hb : ∀ z ∈ b, 0 ≤ z ∧ z ≤ 255) (hl : b.length ≤ 1048576) : takeFrame (frameB b ++ r) 0 = (b, b.length + 8, 0) := by
  have hs := Crc.sum_lt hb
  have e0 : w4 (frameB b ++ r) = b.length := by
    unfold frameB; rw [List.append_assoc]; exact w4_word _ (by omega) _
  have e4 : w4 ((frameB b ++ r).drop 4) = Crc.sum b := by
    unfold frameB
    rw [List.append_assoc, List.drop_left' (wordB_len _), List.append_assoc]
    exact w4_word _ hs _
  have e8 : ((frameB b ++ r).drop 8).take b.length = b := by
    unfold frameB
    rw [List.append_assoc, show (8 : Nat) = 4 + 4 from rfl, ← List.drop_drop, List.drop_left' (wordB_len _), List.append_assoc, List.drop_left' (wordB_len _)]
    exact List.take_left' rfl
  have hlen : (frameB b ++ r).length = b.length + 8 + r.length := by rw [List.length_append, frameB_len]
  unfold takeFrame
  simp only [Int.toNat_zero, Nat.zero_add, List.drop_zero]
  rw [if_neg (by omega), if_neg (by omega), e0, if_neg (by omega), e8, e4, if_neg (by simp)]

theorem nums_strB (s : ByteArray) : strOfNums (strB s) = s := strB_inj (strB_nums _ (strB_byte s))
end Go.Proofs.Ythpbcibjohakkaa

/- How many blocks a record takes: log.Blocks, the reference's Blocks, the law's live. -/
namespace Go.Proofs.Ythpbcibjohakkaa
set_option maxRecDepth 100000
set_option maxRecDepth 100000
open Go.RowKit

def nblocks (n : Nat) : Nat := if n = 0 then 1 else (n - 1) / 40 + 1
def blocksZ (n : Int) : Int := if n < 0 then 0 else if n = 0 then 1 else (n - 1) / 40 + 1
theorem blocksZ_nat (n : Nat) : blocksZ (n : Int) = (nblocks n : Int) := by
  unfold blocksZ nblocks
  rw [if_neg (by omega)]
  by_cases h : n = 0
  · subst h; rfl
  · rw [if_neg (by omega), if_neg h]; omega
theorem nblocks_pos (n : Nat) : 1 ≤ nblocks n := by unfold nblocks; split <;> omega
theorem nblocks_le (n m : Nat) (h : n ≤ 40 * m) (hm : 1 ≤ m) : nblocks n ≤ m := by unfold nblocks; split <;> omega
theorem nblocks_le_self (n : Nat) : nblocks n ≤ n + 1 := by unfold nblocks; split <;> omega
theorem nblocks_big (n : Nat) (h : n ≤ 65536) : nblocks n ≤ 1639 := by unfold nblocks; split <;> omega

theorem wblocks (n : Int) (w : World) (hn : -9223372036854775808 ≤ n ∧ n ≤ 9223372036854775807) :
    Calls Try.prog 28 #[.int .i64 n] w fun e w' => e = .returned (.int .i64 (blocksZ n)) ∧ w = w' := by
  unfold blocksZ
  by_cases h0 : n < 0
  · rw [if_pos h0]
    go_enter Try.func28, Try.ntmps28
    go_wp2
    go_ret
    exact ⟨rfl, rfl⟩
  · rw [if_neg h0]
    by_cases h1 : n = 0
    · subst h1
      go_enter Try.func28, Try.ntmps28
      go_wp2
      go_ret
      exact ⟨rfl, rfl⟩
    · rw [if_neg h1]
      have h2 : decide (n < 0) = false := by simp; omega
      have h3 : (n == 0) = false := by simpa using h1
      have h4 : 0 ≤ n - 1 := by omega
      have h5 : n - 1 ≤ 9223372036854775807 := by omega
      have h6 : (n - 1) / 40 + 1 ≤ 9223372036854775807 := by omega
      have h7 : 0 ≤ (n - 1) / 40 := by omega
      clear h0 h1
      go_enter Try.func28, Try.ntmps28
      go_wp2
      go_ret
      exact ⟨rfl, rfl⟩
theorem rblocks (n : Int) (w : World) (hn : -9223372036854775808 ≤ n ∧ n ≤ 9223372036854775807) :
    Calls Try.prog 13 #[.int .i64 n] w fun e w' => e = .returned (.int .i64 (blocksZ n)) ∧ w = w' := by
  unfold blocksZ
  by_cases h0 : n < 0
  · rw [if_pos h0]
    go_enter Try.func13, Try.ntmps13
    go_wp2
    go_ret
    exact ⟨rfl, rfl⟩
  · rw [if_neg h0]
    by_cases h1 : n = 0
    · subst h1
      go_enter Try.func13, Try.ntmps13
      go_wp2
      go_ret
      exact ⟨rfl, rfl⟩
    · rw [if_neg h1]
      have h2 : decide (n < 0) = false := by simp; omega
      have h3 : (n == 0) = false := by simpa using h1
      have h4 : 0 ≤ n - 1 := by omega
      have h5 : n - 1 ≤ 9223372036854775807 := by omega
      have h6 : (n - 1) / 40 + 1 ≤ 9223372036854775807 := by omega
      have h7 : 0 ≤ (n - 1) / 40 := by omega
      clear h0 h1
      go_enter Try.func13, Try.ntmps13
      go_wp2
      go_ret
      exact ⟨rfl, rfl⟩
theorem wblocksN (n : Nat) (w : World) (hn : n ≤ 140737490000000) :
    Calls Try.prog 28 #[.int .i64 (n : Int)] w fun e w' => e = .returned (.int .i64 (nblocks n : Int)) ∧ w = w' := by
  rw [← blocksZ_nat]
  exact wblocks _ w (by omega)
theorem rblocksN (n : Nat) (w : World) (hn : n ≤ 140737490000000) :
    Calls Try.prog 13 #[.int .i64 (n : Int)] w fun e w' => e = .returned (.int .i64 (nblocks n : Int)) ∧ w = w' := by
  rw [← blocksZ_nat]
  exact rblocks _ w (by omega)
theorem wlive (w : World) : Calls Try.prog 9 #[] w fun e w' => e = .returned (.bool true) ∧ w = w' := by
  have h1 : Calls Try.prog 28 #[.int .i64 41] w fun e w' => e = .returned (.int .i64 2) ∧ w = w' := wblocks 41 w (by omega)
  have h2 : Calls Try.prog 28 #[.int .i64 0] w fun e w' => e = .returned (.int .i64 1) ∧ w = w' := wblocks 0 w (by omega)
  go_enter Try.func9, Try.ntmps9
  go_wp2_with (first
    | (go_at_call_of 28 (Value.int .i64 41); refine h1.mono ?_; rintro e w' ⟨rfl, rfl⟩)
    | (go_at_call_of 28 (Value.int .i64 0); refine h2.mono ?_; rintro e w' ⟨rfl, rfl⟩))
  go_ret
  exact ⟨rfl, rfl⟩
end Go.Proofs.Ythpbcibjohakkaa

/- A log's mark, as plain numbers. -/
namespace Go.Proofs.Ythpbcibjohakkaa
set_option maxRecDepth 100000
structure Mk where
  turn : Nat
  area : Nat
  since : Nat
def Mk.no : Mk := ⟨0, 0, 0⟩
def Mk.next (m : Mk) : Nat := (m.turn + 1) % 3
def Mk.newer (m o : Mk) : Bool := decide (0 < m.since) && (!decide (0 < o.since) || decide (m.turn = o.next))
end Go.Proofs.Ythpbcibjohakkaa

/- What package log reads, over plain lists. No function is walked here. -/
namespace Go.Proofs.Ythpbcibjohakkaa
set_option maxRecDepth 100000
set_option maxRecDepth 100000
open Go.RowKit

/-- A reader: what is left, and whether something did not stand there. -/
structure Rd where
  rest : List Int
  bad : Bool
def rdNum (most : Nat) (r : Rd) : Nat × Rd :=
  if (takeUint r.rest 0).2.2 ≠ 0 ∨ most < (takeUint r.rest 0).1 then (0, ⟨r.rest, true⟩) else ((takeUint r.rest 0).1, ⟨r.rest.drop (takeUint r.rest 0).2.1, r.bad⟩)
def rdText (r : Rd) : List Int × Rd :=
  if (takeText r.rest 0 64).2.2 ≠ 0 then ([], ⟨r.rest, true⟩) else ((takeText r.rest 0 64).1, ⟨r.rest.drop (takeText r.rest 0 64).2.1, r.bad⟩)
structure Pc where
  stamp : Nat
  len : Nat
  num : Nat
  bytes : List Int
def Pc.no : Pc := ⟨0, 0, 0, []⟩
def titleL : List Int := [107, 101, 121, 115, 116, 111, 110, 101, 32, 108, 111, 103]

def maxSt : Nat := 9223372036854775807
def pieceLen (num len : Nat) : Int := (min (num * 40 + 40) len : Nat) - (num * 40 : Nat)
def takePiece (c : List Int) : Pc :=
  let a := rdNum maxSt ⟨c, false⟩
  let b := rdNum 65536 a.2
  let d := rdNum 16384 b.2
  if d.2.bad = true ∨ (d.2.rest.length : Int) ≠ pieceLen d.1 b.1 then Pc.no else ⟨a.1, b.1, d.1, d.2.rest⟩
def takeMark (c : List Int) (size : Nat) : Mk :=
  let t := rdText ⟨c, false⟩
  if t.1 ≠ titleL then Mk.no else
  let a := rdNum 16384 t.2
  if a.1 ≠ size then Mk.no else
  let b := rdNum 2 a.2
  let d := rdNum 1 b.2
  let e := rdNum maxSt d.2
  if e.2.bad = true then Mk.no else ⟨b.1, d.1, e.1⟩

/-- A block's content. -/
def blockC (c : Cn) : List Int := if c.t then [] else (takeFrame c.b 0).1
def areaSize (n : Nat) : Nat := (n - 2) / 2
def markAt (L : List Cn) (i : Nat) : Mk := takeMark (blockC (L.getD i ⟨[], true⟩)) (areaSize L.length)
/-- The mark that counts among the first k, and its block. -/
def findS (L : List Cn) : Nat → Nat × Mk
  | 0 => (0, Mk.no)
  | k + 1 => if (markAt L k).newer (findS L k).2 then (k, markAt L k) else findS L k
def findM (L : List Cn) : Nat × Mk := findS L 2
def pieceAt (L : List Cn) (i : Nat) : Pc := takePiece (blockC (L.getD (2 + i) ⟨[], true⟩))
def piecesOf (L : List Cn) (k : Nat) : List Pc := (List.range k).map (pieceAt L)

/-- Does a whole record that counts stand at the front? -/
def starts (since : Nat) (ps : List Pc) : Bool :=
  match ps with
  | [] => false
  | f :: _ => decide (since ≤ f.stamp) && decide (nblocks f.len ≤ ps.length) && (List.range (nblocks f.len)).all fun i => decide ((ps.getD i Pc.no).stamp = f.stamp) && decide ((ps.getD i Pc.no).num = i)
/-- bytes laid over bytes, as many as fit. -/
def putB (r : List Int) (o : Nat) (b : List Int) : List Int := splice r o (b.take (r.length - o))
def buildRec : List Int → Nat → List Pc → List Int
  | r, _, [] => r
  | r, i, p :: t => buildRec (putB r (i * 40) p.bytes) (i + 1) t
def recOf (ps : List Pc) : List Int := buildRec (List.replicate (ps.headD Pc.no).len 0) 0 (ps.take (nblocks (ps.headD Pc.no).len))
def gatherN (since : Nat) : Nat → List Pc → List (List Int)
  | 0, _ => []
  | n + 1, ps => if starts since ps then recOf ps :: gatherN since n (ps.drop (nblocks (ps.headD Pc.no).len)) else []
def gather (since : Nat) (ps : List Pc) : List (List Int) := gatherN since ps.length ps

theorem gatherN_fuel (since : Nat) : ∀ (n m : Nat) (ps : List Pc), ps.length ≤ n → ps.length ≤ m → gatherN since n ps = gatherN since m ps
  | 0, m, ps, h, _ => by
    obtain rfl : ps = [] := List.eq_nil_of_length_eq_zero (by omega)
    cases m <;> simp [gatherN, starts]
  | n + 1, 0, ps, _, h => by
    obtain rfl : ps = [] := List.eq_nil_of_length_eq_zero (by omega)
    simp [gatherN, starts]
  | n + 1, m + 1, ps, h1, h2 => by
    have hp := nblocks_pos (ps.headD Pc.no).len
    rw [gatherN, gatherN]
    split
    · rw [gatherN_fuel since n m _ (by rw [List.length_drop]; omega) (by rw [List.length_drop]; omega)]
    · rfl
theorem gather_yes {since : Nat} {ps : List Pc} (h : starts since ps = true) : gather since ps = recOf ps :: gather since (ps.drop (nblocks (ps.headD Pc.no).len)) := by
  unfold gather
  cases ps with
  | nil => simp [starts] at h
  | cons f t =>
    have hp := nblocks_pos f.len
    rw [show (f :: t).length = t.length + 1 from rfl, gatherN, if_pos h]
    congr 1
    exact gatherN_fuel _ _ _ _ (by simp; omega) (by simp)
theorem gather_no {since : Nat} {ps : List Pc} (h : starts since ps = false) : gather since ps = [] := by
  unfold gather
  cases ps with
  | nil => rfl
  | cons f t => rw [show (f :: t).length = t.length + 1 from rfl, gatherN, if_neg (by simp [h])]

theorem rdNum_le (most : Nat) (r : Rd) : (rdNum most r).1 ≤ most := by
  unfold rdNum
  split
  · exact Nat.zero_le _
  · rename_i h; simp at h; exact h.2
theorem rdNum_len (most : Nat) (r : Rd) : (rdNum most r).2.rest.length ≤ r.rest.length := by
  unfold rdNum
  split <;> simp
theorem rdText_len (r : Rd) : (rdText r).2.rest.length ≤ r.rest.length := by
  unfold rdText
  split <;> simp
theorem takePiece_le (c : List Int) : (takePiece c).stamp ≤ maxSt ∧ (takePiece c).len ≤ 65536 ∧ (takePiece c).num ≤ 16384 ∧ (takePiece c).bytes.length ≤ 40 := by
  unfold takePiece
  simp only
  split
  · exact ⟨Nat.zero_le _, Nat.zero_le _, Nat.zero_le _, Nat.zero_le _⟩
  · rename_i h
    refine ⟨rdNum_le maxSt _, rdNum_le 65536 _, rdNum_le 16384 _, ?_⟩
    simp only [not_or, Decidable.not_not] at h
    have := h.2
    unfold pieceLen at this
    simp only
    omega
def mkOf (b d e : Nat × Rd) : Mk := if e.2.bad = true then Mk.no else ⟨b.1, d.1, e.1⟩
theorem mkOf_le (b d e : Nat × Rd) (h1 : b.1 ≤ 2) (h2 : d.1 ≤ 1) (h3 : e.1 ≤ maxSt) : (mkOf b d e).turn ≤ 2 ∧ (mkOf b d e).area ≤ 1 ∧ (mkOf b d e).since ≤ maxSt := by
  unfold mkOf
  split
  · exact ⟨Nat.zero_le _, Nat.zero_le _, Nat.zero_le _⟩
  · exact ⟨h1, h2, h3⟩
theorem takeMark_le (c : List Int) (size : Nat) : (takeMark c size).turn ≤ 2 ∧ (takeMark c size).area ≤ 1 ∧ (takeMark c size).since ≤ maxSt := by
  unfold takeMark
  simp only
  split
  · exact ⟨Nat.zero_le _, Nat.zero_le _, Nat.zero_le _⟩
  · split
    · exact ⟨Nat.zero_le _, Nat.zero_le _, Nat.zero_le _⟩
    · exact mkOf_le _ _ _ (rdNum_le _ _) (rdNum_le _ _) (rdNum_le _ _)
theorem findS_turn (L : List Cn) : ∀ k, (findS L k).2.turn ≤ 2 ∧ (findS L k).2.area ≤ 1 ∧ (findS L k).2.since ≤ maxSt ∧ (findS L k).1 ≤ k
  | 0 => ⟨Nat.zero_le _, Nat.zero_le _, Nat.zero_le _, Nat.zero_le _⟩
  | k + 1 => by
    have h := findS_turn L k
    rw [findS]
    split
    · have := takeMark_le (blockC (L.getD k ⟨[], true⟩)) (areaSize L.length)
      exact ⟨this.1, this.2.1, this.2.2, by simp only; omega⟩
    · exact ⟨h.1, h.2.1, h.2.2.1, by have := h.2.2.2; omega⟩
theorem blockC_len (c : Cn) (h : B64 c.b) : (blockC c).length ≤ 64 := by
  unfold blockC
  split
  · simp
  · unfold takeFrame
    split
    · simp
    · split
      · simp
      · split
        · simp
        · split
          · simp
          · rename_i h1 h2
            simp only
            rw [List.length_take, List.length_drop, h.len]; omega
theorem blockC_byte (c : Cn) (h : B64 c.b) : ∀ z ∈ blockC c, 0 ≤ z ∧ z ≤ 255 := by
  intro z hz
  unfold blockC at hz
  split at hz
  · simp at hz
  · unfold takeFrame at hz
    split at hz
    · simp at hz
    · split at hz
      · simp at hz
      · split at hz
        · simp at hz
        · split at hz
          · simp at hz
          · exact h.byte z (List.mem_of_mem_drop (List.mem_of_mem_take hz))
end Go.Proofs.Ythpbcibjohakkaa
