/- Layer 12: pieces of texts, whole numbers: over lists; since. -/
import Derived.Test.YtagangneoibbcaaDoorLxB
import Derived.Test.YtagangneoibbcaaDoorLxShelf
import Derived.Lib.ParseIntB
set_option linter.unusedVariables false
namespace Go.Proofs.YtagangneoibbcaaDoor
set_option maxRecDepth 100000
set_option maxRecDepth 100000
open Go.RowKit Go.Shelf

theorem strB_nums12 (l : List Int) (h : ∀ z ∈ l, 0 ≤ z ∧ z ≤ 255) : strB (strOfNums l) = l := by
  unfold strB
  rw [show (strOfNums l).data.toList = l.map fun n => UInt8.ofNat n.toNat by simp [strOfNums]]
  rw [List.map_map]
  conv => rhs; rw [← List.map_id l]
  apply List.map_congr_left
  intro z hz
  have := h z hz
  simp only [Function.comp_apply, UInt8.toNat_ofNat', id_eq]
  omega
theorem strB_inj12 {s t : ByteArray} (h : strB s = strB t) : s = t := by
  unfold strB at h
  apply ByteArray.ext
  apply Array.ext'
  have hinj : ∀ a b : UInt8, ((a.toNat : Int)) = (b.toNat : Int) → a = b := fun a b e => by
    apply UInt8.toNat_inj.1; omega
  exact List.map_inj_right (fun a b e => hinj a b e) |>.1 h
theorem nums_strB12 (s : ByteArray) : strOfNums (strB s) = s := strB_inj12 (strB_nums12 _ (strB_byte s))
theorem strB_sub (s : ByteArray) (a b : Nat) : strB (s.extract a b) = ((strB s).drop a).take (b - a) := by
  have h1 : (s.extract a b).data.toList = (s.data.toList.drop a).take (b - a) := by
    rw [ByteArray.data_extract, Array.toList_extract, List.extract_eq_take_drop]
  simp only [strB, h1, List.map_take, List.map_drop]
theorem sub_nums (s : ByteArray) (a b : Nat) : s.extract a b = strOfNums (((strB s).drop a).take (b - a)) := by rw [← strB_sub, nums_strB12]
theorem sub_size (s : ByteArray) (a b : Nat) (h : b ≤ s.size) : (s.extract a b).size = b - a := by simp; omega

def numF (a : Nat) (d : List Int) : Nat := d.foldl (fun a c => a * 10 + (c - 48).toNat) a
theorem numF_nil (a : Nat) : numF a [] = a := rfl
theorem numF_cons (a : Nat) (c : Int) (r : List Int) : numF a (c :: r) = numF (a * 10 + (c - 48).toNat) r := rfl
theorem numF_le : ∀ (d : List Int) (a : Nat), a ≤ numF a d
  | [], a => Nat.le_refl a
  | c :: r, a => by
    rw [numF_cons]
    have := numF_le r (a * 10 + (c - 48).toNat)
    omega
theorem numF_snoc (a : Nat) (d : List Int) (c : Int) : numF a (d ++ [c]) = numF a d * 10 + (c - 48).toNat := by simp [numF]
theorem numP_F (d : List Int) : numP d = numF 0 d := rfl
theorem parseM_digits : ∀ (l : List UInt8) (a : Nat), a ≤ 18446744073709551615 → (∀ c ∈ l, 48 ≤ c.toNat ∧ c.toNat ≤ 57) →
    Lib.parseUintM (2 ^ 64 - 1) a l = if numF a (l.map fun b => (b.toNat : Int)) ≤ 18446744073709551615 then .ok (numF a (l.map fun b => (b.toNat : Int))) else .range
  | [], a, ha, _ => by
    rw [List.map_nil, numF_nil, if_pos ha, Lib.parseUintM]
  | c :: r, a, ha, h => by
    have hc := h c (by simp)
    rw [List.map_cons, numF_cons, Lib.parseUintM, if_pos hc]
    have hd : ((c.toNat : Int) - 48).toNat = c.toNat - 48 := by omega
    rw [hd]
    have hle := numF_le (r.map fun b => (b.toNat : Int)) (a * 10 + (c.toNat - 48))
    by_cases h1 : 1844674407370955162 ≤ a
    · rw [if_pos h1, if_neg (by omega)]
    · rw [if_neg h1]
      by_cases h2 : (2 ^ 64 - 1 : Nat) < a * 10 + (c.toNat - 48)
      · rw [if_pos h2, if_neg (by omega)]
      · rw [if_neg h2]
        exact parseM_digits r _ (by omega) (fun x hx => h x (by simp [hx]))
theorem parse_digits (t : ByteArray) (h : ∀ z ∈ strB t, digB z = true) (hne : 0 < t.size) :
    Lib.parseIntB 64 t.data.toList = if numP (strB t) < 9223372036854775808 then .ok (numP (strB t) : Nat) else .range := by
  have hl : ∀ c ∈ t.data.toList, 48 ≤ c.toNat ∧ c.toNat ≤ 57 := fun c hc => by
    have := h (c.toNat : Int) (by unfold strB; exact List.mem_map.2 ⟨c, hc, rfl⟩)
    unfold digB at this
    rw [decide_eq_true_eq] at this
    omega
  have hm := parseM_digits t.data.toList 0 (by decide) hl
  rw [show t.data.toList.map (fun b => (b.toNat : Int)) = strB t from rfl, ← numP_F] at hm
  rcases he : t.data.toList with _ | ⟨c, r⟩
  · exfalso
    have : t.data.toList.length = t.size := by simp
    rw [he] at this
    simp at this
    omega
  · have hc := hl c (by rw [he]; simp)
    rw [he] at hm
    unfold Lib.parseIntB Lib.parseUintB
    simp only
    rw [if_neg (by omega : ¬ (c.toNat = 43 ∨ c.toNat = 45)), if_neg (by simp), hm]
    by_cases h1 : numP (strB t) ≤ 18446744073709551615
    · rw [if_pos h1]
      by_cases h2 : numP (strB t) < 9223372036854775808
      · rw [if_pos h2]
        simp only
        rw [if_neg (by rintro ⟨-, h3⟩; omega), if_neg (by rintro ⟨h3, -⟩; omega), if_neg (by omega)]
      · rw [if_neg h2]
        simp only
        rw [if_pos ⟨by omega, by omega⟩]
    · rw [if_neg h1, if_neg (by omega)]

section
variable {w : World} {g i : Nat} {s : ByteArray} {x : Tk} {f p : Int}
set_option maxHeartbeats 4000000 in
theorem wCloneS (t : ByteArray) (w : World) (ht : t.size ≤ 65536) : Calls Tryd.prog 68 #[.string t] w fun e w' => e = .returned (.string t) ∧ Below w.heap.size w w' := by
  have C := Lib.hid (show Calls Tryd.prog 75 #[.string t] w fun e w' => e = .returned (.string t) ∧ Below w.heap.size w w' from Any.stringslite_Clone Tryd.cloneS t w (by omega))
  clear ht
  go_enter Tryd.func68, Tryd.ntmps68
  go_wp2_with (go_at_call 75; refine C.out.mono ?_; rintro e w1 ⟨rfl, hb⟩)
  go_ret
  exact ⟨rfl, hb⟩
set_option maxHeartbeats 4000000 in
theorem wSince (h : Rd w g s i x f p) (b : Nat) (hb : b ≤ i) (hi : i ≤ s.size) (hs : s.size ≤ 65536) :
    Calls Tryd.prog 62 #[.pointer (some ⟨g, 0, none⟩), .int .i64 (b : Nat)] w fun e w' => e = .returned (.string (s.extract b i)) ∧ Below w.heap.size w w' := by
  have c0 : w.cell? ⟨g, 0, none⟩ = some (.string s) := h.cell 0
  have c1 : w.cell? ⟨g, 1, none⟩ = some (.int .i64 (i : Nat)) := h.cell 1
  have C := Lib.hid fun W => wCloneS (s.extract b i) W (by rw [sub_size _ _ _ hi]; omega)
  have i1 : (b : Int) ≤ (i : Int) := by omega
  have i2 : (i : Int) ≤ (s.size : Int) := by omega
  clear h
  go_enter Tryd.func62, Tryd.ntmps62
  go_wp2
  go_still_tail 10, (by kernel_rfl)
  go_wp2_with (go_at_call 68; go_loud (refine (C.out _).mono ?_; rintro e w1 ⟨rfl, hb⟩))
  go_ret
  exact ⟨rfl, below_next (Below.refl _ _).drew hb⟩
end
end Go.Proofs.YtagangneoibbcaaDoor
