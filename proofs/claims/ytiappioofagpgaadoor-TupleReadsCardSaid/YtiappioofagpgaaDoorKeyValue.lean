/- The call of takeKeyValue. -/
import Derived.Test.YtiappioofagpgaaDoorKeyBytes
namespace Go.Proofs.YtiappioofagpgaaDoor
open Go.RowKit

def vKV (v : KV) : Value := vA v.k v.n v.y (strOfNums v.b) 0 0
def KvRet (o : Option (KV × Nat)) : Value :=
  match o with
  | none => .tuple #[vA 0 0 false ⟨#[]⟩ 0 0, .int .i64 0]
  | some x => .tuple #[vKV x.1, .int .i64 x.2]

theorem row5 {W : World} {g : Nat} {T : TypeId} {a b c d e : Value} (h : W.heap[g]? = some (.cells #[a, b, c, d, e] T (0, 0))) :
    (W.cell? ⟨g, 0, none⟩ = some a ∧ W.cell? ⟨g, 1, none⟩ = some b ∧ W.cell? ⟨g, 2, none⟩ = some c ∧ W.cell? ⟨g, 3, none⟩ = some d ∧ W.cell? ⟨g, 4, none⟩ = some e) ∧
    W.frozen? ⟨g, 0, none⟩ = false ∧ W.frozen? ⟨g, 1, none⟩ = false ∧ W.frozen? ⟨g, 2, none⟩ = false ∧ W.frozen? ⟨g, 3, none⟩ = false ∧ W.frozen? ⟨g, 4, none⟩ = false := by
  refine ⟨⟨?_, ?_, ?_, ?_, ?_⟩, ?_, ?_, ?_, ?_, ?_⟩
  all_goals first | (rw [cell_of_row W g _ _ T (0, 0) h]; rfl) | simp [World.frozen?, h]

theorem toList_data1 (b : ByteArray) : b.toList = b.data.toList := Go.ByteArray.toList_eq b
theorem strB_rest (t : ByteArray) (h : 0 < t.size) : strB (t.extract 1 t.size) = (strB t).drop 1 := by
  have h1 : (t.extract 1 t.size).data.toList = t.data.toList.drop 1 := by
    rw [ByteArray.data_extract, Array.toList_extract, List.extract_eq_take_drop]
    rw [List.take_of_length_le (by simp)]
  simp only [strB, h1, List.map_drop]
theorem rest_size (t : ByteArray) : (t.extract 1 t.size).size = t.size - 1 := by simp

set_option maxHeartbeats 2000000 in
set_option maxRecDepth 100000 in
theorem keyValue_int (t : ByteArray) (w : World) (ht : t.size ≤ 140737488351232) (h9 : 9 ≤ t.size) (hc : ((t[0]'(by omega)).toNat : Int) = 1) :
    Calls Tryd.prog 11 #[.string t] w fun e w' => e = .returned (.tuple #[vA 1 (keyI (num8 ((strB t).drop 1) 8)) false ⟨#[]⟩ 0 0, .int .i64 9]) ∧ Below w.heap.size w w' := by
  have hst := run_store_complex Tryd.prog
  have K := Lib.hid fun W => keyInt_is (t.extract 1 t.size) W (by rw [rest_size]; omega)
  have I := Lib.hid int_makes
  have hsz := rest_size t
  rw [strB_rest t (by omega)] at K
  unfold vA at I ⊢
  have HW := Lib.hid (Below.refl w.heap.size w |>.alloc (Nat.le_refl _) (.cells #[.int .i64 0, .int .i64 0, .bool false, .string ⟨#[]⟩, .complex .f64 0 0] 34))
  have HR := Lib.hid (heap_alloc_new w (.cells #[.int .i64 0, .int .i64 0, .bool false, .string ⟨#[]⟩, .complex .f64 0 0] 34))
  go_enter Tryd.func11, Tryd.ntmps11
  go_wp2_with fail
  refine (K.out _).mono ?_
  rintro e w1 ⟨rfl, rfl⟩
  go_wp2_with fail
  refine (I.out _ _).mono ?_
  rintro e w2 ⟨rfl, hb2⟩
  have hr2 := (hb2.block w.heap.size (by simp)).trans HR.out
  have hB2 := below_next HW.out hb2
  obtain ⟨⟨c0, c1, c2, c3, c4⟩, f0, f1, f2, f3, f4⟩ := row5 hr2
  clear hr2 hb2
  go_wp2
  refine bodyPost_ret (v := .tuple #[.agg #[.int .i64 1, .int .i64 (keyI (num8 ((strB t).drop 1) 8)), .bool false, .string ⟨#[]⟩, .complex .f64 0 0], .int .i64 9]) (by simp [results, Tryd.results11, go_sem, c0, c1, c2, c3, c4]) rfl ?_
  refine ⟨rfl, ?_⟩
  exact ((((hB2.setCell (Nat.le_refl _) _).setCell (Nat.le_refl _) _).setCell (Nat.le_refl _) _).setCell (Nat.le_refl _) _).setCell (Nat.le_refl _) _

theorem rest_get (t : ByteArray) (h : 1 < t.size) : (t.extract 1 t.size)[0]'(by rw [rest_size]; omega) = t[1] := by
  simp [ByteArray.getElem_extract]

set_option maxHeartbeats 2000000 in
set_option maxRecDepth 100000 in
theorem keyValue_bool (t : ByteArray) (w : World) (ht : t.size ≤ 140737488351232) (h9 : 2 ≤ t.size) (hc : ((t[0]'(by omega)).toNat : Int) = 2) (hd : ((t[1]'(by omega)).toNat : Int) ≤ 1) :
    Calls Tryd.prog 11 #[.string t] w fun e w' => e = .returned (.tuple #[vA 2 0 (((t[1]'(by omega)).toNat : Int) == 1) ⟨#[]⟩ 0 0, .int .i64 2]) ∧ Below w.heap.size w w' := by
  have hst := run_store_complex Tryd.prog
  have hsz := rest_size t
  have I := Lib.hid bool_makes
  have hg := rest_get t (by omega)
  have hne : (t.extract 1 t.size).toList.isEmpty = false := by
    rw [toList_data1, List.isEmpty_eq_false_iff, ← List.length_pos_iff]
    have : (t.extract 1 t.size).data.toList.length = (t.extract 1 t.size).size := by simp
    omega
  have hne2 : ((t.extract 1 t.size).toList = []) = False := by
    rw [← List.isEmpty_iff, hne]; simp
  unfold vA at I ⊢
  have HW := Lib.hid (Below.refl w.heap.size w |>.alloc (Nat.le_refl _) (.cells #[.int .i64 0, .int .i64 0, .bool false, .string ⟨#[]⟩, .complex .f64 0 0] 34))
  have HR := Lib.hid (heap_alloc_new w (.cells #[.int .i64 0, .int .i64 0, .bool false, .string ⟨#[]⟩, .complex .f64 0 0] 34))
  go_enter Tryd.func11, Tryd.ntmps11
  go_wp2_with fail
  refine (I.out _ _).mono ?_
  rintro e w2 ⟨rfl, hb2⟩
  have hr2 := (hb2.block w.heap.size (by simp)).trans HR.out
  have hB2 := below_next HW.out hb2
  obtain ⟨⟨c0, c1, c2, c3, c4⟩, f0, f1, f2, f3, f4⟩ := row5 hr2
  clear hr2 hb2
  go_wp2
  refine bodyPost_ret (v := .tuple #[.agg #[.int .i64 2, .int .i64 0, .bool (((t[1]'(by omega)).toNat : Int) == 1), .string ⟨#[]⟩, .complex .f64 0 0], .int .i64 2]) (by simp [results, Tryd.results11, go_sem, c0, c1, c2, c3, c4]) rfl ?_
  exact ⟨rfl, ((((hB2.setCell (Nat.le_refl _) _).setCell (Nat.le_refl _) _).setCell (Nat.le_refl _) _).setCell (Nat.le_refl _) _).setCell (Nat.le_refl _) _⟩

set_option maxHeartbeats 2000000 in
set_option maxRecDepth 100000 in
theorem keyValue_bytes (t : ByteArray) (w : World) (ht : t.size ≤ 140737488351232) (h1 : 1 ≤ t.size) (hc : ((t[0]'(by omega)).toNat : Int) = 3) (b : List Int) (n : Nat) (he : (esc ((strB t).drop 1)).filter short = some (b, n)) (hn : 0 < n) (hn2 : n ≤ 140737488351232) :
    Calls Tryd.prog 11 #[.string t] w fun e w' => e = .returned (.tuple #[vA 3 0 false (strOfNums b) 0 0, .int .i64 (1 + n : Nat)]) ∧ Below w.heap.size w w' := by
  have hst := run_store_complex Tryd.prog
  have hsz := rest_size t
  have K := Lib.hid fun W => keyBytes_is (t.extract 1 t.size) W (by rw [rest_size]; omega)
  have I := Lib.hid bytes_makes
  rw [strB_rest t (by omega), he] at K
  unfold TkbRet at K
  unfold vA at I ⊢
  clear he
  have HW := Lib.hid (Below.refl w.heap.size w |>.alloc (Nat.le_refl _) (.cells #[.int .i64 0, .int .i64 0, .bool false, .string ⟨#[]⟩, .complex .f64 0 0] 34))
  have HR := Lib.hid (heap_alloc_new w (.cells #[.int .i64 0, .int .i64 0, .bool false, .string ⟨#[]⟩, .complex .f64 0 0] 34))
  go_enter Tryd.func11, Tryd.ntmps11
  go_wp2_with fail
  refine (K.out _).mono ?_
  rintro e w1 ⟨rfl, hb1⟩
  go_wp2_with fail
  refine (I.out _ _).mono ?_
  rintro e w2 ⟨rfl, hb2'⟩
  have hb2 := below_next hb1 hb2'
  clear hb1 hb2'
  have hr2 := (hb2.block w.heap.size (by simp)).trans HR.out
  have hB2 := below_next HW.out hb2
  obtain ⟨⟨c0, c1, c2, c3, c4⟩, f0, f1, f2, f3, f4⟩ := row5 hr2
  clear hr2 hb2
  go_wp2
  refine bodyPost_ret (v := .tuple #[.agg #[.int .i64 3, .int .i64 0, .bool false, .string (strOfNums b), .complex .f64 0 0], .int .i64 (1 + n : Nat)]) (by simp [results, Tryd.results11, go_sem, c0, c1, c2, c3, c4]; try omega) rfl ?_
  exact ⟨rfl, ((((hB2.setCell (Nat.le_refl _) _).setCell (Nat.le_refl _) _).setCell (Nat.le_refl _) _).setCell (Nat.le_refl _) _).setCell (Nat.le_refl _) _⟩

set_option maxHeartbeats 2000000 in
set_option maxRecDepth 100000 in
theorem keyValue_nobytes (t : ByteArray) (w : World) (ht : t.size ≤ 140737488351232) (h1 : 1 ≤ t.size) (hc : ((t[0]'(by omega)).toNat : Int) = 3) (he : (esc ((strB t).drop 1)).filter short = none) :
    Calls Tryd.prog 11 #[.string t] w fun e w' => e = .returned (.tuple #[vA 0 0 false ⟨#[]⟩ 0 0, .int .i64 0]) ∧ Below w.heap.size w w' := by
  have hst := run_store_complex Tryd.prog
  have hsz := rest_size t
  have K := Lib.hid fun W => keyBytes_is (t.extract 1 t.size) W (by rw [rest_size]; omega)
  rw [strB_rest t (by omega), he] at K
  unfold TkbRet at K
  unfold vA
  clear he
  have HW := Lib.hid (Below.refl w.heap.size w |>.alloc (Nat.le_refl _) (.cells #[.int .i64 0, .int .i64 0, .bool false, .string ⟨#[]⟩, .complex .f64 0 0] 34))
  have HR := Lib.hid (heap_alloc_new w (.cells #[.int .i64 0, .int .i64 0, .bool false, .string ⟨#[]⟩, .complex .f64 0 0] 34))
  go_enter Tryd.func11, Tryd.ntmps11
  go_wp2_with fail
  refine (K.out _).mono ?_
  rintro e w2 ⟨rfl, hb2⟩
  have hr2 := (hb2.block w.heap.size (by simp)).trans HR.out
  have hB2 := below_next HW.out hb2
  obtain ⟨⟨c0, c1, c2, c3, c4⟩, f0, f1, f2, f3, f4⟩ := row5 hr2
  clear hr2 hb2
  go_wp2
  refine bodyPost_ret (v := .tuple #[.agg #[.int .i64 0, .int .i64 0, .bool false, .string ⟨#[]⟩, .complex .f64 0 0], .int .i64 0]) (by simp [results, Tryd.results11, go_sem, c0, c1, c2, c3, c4]) rfl ?_
  exact ⟨rfl, ((((hB2.setCell (Nat.le_refl _) _).setCell (Nat.le_refl _) _).setCell (Nat.le_refl _) _).setCell (Nat.le_refl _) _).setCell (Nat.le_refl _) _⟩

set_option maxHeartbeats 2000000 in
set_option maxRecDepth 100000 in
theorem keyValue_noint (t : ByteArray) (w : World) (ht : t.size ≤ 140737488351232) (h1 : 1 ≤ t.size) (hc : ((t[0]'(by omega)).toNat : Int) = 1) (h9 : t.size < 9) :
    Calls Tryd.prog 11 #[.string t] w fun e w' => e = .returned (.tuple #[vA 0 0 false ⟨#[]⟩ 0 0, .int .i64 0]) ∧ Below w.heap.size w w' := by
  have hst := run_store_complex Tryd.prog
  have hsz := rest_size t
  unfold vA
  have hB2 := (Below.refl w.heap.size w |>.alloc (Nat.le_refl _) (.cells #[.int .i64 0, .int .i64 0, .bool false, .string ⟨#[]⟩, .complex .f64 0 0] 34))
  go_enter Tryd.func11, Tryd.ntmps11
  go_wp2
  refine bodyPost_ret (v := .tuple #[.agg #[.int .i64 0, .int .i64 0, .bool false, .string ⟨#[]⟩, .complex .f64 0 0], .int .i64 0]) (by simp [results, Tryd.results11, go_sem]) rfl ?_
  exact ⟨rfl, hB2⟩

set_option maxHeartbeats 2000000 in
set_option maxRecDepth 100000 in
theorem keyValue_empty (t : ByteArray) (w : World) (ht : t.size ≤ 140737488351232) (h1 : 1 ≤ t.size) (hc : ((t[0]'(by omega)).toNat : Int) = 2) (h9 : t.size = 1) :
    Calls Tryd.prog 11 #[.string t] w fun e w' => e = .returned (.tuple #[vA 0 0 false ⟨#[]⟩ 0 0, .int .i64 0]) ∧ Below w.heap.size w w' := by
  have hst := run_store_complex Tryd.prog
  have hsz := rest_size t
  unfold vA
  have hB2 := (Below.refl w.heap.size w |>.alloc (Nat.le_refl _) (.cells #[.int .i64 0, .int .i64 0, .bool false, .string ⟨#[]⟩, .complex .f64 0 0] 34))
  have hem : (t.extract 1 t.size).toList.isEmpty = true := by
    rw [toList_data1, List.isEmpty_iff]
    have : (t.extract 1 t.size).data.toList.length = (t.extract 1 t.size).size := by simp
    exact List.eq_nil_of_length_eq_zero (by omega)
  have hem2 : (t.extract 1 t.size).toList = [] := List.isEmpty_iff.1 hem
  go_enter Tryd.func11, Tryd.ntmps11
  go_wp2
  refine bodyPost_ret (v := .tuple #[.agg #[.int .i64 0, .int .i64 0, .bool false, .string ⟨#[]⟩, .complex .f64 0 0], .int .i64 0]) (by simp [results, Tryd.results11, go_sem]) rfl ?_
  exact ⟨rfl, hB2⟩

set_option maxHeartbeats 2000000 in
set_option maxRecDepth 100000 in
theorem keyValue_nobool (t : ByteArray) (w : World) (ht : t.size ≤ 140737488351232) (h1 : 1 ≤ t.size) (hc : ((t[0]'(by omega)).toNat : Int) = 2) (h2 : 2 ≤ t.size) (hd : 1 < ((t[1]'(by omega)).toNat : Int)) :
    Calls Tryd.prog 11 #[.string t] w fun e w' => e = .returned (.tuple #[vA 0 0 false ⟨#[]⟩ 0 0, .int .i64 0]) ∧ Below w.heap.size w w' := by
  have hst := run_store_complex Tryd.prog
  have hsz := rest_size t
  unfold vA
  have hB2 := (Below.refl w.heap.size w |>.alloc (Nat.le_refl _) (.cells #[.int .i64 0, .int .i64 0, .bool false, .string ⟨#[]⟩, .complex .f64 0 0] 34))
  have hg := rest_get t (by omega)
  have hne : (t.extract 1 t.size).toList.isEmpty = false := by
    rw [toList_data1, List.isEmpty_eq_false_iff, ← List.length_pos_iff]
    have : (t.extract 1 t.size).data.toList.length = (t.extract 1 t.size).size := by simp
    omega
  have hne2 : ((t.extract 1 t.size).toList = []) = False := by
    rw [← List.isEmpty_iff, hne]; simp
  go_enter Tryd.func11, Tryd.ntmps11
  go_wp2
  refine bodyPost_ret (v := .tuple #[.agg #[.int .i64 0, .int .i64 0, .bool false, .string ⟨#[]⟩, .complex .f64 0 0], .int .i64 0]) (by simp [results, Tryd.results11, go_sem]) rfl ?_
  exact ⟨rfl, hB2⟩

set_option maxHeartbeats 2000000 in
set_option maxRecDepth 100000 in
theorem keyValue_other (t : ByteArray) (w : World) (ht : t.size ≤ 140737488351232) (h1 : 1 ≤ t.size) (hc1 : ((t[0]'(by omega)).toNat : Int) ≠ 1) (hc2 : ((t[0]'(by omega)).toNat : Int) ≠ 2) (hc3 : ((t[0]'(by omega)).toNat : Int) ≠ 3) :
    Calls Tryd.prog 11 #[.string t] w fun e w' => e = .returned (.tuple #[vA 0 0 false ⟨#[]⟩ 0 0, .int .i64 0]) ∧ Below w.heap.size w w' := by
  have hst := run_store_complex Tryd.prog
  have hsz := rest_size t
  unfold vA
  have hB2 := (Below.refl w.heap.size w |>.alloc (Nat.le_refl _) (.cells #[.int .i64 0, .int .i64 0, .bool false, .string ⟨#[]⟩, .complex .f64 0 0] 34))
  have g1 : (((t[0]'(by omega)).toNat : Int) == 1) = false := by simpa using hc1
  have g2 : (((t[0]'(by omega)).toNat : Int) == 2) = false := by simpa using hc2
  have g3 : (((t[0]'(by omega)).toNat : Int) == 3) = false := by simpa using hc3
  have hb0 : 0 ≤ ((t[0]'(by omega)).toNat : Int) ∧ ((t[0]'(by omega)).toNat : Int) ≤ 255 := ⟨by omega, by have := (t[0]'(by omega)).toNat_lt; omega⟩
  obtain ⟨hb1, hb2⟩ := hb0
  clear hc1 hc2 hc3
  go_enter Tryd.func11, Tryd.ntmps11
  go_wp2
  refine bodyPost_ret (v := .tuple #[.agg #[.int .i64 0, .int .i64 0, .bool false, .string ⟨#[]⟩, .complex .f64 0 0], .int .i64 0]) (by simp [results, Tryd.results11, go_sem]) rfl ?_
  exact ⟨rfl, hB2⟩

theorem keyValue_is (t : ByteArray) (w : World) (ht : t.size ≤ 140737488351232) (h1 : 1 ≤ t.size) :
    Calls Tryd.prog 11 #[.string t] w fun e w' => e = .returned (KvRet (tkP (strB t))) ∧ Below w.heap.size w w' := by
  have hd : strB t = ((t[0]'(by omega)).toNat : Int) :: (strB t).drop 1 := by
    have := strB_drop t 0 (by omega)
    simpa using this
  have hl : ((strB t).drop 1).length = t.size - 1 := by rw [List.length_drop, strB_len]
  have hf : ∀ o : Option (List Int × Nat), ((o.map fun x => ((⟨3, 0, false, x.1⟩ : KV), 1 + x.2)).filter fun x => decide (x.1.b.length ≤ 4096)) = (o.filter short).map fun x => ((⟨3, 0, false, x.1⟩ : KV), 1 + x.2) := by
    intro o
    cases o with
    | none => rfl
    | some x => by_cases h : x.1.length ≤ 4096 <;> simp [Option.filter, short, h]
  have hk : tkP (strB t) = tkP (((t[0]'(by omega)).toNat : Int) :: (strB t).drop 1) := by rw [← hd]
  rw [hk]
  unfold tkP
  by_cases c1 : ((t[0]'(by omega)).toNat : Int) = 1
  · by_cases h9 : 9 ≤ t.size
    · have e : tkR (((t[0]'(by omega)).toNat : Int) :: (strB t).drop 1) = some (⟨1, keyI (num8 ((strB t).drop 1) 8), false, []⟩, 9) := by
        rw [c1]; simp only [tkR, if_true, hl]; rw [if_pos (by omega)]
      rw [e]
      exact keyValue_int t w ht h9 c1
    · have e : tkR (((t[0]'(by omega)).toNat : Int) :: (strB t).drop 1) = none := by
        rw [c1]; simp only [tkR, if_true, hl]; rw [if_neg (by omega)]
      rw [e]
      exact keyValue_noint t w ht h1 c1 (by omega)
  · by_cases c2 : ((t[0]'(by omega)).toNat : Int) = 2
    · by_cases h2 : 2 ≤ t.size
      · have hg : ((strB t).drop 1).getD 0 0 = ((t[1]'(by omega)).toNat : Int) := by
          rw [List.getD_eq_getElem?_getD, List.getElem?_drop, ← List.getD_eq_getElem?_getD]
          exact strB_get t 1 (by omega)
        by_cases hd1 : ((t[1]'(by omega)).toNat : Int) ≤ 1
        · have e : tkR (((t[0]'(by omega)).toNat : Int) :: (strB t).drop 1) = some (⟨2, 0, ((t[1]'(by omega)).toNat : Int) == 1, []⟩, 2) := by
            rw [c2]; simp only [tkR, if_true, hl, hg]; rw [if_neg (by omega), if_pos ⟨by omega, hd1⟩]
          rw [e]
          exact keyValue_bool t w ht h2 c2 hd1
        · have e : tkR (((t[0]'(by omega)).toNat : Int) :: (strB t).drop 1) = none := by
            rw [c2]; simp only [tkR, if_true, hl, hg]; rw [if_neg (by omega), if_neg (by omega)]
          rw [e]
          exact keyValue_nobool t w ht h1 c2 h2 (by omega)
      · have e : tkR (((t[0]'(by omega)).toNat : Int) :: (strB t).drop 1) = none := by
          rw [c2]; simp only [tkR, if_true, hl]; rw [if_neg (by omega), if_neg (by omega)]
        rw [e]
        exact keyValue_empty t w ht h1 c2 (by omega)
    · by_cases c3 : ((t[0]'(by omega)).toNat : Int) = 3
      · have e : tkR (((t[0]'(by omega)).toNat : Int) :: (strB t).drop 1) = (esc ((strB t).drop 1)).map fun x => (⟨3, 0, false, x.1⟩, 1 + x.2) := by
          rw [c3]; simp only [tkR]; rw [if_neg (by omega), if_neg (by omega), if_pos trivial]
        rw [e, hf]
        cases he : (esc ((strB t).drop 1)).filter short with
        | none => exact keyValue_nobytes t w ht h1 c3 he
        | some x =>
          have hsz : 2 ≤ x.2 ∧ x.2 ≤ t.size - 1 := by
            cases he2 : esc ((strB t).drop 1) with
            | none => rw [he2] at he; cases he
            | some y =>
              rw [he2] at he
              have : y = x := by simp [Option.filter] at he; exact he.2
              subst this
              have := esc_size _ _ (Nat.le_refl _) y he2
              omega
          exact keyValue_bytes t w ht h1 c3 x.1 x.2 he (by omega) (by omega)
      · have e : tkR (((t[0]'(by omega)).toNat : Int) :: (strB t).drop 1) = none := by
          simp only [tkR, c1, c2, c3, if_false]
        rw [e]
        exact keyValue_other t w ht h1 c1 c2 c3
end Go.Proofs.YtiappioofagpgaaDoor
