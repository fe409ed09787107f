/- The reference's calls of Check and CheckKey, at values that were read out of a key. -/
import Derived.Test.YtiappioofagpgaaDoorOwnV
import Derived.Test.YtiappioofagpgaaDoorFromKey
namespace Go.Proofs.YtiappioofagpgaaDoor
open Go.RowKit

/-- A value with nothing in the fields of other kinds. -/
def KVok (v : KV) : Prop := (v.k = 1 ∧ v.y = false ∧ v.b = []) ∨ (v.k = 2 ∧ v.n = 0 ∧ v.b = []) ∨ (v.k = 3 ∧ v.n = 0 ∧ v.y = false)
theorem strOf_nil : strOfNums [] = ⟨#[]⟩ := rfl

set_option maxHeartbeats 2000000 in
set_option maxRecDepth 100000 in
theorem rcheck_int (n : Int) (w : World) : Calls Tryd.prog 22 #[vA 1 n false ⟨#[]⟩ 0 0] w fun e w' => e = .returned (.int .i64 0) ∧ Below w.heap.size w w' := by
  have hcx : (FloatKind.f64.format.order 0 0 == some .eq) = true := by decide
  have hw1 := (Below.refl w.heap.size w).alloc (Nat.le_refl _) (.cells #[.int .i64 1, .int .i64 n, .bool false, .string ⟨#[]⟩, .complex .f64 0 0] 34)
  unfold vA
  go_enter Tryd.func22, Tryd.ntmps22
  go_wp2
  go_ret
  exact ⟨rfl, hw1⟩
set_option maxHeartbeats 2000000 in
set_option maxRecDepth 100000 in
theorem rcheck_bool (y : Bool) (w : World) : Calls Tryd.prog 22 #[vA 2 0 y ⟨#[]⟩ 0 0] w fun e w' => e = .returned (.int .i64 0) ∧ Below w.heap.size w w' := by
  have hcx : (FloatKind.f64.format.order 0 0 == some .eq) = true := by decide
  have hw1 := (Below.refl w.heap.size w).alloc (Nat.le_refl _) (.cells #[.int .i64 2, .int .i64 0, .bool y, .string ⟨#[]⟩, .complex .f64 0 0] 34)
  unfold vA
  go_enter Tryd.func22, Tryd.ntmps22
  go_wp2
  go_ret
  exact ⟨rfl, hw1⟩
set_option maxHeartbeats 2000000 in
set_option maxRecDepth 100000 in
theorem rcheck_bytes (s : ByteArray) (w : World) : Calls Tryd.prog 22 #[vA 3 0 false s 0 0] w fun e w' => e = .returned (.int .i64 (if s.size ≤ 4096 then 0 else 3)) ∧ Below w.heap.size w w' := by
  have hcx : (FloatKind.f64.format.order 0 0 == some .eq) = true := by decide
  have hw1 := (Below.refl w.heap.size w).alloc (Nat.le_refl _) (.cells #[.int .i64 3, .int .i64 0, .bool false, .string s, .complex .f64 0 0] 34)
  unfold vA
  by_cases h : s.size ≤ 4096
  · rw [if_pos h]
    go_enter Tryd.func22, Tryd.ntmps22
    go_wp2
    go_ret
    exact ⟨rfl, hw1⟩
  · rw [if_neg h]
    have h2 : 4096 < s.size := by omega
    clear h
    go_enter Tryd.func22, Tryd.ntmps22
    go_wp2
    go_ret
    exact ⟨rfl, hw1⟩

theorem rcheck (v : KV) (hv : KVok v) (w : World) : Calls Tryd.prog 22 #[vKV v] w fun e w' => e = .returned (.int .i64 (if v.b.length ≤ 4096 then 0 else 3)) ∧ Below w.heap.size w w' := by
  obtain ⟨k, n, y, b⟩ := v
  unfold vKV
  rcases hv with ⟨h1, h2, h3⟩ | ⟨h1, h2, h3⟩ | ⟨h1, h2, h3⟩ <;> (simp only at h1 h2 h3; subst h1 h2; try subst h3)
  · simpa [strOf_nil] using rcheck_int n w
  · simpa [strOf_nil] using rcheck_bool y w
  · have := rcheck_bytes (strOfNums b) w
    rw [strOfNums_size] at this
    exact this

def ckRet (l : List KV) : Int := if fits l = true then 0 else 3
theorem ckRet_yes {l : List KV} (h : fits l = true) : ckRet l = 0 := by unfold ckRet; rw [if_pos h]
theorem ckRet_no {l : List KV} (h : fits l = false) : ckRet l = 3 := by unfold ckRet; rw [if_neg (by simp [h])]
theorem ret_i64 {a b : Int} (h : a = b) : Ending.returned (.int .i64 a) = .returned (.int .i64 b) := by rw [h]

set_option maxHeartbeats 4000000 in
set_option maxRecDepth 100000 in
theorem checkKey_is (v : Value) (l : List KV) (base : Nat) (w : World) (hown : OV base w v l) (h16 : l.length ≤ 16) (hok : ∀ x ∈ l, KVok x) :
    Calls Tryd.prog 13 #[v] w fun e w' => e = .returned (.int .i64 (ckRet l)) ∧ Below w.heap.size w w' := by
  have C := Lib.hid rcheck
  obtain ⟨A, c, rfl, hc1, hm1⟩ := hown.form
  have hm2 : c ≤ 9223372036854775807 := by simpa [maxLen] using hm1
  clear hm1
  go_enter Tryd.func13, Tryd.ntmps13
  go_wp2
  go_loopw [3] (fun i wr => ∃ k : Nat, k ≤ l.length ∧ i = .int .i64 k ∧ Below w.heap.size w wr ∧ Hid (fits (l.take k) = true)) (fun i _ => l.length - (intOf i).toNat)
  case atStart => exact ⟨0, by omega, rfl, Below.refl _ _, Lib.hid rfl⟩
  case round =>
    obtain ⟨k, hk, rfl, hb, HF⟩ := hrel
    by_cases hlt : k < l.length
    · obtain ⟨x, hx⟩ : ∃ x, l[k]? = some x := ⟨_, List.getElem?_eq_getElem hlt⟩
      have hxok := hok x (List.mem_of_getElem? hx)
      obtain ⟨g, cap, hv, hcap, c0, c1, c2, c3, c4⟩ := (hown.below hb).at_ hx
      simp only [Value.slice.injEq] at hv
      obtain ⟨rfl, -, rfl⟩ := hv
      have Cx := Lib.hid fun W => C.out x hxok W
      unfold vKV vA at Cx
      have hk4 : (x.k == 4) = false := by rcases hxok with ⟨h, _⟩ | ⟨h, _⟩ | ⟨h, _⟩ <;> rw [h] <;> rfl
      have HT : Hid (fits (l.take (k + 1)) = (fits (l.take k) && decide (x.b.length ≤ 4096))) := Lib.hid (by
        have : l.take (k + 1) = l.take k ++ [x] := by
          rw [List.take_succ_eq_append_getElem hlt]
          congr 2
          rw [List.getElem?_eq_getElem hlt] at hx
          exact Option.some.inj hx
        rw [this]; simp [fits])
      by_cases hx4 : x.b.length ≤ 4096
      · rw [if_pos hx4] at Cx
        have HT2 : Hid (fits (l.take (k + 1)) = true) := Lib.hid (by rw [HT.out, HF.out]; simp [hx4])
        clear hx4
        go_wp2_with fail
        refine (Cx.out _).mono ?_
        rintro e w1 ⟨rfl, hb1⟩
        have c0' := keep_below c0 hb1
        have hb2 := below_next hb hb1
        clear c0 c1 c2 c3 c4 hb1
        go_wp2
        go_roundw
        case rel => exact ⟨k + 1, by omega, by go_num, hb2, HT2⟩
        case measure => simp [intOf]; omega
      · rw [if_neg hx4] at Cx
        have HT2 : Hid (fits l = false) := Lib.hid (by
          have : fits (l.take (k + 1)) = false := by rw [HT.out, HF.out]; simp [hx4]
          cases hf : fits l with
          | false => rfl
          | true =>
            have h2 : fits (l.take (k + 1)) = true := by
              unfold fits at hf ⊢
              rw [List.all_eq_true] at hf ⊢
              exact fun y hy => hf y (List.mem_of_mem_take hy)
            rw [h2] at this; cases this)
        clear hx4
        go_wp2_with fail
        refine (Cx.out _).mono ?_
        rintro e w1 ⟨rfl, hb1⟩
        go_wp2
        go_ret
        exact ⟨ret_i64 (ckRet_no HT2.out).symm, below_next hb hb1⟩
    · have : k = l.length := by omega
      subst this
      have HF2 : Hid (fits l = true) := Lib.hid (by have := HF.out; rwa [List.take_length] at this)
      go_wp2
      go_ret
      exact ⟨ret_i64 (ckRet_yes HF2.out).symm, hb⟩

theorem fk_ok (tk : List Int → Option (KV × Nat)) (htk : ∀ L x, tk L = some x → KVok x.1) : ∀ (f : Nat) (L : List Int) (acc l : List KV), (∀ x ∈ acc, KVok x) → fkG tk f L acc = some l → ∀ x ∈ l, KVok x
  | 0, _, _, _, _, h => by simp [fkG] at h
  | f + 1, L, acc, l, ha, h => by
    simp only [fkG] at h
    split at h
    · simp at h; subst h; exact ha
    · cases e : tk L with
      | none => rw [e] at h; simp at h
      | some x =>
        rw [e] at h
        simp only at h
        split at h
        · cases h
        · exact fk_ok tk htk f _ _ _ (fun y hy => by
            rcases List.mem_append.1 hy with hy | hy
            · exact ha y hy
            · simp at hy; subst hy; exact htk _ _ e) h
theorem tkR_ok (L : List Int) (x : KV × Nat) (h : tkR L = some x) : KVok x.1 := by
  match L, h with
  | [], h => simp [tkR] at h
  | c :: r, h =>
    simp only [tkR] at h
    split at h
    · split at h
      · simp at h; subst h; exact .inl ⟨rfl, rfl, rfl⟩
      · simp at h
    · split at h
      · split at h
        · simp at h; subst h; exact .inr (.inl ⟨rfl, rfl, rfl⟩)
        · simp at h
      · split at h
        · cases e : esc r with
          | none => rw [e] at h; simp at h
          | some y => rw [e] at h; simp at h; subst h; exact .inr (.inr ⟨rfl, rfl, rfl⟩)
        · simp at h
end Go.Proofs.YtiappioofagpgaaDoor
