/- The laws' own helpers: alike, spoil. -/
import Derived.Test.YtfeoihnjfngmpaaDLoad
import Derived.Shelf.Bytes.SlEqualAll
namespace Go.Proofs.Ytfeoihnjfngmpaa
open Go.RowKit

theorem rb_in {w : World} {A : Option Addr} {n : Nat} {zs : List Int} (h : RB w A n zs) : Lib.BytesIn w A n zs := by
  rcases Nat.eq_zero_or_pos n with h0 | h0
  · subst h0; exact Lib.BytesIn.nil _ _ _
  · obtain ⟨ad, rfl, hc⟩ := h.cell h0
    exact Lib.BytesIn.of_cells hc
theorem rb_str {w : World} {A : Option Addr} {n : Nat} {zs : List Int} (h : RB w A n zs) (c : Nat) :
    (convert 34 9 (.slice A n c)).run Try.prog w = .ok (.string (strOfNums zs)) w :=
  (rb_in h).convert h.len c 34 5 9 Try.underlying34 Try.underlying5 Try.underlying9
theorem bytes_inj {zs ys : List Int} (hz : ∀ z ∈ zs, 0 ≤ z ∧ z ≤ 255) (hy : ∀ z ∈ ys, 0 ≤ z ∧ z ≤ 255) (h : Lib.bytesOf zs = Lib.bytesOf ys) : zs = ys := by
  have h1 : (zs.map fun n => UInt8.ofNat n.toNat) = ys.map fun n => UInt8.ofNat n.toNat := h
  clear h
  induction zs generalizing ys with
  | nil => cases ys with
    | nil => rfl
    | cons y ys => simp at h1
  | cons z zs ih => cases ys with
    | nil => simp at h1
    | cons y ys =>
      simp only [List.map_cons, List.cons.injEq] at h1
      have a := hz z (by simp)
      have b := hy y (by simp)
      have e : (UInt8.ofNat z.toNat).toNat = (UInt8.ofNat y.toNat).toNat := by rw [h1.1]
      simp only [UInt8.toNat_ofNat'] at e
      rw [ih (fun x hx => hz x (by simp [hx])) (fun x hx => hy x (by simp [hx])) h1.2]
      congr 1
      omega

theorem lalike {A B : Option Addr} {n m : Nat} (c d : Nat) {zs ys : List Int} {w : World} (h1 : RB w A n zs) (h2 : RB w B m ys) :
    Calls Try.prog 26 #[.slice A n c, .slice B m d] w fun e w' => e = .returned (.bool (decide (zs = ys))) ∧ w = w' := by
  have k1 := rb_str h1 c
  have k2 := rb_str h2 d
  by_cases he : zs = ys
  · subst he
    go_enter Try.func26, Try.ntmps26
    go_wp2
    go_ret
    exact ⟨by simp, rfl⟩
  · have hs : ¬ (strOfNums zs).toList = (strOfNums ys).toList := fun e => he (bytes_inj h1.byte h2.byte (by rw [Lib.strOfNums_toList, Lib.strOfNums_toList] at e; exact e))
    rw [decide_eq_false he]
    go_enter Try.func26, Try.ntmps26
    go_wp2
    go_ret
    exact ⟨by simp [hs], rfl⟩

/-- Block g holds bytes, at least c. -/
def U8Blk (w : World) (g c : Nat) : Prop := ∃ C t, w.heap[g]? = some (.cells C t (0, 0)) ∧ ∀ j, j < c → ∃ z, C[j]? = some (.int .u8 z)
set_option maxHeartbeats 1000000 in
theorem lspoil (g n c : Nat) (w : World) (h : U8Blk w g c) (hn : n ≤ c) (hc : c ≤ 140737488360000) :
    Calls Try.prog 34 #[.slice (some ⟨g, 0, none⟩) n c] w fun e w' => e = .returned (.tuple #[]) ∧ Out (fun k => k = g) w w' := by
  obtain ⟨C0, t, hC, hu⟩ := h
  go_enter Try.func34, Try.ntmps34
  go_wp2
  go_loopw [2, 9] (fun _ i wr => ∃ (k : Nat) (C : Array Value), i = .int .i64 (k : Nat) ∧ k ≤ c ∧ wr.heap[g]? = some (.cells C t (0, 0)) ∧ (∀ j, j < c → ∃ z, C[j]? = some (.int .u8 z)) ∧ Out (fun k => k = g) w wr) (fun _ i _ => c - (intOf i).toNat)
  case atStart => exact ⟨0, C0, rfl, Nat.zero_le _, hC, hu, Out.refl _ _⟩
  case round =>
    obtain ⟨k, C, rfl, hk, hC, hu, ho⟩ := hrel
    by_cases hlt : k < c
    · obtain ⟨z, hz⟩ := hu k hlt
      have hcell : wr.cell? ⟨g, k, none⟩ = some (.int .u8 z) := (cell_of_row _ _ _ _ _ _ hC).trans hz
      have hf := frozen_of_row wr g k C t hC
      have hki : (k : Int) < (c : Int) := by omega
      have HC := Lib.hid hC
      have HU := Lib.hid hu
      have HO := Lib.hid ho
      clear hC hu ho hz
      go_wp2
      go_roundw
      case rel =>
        refine ⟨k + 1, C.setIfInBounds k _, by go_num, hlt, heap_setCell_same _ g k C t _ HC.out, fun j hj => ?_, HO.out.setCell (.inl rfl) _⟩
        by_cases e : k = j
        · subst e
          obtain ⟨z', hz'⟩ := HU.out k hj
          have : k < C.size := (Array.getElem?_eq_some_iff.1 hz').1
          exact ⟨_, by rw [Array.getElem?_setIfInBounds_self_of_lt this]⟩
        · obtain ⟨z', hz'⟩ := HU.out j hj
          exact ⟨z', by rw [Array.getElem?_setIfInBounds_ne e]; exact hz'⟩
      case measure => simp [intOf]; omega
    · obtain rfl : k = c := by omega
      go_wp2
      go_end0
      exact ⟨rfl, ho⟩
end Go.Proofs.Ytfeoihnjfngmpaa
