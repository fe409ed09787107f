/- Layer 8: the reference's New, Less, Within. -/
import Derived.Test.YtghnafknbgmagaaLkOwn
import Derived.WalkLawsBesides
namespace Go.Proofs.Ytghnafknbgmagaa
set_option maxRecDepth 100000
set_option maxRecDepth 100000
open Go.RowKit

/-- The order of texts. -/
def klB (a b : ByteArray) : Bool := Op.bytesLess a.toList b.toList
/-- The order of locks. -/
def lessB (a b : Lk) : Bool := klB a.1 b.1 || (a.1.toList == b.1.toList && klB a.2 b.2)
/-- Is a key in a range? -/
def withinB (key lo hi : ByteArray) : Bool := !klB key lo && (hi.toList == [] || klB key hi)

/-- What New answers. -/
def newP (most : Int) : Value := if most < 1 ∨ 4096 < most then .tuple #[.agg #[.bool false, .int .i64 0, .slice none 0 0], .int .i64 1] else .tuple #[.agg #[.bool true, .int .i64 most, .slice none 0 0], .int .i64 0]
set_option maxHeartbeats 1000000 in
theorem wrNew (w : World) (most : Int) :
    Calls Try.prog 9 #[.int .i64 most] w fun e w' => e = .returned (newP most) ∧ Below w.heap.size w w' := by
  by_cases i1 : most < 1
  · have HE := Lib.hid (show newP most = _ from if_pos (.inl i1))
    go_enter Try.func9, Try.ntmps9
    go_wp2
    refine bodyPost_ret (v := .tuple #[.agg #[.bool false, .int .i64 0, .slice none 0 0], .int .i64 1]) (by simp [results, Try.results9, go_sem]) rfl ⟨by rw [HE.out], ?_⟩
    exact (Below.refl _ _).alloc (Nat.le_refl _) _
  · by_cases i2 : 4096 < most
    · have HE := Lib.hid (show newP most = _ from if_pos (.inr i2))
      go_enter Try.func9, Try.ntmps9
      go_wp2
      refine bodyPost_ret (v := .tuple #[.agg #[.bool false, .int .i64 0, .slice none 0 0], .int .i64 1]) (by simp [results, Try.results9, go_sem]) rfl ⟨by rw [HE.out], ?_⟩
      exact (Below.refl _ _).alloc (Nat.le_refl _) _
    · have HE := Lib.hid (show newP most = _ from if_neg (by omega))
      go_enter Try.func9, Try.ntmps9
      go_wp2
      refine bodyPost_ret (v := .tuple #[.agg #[.bool true, .int .i64 most, .slice none 0 0], .int .i64 0]) (by simp [results, Try.results9, go_sem]) rfl ⟨by rw [HE.out], ?_⟩
      exact (Below.refl _ _).alloc (Nat.le_refl _) _

set_option maxHeartbeats 1000000 in
theorem wrWithin (w : World) (key lo hi : ByteArray) :
    Calls Try.prog 37 #[.string key, .string lo, .string hi] w fun e w' => e = .returned (.bool (withinB key lo hi)) ∧ w' = w := by
  cases h1 : klB key lo <;> cases h2 : (hi.toList == []) <;> cases h3 : klB key hi
  all_goals
    have HE := Lib.hid (show withinB key lo hi = _ by unfold withinB; rw [h1, h2, h3])
    unfold klB at h1 h3
    go_enter Try.func37, Try.ntmps37
    go_wp2
    go_ret
    exact ⟨by rw [HE.out] <;> rfl, rfl⟩

set_option maxHeartbeats 2000000 in
theorem wrLess (w : World) (a b : Lk) :
    Calls Try.prog 33 #[lkV a, lkV b] w fun e w' => e = .returned (.bool (lessB a b)) ∧ Below w.heap.size w w' := by
  have HB := Lib.hid (show Below w.heap.size w ((w.alloc (.cells #[.string a.1, .string a.2] 34)).alloc (.cells #[.string b.1, .string b.2] 34)) from ((Below.refl _ _).alloc (Nat.le_refl _) _).alloc (by simp) _)
  unfold lkV
  cases h1 : klB a.1 b.1 <;> cases h2 : (a.1.toList == b.1.toList) <;> cases h3 : klB a.2 b.2
  all_goals
    have HE := Lib.hid (show lessB a b = _ by unfold lessB; rw [h1, h2, h3])
    unfold klB at h1 h3
    go_enter Try.func33, Try.ntmps33
    go_wp2
    go_ret
    exact ⟨by rw [HE.out] <;> rfl, HB.out⟩
end Go.Proofs.Ytghnafknbgmagaa
