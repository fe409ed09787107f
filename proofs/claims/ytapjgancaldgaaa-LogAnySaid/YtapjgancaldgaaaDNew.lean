/- The call of New. -/
import Derived.Test.YtapjgancaldgaaaDRead
namespace Go.Proofs.Ytapjgancaldgaaa
set_option maxRecDepth 100000
open Go.RowKit

theorem made_flat {α : Type} (f : α → List Value) (x : α) (s : Nat) (hs : (f x).length = s) (h0 : 0 < s) (z : Array Value) (hz : z = (f x).toArray) (n : Nat) : madeCells z (n * s) = ((List.replicate n x).flatMap f).toArray := by
  have hx : ∀ y ∈ List.replicate n x, (f y).length = s := fun y hy => by rw [List.eq_of_mem_replicate hy]; exact hs
  have hsz : z.size = s := by rw [hz]; simpa using hs
  have hfl : ((List.replicate n x).flatMap f).length = n * s := by rw [flat_len' _ hx]; simp
  apply Array.ext_getElem?
  intro j
  rw [List.getElem?_toArray (xs := (List.replicate n x).flatMap f)]
  by_cases hj : j < n * s
  · have e : j = (j / s) * s + j % s := by rw [Nat.mul_comm]; exact (Nat.div_add_mod j s).symm
    have hm := Nat.mod_lt j h0
    have hq : j / s < n := Nat.div_lt_of_lt_mul (by rw [Nat.mul_comm]; exact hj)
    have h1 : ((List.replicate n x).flatMap f)[j]? = (f x)[j % s]? := by
      conv => lhs; rw [e]
      rw [flat_get _ hx _ _ hm, List.getElem?_replicate, if_pos hq]; rfl
    rw [h1]
    have hlt : j < (madeCells z (n * s)).size := by rw [size_madeCells]; exact hj
    rw [Array.getElem?_eq_getElem hlt]
    have hzj : j % s < z.size := by omega
    simp only [madeCells, Array.getElem_map, Array.getElem_range, hsz]
    rw [getElem!_pos z (j % s) hzj]
    subst hz
    rw [List.getElem?_eq_getElem (by rw [hs]; exact hm)]
    simp
  · rw [Array.getElem?_eq_none (xs := madeCells z (n * s)) (by rw [size_madeCells]; omega), List.getElem?_eq_none (by omega)]

def newL (n : Nat) : List Cn := List.replicate n ⟨zero64, false⟩
def newS (n : Nat) : St := ⟨newL n, [], false, -1, 0, 0⟩

theorem run_make80 (w : World) (n : Nat) (h : n ≤ 16384) : (Instr.makeSlice 89 (.int .i64 (n : Int)) (.int .i64 (n : Int))).run Try.prog w = .ok (.slice (some ⟨w.heap.size, 0, none⟩) n n) (w.alloc (.cells ((newL n).flatMap Cn.cells).toArray 97)) := by
  obtain ⟨i0, hi, hz0, hz1, hz2⟩ := info_parts info80
  have h1 := run_make (P := Try.prog) w 89 97 i0 (.agg z80) Try.underlying89 hi hz0 .i64 .i64 n n (by omega) (by omega) (by rw [hz2]; omega) (by omega)
  rw [hz1] at h1
  simp only [Int.toNat_natCast] at h1
  rw [h1]
  congr 3
  exact made_flat Cn.cells ⟨zero64, false⟩ 65 (Cn.len b64_zero) (by omega) z80 rfl n
theorem info_int : (Try.prog.info? 3).map (fun i => (i.zero, i.size, i.bytes)) = some (some (.int .i64 0), 1, 8) := by kernel_rfl
theorem run_make3 (w : World) (n : Nat) (h : n ≤ 16384) : (Instr.makeSlice 35 (.int .i64 (n : Int)) (.int .i64 (n : Int))).run Try.prog w = .ok (.slice (some ⟨w.heap.size, 0, none⟩) n n) (w.alloc (.cells (Array.replicate n (Value.int .i64 0)) 3)) := by
  obtain ⟨i0, hi, hz0, hz1, hz2⟩ := info_parts info_int
  have h1 := run_make (P := Try.prog) w 35 3 i0 (.int .i64 0) Try.underlying35 hi hz0 .i64 .i64 n n (by omega) (by omega) (by rw [hz2]; omega) (by omega)
  rw [hz1, Nat.mul_one] at h1
  simp only [Int.toNat_natCast] at h1
  rw [h1]
  congr 3
  apply Array.ext'
  exact (toList_madeCells_one _ _).trans (by simp)

/-- What New leaves. -/
def NewIs (w : World) (n : Int) (e : Ending) (w' : World) : Prop :=
  (¬ (1 ≤ n ∧ n ≤ 16384) ∧ e = .returned (.tuple #[.pointer none, .int .i64 1]) ∧ w = w') ∨
  ((1 ≤ n ∧ n ≤ 16384) ∧ ∃ d, e = .returned (.tuple #[.pointer (some ⟨d, 0, none⟩), .int .i64 0]) ∧ PD (fun k => w.heap.size ≤ k) w' d (newS n.toNat) ∧ Below w.heap.size w w')

theorem new_lies (w : World) (n : Nat) (h1 : 1 ≤ n) (h2 : n ≤ 16384) (W : World) (gl gn d : Nat) (hl : w.heap.size ≤ gl) (hn : w.heap.size ≤ gn) (hd : w.heap.size ≤ d) (e1 : gl ≠ gn) (e2 : gl ≠ d) (e3 : gn ≠ d)
    (b1 : W.heap[gl]? = some (.cells ((newL n).flatMap Cn.cells).toArray 97 (0, 0))) (b2 : W.heap[gn]? = some (.cells (Array.replicate n (Value.int .i64 0)) 3 (0, 0)))
    (b3 : W.heap[d]? = some (.cells #[.slice (some ⟨gl, 0, none⟩) n n, .slice none 0 0, .slice (some ⟨gn, 0, none⟩) n n, .bool false, .int .i64 (-1), .int .i64 0, .int .i64 0] 92 (0, 0))) :
    PD (fun k => w.heap.size ≤ k) W d (newS n) := by
  have hL : (newL n).length = n := by simp [newL]
  have hc : ∀ c ∈ newL n, B64 c.b := fun c hc => by rw [List.eq_of_mem_replicate hc]; exact b64_zero
  have hfl : ((newL n).flatMap Cn.cells).length = n * 65 := by rw [flat_len' _ (fun c h => Cn.len (hc c h)), hL]
  refine ⟨List.replicate n 0, .slice (some ⟨gl, 0, none⟩) n n, .slice none 0 0, .slice (some ⟨gn, 0, none⟩) n n,
    ⟨⟨by simp [newS, hL]; omega, by simp [newS, hL]; omega, hc, by simp [newS], by simp [newS], by simp [newS]⟩, b3, ?_, World.ownsRow_nil _ _ _ _, ?_, fun _ => rfl, hd, fun k e => ?_, fun k e => by simp [Value.ownBlock] at e, fun k e => ?_⟩, fun k hk => .inl ⟨?_, by simp [newS]⟩⟩
  · show W.ownsRow 0 _ 65 _ (newL n).length ((newL n).flatMap Cn.cells)
    rw [hL]
    exact ⟨hfl, .inr ⟨gl, n, _, rfl, Nat.zero_le _, b1, Nat.le_refl _, by simp only [maxLen]; omega, by simpa using hfl, by rw [List.take_of_length_le (by simp [hfl])]⟩⟩
  · show W.ownsRow 0 _ 1 _ (newL n).length _
    rw [hL]
    exact ⟨by simp, .inr ⟨gn, n, _, rfl, Nat.zero_le _, b2, Nat.le_refl _, by simp only [maxLen]; omega, by simp, by simp⟩⟩
  · have ek : gl = k := by simpa [Value.ownBlock] using e
    subst ek; exact ⟨hl, e2⟩
  · have ek : gn = k := by simpa [Value.ownBlock] using e
    subst ek; exact ⟨hn, e3, by simp [Value.ownBlock]; omega, by simp [Value.ownBlock]⟩
  · simp only [List.getD_eq_getElem?_getD, List.getElem?_replicate]; split <;> rfl

theorem heap_alloc3 (w : World) (A B C : Obj) : (((w.alloc A).alloc B).alloc C).heap[w.heap.size]? = some A ∧ (((w.alloc A).alloc B).alloc C).heap[w.heap.size + 1]? = some B ∧ (((w.alloc A).alloc B).alloc C).heap[w.heap.size + 2]? = some C := by
  refine ⟨?_, ?_, ?_⟩
  · rw [Below.heap_alloc _ _ _ (by simp; omega)]; exact heap_alloc2_old _ _ _
  · rw [Below.heap_alloc _ _ _ (by simp)]; exact heap_alloc2_new _ _ _
  · have := heap_alloc_new ((w.alloc A).alloc B) C
    simpa using this
theorem below_alloc3 (w : World) (A B C : Obj) : Below w.heap.size w (((w.alloc A).alloc B).alloc C).drew :=
  ((((Below.refl _ _).alloc (Nat.le_refl _) A).alloc (by simp) B).alloc (by simp; omega) C).drew

theorem dnew (w : World) (n : Int) (hr : -9223372036854775808 ≤ n ∧ n ≤ 9223372036854775807) : Calls Try.prog 14 #[.int .i64 n] w (NewIs w n) := by
  by_cases h1 : 1 ≤ n
  · by_cases h2 : n ≤ 16384
    · obtain ⟨k, rfl⟩ := Int.eq_ofNat_of_zero_le (show 0 ≤ n by omega)
      have m1 := fun w => run_make80 w k (by omega)
      have m2 := fun w => run_make3 w k (by omega)
      go_enter Try.func14, Try.ntmps14
      go_wp2
      go_region
      · go_wp2
        go_ret2
        obtain ⟨q1, q2, q3⟩ := heap_alloc3 w (.cells ((newL k).flatMap Cn.cells).toArray 97) (.cells (Array.replicate k (Value.int .i64 0)) 3) (.cells #[.slice (some ⟨w.heap.size, 0, none⟩) k k, .slice none 0 0, .slice (some ⟨w.heap.size + 1, 0, none⟩) k k, .bool false, .int .i64 (-1), .int .i64 0, .int .i64 0] 92)
        exact .inr ⟨⟨h1, h2⟩, _, rfl, new_lies w k (by omega) (by omega) _ w.heap.size (w.heap.size + 1) (w.heap.size + 2) (by omega) (by omega) (by omega) (by omega) (by omega) (by omega) q1 q2 q3, below_alloc3 _ _ _ _⟩
      · go_wp2
        go_ret2
        obtain ⟨q1, q2, q3⟩ := heap_alloc3 w (.cells (Array.replicate k (Value.int .i64 0)) 3) (.cells ((newL k).flatMap Cn.cells).toArray 97) (.cells #[.slice (some ⟨w.heap.size + 1, 0, none⟩) k k, .slice none 0 0, .slice (some ⟨w.heap.size, 0, none⟩) k k, .bool false, .int .i64 (-1), .int .i64 0, .int .i64 0] 92)
        exact .inr ⟨⟨h1, h2⟩, _, rfl, new_lies w k (by omega) (by omega) _ (w.heap.size + 1) w.heap.size (w.heap.size + 2) (by omega) (by omega) (by omega) (by omega) (by omega) (by omega) q2 q1 q3, below_alloc3 _ _ _ _⟩
    · have h3 : ¬ (1 ≤ n ∧ n ≤ 16384) := by omega
      go_enter Try.func14, Try.ntmps14
      go_wp2
      go_ret2
      exact .inl ⟨h3, rfl, rfl⟩
  · have h3 : ¬ (1 ≤ n ∧ n ≤ 16384) := by omega
    go_enter Try.func14, Try.ntmps14
    go_wp2
    go_ret2
    exact .inl ⟨h3, rfl, rfl⟩
end Go.Proofs.Ytapjgancaldgaaa
