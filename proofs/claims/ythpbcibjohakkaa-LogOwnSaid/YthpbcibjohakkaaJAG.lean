import Derived.Test.YthpbcibjohakkaaDWrite
/- The call of Read. -/
namespace Go.Proofs.Ythpbcibjohakkaa
set_option maxRecDepth 100000
open Go.RowKit

/-- The bytes of the last pending write of a block. -/
def lastW (l : List Wr) (n : Nat) : Option (List Int) := (l.reverse.find? fun x => x.p == n).map (·.b)
def readB (S : St) (n : Int) : List Int × Int :=
  if S.off then ([], 22) else if ¬ (0 ≤ n ∧ n < (S.last.length : Int)) then ([], 20) else
    match lastW S.pend n.toNat with
    | some zs => (zs, 0)
    | none => match S.last[n.toNat]? with
      | some c => if c.t then ([], 23) else (c.b, 0)
      | none => ([], 20)
theorem lastW_none {l : List Wr} {n : Nat} (h : ∀ x ∈ l, x.p ≠ n) : lastW l n = none := by
  unfold lastW
  rw [List.find?_eq_none.2 (fun x hx => by simpa using h x (List.mem_reverse.1 hx))]
  rfl
theorem lastW_some {l : List Wr} {n j : Nat} {x : Wr} (hj : l[j]? = some x) (hx : x.p = n) (hl : ∀ (i : Nat) (y : Wr), j < i → l[i]? = some y → y.p ≠ n) : lastW l n = some x.b := by
  have hlt : j < l.length := (List.getElem?_eq_some_iff.1 hj).1
  have hsplit : l = l.take j ++ x :: l.drop (j + 1) := by
    have h1 : l[j] = x := (List.getElem?_eq_some_iff.1 hj).2
    rw [← h1, List.getElem_cons_drop, List.take_append_drop]
  have hn : (l.drop (j + 1)).reverse.find? (fun x => x.p == n) = none := List.find?_eq_none.2 fun y hy => by
    obtain ⟨i, hi⟩ := List.getElem?_of_mem (List.mem_reverse.1 hy)
    rw [List.getElem?_drop] at hi
    simpa using hl _ y (by omega) hi
  unfold lastW
  have e : l.reverse = (l.drop (j + 1)).reverse ++ x :: (l.take j).reverse := by
    conv => lhs; rw [hsplit]
    simp
  rw [e, List.find?_append, hn]
  simp [List.find?_cons, hx]

/-- A block of bytes that a call made. -/
def ByteBlk (w : World) (g : Nat) (t : TypeId) (zs : List Int) : Prop := w.heap[g]? = some (.cells (bc zs).toArray t (0, 0))
/-- What Read leaves. -/
def ReadIs (w : World) (r : List Int × Int) (e : Ending) (w' : World) : Prop :=
  (r.2 ≠ 0 ∧ r.1 = [] ∧ e = .returned (.tuple #[.slice none 0 0, .int .i64 r.2]) ∧ w = w') ∨
  (r.2 = 0 ∧ B64 r.1 ∧ e = .returned (.tuple #[.slice (some ⟨w.heap.size, 0, none⟩) 64 64, .int .i64 0]) ∧ w' = w.alloc (.cells (bc r.1).toArray 70))

set_option maxHeartbeats 1000000 in
theorem dread {F : Nat → Prop} {w : World} {d : Nat} {S : St} (h : PD F w d S) (n : Int) (hm : S.pend.length < 2199023255552) :
    Calls Try.prog 62 #[.pointer (some ⟨d, 0, none⟩), .int .i64 n] w (ReadIs w (readB S n)) := by
  obtain ⟨nw, vl, vp, vn, h, hn⟩ := h
  have r := drefuses h n
  unfold readB
  cases ho : S.off with
  | true =>
    rw [ho] at r
    simp only [if_true] at r ⊢
    clear h hn
    go_enter Try.func62, Try.ntmps62
    go_wp2_with (go_at_call 66; refine r.mono ?_; rintro e w' ⟨rfl, rfl⟩)
    go_ret2
    exact .inl ⟨by decide, rfl, rfl, rfl⟩
  | false =>
    rw [ho] at r
    simp only [Bool.false_eq_true, if_false] at r ⊢
    by_cases hp : 0 ≤ n ∧ n < (S.last.length : Int)
    · rw [if_pos hp] at r
      rw [if_neg (not_not_intro hp)]
      obtain ⟨k, rfl⟩ := Int.eq_ofNat_of_zero_le hp.1
      have hk : k < S.last.length := by omega
      rw [Int.toNat_natCast]
      obtain ⟨c, hc⟩ : ∃ c, S.last[k]? = some c := ⟨_, List.getElem?_eq_getElem hk⟩
      have hcb := h.wf.lb c (List.mem_of_getElem? hc)
      obtain ⟨gn, cn, rfl, -, -⟩ := h.nform
      obtain ⟨gl, cl, rfl, -, -⟩ := h.lform
      have c2 := h.c2
      have c0 := h.c0
      have cnk := h.newAt hk
      have hki := hp.2
      rcases hn k hk with ⟨h0, hno⟩ | ⟨j, x, hj, hx, hxp, hlast⟩
      · rw [h0] at cnk
        rw [lastW_none hno, hc]
        have hR := h.lastAt hc
        have ct : w.cell? ⟨gl, k * 65 + 64, none⟩ = some (.bool c.t) := hR 64 _ (by simp [Cn.cells, List.getElem?_append_right, bc_len, hcb.len])
        have hrb : w.rangeAt gl (k * 65) (bc c.b) := fun i v hv => hR i v (by
          unfold Cn.cells
          rw [List.getElem?_append_left (List.getElem?_eq_some_iff.1 hv).1]; exact hv)
        have HR := Lib.hid hrb
        have HI := Lib.hid (show (Try.prog.info? 70).map (·.size) = some (bc c.b).length by rw [bc_len, hcb.len]; rfl)
        cases htc : c.t with
        | true =>
          rw [htc] at ct
          simp only [htc, if_true]
          clear h hn hR hrb hc hno
          go_enter Try.func62, Try.ntmps62
          go_wp2_with (go_at_call 66; refine r.mono ?_; rintro e w' ⟨rfl, rfl⟩)
          go_ret2
          exact .inl ⟨by decide, rfl, rfl, rfl⟩
        | false =>
          rw [htc] at ct
          simp only [htc, Bool.false_eq_true, if_false]
          clear h hn hR hrb hc hno
          go_enter Try.func62, Try.ntmps62
          go_wp2_with (first
            | (go_at_call 66; refine r.mono ?_; rintro e w' ⟨rfl, rfl⟩)
            | (with_reducible refine wpList_load_mid rfl 70 (.tmp 47) rfl gl (k * 65) rfl (bc c.b) _ HR.out Try.underlying70 rfl HI.out ?_)
            | (go_at_call 72; refine (dlist (bc c.b) w (by rw [bc_len, hcb.len])).mono ?_; rintro e w' ⟨rfl, rfl⟩))
          go_ret2
          exact .inr ⟨rfl, hcb, rfl, rfl⟩
      · rw [hj] at cnk
        rw [lastW_some hx hxp hlast]
        have hxb := h.wf.pb x (List.mem_of_getElem? hx)
        have hjl : j < S.pend.length := (List.getElem?_eq_some_iff.1 hx).1
        rcases h.pform with ⟨e0, -⟩ | ⟨gp, cp, rfl, -, -, -⟩
        · rw [e0] at hjl; simp at hjl
        have c1 := h.c1
        have hR := h.pendAt hx
        have hrb : w.rangeAt gp (j * 65 + 1) (bc x.b) := fun i v hv => by
          have := hR (i + 1) v (by simpa [Wr.cells] using hv)
          rw [show j * 65 + 1 + i = j * 65 + (i + 1) by omega]; exact this
        have HR := Lib.hid hrb
        have HI := Lib.hid (show (Try.prog.info? 70).map (·.size) = some (bc x.b).length by rw [bc_len, hxb.len]; rfl)
        have hj1 : (0 : Int) < (j : Int) + 1 := by omega
        have hj2 : (j : Int) < (S.pend.length : Int) := by omega
        clear h hn hR hrb hx hlast hj hc
        go_enter Try.func62, Try.ntmps62
        go_wp2_with (first
          | (go_at_call 66; refine r.mono ?_; rintro e w' ⟨rfl, rfl⟩)
          | (with_reducible refine wpList_load_mid rfl 70 (.tmp 30) rfl gp (j * 65 + 1) rfl (bc x.b) _ HR.out Try.underlying70 rfl HI.out ?_)
          | (go_at_call 72; refine (dlist (bc x.b) w (by rw [bc_len, hxb.len])).mono ?_; rintro e w' ⟨rfl, rfl⟩))
        go_ret2
        exact .inr ⟨rfl, hxb, rfl, rfl⟩
    · rw [if_neg hp] at r
      rw [if_pos hp]
      clear h hn hp
      go_enter Try.func62, Try.ntmps62
      go_wp2_with (go_at_call 66; refine r.mono ?_; rintro e w' ⟨rfl, rfl⟩)
      go_ret2
      exact .inl ⟨by decide, rfl, rfl, rfl⟩
end Go.Proofs.Ythpbcibjohakkaa

/- The call of New. -/
namespace Go.Proofs.Ythpbcibjohakkaa
set_option maxRecDepth 100000
open Go.RowKit

theorem made_flat {α : Type} (f : α → List Value) (x : α) (s : Nat) (hs : (f x).length = s) (h0 : 0 < s) (z : Array Value) (hz : z = (f x).toArray) (n : Nat) : madeCells z (n * s) = ((List.replicate n x).flatMap f).toArray := by
  have hx : ∀ y ∈ List.replicate n x, (f y).length = s := fun y hy => by rw [List.eq_of_mem_replicate hy]; exact hs
  have hsz : z.size = s := by rw [hz]; simpa using hs
  have hfl : ((List.replicate n x).flatMap f).length = n * s := by rw [flat_len' _ hx]; simp
  apply Array.ext_getElem?
  intro j
  rw [List.getElem?_toArray (xs := (List.replicate n x).flatMap f)]
  by_cases hj : j < n * s
  · have e : j = (j / s) * s + j % s := by rw [Nat.mul_comm]; exact (Nat.div_add_mod j s).symm
    have hm := Nat.mod_lt j h0
    have hq : j / s < n := Nat.div_lt_of_lt_mul (by rw [Nat.mul_comm]; exact hj)
    have h1 : ((List.replicate n x).flatMap f)[j]? = (f x)[j % s]? := by
      conv => lhs; rw [e]
      rw [flat_get _ hx _ _ hm, List.getElem?_replicate, if_pos hq]; rfl
    rw [h1]
    have hlt : j < (madeCells z (n * s)).size := by rw [size_madeCells]; exact hj
    rw [Array.getElem?_eq_getElem hlt]
    have hzj : j % s < z.size := by omega
    simp only [madeCells, Array.getElem_map, Array.getElem_range, hsz]
    rw [getElem!_pos z (j % s) hzj]
    subst hz
    rw [List.getElem?_eq_getElem (by rw [hs]; exact hm)]
    simp
  · rw [Array.getElem?_eq_none (xs := madeCells z (n * s)) (by rw [size_madeCells]; omega), List.getElem?_eq_none (by omega)]

def newL (n : Nat) : List Cn := List.replicate n ⟨zero64, false⟩
def newS (n : Nat) : St := ⟨newL n, [], false, -1, 0, 0⟩

theorem run_make80 (w : World) (n : Nat) (h : n ≤ 16384) : (Instr.makeSlice 63 (.int .i64 (n : Int)) (.int .i64 (n : Int))).run Try.prog w = .ok (.slice (some ⟨w.heap.size, 0, none⟩) n n) (w.alloc (.cells ((newL n).flatMap Cn.cells).toArray 72)) := by
  obtain ⟨i0, hi, hz0, hz1, hz2⟩ := info_parts info80
  have h1 := run_make (P := Try.prog) w 63 72 i0 (.agg z80) Try.underlying63 hi hz0 .i64 .i64 n n (by omega) (by omega) (by rw [hz2]; omega) (by omega)
  rw [hz1] at h1
  simp only [Int.toNat_natCast] at h1
  rw [h1]
  congr 3
  exact made_flat Cn.cells ⟨zero64, false⟩ 65 (Cn.len b64_zero) (by omega) z80 rfl n
theorem info_int : (Try.prog.info? 3).map (fun i => (i.zero, i.size, i.bytes)) = some (some (.int .i64 0), 1, 8) := by kernel_rfl
theorem run_make3 (w : World) (n : Nat) (h : n ≤ 16384) : (Instr.makeSlice 34 (.int .i64 (n : Int)) (.int .i64 (n : Int))).run Try.prog w = .ok (.slice (some ⟨w.heap.size, 0, none⟩) n n) (w.alloc (.cells (Array.replicate n (Value.int .i64 0)) 3)) := by
  obtain ⟨i0, hi, hz0, hz1, hz2⟩ := info_parts info_int
  have h1 := run_make (P := Try.prog) w 34 3 i0 (.int .i64 0) Try.underlying34 hi hz0 .i64 .i64 n n (by omega) (by omega) (by rw [hz2]; omega) (by omega)
  rw [hz1, Nat.mul_one] at h1
  simp only [Int.toNat_natCast] at h1
  rw [h1]
  congr 3
  apply Array.ext'
  exact (toList_madeCells_one _ _).trans (by simp)

/-- What New leaves. -/
def NewIs (w : World) (n : Int) (e : Ending) (w' : World) : Prop :=
  (¬ (1 ≤ n ∧ n ≤ 16384) ∧ e = .returned (.tuple #[.pointer none, .int .i64 1]) ∧ w = w') ∨
  ((1 ≤ n ∧ n ≤ 16384) ∧ ∃ d, e = .returned (.tuple #[.pointer (some ⟨d, 0, none⟩), .int .i64 0]) ∧ PD (fun k => w.heap.size ≤ k) w' d (newS n.toNat) ∧ Below w.heap.size w w')

theorem new_lies (w : World) (n : Nat) (h1 : 1 ≤ n) (h2 : n ≤ 16384) (W : World) (gl gn d : Nat) (hl : w.heap.size ≤ gl) (hn : w.heap.size ≤ gn) (hd : w.heap.size ≤ d) (e1 : gl ≠ gn) (e2 : gl ≠ d) (e3 : gn ≠ d)
    (b1 : W.heap[gl]? = some (.cells ((newL n).flatMap Cn.cells).toArray 72 (0, 0))) (b2 : W.heap[gn]? = some (.cells (Array.replicate n (Value.int .i64 0)) 3 (0, 0)))
    (b3 : W.heap[d]? = some (.cells #[.slice (some ⟨gl, 0, none⟩) n n, .slice none 0 0, .slice (some ⟨gn, 0, none⟩) n n, .bool false, .int .i64 (-1), .int .i64 0, .int .i64 0] 66 (0, 0))) :
    PD (fun k => w.heap.size ≤ k) W d (newS n) := by
  have hL : (newL n).length = n := by simp [newL]
  have hc : ∀ c ∈ newL n, B64 c.b := fun c hc => by rw [List.eq_of_mem_replicate hc]; exact b64_zero
  have hfl : ((newL n).flatMap Cn.cells).length = n * 65 := by rw [flat_len' _ (fun c h => Cn.len (hc c h)), hL]
  refine ⟨List.replicate n 0, .slice (some ⟨gl, 0, none⟩) n n, .slice none 0 0, .slice (some ⟨gn, 0, none⟩) n n,
    ⟨⟨by simp [newS, hL]; omega, by simp [newS, hL]; omega, hc, by simp [newS], by simp [newS], by simp [newS]⟩, b3, ?_, World.ownsRow_nil _ _ _ _, ?_, fun _ => rfl, hd, fun k e => ?_, fun k e => by simp [Value.ownBlock] at e, fun k e => ?_⟩, fun k hk => .inl ⟨?_, by simp [newS]⟩⟩
  · show W.ownsRow 0 _ 65 _ (newL n).length ((newL n).flatMap Cn.cells)
    rw [hL]
    exact ⟨hfl, .inr ⟨gl, n, _, rfl, Nat.zero_le _, b1, Nat.le_refl _, by simp only [maxLen]; omega, by simpa using hfl, by rw [List.take_of_length_le (by simp [hfl])]⟩⟩
  · show W.ownsRow 0 _ 1 _ (newL n).length _
    rw [hL]
    exact ⟨by simp, .inr ⟨gn, n, _, rfl, Nat.zero_le _, b2, Nat.le_refl _, by simp only [maxLen]; omega, by simp, by simp⟩⟩
  · have ek : gl = k := by simpa [Value.ownBlock] using e
    subst ek; exact ⟨hl, e2⟩
  · have ek : gn = k := by simpa [Value.ownBlock] using e
    subst ek; exact ⟨hn, e3, by simp [Value.ownBlock]; omega, by simp [Value.ownBlock]⟩
  · simp only [List.getD_eq_getElem?_getD, List.getElem?_replicate]; split <;> rfl

theorem heap_alloc3 (w : World) (A B C : Obj) : (((w.alloc A).alloc B).alloc C).heap[w.heap.size]? = some A ∧ (((w.alloc A).alloc B).alloc C).heap[w.heap.size + 1]? = some B ∧ (((w.alloc A).alloc B).alloc C).heap[w.heap.size + 2]? = some C := by
  refine ⟨?_, ?_, ?_⟩
  · rw [Below.heap_alloc _ _ _ (by simp; omega)]; exact heap_alloc2_old _ _ _
  · rw [Below.heap_alloc _ _ _ (by simp)]; exact heap_alloc2_new _ _ _
  · have := heap_alloc_new ((w.alloc A).alloc B) C
    simpa using this
theorem below_alloc3 (w : World) (A B C : Obj) : Below w.heap.size w (((w.alloc A).alloc B).alloc C).drew :=
  ((((Below.refl _ _).alloc (Nat.le_refl _) A).alloc (by simp) B).alloc (by simp; omega) C).drew

theorem dnew (w : World) (n : Int) (hr : -9223372036854775808 ≤ n ∧ n ≤ 9223372036854775807) : Calls Try.prog 24 #[.int .i64 n] w (NewIs w n) := by
  by_cases h1 : 1 ≤ n
  · by_cases h2 : n ≤ 16384
    · obtain ⟨k, rfl⟩ := Int.eq_ofNat_of_zero_le (show 0 ≤ n by omega)
      have m1 := fun w => run_make80 w k (by omega)
      have m2 := fun w => run_make3 w k (by omega)
      go_enter Try.func24, Try.ntmps24
      go_wp2
      go_region
      · go_wp2
        go_ret2
        obtain ⟨q1, q2, q3⟩ := heap_alloc3 w (.cells ((newL k).flatMap Cn.cells).toArray 72) (.cells (Array.replicate k (Value.int .i64 0)) 3) (.cells #[.slice (some ⟨w.heap.size, 0, none⟩) k k, .slice none 0 0, .slice (some ⟨w.heap.size + 1, 0, none⟩) k k, .bool false, .int .i64 (-1), .int .i64 0, .int .i64 0] 66)
        exact .inr ⟨⟨h1, h2⟩, _, rfl, new_lies w k (by omega) (by omega) _ w.heap.size (w.heap.size + 1) (w.heap.size + 2) (by omega) (by omega) (by omega) (by omega) (by omega) (by omega) q1 q2 q3, below_alloc3 _ _ _ _⟩
      · go_wp2
        go_ret2
        obtain ⟨q1, q2, q3⟩ := heap_alloc3 w (.cells (Array.replicate k (Value.int .i64 0)) 3) (.cells ((newL k).flatMap Cn.cells).toArray 72) (.cells #[.slice (some ⟨w.heap.size + 1, 0, none⟩) k k, .slice none 0 0, .slice (some ⟨w.heap.size, 0, none⟩) k k, .bool false, .int .i64 (-1), .int .i64 0, .int .i64 0] 66)
        exact .inr ⟨⟨h1, h2⟩, _, rfl, new_lies w k (by omega) (by omega) _ (w.heap.size + 1) w.heap.size (w.heap.size + 2) (by omega) (by omega) (by omega) (by omega) (by omega) (by omega) q2 q1 q3, below_alloc3 _ _ _ _⟩
    · have h3 : ¬ (1 ≤ n ∧ n ≤ 16384) := by omega
      go_enter Try.func24, Try.ntmps24
      go_wp2
      go_ret2
      exact .inl ⟨h3, rfl, rfl⟩
  · have h3 : ¬ (1 ≤ n ∧ n ≤ 16384) := by omega
    go_enter Try.func24, Try.ntmps24
    go_wp2
    go_ret2
    exact .inl ⟨h3, rfl, rfl⟩
end Go.Proofs.Ythpbcibjohakkaa

/- A disk that no call made; and begun. -/
namespace Go.Proofs.Ythpbcibjohakkaa
set_option maxRecDepth 100000
open Go.RowKit

/-- No call made it: nil, or all zero. -/
def Un (w : World) (p : Value) : Prop := p = .pointer none ∨ ∃ d, p = .pointer (some ⟨d, 0, none⟩) ∧ w.cell? ⟨d, 0, none⟩ = some (.slice none 0 0)
section
variable {w : World} {p : Value}
theorem umade (h : Un w p) : Calls Try.prog 31 #[p] w fun e w' => e = .returned (.bool false) ∧ w = w' := by
  rcases h with rfl | ⟨d, rfl, hc⟩
  · go_enter Try.func31, Try.ntmps31
    go_wp2
    go_ret
    exact ⟨rfl, rfl⟩
  · go_enter Try.func31, Try.ntmps31
    go_wp2
    go_ret
    exact ⟨rfl, rfl⟩
theorem urefusesAll (h : Un w p) : Calls Try.prog 48 #[p] w fun e w' => e = .returned (.int .i64 2) ∧ w = w' := by
  have m := umade h
  clear h
  go_enter Try.func48, Try.ntmps48
  go_wp2_with (go_at_call 31; refine m.mono ?_; rintro e w' ⟨rfl, rfl⟩)
  go_ret
  exact ⟨rfl, rfl⟩
theorem urefuses (h : Un w p) (n : Int) : Calls Try.prog 66 #[p, .int .i64 n] w fun e w' => e = .returned (.int .i64 2) ∧ w = w' := by
  have m := urefusesAll h
  clear h
  go_enter Try.func66, Try.ntmps66
  go_wp2_with (go_at_call 48; refine m.mono ?_; rintro e w' ⟨rfl, rfl⟩)
  go_ret
  exact ⟨rfl, rfl⟩
theorem uread (h : Un w p) (n : Int) : Calls Try.prog 62 #[p, .int .i64 n] w fun e w' => e = .returned (.tuple #[.slice none 0 0, .int .i64 2]) ∧ w = w' := by
  have m := urefuses h n
  clear h
  go_enter Try.func62, Try.ntmps62
  go_wp2_with (go_at_call 66; refine m.mono ?_; rintro e w' ⟨rfl, rfl⟩)
  go_ret2
  exact ⟨rfl, rfl⟩
theorem uwrite (h : Un w p) (n : Int) (v : Value) : Calls Try.prog 52 #[p, .int .i64 n, v] w fun e w' => e = .returned (.int .i64 2) ∧ w = w' := by
  have m := urefuses h n
  clear h
  go_enter Try.func52, Try.ntmps52
  go_wp2_with (go_at_call 66; refine m.mono ?_; rintro e w' ⟨rfl, rfl⟩)
  go_ret
  exact ⟨rfl, rfl⟩
theorem usync (h : Un w p) : Calls Try.prog 54 #[p] w fun e w' => e = .returned (.int .i64 2) ∧ w = w' := by
  have m := urefusesAll h
  clear h
  go_enter Try.func54, Try.ntmps54
  go_wp2_with (go_at_call 48; refine m.mono ?_; rintro e w' ⟨rfl, rfl⟩)
  go_ret
  exact ⟨rfl, rfl⟩
theorem uplan (h : Un w p) (n : Int) : Calls Try.prog 29 #[p, .int .i64 n] w fun e w' => e = .returned (.int .i64 2) ∧ w = w' := by
  have m := urefusesAll h
  clear h
  go_enter Try.func29, Try.ntmps29
  go_wp2_with (go_at_call 48; refine m.mono ?_; rintro e w' ⟨rfl, rfl⟩)
  go_ret
  exact ⟨rfl, rfl⟩
theorem ucrash (h : Un w p) (v : Value) : Calls Try.prog 22 #[p, v] w fun e w' => e = .returned (.int .i64 2) ∧ w = w' := by
  have m := umade h
  clear h
  go_enter Try.func22, Try.ntmps22
  go_wp2_with (go_at_call 31; refine m.mono ?_; rintro e w' ⟨rfl, rfl⟩)
  go_ret
  exact ⟨rfl, rfl⟩
theorem uoff (h : Un w p) : Calls Try.prog 30 #[p] w fun e w' => e = .returned (.bool false) ∧ w = w' := by
  have m := umade h
  clear h
  go_enter Try.func30, Try.ntmps30
  go_wp2_with (go_at_call 31; refine m.mono ?_; rintro e w' ⟨rfl, rfl⟩)
  go_ret
  exact ⟨rfl, rfl⟩
theorem ublocks (h : Un w p) : Calls Try.prog 17 #[p] w fun e w' => e = .returned (.int .i64 0) ∧ w = w' := by
  have m := umade h
  clear h
  go_enter Try.func17, Try.ntmps17
  go_wp2_with (go_at_call 31; refine m.mono ?_; rintro e w' ⟨rfl, rfl⟩)
  go_ret
  exact ⟨rfl, rfl⟩
theorem ucounts (h : Un w p) : Calls Try.prog 12 #[p] w fun e w' => e = .returned (.tuple #[.int .i64 0, .int .i64 0]) ∧ w = w' := by
  have m := umade h
  clear h
  go_enter Try.func12, Try.ntmps12
  go_wp2_with (go_at_call 31; refine m.mono ?_; rintro e w' ⟨rfl, rfl⟩)
  go_ret2
  exact ⟨rfl, rfl⟩
end

section
variable {F : Nat → Prop} {w w' : World} {d : Nat} {S : St}
theorem PD.stays (h : PD F w d S) (hk : ∀ k, k < w.heap.size → F k → w'.heap[k]? = w.heap[k]?) : PD F w' d S := by
  obtain ⟨nw, vl, vp, vn, h, hn⟩ := h
  exact ⟨nw, vl, vp, vn, h.stays hk, hn⟩
theorem PD.mono {F' : Nat → Prop} (h : PD F w d S) (hF : ∀ k, k < w.heap.size → F k → F' k) : PD F' w d S := by
  obtain ⟨nw, vl, vp, vn, h, hn⟩ := h
  exact ⟨nw, vl, vp, vn, h.mono hF, hn⟩
theorem PD.below (h : PD F w d S) (hb : Below w.heap.size w w') : PD F w' d S := h.stays fun k hk _ => hb.block k hk
theorem PD.alloc (h : PD F w d S) (o : Obj) : PD F (w.alloc o) d S := h.stays fun k hk _ => Below.heap_alloc _ _ _ hk
theorem PD.drew (h : PD F w d S) : PD F w.drew d S := h.stays fun _ _ _ => rfl
theorem PD.out {G : Nat → Prop} (h : PD F w d S) (ho : Out G w w') (hd : ∀ k, k < w.heap.size → F k → ¬ G k) : PD F w' d S := h.stays fun k hk hf => ho.block k hk (hd k hk hf)
theorem PD.shut (h : PD F w d S) : PD (fun k => F k ∧ k < w.heap.size) w d S := h.mono fun k hk hf => ⟨hf, hk⟩
theorem far_new {F : Nat → Prop} {B b m : Nat} (hb : B ≤ b) : Far (fun k => F k ∧ k < B) (some ⟨b, 0, none⟩) m := by
  intro ad e _ hh
  cases e
  exact Nat.lt_irrefl _ (Nat.lt_of_lt_of_le hh.2 hb)
theorem PD.wf (h : PD F w d S) : Wf S := by obtain ⟨_, _, _, _, h, _⟩ := h; exact h.wf
theorem pblocks (h : PD F w d S) : Calls Try.prog 17 #[.pointer (some ⟨d, 0, none⟩)] w fun e w' => e = .returned (.int .i64 (S.last.length : Int)) ∧ w = w' := by
  obtain ⟨_, _, _, _, h, _⟩ := h
  exact dblocks h
theorem poff (h : PD F w d S) : Calls Try.prog 30 #[.pointer (some ⟨d, 0, none⟩)] w fun e w' => e = .returned (.bool S.off) ∧ w = w' := by
  obtain ⟨_, _, _, _, h, _⟩ := h
  exact doff h
theorem pcounts (h : PD F w d S) : Calls Try.prog 12 #[.pointer (some ⟨d, 0, none⟩)] w fun e w' => e = .returned (.tuple #[.int .i64 S.writes, .int .i64 S.syncs]) ∧ w' = w.drew := by
  obtain ⟨_, _, _, _, h, _⟩ := h
  exact dcounts h
def planS (S : St) (n : Int) : St := if S.off then S else { S with plan := max n (-1) }
theorem pplan (h : PD F w d S) (n : Int) (hn : -9223372036854775808 ≤ n ∧ n ≤ 9223372036854775807) : Calls Try.prog 29 #[.pointer (some ⟨d, 0, none⟩), .int .i64 n] w (Codes F w d (planS S n) (if S.off then 22 else 0)) := by
  obtain ⟨_, _, _, _, h, hnw⟩ := h
  refine (dplan h n hn).mono ?_
  rintro e w' ⟨rfl, h1, o1⟩
  refine codes (by unfold planS; exact h1) ?_ o1
  unfold planS
  split
  · exact hnw
  · exact nwok_same hnw rfl rfl
end

theorem rb_zeros (w : World) (n : Nat) (h : n ≤ 281474976710656) : RB (w.alloc (.cells (madeCells #[.int .u8 0] n) 5)) (some ⟨w.heap.size, 0, none⟩) n (List.replicate n 0) := by
  have := (row_made w n).rb (fun z hz => by have := List.eq_of_mem_replicate hz; omega)
  simpa using this

end Go.Proofs.Ythpbcibjohakkaa
