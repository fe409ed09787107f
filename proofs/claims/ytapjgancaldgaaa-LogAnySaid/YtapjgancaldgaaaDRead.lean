/- The call of Read. -/
import Derived.Test.YtapjgancaldgaaaDWrite
namespace Go.Proofs.Ytapjgancaldgaaa
set_option maxRecDepth 100000
open Go.RowKit

/-- The bytes of the last pending write of a block. -/
def lastW (l : List Wr) (n : Nat) : Option (List Int) := (l.reverse.find? fun x => x.p == n).map (·.b)
def readB (S : St) (n : Int) : List Int × Int :=
  if S.off then ([], 22) else if ¬ (0 ≤ n ∧ n < (S.last.length : Int)) then ([], 20) else
    match lastW S.pend n.toNat with
    | some zs => (zs, 0)
    | none => match S.last[n.toNat]? with
      | some c => if c.t then ([], 23) else (c.b, 0)
      | none => ([], 20)
theorem lastW_none {l : List Wr} {n : Nat} (h : ∀ x ∈ l, x.p ≠ n) : lastW l n = none := by
  unfold lastW
  rw [List.find?_eq_none.2 (fun x hx => by simpa using h x (List.mem_reverse.1 hx))]
  rfl
theorem lastW_some {l : List Wr} {n j : Nat} {x : Wr} (hj : l[j]? = some x) (hx : x.p = n) (hl : ∀ (i : Nat) (y : Wr), j < i → l[i]? = some y → y.p ≠ n) : lastW l n = some x.b := by
  have hlt : j < l.length := (List.getElem?_eq_some_iff.1 hj).1
  have hsplit : l = l.take j ++ x :: l.drop (j + 1) := by
    have h1 : l[j] = x := (List.getElem?_eq_some_iff.1 hj).2
    rw [← h1, List.getElem_cons_drop, List.take_append_drop]
  have hn : (l.drop (j + 1)).reverse.find? (fun x => x.p == n) = none := List.find?_eq_none.2 fun y hy => by
    obtain ⟨i, hi⟩ := List.getElem?_of_mem (List.mem_reverse.1 hy)
    rw [List.getElem?_drop] at hi
    simpa using hl _ y (by omega) hi
  unfold lastW
  have e : l.reverse = (l.drop (j + 1)).reverse ++ x :: (l.take j).reverse := by
    conv => lhs; rw [hsplit]
    simp
  rw [e, List.find?_append, hn]
  simp [List.find?_cons, hx]

/-- A block of bytes that a call made. -/
def ByteBlk (w : World) (g : Nat) (t : TypeId) (zs : List Int) : Prop := w.heap[g]? = some (.cells (bc zs).toArray t (0, 0))
/-- What Read leaves. -/
def ReadIs (w : World) (r : List Int × Int) (e : Ending) (w' : World) : Prop :=
  (r.2 ≠ 0 ∧ r.1 = [] ∧ e = .returned (.tuple #[.slice none 0 0, .int .i64 r.2]) ∧ w = w') ∨
  (r.2 = 0 ∧ B64 r.1 ∧ e = .returned (.tuple #[.slice (some ⟨w.heap.size, 0, none⟩) 64 64, .int .i64 0]) ∧ w' = w.alloc (.cells (bc r.1).toArray 95))

set_option maxHeartbeats 1000000 in
theorem dread {F : Nat → Prop} {w : World} {d : Nat} {S : St} (h : PD F w d S) (n : Int) (hm : S.pend.length < 2199023255552) :
    Calls Try.prog 59 #[.pointer (some ⟨d, 0, none⟩), .int .i64 n] w (ReadIs w (readB S n)) := by
  obtain ⟨nw, vl, vp, vn, h, hn⟩ := h
  have r := drefuses h n
  unfold readB
  cases ho : S.off with
  | true =>
    rw [ho] at r
    simp only [if_true] at r ⊢
    clear h hn
    go_enter Try.func59, Try.ntmps59
    go_wp2_with (go_at_call 53; refine r.mono ?_; rintro e w' ⟨rfl, rfl⟩)
    go_ret2
    exact .inl ⟨by decide, rfl, rfl, rfl⟩
  | false =>
    rw [ho] at r
    simp only [Bool.false_eq_true, if_false] at r ⊢
    by_cases hp : 0 ≤ n ∧ n < (S.last.length : Int)
    · rw [if_pos hp] at r
      rw [if_neg (not_not_intro hp)]
      obtain ⟨k, rfl⟩ := Int.eq_ofNat_of_zero_le hp.1
      have hk : k < S.last.length := by omega
      rw [Int.toNat_natCast]
      obtain ⟨c, hc⟩ : ∃ c, S.last[k]? = some c := ⟨_, List.getElem?_eq_getElem hk⟩
      have hcb := h.wf.lb c (List.mem_of_getElem? hc)
      obtain ⟨gn, cn, rfl, -, -⟩ := h.nform
      obtain ⟨gl, cl, rfl, -, -⟩ := h.lform
      have c2 := h.c2
      have c0 := h.c0
      have cnk := h.newAt hk
      have hki := hp.2
      rcases hn k hk with ⟨h0, hno⟩ | ⟨j, x, hj, hx, hxp, hlast⟩
      · rw [h0] at cnk
        rw [lastW_none hno, hc]
        have hR := h.lastAt hc
        have ct : w.cell? ⟨gl, k * 65 + 64, none⟩ = some (.bool c.t) := hR 64 _ (by simp [Cn.cells, List.getElem?_append_right, bc_len, hcb.len])
        have hrb : w.rangeAt gl (k * 65) (bc c.b) := fun i v hv => hR i v (by
          unfold Cn.cells
          rw [List.getElem?_append_left (List.getElem?_eq_some_iff.1 hv).1]; exact hv)
        have HR := Lib.hid hrb
        have HI := Lib.hid (show (Try.prog.info? 95).map (·.size) = some (bc c.b).length by rw [bc_len, hcb.len]; rfl)
        cases htc : c.t with
        | true =>
          rw [htc] at ct
          simp only [htc, if_true]
          clear h hn hR hrb hc hno
          go_enter Try.func59, Try.ntmps59
          go_wp2_with (go_at_call 53; refine r.mono ?_; rintro e w' ⟨rfl, rfl⟩)
          go_ret2
          exact .inl ⟨by decide, rfl, rfl, rfl⟩
        | false =>
          rw [htc] at ct
          simp only [htc, Bool.false_eq_true, if_false]
          clear h hn hR hrb hc hno
          go_enter Try.func59, Try.ntmps59
          go_wp2_with (first
            | (go_at_call 53; refine r.mono ?_; rintro e w' ⟨rfl, rfl⟩)
            | (with_reducible refine wpList_load_mid rfl 95 (.tmp 47) rfl gl (k * 65) rfl (bc c.b) _ HR.out Try.underlying95 rfl HI.out ?_)
            | (go_at_call 84; refine (dlist (bc c.b) w (by rw [bc_len, hcb.len])).mono ?_; rintro e w' ⟨rfl, rfl⟩))
          go_ret2
          exact .inr ⟨rfl, hcb, rfl, rfl⟩
      · rw [hj] at cnk
        rw [lastW_some hx hxp hlast]
        have hxb := h.wf.pb x (List.mem_of_getElem? hx)
        have hjl : j < S.pend.length := (List.getElem?_eq_some_iff.1 hx).1
        rcases h.pform with ⟨e0, -⟩ | ⟨gp, cp, rfl, -, -, -⟩
        · rw [e0] at hjl; simp at hjl
        have c1 := h.c1
        have hR := h.pendAt hx
        have hrb : w.rangeAt gp (j * 65 + 1) (bc x.b) := fun i v hv => by
          have := hR (i + 1) v (by simpa [Wr.cells] using hv)
          rw [show j * 65 + 1 + i = j * 65 + (i + 1) by omega]; exact this
        have HR := Lib.hid hrb
        have HI := Lib.hid (show (Try.prog.info? 95).map (·.size) = some (bc x.b).length by rw [bc_len, hxb.len]; rfl)
        have hj1 : (0 : Int) < (j : Int) + 1 := by omega
        have hj2 : (j : Int) < (S.pend.length : Int) := by omega
        clear h hn hR hrb hx hlast hj hc
        go_enter Try.func59, Try.ntmps59
        go_wp2_with (first
          | (go_at_call 53; refine r.mono ?_; rintro e w' ⟨rfl, rfl⟩)
          | (with_reducible refine wpList_load_mid rfl 95 (.tmp 30) rfl gp (j * 65 + 1) rfl (bc x.b) _ HR.out Try.underlying95 rfl HI.out ?_)
          | (go_at_call 84; refine (dlist (bc x.b) w (by rw [bc_len, hxb.len])).mono ?_; rintro e w' ⟨rfl, rfl⟩))
        go_ret2
        exact .inr ⟨rfl, hxb, rfl, rfl⟩
    · rw [if_neg hp] at r
      rw [if_pos hp]
      clear h hn hp
      go_enter Try.func59, Try.ntmps59
      go_wp2_with (go_at_call 53; refine r.mono ?_; rintro e w' ⟨rfl, rfl⟩)
      go_ret2
      exact .inl ⟨by decide, rfl, rfl, rfl⟩
end Go.Proofs.Ytapjgancaldgaaa
