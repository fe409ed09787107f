/- The call of forget. -/
import Derived.Test.YtapjgancaldgaaaDSmall
namespace Go.Proofs.Ytapjgancaldgaaa
set_option maxRecDepth 100000
open Go.RowKit

section
variable {F : Nat → Prop} {w : World} {d : Nat} {S : St} {nw : List Int} {vl vp vn : Value}
/-- A pending write where it lies. -/
theorem Dv.pendAt {g cap : Nat} (h : Dv F w d S nw vl (.slice (some ⟨g, 0, none⟩) S.pend.length cap) vn) {k : Nat} {x : Wr} (hk : S.pend[k]? = some x) : w.rangeAt g (k * 65) x.cells := by
  have hlt : k < S.pend.length := (List.getElem?_eq_some_iff.1 hk).1
  have hx : S.pend[k] = x := (List.getElem?_eq_some_iff.1 hk).2
  have := own_range h.pend (k * 65) 65
  rw [flat_part S.pend (fun y hy => Wr.len (h.wf.pb y hy)) k hlt, hx] at this
  exact this
theorem Dv.lastAt {g cap : Nat} (h : Dv F w d S nw (.slice (some ⟨g, 0, none⟩) S.last.length cap) vp vn) {k : Nat} {c : Cn} (hk : S.last[k]? = some c) : w.rangeAt g (k * 65) c.cells := by
  have hlt : k < S.last.length := (List.getElem?_eq_some_iff.1 hk).1
  have hx : S.last[k] = c := (List.getElem?_eq_some_iff.1 hk).2
  have := own_range h.last (k * 65) 65
  rw [flat_part S.last (fun y hy => Cn.len (h.wf.lb y hy)) k hlt, hx] at this
  exact this
theorem Dv.newAt {g cap : Nat} (h : Dv F w d S nw vl vp (.slice (some ⟨g, 0, none⟩) S.last.length cap)) {k : Nat} (hk : k < S.last.length) : w.cell? ⟨g, k, none⟩ = some (.int .i64 (nw.getD k 0)) := by
  have hl := h.nwl
  rw [h.newest.cellAt k (by omega)]
  simp [List.getD_eq_getElem?_getD, List.getElem?_eq_getElem (show k < nw.length by omega)]
theorem Dv.newFree {g cap : Nat} (h : Dv F w d S nw vl vp (.slice (some ⟨g, 0, none⟩) S.last.length cap)) (k : Nat) : w.frozen? ⟨g, k, none⟩ = false := h.newest.frozenAt k
end

/-- The newest numbers with those of the writes xs struck. -/
def struck (nw : List Int) (xs : List Wr) : List Int := xs.foldl (fun l x => l.set x.p 0) nw
theorem struck_snoc (nw : List Int) (xs : List Wr) (x : Wr) : struck nw (xs ++ [x]) = (struck nw xs).set x.p 0 := by simp [struck]
theorem struck_len (xs : List Wr) : ∀ nw, (struck nw xs).length = nw.length := by
  induction xs with
  | nil => intro nw; rfl
  | cons x r ih => intro nw; show (struck (nw.set x.p 0) r).length = _; rw [ih]; simp
theorem struck_zero (xs : List Wr) : ∀ (nw : List Int) (n : Nat), (nw.getD n 0 = 0 ∨ ∃ x ∈ xs, x.p = n) → (struck nw xs).getD n 0 = 0 := by
  induction xs with
  | nil => intro nw n h; rcases h with h | ⟨x, hx, _⟩; exact h; cases hx
  | cons x r ih =>
    intro nw n h
    refine ih (nw.set x.p 0) n ?_
    by_cases e : x.p = n
    · left
      subst e
      simp only [List.getD_eq_getElem?_getD, List.getElem?_set]
      split
      · split <;> rfl
      · contradiction
    · rcases h with h | ⟨y, hy, hyn⟩
      · left
        simp only [List.getD_eq_getElem?_getD, List.getElem?_set] at h ⊢
        rw [if_neg e]; exact h
      · rcases List.mem_cons.1 hy with rfl | hy
        · exact absurd hyn e
        · exact .inr ⟨y, hy, hyn⟩

def ForgetIs (F : Nat → Prop) (w : World) (d : Nat) (S : St) (vl vn : Value) (nw : List Int) (e : Ending) (w' : World) : Prop :=
  e = .returned (.tuple #[]) ∧ Dv F w' d { S with pend := [] } (struck nw S.pend) vl (.slice none 0 0) vn ∧ Out F w w'

theorem forget_laid {F : Nat → Prop} {w : World} {d : Nat} {S : St} {nw : List Int} {vl vp vn : Value} (h : Dv F w d S nw vl vp vn) (x : Wr) (hx : B64 x.b) :
    (storeCells ⟨w.heap.size, 0, none⟩ x.cells 0).run Try.prog (w.alloc (.cells z83 100)) = .ok () (w.alloc (.cells x.cells.toArray 100)) := by
  have := run_storeNew (P := Try.prog) w 100 z83 x.cells.toArray _ (by rfl) (by simp [Wr.len hx]; rfl) (by simp [Wr.len hx, z83_size]) (by simpa using Wr.one _)
  simpa using this

theorem dforget {F : Nat → Prop} {w : World} {d : Nat} {S : St} {nw : List Int} {vl vp vn : Value} (h : Dv F w d S nw vl vp vn) (hm : S.pend.length ≤ 4398046511104) :
    Calls Try.prog 57 #[.pointer (some ⟨d, 0, none⟩)] w (ForgetIs F w d S vl vn nw) := by
  have c1 := h.c1
  obtain ⟨gn, cn, rfl, -, -⟩ := h.nform
  rcases h.pform with ⟨hp0, rfl⟩ | ⟨gp, cp, rfl, hpos, -, -⟩
  · have f1 := h.frozen 1
    have HE := Lib.hid (show Dv F (w.setCell ⟨d, 1, none⟩ (.slice none 0 0)) d { S with pend := [] } (struck nw S.pend) vl (.slice none 0 0) (.slice (some ⟨gn, 0, none⟩) S.last.length cn) ∧ Out F w (w.setCell ⟨d, 1, none⟩ (.slice none 0 0)) by rw [hp0]; exact ⟨h.setNone, (Out.refl F w).setCell (.inl h.fd) _⟩)
    clear h hp0
    go_enter Try.func57, Try.ntmps57
    go_wp2
    go_loopw [3, 9] (fun _ i wr => i = .int .i64 0 ∧ w = wr) (fun _ _ _ => 0)
    case atStart => exact ⟨rfl, rfl⟩
    case round =>
      obtain ⟨rfl, rfl⟩ := hrel
      go_wp2
      go_end0
      exact ⟨rfl, HE.out⟩
  · have H0 := Lib.hid h
    clear h
    go_enter Try.func57, Try.ntmps57
    go_wp2
    go_loopw [3, 9] (fun _ i wr => ∃ k : Nat, i = .int .i64 (k : Nat) ∧ k ≤ S.pend.length ∧ Dv F wr d S (struck nw (S.pend.take k)) vl (.slice (some ⟨gp, 0, none⟩) S.pend.length cp) (.slice (some ⟨gn, 0, none⟩) S.last.length cn) ∧ Out F w wr) (fun _ i _ => S.pend.length - (intOf i).toNat)
    case atStart => exact ⟨0, rfl, Nat.zero_le _, H0.out, Out.refl _ _⟩
    case round =>
      obtain ⟨k, rfl, hk, hd, ho⟩ := hrel
      by_cases hlt : k < S.pend.length
      · obtain ⟨x, hx⟩ : ∃ x, S.pend[k]? = some x := ⟨_, List.getElem?_eq_getElem hlt⟩
        have hxm : x ∈ S.pend := List.mem_of_getElem? hx
        have hxb := hd.wf.pb x hxm
        have hxp := hd.wf.pp x hxm
        have HR := Lib.hid (hd.pendAt hx)
        have HI := Lib.hid (show (Try.prog.info? 100).map (·.size) = some x.cells.length by rw [Wr.len hxb]; rfl)
        have hz := run_zero83
        have hst := forget_laid hd x hxb
        have hcl := Wr.len hxb
        have hd1 := hd.alloc (.cells x.cells.toArray 100)
        have ho1 := ho.alloc (.cells x.cells.toArray 100)
        have c0 : (wr.alloc (.cells x.cells.toArray 100)).cell? ⟨wr.heap.size, 0, none⟩ = some (.int .i64 (x.p : Int)) := by rw [cell_of_row _ _ _ _ _ _ (heap_alloc_new _ _)]; rfl
        generalize wr.alloc (.cells x.cells.toArray 100) = W1 at hst hd1 ho1 c0
        have c2 := hd1.c2
        have c3 := hd1.newAt hxp
        have f3 := hd1.newFree x.p
        have hd2 := (hd1.drew).setNew x.p 0
        have ho2 := ho1.drew.setCell (p := ⟨gn, x.p, none⟩) (.inl (hd.fn gn rfl).1) (.int .i64 0)
        have hi1 : (x.p : Int) < (S.last.length : Int) := by omega
        rw [← struck_snoc, ← (show S.pend.take (k + 1) = S.pend.take k ++ [x] by rw [List.take_add_one, hx]; rfl)] at hd2
        have HD := Lib.hid hd2
        have HO := Lib.hid ho2
        have hi2 : (k : Int) < (S.pend.length : Int) := by omega
        clear hd1 ho1 hd2 ho2 hd ho hxm
        go_wp2_with (with_reducible refine wpList_load_mid rfl 100 (.tmp 11) rfl gp (k * 65) rfl x.cells _ HR.out Try.underlying100 rfl HI.out ?_)
        clear HR HI hz hst
        refine wp_region_still_tail 7 (by kernel_rfl) (by kernel_rfl) ?_
        simp only [List.take_succ_cons, List.take_zero, List.drop_succ_cons, List.drop_zero]
        change wpStill _ _ W1.drew _ _ _
        iterate 7 still_step
        refine wpStill_nil ?_
        change wpList _ _ _ _ _ W1.drew
        go_wp2
        go_roundw
        case rel => exact ⟨k + 1, by go_num, hlt, HD.out, HO.out⟩
        case measure => simp [intOf]; omega
      · obtain rfl : k = S.pend.length := by omega
        have f1 := hd.frozen 1
        have c1' := hd.c1
        rw [List.take_length] at hd
        have HE := Lib.hid (show Dv F (wr.setCell ⟨d, 1, none⟩ (.slice none 0 0)) d { S with pend := [] } (struck nw S.pend) vl (.slice none 0 0) (.slice (some ⟨gn, 0, none⟩) S.last.length cn) ∧ Out F w (wr.setCell ⟨d, 1, none⟩ (.slice none 0 0)) from ⟨hd.setNone, ho.setCell (.inl hd.fd) _⟩)
        clear hd ho
        go_wp2
        go_end0
        exact ⟨rfl, HE.out⟩
end Go.Proofs.Ytapjgancaldgaaa
