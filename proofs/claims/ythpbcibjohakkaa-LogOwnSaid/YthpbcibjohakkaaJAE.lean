import Derived.Test.YthpbcibjohakkaaJAD
import Derived.Deep.RegionLaw
/- The call of forget. -/
namespace Go.Proofs.Ythpbcibjohakkaa
set_option maxRecDepth 100000
open Go.RowKit

section
variable {F : Nat → Prop} {w : World} {d : Nat} {S : St} {nw : List Int} {vl vp vn : Value}
/-- A pending write where it lies. -/
theorem Dv.pendAt {g cap : Nat} (h : Dv F w d S nw vl (.slice (some ⟨g, 0, none⟩) S.pend.length cap) vn) {k : Nat} {x : Wr} (hk : S.pend[k]? = some x) : w.rangeAt g (k * 65) x.cells := by
  have hlt : k < S.pend.length := (List.getElem?_eq_some_iff.1 hk).1
  have hx : S.pend[k] = x := (List.getElem?_eq_some_iff.1 hk).2
  have := own_range h.pend (k * 65) 65
  rw [flat_part S.pend (fun y hy => Wr.len (h.wf.pb y hy)) k hlt, hx] at this
  exact this
theorem Dv.lastAt {g cap : Nat} (h : Dv F w d S nw (.slice (some ⟨g, 0, none⟩) S.last.length cap) vp vn) {k : Nat} {c : Cn} (hk : S.last[k]? = some c) : w.rangeAt g (k * 65) c.cells := by
  have hlt : k < S.last.length := (List.getElem?_eq_some_iff.1 hk).1
  have hx : S.last[k] = c := (List.getElem?_eq_some_iff.1 hk).2
  have := own_range h.last (k * 65) 65
  rw [flat_part S.last (fun y hy => Cn.len (h.wf.lb y hy)) k hlt, hx] at this
  exact this
theorem Dv.newAt {g cap : Nat} (h : Dv F w d S nw vl vp (.slice (some ⟨g, 0, none⟩) S.last.length cap)) {k : Nat} (hk : k < S.last.length) : w.cell? ⟨g, k, none⟩ = some (.int .i64 (nw.getD k 0)) := by
  have hl := h.nwl
  rw [h.newest.cellAt k (by omega)]
  simp [List.getD_eq_getElem?_getD, List.getElem?_eq_getElem (show k < nw.length by omega)]
theorem Dv.newFree {g cap : Nat} (h : Dv F w d S nw vl vp (.slice (some ⟨g, 0, none⟩) S.last.length cap)) (k : Nat) : w.frozen? ⟨g, k, none⟩ = false := h.newest.frozenAt k
end

/-- The newest numbers with those of the writes xs struck. -/
def struck (nw : List Int) (xs : List Wr) : List Int := xs.foldl (fun l x => l.set x.p 0) nw
theorem struck_snoc (nw : List Int) (xs : List Wr) (x : Wr) : struck nw (xs ++ [x]) = (struck nw xs).set x.p 0 := by simp [struck]
theorem struck_len (xs : List Wr) : ∀ nw, (struck nw xs).length = nw.length := by
  induction xs with
  | nil => intro nw; rfl
  | cons x r ih => intro nw; show (struck (nw.set x.p 0) r).length = _; rw [ih]; simp
theorem struck_zero (xs : List Wr) : ∀ (nw : List Int) (n : Nat), (nw.getD n 0 = 0 ∨ ∃ x ∈ xs, x.p = n) → (struck nw xs).getD n 0 = 0 := by
  induction xs with
  | nil => intro nw n h; rcases h with h | ⟨x, hx, _⟩; exact h; cases hx
  | cons x r ih =>
    intro nw n h
    refine ih (nw.set x.p 0) n ?_
    by_cases e : x.p = n
    · left
      subst e
      simp only [List.getD_eq_getElem?_getD, List.getElem?_set]
      split
      · split <;> rfl
      · contradiction
    · rcases h with h | ⟨y, hy, hyn⟩
      · left
        simp only [List.getD_eq_getElem?_getD, List.getElem?_set] at h ⊢
        rw [if_neg e]; exact h
      · rcases List.mem_cons.1 hy with rfl | hy
        · exact absurd hyn e
        · exact .inr ⟨y, hy, hyn⟩

def ForgetIs (F : Nat → Prop) (w : World) (d : Nat) (S : St) (vl vn : Value) (nw : List Int) (e : Ending) (w' : World) : Prop :=
  e = .returned (.tuple #[]) ∧ Dv F w' d { S with pend := [] } (struck nw S.pend) vl (.slice none 0 0) vn ∧ Out F w w'

theorem forget_laid {F : Nat → Prop} {w : World} {d : Nat} {S : St} {nw : List Int} {vl vp vn : Value} (h : Dv F w d S nw vl vp vn) (x : Wr) (hx : B64 x.b) :
    (storeCells ⟨w.heap.size, 0, none⟩ x.cells 0).run Try.prog (w.alloc (.cells z83 81)) = .ok () (w.alloc (.cells x.cells.toArray 81)) := by
  have := run_storeNew (P := Try.prog) w 81 z83 x.cells.toArray _ (by rfl) (by simp [Wr.len hx]; rfl) (by simp [Wr.len hx, z83_size]) (by simpa using Wr.one _)
  simpa using this

theorem dforget {F : Nat → Prop} {w : World} {d : Nat} {S : St} {nw : List Int} {vl vp vn : Value} (h : Dv F w d S nw vl vp vn) (hm : S.pend.length ≤ 4398046511104) :
    Calls Try.prog 41 #[.pointer (some ⟨d, 0, none⟩)] w (ForgetIs F w d S vl vn nw) := by
  have c1 := h.c1
  obtain ⟨gn, cn, rfl, -, -⟩ := h.nform
  rcases h.pform with ⟨hp0, rfl⟩ | ⟨gp, cp, rfl, hpos, -, -⟩
  · have f1 := h.frozen 1
    have HE := Lib.hid (show Dv F (w.setCell ⟨d, 1, none⟩ (.slice none 0 0)) d { S with pend := [] } (struck nw S.pend) vl (.slice none 0 0) (.slice (some ⟨gn, 0, none⟩) S.last.length cn) ∧ Out F w (w.setCell ⟨d, 1, none⟩ (.slice none 0 0)) by rw [hp0]; exact ⟨h.setNone, (Out.refl F w).setCell (.inl h.fd) _⟩)
    clear h hp0
    go_enter Try.func41, Try.ntmps41
    go_wp2
    go_loopw [3, 9] (fun _ i wr => i = .int .i64 0 ∧ w = wr) (fun _ _ _ => 0)
    case atStart => exact ⟨rfl, rfl⟩
    case round =>
      obtain ⟨rfl, rfl⟩ := hrel
      go_wp2
      go_end0
      exact ⟨rfl, HE.out⟩
  · have H0 := Lib.hid h
    clear h
    go_enter Try.func41, Try.ntmps41
    go_wp2
    go_loopw [3, 9] (fun _ i wr => ∃ k : Nat, i = .int .i64 (k : Nat) ∧ k ≤ S.pend.length ∧ Dv F wr d S (struck nw (S.pend.take k)) vl (.slice (some ⟨gp, 0, none⟩) S.pend.length cp) (.slice (some ⟨gn, 0, none⟩) S.last.length cn) ∧ Out F w wr) (fun _ i _ => S.pend.length - (intOf i).toNat)
    case atStart => exact ⟨0, rfl, Nat.zero_le _, H0.out, Out.refl _ _⟩
    case round =>
      obtain ⟨k, rfl, hk, hd, ho⟩ := hrel
      by_cases hlt : k < S.pend.length
      · obtain ⟨x, hx⟩ : ∃ x, S.pend[k]? = some x := ⟨_, List.getElem?_eq_getElem hlt⟩
        have hxm : x ∈ S.pend := List.mem_of_getElem? hx
        have hxb := hd.wf.pb x hxm
        have hxp := hd.wf.pp x hxm
        have HR := Lib.hid (hd.pendAt hx)
        have HI := Lib.hid (show (Try.prog.info? 81).map (·.size) = some x.cells.length by rw [Wr.len hxb]; rfl)
        have hz := run_zero83
        have hst := forget_laid hd x hxb
        have hcl := Wr.len hxb
        have hd1 := hd.alloc (.cells x.cells.toArray 81)
        have ho1 := ho.alloc (.cells x.cells.toArray 81)
        have c0 : (wr.alloc (.cells x.cells.toArray 81)).cell? ⟨wr.heap.size, 0, none⟩ = some (.int .i64 (x.p : Int)) := by rw [cell_of_row _ _ _ _ _ _ (heap_alloc_new _ _)]; rfl
        generalize wr.alloc (.cells x.cells.toArray 81) = W1 at hst hd1 ho1 c0
        have c2 := hd1.c2
        have c3 := hd1.newAt hxp
        have f3 := hd1.newFree x.p
        have hd2 := (hd1.drew).setNew x.p 0
        have ho2 := ho1.drew.setCell (p := ⟨gn, x.p, none⟩) (.inl (hd.fn gn rfl).1) (.int .i64 0)
        have hi1 : (x.p : Int) < (S.last.length : Int) := by omega
        rw [← struck_snoc, ← (show S.pend.take (k + 1) = S.pend.take k ++ [x] by rw [List.take_add_one, hx]; rfl)] at hd2
        have HD := Lib.hid hd2
        have HO := Lib.hid ho2
        have hi2 : (k : Int) < (S.pend.length : Int) := by omega
        clear hd1 ho1 hd2 ho2 hd ho hxm
        go_wp2_with (with_reducible refine wpList_load_mid rfl 81 (.tmp 11) rfl gp (k * 65) rfl x.cells _ HR.out Try.underlying81 rfl HI.out ?_)
        clear HR HI hz hst
        refine wp_region_still_tail 7 (by kernel_rfl) (by kernel_rfl) ?_
        simp only [List.take_succ_cons, List.take_zero, List.drop_succ_cons, List.drop_zero]
        change wpStill _ _ W1.drew _ _ _
        iterate 7 still_step
        refine wpStill_nil ?_
        change wpList _ _ _ _ _ W1.drew
        go_wp2
        go_roundw
        case rel => exact ⟨k + 1, by go_num, hlt, HD.out, HO.out⟩
        case measure => simp [intOf]; omega
      · obtain rfl : k = S.pend.length := by omega
        have f1 := hd.frozen 1
        have c1' := hd.c1
        rw [List.take_length] at hd
        have HE := Lib.hid (show Dv F (wr.setCell ⟨d, 1, none⟩ (.slice none 0 0)) d { S with pend := [] } (struck nw S.pend) vl (.slice none 0 0) (.slice (some ⟨gn, 0, none⟩) S.last.length cn) ∧ Out F w (wr.setCell ⟨d, 1, none⟩ (.slice none 0 0)) from ⟨hd.setNone, ho.setCell (.inl hd.fd) _⟩)
        clear hd ho
        go_wp2
        go_end0
        exact ⟨rfl, HE.out⟩
end Go.Proofs.Ythpbcibjohakkaa

/- The call of Sync. -/
namespace Go.Proofs.Ythpbcibjohakkaa
set_option maxRecDepth 100000
open Go.RowKit

/-- F, and whatever was made since w. -/
def Gr (F : Nat → Prop) (w : World) : Nat → Prop := fun k => F k ∨ w.heap.size ≤ k

/-- The writes laid over the blocks, in order; keep says of each what becomes of it. -/
def layAll : List Cn → List Wr → List Int → List Cn
  | l, x :: xs, k :: ks => layAll (settleL l x k) xs ks
  | l, _, _ => l
theorem settleL_len (l : List Cn) (x : Wr) (k : Int) : (settleL l x k).length = l.length := by unfold settleL; split <;> (try split) <;> simp
theorem layAll_len : ∀ (xs : List Wr) (ks : List Int) (l : List Cn), (layAll l xs ks).length = l.length
  | [], ks, l => by cases ks <;> rfl
  | x :: xs, [], l => rfl
  | x :: xs, k :: ks, l => by rw [layAll, layAll_len xs ks, settleL_len]
theorem layAll_snoc : ∀ (xs : List Wr) (ks : List Int) (l : List Cn) (x : Wr) (k : Int), xs.length = ks.length → layAll l (xs ++ [x]) (ks ++ [k]) = settleL (layAll l xs ks) x k
  | [], [], l, x, k, _ => rfl
  | y :: xs, j :: ks, l, x, k, h => by
    show layAll (settleL l y j) (xs ++ [x]) (ks ++ [k]) = _
    rw [layAll_snoc xs ks _ x k (by simpa using h)]; rfl
  | [], _ :: _, _, _, _, h => by simp at h
  | _ :: _, [], _, _, _, h => by simp at h
def ones (n : Nat) : List Int := List.replicate n 1
theorem ones_succ (n : Nat) : ones (n + 1) = ones n ++ [1] := by simp [ones, List.replicate_succ']

theorem Dv.pgen {F : Nat → Prop} {w : World} {d : Nat} {S : St} {nw : List Int} {vl vp vn : Value} (h : Dv F w d S nw vl vp vn) : ∃ A cap, vp = .slice A S.pend.length cap ∧ (0 < S.pend.length → ∃ g, A = some ⟨g, 0, none⟩) := by
  rcases h.pform with ⟨h0, rfl⟩ | ⟨g, cap, rfl, h0, _⟩
  · exact ⟨none, 0, by rw [h0]; rfl, fun h => by rw [h0] at h; simp at h⟩
  · exact ⟨_, cap, rfl, fun _ => ⟨g, rfl⟩⟩

def syncS (S : St) : St := if S.off then S else if S.plan = 0 then spendS S else { spendS S with last := layAll S.last S.pend (ones S.pend.length), pend := [], syncs := wrap64 (S.syncs + 1) }
def syncE (S : St) : Int := if S.off then 22 else spendE S

/-- What a call leaves that answers a code. -/
def Codes (F : Nat → Prop) (w : World) (d : Nat) (S' : St) (c : Int) (e : Ending) (w' : World) : Prop :=
  e = .returned (.int .i64 c) ∧ PD (Gr F w) w' d S' ∧ Out F w w'
theorem codes {F : Nat → Prop} {w w' : World} {d : Nat} {S' : St} {c : Int} {nw : List Int} {vl vp vn : Value} (h : Dv F w' d S' nw vl vp vn) (hn : NwOk S' nw) (ho : Out F w w') : Codes F w d S' c (.returned (.int .i64 c)) w' :=
  ⟨rfl, ⟨nw, vl, vp, vn, h.mono fun _ _ hf => .inl hf, hn⟩, ho⟩
theorem nwok_none {S S' : St} {nw : List Int} (h : NwOk S nw) (hl : S'.last.length = S.last.length) (hp : S'.pend = []) : NwOk S' (struck nw S.pend) := fun n hn => by
  left
  refine ⟨struck_zero S.pend nw n ?_, by rw [hp]; simp⟩
  rcases h n (by omega) with h1 | ⟨j, x, _, h2, h3, _⟩
  · exact .inl h1.1
  · exact .inr ⟨x, List.mem_of_getElem? h2, h3⟩
theorem nwok_same {S S' : St} {nw : List Int} (h : NwOk S nw) (hl : S'.last.length = S.last.length) (hp : S'.pend = S.pend) : NwOk S' nw := fun n hn => by
  rw [hp]; exact h n (by omega)

set_option maxHeartbeats 1000000 in
theorem dsync {F : Nat → Prop} {w : World} {d : Nat} {S : St} (h : PD F w d S) (hm : S.pend.length ≤ 4398046511104) :
    Calls Try.prog 54 #[.pointer (some ⟨d, 0, none⟩)] w (Codes F w d (syncS S) (syncE S)) := by
  obtain ⟨nw, vl, vp, vn, h, hn⟩ := h
  have r := drefusesAll h
  have sp := dspend h
  unfold syncS syncE
  cases ho : S.off with
  | true =>
    rw [ho] at r
    simp only [if_true] at r ⊢
    have HE := Lib.hid (codes (c := 22) h hn (Out.refl F w))
    clear h hn sp
    go_enter Try.func54, Try.ntmps54
    go_wp2_with (go_at_call 48; refine r.mono ?_; rintro e w' ⟨rfl, rfl⟩)
    go_ret
    exact HE.out
  | false =>
    rw [ho] at r
    simp only [Bool.false_eq_true, if_false] at r ⊢
    by_cases hz : S.plan = 0
    · have he : spendE S = 22 := by unfold spendE; rw [if_pos hz]
      rw [he] at sp ⊢
      rw [if_pos hz]
      have HN := Lib.hid (nwok_same (S' := spendS S) hn (by rw [spendS_last]) (spendS_pend S))
      clear h hn hz he
      go_enter Try.func54, Try.ntmps54
      go_wp2_with (first
        | (go_at_call 48; refine r.mono ?_; rintro e w' ⟨rfl, rfl⟩)
        | (go_at_call 67; refine sp.mono ?_; rintro e w1 ⟨rfl, h1, o1⟩; have H1 := Lib.hid h1; have O1 := Lib.hid o1; clear h1 o1))
      go_ret
      exact codes H1.out HN.out O1.out
    · have he : spendE S = 0 := by unfold spendE; rw [if_neg hz]
      rw [he] at sp ⊢
      rw [if_neg hz]
      obtain ⟨T, hT⟩ : ∃ T, T = spendS S := ⟨_, rfl⟩
      have hl : S.last = T.last := by rw [hT, spendS_last]
      have hp : S.pend = T.pend := by rw [hT, spendS_pend]
      have hsy : S.syncs = T.syncs := by rw [hT]; unfold spendS; split <;> (try split) <;> rfl
      rw [← hT] at sp ⊢
      rw [hl, hp, hsy]
      rw [hp] at hm
      have HN := Lib.hid (nwok_same (S' := T) hn (by rw [hl]) hp.symm)
      obtain ⟨A, cap, rfl, hA⟩ := h.pgen
      rw [hp] at hA sp
      clear h hn hz he hT hl hp hsy ho
      go_enter Try.func54, Try.ntmps54
      go_wp2_with (first
        | (go_at_call 48; refine r.mono ?_; rintro e w' ⟨rfl, rfl⟩)
        | (go_at_call 67; refine sp.mono ?_; rintro e w1 ⟨rfl, h1, o1⟩; have c1 := h1.c1; have H1 := Lib.hid h1; have O1 := Lib.hid o1; clear h1 o1))
      clear sp r
      go_loopw [6, 22] (fun _ i wr => ∃ k : Nat, i = .int .i64 (k : Nat) ∧ k ≤ T.pend.length ∧ Dv F wr d { T with last := layAll T.last (T.pend.take k) (ones k) } nw vl (.slice A T.pend.length cap) vn ∧ Out F w wr) (fun _ i _ => T.pend.length - (intOf i).toNat)
      case atStart => exact ⟨0, rfl, Nat.zero_le _, H1.out, O1.out⟩
      case round =>
        obtain ⟨k, rfl, hk, hd, ho⟩ := hrel
        by_cases hlt : k < T.pend.length
        · obtain ⟨g, rfl⟩ := hA (by omega)
          obtain ⟨x, hx⟩ : ∃ x, T.pend[k]? = some x := ⟨_, List.getElem?_eq_getElem hlt⟩
          have hxm : x ∈ T.pend := List.mem_of_getElem? hx
          have hxb := hd.wf.pb x hxm
          have hxp := hd.wf.pp x hxm
          have HR := Lib.hid (hd.pendAt (x := x) hx)
          have HI := Lib.hid (show (Try.prog.info? 81).map (·.size) = some x.cells.length by rw [Wr.len hxb]; rfl)
          have hz := run_zero83
          have hst := forget_laid hd x hxb
          have hcl := Wr.len hxb
          have hd1 := hd.alloc (.cells x.cells.toArray 81)
          have ho1 := ho.alloc (.cells x.cells.toArray 81)
          have HR1 := Lib.hid (show (wr.alloc (.cells x.cells.toArray 81)).rangeAt wr.heap.size 0 x.cells from fun j v hv => by rw [cell_of_row _ _ _ _ _ _ (heap_alloc_new _ _)]; simpa using hv)
          generalize wr.alloc (.cells x.cells.toArray 81) = W1 at hst hd1 ho1 HR1
          have hi2 : (k : Int) < (T.pend.length : Int) := by omega
          have se := dsettle hd1 x hxb hxp 1 (by omega)
          have HL := Lib.hid (show settleL (layAll T.last (T.pend.take k) (ones k)) x 1 = layAll T.last (T.pend.take (k + 1)) (ones (k + 1)) by rw [ones_succ, List.take_add_one, hx]; exact (layAll_snoc _ _ _ _ _ (by simp [ones]; omega)).symm)
          have O2 := Lib.hid ho1
          clear hd1 ho1 hd ho hxm hxp hx
          go_wp2_with (first
            | (with_reducible refine wpList_load_mid rfl 81 (.tmp 24) rfl g (k * 65) rfl x.cells _ HR.out Try.underlying81 rfl HI.out ?_)
            | (with_reducible refine wpList_load_mid rfl 81 (.tmp 6) rfl wr.heap.size 0 rfl x.cells _ HR1.out Try.underlying81 rfl HI.out ?_)
            | (go_at_call 40; refine se.mono ?_; rintro e w3 ⟨rfl, h3, o3⟩; have H3 := Lib.hid h3; have O3 := Lib.hid o3; clear h3 o3))
          go_roundw
          case rel =>
            have h3 := H3.out
            rw [HL.out] at h3
            exact ⟨k + 1, by go_num, hlt, h3, O2.out.then O3.out⟩
          case measure => simp [intOf]; omega
        · obtain rfl : k = T.pend.length := by omega
          rw [List.take_length] at hd
          have fg := dforget hd hm
          have HN2 := Lib.hid (nwok_none (S' := { T with last := layAll T.last T.pend (ones T.pend.length), pend := [], syncs := wrap64 (T.syncs + 1) }) HN.out (layAll_len _ _ _) rfl)
          have O2 := Lib.hid ho
          clear hd ho
          go_wp2_with (go_at_call 41; refine fg.mono ?_; rintro e w4 ⟨rfl, h4, o4⟩; have c6 := h4.c6; have f6 := h4.frozen 6; have H4 := Lib.hid (h4.setSyncs (wrap64 (T.syncs + 1))); have O4 := Lib.hid ((O2.out.then o4).setCell (p := ⟨d, 6, none⟩) (.inl h4.fd) (.int .i64 (wrap64 (T.syncs + 1)))); clear h4 o4)
          go_ret
          exact codes H4.out HN2.out O4.out
end Go.Proofs.Ythpbcibjohakkaa

/- append onto an own row: towards Go's own bound, and where the new row lies. -/
namespace Go.Proofs.Ythpbcibjohakkaa
set_option maxRecDepth 100000
open Go.RowKit

section
variable {P : Program} (w : World)
theorem run_append_far (base : Nat) (t ty e : TypeId) (i : TypeInfo) (z : Value) (size bytes : Nat) (ht : P.underlying t = some (.slice e)) (hi : P.info? e = some i) (hz : i.zero = some z)
    (hsize : i.size = size) (hby : i.bytes = bytes) (hzs : z.cells.size = size) (hsz : 0 < size)
    (v : Value) (n : Nat) (xs : List Value) (hown : w.ownsRow base e size v n xs)
    (a : Addr) (m c : Nat) (news : List Value) (hl : news.length = m * size) (hnews : ∀ j u, news[j]? = some u → w.cell? (a.add j) = some u) (h1 : ∀ u ∈ news, u.oneCell' = true)
    (hm : 0 < m) (h63 : n + m ≤ maxLen) (hbytes : ((n + m) + (n + m) / 4 + 192) * bytes ≤ 281474976710656) (hbase : base ≤ w.heap.size) :
    ∃ g cap w', (Builtin.append_ #[t, t] ty #[v, .slice (some a) m c]).run P w = .ok (.slice (some ⟨g, 0, none⟩) (n + m) cap) w' ∧ w'.ownsRow base e size (.slice (some ⟨g, 0, none⟩) (n + m) cap) (n + m) (xs ++ news) ∧ w.grownBy w' v.ownBlock ∧
      (v.ownBlock = some g ∨ g = w.heap.size) ∧ w.heap.size ≤ w'.heap.size := by
  obtain ⟨v', w', hr, h2, h3, _⟩ := run_append_own_wide (P := P) w base t ty e i z size bytes ht hi hz hsize hby hzs hsz v n xs hown a m c news hl hnews h1 h63 hbytes hbase
  obtain ⟨g, cap, rfl, _, _⟩ := h2.form (by omega)
  refine ⟨g, cap, w', hr, h2, h3, ?_, h3.size⟩
  subst hsize
  subst hby
  have hml : n + m ≤ 9223372036854775807 := by simp only [maxLen] at h63; omega
  rcases hown.2 with ⟨rfl, rfl⟩ | ⟨g0, cap0, cur, rfl, hbg, hg, hnc, hcm, hcs, htake⟩
  · right
    have := run_append_nil (P := P) w t ty e i z ht hi hz a m c news hl hnews hm (by omega) (by
      have hb := hbytes
      simp only [Nat.zero_add] at hb
      exact Nat.le_trans (Nat.mul_le_mul_right _ (by omega)) hb)
    rw [this] at hr
    injection hr with e1 e2
    injection e1 with e1 _ _
    injection e1 with e1
    injection e1 with e1
    exact e1.symm
  · by_cases hroom : n + m ≤ cap0
    · left
      have := run_append_room (P := P) w t ty e i ht hi g0 n cap0 cur hg a m c news hl hnews h1 hroom (by rw [hl, hcs, ← Nat.add_mul]; exact Nat.mul_le_mul_right _ hroom)
      rw [this] at hr
      injection hr with e1 e2
      injection e1 with e1 _ _
      injection e1 with e1
      injection e1 with e1
      rw [← e1]; rfl
    · right
      have := run_append_grow (P := P) w t ty e i z ht hi hz ⟨g0, 0, none⟩ n cap0 xs hown.1 (hown.cells (g := g0) rfl) a m c news hl hnews (by omega) (by omega) (growslice_fits_wide (by omega) hbytes)
      rw [this] at hr
      injection hr with e1 e2
      injection e1 with e1 _ _
      injection e1 with e1
      injection e1 with e1
      exact e1.symm

theorem wp_append_far {o : Oper} {a : Act} {K : Act → World → Prop} {Q : Exit → Act → World → Prop} (s x : Operand) (t : TypeId)
    (ho : o.op = .call { callee := .builtin .append, args := #[s, x], argTypes := #[t, t] })
    (base : Nat) (e : TypeId) (i : TypeInfo) (z : Value) (size bytes : Nat) (ht : P.underlying t = some (.slice e)) (hi : P.info? e = some i) (hz : i.zero = some z)
    (hsize : i.size = size) (hby : i.bytes = bytes) (hzs : z.cells.size = size) (hsz : 0 < size)
    (v : Value) (n : Nat) (xs : List Value) (hs : a.eval s = v) (hown : w.ownsRow base e size v n xs)
    (ad : Addr) (m c : Nat) (news : List Value) (hx : a.eval x = .slice (some ad) m c) (hl : news.length = m * size) (hnews : ∀ j u, news[j]? = some u → w.cell? (ad.add j) = some u) (h1 : ∀ u ∈ news, u.oneCell' = true)
    (hm : 0 < m) (h63 : n + m ≤ maxLen) (hbytes : ((n + m) + (n + m) / 4 + 192) * bytes ≤ 281474976710656) (hbase : base ≤ w.heap.size)
    (h : ∀ g cap w', w'.ownsRow base e size (.slice (some ⟨g, 0, none⟩) (n + m) cap) (n + m) (xs ++ news) → w.grownBy w' v.ownBlock → (v.ownBlock = some g ∨ g = w.heap.size) → K (a.put o.dst (.slice (some ⟨g, 0, none⟩) (n + m) cap)) w') : o.wp P a w K Q := by
  obtain ⟨g, cap, w', hr, h2, h3, h4, _⟩ := run_append_far (P := P) w base t o.type e i z size bytes ht hi hz hsize hby hzs hsz v n xs hown ad m c news hl hnews h1 hm h63 hbytes hbase
  unfold Oper.wp execOp
  simp only [ho, resolve, invoke, builtin, Sem.run_bind, Sem.run_pure, Result.andThen_ok, List.map_toArray, List.map_cons, List.map_nil, hs, hx, hr]
  exact h g cap w' h2 h3 h4

theorem wpList_append_far {ops : Array Oper} {rest : List Oper} {o : Oper} {a : Act} {Q : Exit → Act → World → Prop} (hgd : o.guard = none) (s x : Operand) (t : TypeId)
    (ho : o.op = .call { callee := .builtin .append, args := #[s, x], argTypes := #[t, t] })
    (base : Nat) (e : TypeId) (i : TypeInfo) (z : Value) (size bytes : Nat) (ht : P.underlying t = some (.slice e)) (hi : P.info? e = some i) (hz : i.zero = some z)
    (hsize : i.size = size) (hby : i.bytes = bytes) (hzs : z.cells.size = size) (hsz : 0 < size)
    (v : Value) (n : Nat) (xs : List Value) (hs : a.eval s = v) (hown : w.ownsRow base e size v n xs)
    (ad : Addr) (m c : Nat) (news : List Value) (hx : a.eval x = .slice (some ad) m c) (hl : news.length = m * size) (hnews : ∀ j u, news[j]? = some u → w.cell? (ad.add j) = some u) (h1 : ∀ u ∈ news, u.oneCell' = true)
    (hm : 0 < m) (h63 : n + m ≤ maxLen) (hbytes : ((n + m) + (n + m) / 4 + 192) * bytes ≤ 281474976710656) (hbase : base ≤ w.heap.size)
    (h : ∀ g cap w', w'.ownsRow base e size (.slice (some ⟨g, 0, none⟩) (n + m) cap) (n + m) (xs ++ news) → w.grownBy w' v.ownBlock → (v.ownBlock = some g ∨ g = w.heap.size) → wpList P ops Q rest (a.put o.dst (.slice (some ⟨g, 0, none⟩) (n + m) cap)) w') : wpList P ops Q (o :: rest) a w :=
  wpList_plain hgd fun _ hK => wp_append_far w s x t ho base e i z size bytes ht hi hz hsize hby hzs hsz v n xs hs hown ad m c news hx hl hnews h1 hm h63 hbytes hbase fun g cap w' h2 h3 h4 => hK _ _ (h g cap w' h2 h3 h4)

theorem step_append_far {ops : Array Oper} {o : Oper} {a : Act} {K : Act → World → Prop} {Q : Exit → Act → World → Prop} {E : Prop} (hgd : o.guard = none) (s x : Operand) (t : TypeId)
    (ho : o.op = .call { callee := .builtin .append, args := #[s, x], argTypes := #[t, t] })
    (base : Nat) (e : TypeId) (i : TypeInfo) (z : Value) (size bytes : Nat) (ht : P.underlying t = some (.slice e)) (hi : P.info? e = some i) (hz : i.zero = some z)
    (hsize : i.size = size) (hby : i.bytes = bytes) (hzs : z.cells.size = size) (hsz : 0 < size)
    (v : Value) (n : Nat) (xs : List Value) (hs : a.eval s = v) (hown : w.ownsRow base e size v n xs)
    (ad : Addr) (m c : Nat) (news : List Value) (hx : a.eval x = .slice (some ad) m c) (hl : news.length = m * size) (hnews : ∀ j u, news[j]? = some u → w.cell? (ad.add j) = some u) (h1 : ∀ u ∈ news, u.oneCell' = true)
    (hm : 0 < m) (h63 : n + m ≤ maxLen) (hbytes : ((n + m) + (n + m) / 4 + 192) * bytes ≤ 281474976710656) (hbase : base ≤ w.heap.size)
    (h : ∀ g cap w', w'.ownsRow base e size (.slice (some ⟨g, 0, none⟩) (n + m) cap) (n + m) (xs ++ news) → w.grownBy w' v.ownBlock → (v.ownBlock = some g ∨ g = w.heap.size) → K (a.put o.dst (.slice (some ⟨g, 0, none⟩) (n + m) cap)) w') :
    if Region.wanted o (yielded ops a.tmps) = true then Oper.wp P o a w K Q else E := by
  rw [if_pos (by simp [Region.wanted, hgd])]
  exact wp_append_far w s x t ho base e i z size bytes ht hi hz hsize hby hzs hsz v n xs hs hown ad m c news hx hl hnews h1 hm h63 hbytes hbase h
end
end Go.Proofs.Ythpbcibjohakkaa
