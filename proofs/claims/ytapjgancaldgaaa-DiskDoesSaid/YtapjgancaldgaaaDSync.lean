/- The call of Sync. -/
import Derived.Test.YtapjgancaldgaaaDForget
namespace Go.Proofs.Ytapjgancaldgaaa
set_option maxRecDepth 100000
open Go.RowKit

/-- F, and whatever was made since w. -/
def Gr (F : Nat → Prop) (w : World) : Nat → Prop := fun k => F k ∨ w.heap.size ≤ k

/-- The writes laid over the blocks, in order; keep says of each what becomes of it. -/
def layAll : List Cn → List Wr → List Int → List Cn
  | l, x :: xs, k :: ks => layAll (settleL l x k) xs ks
  | l, _, _ => l
theorem settleL_len (l : List Cn) (x : Wr) (k : Int) : (settleL l x k).length = l.length := by unfold settleL; split <;> (try split) <;> simp
theorem layAll_len : ∀ (xs : List Wr) (ks : List Int) (l : List Cn), (layAll l xs ks).length = l.length
  | [], ks, l => by cases ks <;> rfl
  | x :: xs, [], l => rfl
  | x :: xs, k :: ks, l => by rw [layAll, layAll_len xs ks, settleL_len]
theorem layAll_snoc : ∀ (xs : List Wr) (ks : List Int) (l : List Cn) (x : Wr) (k : Int), xs.length = ks.length → layAll l (xs ++ [x]) (ks ++ [k]) = settleL (layAll l xs ks) x k
  | [], [], l, x, k, _ => rfl
  | y :: xs, j :: ks, l, x, k, h => by
    show layAll (settleL l y j) (xs ++ [x]) (ks ++ [k]) = _
    rw [layAll_snoc xs ks _ x k (by simpa using h)]; rfl
  | [], _ :: _, _, _, _, h => by simp at h
  | _ :: _, [], _, _, _, h => by simp at h
def ones (n : Nat) : List Int := List.replicate n 1
theorem ones_succ (n : Nat) : ones (n + 1) = ones n ++ [1] := by simp [ones, List.replicate_succ']

theorem Dv.pgen {F : Nat → Prop} {w : World} {d : Nat} {S : St} {nw : List Int} {vl vp vn : Value} (h : Dv F w d S nw vl vp vn) : ∃ A cap, vp = .slice A S.pend.length cap ∧ (0 < S.pend.length → ∃ g, A = some ⟨g, 0, none⟩) := by
  rcases h.pform with ⟨h0, rfl⟩ | ⟨g, cap, rfl, h0, _⟩
  · exact ⟨none, 0, by rw [h0]; rfl, fun h => by rw [h0] at h; simp at h⟩
  · exact ⟨_, cap, rfl, fun _ => ⟨g, rfl⟩⟩

def syncS (S : St) : St := if S.off then S else if S.plan = 0 then spendS S else { spendS S with last := layAll S.last S.pend (ones S.pend.length), pend := [], syncs := wrap64 (S.syncs + 1) }
def syncE (S : St) : Int := if S.off then 22 else spendE S

/-- What a call leaves that answers a code. -/
def Codes (F : Nat → Prop) (w : World) (d : Nat) (S' : St) (c : Int) (e : Ending) (w' : World) : Prop :=
  e = .returned (.int .i64 c) ∧ PD (Gr F w) w' d S' ∧ Out F w w'
theorem codes {F : Nat → Prop} {w w' : World} {d : Nat} {S' : St} {c : Int} {nw : List Int} {vl vp vn : Value} (h : Dv F w' d S' nw vl vp vn) (hn : NwOk S' nw) (ho : Out F w w') : Codes F w d S' c (.returned (.int .i64 c)) w' :=
  ⟨rfl, ⟨nw, vl, vp, vn, h.mono fun _ _ hf => .inl hf, hn⟩, ho⟩
theorem nwok_none {S S' : St} {nw : List Int} (h : NwOk S nw) (hl : S'.last.length = S.last.length) (hp : S'.pend = []) : NwOk S' (struck nw S.pend) := fun n hn => by
  left
  refine ⟨struck_zero S.pend nw n ?_, by rw [hp]; simp⟩
  rcases h n (by omega) with h1 | ⟨j, x, _, h2, h3, _⟩
  · exact .inl h1.1
  · exact .inr ⟨x, List.mem_of_getElem? h2, h3⟩
theorem nwok_same {S S' : St} {nw : List Int} (h : NwOk S nw) (hl : S'.last.length = S.last.length) (hp : S'.pend = S.pend) : NwOk S' nw := fun n hn => by
  rw [hp]; exact h n (by omega)

set_option maxHeartbeats 1000000 in
theorem dsync {F : Nat → Prop} {w : World} {d : Nat} {S : St} (h : PD F w d S) (hm : S.pend.length ≤ 4398046511104) :
    Calls Try.prog 19 #[.pointer (some ⟨d, 0, none⟩)] w (Codes F w d (syncS S) (syncE S)) := by
  obtain ⟨nw, vl, vp, vn, h, hn⟩ := h
  have r := drefusesAll h
  have sp := dspend h
  unfold syncS syncE
  cases ho : S.off with
  | true =>
    rw [ho] at r
    simp only [if_true] at r ⊢
    have HE := Lib.hid (codes (c := 22) h hn (Out.refl F w))
    clear h hn sp
    go_enter Try.func19, Try.ntmps19
    go_wp2_with (go_at_call 55; refine r.mono ?_; rintro e w' ⟨rfl, rfl⟩)
    go_ret
    exact HE.out
  | false =>
    rw [ho] at r
    simp only [Bool.false_eq_true, if_false] at r ⊢
    by_cases hz : S.plan = 0
    · have he : spendE S = 22 := by unfold spendE; rw [if_pos hz]
      rw [he] at sp ⊢
      rw [if_pos hz]
      have HN := Lib.hid (nwok_same (S' := spendS S) hn (by rw [spendS_last]) (spendS_pend S))
      clear h hn hz he
      go_enter Try.func19, Try.ntmps19
      go_wp2_with (first
        | (go_at_call 55; refine r.mono ?_; rintro e w' ⟨rfl, rfl⟩)
        | (go_at_call 54; refine sp.mono ?_; rintro e w1 ⟨rfl, h1, o1⟩; have H1 := Lib.hid h1; have O1 := Lib.hid o1; clear h1 o1))
      go_ret
      exact codes H1.out HN.out O1.out
    · have he : spendE S = 0 := by unfold spendE; rw [if_neg hz]
      rw [he] at sp ⊢
      rw [if_neg hz]
      obtain ⟨T, hT⟩ : ∃ T, T = spendS S := ⟨_, rfl⟩
      have hl : S.last = T.last := by rw [hT, spendS_last]
      have hp : S.pend = T.pend := by rw [hT, spendS_pend]
      have hsy : S.syncs = T.syncs := by rw [hT]; unfold spendS; split <;> (try split) <;> rfl
      rw [← hT] at sp ⊢
      rw [hl, hp, hsy]
      rw [hp] at hm
      have HN := Lib.hid (nwok_same (S' := T) hn (by rw [hl]) hp.symm)
      obtain ⟨A, cap, rfl, hA⟩ := h.pgen
      rw [hp] at hA sp
      clear h hn hz he hT hl hp hsy ho
      go_enter Try.func19, Try.ntmps19
      go_wp2_with (first
        | (go_at_call 55; refine r.mono ?_; rintro e w' ⟨rfl, rfl⟩)
        | (go_at_call 54; refine sp.mono ?_; rintro e w1 ⟨rfl, h1, o1⟩; have c1 := h1.c1; have H1 := Lib.hid h1; have O1 := Lib.hid o1; clear h1 o1))
      clear sp r
      go_loopw [6, 22] (fun _ i wr => ∃ k : Nat, i = .int .i64 (k : Nat) ∧ k ≤ T.pend.length ∧ Dv F wr d { T with last := layAll T.last (T.pend.take k) (ones k) } nw vl (.slice A T.pend.length cap) vn ∧ Out F w wr) (fun _ i _ => T.pend.length - (intOf i).toNat)
      case atStart => exact ⟨0, rfl, Nat.zero_le _, H1.out, O1.out⟩
      case round =>
        obtain ⟨k, rfl, hk, hd, ho⟩ := hrel
        by_cases hlt : k < T.pend.length
        · obtain ⟨g, rfl⟩ := hA (by omega)
          obtain ⟨x, hx⟩ : ∃ x, T.pend[k]? = some x := ⟨_, List.getElem?_eq_getElem hlt⟩
          have hxm : x ∈ T.pend := List.mem_of_getElem? hx
          have hxb := hd.wf.pb x hxm
          have hxp := hd.wf.pp x hxm
          have HR := Lib.hid (hd.pendAt (x := x) hx)
          have HI := Lib.hid (show (Try.prog.info? 100).map (·.size) = some x.cells.length by rw [Wr.len hxb]; rfl)
          have hz := run_zero83
          have hst := forget_laid hd x hxb
          have hcl := Wr.len hxb
          have hd1 := hd.alloc (.cells x.cells.toArray 100)
          have ho1 := ho.alloc (.cells x.cells.toArray 100)
          have HR1 := Lib.hid (show (wr.alloc (.cells x.cells.toArray 100)).rangeAt wr.heap.size 0 x.cells from fun j v hv => by rw [cell_of_row _ _ _ _ _ _ (heap_alloc_new _ _)]; simpa using hv)
          generalize wr.alloc (.cells x.cells.toArray 100) = W1 at hst hd1 ho1 HR1
          have hi2 : (k : Int) < (T.pend.length : Int) := by omega
          have se := dsettle hd1 x hxb hxp 1 (by omega)
          have HL := Lib.hid (show settleL (layAll T.last (T.pend.take k) (ones k)) x 1 = layAll T.last (T.pend.take (k + 1)) (ones (k + 1)) by rw [ones_succ, List.take_add_one, hx]; exact (layAll_snoc _ _ _ _ _ (by simp [ones]; omega)).symm)
          have O2 := Lib.hid ho1
          clear hd1 ho1 hd ho hxm hxp hx
          go_wp2_with (first
            | (with_reducible refine wpList_load_mid rfl 100 (.tmp 24) rfl g (k * 65) rfl x.cells _ HR.out Try.underlying100 rfl HI.out ?_)
            | (with_reducible refine wpList_load_mid rfl 100 (.tmp 6) rfl wr.heap.size 0 rfl x.cells _ HR1.out Try.underlying100 rfl HI.out ?_)
            | (go_at_call 56; refine se.mono ?_; rintro e w3 ⟨rfl, h3, o3⟩; have H3 := Lib.hid h3; have O3 := Lib.hid o3; clear h3 o3))
          go_roundw
          case rel =>
            have h3 := H3.out
            rw [HL.out] at h3
            exact ⟨k + 1, by go_num, hlt, h3, O2.out.then O3.out⟩
          case measure => simp [intOf]; omega
        · obtain rfl : k = T.pend.length := by omega
          rw [List.take_length] at hd
          have fg := dforget hd hm
          have HN2 := Lib.hid (nwok_none (S' := { T with last := layAll T.last T.pend (ones T.pend.length), pend := [], syncs := wrap64 (T.syncs + 1) }) HN.out (layAll_len _ _ _) rfl)
          have O2 := Lib.hid ho
          clear hd ho
          go_wp2_with (go_at_call 57; refine fg.mono ?_; rintro e w4 ⟨rfl, h4, o4⟩; have c6 := h4.c6; have f6 := h4.frozen 6; have H4 := Lib.hid (h4.setSyncs (wrap64 (T.syncs + 1))); have O4 := Lib.hid ((O2.out.then o4).setCell (p := ⟨d, 6, none⟩) (.inl h4.fd) (.int .i64 (wrap64 (T.syncs + 1)))); clear h4 o4)
          go_ret
          exact codes H4.out HN2.out O4.out
end Go.Proofs.Ytapjgancaldgaaa
