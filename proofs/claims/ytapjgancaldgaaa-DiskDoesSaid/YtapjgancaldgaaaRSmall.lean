/- The reference's small calls: power, copied, Plan. -/
import Derived.Test.YtapjgancaldgaaaRDisk
import Derived.Test.YtapjgancaldgaaaDOwnB
namespace Go.Proofs.Ytapjgancaldgaaa
set_option maxRecDepth 100000
open Go.RowKit

theorem Gr.of {F : Nat → Prop} {w : World} {k : Nat} (h : F k) : Gr F w k := .inl h

/-- Is there power for one more? -/
def rpow (S : St) : Bool := decide (S.plan ≠ 0)

section
variable {F : Nat → Prop} {w : World} {p : Nat} {S : St} {vs : List Value} {gd cd gt ct : Nat} {vw : Value}
/-- One block anew: its torn mark, then its bytes. -/
theorem Rf.setBlock (h : Rf F w p S vs gd cd gt ct vw) (n : Nat) (hn : n < S.last.length) (c : Cn) (hc : B64 c.b) (W : World) (hW : Below w.heap.size (w.setCell ⟨gt, n, none⟩ (.bool c.t)) W) (g cap : Nat) (hr : RB W (some ⟨g, 0, none⟩) 64 c.b) (h1 : w.heap.size ≤ g) (h2 : g < W.heap.size) (hcap : 64 ≤ cap) :
    Rf (Gr F w) (W.setCell ⟨gd, n, none⟩ (.slice (some ⟨g, 0, none⟩) 64 cap)) p { S with last := S.last.set n c } (vs.set n (.slice (some ⟨g, 0, none⟩) 64 cap)) gd cd gt ct vw := by
  have hp := h.plt
  have hd := h.dlt
  have ht := h.tlt
  have hsz : w.heap.size ≤ W.heap.size := by have := hW.size; simpa [World.setCell] using this
  have hot : ∀ k, k < w.heap.size → k ≠ gd → k ≠ gt → (W.setCell ⟨gd, n, none⟩ (.slice (some ⟨g, 0, none⟩) 64 cap)).heap[k]? = w.heap[k]? := fun k hk n1 n2 =>
    (heap_setCell_ne _ _ _ _ k n1).trans ((hW.block k (by simpa [World.setCell] using hk)).trans (heap_setCell_ne _ _ _ _ k n2))
  have hs' : (W.setCell ⟨gd, n, none⟩ (.slice (some ⟨g, 0, none⟩) 64 cap)).heap.size = W.heap.size := by simp [World.setCell]
  have hdat : W.ownsRow 0 34 1 (.slice (some ⟨gd, 0, none⟩) S.last.length cd) S.last.length vs := own_stays h.data fun k e => by
    have : gd = k := by simpa [Value.ownBlock] using e
    subst this
    exact (hW.block gd (by simpa [World.setCell] using hd)).trans (heap_setCell_ne _ _ _ _ gd h.dt)
  have htor := (h.torn.stored n (.bool c.t)).1
  have hlen : (S.last.set n c).length = S.last.length := by simp
  refine ⟨⟨by rw [hlen]; exact h.wf.lo, by rw [hlen]; exact h.wf.hi, fun x hx => ?_, h.wf.pb, fun x hx => by rw [hlen]; exact h.wf.pp x hx, h.wf.pl⟩, ?_, ?_, ?_, ?_, ?_, .inl h.fp, .inl h.fd, .inl h.ft, h.pd, h.pt, h.dt⟩
  · rcases List.mem_or_eq_of_mem_set hx with hx | rfl
    · exact h.wf.lb x hx
    · exact hc
  · simp only [hlen]
    exact (hot p hp h.pd h.pt).trans h.blk
  · simp only [hlen]
    exact (hdat.stored n _).1
  · simp only [hlen]
    rw [List.map_set]
    exact own_stays htor fun k e => by
      have : gt = k := by simpa [Value.ownBlock] using e
      subst this
      exact (heap_setCell_ne _ _ _ _ gt h.dt.symm).trans (hW.block gt (by simpa [World.setCell] using ht))
  · intro i x hx
    simp only at hx
    by_cases e : n = i
    · subst e
      rw [List.getElem?_set_self hn] at hx
      cases hx
      have hvl : n < vs.length := by have := h.data.1; omega
      refine ⟨g, cap, by rw [List.getElem?_set_self hvl], hcap, rb_stays hr (heap_setCell_ne _ _ _ _ g (by omega)), by rw [hs']; exact h2, .inr h1, by omega, by omega, by omega⟩
    · rw [List.getElem?_set_ne e] at hx
      obtain ⟨g', cap', e', hc', rb, lg, fg, n1, n2, n3⟩ := h.at_ i x hx
      exact ⟨g', cap', by rw [List.getElem?_set_ne e]; exact e', hc', rb_stays rb (hot g' lg n2 n3), by rw [hs']; omega, .inl fg, n1, n2, n3⟩
  · exact h.wait.stays (fun k hk _ _ n1 n2 => hot k hk n1 n2) (by rw [hs']; exact hsz) (fun k _ hf => .inl hf)

theorem Rf.spend_ (h : Rf F w p S vs gd cd gt ct vw) : Calls Try.prog 69 #[.pointer (some ⟨p, 0, none⟩)] w fun e w' => e = .returned (.bool (rpow S)) ∧ Rf F w' p (spendS S) vs gd cd gt ct vw ∧ Out F w w' := by
  have c2 := h.cell 2
  have f2 := h.frozen 2
  have c1 := h.cell 1
  have f1 := h.frozen 1
  have hpl := h.wf.pl
  have H := Lib.hid h
  unfold spendS
  by_cases h1 : S.plan = -1
  · rw [if_pos h1]
    rw [h1] at c2
    have HE := Lib.hid (show rpow S = true by unfold rpow; simp; omega)
    clear h h1
    go_enter Try.func69, Try.ntmps69
    go_wp2
    go_ret
    exact ⟨congrArg (fun b => Ending.returned (Value.bool b)) HE.out.symm, H.out, Out.refl _ _⟩
  · rw [if_neg h1]
    by_cases h0 : S.plan = 0
    · rw [if_pos h0]
      rw [h0] at c2
      have HE := Lib.hid (show rpow S = false by unfold rpow; simp [h0])
      have HO := Lib.hid (((Out.refl F w).setCell (p := ⟨p, 1, none⟩) (.inl h.fp) (.bool true)).setCell (p := ⟨p, 2, none⟩) (.inl h.fp) (.int .i64 (-1)))
      have HS := Lib.hid ((h.setOff true).setPlan (-1) (by omega))
      clear h h1 h0
      go_enter Try.func69, Try.ntmps69
      go_wp2
      go_ret
      exact ⟨congrArg (fun b => Ending.returned (Value.bool b)) HE.out.symm, HS.out, HO.out⟩
    · rw [if_neg h0]
      have HE := Lib.hid (show rpow S = true by unfold rpow; simp [h0])
      have HO := Lib.hid ((Out.refl F w).setCell (p := ⟨p, 2, none⟩) (.inl h.fp) (.int .i64 (S.plan - 1)))
      have HS := Lib.hid (h.setPlan (S.plan - 1) (by omega))
      obtain ⟨q, hq⟩ : ∃ q, q = S.plan := ⟨_, rfl⟩
      rw [← hq] at c2 h0 h1 hpl
      have HQ := Lib.hid hq
      have hq1 : 0 < q := by omega
      have hq2 : (q == 0) = false := by simpa using h0
      clear h h1 h0 hq
      go_enter Try.func69, Try.ntmps69
      go_wp2
      go_ret
      exact ⟨congrArg (fun b => Ending.returned (Value.bool b)) HE.out.symm, by rw [HQ.out]; exact HS.out, by rw [HQ.out]; exact HO.out⟩
end

theorem rcopied (w : World) (A : Option Addr) (c : Nat) (zs : List Int) (h : RB w A 64 zs) :
    Calls Try.prog 70 #[.slice A 64 c] w fun e w' => ∃ cap, e = .returned (.slice (some ⟨w.heap.size, 0, none⟩) 64 cap) ∧ 64 ≤ cap ∧ RB w' (some ⟨w.heap.size, 0, none⟩) 64 zs ∧ Below w.heap.size w w' ∧ w.heap.size < w'.heap.size := by
  have H := Lib.hid h
  go_enter Try.func70, Try.ntmps70
  go_wp2_with (at_builtin; refine nil_append_u8 rfl (.const (.slice none 0 0)) (.tmp 3) rfl rfl A 64 c zs rfl H.out (by decide) (by decide) ?_; intro cap w1 h1 h2 hr hu hb hl; have HR := Lib.hid hr; have HB := Lib.hid hb; clear hr hu hb)
  go_ret
  exact ⟨cap, rfl, h1, HR.out, HB.out, hl⟩
end Go.Proofs.Ytapjgancaldgaaa
