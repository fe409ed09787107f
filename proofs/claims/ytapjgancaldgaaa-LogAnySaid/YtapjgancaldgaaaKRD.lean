import Derived.Test.YtapjgancaldgaaaDHas
import Derived.Test.YtapjgancaldgaaaDOwnA
import Derived.Test.YtapjgancaldgaaaDOwnB
import Derived.Deep.RegionHeld3
/- The reference's disk: how it lies in memory, over the same plain state. -/
namespace Go.Proofs.Ytapjgancaldgaaa
set_option maxRecDepth 100000
open Go.RowKit

/-- A row of pending writes at vw reads as l; its blocks are among F and none of p, gd, gt. -/
structure RWait (F : Nat → Prop) (w : World) (vw : Value) (l : List Wr) (p gd gt : Nat) : Prop where
  nil_ : l = [] → vw = .slice none 0 0
  row : l ≠ [] → ∃ g cap, vw = .slice (some ⟨g, 0, none⟩) l.length cap ∧ g < w.heap.size ∧ F g ∧ g ≠ p ∧ g ≠ gd ∧ g ≠ gt ∧ ∀ (i : Nat) (x : Wr), l[i]? = some x →
    ∃ b cb, w.cell? ⟨g, i * 2, none⟩ = some (.int .i64 (x.p : Int)) ∧ w.cell? ⟨g, i * 2 + 1, none⟩ = some (.slice (some ⟨b, 0, none⟩) 64 cb) ∧ 64 ≤ cb ∧ RB w (some ⟨b, 0, none⟩) 64 x.b ∧ b < w.heap.size ∧ F b ∧ b ≠ p ∧ b ≠ gd ∧ b ≠ gt

structure Rf (F : Nat → Prop) (w : World) (p : Nat) (S : St) (vs : List Value) (gd cd gt ct : Nat) (vw : Value) : Prop where
  wf : Wf S
  blk : w.heap[p]? = some (.cells #[.bool true, .bool S.off, .int .i64 S.plan, .slice (some ⟨gd, 0, none⟩) S.last.length cd, .slice (some ⟨gt, 0, none⟩) S.last.length ct, vw, .int .i64 S.writes, .int .i64 S.syncs] 31 (0, 0))
  data : w.ownsRow 0 34 1 (.slice (some ⟨gd, 0, none⟩) S.last.length cd) S.last.length vs
  torn : w.ownsRow 0 4 1 (.slice (some ⟨gt, 0, none⟩) S.last.length ct) S.last.length (S.last.map fun c => .bool c.t)
  at_ : ∀ (i : Nat) (c : Cn), S.last[i]? = some c → ∃ g cap, vs[i]? = some (.slice (some ⟨g, 0, none⟩) 64 cap) ∧ 64 ≤ cap ∧ RB w (some ⟨g, 0, none⟩) 64 c.b ∧ g < w.heap.size ∧ F g ∧ g ≠ p ∧ g ≠ gd ∧ g ≠ gt
  wait : RWait F w vw S.pend p gd gt
  fp : F p
  fd : F gd
  ft : F gt
  pd : p ≠ gd
  pt : p ≠ gt
  dt : gd ≠ gt

/-- A reference's disk. -/
def RD (F : Nat → Prop) (w : World) (p : Nat) (S : St) : Prop := ∃ vs gd cd gt ct vw, Rf F w p S vs gd cd gt ct vw

theorem rb_stays {w w' : World} {g n : Nat} {zs : List Int} (h : RB w (some ⟨g, 0, none⟩) n zs) (hk : w'.heap[g]? = w.heap[g]?) : RB w' (some ⟨g, 0, none⟩) n zs :=
  ⟨h.len, h.byte, fun hn => by
    obtain ⟨ad, e, hc⟩ := h.cell hn
    cases e
    exact ⟨_, rfl, fun j hj => (World.cell?_of_block (by rw [block_add]; exact hk)).trans (hc j hj)⟩⟩
section
variable {F F' : Nat → Prop} {w w' : World} {p : Nat} {S : St} {vs : List Value} {gd cd gt ct : Nat} {vw : Value} {l : List Wr}
theorem RWait.stays (h : RWait F w vw l p gd gt) (hk : ∀ k, k < w.heap.size → F k → k ≠ p → k ≠ gd → k ≠ gt → w'.heap[k]? = w.heap[k]?) (hs : w.heap.size ≤ w'.heap.size) (hF : ∀ k, k < w.heap.size → F k → F' k) : RWait F' w' vw l p gd gt :=
  ⟨h.nil_, fun hn => by
    obtain ⟨g, cap, e, hl, hf, n1, n2, n3, hr⟩ := h.row hn
    refine ⟨g, cap, e, Nat.lt_of_lt_of_le hl hs, hF g hl hf, n1, n2, n3, fun i x hx => ?_⟩
    obtain ⟨b, cb, c1, c2, hc, rb, lb, fb, m1, m2, m3⟩ := hr i x hx
    have eg := hk g hl hf n1 n2 n3
    exact ⟨b, cb, (World.cell?_of_block (a := ⟨g, i * 2, none⟩) eg).trans c1, (World.cell?_of_block (a := ⟨g, i * 2 + 1, none⟩) eg).trans c2, hc, rb_stays rb (hk b lb fb m1 m2 m3), Nat.lt_of_lt_of_le lb hs, hF b lb fb, m1, m2, m3⟩⟩
theorem Rf.plt (h : Rf F w p S vs gd cd gt ct vw) : p < w.heap.size := (Array.getElem?_eq_some_iff.1 h.blk).1
theorem Rf.dlt (h : Rf F w p S vs gd cd gt ct vw) : gd < w.heap.size := (h.data.lt gd rfl).2
theorem Rf.tlt (h : Rf F w p S vs gd cd gt ct vw) : gt < w.heap.size := (h.torn.lt gt rfl).2
theorem Rf.stays' (h : Rf F w p S vs gd cd gt ct vw) (hk : ∀ k, k < w.heap.size → F k → w'.heap[k]? = w.heap[k]?) (hs : w.heap.size ≤ w'.heap.size) (hF : ∀ k, k < w.heap.size → F k → F' k) : Rf F' w' p S vs gd cd gt ct vw :=
  ⟨h.wf, (hk p h.plt h.fp).trans h.blk, own_stays h.data fun k e => by
      have : gd = k := by simpa [Value.ownBlock] using e
      subst this; exact hk gd h.dlt h.fd,
    own_stays h.torn fun k e => by
      have : gt = k := by simpa [Value.ownBlock] using e
      subst this; exact hk gt h.tlt h.ft,
    fun i c hc => by
      obtain ⟨g, cap, e, hcap, rb, lg, fg, n⟩ := h.at_ i c hc
      exact ⟨g, cap, e, hcap, rb_stays rb (hk g lg fg), Nat.lt_of_lt_of_le lg hs, hF g lg fg, n⟩,
    h.wait.stays (fun k hl hf _ _ _ => hk k hl hf) hs hF, hF p h.plt h.fp, hF gd h.dlt h.fd, hF gt h.tlt h.ft, h.pd, h.pt, h.dt⟩
theorem Rf.stays (h : Rf F w p S vs gd cd gt ct vw) (hk : ∀ k, k < w.heap.size → F k → w'.heap[k]? = w.heap[k]?) (hs : w.heap.size ≤ w'.heap.size) : Rf F w' p S vs gd cd gt ct vw := h.stays' hk hs fun _ _ h => h
theorem Rf.mono (h : Rf F w p S vs gd cd gt ct vw) (hF : ∀ k, k < w.heap.size → F k → F' k) : Rf F' w p S vs gd cd gt ct vw := h.stays' (fun _ _ _ => rfl) (Nat.le_refl _) hF
theorem Rf.below (h : Rf F w p S vs gd cd gt ct vw) (hb : Below w.heap.size w w') : Rf F w' p S vs gd cd gt ct vw := h.stays (fun k hk _ => hb.block k hk) hb.size
theorem Rf.drew (h : Rf F w p S vs gd cd gt ct vw) : Rf F w.drew p S vs gd cd gt ct vw := h.stays (fun _ _ _ => rfl) (Nat.le_refl _)
theorem Rf.cell (h : Rf F w p S vs gd cd gt ct vw) (j : Nat) : w.cell? ⟨p, j, none⟩ = #[.bool true, .bool S.off, .int .i64 S.plan, .slice (some ⟨gd, 0, none⟩) S.last.length cd, .slice (some ⟨gt, 0, none⟩) S.last.length ct, vw, .int .i64 S.writes, .int .i64 S.syncs][j]? := cell_of_row w p j _ _ _ h.blk
theorem Rf.frozen (h : Rf F w p S vs gd cd gt ct vw) (j : Nat) : w.frozen? ⟨p, j, none⟩ = false := frozen_of_row w p j _ _ h.blk

/-- Another header over the same rows. -/
theorem Rf.head (h : Rf F w p S vs gd cd gt ct vw) (w2 : World) (S' : St) (vw' : Value) (hl : S'.last = S.last) (hpb : ∀ x ∈ S'.pend, B64 x.b) (hpp : ∀ x ∈ S'.pend, x.p < S.last.length) (hw : -1 ≤ S'.plan ∧ S'.plan ≤ 9223372036854775807)
    (hb : w2.heap[p]? = some (.cells #[.bool true, .bool S'.off, .int .i64 S'.plan, .slice (some ⟨gd, 0, none⟩) S'.last.length cd, .slice (some ⟨gt, 0, none⟩) S'.last.length ct, vw', .int .i64 S'.writes, .int .i64 S'.syncs] 31 (0, 0)))
    (ho : ∀ k, k < w.heap.size → k ≠ p → w2.heap[k]? = w.heap[k]?) (hs : w.heap.size ≤ w2.heap.size) (hwait : RWait F w2 vw' S'.pend p gd gt) : Rf F w2 p S' vs gd cd gt ct vw' := by
  refine ⟨⟨by rw [hl]; exact h.wf.lo, by rw [hl]; exact h.wf.hi, by rw [hl]; exact h.wf.lb, hpb, by rw [hl]; exact hpp, hw⟩, hb, ?_, ?_, ?_, hwait, h.fp, h.fd, h.ft, h.pd, h.pt, h.dt⟩
  · rw [hl]; exact own_stays h.data fun k e => by
      have : gd = k := by simpa [Value.ownBlock] using e
      subst this; exact ho gd h.dlt h.pd.symm
  · rw [hl]; exact own_stays h.torn fun k e => by
      have : gt = k := by simpa [Value.ownBlock] using e
      subst this; exact ho gt h.tlt h.pt.symm
  · rw [hl]
    intro i c hc
    obtain ⟨g, cap, e, hcap, rb, lg, fg, n⟩ := h.at_ i c hc
    exact ⟨g, cap, e, hcap, rb_stays rb (ho g lg n.1), Nat.lt_of_lt_of_le lg hs, fg, n⟩
theorem Rf.setCell (h : Rf F w p S vs gd cd gt ct vw) (S' : St) (j : Nat) (v : Value) (hl : S'.last = S.last) (hp : S'.pend = S.pend) (hw : -1 ≤ S'.plan ∧ S'.plan ≤ 9223372036854775807)
    (hb : (#[.bool true, .bool S.off, .int .i64 S.plan, .slice (some ⟨gd, 0, none⟩) S.last.length cd, .slice (some ⟨gt, 0, none⟩) S.last.length ct, vw, .int .i64 S.writes, .int .i64 S.syncs] : Array Value).setIfInBounds j v = #[.bool true, .bool S'.off, .int .i64 S'.plan, .slice (some ⟨gd, 0, none⟩) S'.last.length cd, .slice (some ⟨gt, 0, none⟩) S'.last.length ct, vw, .int .i64 S'.writes, .int .i64 S'.syncs]) :
    Rf F (w.setCell ⟨p, j, none⟩ v) p S' vs gd cd gt ct vw :=
  h.head _ S' vw hl (by rw [hp]; exact h.wf.pb) (by rw [hp]; exact h.wf.pp) hw (by rw [blk_set h.blk, hb]) (fun k _ hk => heap_setCell_ne _ _ _ _ k hk) (by simp [World.setCell])
    (by rw [hp]; exact h.wait.stays (fun k _ _ hk _ _ => heap_setCell_ne _ _ _ _ k hk) (by simp [World.setCell]) (fun _ _ h => h))
theorem Rf.setOff (h : Rf F w p S vs gd cd gt ct vw) (b : Bool) : Rf F (w.setCell ⟨p, 1, none⟩ (.bool b)) p { S with off := b } vs gd cd gt ct vw := h.setCell { S with off := b } 1 _ rfl rfl h.wf.pl rfl
theorem Rf.setPlan (h : Rf F w p S vs gd cd gt ct vw) (q : Int) (hq : -1 ≤ q ∧ q ≤ 9223372036854775807) : Rf F (w.setCell ⟨p, 2, none⟩ (.int .i64 q)) p { S with plan := q } vs gd cd gt ct vw := h.setCell { S with plan := q } 2 _ rfl rfl hq rfl
theorem Rf.setWrites (h : Rf F w p S vs gd cd gt ct vw) (q : Int) : Rf F (w.setCell ⟨p, 6, none⟩ (.int .i64 q)) p { S with writes := q } vs gd cd gt ct vw := h.setCell { S with writes := q } 6 _ rfl rfl h.wf.pl rfl
theorem Rf.setSyncs (h : Rf F w p S vs gd cd gt ct vw) (q : Int) : Rf F (w.setCell ⟨p, 7, none⟩ (.int .i64 q)) p { S with syncs := q } vs gd cd gt ct vw := h.setCell { S with syncs := q } 7 _ rfl rfl h.wf.pl rfl
theorem Rf.setNone (h : Rf F w p S vs gd cd gt ct vw) : Rf F (w.setCell ⟨p, 5, none⟩ (.slice none 0 0)) p { S with pend := [] } vs gd cd gt ct (.slice none 0 0) :=
  h.head _ { S with pend := [] } _ rfl (by simp) (by simp) h.wf.pl (by rw [blk_set h.blk]; rfl) (fun k _ hk => heap_setCell_ne _ _ _ _ k hk) (by simp [World.setCell]) ⟨fun _ => rfl, fun hn => absurd rfl hn⟩
end
end Go.Proofs.Ytapjgancaldgaaa

/- The reference's small calls: power, copied, Plan. -/
namespace Go.Proofs.Ytapjgancaldgaaa
set_option maxRecDepth 100000
open Go.RowKit

theorem Gr.of {F : Nat → Prop} {w : World} {k : Nat} (h : F k) : Gr F w k := .inl h

/-- Is there power for one more? -/
def rpow (S : St) : Bool := decide (S.plan ≠ 0)

section
variable {F : Nat → Prop} {w : World} {p : Nat} {S : St} {vs : List Value} {gd cd gt ct : Nat} {vw : Value}
/-- One block anew: its torn mark, then its bytes. -/
theorem Rf.setBlock (h : Rf F w p S vs gd cd gt ct vw) (n : Nat) (hn : n < S.last.length) (c : Cn) (hc : B64 c.b) (W : World) (hW : Below w.heap.size (w.setCell ⟨gt, n, none⟩ (.bool c.t)) W) (g cap : Nat) (hr : RB W (some ⟨g, 0, none⟩) 64 c.b) (h1 : w.heap.size ≤ g) (h2 : g < W.heap.size) (hcap : 64 ≤ cap) :
    Rf (Gr F w) (W.setCell ⟨gd, n, none⟩ (.slice (some ⟨g, 0, none⟩) 64 cap)) p { S with last := S.last.set n c } (vs.set n (.slice (some ⟨g, 0, none⟩) 64 cap)) gd cd gt ct vw := by
  have hp := h.plt
  have hd := h.dlt
  have ht := h.tlt
  have hsz : w.heap.size ≤ W.heap.size := by have := hW.size; simpa [World.setCell] using this
  have hot : ∀ k, k < w.heap.size → k ≠ gd → k ≠ gt → (W.setCell ⟨gd, n, none⟩ (.slice (some ⟨g, 0, none⟩) 64 cap)).heap[k]? = w.heap[k]? := fun k hk n1 n2 =>
    (heap_setCell_ne _ _ _ _ k n1).trans ((hW.block k (by simpa [World.setCell] using hk)).trans (heap_setCell_ne _ _ _ _ k n2))
  have hs' : (W.setCell ⟨gd, n, none⟩ (.slice (some ⟨g, 0, none⟩) 64 cap)).heap.size = W.heap.size := by simp [World.setCell]
  have hdat : W.ownsRow 0 34 1 (.slice (some ⟨gd, 0, none⟩) S.last.length cd) S.last.length vs := own_stays h.data fun k e => by
    have : gd = k := by simpa [Value.ownBlock] using e
    subst this
    exact (hW.block gd (by simpa [World.setCell] using hd)).trans (heap_setCell_ne _ _ _ _ gd h.dt)
  have htor := (h.torn.stored n (.bool c.t)).1
  have hlen : (S.last.set n c).length = S.last.length := by simp
  refine ⟨⟨by rw [hlen]; exact h.wf.lo, by rw [hlen]; exact h.wf.hi, fun x hx => ?_, h.wf.pb, fun x hx => by rw [hlen]; exact h.wf.pp x hx, h.wf.pl⟩, ?_, ?_, ?_, ?_, ?_, .inl h.fp, .inl h.fd, .inl h.ft, h.pd, h.pt, h.dt⟩
  · rcases List.mem_or_eq_of_mem_set hx with hx | rfl
    · exact h.wf.lb x hx
    · exact hc
  · simp only [hlen]
    exact (hot p hp h.pd h.pt).trans h.blk
  · simp only [hlen]
    exact (hdat.stored n _).1
  · simp only [hlen]
    rw [List.map_set]
    exact own_stays htor fun k e => by
      have : gt = k := by simpa [Value.ownBlock] using e
      subst this
      exact (heap_setCell_ne _ _ _ _ gt h.dt.symm).trans (hW.block gt (by simpa [World.setCell] using ht))
  · intro i x hx
    simp only at hx
    by_cases e : n = i
    · subst e
      rw [List.getElem?_set_self hn] at hx
      cases hx
      have hvl : n < vs.length := by have := h.data.1; omega
      refine ⟨g, cap, by rw [List.getElem?_set_self hvl], hcap, rb_stays hr (heap_setCell_ne _ _ _ _ g (by omega)), by rw [hs']; exact h2, .inr h1, by omega, by omega, by omega⟩
    · rw [List.getElem?_set_ne e] at hx
      obtain ⟨g', cap', e', hc', rb, lg, fg, n1, n2, n3⟩ := h.at_ i x hx
      exact ⟨g', cap', by rw [List.getElem?_set_ne e]; exact e', hc', rb_stays rb (hot g' lg n2 n3), by rw [hs']; omega, .inl fg, n1, n2, n3⟩
  · exact h.wait.stays (fun k hk _ _ n1 n2 => hot k hk n1 n2) (by rw [hs']; exact hsz) (fun k _ hf => .inl hf)

theorem Rf.spend_ (h : Rf F w p S vs gd cd gt ct vw) : Calls Try.prog 69 #[.pointer (some ⟨p, 0, none⟩)] w fun e w' => e = .returned (.bool (rpow S)) ∧ Rf F w' p (spendS S) vs gd cd gt ct vw ∧ Out F w w' := by
  have c2 := h.cell 2
  have f2 := h.frozen 2
  have c1 := h.cell 1
  have f1 := h.frozen 1
  have hpl := h.wf.pl
  have H := Lib.hid h
  unfold spendS
  by_cases h1 : S.plan = -1
  · rw [if_pos h1]
    rw [h1] at c2
    have HE := Lib.hid (show rpow S = true by unfold rpow; simp; omega)
    clear h h1
    go_enter Try.func69, Try.ntmps69
    go_wp2
    go_ret
    exact ⟨congrArg (fun b => Ending.returned (Value.bool b)) HE.out.symm, H.out, Out.refl _ _⟩
  · rw [if_neg h1]
    by_cases h0 : S.plan = 0
    · rw [if_pos h0]
      rw [h0] at c2
      have HE := Lib.hid (show rpow S = false by unfold rpow; simp [h0])
      have HO := Lib.hid (((Out.refl F w).setCell (p := ⟨p, 1, none⟩) (.inl h.fp) (.bool true)).setCell (p := ⟨p, 2, none⟩) (.inl h.fp) (.int .i64 (-1)))
      have HS := Lib.hid ((h.setOff true).setPlan (-1) (by omega))
      clear h h1 h0
      go_enter Try.func69, Try.ntmps69
      go_wp2
      go_ret
      exact ⟨congrArg (fun b => Ending.returned (Value.bool b)) HE.out.symm, HS.out, HO.out⟩
    · rw [if_neg h0]
      have HE := Lib.hid (show rpow S = true by unfold rpow; simp [h0])
      have HO := Lib.hid ((Out.refl F w).setCell (p := ⟨p, 2, none⟩) (.inl h.fp) (.int .i64 (S.plan - 1)))
      have HS := Lib.hid (h.setPlan (S.plan - 1) (by omega))
      obtain ⟨q, hq⟩ : ∃ q, q = S.plan := ⟨_, rfl⟩
      rw [← hq] at c2 h0 h1 hpl
      have HQ := Lib.hid hq
      have hq1 : 0 < q := by omega
      have hq2 : (q == 0) = false := by simpa using h0
      clear h h1 h0 hq
      go_enter Try.func69, Try.ntmps69
      go_wp2
      go_ret
      exact ⟨congrArg (fun b => Ending.returned (Value.bool b)) HE.out.symm, by rw [HQ.out]; exact HS.out, by rw [HQ.out]; exact HO.out⟩
end

theorem rcopied (w : World) (A : Option Addr) (c : Nat) (zs : List Int) (h : RB w A 64 zs) :
    Calls Try.prog 70 #[.slice A 64 c] w fun e w' => ∃ cap, e = .returned (.slice (some ⟨w.heap.size, 0, none⟩) 64 cap) ∧ 64 ≤ cap ∧ RB w' (some ⟨w.heap.size, 0, none⟩) 64 zs ∧ Below w.heap.size w w' ∧ w.heap.size < w'.heap.size := by
  have H := Lib.hid h
  go_enter Try.func70, Try.ntmps70
  go_wp2_with (at_builtin; refine nil_append_u8 rfl (.const (.slice none 0 0)) (.tmp 3) rfl rfl A 64 c zs rfl H.out (by decide) (by decide) ?_; intro cap w1 h1 h2 hr hu hb hl; have HR := Lib.hid hr; have HB := Lib.hid hb; clear hr hu hb)
  go_ret
  exact ⟨cap, rfl, h1, HR.out, HB.out, hl⟩
end Go.Proofs.Ytapjgancaldgaaa

/- The reference's Plan, tear and lay. -/
namespace Go.Proofs.Ytapjgancaldgaaa
set_option maxRecDepth 100000
open Go.RowKit

section
variable {F : Nat → Prop} {w : World} {p : Nat} {S : St} {vs : List Value} {gd cd gt ct : Nat} {vw : Value}
theorem Rf.tornAt (h : Rf F w p S vs gd cd gt ct vw) {n : Nat} {c : Cn} (hc : S.last[n]? = some c) : w.cell? ⟨gt, n, none⟩ = some (.bool c.t) ∧ w.frozen? ⟨gt, n, none⟩ = false := by
  have hn : n < S.last.length := (List.getElem?_eq_some_iff.1 hc).1
  exact ⟨by rw [h.torn.cellAt n (by omega)]; simp [hc], h.torn.frozenAt n⟩
theorem Rf.dataAt (h : Rf F w p S vs gd cd gt ct vw) {n : Nat} {v : Value} (hc : vs[n]? = some v) : w.cell? ⟨gd, n, none⟩ = some v ∧ w.frozen? ⟨gd, n, none⟩ = false := by
  have hn : n < vs.length := (List.getElem?_eq_some_iff.1 hc).1
  have := h.data.1
  exact ⟨by rw [h.data.cellAt n (by omega)]; exact hc, h.data.frozenAt n⟩

set_option maxHeartbeats 1000000 in
theorem rtear (h : Rf F w p S vs gd cd gt ct vw) (n : Nat) (hn : n < S.last.length) :
    Calls Try.prog 68 #[.pointer (some ⟨p, 0, none⟩), .int .i64 (n : Int)] w fun e w' => e = .returned (.tuple #[]) ∧ (∃ vs', Rf (Gr F w) w' p { S with last := S.last.set n ⟨zero64, true⟩ } vs' gd cd gt ct vw) ∧ Out F w w' := by
  obtain ⟨c, hc⟩ : ∃ c, S.last[n]? = some c := ⟨_, List.getElem?_eq_getElem hn⟩
  obtain ⟨k1, k2⟩ := h.tornAt hc
  have c3 := h.cell 3
  have c4 := h.cell 4
  have hvl : n < vs.length := by have := h.data.1; omega
  obtain ⟨d1, d2⟩ := h.dataAt (List.getElem?_eq_getElem hvl)
  obtain ⟨v0, hv0⟩ : ∃ v0, v0 = vs[n] := ⟨_, rfl⟩
  rw [← hv0] at d1
  clear hv0
  have hni : (n : Int) < (S.last.length : Int) := by omega
  -- behind the first store
  obtain ⟨w1, hw1⟩ : ∃ W, W = w.setCell ⟨gt, n, none⟩ (.bool true) := ⟨_, rfl⟩
  have hw1r := hw1.symm
  have m3 : w1.cell? ⟨p, 3, none⟩ = some (.slice (some ⟨gd, 0, none⟩) S.last.length cd) := by rw [hw1, World.cell?_setCell_far _ _ _ _ (by simpa using h.pt.symm)]; exact c3
  have e1 : w1.cell? ⟨gd, n, none⟩ = some v0 := by rw [hw1, World.cell?_setCell_far _ _ _ _ (by simpa using h.dt.symm)]; exact d1
  have f1 : w1.frozen? ⟨gd, n, none⟩ = false := by rw [hw1]; simpa using d2
  have hmk := run_make_bytes w1.drew 64 64 (by omega) (by omega) (by omega)
  rw [show (64 : Int).toNat = 64 from rfl] at hmk
  obtain ⟨w2, hw2⟩ : ∃ W, W = w1.drew.alloc (.cells (madeCells #[.int .u8 0] 64) 5) := ⟨_, rfl⟩
  rw [← hw2] at hmk
  have hsz1 : w1.drew.heap.size = w.heap.size := by rw [hw1]; simp [World.setCell]
  have hb2 : Below w.heap.size w1 w2 := by rw [hw2]; exact ((Below.refl _ _).drew).alloc (by omega) _
  have HS := Lib.hid (h.setBlock n hn ⟨zero64, true⟩ b64_zero w2 (by rw [← hw1]; exact hb2) w1.drew.heap.size 64 (by rw [hw2]; exact rb_zeros w1.drew 64 (by omega)) (by omega) (by rw [hw2]; simp) (by omega))
  have g1 : w2.cell? ⟨gd, n, none⟩ = some v0 := (World.cell?_of_block (a := ⟨gd, n, none⟩) (hb2.block gd h.dlt)).trans e1
  have own2 : w2.ownsRow 0 34 1 (.slice (some ⟨gd, 0, none⟩) S.last.length cd) S.last.length vs := own_stays h.data fun k e => by
    have : gd = k := by simpa [Value.ownBlock] using e
    subst this
    exact (hb2.block gd h.dlt).trans (by rw [hw1]; exact heap_setCell_ne _ _ _ _ gd h.dt)
  have g2 := own2.frozenAt n
  have g3 : w2.cell? ⟨p, 3, none⟩ = some (.slice (some ⟨gd, 0, none⟩) S.last.length cd) := (World.cell?_of_block (a := ⟨p, 3, none⟩) (hb2.block p h.plt)).trans m3
  have HO := Lib.hid (show Out F w (w2.setCell ⟨gd, n, none⟩ (.slice (some ⟨w1.drew.heap.size, 0, none⟩) 64 64)) by
    refine Out.setCell ?_ (.inl h.fd) _
    refine (show Out F w w1 by rw [hw1]; exact (Out.refl F w).setCell (.inl h.ft) _).then ?_
    rw [hw2]; exact ((Out.refl F w1).drew).alloc _)
  clear hw1 hw2 hb2 hsz1 h hc own2 f1
  go_enter Try.func68, Try.ntmps68
  go_upto_region 1 with fail
  go_region
  all_goals go_wp2
  all_goals go_end0
  all_goals exact ⟨rfl, ⟨_, HS.out⟩, HO.out⟩

set_option maxHeartbeats 1000000 in
theorem rlay (h : Rf F w p S vs gd cd gt ct vw) (x : Wr) (hn : x.p < S.last.length) (hxb : B64 x.b) (b cb : Nat) (hr : RB w (some ⟨b, 0, none⟩) 64 x.b) (hbt : b ≠ gt) :
    Calls Try.prog 71 #[.pointer (some ⟨p, 0, none⟩), .agg #[.int .i64 (x.p : Int), .slice (some ⟨b, 0, none⟩) 64 cb]] w fun e w' => e = .returned (.tuple #[]) ∧ (∃ vs', Rf (Gr F w) w' p { S with last := S.last.set x.p ⟨x.b, false⟩ } vs' gd cd gt ct vw) ∧ Out F w w' := by
  obtain ⟨n, hxn⟩ : ∃ n, n = x.p := ⟨_, rfl⟩
  rw [← hxn] at hn ⊢
  obtain ⟨w0, hw0⟩ : ∃ W, W = w.alloc (.cells #[.int .i64 (n : Int), .slice (some ⟨b, 0, none⟩) 64 cb] 114) := ⟨_, rfl⟩
  have hbk : w0.heap[w.heap.size]? = some (.cells #[.int .i64 (n : Int), .slice (some ⟨b, 0, none⟩) 64 cb] 114 (0, 0)) := by rw [hw0]; exact heap_alloc_new _ _
  have bw0 : Below w.heap.size w w0 := by rw [hw0]; exact (Below.refl _ _).alloc (Nat.le_refl _) _
  have hw0r := hw0.symm
  have sz0 : w.heap.size < w0.heap.size := (Array.getElem?_eq_some_iff.1 hbk).1
  have h0 : Rf F w0 p S vs gd cd gt ct vw := h.below bw0
  obtain ⟨c, hc⟩ : ∃ c, S.last[n]? = some c := ⟨_, List.getElem?_eq_getElem hn⟩
  obtain ⟨k1, k2⟩ := h0.tornAt hc
  have c3 := h0.cell 3
  have c4 := h0.cell 4
  have x0 : w0.cell? ⟨w.heap.size, 0, none⟩ = some (.int .i64 (n : Int)) := by rw [cell_of_row _ _ _ _ _ _ hbk]; rfl
  have x1 : w0.cell? ⟨w.heap.size, 1, none⟩ = some (.slice (some ⟨b, 0, none⟩) 64 cb) := by rw [cell_of_row _ _ _ _ _ _ hbk]; rfl
  have hvl : n < vs.length := by have := h.data.1; omega
  have hni : (n : Int) < (S.last.length : Int) := by omega
  have H0 := Lib.hid h0
  have H := Lib.hid h
  have R0 := Lib.hid (hr.below' bw0)
  have BW0 := Lib.hid bw0
  have XB := Lib.hid hxb
  have XN := Lib.hid hxn
  have hpg : p < w.heap.size := h.plt
  have hdg : gd < w.heap.size := h.dlt
  have htg : gt < w.heap.size := h.tlt
  clear hw0 hbk bw0 h0 h hr hc hxn hxb
  go_enter Try.func71, Try.ntmps71
  go_upto_region 1 with fail
  go_region
  obtain ⟨w1, hw1⟩ : ∃ W, W = (w0.setCell ⟨gt, n, none⟩ (.bool false)).drew := ⟨_, rfl⟩
  rw [← hw1]
  have hsz1 : w1.heap.size = w0.heap.size := by rw [hw1]; simp [World.setCell]
  have hk1 : ∀ k, k ≠ gt → w1.heap[k]? = w0.heap[k]? := fun k hk => by rw [hw1]; exact heap_setCell_ne _ _ _ _ k hk
  have y0 : w1.cell? ⟨w.heap.size, 0, none⟩ = some (.int .i64 (n : Int)) := (World.cell?_of_block (a := ⟨w.heap.size, 0, none⟩) (hk1 w.heap.size (by omega))).trans x0
  have y1 : w1.cell? ⟨w.heap.size, 1, none⟩ = some (.slice (some ⟨b, 0, none⟩) 64 cb) := (World.cell?_of_block (a := ⟨w.heap.size, 1, none⟩) (hk1 w.heap.size (by omega))).trans x1
  have y3 : w1.cell? ⟨p, 3, none⟩ = some (.slice (some ⟨gd, 0, none⟩) S.last.length cd) := (World.cell?_of_block (a := ⟨p, 3, none⟩) (hk1 _ H.out.pt)).trans c3
  have rb1 : RB w1 (some ⟨b, 0, none⟩) 64 x.b := rb_stays R0.out (hk1 b hbt)
  have own1 : w1.ownsRow 0 34 1 (.slice (some ⟨gd, 0, none⟩) S.last.length cd) S.last.length vs := own_stays H0.out.data fun k e => by
    have : gd = k := by simpa [Value.ownBlock] using e
    subst this
    exact hk1 _ H0.out.dt
  have OW1 := Lib.hid own1
  have RB1 := Lib.hid rb1
  have HW1 := Lib.hid hw1
  have HK1 := Lib.hid hk1
  have HSZ := Lib.hid hsz1
  have hS1 : w1.drew.cell? ⟨w.heap.size, 0, none⟩ = some (.int .i64 (n : Int)) ∧ w1.drew.cell? ⟨w.heap.size, 1, none⟩ = some (.slice (some ⟨b, 0, none⟩) 64 cb) ∧ w1.drew.cell? ⟨p, 3, none⟩ = some (.slice (some ⟨gd, 0, none⟩) S.last.length cd) := ⟨y0, y1, y3⟩
  clear hw1 hk1 hsz1 own1 rb1 k1 k2 c3 c4 x0 x1 y0 y1 y3 hw0r
  go_wp2
  go_region_held3 (fun w' => w'.cell? ⟨w.heap.size, 0, none⟩ = some (.int .i64 (n : Int)) ∧ w'.cell? ⟨w.heap.size, 1, none⟩ = some (.slice (some ⟨b, 0, none⟩) 64 cb) ∧ w'.cell? ⟨p, 3, none⟩ = some (.slice (some ⟨gd, 0, none⟩) S.last.length cd)) (first | exact hS1 | exact hS4 | exact hS5)
    (first
      | (go_at_call 70; refine (rcopied w1.drew _ cb x.b (RB.drew RB1.out)).mono ?_; rintro e w4 ⟨cap, rfl, hcap, rb4, b4, l4⟩; have hS4 : w4.cell? ⟨w.heap.size, 0, none⟩ = some (.int .i64 (n : Int)) ∧ w4.cell? ⟨w.heap.size, 1, none⟩ = some (.slice (some ⟨b, 0, none⟩) 64 cb) ∧ w4.cell? ⟨p, 3, none⟩ = some (.slice (some ⟨gd, 0, none⟩) S.last.length cd) := ⟨keep_below hS1.1 b4, keep_below hS1.2.1 b4, keep_below hS1.2.2 b4⟩; have own4 := own_stays (w' := w4) OW1.out (fun k e => b4.block k (OW1.out.lt k e).2); have hT := own_there own4 n 1 (by have := own4.1; omega); have hk0 := (hT 0 (by omega)).1; have hf0 := (hT 0 (by omega)).2; obtain ⟨u0, hu0⟩ := Option.isSome_iff_exists.1 hk0; rw [Nat.add_zero] at hu0 hf0; have hS5 : (w4.setCell ⟨gd, n, none⟩ (.slice (some ⟨w1.drew.heap.size, 0, none⟩) 64 cap)).cell? ⟨w.heap.size, 0, none⟩ = some (.int .i64 (n : Int)) ∧ (w4.setCell ⟨gd, n, none⟩ (.slice (some ⟨w1.drew.heap.size, 0, none⟩) 64 cap)).cell? ⟨w.heap.size, 1, none⟩ = some (.slice (some ⟨b, 0, none⟩) 64 cb) ∧ (w4.setCell ⟨gd, n, none⟩ (.slice (some ⟨w1.drew.heap.size, 0, none⟩) 64 cap)).cell? ⟨p, 3, none⟩ = some (.slice (some ⟨gd, 0, none⟩) S.last.length cd) := (by rw [World.cell?_setCell_far _ _ _ _ (by simpa using Nat.ne_of_lt hdg), World.cell?_setCell_far _ _ _ _ (by simpa using Nat.ne_of_lt hdg), World.cell?_setCell_far _ _ _ _ (by simpa using H.out.pd.symm)]; exact hS4); have RB4 := Lib.hid rb4; have B4 := Lib.hid b4; have L4 := Lib.hid l4; clear hT hk0 own4 rb4 b4 l4))
  have sz : w1.drew.heap.size = w0.heap.size := HSZ.out
  have hbel : Below w0.heap.size (w0.setCell ⟨gt, n, none⟩ (.bool false)) w4 := by
    have h1 : Below w1.drew.heap.size w1.drew w4 := B4.out
    rw [sz] at h1
    refine Below.trans ?_ h1
    rw [HW1.out]
    exact ((Below.refl _ _).drew).drew
  have HS := Lib.hid ((H0.out.setBlock n hn ⟨x.b, false⟩ XB.out w4 hbel w1.drew.heap.size cap RB4.out (by omega) L4.out hcap).mono (F' := Gr F w) (fun k _ hf => by rcases hf with h1 | h1; exact .inl h1; exact .inr (by omega)))
  have HO := Lib.hid (show Out F w (w4.setCell ⟨gd, n, none⟩ (.slice (some ⟨w1.drew.heap.size, 0, none⟩) 64 cap)) by
    refine Out.setCell ?_ (.inl H.out.fd) _
    have o1 : Out F w (w0.setCell ⟨gt, n, none⟩ (.bool false)) := (Out.of_below BW0.out F).setCell (p := ⟨gt, n, none⟩) (.inl H.out.ft) _
    exact o1.then ⟨hbel.os, hbel.tape, hbel.output, hbel.size, fun i hi _ => by
      have : (w0.setCell ⟨gt, n, none⟩ (.bool false)).heap.size = w0.heap.size := by simp [World.setCell]
      exact hbel.block i (by omega)⟩)
  clear hS1 hS4 hS5 hu0 hf0 hbel
  go_wp2
  go_end0
  exact ⟨rfl, ⟨_, HS.out⟩, HO.out⟩
end
end Go.Proofs.Ytapjgancaldgaaa

/- The reference's Plan and Sync. -/
namespace Go.Proofs.Ytapjgancaldgaaa
set_option maxRecDepth 100000
open Go.RowKit

def RCodes (F : Nat → Prop) (w : World) (p : Nat) (S' : St) (c : Int) (e : Ending) (w' : World) : Prop :=
  e = .returned (.int .i64 c) ∧ RD (Gr F w) w' p S' ∧ Out F w w'
theorem rcodes {F : Nat → Prop} {w w' : World} {p : Nat} {S' : St} {c : Int} {vs : List Value} {gd cd gt ct : Nat} {vw : Value} (h : Rf F w' p S' vs gd cd gt ct vw) (ho : Out F w w') : RCodes F w p S' c (.returned (.int .i64 c)) w' :=
  ⟨rfl, ⟨vs, gd, cd, gt, ct, vw, h.mono fun _ _ hf => .inl hf⟩, ho⟩
theorem gr_gr {F : Nat → Prop} {w w1 : World} (hs : w.heap.size ≤ w1.heap.size) {k : Nat} (h : Gr (Gr F w) w1 k) : Gr F w k := by
  rcases h with h | h
  · exact h
  · exact .inr (by omega)
theorem out_gr {F : Nat → Prop} {w w1 w2 : World} (h : Out F w w1) (k : Out (Gr F w) w1 w2) : Out F w w2 :=
  h.trans k fun i hi hf => by
    rcases hf with hf | hf
    · exact hf
    · omega

theorem RWait.form {F : Nat → Prop} {w : World} {vw : Value} {l : List Wr} {p gd gt : Nat} (h : RWait F w vw l p gd gt) : ∃ A cap, vw = .slice A l.length cap := by
  by_cases hn : l = []
  · rw [h.nil_ hn, hn]; exact ⟨_, _, rfl⟩
  · obtain ⟨g, cap, e, _⟩ := h.row hn
    exact ⟨_, _, e⟩
section
variable {F : Nat → Prop} {w : World} {p : Nat} {S : St}
theorem Rf.setPlan2 {vs : List Value} {gd cd gt ct : Nat} {vw : Value} (h : Rf F w p S vs gd cd gt ct vw) (n q : Int) (hq : -1 ≤ q ∧ q ≤ 9223372036854775807) : Rf F ((w.setCell ⟨p, 2, none⟩ (.int .i64 n)).setCell ⟨p, 2, none⟩ (.int .i64 q)) p { S with plan := q } vs gd cd gt ct vw :=
  h.head _ { S with plan := q } vw rfl h.wf.pb h.wf.pp hq (by rw [blk_set (blk_set h.blk 2 _)]; rfl) (fun k _ hk => (heap_setCell_ne _ _ _ _ k hk).trans (heap_setCell_ne _ _ _ _ k hk)) (by simp [World.setCell])
    (h.wait.stays (fun k _ _ hk _ _ => (heap_setCell_ne _ _ _ _ k hk).trans (heap_setCell_ne _ _ _ _ k hk)) (by simp [World.setCell]) (fun _ _ h => h))
theorem rplan (h : RD F w p S) (n : Int) (hn : -9223372036854775808 ≤ n ∧ n ≤ 9223372036854775807) :
    Calls Try.prog 58 #[.pointer (some ⟨p, 0, none⟩), .int .i64 n] w (RCodes F w p (planS S n) (if S.off then 22 else 0)) := by
  obtain ⟨vs, gd, cd, gt, ct, vw, h⟩ := h
  have c0 := h.cell 0
  have c1 := h.cell 1
  have c2 := h.cell 2
  have f2 := h.frozen 2
  unfold planS
  by_cases ho : S.off = true
  · rw [if_pos ho, if_pos ho]
    rw [ho] at c1
    have HE := Lib.hid (rcodes (c := 22) h (Out.refl F w))
    clear h ho
    go_enter Try.func58, Try.ntmps58
    go_wp2
    go_ret
    exact HE.out
  · rw [if_neg ho, if_neg ho]
    have ho2 : S.off = false := by simpa using ho
    rw [ho2] at c1
    clear ho2
    by_cases hneg : n < 0
    · have hm : max n (-1) = -1 := by omega
      rw [hm]
      have HE := Lib.hid (rcodes (c := 0) (h.setPlan2 n (-1) (by omega)) (((Out.refl F w).setCell (p := ⟨p, 2, none⟩) (.inl h.fp) (.int .i64 n)).setCell (p := ⟨p, 2, none⟩) (.inl h.fp) (.int .i64 (-1))))
      clear h ho hm
      go_enter Try.func58, Try.ntmps58
      go_wp2
      go_ret
      exact HE.out
    · have hm : max n (-1) = n := by omega
      rw [hm]
      have hneg2 : decide (n < 0) = false := by simp; omega
      have HE := Lib.hid (rcodes (c := 0) ((h.setPlan n (by omega))) ((Out.refl F w).setCell (p := ⟨p, 2, none⟩) (.inl h.fp) (.int .i64 n)))
      clear h ho hm
      go_enter Try.func58, Try.ntmps58
      go_wp2
      go_ret
      exact HE.out

set_option maxHeartbeats 2000000 in
theorem rsync (h : RD F w p S) (hm : S.pend.length ≤ 4398046511104) :
    Calls Try.prog 27 #[.pointer (some ⟨p, 0, none⟩)] w (RCodes F w p (syncS S) (syncE S)) := by
  obtain ⟨vs, gd, cd, gt, ct, vw, h⟩ := h
  have c0 := h.cell 0
  have c1 := h.cell 1
  have sp := h.spend_
  unfold syncS syncE
  by_cases ho : S.off = true
  · rw [if_pos ho, if_pos ho]
    rw [ho] at c1
    have HE := Lib.hid (rcodes (c := 22) h (Out.refl F w))
    clear h ho sp
    go_enter Try.func27, Try.ntmps27
    go_wp2
    go_ret
    exact HE.out
  · rw [if_neg ho, if_neg ho]
    have ho2 : S.off = false := by simpa using ho
    rw [ho2] at c1
    clear ho2
    by_cases h0 : S.plan = 0
    · have e0 : spendE S = 22 := by unfold spendE; rw [if_pos h0]
      have e1 : rpow S = false := by unfold rpow; simp [h0]
      rw [if_pos h0, e0]
      rw [e1] at sp
      clear h ho h0 e0 e1
      go_enter Try.func27, Try.ntmps27
      go_wp2_with (go_at_call 69; refine sp.mono ?_; rintro e w1 ⟨rfl, h1, o1⟩; have HE := Lib.hid (rcodes (c := 22) h1 o1); clear h1 o1)
      go_ret
      exact HE.out
    · have e0 : spendE S = 0 := by unfold spendE; rw [if_neg h0]
      have e1 : rpow S = true := by unfold rpow; simp [h0]
      rw [if_neg h0, e0]
      rw [e1] at sp
      obtain ⟨T, hT⟩ : ∃ T, T = spendS S := ⟨_, rfl⟩
      rw [← hT] at sp ⊢
      have hl : S.last = T.last := by rw [hT, spendS_last]
      have hp : S.pend = T.pend := by rw [hT, spendS_pend]
      have hsy : S.syncs = T.syncs := by rw [hT]; unfold spendS; split <;> (try split) <;> rfl
      rw [hl, hp, hsy]
      rw [hp] at hm
      have HM := Lib.hid hm
      clear h ho h0 e0 e1 hT hl hp hsy
      go_enter Try.func27, Try.ntmps27
      go_upto_region 5 with (go_at_call 69; refine sp.mono ?_; rintro e w1 ⟨rfl, h1, o1⟩; have H1 := Lib.hid h1; have O1 := Lib.hid o1; clear h1 o1 sp)
      go_wp2
      have hm2 := HM.out
      clear hm
      go_loopw [3] (fun i wr => ∃ (k : Nat) (vs' : List Value), i = .int .i64 (k : Nat) ∧ k ≤ T.pend.length ∧ Rf (Gr F w) wr p { T with last := layAll T.last (T.pend.take k) (ones k) } vs' gd cd gt ct vw ∧ Out F w wr) (fun i _ => T.pend.length - (intOf i).toNat)
      case atStart => exact ⟨0, vs, rfl, Nat.zero_le _, H1.out.mono (fun _ _ hf => .inl hf), O1.out⟩
      case round =>
        obtain ⟨k, vs', rfl, hk, hR, hO⟩ := hrel
        have d5 := hR.cell 5
        by_cases hlt : k < T.pend.length
        · obtain ⟨x, hx⟩ : ∃ x, T.pend[k]? = some x := ⟨_, List.getElem?_eq_getElem hlt⟩
          obtain ⟨g, cap, rfl, hgl, hgF, -, -, -, hrow⟩ := hR.wait.row (by show T.pend ≠ []; intro e; rw [e] at hlt; simp at hlt)
          obtain ⟨b, cb, p1, p2, hcb, rb, lb, fb, m1, m2, m3⟩ := hrow k x hx
          have hxb := hR.wf.pb x (List.mem_of_getElem? hx)
          have hxp := hR.wf.pp x (List.mem_of_getElem? hx)
          have LY := Lib.hid (rlay hR x hxp hxb b cb rb m3)
          have HR := Lib.hid (show wr.rangeAt g (k * 2) [.int .i64 (x.p : Int), .slice (some ⟨b, 0, none⟩) 64 cb] from fun i v hv => by
            rcases i with _ | _ | i
            · simp at hv; subst hv; exact p1
            · simp at hv; subst hv; exact p2
            · simp at hv)
          have HI := Lib.hid (show (Try.prog.info? 114).map (·.size) = some [Value.int .i64 (x.p : Int), .slice (some ⟨b, 0, none⟩) 64 cb].length by rfl)
          have HL := Lib.hid (show settleL (layAll T.last (T.pend.take k) (ones k)) x 1 = layAll T.last (T.pend.take (k + 1)) (ones (k + 1)) by
            rw [List.take_add_one, hx, ones_succ]
            exact (layAll_snoc _ _ _ _ _ (by simp [ones]; omega)).symm)
          have HO := Lib.hid hO
          have HSZ := Lib.hid hO.size
          have hki : (k : Int) < (T.pend.length : Int) := by omega
          clear hR hO hx hrow p1 p2 rb
          go_wp2_with (first
            | (with_reducible refine wpList_load_mid rfl 114 (.tmp 35) rfl g (k * 2) rfl [.int .i64 (x.p : Int), .slice (some ⟨b, 0, none⟩) 64 cb] _ HR.out Try.underlying114 rfl HI.out ?_)
            | (go_at_call 71; refine LY.out.mono ?_; rintro e w3 ⟨rfl, ⟨vs3, h3⟩, o3⟩; have H3 := Lib.hid h3; have O3 := Lib.hid o3; clear h3 o3))
          go_roundw
          case rel =>
            have h3 := H3.out
            refine ⟨k + 1, vs3, by go_num, hlt, ?_, out_gr HO.out O3.out⟩
            rw [← HL.out]
            exact h3.mono (fun _ _ hf => gr_gr HSZ.out hf)
          case measure => simp [intOf]; omega
        · obtain rfl : k = T.pend.length := by omega
          rw [List.take_length] at hR
          obtain ⟨A, cap, rfl⟩ := hR.wait.form
          have d7 := hR.cell 7
          have f5 := hR.frozen 5
          have f7 := hR.frozen 7
          have HZ := Lib.hid (hR.setNone.setSyncs (wrap64 (T.syncs + 1)))
          have HO := Lib.hid ((hO.setCell (p := ⟨p, 5, none⟩) (by rcases hR.fp with h1 | h1; exact .inl h1; exact .inr h1) (.slice none 0 0)).setCell (p := ⟨p, 7, none⟩) (by rcases hR.fp with h1 | h1; exact .inl h1; exact .inr h1) (.int .i64 (wrap64 (T.syncs + 1))))
          clear hR hO
          go_wp2
          go_ret
          exact ⟨rfl, ⟨_, _, _, _, _, _, HZ.out⟩, HO.out⟩
end
end Go.Proofs.Ytapjgancaldgaaa

/- The reference's Crash. -/
namespace Go.Proofs.Ytapjgancaldgaaa
set_option maxRecDepth 100000
open Go.RowKit

set_option maxHeartbeats 2000000 in
theorem rcrash {F : Nat → Prop} {w : World} {p : Nat} {S : St} (h : RD F w p S) (A : Option Addr) (n c : Nat) (ks : List Int) (hks : RI w A n ks) (hA : Far F A n) (hm : S.pend.length < 2199023255552) (hn2 : n ≤ 140737488355328) :
    Calls Try.prog 29 #[.pointer (some ⟨p, 0, none⟩), .slice A n c] w (RCodes F w p (crashS S ks) (crashE S ks)) := by
  obtain ⟨vs, gd, cd, gt, ct, vw, h⟩ := h
  have hlen := hks.len
  have c0 := h.cell 0
  have c5 := h.cell 5
  obtain ⟨Ap, capp, rfl⟩ := h.wait.form
  unfold crashS crashE
  by_cases hl : S.pend.length < ks.length
  · rw [if_pos hl, if_pos hl]
    have HE := Lib.hid (rcodes (c := 1) h (Out.refl F w))
    have hl2 : (S.pend.length : Int) < (n : Int) := by omega
    clear h hl hks hlen
    go_enter Try.func29, Try.ntmps29
    go_wp2
    go_ret
    exact HE.out
  · rw [if_neg hl, if_neg hl]
    have hl2 : ¬ (S.pend.length : Int) < (n : Int) := by omega
    have hl3 : decide (S.pend.length < n) = false := by simp; omega
    have hl4 : decide ((S.pend.length : Int) < (n : Int)) = false := by simp; omega
    have H0 := Lib.hid h
    have HL := Lib.hid hlen
    clear h hl hlen
    by_cases hall : ∀ z ∈ ks, keepOk z
    · rw [if_pos hall, if_pos hall]
      have HALL := Lib.hid hall
      clear hall
      go_enter Try.func29, Try.ntmps29
      go_wp2
      go_loopw [5] (fun i wr => ∃ k : Nat, i = .int .i64 (k : Nat) ∧ k ≤ n ∧ w = wr) (fun i _ => n - (intOf i).toNat)
      case atStart => exact ⟨0, rfl, Nat.zero_le _, rfl⟩
      case round =>
        obtain ⟨k, rfl, hk, rfl⟩ := hrel
        by_cases hlt : k < n
        · obtain ⟨b, o, rfl, hcell⟩ := hks.cell (by omega)
          have ck := hcell k hlt
          have hki : (k : Int) < (n : Int) := by omega
          obtain ⟨z, hz⟩ : ∃ z, ks.getD k 0 = z := ⟨_, rfl⟩
          have hzm : z ∈ ks := by
            have hkl : k < ks.length := by rw [HL.out]; exact hlt
            rw [← hz, List.getD_eq_getElem?_getD, List.getElem?_eq_getElem hkl]
            exact List.getElem_mem hkl
          rw [hz] at ck
          have hzk := HALL.out z hzm
          have z1 : ¬ z < 0 := by unfold keepOk at hzk; omega
          have z2 : ¬ 2 < z := by unfold keepOk at hzk; omega
          have z3 : decide (z < 0) = false := by simp; omega
          have z4 : decide (2 < z) = false := by simp; omega
          clear hz hcell hzm hzk
          go_wp2
          go_roundw
          case rel => exact ⟨k + 1, by go_num, hlt, by first | rfl | trivial⟩
          case measure => simp [intOf]; omega
        · obtain rfl : k = n := by omega
          have HSH := Lib.hid (show layAll S.last (S.pend.take k) ks = layAll S.last S.pend ks by rw [← HL.out]; exact layAll_short _ _ _)
          have HKT := Lib.hid (show ks.take k = ks from List.take_of_length_le (by rw [HL.out]; exact Nat.le_refl _))
          have HPL := Lib.hid (show k ≤ S.pend.length by omega)
          go_wp2
          go_loopw [6] (fun i wr => ∃ (j : Nat) (vs' : List Value), i = .int .i64 (j : Nat) ∧ j ≤ k ∧ Rf (Gr F w) wr p { S with last := layAll S.last (S.pend.take j) (ks.take j) } vs' gd cd gt ct (.slice Ap S.pend.length capp) ∧ Out F w wr) (fun i _ => k - (intOf i).toNat)
          case atStart => exact ⟨0, vs, rfl, Nat.zero_le _, H0.out.mono (fun _ _ hf => .inl hf), Out.refl _ _⟩
          case round =>
            obtain ⟨j, vs', rfl, hj, hR, hO⟩ := hrel
            have d5 := hR.cell 5
            by_cases hjt : j < k
            · obtain ⟨b, o, rfl, hcell⟩ := hks.cell (by omega)
              have hjp : j < S.pend.length := Nat.lt_of_lt_of_le hjt HPL.out
              obtain ⟨x, hx⟩ : ∃ x, S.pend[j]? = some x := ⟨_, List.getElem?_eq_getElem hjp⟩
              obtain ⟨g, cap, hgv, hgl, hgF, -, -, -, hrow⟩ := hR.wait.row (by show S.pend ≠ []; intro e; rw [e] at hjp; simp at hjp)
              injection hgv with hg1 hg2 hg3
              subst hg1
              subst hg3
              obtain ⟨bx, cb, p1, p2, hcb, rb, lb, fb, m1, m2, m3⟩ := hrow j x hx
              have hxb := hR.wf.pb x (List.mem_of_getElem? hx)
              have hxp := hR.wf.pp x (List.mem_of_getElem? hx)
              obtain ⟨z, hz⟩ : ∃ z, ks[j]? = some z := ⟨_, List.getElem?_eq_getElem (by rw [HL.out]; exact hjt)⟩
              have hzk := HALL.out z (List.mem_of_getElem? hz)
              have hbF : ¬ F b := hA ⟨b, o, none⟩ rfl (by omega)
              have hbl : b < w.heap.size := World.block_lt_of_cell? w _ (hcell 0 (by omega))
              have cj : wr.cell? ⟨b, o + j, none⟩ = some (.int .i64 z) := by
                rw [hO.cell (hcell j hjt) hbF, List.getD_eq_getElem?_getD, hz]; rfl
              have HL2 := Lib.hid (show settleL (layAll S.last (S.pend.take j) (ks.take j)) x z = layAll S.last (S.pend.take (j + 1)) (ks.take (j + 1)) by
                rw [List.take_add_one, List.take_add_one, hx, hz]
                exact (layAll_snoc _ _ _ _ _ (by simp [HL.out]; omega)).symm)
              have HR := Lib.hid (show wr.rangeAt g (j * 2) [.int .i64 (x.p : Int), .slice (some ⟨bx, 0, none⟩) 64 cb] from fun i v hv => by
                rcases i with _ | _ | i
                · simp at hv; subst hv; exact p1
                · simp at hv; subst hv; exact p2
                · simp at hv)
              have HI := Lib.hid (show (Try.prog.info? 114).map (·.size) = some [Value.int .i64 (x.p : Int), .slice (some ⟨bx, 0, none⟩) 64 cb].length by rfl)
              have HO := Lib.hid hO
              have HSZ := Lib.hid hO.size
              have hji : (j : Int) < (k : Int) := by omega
              have hjpi : (j : Int) < (S.pend.length : Int) := by omega
              have HN := Lib.hid (show ¬ Gr F w b from fun hf => by rcases hf with h1 | h1; exact hbF h1; omega)
              rcases hzk with rfl | rfl | rfl
              · have HR2 := Lib.hid hR
                clear hR hO hx hrow p1 p2 rb hz hcell
                go_wp2
                go_roundw
                case rel =>
                  refine ⟨j + 1, vs', by go_num, hjt, ?_, HO.out⟩
                  rw [← HL2.out]
                  exact HR2.out
                case measure => simp [intOf]; omega
              · have LY := Lib.hid (rlay hR x hxp hxb bx cb rb m3)
                clear hR hO hx hrow p1 p2 rb hz hcell
                go_wp2_with (first
                  | (with_reducible refine wpList_load_mid rfl 114 (.tmp 55) rfl g (j * 2) rfl [.int .i64 (x.p : Int), .slice (some ⟨bx, 0, none⟩) 64 cb] _ HR.out Try.underlying114 rfl HI.out ?_)
                  | (go_at_call 71; refine LY.out.mono ?_; rintro e w3 ⟨rfl, ⟨vs3, h3⟩, o3⟩; have H3 := Lib.hid h3; have O3 := Lib.hid o3; have cj3 := o3.cell cj HN.out; clear h3 o3))
                go_roundw
                case rel =>
                  have h3 := H3.out
                  refine ⟨j + 1, vs3, by go_num, hjt, ?_, out_gr HO.out O3.out⟩
                  rw [← HL2.out]
                  exact h3.mono (fun _ _ hf => gr_gr HSZ.out hf)
                case measure => simp [intOf]; omega
              · have TE := Lib.hid (rtear hR x.p hxp)
                clear hR hO hx hrow p2 rb hz hcell
                go_wp2_with (go_at_call 68; refine TE.out.mono ?_; rintro e w3 ⟨rfl, ⟨vs3, h3⟩, o3⟩; have H3 := Lib.hid h3; have O3 := Lib.hid o3; clear h3 o3)
                go_roundw
                case rel =>
                  have h3 := H3.out
                  refine ⟨j + 1, vs3, by go_num, hjt, ?_, out_gr HO.out O3.out⟩
                  rw [← HL2.out]
                  exact h3.mono (fun _ _ hf => gr_gr HSZ.out hf)
                case measure => simp [intOf]; omega
            · obtain rfl : j = k := by omega
              rw [HKT.out, HSH.out] at hR
              have f5 := hR.frozen 5
              have f2 := hR.frozen 2
              have f1 := hR.frozen 1
              have d2 := hR.cell 2
              have d1 := hR.cell 1
              have HZ := Lib.hid ((hR.setNone.setPlan (-1) (by omega)).setOff false)
              have HO := Lib.hid (((hO.setCell (p := ⟨p, 5, none⟩) (by rcases hR.fp with h1 | h1; exact .inl h1; exact .inr h1) (.slice none 0 0)).setCell (p := ⟨p, 2, none⟩) (by rcases hR.fp with h1 | h1; exact .inl h1; exact .inr h1) (.int .i64 (-1))).setCell (p := ⟨p, 1, none⟩) (by rcases hR.fp with h1 | h1; exact .inl h1; exact .inr h1) (.bool false))
              clear hR hO
              go_wp2
              go_ret
              exact ⟨rfl, ⟨_, _, _, _, _, _, HZ.out⟩, HO.out⟩
    · rw [if_neg hall, if_neg hall]
      have HE := Lib.hid (rcodes (c := 1) H0.out (Out.refl F w))
      have HALL := Lib.hid hall
      clear hall
      go_enter Try.func29, Try.ntmps29
      go_wp2
      go_loopw [5] (fun i wr => ∃ k : Nat, i = .int .i64 (k : Nat) ∧ k ≤ n ∧ w = wr ∧ ∀ j, j < k → keepOk (ks.getD j 0)) (fun i _ => n - (intOf i).toNat)
      case atStart => exact ⟨0, rfl, Nat.zero_le _, rfl, fun j hj => by omega⟩
      case round =>
        obtain ⟨k, rfl, hk, rfl, hok⟩ := hrel
        by_cases hlt : k < n
        · obtain ⟨b, o, rfl, hcell⟩ := hks.cell (by omega)
          have ck := hcell k hlt
          have hki : (k : Int) < (n : Int) := by omega
          obtain ⟨z, hz⟩ : ∃ z, ks.getD k 0 = z := ⟨_, rfl⟩
          rw [hz] at ck
          have HO := Lib.hid hok
          have HZ := Lib.hid hz
          clear hok hz hcell
          by_cases hzk : keepOk z
          · have HZK := Lib.hid hzk
            have z1 : ¬ z < 0 := by unfold keepOk at hzk; omega
            have z2 : ¬ 2 < z := by unfold keepOk at hzk; omega
            have z3 : decide (z < 0) = false := by simp; omega
            have z4 : decide (2 < z) = false := by simp; omega
            clear hzk
            go_wp2
            go_roundw
            case rel => exact ⟨k + 1, by go_num, hlt, by first | rfl | trivial, fun j hj => by
              rcases Nat.lt_or_ge j k with h1 | h1
              · exact HO.out j h1
              · rw [show j = k by omega, HZ.out]; exact HZK.out⟩
            case measure => simp [intOf]; omega
          · rcases Int.lt_or_le z 0 with hz0 | hz0
            · have z3 : decide (z < 0) = true := by simp; omega
              clear hzk
              go_wp2
              go_ret
              exact HE.out
            · have z3 : decide (z < 0) = false := by simp; omega
              have hz2 : 2 < z := by
                rcases Int.lt_or_le 2 z with h | h
                · exact h
                · exact absurd (show keepOk z by unfold keepOk; omega) hzk
              have z4 : decide (2 < z) = true := by simp; omega
              clear hzk
              go_wp2
              go_ret
              exact HE.out
        · obtain rfl : k = n := by omega
          exact absurd (fun z hz => by
            obtain ⟨j, hj⟩ := List.getElem?_of_mem hz
            have hjl : j < ks.length := (List.getElem?_eq_some_iff.1 hj).1
            have := hok j (by rw [HL.out] at hjl; exact hjl)
            rw [List.getD_eq_getElem?_getD, hj] at this
            exact this) HALL.out
end Go.Proofs.Ytapjgancaldgaaa

/- The reference's Read. -/
namespace Go.Proofs.Ytapjgancaldgaaa
set_option maxRecDepth 100000
open Go.RowKit

/-- What the reference's Read leaves. -/
def RReadIs (w : World) (r : List Int × Int) (e : Ending) (w' : World) : Prop :=
  (r.2 ≠ 0 ∧ r.1 = [] ∧ e = .returned (.tuple #[.slice none 0 0, .int .i64 r.2]) ∧ w = w') ∨
  (r.2 = 0 ∧ ∃ cap, e = .returned (.tuple #[.slice (some ⟨w.heap.size, 0, none⟩) 64 cap, .int .i64 0]) ∧ 64 ≤ cap ∧ RB w' (some ⟨w.heap.size, 0, none⟩) 64 r.1 ∧ Below w.heap.size w w')

set_option maxHeartbeats 2000000 in
theorem rread {F : Nat → Prop} {w : World} {p : Nat} {S : St} (h : RD F w p S) (n : Int) (hm : S.pend.length < 2199023255552) :
    Calls Try.prog 60 #[.pointer (some ⟨p, 0, none⟩), .int .i64 n] w (RReadIs w (readB S n)) := by
  obtain ⟨vs, gd, cd, gt, ct, vw, h⟩ := h
  have c0 := h.cell 0
  have c1 := h.cell 1
  have c3 := h.cell 3
  have c4 := h.cell 4
  have c5 := h.cell 5
  obtain ⟨Ap, capp, rfl⟩ := h.wait.form
  by_cases ho : S.off = true
  · have hr : readB S n = ([], 22) := by unfold readB; rw [if_pos ho]
    rw [hr]
    rw [ho] at c1
    clear h ho hr
    go_enter Try.func60, Try.ntmps60
    go_wp2
    go_ret2
    exact .inl ⟨by decide, rfl, rfl, rfl⟩
  · have ho2 : S.off = false := by simpa using ho
    rw [ho2] at c1
    clear ho2
    by_cases hp : 0 ≤ n ∧ n < (S.last.length : Int)
    · obtain ⟨k, rfl⟩ := Int.eq_ofNat_of_zero_le hp.1
      have hk : k < S.last.length := by omega
      obtain ⟨cc, hcc⟩ : ∃ cc, S.last[k]? = some cc := ⟨_, List.getElem?_eq_getElem hk⟩
      have hb : readB S (k : Int) = (match lastW S.pend k with | some zs => (zs, 0) | none => if cc.t then ([], 23) else (cc.b, 0)) := by
        unfold readB
        rw [if_neg ho, if_neg (not_not_intro hp), Int.toNat_natCast, hcc]
        cases lastW S.pend k <;> rfl
      obtain ⟨t1, t2⟩ := h.tornAt hcc
      obtain ⟨gb, capb, hv, hcapb, rbb, -, -, -⟩ := h.at_ k cc hcc
      obtain ⟨v1, v2⟩ := h.dataAt hv
      have HB := Lib.hid hb
      have H := Lib.hid h
      have RBB := Lib.hid rbb
      have hki : (k : Int) < (S.last.length : Int) := by omega
      have hkd : decide ((S.last.length : Int) ≤ (k : Int)) = false := by simp; omega
      clear h ho hp hb hcc hv rbb t2 v2
      go_enter Try.func60, Try.ntmps60
      go_wp2
      go_loopw [6] (fun i wr => ∃ j : Nat, i = .int .i64 ((j : Int) - 1) ∧ j ≤ S.pend.length ∧ w = wr ∧ ∀ (q : Nat) (y : Wr), j ≤ q → S.pend[q]? = some y → y.p ≠ k) (fun i _ => (intOf i + 1).toNat)
      case atStart => exact ⟨S.pend.length, rfl, Nat.le_refl _, rfl, fun q y hq hy => by have := (List.getElem?_eq_some_iff.1 hy).1; omega⟩
      case round =>
        obtain ⟨j, rfl, hj, rfl, hno⟩ := hrel
        by_cases hj0 : 0 < j
        · obtain ⟨x, hx⟩ : ∃ x, S.pend[j - 1]? = some x := ⟨_, List.getElem?_eq_getElem (by omega)⟩
          obtain ⟨g, cap, hgv, hgl, hgF, -, -, -, hrow⟩ := H.out.wait.row (by intro e; rw [e] at hj; simp at hj; omega)
          injection hgv with hg1 hg2 hg3
          subst hg1
          subst hg3
          obtain ⟨bx, cb, p1, p2, hcb, rb, -, -, -, -, -⟩ := hrow (j - 1) x hx
          obtain ⟨i, rfl⟩ : ∃ i, j = i + 1 := ⟨j - 1, by omega⟩
          rw [Nat.add_sub_cancel] at p1 p2 hx
          have e1 : ((i + 1 : Nat) : Int) - 1 = (i : Int) := by omega
          have hii : (i : Int) < (S.pend.length : Int) := by omega
          rw [e1]
          have HNO := Lib.hid hno
          have HX := Lib.hid hx
          have RBX := Lib.hid rb
          clear hno hx hrow rb e1
          by_cases hpk : x.p = k
          · have hbr : readB S (k : Int) = (x.b, 0) := by
              rw [HB.out, lastW_some HX.out hpk (fun q y hq hy => HNO.out q y (by omega) hy)]
            have HBR := Lib.hid hbr
            rw [hpk] at p1
            clear hpk hbr
            go_wp2_with (go_at_call 70; refine (rcopied w _ cb x.b RBX.out).mono ?_; rintro e w3 ⟨cap3, rfl, hc3, rb3, b3, -⟩; have RB3 := Lib.hid rb3; have B3 := Lib.hid b3; clear rb3 b3)
            go_ret2
            rw [HBR.out]
            exact .inr ⟨rfl, cap3, rfl, hc3, RB3.out, B3.out⟩
          · have HPK := Lib.hid hpk
            have hpk2 : ((x.p : Int) == (k : Int)) = false := by simpa using (show ¬ (x.p : Int) = (k : Int) by omega)
            clear hpk
            go_wp2
            go_roundw
            case rel => exact ⟨i, by go_num, by omega, by first | rfl | trivial, fun q y hq hy => by
              rcases Nat.lt_or_ge i q with h1 | h1
              · exact HNO.out q y (by omega) hy
              · have : q = i := by omega
                subst this
                rw [HX.out] at hy
                cases hy
                exact HPK.out⟩
            case measure => simp [intOf]
        · obtain rfl : j = 0 := by omega
          have hl : lastW S.pend k = none := lastW_none (fun y hy => by
            obtain ⟨q, hq⟩ := List.getElem?_of_mem hy
            exact hno q y (Nat.zero_le _) hq)
          have hb2 := HB.out
          rw [hl] at hb2
          simp only at hb2
          have HB2 := Lib.hid hb2
          clear hb2 hl hno
          rw [show ((0 : Nat) : Int) - 1 = -1 by rfl]
          cases htc : cc.t with
          | true =>
            rw [htc] at t1
            have HT := Lib.hid htc
            clear htc
            go_wp2
            go_ret2
            rw [HB2.out, HT.out]
            exact .inl ⟨by simp, rfl, rfl, rfl⟩
          | false =>
            rw [htc] at t1
            have HT := Lib.hid htc
            clear htc
            go_wp2_with (go_at_call 70; refine (rcopied w _ capb cc.b RBB.out).mono ?_; rintro e w3 ⟨cap3, rfl, hc3, rb3, b3, -⟩; have RB3 := Lib.hid rb3; have B3 := Lib.hid b3; clear rb3 b3)
            go_ret2
            rw [HB2.out, HT.out]
            exact .inr ⟨rfl, cap3, rfl, hc3, RB3.out, B3.out⟩
    · have hr : readB S n = ([], 20) := by unfold readB; rw [if_neg ho, if_pos hp]
      rw [hr]
      clear h ho hr
      have hrest : n < 0 ∨ (¬ n < 0 ∧ (S.last.length : Int) ≤ n) := by omega
      go_enter Try.func60, Try.ntmps60
      rcases hrest with h1 | ⟨h1, h2⟩
      · clear hp
        go_wp2
        go_ret2
        exact .inl ⟨by decide, rfl, rfl, rfl⟩
      · have h3 : decide (n < 0) = false := by simp; omega
        clear hp
        go_wp2
        go_ret2
        exact .inl ⟨by decide, rfl, rfl, rfl⟩
end Go.Proofs.Ytapjgancaldgaaa
