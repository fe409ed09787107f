/- The reference's disk: how it lies in memory, over the same plain state. -/
import Derived.Test.YtapjgancaldgaaaDHas
import Derived.Test.YtapjgancaldgaaaDOwnA
namespace Go.Proofs.Ytapjgancaldgaaa
set_option maxRecDepth 100000
open Go.RowKit

/-- A row of pending writes at vw reads as l; its blocks are among F and none of p, gd, gt. -/
structure RWait (F : Nat → Prop) (w : World) (vw : Value) (l : List Wr) (p gd gt : Nat) : Prop where
  nil_ : l = [] → vw = .slice none 0 0
  row : l ≠ [] → ∃ g cap, vw = .slice (some ⟨g, 0, none⟩) l.length cap ∧ g < w.heap.size ∧ F g ∧ g ≠ p ∧ g ≠ gd ∧ g ≠ gt ∧ ∀ (i : Nat) (x : Wr), l[i]? = some x →
    ∃ b cb, w.cell? ⟨g, i * 2, none⟩ = some (.int .i64 (x.p : Int)) ∧ w.cell? ⟨g, i * 2 + 1, none⟩ = some (.slice (some ⟨b, 0, none⟩) 64 cb) ∧ 64 ≤ cb ∧ RB w (some ⟨b, 0, none⟩) 64 x.b ∧ b < w.heap.size ∧ F b ∧ b ≠ p ∧ b ≠ gd ∧ b ≠ gt

structure Rf (F : Nat → Prop) (w : World) (p : Nat) (S : St) (vs : List Value) (gd cd gt ct : Nat) (vw : Value) : Prop where
  wf : Wf S
  blk : w.heap[p]? = some (.cells #[.bool true, .bool S.off, .int .i64 S.plan, .slice (some ⟨gd, 0, none⟩) S.last.length cd, .slice (some ⟨gt, 0, none⟩) S.last.length ct, vw, .int .i64 S.writes, .int .i64 S.syncs] 31 (0, 0))
  data : w.ownsRow 0 34 1 (.slice (some ⟨gd, 0, none⟩) S.last.length cd) S.last.length vs
  torn : w.ownsRow 0 4 1 (.slice (some ⟨gt, 0, none⟩) S.last.length ct) S.last.length (S.last.map fun c => .bool c.t)
  at_ : ∀ (i : Nat) (c : Cn), S.last[i]? = some c → ∃ g cap, vs[i]? = some (.slice (some ⟨g, 0, none⟩) 64 cap) ∧ 64 ≤ cap ∧ RB w (some ⟨g, 0, none⟩) 64 c.b ∧ g < w.heap.size ∧ F g ∧ g ≠ p ∧ g ≠ gd ∧ g ≠ gt
  wait : RWait F w vw S.pend p gd gt
  fp : F p
  fd : F gd
  ft : F gt
  pd : p ≠ gd
  pt : p ≠ gt
  dt : gd ≠ gt

/-- A reference's disk. -/
def RD (F : Nat → Prop) (w : World) (p : Nat) (S : St) : Prop := ∃ vs gd cd gt ct vw, Rf F w p S vs gd cd gt ct vw

theorem rb_stays {w w' : World} {g n : Nat} {zs : List Int} (h : RB w (some ⟨g, 0, none⟩) n zs) (hk : w'.heap[g]? = w.heap[g]?) : RB w' (some ⟨g, 0, none⟩) n zs :=
  ⟨h.len, h.byte, fun hn => by
    obtain ⟨ad, e, hc⟩ := h.cell hn
    cases e
    exact ⟨_, rfl, fun j hj => (World.cell?_of_block (by rw [block_add]; exact hk)).trans (hc j hj)⟩⟩
section
variable {F F' : Nat → Prop} {w w' : World} {p : Nat} {S : St} {vs : List Value} {gd cd gt ct : Nat} {vw : Value} {l : List Wr}
theorem RWait.stays (h : RWait F w vw l p gd gt) (hk : ∀ k, k < w.heap.size → F k → k ≠ p → k ≠ gd → k ≠ gt → w'.heap[k]? = w.heap[k]?) (hs : w.heap.size ≤ w'.heap.size) (hF : ∀ k, k < w.heap.size → F k → F' k) : RWait F' w' vw l p gd gt :=
  ⟨h.nil_, fun hn => by
    obtain ⟨g, cap, e, hl, hf, n1, n2, n3, hr⟩ := h.row hn
    refine ⟨g, cap, e, Nat.lt_of_lt_of_le hl hs, hF g hl hf, n1, n2, n3, fun i x hx => ?_⟩
    obtain ⟨b, cb, c1, c2, hc, rb, lb, fb, m1, m2, m3⟩ := hr i x hx
    have eg := hk g hl hf n1 n2 n3
    exact ⟨b, cb, (World.cell?_of_block (a := ⟨g, i * 2, none⟩) eg).trans c1, (World.cell?_of_block (a := ⟨g, i * 2 + 1, none⟩) eg).trans c2, hc, rb_stays rb (hk b lb fb m1 m2 m3), Nat.lt_of_lt_of_le lb hs, hF b lb fb, m1, m2, m3⟩⟩
theorem Rf.plt (h : Rf F w p S vs gd cd gt ct vw) : p < w.heap.size := (Array.getElem?_eq_some_iff.1 h.blk).1
theorem Rf.dlt (h : Rf F w p S vs gd cd gt ct vw) : gd < w.heap.size := (h.data.lt gd rfl).2
theorem Rf.tlt (h : Rf F w p S vs gd cd gt ct vw) : gt < w.heap.size := (h.torn.lt gt rfl).2
theorem Rf.stays' (h : Rf F w p S vs gd cd gt ct vw) (hk : ∀ k, k < w.heap.size → F k → w'.heap[k]? = w.heap[k]?) (hs : w.heap.size ≤ w'.heap.size) (hF : ∀ k, k < w.heap.size → F k → F' k) : Rf F' w' p S vs gd cd gt ct vw :=
  ⟨h.wf, (hk p h.plt h.fp).trans h.blk, own_stays h.data fun k e => by
      have : gd = k := by simpa [Value.ownBlock] using e
      subst this; exact hk gd h.dlt h.fd,
    own_stays h.torn fun k e => by
      have : gt = k := by simpa [Value.ownBlock] using e
      subst this; exact hk gt h.tlt h.ft,
    fun i c hc => by
      obtain ⟨g, cap, e, hcap, rb, lg, fg, n⟩ := h.at_ i c hc
      exact ⟨g, cap, e, hcap, rb_stays rb (hk g lg fg), Nat.lt_of_lt_of_le lg hs, hF g lg fg, n⟩,
    h.wait.stays (fun k hl hf _ _ _ => hk k hl hf) hs hF, hF p h.plt h.fp, hF gd h.dlt h.fd, hF gt h.tlt h.ft, h.pd, h.pt, h.dt⟩
theorem Rf.stays (h : Rf F w p S vs gd cd gt ct vw) (hk : ∀ k, k < w.heap.size → F k → w'.heap[k]? = w.heap[k]?) (hs : w.heap.size ≤ w'.heap.size) : Rf F w' p S vs gd cd gt ct vw := h.stays' hk hs fun _ _ h => h
theorem Rf.mono (h : Rf F w p S vs gd cd gt ct vw) (hF : ∀ k, k < w.heap.size → F k → F' k) : Rf F' w p S vs gd cd gt ct vw := h.stays' (fun _ _ _ => rfl) (Nat.le_refl _) hF
theorem Rf.below (h : Rf F w p S vs gd cd gt ct vw) (hb : Below w.heap.size w w') : Rf F w' p S vs gd cd gt ct vw := h.stays (fun k hk _ => hb.block k hk) hb.size
theorem Rf.drew (h : Rf F w p S vs gd cd gt ct vw) : Rf F w.drew p S vs gd cd gt ct vw := h.stays (fun _ _ _ => rfl) (Nat.le_refl _)
theorem Rf.cell (h : Rf F w p S vs gd cd gt ct vw) (j : Nat) : w.cell? ⟨p, j, none⟩ = #[.bool true, .bool S.off, .int .i64 S.plan, .slice (some ⟨gd, 0, none⟩) S.last.length cd, .slice (some ⟨gt, 0, none⟩) S.last.length ct, vw, .int .i64 S.writes, .int .i64 S.syncs][j]? := cell_of_row w p j _ _ _ h.blk
theorem Rf.frozen (h : Rf F w p S vs gd cd gt ct vw) (j : Nat) : w.frozen? ⟨p, j, none⟩ = false := frozen_of_row w p j _ _ h.blk

/-- Another header over the same rows. -/
theorem Rf.head (h : Rf F w p S vs gd cd gt ct vw) (w2 : World) (S' : St) (vw' : Value) (hl : S'.last = S.last) (hpb : ∀ x ∈ S'.pend, B64 x.b) (hpp : ∀ x ∈ S'.pend, x.p < S.last.length) (hw : -1 ≤ S'.plan ∧ S'.plan ≤ 9223372036854775807)
    (hb : w2.heap[p]? = some (.cells #[.bool true, .bool S'.off, .int .i64 S'.plan, .slice (some ⟨gd, 0, none⟩) S'.last.length cd, .slice (some ⟨gt, 0, none⟩) S'.last.length ct, vw', .int .i64 S'.writes, .int .i64 S'.syncs] 31 (0, 0)))
    (ho : ∀ k, k < w.heap.size → k ≠ p → w2.heap[k]? = w.heap[k]?) (hs : w.heap.size ≤ w2.heap.size) (hwait : RWait F w2 vw' S'.pend p gd gt) : Rf F w2 p S' vs gd cd gt ct vw' := by
  refine ⟨⟨by rw [hl]; exact h.wf.lo, by rw [hl]; exact h.wf.hi, by rw [hl]; exact h.wf.lb, hpb, by rw [hl]; exact hpp, hw⟩, hb, ?_, ?_, ?_, hwait, h.fp, h.fd, h.ft, h.pd, h.pt, h.dt⟩
  · rw [hl]; exact own_stays h.data fun k e => by
      have : gd = k := by simpa [Value.ownBlock] using e
      subst this; exact ho gd h.dlt h.pd.symm
  · rw [hl]; exact own_stays h.torn fun k e => by
      have : gt = k := by simpa [Value.ownBlock] using e
      subst this; exact ho gt h.tlt h.pt.symm
  · rw [hl]
    intro i c hc
    obtain ⟨g, cap, e, hcap, rb, lg, fg, n⟩ := h.at_ i c hc
    exact ⟨g, cap, e, hcap, rb_stays rb (ho g lg n.1), Nat.lt_of_lt_of_le lg hs, fg, n⟩
theorem Rf.setCell (h : Rf F w p S vs gd cd gt ct vw) (S' : St) (j : Nat) (v : Value) (hl : S'.last = S.last) (hp : S'.pend = S.pend) (hw : -1 ≤ S'.plan ∧ S'.plan ≤ 9223372036854775807)
    (hb : (#[.bool true, .bool S.off, .int .i64 S.plan, .slice (some ⟨gd, 0, none⟩) S.last.length cd, .slice (some ⟨gt, 0, none⟩) S.last.length ct, vw, .int .i64 S.writes, .int .i64 S.syncs] : Array Value).setIfInBounds j v = #[.bool true, .bool S'.off, .int .i64 S'.plan, .slice (some ⟨gd, 0, none⟩) S'.last.length cd, .slice (some ⟨gt, 0, none⟩) S'.last.length ct, vw, .int .i64 S'.writes, .int .i64 S'.syncs]) :
    Rf F (w.setCell ⟨p, j, none⟩ v) p S' vs gd cd gt ct vw :=
  h.head _ S' vw hl (by rw [hp]; exact h.wf.pb) (by rw [hp]; exact h.wf.pp) hw (by rw [blk_set h.blk, hb]) (fun k _ hk => heap_setCell_ne _ _ _ _ k hk) (by simp [World.setCell])
    (by rw [hp]; exact h.wait.stays (fun k _ _ hk _ _ => heap_setCell_ne _ _ _ _ k hk) (by simp [World.setCell]) (fun _ _ h => h))
theorem Rf.setOff (h : Rf F w p S vs gd cd gt ct vw) (b : Bool) : Rf F (w.setCell ⟨p, 1, none⟩ (.bool b)) p { S with off := b } vs gd cd gt ct vw := h.setCell { S with off := b } 1 _ rfl rfl h.wf.pl rfl
theorem Rf.setPlan (h : Rf F w p S vs gd cd gt ct vw) (q : Int) (hq : -1 ≤ q ∧ q ≤ 9223372036854775807) : Rf F (w.setCell ⟨p, 2, none⟩ (.int .i64 q)) p { S with plan := q } vs gd cd gt ct vw := h.setCell { S with plan := q } 2 _ rfl rfl hq rfl
theorem Rf.setWrites (h : Rf F w p S vs gd cd gt ct vw) (q : Int) : Rf F (w.setCell ⟨p, 6, none⟩ (.int .i64 q)) p { S with writes := q } vs gd cd gt ct vw := h.setCell { S with writes := q } 6 _ rfl rfl h.wf.pl rfl
theorem Rf.setSyncs (h : Rf F w p S vs gd cd gt ct vw) (q : Int) : Rf F (w.setCell ⟨p, 7, none⟩ (.int .i64 q)) p { S with syncs := q } vs gd cd gt ct vw := h.setCell { S with syncs := q } 7 _ rfl rfl h.wf.pl rfl
theorem Rf.setNone (h : Rf F w p S vs gd cd gt ct vw) : Rf F (w.setCell ⟨p, 5, none⟩ (.slice none 0 0)) p { S with pend := [] } vs gd cd gt ct (.slice none 0 0) :=
  h.head _ { S with pend := [] } _ rfl (by simp) (by simp) h.wf.pl (by rw [blk_set h.blk]; rfl) (fun k _ hk => heap_setCell_ne _ _ _ _ k hk) (by simp [World.setCell]) ⟨fun _ => rfl, fun hn => absurd rfl hn⟩
end
end Go.Proofs.Ytapjgancaldgaaa
