/- Layer 9: SireadKeeps: the program's notes and the list of the operations that count, apart from each other. -/
import Derived.Test.YtcpifanhmkblmaaSiProg
import Derived.Deep.AppendLies
namespace Go.Proofs.Ytcpifanhmkblmaa
set_option maxRecDepth 100000
set_option maxRecDepth 100000
open Go.RowKit

/-- The program's notes alone. -/
structure Solo9 (w0 w : World) (G : Nat → Prop) (r most : Nat) (L : List Nt) : Prop where
  m : M9 w G r most L
  gl : ∀ k, G k → w0.heap.size ≤ k
  bel : Below w0.heap.size w0 w
theorem Solo9.below {w0 w w' : World} {G : Nat → Prop} {r most : Nat} {L : List Nt} (h : Solo9 w0 w G r most L) (g : Below w.heap.size w w') : Solo9 w0 w' G r most L := ⟨api9.below h.m g, h.gl, below_next h.bel g⟩
theorem Solo9.box {w0 w : World} {G : Nat → Prop} {r most : Nat} {L : List Nt} (h : Solo9 w0 w G r most L) : ¬ G w.heap.size := fun hg => by have := api9.lt h.m _ hg; omega
theorem Solo9.inv {w0 w : World} {G : Nat → Prop} {r most : Nat} {L : List Nt} (h : Solo9 w0 w G r most L) : Inv9 most L ∧ L.length ≤ 65536 ∧ 1 ≤ most ∧ L.length ≤ most := by
  obtain ⟨h1, -, h3, h4⟩ := api9.inv h.m
  exact ⟨h1, Nat.le_trans h1.cap h4, h3, h1.cap⟩
theorem Solo9.turn {w0 w w' : World} {G G' : Nat → Prop} {r most : Nat} {L L' : List Nt} (h : Solo9 w0 w G r most L) (m : M9 w' G' r most L') (hG : ∀ k, G' k → G k ∨ w.heap.size ≤ k) (o : Out G w w') : Solo9 w0 w' G' r most L' :=
  ⟨m, fun k hk => by
    have := h.bel.size
    rcases hG k hk with h1 | h1
    · exact h.gl k h1
    · omega, h.bel.trans (o.below h.bel.size fun i hi hg => by have := h.gl i hg; omega)⟩
theorem Solo9.note {w0 w : World} {G : Nat → Prop} {r most : Nat} {L : List Nt} (h : Solo9 w0 w G r most L) (t : Int) (ht : (Lit.int .i64 t).wf = true) (x : Rd) (hx : RdS x) :
    Calls Try.prog 12 #[.pointer (some ⟨r, 0, none⟩), .int .i64 t, rdV x] w fun e w' => e = .returned (.int .i64 (noteP most L t x).1) ∧ ∃ G', Solo9 w0 w' G' r most (noteP most L t x).2 ∧ (∀ k, G' k → G k ∨ w.heap.size ≤ k) ∧ Out G w w' :=
  (api9.note h.m t x ht hx).mono fun _ _ ⟨e, G', m, hG, o⟩ => ⟨e, G', h.turn m hG o, hG, o⟩
theorem Solo9.drop {w0 w : World} {G : Nat → Prop} {r most : Nat} {L : List Nt} (h : Solo9 w0 w G r most L) (t : Int) (ht : (Lit.int .i64 t).wf = true) :
    Calls Try.prog 14 #[.pointer (some ⟨r, 0, none⟩), .int .i64 t] w fun e w' => e = .returned (.int .i64 (if t < 1 then 1 else 0)) ∧ ∃ G', Solo9 w0 w' G' r most (if t < 1 then L else dropP L t) ∧ (∀ k, G' k → G k ∨ w.heap.size ≤ k) ∧ Out G w w' :=
  (api9.drop h.m t ht).mono fun _ _ ⟨e, G', m, hG, o⟩ => ⟨e, G', h.turn m hG o, hG, o⟩
/-- The operations that count, in a list of the law's own, in none of the blocks G. -/
structure KL (w0 w : World) (G : Nat → Prop) (v : Value) (K : List OpS) : Prop where
  so : SO seO w0.heap.size w v K.length (cellsO K)
  ap : ∀ k, v.ownBlock = some k → ¬ G k
theorem KL.nil (w0 w : World) (G : Nat → Prop) : KL w0 w G (.slice none 0 0) [] := ⟨SO.nil _ _ _, fun k hk => by simp [Value.ownBlock] at hk⟩
theorem KL.below {w0 w w' : World} {G : Nat → Prop} {v : Value} {K : List OpS} (h : KL w0 w G v K) (g : Below w.heap.size w w') : KL w0 w' G v K := ⟨h.so.below g, h.ap⟩
theorem KL.lt {w0 w : World} {G : Nat → Prop} {v : Value} {K : List OpS} (h : KL w0 w G v K) {k : Nat} (hk : v.ownBlock = some k) : w0.heap.size ≤ k ∧ k < w.heap.size := h.so.own.lt k hk
theorem KL.turn {w0 w w' : World} {G G' : Nat → Prop} {v : Value} {K : List OpS} (h : KL w0 w G v K) (hG : ∀ k, G' k → G k ∨ w.heap.size ≤ k) (o : Out G w w') : KL w0 w' G' v K :=
  ⟨⟨own_stays h.so.own fun k hk => o.block k (h.lt hk).2 (h.ap k hk), h.so.len, h.so.one⟩, fun k hk hg => by
    have := (h.lt hk).2
    rcases hG k hg with h1 | h1
    · exact h.ap k hk h1
    · omega⟩
/-- A list of the law's own, made anew. -/
theorem KL.made {w0 w w' : World} {G : Nat → Prop} {r most : Nat} {L : List Nt} {v : Value} {K : List OpS} (h : Solo9 w0 w G r most L) (ho : SO seO w.heap.size w' v K.length (cellsO K)) : KL w0 w' G v K :=
  ⟨ho.lower h.bel.size, fun k hk hg => by have h1 := (ho.own.lt k hk).1; have h2 := api9.lt h.m k hg; omega⟩
/-- Both, behind an append to the list. -/
theorem KL.put {w0 w w' : World} {G : Nat → Prop} {r most g : Nat} {L : List Nt} {v v' : Value} {K K' : List OpS} (h : Solo9 w0 w G r most L) (hk : KL w0 w G v K) (ho : SO seO w0.heap.size w' v' K'.length (cellsO K')) (hg : w.grownBy w' v.ownBlock) (hv : v'.ownBlock = some g) (hl : v.ownBlock = some g ∨ g = w.heap.size) :
    Solo9 w0 w' G r most L ∧ KL w0 w' G v' K' := by
  have hm : Out (fun k => v.ownBlock = some k) w w' := ⟨hg.os, hg.tape, hg.output, hg.size, fun k hk hn => hg.block k hk fun e => hn (by simpa [eq_comm] using e)⟩
  refine ⟨⟨api9.stays h.m (hm.mono fun k _ hk2 hG => hk.ap k hk2 hG), h.gl, h.bel.trans (hm.below h.bel.size fun i hi hg => by have := (hk.lt hg).1; omega)⟩, ho, fun k hk2 hG => ?_⟩
  rw [hv] at hk2
  cases hk2
  rcases hl with h1 | h1
  · exact hk.ap g h1 hG
  · have := api9.lt h.m g hG; omega
section
variable {E : SEl} {base n : Nat} {w : World} {v : Value} {vs : List Value}
/-- append of one element, and where the list then lies. -/
theorem so_appendL (hE : E.Ok) {ops : Array Oper} {rest : List Oper} {o : Oper} {a : Act} {Q : Exit → Act → World → Prop} (hgd : o.guard = none) (s x : Operand)
    (ho : o.op = .call { callee := .builtin .append, args := #[s, x], argTypes := #[E.t, E.t] })
    (v : Value) (hs : a.eval s = v) (hown : SO E base w v n vs) (b c : Nat) (us : List Value) (hx : a.eval x = .slice (some ⟨b, 0, none⟩) 1 c) (hr : SB w (some ⟨b, 0, none⟩) (E.s * 1) us)
    (hsz : (n + 1) * E.b ≤ 140737488355328) (h63 : n + 1 ≤ maxLen) (hbase : base ≤ w.heap.size)
    (h : ∀ g cap w', SO E base w' (.slice (some ⟨g, 0, none⟩) (n + 1) cap) (n + 1) (vs ++ us) → w.grownBy w' v.ownBlock → (v.ownBlock = some g ∨ g = w.heap.size) → wpList Try.prog ops Q rest (a.put o.dst (.slice (some ⟨g, 0, none⟩) (n + 1) cap)) w') : wpList Try.prog ops Q (o :: rest) a w := by
  obtain ⟨i0, hi, hz0, hz1, hz2⟩ := info_parts hE.info
  have hs0 := hE.s0
  refine wpList_append_lies (P := Try.prog) w hgd s x E.t ho base E.e i0 E.z E.s E.b hE.und hi hz0 hz1 hz2 hE.zc hs0 v n vs hs hown.own ⟨b, 0, none⟩ 1 c us hx (by rw [hr.len, Nat.mul_comm]) ?_ hr.one (by omega) h63 hsz hbase _ rfl ?_
  · obtain ⟨g, q, e, hcell⟩ := hr.addr (Nat.mul_pos hs0 (by omega))
    cases e
    exact hcell
  · intro g cap w' hown' hg hl _
    exact h g cap w' ⟨hown', by rw [List.length_append, hown.len, hr.len, ← Nat.mul_add], fun u hu => by
      rcases List.mem_append.1 hu with h1 | h1
      · exact hown.one u h1
      · exact hr.one u h1⟩ hg hl
end
theorem own_slice (g n c : Nat) : (Value.slice (some ⟨g, 0, none⟩) n c).ownBlock = some g := rfl
end Go.Proofs.Ytcpifanhmkblmaa
