import Derived.Test.YtnpeankmmojebaaGreatDoorSeSt
import Derived.Test.YtnpeankmmojebaaGreatDoorJAX
import Derived.Laws.BitsAllLaws
import Derived.Deep.DeepCutAuto
import Derived.RegionTactic
import Derived.ChangeAlike
import Derived.BigRegion
/- Layer 11: a walk in memory: the net, what is laid down, for how many each one waits, the ready ones as words. -/
set_option linter.unusedVariables false
namespace Go.Proofs.YtnpeankmmojebaaGreatDoor
set_option maxRecDepth 100000
set_option maxRecDepth 100000
open Go.RowKit

def seU : SEl := ⟨80, 107, .int .u64 0, 1, 8⟩
theorem seU_ok : seU.Ok := ⟨by kernel_rfl, by kernel_rfl, by kernel_rfl, by decide, by decide, by decide⟩
def numU (ws : List Nat) : List Value := ws.map fun x => .int .u64 (x : Nat)
theorem numU_at {ws : List Nat} {i x : Nat} (h : ws[i]? = some x) : (numU ws)[i]? = some (.int .u64 (x : Nat)) := by simp [numU, h]
theorem numU_set (ws : List Nat) (i x : Nat) : numU (ws.set i x) = (numU ws).set i (.int .u64 (x : Nat)) := by simp [numU, List.map_set]
theorem numU_len (ws : List Nat) : (numU ws).length = ws.length := by simp [numU]
theorem numU_rep (n : Nat) : numU (List.replicate n 0) = List.replicate n (.int .u64 0) := by simp [numU]
theorem SO.uAt {base n c g i x : Nat} {w : World} {ws : List Nat} (h : SO seU base w (.slice (some ⟨g, 0, none⟩) n c) n (numU ws)) (hx : ws[i]? = some x) : w.cell? ⟨g, i, none⟩ = some (.int .u64 (x : Nat)) := by
  rcases h.cell1 i with k | k
  · exact k.trans (numU_at hx)
  · rw [numU_len] at k; have := (List.getElem?_eq_some_iff.1 hx).1; omega
/-- A net that lies below a block. -/
def NetW (W : World) (gb b2 n : Nat) (ns : List Int) (E : Eg) : Prop := ∃ go gi base An cn vo vi, NetB W gb go gi base n An cn ns vo vi (LOf E n) (LIf E n) ∧ base ≤ b2 ∧ ∀ (i : Nat) v k, (vo ++ vi)[i]? = some v → v.ownBlock = some k → k < b2
section
variable {W W' : World} {gb gw gt gr b2 n : Nat} {ns : List Int} {E : Eg} {vl : Value} {L : List Nat} {Wf : Nat → Nat} {R : Nat → Bool}
theorem NetAt.toW (h : NetAt W gb n ns E) : NetW W gb W.heap.size n ns E := by
  obtain ⟨go, gi, base, An, cn, vo, vi, k⟩ := h
  exact ⟨go, gi, base, An, cn, vo, vi, k, k.lt.2.2.2, fun i v q hv hq => (k.fam.lt hv hq).2⟩
theorem NetW.out (h : NetW W gb b2 n ns E) (o : Out (fun k => b2 ≤ k) W W') : NetW W' gb b2 n ns E := by
  obtain ⟨go, gi, base, An, cn, vo, vi, k, hb, hl⟩ := h
  exact ⟨go, gi, base, An, cn, vo, vi, k.out o fun q hq => ⟨Nat.le_trans hb hq, fun i v hv e => by have := hl i v q hv e; omega⟩, hb, hl⟩
theorem NetW.below (h : NetW W gb b2 n ns E) (hb : Below W.heap.size W W') : NetW W' gb b2 n ns E := h.out (Out.of_below hb _)
/-- A walk as it lies. -/
structure WkM (W : World) (gw gb gt gr b2 n : Nat) (vl : Value) (L : List Nat) (Wf : Nat → Nat) (R : Nat → Bool) : Prop where
  row : W.heap[gw]? = some (.cells #[.pointer (some ⟨gb, 0, none⟩), vl, .slice (some ⟨gt, 0, none⟩) n n, .slice (some ⟨gr, 0, none⟩) (n / 64 + 1) (n / 64 + 1)] 82 (0, 0))
  laid : SO seI b2 W vl L.length (numN L)
  waits : SO seI b2 W (.slice (some ⟨gt, 0, none⟩) n n) n (numN ((List.range n).map Wf))
  ready : ∃ ws, Words R (n / 64 + 1) ws ∧ SO seU b2 W (.slice (some ⟨gr, 0, none⟩) (n / 64 + 1) (n / 64 + 1)) (n / 64 + 1) (numU ws)
  top : ∀ v, n ≤ v → R v = false
  lo : b2 ≤ gw
  ne : gw ≠ gt ∧ gw ≠ gr ∧ gt ≠ gr
  nl : ∀ k, vl.ownBlock = some k → k ≠ gw ∧ k ≠ gt ∧ k ≠ gr
theorem WkM.cells (h : WkM W gw gb gt gr b2 n vl L Wf R) : W.cell? ⟨gw, 0, none⟩ = some (.pointer (some ⟨gb, 0, none⟩)) ∧ W.cell? ⟨gw, 1, none⟩ = some vl ∧ W.cell? ⟨gw, 2, none⟩ = some (.slice (some ⟨gt, 0, none⟩) n n) ∧ W.cell? ⟨gw, 3, none⟩ = some (.slice (some ⟨gr, 0, none⟩) (n / 64 + 1) (n / 64 + 1)) :=
  ⟨cell_of_row _ _ 0 _ _ _ h.row, cell_of_row _ _ 1 _ _ _ h.row, cell_of_row _ _ 2 _ _ _ h.row, cell_of_row _ _ 3 _ _ _ h.row⟩
theorem WkM.glt (h : WkM W gw gb gt gr b2 n vl L Wf R) : gw < W.heap.size ∧ (b2 ≤ gt ∧ gt < W.heap.size) ∧ b2 ≤ gr ∧ gr < W.heap.size :=
  ⟨(Array.getElem?_eq_some_iff.1 h.row).1, h.waits.own.lt gt rfl, by obtain ⟨ws, -, k⟩ := h.ready; exact k.own.lt gr rfl⟩
theorem WkM.out (h : WkM W gw gb gt gr b2 n vl L Wf R) {F : Nat → Prop} (o : Out F W W') (h1 : ¬ F gw) (h2 : ¬ F gt) (h3 : ¬ F gr) (h4 : ∀ k, vl.ownBlock = some k → ¬ F k) : WkM W' gw gb gt gr b2 n vl L Wf R where
  row := (o.block gw h.glt.1 h1).trans h.row
  laid := h.laid.out11 o h4
  waits := h.waits.out11 o fun k hk => by
    have : gt = k := by simpa [Value.ownBlock] using hk
    rwa [← this]
  ready := by
    obtain ⟨ws, k1, k2⟩ := h.ready
    exact ⟨ws, k1, k2.out11 o fun k hk => by
      have : gr = k := by simpa [Value.ownBlock] using hk
      rwa [← this]⟩
  top := h.top
  lo := h.lo
  ne := h.ne
  nl := h.nl
theorem WkM.below (h : WkM W gw gb gt gr b2 n vl L Wf R) (hb : Below W.heap.size W W') : WkM W' gw gb gt gr b2 n vl L Wf R :=
  h.out (F := fun _ => False) (Out.of_below hb _) id id id fun _ _ => id
theorem numN_range {v : Nat} (hv : v < n) : (numN ((List.range n).map Wf))[v]? = some (.int .i64 (Wf v : Nat)) := numN_at (by rw [List.getElem?_map, List.getElem?_range hv]; rfl)
theorem WkM.wait (h : WkM W gw gb gt gr b2 n vl L Wf R) {v : Nat} (hv : v < n) : W.cell? ⟨gt, v, none⟩ = some (.int .i64 (Wf v : Nat)) ∧ W.frozen? ⟨gt, v, none⟩ = false := by
  refine ⟨?_, h.waits.own.frozenAt v⟩
  rcases h.waits.cell1 v with k | k
  · exact k.trans (numN_range hv)
  · rw [numN_len, List.length_map, List.length_range] at k; omega
/-- For how many one waits is set. -/
theorem WkM.setWait (h : WkM W gw gb gt gr b2 n vl L Wf R) {v : Nat} (hv : v < n) (x : Nat) : WkM (W.setCell ⟨gt, v, none⟩ (.int .i64 (x : Nat))) gw gb gt gr b2 n vl L (fun u => if u = v then x else Wf u) R := by
  have o : Out (fun k => k = gt) W (W.setCell ⟨gt, v, none⟩ (.int .i64 (x : Nat))) := Out.setCell (F := fun k => k = gt) (Out.refl _ W) (p := ⟨gt, v, none⟩) (.inl rfl) _
  refine ⟨(o.block gw h.glt.1 h.ne.1).trans h.row, h.laid.out11 o fun k hk => (h.nl k hk).2.1, ?_, ?_, h.top, h.lo, h.ne, h.nl⟩
  · have := h.waits.set1 v (.int .i64 (x : Nat)) rfl
    rw [← numN_set] at this
    rw [show (List.range n).map (fun u => if u = v then x else Wf u) = ((List.range n).map Wf).set v x by
      apply List.ext_getElem?
      intro i
      rw [List.getElem?_set]
      by_cases e : v = i
      · subst e
        simp [hv]
      · rw [if_neg e, List.getElem?_map, List.getElem?_map]
        cases hr : (List.range n)[i]? with
        | none => rfl
        | some j =>
          have : j = i := by
            obtain ⟨k1, k2⟩ := List.getElem?_eq_some_iff.1 hr
            simpa using k2.symm
          subst this
          simp [Ne.symm e]]
    exact this
  · obtain ⟨ws, k1, k2⟩ := h.ready
    exact ⟨ws, k1, k2.out11 o fun k hk e => by
      have : gr = k := by simpa [Value.ownBlock] using hk
      have := h.ne.2.2; omega⟩
/-- A bit is turned. -/
theorem WkM.flip (h : WkM W gw gb gt gr b2 n vl L Wf R) {v : Nat} (hv : v < n) : ∃ x, x < 18446744073709551616 ∧ 2 ^ (v % 64) < 18446744073709551616 ∧ W.cell? ⟨gr, v / 64, none⟩ = some (.int .u64 (x : Nat)) ∧ W.frozen? ⟨gr, v / 64, none⟩ = false ∧
    WkM (W.setCell ⟨gr, v / 64, none⟩ (.int .u64 ((x ^^^ 2 ^ (v % 64) : Nat) : Int))) gw gb gt gr b2 n vl L Wf (flipR R v) ∧ Out (fun k => k = gr) W (W.setCell ⟨gr, v / 64, none⟩ (.int .u64 ((x ^^^ 2 ^ (v % 64) : Nat) : Int))) := by
  obtain ⟨ws, k1, k2⟩ := h.ready
  have hi : v / 64 < ws.length := by rw [k1.1]; have := Nat.div_le_div_right (c := 64) (Nat.le_of_lt hv); omega
  obtain ⟨x, hx⟩ : ∃ x, ws[v / 64]? = some x := ⟨_, List.getElem?_eq_getElem hi⟩
  obtain ⟨f1, f2, f3⟩ := k1.flip hx
  have o : Out (fun k => k = gr) W (W.setCell ⟨gr, v / 64, none⟩ (.int .u64 ((x ^^^ 2 ^ (v % 64) : Nat) : Int))) := Out.setCell (F := fun k => k = gr) (Out.refl _ W) (p := ⟨gr, v / 64, none⟩) (.inl rfl) _
  refine ⟨x, f2, f3, k2.uAt hx, k2.own.frozenAt _, ⟨(o.block gw h.glt.1 h.ne.2.1).trans h.row, h.laid.out11 o fun k hk => (h.nl k hk).2.2, h.waits.out11 o fun k hk e => ?_, ⟨_, f1, ?_⟩, fun u hu => ?_, h.lo, h.ne, h.nl⟩, o⟩
  · have : gt = k := by simpa [Value.ownBlock] using hk
    have := h.ne.2.2; omega
  · have := k2.set1 (v / 64) (.int .u64 ((x ^^^ 2 ^ (v % 64) : Nat) : Int)) rfl
    rw [← numU_set] at this
    exact this
  · unfold flipR
    rw [if_neg (by omega)]; exact h.top u hu
/-- What is laid down is another list. -/
theorem WkM.setLaid (h : WkM W gw gb gt gr b2 n vl L Wf R) {vl2 : Value} {L2 : List Nat} (hs : SO seI b2 W' vl2 L2.length (numN L2)) (o : Out (fun k => vl.ownBlock = some k) W W') (hn : ∀ k, vl2.ownBlock = some k → vl.ownBlock = some k ∨ W.heap.size ≤ k) :
    W'.cell? ⟨gw, 1, none⟩ = some vl ∧ W'.frozen? ⟨gw, 1, none⟩ = false ∧ WkM (W'.setCell ⟨gw, 1, none⟩ vl2) gw gb gt gr b2 n vl2 L2 Wf R ∧ Out (fun k => b2 ≤ k) W (W'.setCell ⟨gw, 1, none⟩ vl2) := by
  have h1 := h.out o (fun e => (h.nl _ e).1 rfl) (fun e => (h.nl _ e).2.1 rfl) (fun e => (h.nl _ e).2.2 rfl)
  have hg := h.glt
  have nl2 : ∀ k, vl2.ownBlock = some k → k ≠ gw ∧ k ≠ gt ∧ k ≠ gr := fun k hk => by
    rcases hn k hk with e | e
    · exact h.nl k e
    · exact ⟨by omega, by omega, by omega⟩
  have rw1 : W'.heap[gw]? = some (.cells #[.pointer (some ⟨gb, 0, none⟩), vl, .slice (some ⟨gt, 0, none⟩) n n, .slice (some ⟨gr, 0, none⟩) (n / 64 + 1) (n / 64 + 1)] 82 (0, 0)) := (o.block gw hg.1 fun e => (h.nl _ e).1 rfl).trans h.row
  have o2 : Out (fun k => k = gw) W' (W'.setCell ⟨gw, 1, none⟩ vl2) := Out.setCell (F := fun k => k = gw) (Out.refl _ W') (p := ⟨gw, 1, none⟩) (.inl rfl) _
  refine ⟨cell_of_row _ _ 1 _ _ _ rw1, by simp [World.frozen?, rw1], ⟨row_set11 rw1 _, hs.out11 o2 fun k hk => (nl2 k hk).1, ?_, ?_, h.top, h.lo, h.ne, nl2⟩, (o.mono fun i _ e => (h.laid.own.lt i e).1).then (Out.setCell (F := fun k => b2 ≤ k) (Out.refl _ W') (p := ⟨gw, 1, none⟩) (.inl h.lo) _)⟩
  · refine (h.waits.out11 o fun k hk e => ?_).out11 o2 fun k hk e => ?_
    · have : gt = k := by simpa [Value.ownBlock] using hk
      exact (h.nl k e).2.1 this.symm
    · have : gt = k := by simpa [Value.ownBlock] using hk
      have := h.ne.1; omega
  · obtain ⟨ws, k1, k2⟩ := h.ready
    refine ⟨ws, k1, (k2.out11 o fun k hk e => ?_).out11 o2 fun k hk e => ?_⟩
    · have : gr = k := by simpa [Value.ownBlock] using hk
      exact (h.nl k e).2.2 this.symm
    · have : gr = k := by simpa [Value.ownBlock] using hk
      have := h.ne.2.1; omega
/-- A walk: over a net, so much of it laid down. -/
def WkAt (W : World) (gw gb b2 n : Nat) (ns : List Int) (E : Eg) (L : List Nat) : Prop := ∃ gt gr vl, WkM W gw gb gt gr b2 n vl L (wtnW E L) (rwP E n L) ∧ NetW W gb b2 n ns E
theorem WkAt.below (h : WkAt W gw gb b2 n ns E L) (hb : Below W.heap.size W W') : WkAt W' gw gb b2 n ns E L := by
  obtain ⟨gt, gr, vl, h1, h2⟩ := h
  exact ⟨gt, gr, vl, h1.below hb, h2.below hb⟩
end
end Go.Proofs.YtnpeankmmojebaaGreatDoor

/- Layer 11: bits.TrailingZeros64. -/
namespace Go.Proofs.YtnpeankmmojebaaGreatDoor
set_option maxRecDepth 100000
set_option maxRecDepth 100000
open Go.RowKit

def tabV : List Value := tabN.map fun x => .int .u8 (x : Nat)
/-- The table lies in its variable. -/
def TzAt (w : World) : Prop := w.rangeAt 0 0 tabV
theorem TzAt.below {w w' : World} (h : TzAt w) (hb : Below w.heap.size w w') : TzAt w' := fun j v hj => keep_below (h j v hj) hb
set_option maxHeartbeats 4000000 in
theorem wsTz {w : World} (h : TzAt w) {x : Nat} (h0 : x ≠ 0) (hx : x < 18446744073709551616) :
    Calls Tryz.prog 68 #[.int .u64 (x : Nat)] w fun e w' => w' = w ∧ ∃ k : Nat, k < 64 ∧ x.testBit k = true ∧ (∀ j, j < k → x.testBit j = false) ∧ e = .returned (.int .i64 (k : Nat)) := by
  obtain ⟨k, h1, h2⟩ := least_bit h0
  obtain ⟨h3, h4⟩ := low_and hx h1 h2
  have ht := tab_at k h3
  have hq : 2 ^ k * 285870213051353865 % 18446744073709551616 / 288230376151711744 < 64 := by
    have := Nat.mod_lt (2 ^ k * 285870213051353865) (show 0 < 18446744073709551616 by omega)
    omega
  have h5 : bits .and .u64 (x : Int) ((-(x : Int)) % 18446744073709551616) = ((2 ^ k : Nat) : Int) := by
    have e : (-(x : Int)) % 18446744073709551616 = ((18446744073709551616 - x : Nat) : Int) := by omega
    rw [e, u64_and_nat _ _ hx (by omega)]
    rw [show (18446744073709551616 : Nat) = 2 ^ 64 by decide, h4]
  obtain ⟨P, hP⟩ : ∃ P, 2 ^ k = P := ⟨_, rfl⟩
  rw [hP] at h5 hq ht
  obtain ⟨q, hqq⟩ : ∃ q, P * 285870213051353865 % 18446744073709551616 / 288230376151711744 = q := ⟨_, rfl⟩
  rw [hqq] at hq ht
  have c0 : w.cell? ⟨0, q, none⟩ = some (.int .u8 (k : Nat)) := by
    have := h q (.int .u8 (k : Nat)) (by unfold tabV; rw [List.getElem?_map, ht]; rfl)
    rwa [Nat.zero_add] at this
  have e0 : ((x : Int) == 0) = false := by simpa using h0
  have e1 : ((P : Int) * 285870213051353865 % 18446744073709551616) / 288230376151711744 = (q : Int) := by rw [← hqq, Int.natCast_ediv, Int.natCast_emod, Int.natCast_mul]; rfl
  have e2 : IntKind.u64.wrap (bits .and .u64 (x : Int) (IntKind.u64.wrap (-(x : Int))) * 285870213051353865) / 288230376151711744 = (q : Int) := by
    rw [IntKind.wrap_u64, IntKind.wrap_u64, h5]; exact e1
  have q64 : (q : Int) < 64 := by omega
  have k64 : (k : Int) < 64 := by omega
  have HH := Lib.hid (And.intro h3 (And.intro h1 h2))
  clear h h1 h2 h3 h4 h5 e1 ht hq hP hqq
  go_enter Tryz.func68, Tryz.ntmps68
  go_wp2
  go_ret
  exact ⟨rfl, k, HH.out.1, HH.out.2.1, HH.out.2.2, rfl⟩
end Go.Proofs.YtnpeankmmojebaaGreatDoor

/- Layer 11: a walk's flip and readyFrom. -/
namespace Go.Proofs.YtnpeankmmojebaaGreatDoor
set_option maxRecDepth 100000
set_option maxRecDepth 100000
open Go.RowKit

theorem below_drew11 (w : World) : Below w.heap.size w w.drew := ⟨rfl, rfl, rfl, Nat.le_refl _, fun _ _ => rfl⟩
section
variable {w : World} {gw gb gt gr b2 n v : Nat} {vl : Value} {L : List Nat} {Wf : Nat → Nat} {R : Nat → Bool}
set_option maxHeartbeats 4000000 in
theorem wsFlip (h : WkM w gw gb gt gr b2 n vl L Wf R) (hn : n ≤ 4096) (hv : v < n) :
    Calls Tryz.prog 44 #[.pointer (some ⟨gw, 0, none⟩), .int .i64 (v : Nat)] w fun e w' => e = .returned (.tuple #[]) ∧ WkM w' gw gb gt gr b2 n vl L Wf (flipR R v) ∧ Out (fun k => k = gr) w w' := by
  obtain ⟨x, hx, hp, c0, f0, hK⟩ := h.flip hv
  have c3 := h.cells.2.2.2
  obtain ⟨m, hm⟩ : ∃ m, n / 64 + 1 = m := ⟨_, rfl⟩
  rw [hm] at c3
  obtain ⟨q, hq⟩ : ∃ q, v / 64 = q := ⟨_, rfl⟩
  obtain ⟨b, hb⟩ : ∃ b, v % 64 = b := ⟨_, rfl⟩
  rw [hq] at c0 f0 hK
  rw [hb] at hK hp
  have qm : (q : Int) < (m : Int) := by have := Nat.div_le_div_right (c := 64) (Nat.le_of_lt hv); omega
  have eq : (v : Int) / 64 = (q : Int) := by omega
  have eb : (v : Int) % 64 = (b : Int) := by omega
  have q64 : (q : Int) ≤ 64 := by omega
  have b64 : (b : Int) < 64 := by omega
  have ev : bits .xor .u64 (x : Int) (IntKind.u64.wrap (2 ^ b)) = ((x ^^^ 2 ^ b : Nat) : Int) := by
    rw [← u64_xor_nat x (2 ^ b) hx hp, IntKind.wrap_u64]
    congr 1
    rw [Int.natCast_pow]
    have hp2 : ((2 : Int) ^ b) < 18446744073709551616 := by
      have := (Int.ofNat_lt (n := 2 ^ b)).2 hp
      rw [Int.natCast_pow] at this; exact this
    exact Int.emod_eq_of_lt (Int.le_of_lt (Int.pow_pos (by omega))) hp2
  rw [← ev] at hK
  have HK := Lib.hid hK
  clear h hn hv ev hx hp hm hq hb hK
  go_enter Tryz.func44, Tryz.ntmps44
  go_wp2
  go_region
  go_end0
  exact ⟨rfl, HK.out.1.below (below_drew11 _), HK.out.2.then (Out.of_below (below_drew11 _) _)⟩
end
end Go.Proofs.YtnpeankmmojebaaGreatDoor

/- Layer 11: a walk's readyFrom. -/
namespace Go.Proofs.YtnpeankmmojebaaGreatDoor
set_option maxRecDepth 100000
set_option maxRecDepth 100000
open Go.RowKit

section
variable {w : World} {gw gb gt gr b2 n : Nat} {vl : Value} {L : List Nat} {Wf : Nat → Nat} {R : Nat → Bool}
set_option maxHeartbeats 8000000 in
theorem wsReady (h : WkM w gw gb gt gr b2 n vl L Wf R) (hT : TzAt w) (hn : n ≤ 4096) {r : Nat} (hr : r ≤ n) :
    Calls Tryz.prog 47 #[.pointer (some ⟨gw, 0, none⟩), .int .i64 (r : Nat)] w fun e w' => w' = w ∧ ∃ o, NxtIs R n r o ∧ e = .returned (.int .i64 o) := by
  obtain ⟨ws, k1, k2⟩ := h.ready
  have c3 := h.cells.2.2.2
  obtain ⟨m, hm⟩ : ∃ m, n / 64 + 1 = m := ⟨_, rfl⟩
  rw [hm] at c3 k1 k2
  obtain ⟨q, hq⟩ : ∃ q, r / 64 = q := ⟨_, rfl⟩
  obtain ⟨b, hb⟩ : ∃ b, r % 64 = b := ⟨_, rfl⟩
  have q64 : (q : Int) ≤ 64 := by omega
  have eq : (r : Int) / 64 = (q : Int) := by omega
  have eb : (r : Int) % 64 = (b : Int) := by omega
  have b64 : (b : Int) < 64 := by omega
  have HM := Lib.hid (show m ≤ 65 ∧ n < 64 * m ∧ q < m by omega)
  have HQ := Lib.hid (show 64 * q + b = r ∧ b < 64 by omega)
  have HK := Lib.hid k1
  have HS := Lib.hid k2
  have HT := Lib.hid hT
  have HP := Lib.hid h.top
  clear h hT hn hr hm hq hb k1 k2
  go_enter Tryz.func47, Tryz.ntmps47
  go_upto_region 3 with fail
  go_loopw [5, 6] (fun mk i wr => ∃ j M : Nat, i = .int .i64 (j : Nat) ∧ mk = .int .u64 (M : Nat) ∧ j ≤ m ∧ M < 18446744073709551616 ∧ (∀ b, b < 64 → M.testBit b = decide (r ≤ 64 * j + b)) ∧ (∀ v, r ≤ v → v < 64 * j → R v = false) ∧ q ≤ j ∧ wr = w) (fun _ i _ => m - (intOf i).toNat)
  case atStart =>
    refine ⟨q, 18446744073709551615 * 2 ^ b % 18446744073709551616, rfl, ?_, Nat.le_of_lt HM.out.2.2, Nat.mod_lt _ (by omega), fun c hc => ?_, fun v h1 h2 => ?_, Nat.le_refl _, rfl⟩
    · rw [IntKind.wrap_u64, Int.natCast_emod, Int.natCast_mul, Int.natCast_pow]; rfl
    · rw [mask_at HQ.out.2 hc]
      have := HQ.out.1
      by_cases e : b ≤ c
      · rw [decide_eq_true e, decide_eq_true (by omega)]
      · rw [decide_eq_false e, decide_eq_false (by omega)]
    · have := HQ.out; omega
  case round =>
    rename World => wr
    obtain ⟨j, M, rfl, rfl, hj, hM, hb, hR, hqj, rfl⟩ := hrel
    by_cases hlt : j < m
    · obtain ⟨x, hx⟩ : ∃ x, ws[j]? = some x := ⟨_, List.getElem?_eq_getElem (by rw [HK.out.1]; exact hlt)⟩
      have cx := HS.out.uAt hx
      obtain ⟨x1, x2⟩ := HK.out.2 j x hx
      have i1 : (j : Int) < (m : Int) := by omega
      have l1 : (j : Int) ≤ 65 := by have := HM.out.1; omega
      obtain ⟨s, hs⟩ : ∃ s, x &&& M = s := ⟨_, rfl⟩
      have hsl : s < 18446744073709551616 := by rw [← hs]; exact Nat.and_lt_two_pow (n := 64) _ hM
      have ea : bits .and .u64 (x : Int) (M : Int) = (s : Int) := by rw [u64_and_nat _ _ x1 hM, hs]
      have hsb : ∀ b, b < 64 → s.testBit b = (R (64 * j + b) && decide (r ≤ 64 * j + b)) := fun b h64 => by rw [← hs, Nat.testBit_and, x2 b h64, hb b h64]
      by_cases h0 : s = 0
      · subst h0
        have HN := Lib.hid (show ∀ v, r ≤ v → v < 64 * (j + 1) → R v = false from fun v h1 h2 => by
          by_cases h3 : v < 64 * j
          · exact hR v h1 h3
          · have := hsb (v - 64 * j) (by omega)
            rw [Nat.zero_testBit, show 64 * j + (v - 64 * j) = v by omega, decide_eq_true h1, Bool.and_true] at this
            exact this.symm)
        have HJ := Lib.hid (And.intro hlt hqj)
        clear hj hM hb hR hqj hx x1 x2 hs hsl hsb hlt
        go_wp2
        go_roundw
        case rel => exact ⟨j + 1, 18446744073709551615, by go_num, rfl, HJ.out.1, by omega, fun b hb => by
          have e : r ≤ 64 * (j + 1) + b := by have := HQ.out; have := HJ.out.2; omega
          rw [decide_eq_true e, show (18446744073709551615 : Nat) = 2 ^ 64 - 1 by decide, Nat.testBit_two_pow_sub_one]
          simpa using hb, HN.out, Nat.le_succ_of_le HJ.out.2, by first | rfl | trivial⟩
        case measure => have := HJ.out.1; simp [intOf]; omega
      · have e0 : ((s : Int) == 0) = false := by simpa using h0
        have CT := Lib.hid (wsTz HT.out h0 hsl)
        have HN := Lib.hid (show ∀ k, k < 64 → s.testBit k = true → (∀ i, i < k → s.testBit i = false) → NxtIs R n r ((j : Int) * 64 + (k : Int)) from fun k h1 h2 h3 => by
          rw [hsb k h1, Bool.and_eq_true, decide_eq_true_eq] at h2
          refine .inr ⟨64 * j + k, by omega, h2.2, ?_, h2.1, fun u h4 h5 => ?_⟩
          · refine Nat.lt_of_not_le fun h6 => ?_
            have := HP.out _ h6
            rw [h2.1] at this; cases this
          · by_cases h6 : u < 64 * j
            · exact hR u h4 h6
            · have := hsb (u - 64 * j) (by omega)
              rw [h3 _ (by omega), show 64 * j + (u - 64 * j) = u by omega, decide_eq_true h4, Bool.and_true] at this
              exact this.symm)
        clear hj hM hb hR hqj hx x1 x2 hs hsl hsb hlt
        go_wp2_with (go_at_call 68; go_loud (refine CT.out.mono ?_; rintro e w1 ⟨rfl, k, hk1, hk2, hk3, rfl⟩; have HN2 := Lib.hid (HN.out k hk1 hk2 hk3); have k64 : (k : Int) < 64 := (by omega); clear hk1 hk2 hk3))
        go_ret
        exact ⟨rfl, _, HN2.out, rfl⟩
    · obtain rfl : j = m := by omega
      have i1 : ¬ (j : Int) < (j : Int) := by omega
      have HN := Lib.hid (show NxtIs R n r (-1) from .inl ⟨rfl, fun v h1 h2 => hR v h1 (by have := HM.out; omega)⟩)
      clear hj hlt hM hb hR hqj
      go_wp2
      go_ret
      exact ⟨rfl, _, HN.out, rfl⟩
end
end Go.Proofs.YtnpeankmmojebaaGreatDoor
