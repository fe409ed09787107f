import Derived.Test.YtnpeankmmojebaaGreatDoorJBI
import Derived.Test.YtnpeankmmojebaaGreatDoorJBF
import Derived.BigQuiet
import Derived.Deep.QuietTactic
/- Layer 11: the reference's at, Ordered and Serial; orders, plainly. -/
set_option linter.unusedVariables false
namespace Go.Proofs.YtnpeankmmojebaaGreatDoor
set_option maxRecDepth 100000
set_option maxRecDepth 100000
open Go.RowKit

/-- A list is an order of the commits. -/
def OrdP (cs l : List Int) : Prop := l.length = cs.length ∧ l.Nodup ∧ ∀ x ∈ l, x ∈ cs
/-- Each dependency leads from one that stands ahead to one that stands behind. -/
def serB (l : List Int) (g : List Dp) : Bool := g.all fun d => !decide (plcP l d.to < plcP l d.fr)
theorem plcP_nodup {l : List Int} : l.Nodup ↔ ∀ (i : Nat) x, l[i]? = some x → plcP l x = (i : Int) := by
  constructor
  · exact fun h i x hx => plcP_of h hx
  · intro h
    rw [List.nodup_iff_pairwise_ne, List.pairwise_iff_getElem]
    intro i j hi hj hij e
    have h1 := h i l[i] (List.getElem?_eq_getElem hi)
    have h2 := h j l[j] (List.getElem?_eq_getElem hj)
    rw [e] at h1
    omega
theorem sub_back : ∀ (l m : List Int), l.Nodup → (∀ x ∈ l, x ∈ m) → m.length ≤ l.length → ∀ x ∈ m, x ∈ l
  | [], m, _, _, hl => by
    have : m = [] := List.eq_nil_of_length_eq_zero (by simpa using hl)
    rw [this]; simp
  | a :: l, m, hd, hs, hl => fun x hx => by
    obtain ⟨h1, h2⟩ := List.nodup_cons.1 hd
    have ham := hs a (List.mem_cons_self ..)
    by_cases e : x = a
    · rw [e]; exact List.mem_cons_self ..
    · refine List.mem_cons_of_mem _ (sub_back l (m.erase a) h2 (fun y hy => ?_) ?_ x ?_)
      · have hne : y ≠ a := fun k => h1 (k ▸ hy)
        exact (List.mem_erase_of_ne hne).2 (hs y (List.mem_cons_of_mem _ hy))
      · rw [List.length_erase_of_mem ham]
        rw [List.length_cons] at hl; omega
      · exact (List.mem_erase_of_ne e).2 hx
section
variable {w : World} {A B : Option Addr} {n c m d : Nat} {cs : List Int} {ac : List Ac}
set_option maxHeartbeats 8000000 in
theorem wrAt {l : List Int} (hs : SB w A n (numC l)) (hl : l.length = n) (hn : n ≤ 4096) (t : Int) :
    Calls Tryz.prog 29 #[.slice A n c, .int .i64 t] w fun e w' => e = .returned (.int .i64 (plcP l t)) ∧ w' = w := by
  have HS := Lib.hid hs
  have HL := Lib.hid hl
  have HN := Lib.hid hn
  clear hs hl hn
  go_enter Tryz.func29, Tryz.ntmps29
  go_upto_region 2 with fail
  go_loopw [5] (fun i wr => ∃ j : Nat, i = .int .i64 (j : Nat) ∧ j ≤ n ∧ (∀ x ∈ l.take j, x ≠ t) ∧ wr = w) (fun i _ => n - (intOf i).toNat)
  case atStart => exact ⟨0, rfl, Nat.zero_le _, by simp, rfl⟩
  case round =>
    rename World => wr
    obtain ⟨j, rfl, hj, ha, rfl⟩ := hrel
    by_cases hlt : j < n
    · obtain ⟨x, hx⟩ : ∃ x, l[j]? = some x := ⟨_, List.getElem?_eq_getElem (by rw [HL.out]; exact hlt)⟩
      obtain ⟨g, o, rfl, c0⟩ := HS.out.num hx
      have i1 : (j : Int) < (n : Int) := by omega
      have l1 : (j : Int) ≤ 4096 := by have := HN.out; omega
      have l2 : (0 : Int) ≤ (j : Int) := by omega
      have HA := Lib.hid ha
      have HX := Lib.hid hx
      have HLT := Lib.hid hlt
      clear hx ha hj hlt
      by_cases hp : x = t
      · subst hp
        have HT := Lib.hid (show plcP l x = (j : Int) from plcP_first HX.out HA.out)
        go_wp2
        go_ret
        exact ⟨by rw [HT.out]; rfl, rfl⟩
      · have hp' : (x == t) = false := by simpa using hp
        go_wp2
        go_roundw
        case rel => exact ⟨j + 1, by go_num, HLT.out, fun y hy => by
          rw [List.take_add_one, HX.out] at hy
          rcases List.mem_append.1 hy with h1 | h1
          · exact HA.out y h1
          · rw [List.mem_singleton.1 h1]; exact hp, by first | rfl | trivial⟩
        case measure => have := HLT.out; simp [intOf]; omega
    · obtain rfl : j = n := by omega
      have i1 : ¬ (j : Int) < (j : Int) := by omega
      have HT := Lib.hid (show plcP l t = -1 by
        rw [← HL.out, List.take_length] at ha
        unfold plcP
        rw [if_neg (fun hm => ha t hm rfl)])
      clear ha hj hlt
      go_wp2
      go_ret
      exact ⟨by rw [HT.out]; rfl, rfl⟩
end
end Go.Proofs.YtnpeankmmojebaaGreatDoor

/- Layer 11: the reference's leads, far and through. -/
namespace Go.Proofs.YtnpeankmmojebaaGreatDoor
set_option maxRecDepth 100000
set_option maxRecDepth 100000
open Go.RowKit

theorem numC_setI (d : List Int) (v : Nat) (x : Int) : numC (d.set v x) = (numC d).set v (.int .i64 x) := by simp [numC, List.map_set]
theorem numC_gI {d : List Int} {v : Nat} (h : v < d.length) : (numC d)[v]? = some (.int .i64 (gI d v)) := numC_at (by unfold gI; rw [List.getD_eq_getElem?_getD, List.getElem?_eq_getElem h]; rfl)
theorem SO.intAt {base n c g : Nat} {w : World} {d : List Int} (h : SO seI base w (.slice (some ⟨g, 0, none⟩) n c) n (numC d)) {v : Nat} (hv : v < d.length) : w.cell? ⟨g, v, none⟩ = some (.int .i64 (gI d v)) := by
  rcases h.cell1 v with k | k
  · exact k.trans (numC_gI hv)
  · rw [numC_len] at k; omega
/-- Whether a dependency leads from one to another. -/
def leadB (g : List Dp) (a b : Int) : Bool := g.any fun d => decide (d.fr = a) && decide (d.to = b)
theorem lead_next {g : List Dp} {j : Nat} {y : Dp} (h : g[j]? = some y) (a b : Int) : leadB (g.take (j + 1)) a b = (leadB (g.take j) a b || (decide (y.fr = a) && decide (y.to = b))) := by
  unfold leadB
  rw [List.take_add_one, h, Option.toList_some, List.any_append]
  simp
theorem lead_found {g : List Dp} {j : Nat} {y : Dp} (h : g[j]? = some y) {a b : Int} (h1 : y.fr = a) (h2 : y.to = b) : leadB g a b = true := by
  unfold leadB
  rw [List.any_eq_true]
  exact ⟨y, List.mem_of_getElem? h, by simp [h1, h2]⟩
theorem lead_edge {ns : List Int} {g : List Dp} (hd : ns.Nodup) (hm : ∀ d ∈ g, d.fr ∈ ns ∧ d.to ∈ ns) {i j : Nat} {a b : Int} (ha : ns[i]? = some a) (hb : ns[j]? = some b) : leadB g a b = true ↔ (i, j) ∈ edgesP ns g := by
  unfold leadB edgesP
  rw [List.any_eq_true, List.mem_map]
  constructor
  · rintro ⟨d, h1, h2⟩
    rw [Bool.and_eq_true, decide_eq_true_eq, decide_eq_true_eq] at h2
    refine ⟨d, h1, ?_⟩
    unfold edgeP
    rw [h2.1, h2.2, idx_of hd ha, idx_of hd hb]
  · rintro ⟨d, h1, h2⟩
    unfold edgeP at h2
    injection h2 with e1 e2
    obtain ⟨m1, m2⟩ := hm d h1
    have k1 := plcP_at m1
    have k2 := plcP_at m2
    rw [e1, ha] at k1
    rw [e2, hb] at k2
    exact ⟨d, h1, by rw [Bool.and_eq_true, decide_eq_true_eq, decide_eq_true_eq]; exact ⟨(Option.some.inj k1).symm, (Option.some.inj k2).symm⟩⟩
section
variable {w : World} {gA : Option Addr} {gc : Nat} {GR : List Dp}
variable {nA : Option Addr} {n nc : Nat} {ns : List Int}
/-- Names and dependencies as they lie, and what is known of them. -/
structure Nms (w : World) (gA : Option Addr) (q : Nat) (GR : List Dp) (nA : Option Addr) (n : Nat) (ns : List Int) : Prop where
  g : SB w gA (3 * GR.length) (cellsE dpC GR)
  qe : GR.length = q
  gl : q ≤ 8192
  s : SB w nA n (numC ns)
  ne : ns.length = n
  nl : n ≤ 4096
  nd : ns.Nodup
  mem : ∀ d ∈ GR, d.fr ∈ ns ∧ d.to ∈ ns
  ok : EdOk (edgesP ns GR) n
theorem Nms.gw {q : Nat} {w' : World} (h : Nms w gA q GR nA n ns) (hb : Below w.heap.size w w') : Nms w' gA q GR nA n ns := ⟨h.g.gw hb, h.qe, h.gl, h.s.gw hb, h.ne, h.nl, h.nd, h.mem, h.ok⟩
end
end Go.Proofs.YtnpeankmmojebaaGreatDoor
