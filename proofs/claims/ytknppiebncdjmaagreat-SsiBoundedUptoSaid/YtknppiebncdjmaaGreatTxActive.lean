/- Layer 10: Active. -/
import Derived.Test.YtknppiebncdjmaaGreatJBO
import Derived.Test.YtknppiebncdjmaaGreatTxShelfI
import Derived.Test.YtknppiebncdjmaaGreatJAQ
set_option linter.unusedVariables false
namespace Go.Proofs.YtknppiebncdjmaaGreat
set_option maxRecDepth 100000
open Go.RowKit Go.Maps Go.ChangeMaps Go.MapKept Go.Shelf

theorem wKeysA (W : World) (mb : Option Nat) : Calls Tryz.prog 74 #[.map mb] W fun e w' => e = .returned (.func (.func 123) #[] #[.pointer (some ⟨W.heap.size, 0, none⟩)]) ∧ w' = W.alloc (.cells #[.map mb] 86) :=
  (callsIn_wide (n := 5)).1 (AnyZI.keys_in Tryz.keysA Fence.wide 5 trivial rfl mb W)
theorem sortsN10 (m : Nat) : AnyZI.SortsIn Tryz.prog Tryz.sortedA_ren Fence.wide m :=
  ⟨fun blk off cap ss W hH hblk hsz => callsIn_wide.2 (AnyM.slices_Sort_int Tryz.sortN blk off cap ss W hH hblk hsz),
   fun p cap W => callsIn_wide.2 (AnyM.slices_Sort_int_none Tryz.sortN p cap W)⟩
theorem keys_perm {w : World} {r : Nat} {hs : List (Int × Value)} {D : DataW Value} (ho : w.ownsMap Tryz.prog 2 heldR r hs.length D) (hv : ViewM KI D hs) : (hs.map (·.1)).Perm (intKeys D) := by
  obtain ⟨es, hD, hpw, _⟩ := ho.entries KI.law
  obtain ⟨es', hD', hko⟩ := ho.keysOf
  obtain rfl : es = es' := by rw [hD] at hD'; simpa using hD'
  subst hD
  refine perm_intKeys hpw (fun p hp => by obtain ⟨v, hv⟩ := hko p hp; obtain ⟨x, _, hx, _⟩ := Maps.keyOf_i64 Tryz.underlying2 hv; exact ⟨x, hx⟩) hv.once fun x => ?_
  by_cases hx : (Lit.int .i64 x).wf = true
  · have h1 := hv.has x hx
    have h2 : KI.lit x = .int .i64 x := rfl
    rw [h2] at h1
    rw [h1]
    constructor
    · intro hm
      obtain ⟨p, hp, rfl⟩ := List.mem_map.1 hm
      rw [(getM_some hv.once).2 (show (p.1, p.2) ∈ hs from hp)]
      rfl
    · intro hs2
      cases hg : getM hs x with
      | none => rw [hg] at hs2; cases hs2
      | some v => exact List.mem_map.2 ⟨(x, v), (getM_some hv.once).1 hg, rfl⟩
  · constructor
    · intro hm
      obtain ⟨p, hp, rfl⟩ := List.mem_map.1 hm
      exact absurd (hv.ok p hp) hx
    · intro hh
      rw [has_eq, List.any_eq_true] at hh
      obtain ⟨p, hp, he⟩ := hh
      obtain ⟨v, hv2⟩ := hko p hp
      obtain ⟨y, _, hy, hl⟩ := Maps.keyOf_i64 Tryz.underlying2 hv2
      rw [hy] at he
      have : y = x := by simpa [Lit.sameKey] using he
      rw [this] at hl
      exact absurd hl hx
theorem wSortedA {W : World} {r : Nat} {hs : List (Int × Value)} (h : MapM KI W r hs) (hn : hs.length ≤ 1048576) :
    Calls Tryz.prog 73 #[.func (.func 123) #[] #[.pointer (some ⟨W.heap.size, 0, none⟩)]] (W.alloc (.cells #[.map (some r)] 86)) fun e w' => ∃ v, e = .returned v ∧ SO seN W.heap.size w' v hs.length (numC ((hs.map (·.1)).mergeSort fun x y => decide (x ≤ y))) ∧ Below W.heap.size W w' := by
  obtain ⟨D, ho, hv⟩ := h
  have hsz : Maps.size D = hs.length := hv.size
  have ho' := owns_tightM ho
  have hbl := ho'.lt
  have hseq : SeqGives Fence.wide 2 Tryz.prog 123 #[.pointer (some ⟨W.heap.size, 0, none⟩)] encZ (fun ss => ss.Perm (intKeys D)) (Maps.size D) (W.alloc (.cells #[.map (some r)] 86)) :=
    AnyZI.keys_gives (ρ := Tryz.keysA_ren) { Tryz.keysA with } Fence.wide _ trivial rfl (by omega) W.heap.size r (Maps.size D) D _ (by simp) (by simp) (by
      obtain ⟨es, clock, hb, Ft, hs, hD⟩ := ho'
      exact ⟨es, clock, (Below.heap_alloc _ _ r hbl).trans hb, Ft, hs, hD⟩)
  have cS := AnyZI.sorted_in Tryz.sortedA Fence.wide 5 trivial trivial trivial trivial rfl (by omega) (sortsN10 _) (enters_of Tryz.func89 (by kernel_rfl) rfl) 123 #[.pointer (some ⟨W.heap.size, 0, none⟩)] trivial (enters_of Tryz.func123 (by kernel_rfl) rfl) _ _ (by rw [hsz]; simp only [maxLen]; omega) (by rw [hsz]; omega) _ hseq
  change CallsIn _ _ Tryz.prog 73 _ _ _ at cS
  refine ((callsIn_wide (n := 5)).1 cS).mono ?_
  rintro e w' ⟨v, ss, rfl, hp, hrow, -, hb⟩
  have hpp := hp.trans (keys_perm ho hv).symm
  have hl : ss.length = hs.length := by rw [hpp.length_eq, List.length_map]
  refine ⟨v, rfl, ⟨?_, ?_, ?_⟩, ((Below.refl _ W).alloc (Nat.le_refl _) _).trans (hb.mono (by simp))⟩
  · have h2 := ownsRow_base_a hrow (show W.heap.size ≤ (W.alloc (.cells #[.map (some r)] 86)).heap.size by simp)
    rw [hl, mergeSort_of_perm_i hpp] at h2
    exact h2
  · simp [numC, seN]
  · intro u hu
    unfold numC at hu
    obtain ⟨x, -, rfl⟩ := List.mem_map.1 hu
    rfl
section
variable {M : MF} {w : World} {b ab kb fb lm lr rr : Nat} {GR : Nat → Prop} {c : Cp10} {P : Pg}
set_option maxHeartbeats 4000000 in
theorem wxActive (I : Api9 M) (h : Mem10 M w b ab kb fb lm lr rr GR c P) (hc : PgOk c P) (hn : P.act.length ≤ 1048576) :
    Calls Tryz.prog 28 #[.pointer (some ⟨b, 0, none⟩)] w fun e w' => ∃ v, e = .returned v ∧ SO seN w.heap.size w' v P.act.length (numC ((P.act.map (·.1)).mergeSort fun x y => decide (x ≤ y))) ∧ Below w.heap.size w w' := by
  have CM := Lib.hid (wxMade h hc)
  have CK := Lib.hid (wKeysA w (some ab))
  have hl : (actM P.act).length = P.act.length := by simp [actM, encA]
  have hf : (actM P.act).map (·.1) = P.act.map (·.1) := by simp [actM, encA]
  have CS := Lib.hid (wSortedA h.act (by omega))
  rw [hl, hf] at CS
  obtain ⟨-, -, -, -, -, -, c6, -⟩ := h.cells
  clear h hc hl hf hn
  go_enter Tryz.func28, Tryz.ntmps28
  go_wp2_with (first
    | (go_at_call 40; go_loud (refine CM.out.mono ?_; rintro e w1 ⟨rfl, hw⟩; replace hw := hw.symm; subst hw))
    | (go_at_call 74; go_loud (refine CK.out.mono ?_; rintro e w2 ⟨rfl, rfl⟩))
    | (go_at_call 73; go_loud (refine CS.out.mono ?_; rintro e w3 ⟨v, rfl, s3, b3⟩; have S3 := Lib.hid s3; have B3 := Lib.hid b3; clear s3 b3)))
  go_ret
  exact ⟨v, rfl, S3.out, B3.out⟩
end
end Go.Proofs.YtknppiebncdjmaaGreat
