/- Layer 9: Note, where there is no room. -/
import Derived.Test.YtcpifanhmkblmaaJBF
namespace Go.Proofs.Ytcpifanhmkblmaa
set_option maxRecDepth 100000
set_option maxRecDepth 100000
open Go.RowKit

section
variable {w w' : World} {r mb most : Nat} {cnt : Int} {X Y : List Tx9} {t : Int} {b : Nat} {tb : ByteArray}
theorem note_undo {w6 : World} (h : Mem9 NoE w6 r mb most (flatX X).length X) (hl : (flatX X).length ≤ 70000) {L : List Nt} {x : Rd} (hf : (flatX X).Perm (addP L t x)) (hgt : L.length < (flatX X).length) (hc : coarsestP (flatX X) = none) :
    Calls Try.prog 38 #[.pointer (some ⟨r, 0, none⟩), .agg #[.int .i64 t, .string x.tb]] w6 fun e w' => e = .returned (.tuple #[]) ∧ ∃ X', Mem9 NoE w' r mb most (flatX X').length X' ∧ (flatX X').Perm L ∧ (∀ k, BlX r mb X' k → BlX r mb X k) ∧ Out (BlX r mb X) w6 w' := by
  have hmem : (t, x) ∈ flatX X := hf.mem_iff.2 (by unfold addP; simp)
  have hcn : ∀ m ∈ flatX X, cntR (flatX X) (prP m) < 2 := by
    rcases coarsest_is (flatX X) with ⟨-, h2⟩ | ⟨p, h1, -⟩
    · exact h2
    · rw [hc] at h1; cases h1
  have h1 := hcn _ hmem
  rw [cnt_perm hf] at h1
  have hsub : (L.filter fun n => !(decide (n.1 = t) && coversP x n.2)).Sublist L := List.filter_sublist
  have hle := hsub.length_le
  have hlen := hf.length_eq
  unfold addP at hlen h1
  rw [List.length_append, List.length_singleton] at hlen
  have hfull : (L.filter fun n => !(decide (n.1 = t) && coversP x n.2)) = L := hsub.eq_of_length (by omega)
  rw [hfull] at h1
  have hL : ∀ n ∈ L, notP t x.tb n = true := fun n hn => by
    cases hq : notP t x.tb n with
    | true => rfl
    | false =>
      exfalso
      unfold cntR cntP prP at h1
      simp only at h1
      rw [List.filter_append, List.length_append] at h1
      have h2 : 0 < (L.filter fun n => decide (n.1 = t) && (n.2.tb.toList == x.tb.toList)).length := List.length_pos_of_mem (List.mem_filter.2 ⟨hn, by unfold notP at hq; simpa using hq⟩)
      have h3 : ([(t, x)].filter fun n => decide (n.1 = t) && (n.2.tb.toList == x.tb.toList)).length = 1 := by simp
      rw [h3] at h1
      omega
  have hflat : ((flatX X).filter (notP t x.tb)).Perm L := by
    refine (hf.filter _).trans ?_
    unfold addP
    rw [hfull, List.filter_append, List.filter_eq_self.2 hL]
    have : [(t, x)].filter (notP t x.tb) = [] := by unfold notP; simp
    rw [this, List.append_nil]
  obtain ⟨a⟩ := at9 h.once (fun e he => h.onceT he) t x.tb
  obtain ⟨e, he, q, hq, z, hz, e0⟩ := mem_flatX.1 hmem
  have e1 : e.1 = t := (congrArg Prod.fst e0).symm
  have e2 : q.1 = x.tb := by rw [← tbOk_tb (h.ok e he q hq) z hz]; exact (congrArg (fun n : Nt => n.2.tb) e0).symm
  rcases a with hY | ⟨b, T, Y, hX, hY, hS⟩ | ⟨b, v0, ls0, S, T, Y, hX, hY, hT, hS⟩
  · exact absurd e1 (hY e he)
  · exfalso
    rcases List.mem_cons.1 (hX.mem_iff.1 he) with rfl | he2
    · exact hS q hq e2
    · exact hY e he2 e1
  · have hX2 := flatX_perm hX
    have hfp : (flatX X).Perm (flatX ((t, b, (x.tb, v0, ls0) :: S) :: Y)) := hX2.trans (flat_permT hT)
    have hbl : ∀ k, BlX r mb ((t, b, (x.tb, v0, ls0) :: S) :: Y) k ↔ BlX r mb X k := fun k => (bl_permT hT.symm k).trans (bl_perm hX.symm k)
    have hw1 : (Lit.int .i64 t).wf = true := by have := h.top.ok (e.1, .map (some e.2.1)) (List.mem_map.2 ⟨e, he, rfl⟩); rw [← e1]; exact this
    have hw2 : x.tb.size ≤ maxLen := by have := (h.tab e he).ok (q.1, q.2.1) (List.mem_map.2 ⟨q, hq, rfl⟩); rw [← e2]; exact this
    refine (wpTake9 (by rw [← hfp.length_eq]; exact (h.perm hX).permT hT) (by rw [← hfp.length_eq]; exact hl) hw1 hw2 hY hS).mono ?_
    rintro ee w' ⟨he3, ti⟩
    exact ⟨he3, _, ti.mem, ti.flat.trans ((hfp.symm.filter _).trans hflat), fun k hk => (hbl k).1 (ti.bl k hk), ti.out.mono fun k _ hk => (hbl k).1 hk⟩
theorem shrink_two {most : Nat} {L : List Nt} {f : Nat} (h : ¬ L.length ≤ most) (h1 : L.length ≤ most + 1) : shrinkP most (f + 1) L = (coarsestP L).elim none fun p => some (coarseP L p.1 p.2) := by
  unfold shrinkP
  rw [if_neg h]
  rcases coarsest_is L with ⟨e, -⟩ | ⟨p, e, hp⟩
  · rw [e]; rfl
  · rw [e]
    simp only [Option.elim_some]
    have h2 := coarse_len L p.1 p.2
    have h3 := hp.two
    unfold cntR at h3
    have h4 : (coarseP L p.1 p.2).length ≤ most := by omega
    cases f <;> (unfold shrinkP; rw [if_pos h4])
/-- What Note makes of the notes, where it takes one more. -/
theorem note_says {most : Nat} {L : List Nt} (hm : L.length ≤ most) {x : Rd} (ht : ¬ t < 1) (hx : mayP x = true) (hc : (L.any fun n => decide (n.1 = t) && coversP n.2 x) = false) :
    noteP most L t x = if (addP L t x).length ≤ most then (0, addP L t x) else (coarsestP (addP L t x)).elim (4, L) fun p => (0, coarseP (addP L t x) p.1 p.2) := by
  unfold noteP
  rw [if_neg (by rw [hx]; simp; omega), hc, if_neg (by simp)]
  have hlen : (addP L t x).length ≤ most + 1 := by
    unfold addP
    rw [List.length_append, List.length_singleton]
    have := List.length_filter_le (fun n => !(decide (n.1 = t) && coversP x n.2)) L
    omega
  by_cases h1 : (addP L t x).length ≤ most
  · rw [if_pos h1]
    unfold shrinkP
    rw [if_pos h1]
    rfl
  · rw [if_neg h1, shrink_two h1 hlen]
    cases coarsestP (addP L t x) <;> rfl
end
end Go.Proofs.Ytcpifanhmkblmaa
