import Derived.Test.YthpbcibjohakkaaJAK
import Derived.Test.YthpbcibjohakkaaJAQ
import Derived.Test.YthpbcibjohakkaaJAJ
/- What DiskChooses asks, over plain lists. -/
namespace Go.Proofs.Ythpbcibjohakkaa
set_option maxRecDepth 100000
open Go.RowKit

theorem lay_choose (n : Nat) : ∀ (xs : List Wr) (ks : List Int) (l : List Cn), (layAll l xs ks)[n]? = l[n]? ∨ ∃ x c, x ∈ xs ∧ x.p = n ∧ (layAll l xs ks)[n]? = some c ∧ (c.t = true ∨ c.b = x.b)
  | [], ks, l => by cases ks <;> exact .inl rfl
  | x :: xs, [], l => .inl rfl
  | x :: xs, k :: ks, l => by
    rw [layAll]
    rcases lay_choose n xs ks (settleL l x k) with h | ⟨y, c, h1, h2, h3, h4⟩
    · rw [h]
      unfold settleL
      split
      · rw [List.getElem?_set]
        split
        · rename_i he
          split
          · exact .inr ⟨x, _, List.mem_cons_self .., he, rfl, .inr rfl⟩
          · left
            rw [List.getElem?_eq_none]
            omega
        · exact .inl rfl
      · split
        · rw [List.getElem?_set]
          split
          · rename_i he
            split
            · exact .inr ⟨x, _, List.mem_cons_self .., he, rfl, .inl rfl⟩
            · left
              rw [List.getElem?_eq_none]
              omega
          · exact .inl rfl
        · exact .inl rfl
    · exact .inr ⟨y, c, List.mem_cons_of_mem _ h1, h2, h3, h4⟩

def pendB (l : List Wr) (j : Nat) (k : Int) : Bool := (l.take j).any fun x => (x.p : Int) == k
def sameB (s : Bool) (g : Bool) (b : List Int) (l : List Wr) (j : Nat) (k : Int) : Bool := s || (l.take j).any fun x => (x.p : Int) == k && (g || decide (x.b = b))
theorem pendB_zero (l : List Wr) (k : Int) : pendB l 0 k = false := rfl
theorem sameB_zero (s g : Bool) (b : List Int) (l : List Wr) (k : Int) : sameB s g b l 0 k = s := by simp [sameB]
theorem pendB_step {l : List Wr} {j : Nat} {x : Wr} (h : l[j]? = some x) (k : Int) : pendB l (j + 1) k = (pendB l j k || (x.p : Int) == k) := by
  unfold pendB
  rw [List.take_add_one, h, List.any_append]
  simp
theorem sameB_step {l : List Wr} {j : Nat} {x : Wr} (h : l[j]? = some x) (s g : Bool) (b : List Int) (k : Int) : sameB s g b l (j + 1) k = (sameB s g b l j k || ((x.p : Int) == k && (g || decide (x.b = b)))) := by
  unfold sameB
  rw [List.take_add_one, h, List.any_append, Bool.or_assoc]
  simp
theorem same_end {l : List Cn} {xs : List Wr} {ks : List Int} {k : Nat} {c c' : Cn} (h : l[k]? = some c) (h' : (layAll l xs ks)[k]? = some c') : sameB (decide (c'.b = c.b) && (c'.t == c.t)) c'.t c'.b xs xs.length (k : Int) = true := by
  unfold sameB
  rw [List.take_of_length_le (Nat.le_refl _)]
  rcases lay_choose k xs ks l with e | ⟨x, d, h1, h2, h3, h4⟩
  · rw [h, h'] at e
    cases e
    simp
  · rw [h'] at h3
    cases h3
    rw [Bool.or_eq_true]
    right
    rw [List.any_eq_true]
    refine ⟨x, h1, ?_⟩
    rcases h4 with h4 | h4
    · simp [h2, h4]
    · simp [h2, h4]
theorem pend_end {l : List Cn} {xs : List Wr} {ks : List Int} {k : Nat} {c c' : Cn} (h : l[k]? = some c) (h' : (layAll l xs ks)[k]? = some c') (hp : pendB xs xs.length (k : Int) = false) : c' = c := by
  unfold pendB at hp
  rw [List.take_of_length_le (Nat.le_refl _), List.any_eq_false] at hp
  rw [layAll_other k xs ks l (fun x hx he => hp x hx (by simp [he]))] at h'
  rw [h] at h'
  exact (Option.some.inj h').symm

theorem tornN_mem (l : List Cn) (k : Nat) : ∀ m, (k : Int) ∈ tornN l m ↔ k < m ∧ ∃ c, l[k]? = some c ∧ c.t = true
  | 0 => by simp [tornN]
  | m + 1 => by
    unfold tornN
    rw [List.mem_append, tornN_mem l k m]
    constructor
    · rintro (⟨h1, h2⟩ | h)
      · exact ⟨by omega, h2⟩
      · split at h
        · split at h
          · simp at h
            have : k = m := by omega
            subst this
            exact ⟨by omega, _, by assumption, by assumption⟩
          · cases h
        · cases h
    · rintro ⟨h1, c, h2, h3⟩
      by_cases e : k = m
      · subst e
        right
        rw [h2]
        simp [h3]
      · exact .inl ⟨by omega, c, h2, h3⟩
theorem torn_is {l : List Cn} {k : Nat} {c : Cn} (h : l[k]? = some c) : decide ((k : Int) ∈ tornN l l.length) = c.t := by
  have hk : k < l.length := (List.getElem?_eq_some_iff.1 h).1
  cases ht : c.t with
  | true => exact decide_eq_true ((tornN_mem l k _).2 ⟨hk, c, h, ht⟩)
  | false =>
    refine decide_eq_false fun hm => ?_
    obtain ⟨_, d, h2, h3⟩ := (tornN_mem l k _).1 hm
    rw [h] at h2
    cases h2
    rw [ht] at h3
    cases h3
theorem imgB_get : ∀ (l : List Cn) (hl : ∀ c ∈ l, B64 c.b) (i j : Nat), j < 64 → (imgB l)[i * 64 + j]? = (l[i]?).bind fun c => c.b[j]?
  | [], _, i, j, _ => by simp [imgB]
  | c :: r, hl, i, j, hj => by
    have hc := (hl c (List.mem_cons_self ..)).len
    have e : imgB (c :: r) = c.b ++ imgB r := by simp [imgB]
    rw [e]
    cases i with
    | zero => rw [List.getElem?_append_left (by omega)]; simp
    | succ i =>
      rw [List.getElem?_append_right (by omega), show (i + 1) * 64 + j - c.b.length = i * 64 + j by omega, imgB_get r (fun y hy => hl y (List.mem_cons_of_mem _ hy)) i j hj]
      simp
theorem img_part {l : List Cn} (hl : ∀ c ∈ l, B64 c.b) {k : Nat} {c : Cn} (h : l[k]? = some c) : ((imgB l).drop (k * 64)).take 64 = c.b := by
  have hb := hl c (List.mem_of_getElem? h)
  apply List.ext_getElem?
  intro j
  by_cases hj : j < 64
  · rw [List.getElem?_take, if_pos hj, List.getElem?_drop]
    rw [imgB_get l hl k j hj, h]
    rfl
  · rw [List.getElem?_eq_none (by simp; omega), List.getElem?_eq_none (by rw [hb.len]; omega)]

theorem OI.form {base : Nat} {w : World} {v : Value} {zs : List Int} (h : OI base w v zs) (hr : ∀ z ∈ zs, -9223372036854775808 ≤ z ∧ z ≤ 9223372036854775807) : ∃ A c, v = .slice A zs.length c ∧ RI w A zs.length zs ∧ ∀ ad, A = some ad → base ≤ ad.block := by
  rcases h.2 with ⟨rfl, h0⟩ | ⟨g, cap, cur, rfl, hbs, hh, hc, hm, _, ht⟩
  · have hz : zs = [] := List.eq_nil_of_length_eq_zero h0
    subst hz
    exact ⟨none, 0, rfl, ⟨rfl, by simp, fun h => absurd h (by simp)⟩, by simp⟩
  · refine ⟨_, cap, rfl, ⟨rfl, hr, fun hn => ⟨g, 0, rfl, fun j hj => ?_⟩⟩, fun ad e => by cases e; exact hbs⟩
    have := h.cellAt (g := g) (cap := cap) j (by omega)
    rw [Nat.zero_add, this]
    simp [List.getD_eq_getElem?_getD, List.getElem?_eq_getElem hj]
theorem tornN_rng (l : List Cn) (hl : l.length ≤ 16384) : ∀ m, m ≤ l.length → ∀ z ∈ tornN l m, -9223372036854775808 ≤ z ∧ z ≤ 9223372036854775807
  | 0, _, z, hz => by simp [tornN] at hz
  | m + 1, hm, z, hz => by
    unfold tornN at hz
    rcases List.mem_append.1 hz with hz | hz
    · exact tornN_rng l hl m (by omega) z hz
    · split at hz
      · split at hz
        · simp at hz; omega
        · cases hz
      · cases hz

/-- What Image left, as it is read. -/
structure ImgAt (w : World) (l : List Cn) (g cap : Nat) (A : Option Addr) (nt : Nat) (base : Nat) : Prop where
  rb : RB w (some ⟨g, 0, none⟩) (l.length * 64) (imgB l)
  cap1 : l.length * 64 ≤ cap
  cap2 : cap ≤ 9223372036854775807
  g1 : base ≤ g
  ri : RI w A nt (tornN l l.length)
  nt_ : nt ≤ 16384
  a1 : ∀ ad, A = some ad → base ≤ ad.block
  lb : ∀ c ∈ l, B64 c.b
theorem image_at {w w' : World} {l : List Cn} {e : Ending} (h : ImageIs w l e w') (h1 : 1 ≤ l.length) (h2 : l.length ≤ 16384) (hb : ∀ c ∈ l, B64 c.b) :
    ∃ g cap A nt ct, e = .returned (.tuple #[.slice (some ⟨g, 0, none⟩) (l.length * 64) cap, .slice A nt ct]) ∧ ImgAt w' l g cap A nt w.heap.size ∧ Below w.heap.size w w' := by
  obtain ⟨v4, v5, rfl, h4, h5, -, hB⟩ := h
  have hlen := imgB_len l hb
  obtain ⟨g, cap, rfl, hg, hc⟩ : ∃ g cap, v4 = .slice (some ⟨g, 0, none⟩) (imgB l).length cap ∧ w.heap.size ≤ g ∧ (imgB l).length ≤ cap := by
    rcases h4.own.2 with ⟨_, h0⟩ | ⟨g, cap, cur, hv, hb, _, hc, _⟩
    · omega
    · exact ⟨g, cap, hv, hb, hc⟩
  obtain ⟨A, c, e, hr, _, hm⟩ := h4.form
  injection e with e1 e2 e3
  subst e3
  rw [← e1, hlen] at hr
  obtain ⟨A5, c5, rfl, hr5, ha5⟩ := h5.form (tornN_rng l h2 _ (Nat.le_refl _))
  rw [hlen]
  rw [hlen] at hc
  exact ⟨g, cap, A5, _, c5, rfl, ⟨hr, hc, by simp only [maxLen] at hm; omega, hg, hr5, by have := tornN_len l l.length; omega, ha5, hb⟩, hB⟩
theorem ImgAt.below {w w' : World} {l : List Cn} {g cap : Nat} {A : Option Addr} {nt base : Nat} (h : ImgAt w l g cap A nt base) (hb : Below w.heap.size w w') : ImgAt w' l g cap A nt base :=
  ⟨h.rb.below' hb, h.cap1, h.cap2, h.g1, h.ri.below hb, h.nt_, h.a1, h.lb⟩
theorem ImgAt.step {F : Nat → Prop} {w w' : World} {l : List Cn} {g cap : Nat} {A : Option Addr} {nt base : Nat} (h : ImgAt w l g cap A nt base) (ho : Out F w w') (hF : ∀ j, F j → j < base) : ImgAt w' l g cap A nt base :=
  ⟨ho.rb h.rb (fun ad e _ hf => by cases e; have := hF _ hf; have := h.g1; simp at *; omega), h.cap1, h.cap2, h.g1,
    ⟨h.ri.len, h.ri.rng, fun hp => by
      obtain ⟨b, o, e, hc⟩ := h.ri.cell hp
      exact ⟨b, o, e, fun j hj => ho.cell (hc j hj) fun hf => by have := hF _ hf; have := h.a1 _ e; simp at *; omega⟩⟩, h.nt_, h.a1, h.lb⟩
theorem ImgAt.part {w : World} {l : List Cn} {g cap : Nat} {A : Option Addr} {nt base : Nat} (h : ImgAt w l g cap A nt base) {k : Nat} {c : Cn} (hk : l[k]? = some c) : RB w (some ⟨g, k * 64, none⟩) 64 c.b := by
  have hlt : k < l.length := (List.getElem?_eq_some_iff.1 hk).1
  have h1 := (h.rb.cut (k := k * 64) (by omega) cap h.cap1).take (k := 64) (by omega)
  rw [img_part h.lb hk, if_neg (by have := h.cap1; omega)] at h1
  simp only [Option.map_some, Addr.add_mid, Nat.zero_add] at h1
  exact h1
theorem ImgAt.part' {w : World} {l : List Cn} {g cap : Nat} {A : Option Addr} {nt base : Nat} (h : ImgAt w l g cap A nt base) {k : Nat} {c : Cn} (hk : l[k]? = some c) {n : Nat} (hn : n = 64) : RB w (some ⟨g, k * 64, none⟩) n c.b := by
  subst hn; exact h.part hk
theorem ImgAt.drewN {w : World} {l : List Cn} {g cap : Nat} {A : Option Addr} {nt base : Nat} (h : ImgAt w l g cap A nt base) (n : Nat) : ImgAt (w.drewN n) l g cap A nt base :=
  ⟨h.rb.drewN n, h.cap1, h.cap2, h.g1, ⟨h.ri.len, h.ri.rng, h.ri.cell⟩, h.nt_, h.a1, h.lb⟩
theorem crash_cases (S : St) (ks : List Int) (ho : S.off = false) (hp : S.plan = -1) : (crashS S ks = S ∧ crashE S ks = 1) ∨ (crashS S ks = ⟨layAll S.last S.pend ks, [], false, -1, S.writes, S.syncs⟩ ∧ crashE S ks = 0) := by
  unfold crashS crashE
  split
  · exact .inl ⟨rfl, rfl⟩
  · split
    · exact .inr ⟨rfl, rfl⟩
    · exact .inl ⟨rfl, rfl⟩
theorem read_torn {S : St} {n : Nat} {c : Cn} (ho : S.off = false) (hp : S.pend = []) (hc : S.last[n]? = some c) (ht : c.t = true) : readB S (n : Int) = ([], 23) := by
  have hn : n < S.last.length := (List.getElem?_eq_some_iff.1 hc).1
  have hcc := (List.getElem?_eq_some_iff.1 hc).2
  unfold readB
  rw [ho, hp]
  simp [hn, lastW, hcc, ht]
end Go.Proofs.Ythpbcibjohakkaa

/- The program's disk and the reference's, beside each other: images. -/
namespace Go.Proofs.Ythpbcibjohakkaa
set_option maxRecDepth 100000
set_option maxRecDepth 100000
open Go.RowKit

section
variable {w w' : World} {d p : Nat} {S T S' : St} {F G : Nat → Prop}
end

theorem drewN_heap (w : World) (n : Nat) : (w.drewN n).heap = w.heap := by
  induction n generalizing w with
  | zero => rfl
  | succ n ih => simp [World.drewN]

end Go.Proofs.Ythpbcibjohakkaa

/- Both disks made anew, beside each other, in a law. -/
namespace Go.Proofs.Ythpbcibjohakkaa
set_option maxRecDepth 100000
set_option maxRecDepth 100000
open Go.RowKit

def newArr (gd n cd gt ct : Nat) : Array Value := newCells (.slice (some ⟨gd, 0, none⟩) n cd) (.slice (some ⟨gt, 0, none⟩) n ct)
def RNewNo (w : World) (e : Ending) (w' : World) : Prop :=
  e = .returned (.tuple #[.agg #[.bool false, .bool false, .int .i64 0, .slice none 0 0, .slice none 0 0, .slice none 0 0, .int .i64 0, .int .i64 0], .int .i64 1]) ∧ Below w.heap.size w w'
section
variable {w wr w' : World} {d p : Nat} {S T S' : St} {F G : Nat → Prop}
end
theorem rb_lt {w : World} {A : Option Addr} {m : Nat} {zs : List Int} (h : RB w A m zs) : ∀ ad, A = some ad → 0 < m → ad.block < w.heap.size := fun ad e hm => by
  subst e; exact (rb_spot h hm).2
theorem ri_lt {w : World} {A : Option Addr} {m : Nat} {zs : List Int} (h : RI w A m zs) : ∀ ad, A = some ad → 0 < m → ad.block < w.heap.size := fun ad e hm => by
  obtain ⟨b, o, e2, hc⟩ := h.cell hm
  rw [e2] at e; cases e
  exact World.block_lt_of_cell? w _ (hc 0 hm)

end Go.Proofs.Ythpbcibjohakkaa
