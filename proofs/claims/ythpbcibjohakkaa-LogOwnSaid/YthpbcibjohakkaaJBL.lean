import Derived.Test.YthpbcibjohakkaaJAA
import Derived.Test.YthpbcibjohakkaaLPow
/- A slice of bytes that the call made, written at a place. -/
namespace Go.Proofs.Ythpbcibjohakkaa
set_option maxRecDepth 100000
open Go.RowKit

theorem OB.row {base : Nat} {w : World} {v : Value} {zs : List Int} (h : OB base w v zs) (hn : 0 < zs.length) : ∃ g cap, v = .slice (some ⟨g, 0, none⟩) zs.length cap ∧ base ≤ g ∧ zs.length ≤ cap := by
  rcases h.own.2 with ⟨_, h0⟩ | ⟨g, cap, cur, hv, hb, _, hc, _⟩
  · omega
  · exact ⟨g, cap, hv, hb, hc⟩
theorem OB.cellAt {base g cap : Nat} {w : World} {zs : List Int} (h : OB base w (.slice (some ⟨g, 0, none⟩) zs.length cap) zs) {j : Nat} (hj : j < zs.length) : w.cell? ⟨g, j, none⟩ = some (.int .u8 (zs.getD j 0)) := by
  rw [h.own.cellAt j (by omega)]
  simp [List.getD_eq_getElem?_getD, List.getElem?_eq_getElem hj]
theorem OB.frozenAt {base g cap : Nat} {w : World} {zs : List Int} (h : OB base w (.slice (some ⟨g, 0, none⟩) zs.length cap) zs) (j : Nat) : w.frozen? ⟨g, j, none⟩ = false := h.own.frozenAt j
theorem OB.stored {base g cap : Nat} {w : World} {zs : List Int} (h : OB base w (.slice (some ⟨g, 0, none⟩) zs.length cap) zs) (j : Nat) (z : Int) (hz : 0 ≤ z ∧ z ≤ 255) :
    OB base (w.setCell ⟨g, j, none⟩ (.int .u8 z)) (.slice (some ⟨g, 0, none⟩) (zs.set j z).length cap) (zs.set j z) := by
  have h1 := (h.own.stored j (.int .u8 z)).1
  refine ⟨?_, fun x hx => ?_⟩
  · rw [List.length_set, List.map_set]; exact h1
  · rcases List.mem_or_eq_of_mem_set hx with hx | rfl
    · exact h.byte x hx
    · exact hz
end Go.Proofs.Ythpbcibjohakkaa

/- Where the law's struct world stands: its log's power is there (LwUp) or gone (LwDn). -/
namespace Go.Proofs.Ythpbcibjohakkaa
set_option maxRecDepth 100000
set_option maxRecDepth 100000
open Go.RowKit

/-- The law's memory: its struct world at block u, the disk's blocks F, the records' blocks G. -/
structure LwM (base wr : World) (u d L k : Nat) (F G : Nat → Prop) (v mb : Value) (met over : Bool) : Prop where
  blk : wr.heap[u]? = some (.cells (LwC d L k v mb met over) 29 (0, 0))
  fs : ∀ j, F j → base.heap.size ≤ j ∧ j < wr.heap.size ∧ j ≠ u
  gs : ∀ j, G j → j < wr.heap.size ∧ ¬ F j ∧ j ≠ u ∧ j ≠ L
  u0 : base.heap.size ≤ u
  l0 : base.heap.size ≤ L ∧ L ≠ u
  b : Below base.heap.size base wr
/-- The power is there. -/
def LwUp (base wr : World) (u d : Nat) (S : St) (c : Nat) (rs : List (List Int)) : Prop :=
  ∃ L F G v mb vs, LwM base wr u d L (areaSize S.last.length) F G v mb false false ∧ Up F wr d L S c rs ∧ Recs G wr 0 v rs vs
/-- The power is gone. -/
def LwDn (base wr : World) (u d : Nat) (S : St) (c : Nat) (rs alt : List (List Int)) : Prop :=
  ∃ L F G v mb vs us, LwM base wr u d L (areaSize S.last.length) F G v mb true true ∧ Dn F wr d L S c rs alt ∧ Recs G wr 0 v rs vs ∧ Recs G wr 0 mb alt us ∧ usedOf rs ≤ areaSize S.last.length ∧ usedOf alt ≤ areaSize S.last.length
def Lw (base wr : World) (u d : Nat) (S : St) (c : Nat) : Prop := (∃ rs, LwUp base wr u d S c rs) ∨ (∃ rs alt, LwDn base wr u d S c rs alt)

theorem LwM.c0 {base wr : World} {u d L k : Nat} {F G : Nat → Prop} {v mb : Value} {met over : Bool} (h : LwM base wr u d L k F G v mb met over) : wr.cell? ⟨u, 0, none⟩ = some (.pointer (some ⟨d, 0, none⟩)) := cell_of_row _ _ 0 _ _ _ h.blk
theorem LwM.c1 {base wr : World} {u d L k : Nat} {F G : Nat → Prop} {v mb : Value} {met over : Bool} (h : LwM base wr u d L k F G v mb met over) : wr.cell? ⟨u, 1, none⟩ = some (.pointer (some ⟨L, 0, none⟩)) := cell_of_row _ _ 1 _ _ _ h.blk
theorem LwM.c2 {base wr : World} {u d L k : Nat} {F G : Nat → Prop} {v mb : Value} {met over : Bool} (h : LwM base wr u d L k F G v mb met over) : wr.cell? ⟨u, 2, none⟩ = some (.int .i64 (k : Int)) := cell_of_row _ _ 2 _ _ _ h.blk
theorem LwM.c3 {base wr : World} {u d L k : Nat} {F G : Nat → Prop} {v mb : Value} {met over : Bool} (h : LwM base wr u d L k F G v mb met over) : wr.cell? ⟨u, 3, none⟩ = some v := cell_of_row _ _ 3 _ _ _ h.blk
theorem LwM.c4 {base wr : World} {u d L k : Nat} {F G : Nat → Prop} {v mb : Value} {met over : Bool} (h : LwM base wr u d L k F G v mb met over) : wr.cell? ⟨u, 4, none⟩ = some mb := cell_of_row _ _ 4 _ _ _ h.blk
theorem LwM.c5 {base wr : World} {u d L k : Nat} {F G : Nat → Prop} {v mb : Value} {met over : Bool} (h : LwM base wr u d L k F G v mb met over) : wr.cell? ⟨u, 5, none⟩ = some (.bool met) := cell_of_row _ _ 5 _ _ _ h.blk
theorem LwM.c6 {base wr : World} {u d L k : Nat} {F G : Nat → Prop} {v mb : Value} {met over : Bool} (h : LwM base wr u d L k F G v mb met over) : wr.cell? ⟨u, 6, none⟩ = some (.bool over) := cell_of_row _ _ 6 _ _ _ h.blk
theorem LwM.f {base wr : World} {u d L k : Nat} {F G : Nat → Prop} {v mb : Value} {met over : Bool} (h : LwM base wr u d L k F G v mb met over) (j : Nat) : wr.frozen? ⟨u, j, none⟩ = false := frozen_of_row _ _ _ _ _ h.blk
theorem LwM.ult {base wr : World} {u d L k : Nat} {F G : Nat → Prop} {v mb : Value} {met over : Bool} (h : LwM base wr u d L k F G v mb met over) : u < wr.heap.size := (Array.getElem?_eq_some_iff.1 h.blk).1
theorem LwM.below {base wr w' : World} {u d L k : Nat} {F G : Nat → Prop} {v mb : Value} {met over : Bool} (h : LwM base wr u d L k F G v mb met over) (hb : Below wr.heap.size wr w') : LwM base w' u d L k F G v mb met over :=
  ⟨(hb.block _ h.ult).trans h.blk, fun j hj => ⟨(h.fs j hj).1, Nat.lt_of_lt_of_le (h.fs j hj).2.1 hb.size, (h.fs j hj).2.2⟩, fun j hj => ⟨Nat.lt_of_lt_of_le (h.gs j hj).1 hb.size, (h.gs j hj).2⟩, h.u0, h.l0, h.b.trans (hb.mono h.b.size)⟩
theorem LwUp.below {base wr w' : World} {u d : Nat} {S : St} {c : Nat} {rs : List (List Int)} (h : LwUp base wr u d S c rs) (hb : Below wr.heap.size wr w') : LwUp base w' u d S c rs := by
  obtain ⟨L, F, G, v, mb, vs, h1, h2, h3⟩ := h
  exact ⟨L, F, G, v, mb, vs, h1.below hb, h2.below hb, h3.below hb⟩
theorem LwDn.below {base wr w' : World} {u d : Nat} {S : St} {c : Nat} {rs alt : List (List Int)} (h : LwDn base wr u d S c rs alt) (hb : Below wr.heap.size wr w') : LwDn base w' u d S c rs alt := by
  obtain ⟨L, F, G, v, mb, vs, us, h1, h2, h3, h4, h5⟩ := h
  exact ⟨L, F, G, v, mb, vs, us, h1.below hb, h2.below hb, h3.below hb, h4.below hb, h5⟩
theorem LwDn.more {base wr : World} {u d : Nat} {S : St} {c c' : Nat} {rs alt : List (List Int)} (h : LwDn base wr u d S c rs alt) (hc : c ≤ c') (hm : c' ≤ maxSt) : LwDn base wr u d S c' rs alt := by
  obtain ⟨L, F, G, v, mb, vs, us, h1, h2, h3⟩ := h
  exact ⟨L, F, G, v, mb, vs, us, h1, ⟨h2.pd, h2.off, h2.few, h2.out, h2.lg, h2.alts.more hc hm⟩, h3⟩
theorem LwUp.more {base wr : World} {u d : Nat} {S : St} {c c' : Nat} {rs : List (List Int)} (h : LwUp base wr u d S c rs) (hc : c ≤ c') : LwUp base wr u d S c' rs := by
  obtain ⟨L, F, G, v, mb, vs, h1, h2, h3⟩ := h
  exact ⟨L, F, G, v, mb, vs, h1, h2.more hc, h3⟩
theorem Lw.below {base wr w' : World} {u d : Nat} {S : St} {c : Nat} (h : Lw base wr u d S c) (hb : Below wr.heap.size wr w') : Lw base w' u d S c := by
  rcases h with ⟨rs, h⟩ | ⟨rs, alt, h⟩
  · exact .inl ⟨rs, h.below hb⟩
  · exact .inr ⟨rs, alt, h.below hb⟩
theorem Lw.base {base wr : World} {u d : Nat} {S : St} {c : Nat} (h : Lw base wr u d S c) : Below base.heap.size base wr := by
  rcases h with ⟨rs, _, _, _, _, _, _, h, _⟩ | ⟨rs, alt, _, _, _, _, _, _, _, h, _⟩ <;> exact h.b

theorem Recs.out {F G : Nat → Prop} {w w' : World} {base : Nat} {v : Value} {rs : List (List Int)} {vs : List Value} (h : Recs G w base v rs vs) (ho : Out F w w') (hd : ∀ k, G k → ¬ F k) : Recs G w' base v rs vs := h.stays fun k hk hg => ho.block k hk (hd k hg)
theorem Up.shut {F : Nat → Prop} {w : World} {d L : Nat} {S : St} {c : Nat} {rs : List (List Int)} (h : Up F w d L S c rs) : Up (fun j => F j ∧ j < w.heap.size) w d L S c rs := ⟨h.pd.shut, h.off, h.pend, fun hh => h.out hh.1, h.is⟩
theorem Dn.shut {F : Nat → Prop} {w : World} {d L : Nat} {S : St} {c : Nat} {rs alt : List (List Int)} (h : Dn F w d L S c rs alt) : Dn (fun j => F j ∧ j < w.heap.size) w d L S c rs alt := ⟨h.pd.shut, h.off, h.few, fun hh => h.out hh.1, h.lg, h.alts⟩

/-- The records' blocks behind a call of the log's at w6: those ahead of it. -/
def G6 (G : Nat → Prop) (wr w6 : World) (j : Nat) : Prop := (G j ∨ wr.heap.size ≤ j) ∧ j < w6.heap.size
def F6 (F : Nat → Prop) (w6 w7 : World) (j : Nat) : Prop := Gr F w6 j ∧ j < w7.heap.size
section
variable {base wr w6 w7 w9 : World} {u d L k : Nat} {F G : Nat → Prop} {v mb : Value} {met over : Bool}
theorem LwM.g6 (h : LwM base wr u d L k F G v mb met over) (hb6 : Below wr.heap.size wr w6) (hL : L < wr.heap.size) : ∀ j, G6 G wr w6 j → ¬ Gr F w6 j ∧ j ≠ u ∧ j ≠ L := fun j hj => by
  obtain ⟨h1, h2⟩ := hj
  have hs := hb6.size
  have hu := h.ult
  rcases h1 with h1 | h1
  · have := h.gs j h1
    refine ⟨fun hg => ?_, this.2.2.1, this.2.2.2⟩
    rcases hg with hg | hg
    · exact this.2.1 hg
    · omega
  · refine ⟨fun hg => ?_, by omega, by omega⟩
    rcases hg with hg | hg
    · have := (h.fs j hg).2.1; omega
    · omega
theorem LwM.next (h : LwM base wr u d L k F G v mb met over) (hb6 : Below wr.heap.size wr w6) (hL : L < wr.heap.size) (ho : Out (fun j => F j ∨ j = L) w6 w7) (h9 : Out (fun j => j = u) w7 w9)
    {v' mb' : Value} {met' over' : Bool} (blk : w9.heap[u]? = some (.cells (LwC d L k v' mb' met' over') 29 (0, 0))) :
    LwM base w9 u d L k (F6 F w6 w7) (G6 G wr w6) v' mb' met' over' := by
  have hs := hb6.size
  have hs7 := ho.size
  have hs9 := h9.size
  have hu := h.ult
  have hbs := h.b.size
  refine ⟨blk, fun j hj => ⟨?_, Nat.lt_of_lt_of_le hj.2 hs9, ?_⟩, fun j hj => ⟨by have := hj.2; omega, fun hf => (h.g6 hb6 hL j hj).1 hf.1, (h.g6 hb6 hL j hj).2⟩, h.u0, h.l0, ?_⟩
  · rcases hj.1 with h1 | h1
    · exact (h.fs j h1).1
    · omega
  · rcases hj.1 with h1 | h1
    · exact (h.fs j h1).2.2
    · omega
  · have b6 : Below base.heap.size base w6 := h.b.trans (hb6.mono hbs)
    have b7 : Below base.heap.size base w7 := b6.trans (ho.below b6.size fun i hi hf => by
      rcases hf with hf | hf
      · have := (h.fs i hf).1; omega
      · have := h.l0.1; omega)
    exact b7.trans (h9.below b7.size fun i hi hf => by have := h.u0; omega)
/-- The power is there behind the call. -/
theorem LwM.up (h : LwM base wr u d L k F G v mb met over) (hb6 : Below wr.heap.size wr w6) (ho : Out (fun j => F j ∨ j = L) w6 w7) (h9 : Out (fun j => j = u) w7 w9) {S S' : St} (hk : k = areaSize S.last.length) (hl : S'.last.length = S.last.length) {c : Nat} {next : List (List Int)}
    (hL : L < wr.heap.size) (hup : Up (Gr F w6) w7 d L S' c next) {b1 : Nat} {v' mb' : Value} {vs' : List Value} (hr : Recs (G6 G wr w6) w6 b1 v' next vs')
    (blk : w9.heap[u]? = some (.cells (LwC d L k v' mb' false false) 29 (0, 0))) : LwUp base w9 u d S' c next := by
  have hn := h.next hb6 hL ho h9 blk
  rw [hk] at hn blk
  refine ⟨L, F6 F w6 w7, G6 G wr w6, v', mb', vs', by rw [hl]; exact hn, (hup.shut).stays fun j hj hf => h9.block j hj (fun e => ?_), ?_⟩
  · rcases hf with hf | hf
    · exact (hn.fs j hf).2.2 e
    · exact h.l0.2 (hf.symm.trans e)
  · refine ((hr.wide (fun _ h => h) (Nat.zero_le _)).out ho fun j hj hf => ?_).out h9 fun j hj hf => (h.g6 hb6 hL j hj).2.1 hf
    rcases hf with hf | hf
    · exact (h.g6 hb6 hL j hj).1 (.inl hf)
    · exact (h.g6 hb6 hL j hj).2.2 hf
/-- The power is gone behind the call. -/
theorem LwM.dn (h : LwM base wr u d L k F G v mb met over) (hb6 : Below wr.heap.size wr w6) (ho : Out (fun j => F j ∨ j = L) w6 w7) (h9 : Out (fun j => j = u) w7 w9) {S S' : St} (hk : k = areaSize S.last.length) (hl : S'.last.length = S.last.length) {c : Nat} {rs next : List (List Int)}
    (hL : L < wr.heap.size) (hdn : Dn (Gr F w6) w7 d L S' c rs next) {b1 : Nat} {v' : Value} {vs vs' : List Value} (hv : Recs G wr 0 v rs vs) (hr : Recs (G6 G wr w6) w6 b1 v' next vs') (hu1 : usedOf rs ≤ k) (hu2 : usedOf next ≤ k)
    (blk : w9.heap[u]? = some (.cells (LwC d L k v v' true true) 29 (0, 0))) : LwDn base w9 u d S' c rs next := by
  have hn := h.next hb6 hL ho h9 blk
  have hv6 : Recs (G6 G wr w6) w6 0 v rs vs := by
    have h1 := hv.below hb6
    have hs := hb6.size
    exact h1.wide (fun j hj => ⟨.inl hj, by have := (h.gs j hj).1; omega⟩) (Nat.le_refl _)
  have mv : ∀ {b : Nat} {x : Value} {ys : List (List Int)} {zs : List Value}, Recs (G6 G wr w6) w6 b x ys zs → Recs (G6 G wr w6) w9 0 x ys zs := fun hx => by
    refine ((hx.wide (fun _ h => h) (Nat.zero_le _)).out ho fun j hj hf => ?_).out h9 fun j hj hf => (h.g6 hb6 hL j hj).2.1 hf
    rcases hf with hf | hf
    · exact (h.g6 hb6 hL j hj).1 (.inl hf)
    · exact (h.g6 hb6 hL j hj).2.2 hf
  rw [hk] at hn hu1 hu2
  refine ⟨L, F6 F w6 w7, G6 G wr w6, v, v', vs, vs', by rw [hl]; exact hn, (hdn.shut).stays fun j hj hf => h9.block j hj (fun e => ?_), mv hv6, mv hr, by rw [hl]; exact hu1, by rw [hl]; exact hu2⟩
  rcases hf with hf | hf
  · exact (hn.fs j hf).2.2 e
  · exact h.l0.2 (hf.symm.trans e)
end
/-- What a helper of the law's leaves. -/
def LwIs (base : World) (u d : Nat) (S : St) (c nb : Nat) (e : Ending) (w' : World) : Prop :=
  e = .returned (.bool true) ∧ ∃ S', Lw base w' u d S' c ∧ S'.last.length = S.last.length ∧ S.writes ≤ S'.writes ∧ S'.writes ≤ S.writes + (nb : Int) + 1 ∧ S'.writes ≤ S.writes + 16385
/-- What the reference tells of a record more. -/
def RefIs (G : Nat → Prop) (w : World) (k : Nat) (rs next : List (List Int)) (q : Nat) (B : Option Addr) (e : Ending) (w' : World) : Prop :=
  ∃ X m cx vs b, e = .returned (.tuple #[.agg #[.int .i64 (k : Int), .slice X m cx], .int .i64 (q : Int)]) ∧ Below w.heap.size w w' ∧ Recs (FreshOr G w B) w' b (.slice X m cx) (if q = 0 then next else rs) vs
theorem ref_append (w : World) (k : Nat) (G : Nat → Prop) (base : Nat) (v : Value) (rs : List (List Int)) (vs : List Value) (h : Recs G w base v rs vs) (hu : usedOf rs ≤ k) (B : Option Addr) (n c : Nat) (zs : List Int) (hr : RB w B n zs) (hn : n ≤ c) (hc : c ≤ 9223372036854775807) (hk : k ≤ 16384) :
    Calls Try.prog 32 #[.agg #[.int .i64 (k : Int), v], .slice B n c] w (RefIs G w k rs (rs ++ [zs]) (ansA zs.length (usedOf rs) k) B) := by
  refine (rappended_any w k G base v rs vs h (used_each rs k hu hk) hu B n c zs hr hn hc hk).mono ?_
  rintro e w' ⟨v', vs', b, rfl, hb, hR⟩
  obtain ⟨X, cx, rfl, -⟩ := hR.form
  exact ⟨X, _, cx, vs', b, rfl, hb, hR⟩
theorem ref_check (w : World) (k : Nat) (G : Nat → Prop) (base : Nat) (v : Value) (rs : List (List Int)) (vs : List Value) (h : Recs G w base v rs vs) (B : Option Addr) (n c : Nat) (zs : List Int) (hr : RB w B n zs) (hn : n ≤ c) (hc : c ≤ 9223372036854775807) (hk : k ≤ 16384) :
    Calls Try.prog 33 #[.agg #[.int .i64 (k : Int), v], .slice B n c] w (RefIs G w k rs [zs] (ansA zs.length 0 k) B) := by
  refine (rchecked_any w k G base v rs vs h B n c zs hr hn hc hk).mono ?_
  rintro e w' ⟨v', vs', b, rfl, hb, hR⟩
  obtain ⟨X, cx, rfl, -⟩ := hR.form
  exact ⟨X, _, cx, vs', b, rfl, hb, hR⟩
theorem ansA_next {n used k : Nat} (h : ansA n used k = 0) : used + nblocks n ≤ k := by
  unfold ansA at h
  split at h
  · cases h
  · split at h
    · cases h
    · omega
end Go.Proofs.Ythpbcibjohakkaa
