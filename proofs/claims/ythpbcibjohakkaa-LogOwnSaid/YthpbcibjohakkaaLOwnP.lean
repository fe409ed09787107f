/- LogOwn: where the law stands. -/
import Derived.Test.YthpbcibjohakkaaLSameR
namespace Go.Proofs.Ythpbcibjohakkaa
set_option maxRecDepth 100000
set_option maxRecDepth 100000
open Go.RowKit

theorem run_fromS (w : World) (A : Option Addr) (n c f : Nat) (h : f ≤ n) :
    (Instr.slice 25 (.slice A n c) (some (.int .i64 (f : Int))) none none).run Try.prog w = .ok (.slice (if c = f then A else A.map (·.add f)) (n - f) (c - f)) w := by
  obtain ⟨i0, hi, hz0, hz1, hz2⟩ := info_parts infoSl
  rw [run_slice_l w 25 A n c Try.underlying25 .i64 (f : Int) (by omega) (by omega)]
  rw [show Try.prog.elem 25 = 33 by kernel_rfl]
  have hs : (sizeOf 33).run Try.prog w = .ok 1 w := by simp [sizeOf, typeInfo, hi, hz1]
  rw [hs]
  simp only [sliced, Result.andThen_ok, Int.toNat_natCast, Nat.mul_one]

/-- The log, and the records that were taken, in memory of the law's own. -/
structure OwnI (w wr : World) (d L : Nat) (S : St) (F G : Nat → Prop) (slot : Nat) (m : Mk) (stamp : Nat) (srs : List (Nat × List Int)) (v : Value) (vs : List Value) : Prop where
  cl : CLog F wr d L S slot m stamp srs
  fs : ∀ j, F j → w.heap.size ≤ j ∧ j < wr.heap.size
  l0 : w.heap.size ≤ L
  recs : Recs G wr w.heap.size v (srs.map (·.2)) vs
  gs : ∀ j, G j → w.heap.size ≤ j ∧ j < wr.heap.size ∧ ¬ F j ∧ j ≠ L
  b : Below w.heap.size w wr
section
variable {w wr w' : World} {d L : Nat} {S : St} {F G : Nat → Prop} {slot : Nat} {m : Mk} {stamp : Nat} {srs : List (Nat × List Int)} {v : Value} {vs : List Value}
theorem OwnI.llt (h : OwnI w wr d L S F G slot m stamp srs v vs) : L < wr.heap.size := h.cl.lg.lt
theorem OwnI.below (h : OwnI w wr d L S F G slot m stamp srs v vs) (hb : Below wr.heap.size wr w') : OwnI w w' d L S F G slot m stamp srs v vs :=
  ⟨h.cl.below hb, fun j hj => ⟨(h.fs j hj).1, Nat.lt_of_lt_of_le (h.fs j hj).2 hb.size⟩, h.l0, h.recs.below hb, fun j hj => ⟨(h.gs j hj).1, Nat.lt_of_lt_of_le (h.gs j hj).2.1 hb.size, (h.gs j hj).2.2⟩, h.b.trans (hb.mono h.b.size)⟩
/-- A change in one block that is nobody's. -/
theorem OwnI.grown {row : Option Nat} (h : OwnI w wr d L S F G slot m stamp srs v vs) (hg : wr.grownBy w' row) (hr : ∀ k, row = some k → w.heap.size ≤ k ∧ ¬ F k ∧ k ≠ L ∧ ¬ G k) : OwnI w w' d L S F G slot m stamp srs v vs := by
  have hst : ∀ k, k < wr.heap.size → (F k ∨ k = L ∨ G k) → w'.heap[k]? = wr.heap[k]? := fun k hk hf => hg.block k hk fun e => by
    have := hr k e.symm
    rcases hf with hf | hf | hf
    · exact this.2.1 hf
    · exact this.2.2.1 hf
    · exact this.2.2.2 hf
  exact ⟨⟨h.cl.pd.stays fun k hk hf => hst k hk (.inl hf), h.cl.calm, h.cl.li, (hst L h.llt (.inr (.inl rfl))).trans h.cl.lg, h.cl.out⟩, fun j hj => ⟨(h.fs j hj).1, Nat.lt_of_lt_of_le (h.fs j hj).2 hg.size⟩, h.l0,
    h.recs.stays fun k hk hf => hst k hk (.inr (.inr hf)), fun j hj => ⟨(h.gs j hj).1, Nat.lt_of_lt_of_le (h.gs j hj).2.1 hg.size, (h.gs j hj).2.2⟩, h.b.grown hg h.b.size fun k e => (hr k e).1⟩
end
/-- The log called: what is the law's besides stands. -/
theorem OwnI.keepLog {w wr w' : World} {d L : Nat} {S : St} {F G : Nat → Prop} {slot : Nat} {m : Mk} {stamp : Nat} {srs : List (Nat × List Int)} {v : Value} {vs : List Value} (h : OwnI w wr d L S F G slot m stamp srs v vs) (ho : Out (fun k => F k ∨ k = L) wr w') (hc : CLog F w' d L S slot m stamp srs) : OwnI w w' d L S F G slot m stamp srs v vs :=
  ⟨hc, fun j hj => ⟨(h.fs j hj).1, Nat.lt_of_lt_of_le (h.fs j hj).2 ho.size⟩, h.l0, h.recs.out ho (fun j hj hf => by
    rcases hf with hf | hf
    · exact (h.gs j hj).2.2.1 hf
    · exact (h.gs j hj).2.2.2 hf), fun j hj => ⟨(h.gs j hj).1, Nat.lt_of_lt_of_le (h.gs j hj).2.1 ho.size, (h.gs j hj).2.2⟩,
    h.b.trans (ho.below h.b.size fun i hi hf => by
      rcases hf with hf | hf
      · have := (h.fs i hf).1; omega
      · have := h.l0; omega)⟩
theorem OB.out {F : Nat → Prop} {base : Nat} {w w' : World} {v : Value} {zs : List Int} (h : OB base w v zs) (ho : Out F w w') (hd : ∀ k, v.ownBlock = some k → ¬ F k) : OB base w' v zs :=
  ⟨own_stays h.own fun k e => ho.block k (h.own.lt k e).2 (hd k e), h.byte⟩
/-- The list's own row is none of its records'. -/
def Apart (v : Value) (rs : List (List Int)) (vs : List Value) : Prop := ∀ (i : Nat) (r : List Int) (B : Option Addr) (c : Nat), rs[i]? = some r → vs[i]? = some (.slice B r.length c) → ∀ ad, B = some ad → 0 < r.length → v.ownBlock ≠ some ad.block
/-- A record more in the list that is wanted. -/
theorem Recs.snoc {G H : Nat → Prop} {W1 w6 : World} {base g cap c : Nat} {A : Option Addr} {v : Value} {rs : List (List Int)} {vs : List Value} {zs : List Int} (h : Recs G W1 base v rs vs) (ha : Apart v rs vs) (hb : RB W1 A zs.length zs) (hc : zs.length ≤ c) (hc2 : c ≤ 9223372036854775807)
    (own : w6.ownsRow base 33 1 (.slice (some ⟨g, 0, none⟩) (rs.length + 1) cap) (rs.length + 1) (vs ++ [.slice A zs.length c])) (gr : W1.grownBy w6 v.ownBlock) (hat : v.ownBlock = some g ∨ g = W1.heap.size) (hv : ∀ ad, A = some ad → 0 < zs.length → v.ownBlock ≠ some ad.block)
    (hG : ∀ j, G j → H j) (hg : H g) (hA : ∀ ad, A = some ad → 0 < zs.length → H ad.block) :
    Recs H w6 base (.slice (some ⟨g, 0, none⟩) (rs ++ [zs]).length cap) (rs ++ [zs]) (vs ++ [.slice A zs.length c]) ∧ Apart (.slice (some ⟨g, 0, none⟩) (rs ++ [zs]).length cap) (rs ++ [zs]) (vs ++ [.slice A zs.length c]) := by
  have hlen : (rs ++ [zs]).length = rs.length + 1 := by simp
  have hvl : vs.length = rs.length := by have := h.own.1; omega
  have keep : ∀ {B : Option Addr} {n : Nat} {ys : List Int}, RB W1 B n ys → (∀ ad, B = some ad → 0 < n → v.ownBlock ≠ some ad.block) → RB w6 B n ys := fun {B n ys} hr hne => by
    refine ⟨hr.len, hr.byte, fun hn => ?_⟩
    obtain ⟨ad, e, hcell⟩ := hr.cell hn
    refine ⟨ad, e, fun j hj => ?_⟩
    have hblk : (ad.add j).block = ad.block := by unfold Addr.add; split <;> rfl
    refine (World.cell?_of_block (w := W1) (a := ad.add j) (by rw [hblk]; exact gr.block ad.block (rb_lt hr ad e hn) (fun e2 => hne ad e hn e2.symm))).trans (hcell j hj)
  have last : ∀ (i : Nat) (r : List Int), (rs ++ [zs])[i]? = some r → ¬ i < rs.length → r = zs ∧ (vs ++ [.slice A zs.length c])[i]? = some (.slice A zs.length c) := fun i r hr hi => by
    have hi2 : i = rs.length := by have := (List.getElem?_eq_some_iff.1 hr).1; simp at this; omega
    subst hi2
    rw [List.getElem?_append_right (Nat.le_refl _), Nat.sub_self] at hr
    simp only [List.getElem?_cons_zero, Option.some.injEq] at hr
    exact ⟨hr.symm, by rw [List.getElem?_append_right (by omega), hvl, Nat.sub_self]; rfl⟩
  refine ⟨⟨by rw [hlen]; exact own, fun k e => ?_, fun i r hr => ?_⟩, fun i r B c' hr hvr ad e hp e2 => ?_⟩
  · have e : g = k := by simpa [Value.ownBlock] using e
    subst e; exact hg
  · by_cases hi : i < rs.length
    · rw [List.getElem?_append_left hi] at hr
      obtain ⟨B', c', e1, e2, e3, e4, e5⟩ := h.at_ i r hr
      exact ⟨B', c', by rw [List.getElem?_append_left (by omega)]; exact e1, e2, e3, keep e4 (fun ad e hp => ha i r B' c' hr e1 ad e hp), fun ad e0 h0 => hG _ (e5 ad e0 h0)⟩
    · obtain ⟨rfl, e1⟩ := last i r hr hi
      exact ⟨A, c, e1, hc, hc2, keep hb hv, hA⟩
  · have hge : g = ad.block := by simpa [Value.ownBlock] using e2
    by_cases hi : i < rs.length
    · rw [List.getElem?_append_left hi] at hr
      rw [List.getElem?_append_left (by omega)] at hvr
      obtain ⟨B', c2, e3, -, -, e4, -⟩ := h.at_ i r hr
      rw [e3] at hvr
      injection hvr with hvr
      injection hvr with hv1 hv2 hv3
      subst hv1
      rcases hat with hat | hat
      · exact ha i r B' c2 hr e3 ad e hp (by rw [hat, hge])
      · have := rb_lt e4 ad e hp; omega
    · obtain ⟨rfl, e1⟩ := last i r hr hi
      rw [e1] at hvr
      injection hvr with hvr
      injection hvr with hv1 hv2 hv3
      subst hv1
      rcases hat with hat | hat
      · exact hv ad e hp (by rw [hat, hge])
      · have := rb_lt hb ad e hp; omega
theorem CLog.stays {F : Nat → Prop} {w w' : World} {d L : Nat} {S : St} {slot : Nat} {m : Mk} {stamp : Nat} {srs : List (Nat × List Int)} (h : CLog F w d L S slot m stamp srs) (hk : ∀ k, k < w.heap.size → (F k ∨ k = L) → w'.heap[k]? = w.heap[k]?) : CLog F w' d L S slot m stamp srs :=
  ⟨h.pd.stays fun k h1 h2 => hk k h1 (.inl h2), h.calm, h.li, (hk L h.lg.lt (.inr rfl)).trans h.lg, h.out⟩
theorem CLog.shut {F : Nat → Prop} {w : World} {d L : Nat} {S : St} {slot : Nat} {m : Mk} {stamp : Nat} {srs : List (Nat × List Int)} (h : CLog F w d L S slot m stamp srs) : CLog (fun j => F j ∧ j < w.heap.size) w d L S slot m stamp srs := ⟨h.pd.shut, h.calm, h.li, h.lg, fun hf => h.out hf.1⟩
theorem rb_grown {w w' : World} {row : Option Nat} {A : Option Addr} {n : Nat} {zs : List Int} (h : RB w A n zs) (hg : w.grownBy w' row) (hr : ∀ ad, A = some ad → 0 < n → row ≠ some ad.block) : RB w' A n zs := by
  refine ⟨h.len, h.byte, fun hn => ?_⟩
  obtain ⟨ad, e, hcell⟩ := h.cell hn
  refine ⟨ad, e, fun j hj => ?_⟩
  have hblk : (ad.add j).block = ad.block := by unfold Addr.add; split <;> rfl
  exact (World.cell?_of_block (w := w) (a := ad.add j) (by rw [hblk]; exact hg.block ad.block (rb_lt h ad e hn) (fun e2 => hr ad e hn e2.symm))).trans (hcell j hj)
/-- A record taken, scribbled over where it came from, and put behind those that are wanted. -/
theorem OwnI.more {w wr w4 w5 w6 W7 : World} {d L : Nat} {S S5 : St} {F G : Nat → Prop} {slot : Nat} {m : Mk} {stamp st : Nat} {srs : List (Nat × List Int)} {v : Value} {vs : List Value} {zs : List Int} {row : Option Nat} {A4 : Option Addr} {c4 z2 : Nat}
    (h : OwnI w wr d L S F G slot m stamp srs v vs) (hap : Apart v (srs.map (·.2)) vs) (b4 : Below wr.heap.size wr w4) (o5 : Out (fun k => F k ∨ k = L) w4 w5) (c5 : CLog (Gr F w4) w5 d L S5 slot m st (srs ++ [(st, zs)])) (g6 : w5.grownBy w6 row)
    (hz : wr.heap.size ≤ z2 ∧ z2 ≤ w4.heap.size) (hrow : ∀ k, row = some k → wr.heap.size ≤ k ∧ k < z2) (hA : ∀ ad, A4 = some ad → z2 ≤ ad.block ∧ ad.block < w4.heap.size) (rb5 : RB w5 A4 zs.length zs) (hc : zs.length ≤ c4) (hc2 : c4 ≤ 9223372036854775807) (b7 : Below w6.heap.size w6 W7) :
    W7.ownsRow w.heap.size 33 1 v srs.length vs ∧ ∀ (g cap : Nat) (w8 : World), w8.ownsRow w.heap.size 33 1 (.slice (some ⟨g, 0, none⟩) (srs.length + 1) cap) (srs.length + 1) (vs ++ [.slice A4 zs.length c4]) → W7.grownBy w8 v.ownBlock → (v.ownBlock = some g ∨ g = W7.heap.size) →
      ∃ F' G' vs', OwnI w w8 d L S5 F' G' slot m st (srs ++ [(st, zs)]) (.slice (some ⟨g, 0, none⟩) (srs.length + 1) cap) vs' ∧ Apart (.slice (some ⟨g, 0, none⟩) (srs.length + 1) cap) ((srs ++ [(st, zs)]).map (·.2)) vs' := by
  have hl := h.llt
  have s4 := b4.size
  have s5 := o5.size
  have s6 := g6.size
  have s7 := b7.size
  have hFL : ∀ j, (F j ∨ j = L) → w.heap.size ≤ j ∧ j < wr.heap.size := fun j hj => by
    rcases hj with hj | hj
    · exact h.fs j hj
    · subst hj; exact ⟨h.l0, hl⟩
  have hGFL : ∀ j, G j → ¬ (F j ∨ j = L) := fun j hj hf => by
    rcases hf with hf | hf
    · exact (h.gs j hj).2.2.1 hf
    · exact (h.gs j hj).2.2.2 hf
  have hbs := h.b.size
  -- the records up to W7
  have e7 : ∀ j, G j → W7.heap[j]? = wr.heap[j]? := fun j hj => by
    have h1 := (h.gs j hj).2.1
    refine (b7.block j (by omega)).trans ((g6.block j (by omega) (fun e => ?_)).trans ((o5.block j (by omega) (hGFL j hj)).trans (b4.block j h1)))
    have := (hrow j e.symm).1
    omega
  have r7 : Recs G W7 w.heap.size v (srs.map (·.2)) vs := h.recs.stays fun j _ hj => e7 j hj
  have hvG : ∀ j, v.ownBlock = some j → G j := fun j e => h.recs.row j e
  have rb7 : RB W7 A4 zs.length zs := (rb_grown rb5 g6 (fun ad e hp e2 => by have := (hrow _ e2).2; have := (hA ad e).1; omega)).below' b7
  have hlm : (srs.map (·.2)).length = srs.length := List.length_map ..
  refine ⟨by have := r7.own; rw [hlm] at this; exact this, fun g cap w8 own8 g8 hat => ?_⟩
  have s8 := g8.size
  have hg8 : g < w8.heap.size := (own8.lt g rfl).2
  obtain ⟨r8, ap8⟩ := r7.snoc (H := fun j => G j ∨ (wr.heap.size ≤ j ∧ j < w4.heap.size) ∨ (w6.heap.size ≤ j ∧ j < w8.heap.size)) hap rb7 hc hc2 (by rw [hlm]; exact own8) g8 hat
    (fun ad e hp e2 => by have := (h.gs _ (hvG _ e2)).2.1; have := (hA ad e).1; omega) (fun j hj => .inl hj)
    (by
      rcases hat with hat | hat
      · exact .inl (hvG g hat)
      · exact .inr (.inr ⟨by omega, hg8⟩))
    (fun ad e hp => .inr (.inl ⟨by have := (hA ad e).1; omega, (hA ad e).2⟩))
  have hlm2 : (srs.map (·.2) ++ [zs]).length = srs.length + 1 := by simp
  have hmap : (srs ++ [(st, zs)]).map (·.2) = srs.map (·.2) ++ [zs] := by simp
  rw [hlm2] at r8 ap8
  have hF5 : ∀ j, (Gr F w4 j ∧ j < w5.heap.size) → w.heap.size ≤ j := fun j hj => by
    rcases hj.1 with h1 | h1
    · exact (h.fs j h1).1
    · omega
  have c8 : CLog (fun j => Gr F w4 j ∧ j < w5.heap.size) w8 d L S5 slot m st (srs ++ [(st, zs)]) := by
    refine c5.shut.stays fun j hj hf => ?_
    have hj4 : ¬ (wr.heap.size ≤ j ∧ j < w4.heap.size) := by
      rcases hf with hf | hf
      · rcases hf.1 with h1 | h1
        · have := (h.fs j h1).2; omega
        · omega
      · subst hf; omega
    refine (g8.block j (by omega) (fun e => ?_)).trans ((b7.block j (by omega)).trans (g6.block j (by omega) (fun e => ?_)))
    · have h1 := hvG j e.symm
      rcases hf with hf | hf
      · rcases hf.1 with h2 | h2
        · exact (h.gs j h1).2.2.1 h2
        · have := (h.gs j h1).2.1; omega
      · exact (h.gs j h1).2.2.2 hf
    · have := hrow j e.symm
      exact hj4 (by omega)
  refine ⟨_, _, _, ⟨c8, fun j hj => ⟨hF5 j hj, by have := hj.2; omega⟩, h.l0, by rw [hmap]; exact r8, fun j hj => ?_, ?_⟩, by rw [hmap]; exact ap8⟩
  · rcases hj with hj | hj | hj
    · have h1 := h.gs j hj
      refine ⟨h1.1, by omega, fun hf => ?_, h1.2.2.2⟩
      rcases hf.1 with h2 | h2
      · exact h1.2.2.1 h2
      · omega
    · refine ⟨by omega, by omega, fun hf => ?_, by omega⟩
      rcases hf.1 with h2 | h2
      · have := (h.fs j h2).2; omega
      · omega
    · refine ⟨by omega, hj.2, fun hf => ?_, by omega⟩
      have := hf.2
      omega
  · have w4b : Below w.heap.size w w4 := h.b.trans (b4.mono hbs)
    have w5b : Below w.heap.size w w5 := w4b.trans (o5.below w4b.size fun i hi hf => by have := (hFL i hf).1; omega)
    have w6b : Below w.heap.size w w6 := w5b.grown g6 w5b.size fun k e => by have := (hrow k e).1; omega
    have w7b : Below w.heap.size w W7 := w6b.trans (b7.mono w6b.size)
    exact w7b.grown g8 w7b.size fun k e => (h.gs k (hvG k e)).1
/-- What Open told, from place k on as it was told; what lay ahead of Open as it lay. -/
structure GotI (wO wr : World) (base : Nat) (v : Value) (rs : List (List Int)) (vs : List Value) (k : Nat) : Prop where
  b : Below wO.heap.size wO wr
  own : wr.ownsRow base 33 1 v rs.length vs
  at_ : ∀ (i : Nat) (r : List Int), k ≤ i → rs[i]? = some r → ∃ g, vs[i]? = some (.slice (some ⟨g, 0, none⟩) r.length r.length) ∧ Row wr g r ∧ wO.heap.size ≤ g ∧ v.ownBlock ≠ some g
  nd : vs.Nodup
  byte : ∀ r ∈ rs, ∀ z ∈ r, 0 ≤ z ∧ z ≤ 255
section
variable {wO wr w' : World} {base : Nat} {v : Value} {rs : List (List Int)} {vs : List Value} {k : Nat}
theorem GotI.start (h : RecAt wr base v rs vs) (hb : Below wO.heap.size wO wr) (hbase : wO.heap.size ≤ base) : GotI wO wr base v rs vs 0 :=
  ⟨hb, h.own, fun i r _ hr => by
    obtain ⟨g, e, h1, h2, h3⟩ := h.at_ i r hr
    exact ⟨g, e, h1, by omega, h3⟩, h.nd, h.byte⟩
theorem GotI.drewN (h : GotI wO wr base v rs vs k) (m : Nat) : GotI wO (wr.drewN m) base v rs vs k :=
  ⟨h.b.trans ((Joins.below_draws _ _ _).mono h.b.size), own_stays h.own fun _ _ => rfl, h.at_, h.nd, h.byte⟩
theorem GotI.step (h : GotI wO wr base v rs vs k) {g : Nat} {r : List Int} (hr : rs[k]? = some r) (hg : vs[k]? = some (.slice (some ⟨g, 0, none⟩) r.length r.length)) (hg0 : wO.heap.size ≤ g) (hgv : v.ownBlock ≠ some g) (gr : wr.grownBy w' (some g)) : GotI wO w' base v rs vs (k + 1) := by
  refine ⟨h.b.grown gr h.b.size (fun j e => by injection e with e; omega), own_stays h.own fun j e => gr.block j (h.own.lt j e).2 (fun e2 => hgv (by rw [e, e2])), fun i r' hi hr' => ?_, h.nd, h.byte⟩
  obtain ⟨g', e, h1, h2, h3⟩ := h.at_ i r' (by omega) hr'
  refine ⟨g', e, h1.keep (gr.block g' h1.lt (fun e2 => ?_)), h2, h3⟩
  injection e2 with e2
  subst e2
  have hik : i ≠ k := by omega
  have hil := (List.getElem?_eq_some_iff.1 e).1
  have hkl := (List.getElem?_eq_some_iff.1 hg).1
  by_cases hlen : r'.length = r.length
  · rw [hlen] at e
    have e3 := (List.getElem?_eq_some_iff.1 e).2
    have e4 := (List.getElem?_eq_some_iff.1 hg).2
    exact (List.pairwise_iff_getElem.1 h.nd) k i hkl hil (by omega) (e4.trans e3.symm)
  · -- one block holds one row
    obtain ⟨g2, f1, f2, -, -⟩ := h.at_ k r (Nat.le_refl _) hr
    rw [hg] at f1
    injection f1 with f1
    injection f1 with f1
    injection f1 with f1
    injection f1 with f1
    subst f1
    have f3 := h1.symm.trans f2
    injection f3 with f3
    injection f3 with f3
    have := congrArg Array.size f3
    simp at this
    exact hlen this
/-- The places behind k, as they can be read. -/
theorem GotI.recR {A : Option Addr} {cap : Nat} (h : GotI wO wr base (.slice A rs.length cap) rs vs k) (hk : k ≤ rs.length) (hc : rs.length ≤ cap) : RecR wr (if cap = k then A else A.map (·.add k)) (rs.drop k) := by
  by_cases hk2 : k = rs.length
  · rw [hk2, List.drop_length]
    exact RecR.nil _ _
  · rw [if_neg (by omega)]
    obtain ⟨g0, hg0⟩ : ∃ g0, A = some ⟨g0, 0, none⟩ := by
      rcases h.own.2 with ⟨hv, h0⟩ | ⟨g, c', cur, hv, _⟩
      · injection hv with e1 e2 e3
        have : rs.length = 0 := by first | exact e2 | omega
        omega
      · injection hv with e1 e2 e3
        exact ⟨g, e1⟩
    subst hg0
    refine ⟨fun _ => ⟨g0, k, by rw [Option.map_some, Addr.add_mid, Nat.zero_add]⟩, fun b o i r e hr => ?_⟩
    have e : some (⟨g0, k, none⟩ : Addr) = some ⟨b, o, none⟩ := by rw [← e, Option.map_some, Addr.add_mid, Nat.zero_add]
    injection e with e
    injection e with e1 e2
    subst e1
    subst e2
    rw [List.getElem?_drop] at hr
    have hi := (List.getElem?_eq_some_iff.1 hr).1
    obtain ⟨g, e3, h1, -, -⟩ := h.at_ (k + i) r (by omega) hr
    exact ⟨_, _, by rw [h.own.cellAt (k + i) (by omega)]; exact e3, h1.rb (h.byte r (List.mem_of_getElem? hr))⟩
end
/-- The same of records that stay. -/
theorem Recs.recRfrom {G : Nat → Prop} {w : World} {base : Nat} {A : Option Addr} {cap k : Nat} {rs : List (List Int)} {vs : List Value} (h : Recs G w base (.slice A rs.length cap) rs vs) (hk : k ≤ rs.length) (hc : rs.length ≤ cap) : RecR w (if cap = k then A else A.map (·.add k)) (rs.drop k) := by
  by_cases hk2 : k = rs.length
  · rw [hk2, List.drop_length]
    exact RecR.nil _ _
  · rw [if_neg (by omega)]
    have h1 := h.recR
    obtain ⟨b, o, rfl⟩ := h1.spot (by omega)
    have := h1.drop k
    have e : (some (⟨b, o, none⟩ : Addr)).map (·.add k) = some ⟨b, o + k, none⟩ := by rw [Option.map_some, Addr.add_mid]
    rw [e]
    exact this
theorem own_cap {w : World} {base : Nat} {e : TypeId} {size n cap : Nat} {A : Option Addr} {xs : List Value} (h : w.ownsRow base e size (.slice A n cap) n xs) : n ≤ cap := by
  rcases h.2 with ⟨hv, h0⟩ | ⟨g, c', cur, hv, _, _, hc, _⟩
  · injection hv with e1 e2 e3
    omega
  · injection hv with e1 e2 e3
    omega
theorem apart_nil : Apart (.slice none 0 0) [] [] := fun i r B c hr => by simp at hr
end Go.Proofs.Ythpbcibjohakkaa
