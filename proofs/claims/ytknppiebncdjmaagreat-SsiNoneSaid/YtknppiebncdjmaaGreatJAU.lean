import Derived.Test.YtknppiebncdjmaaGreatJAK
import Derived.Test.YtknppiebncdjmaaGreatJAT
import Derived.Test.YtknppiebncdjmaaGreatJAL
import Derived.Test.YtknppiebncdjmaaGreatJAS
import Derived.Test.YtknppiebncdjmaaGreatJAF
import Derived.BigQuiet
import Derived.StillTailTactics
/- Layer 9: what the program's calls promise, however its notes lie; the program's notes and the reference's beside each other. -/
namespace Go.Proofs.YtknppiebncdjmaaGreat
set_option maxRecDepth 100000
set_option maxRecDepth 100000
open Go.RowKit

/-- Of a note that came in. -/
structure RdS (x : Rd) : Prop where
  lo : x.lo.size ≤ 140737488351232
  tb : x.tb.size ≤ 140737488351232
/-- Of the notes L in block r, within the blocks G: what each call does. -/
structure Api9 (M : World → (Nat → Prop) → Nat → Nat → List Nt → Prop) : Prop where
  stays : ∀ {w w' : World} {G : Nat → Prop} {r most : Nat} {L : List Nt}, M w G r most L → Out (fun k => ¬ G k) w w' → M w' G r most L
  lt : ∀ {w : World} {G : Nat → Prop} {r most : Nat} {L : List Nt}, M w G r most L → ∀ k, G k → k < w.heap.size
  inv : ∀ {w : World} {G : Nat → Prop} {r most : Nat} {L : List Nt}, M w G r most L → Inv9 most L ∧ SzL L ∧ 1 ≤ most ∧ most ≤ 65536
  new : ∀ (w : World) (m : Nat), 1 ≤ m → m ≤ 65536 → Calls Tryz.prog 37 #[.int .i64 (m : Int)] w fun e w' => ∃ r G, e = .returned (.tuple #[.pointer (some ⟨r, 0, none⟩), .int .i64 0]) ∧ M w' G r m [] ∧ (∀ k, G k → w.heap.size ≤ k) ∧ Below w.heap.size w w'
  bad : ∀ (w : World) (m : Int), capP m = false → Calls Tryz.prog 37 #[.int .i64 m] w fun e w' => e = .returned (.tuple #[.pointer none, .int .i64 1]) ∧ Below w.heap.size w w'
  note : ∀ {w : World} {G : Nat → Prop} {r most : Nat} {L : List Nt}, M w G r most L → ∀ (t : Int) (x : Rd), (Lit.int .i64 t).wf = true → RdS x →
    Calls Tryz.prog 47 #[.pointer (some ⟨r, 0, none⟩), .int .i64 t, rdV x] w fun e w' => e = .returned (.int .i64 (noteP most L t x).1) ∧ ∃ G', M w' G' r most (noteP most L t x).2 ∧ (∀ k, G' k → G k ∨ w.heap.size ≤ k) ∧ Out G w w'
  drop : ∀ {w : World} {G : Nat → Prop} {r most : Nat} {L : List Nt}, M w G r most L → ∀ (t : Int), (Lit.int .i64 t).wf = true →
    Calls Tryz.prog 129 #[.pointer (some ⟨r, 0, none⟩), .int .i64 t] w fun e w' => e = .returned (.int .i64 (if t < 1 then 1 else 0)) ∧ ∃ G', M w' G' r most (if t < 1 then L else dropP L t) ∧ (∀ k, G' k → G k ∨ w.heap.size ≤ k) ∧ Out G w w'
  readers : ∀ {w : World} {G : Nat → Prop} {r most : Nat} {L : List Nt}, M w G r most L → ∀ (t k : ByteArray), t.size ≤ 140737488351232 → k.size ≤ 140737488351232 →
    Calls Tryz.prog 54 #[.pointer (some ⟨r, 0, none⟩), .string t, .string k] w fun e w' => ∃ v, e = .returned v ∧ SO seN w.heap.size w' v (txP L fun n => hasP n.2 t k).length (numC (txP L fun n => hasP n.2 t k)) ∧ Below w.heap.size w w'
  txns : ∀ {w : World} {G : Nat → Prop} {r most : Nat} {L : List Nt}, M w G r most L →
    Calls Tryz.prog 45 #[.pointer (some ⟨r, 0, none⟩)] w fun e w' => ∃ v, e = .returned v ∧ SO seN w.heap.size w' v (txP L fun _ => true).length (numC (txP L fun _ => true)) ∧ Below w.heap.size w w'
  of : ∀ {w : World} {G : Nat → Prop} {r most : Nat} {L : List Nt}, M w G r most L → ∀ (t : Int), (Lit.int .i64 t).wf = true →
    Calls Tryz.prog 46 #[.pointer (some ⟨r, 0, none⟩), .int .i64 t] w fun e w' => ∃ v, e = .returned v ∧ SO seR w.heap.size w' v (ofP L t).length (cellsR (ofP L t)) ∧ Below w.heap.size w w'
  len : ∀ {w : World} {G : Nat → Prop} {r most : Nat} {L : List Nt}, M w G r most L →
    Calls Tryz.prog 71 #[.pointer (some ⟨r, 0, none⟩)] w fun e w' => e = .returned (.int .i64 (L.length : Nat)) ∧ Below w.heap.size w w'
  covers : ∀ (w : World) (a b : Rd), a.lo.size ≤ 140737488351232 → b.lo.size ≤ 140737488351232 → Calls Tryz.prog 142 #[rdV a, rdV b] w fun e w' => e = .returned (.bool (coversP a b)) ∧ Below w.heap.size w w'
section
variable {M : World → (Nat → Prop) → Nat → Nat → List Nt → Prop}
theorem Api9.below (I : Api9 M) {w w' : World} {G : Nat → Prop} {r most : Nat} {L : List Nt} (h : M w G r most L) (g : Below w.heap.size w w') : M w' G r most L := I.stays h (Out.of_below g _)

theorem RN.out {F G : Nat → Prop} {w w' : World} {b most : Nat} {L : List Nt} (h : RN F w b most L) (o : Out G w w') (hb : ¬ G b) (hF : ∀ k, F k → ¬ G k) : RN F w' b most L := by
  obtain ⟨A, c, h1, h2, h3, h4, h5⟩ := h.ex
  refine ⟨A, c, (o.block b (Array.getElem?_eq_some_iff.1 h1).1 hb).trans h1, ⟨h2.len, h2.one, fun h0 => ?_⟩, h3, h4, fun ad e => ⟨(h5 ad e).1, (h5 ad e).2.1, Nat.lt_of_lt_of_le (h5 ad e).2.2 o.size⟩⟩
  obtain ⟨g, q, e, hc⟩ := h2.cell h0
  exact ⟨g, q, e, fun j u hj => o.cell (hc j u hj) (hF _ (h5 _ e).2.1)⟩
theorem RN.mono {F F' : Nat → Prop} {w : World} {b most : Nat} {L : List Nt} (h : RN F w b most L) (hF : ∀ k, k < w.heap.size → F k → F' k) : RN F' w b most L := by
  obtain ⟨A, c, h1, h2, h3, h4, h5⟩ := h.ex
  exact ⟨A, c, h1, h2, h3, h4, fun ad e => ⟨(h5 ad e).1, hF _ (h5 ad e).2.2 (h5 ad e).2.1, (h5 ad e).2.2⟩⟩
theorem shrink_sz {most : Nat} : ∀ (f : Nat) (L M : List Nt), SzL L → shrinkP most f L = some M → SzL M
  | 0, L, M, h, e => by
    unfold shrinkP at e
    by_cases h1 : L.length ≤ most
    · rw [if_pos h1] at e; cases e; exact h
    · rw [if_neg h1] at e; cases e
  | f + 1, L, M, h, e => by
    unfold shrinkP at e
    by_cases h1 : L.length ≤ most
    · rw [if_pos h1] at e; cases e; exact h
    · rw [if_neg h1] at e
      cases h2 : coarsestP L with
      | none => rw [h2] at e; cases e
      | some p =>
        rw [h2] at e
        refine shrink_sz f _ M (fun n hn => ?_) e
        unfold coarseP at hn
        rcases List.mem_append.1 hn with hn | hn
        · exact h n (List.mem_filter.1 hn).1
        · rw [List.mem_singleton.1 hn]; exact Nat.zero_le _
theorem note_sz {most : Nat} {L : List Nt} (h : SzL L) (t : Int) {x : Rd} (hx : x.lo.size ≤ 140737488355328) : SzL (noteP most L t x).2 := by
  unfold noteP
  by_cases h1 : t < 1 ∨ mayP x = false
  · rw [if_pos h1]; exact h
  · rw [if_neg h1]
    cases h2 : L.any fun n => decide (n.1 = t) && coversP n.2 x with
    | true => rw [if_pos rfl]; exact h
    | false =>
      rw [if_neg (by simp)]
      cases h3 : shrinkP most (L.length + 1) (addP L t x) with
      | none => exact h
      | some M =>
        refine shrink_sz _ _ M (fun n hn => ?_) h3
        unfold addP at hn
        rcases List.mem_append.1 hn with hn | hn
        · exact h n (List.mem_filter.1 hn).1
        · rw [List.mem_singleton.1 hn]; exact hx
/-- What one side's notes keep. -/
structure Kp (most : Nat) (K : List Nt) : Prop where
  inv : Inv9 most K
  sz : SzL K
  m1 : 1 ≤ most
  m2 : most ≤ 65536
theorem Kp.len {most : Nat} {K : List Nt} (h : Kp most K) : K.length ≤ 65536 := Nat.le_trans h.inv.cap h.m2
theorem Kp.note {most : Nat} {K : List Nt} (h : Kp most K) (t : Int) {x : Rd} (hx : x.lo.size ≤ 140737488351232) : Kp most (noteP most K t x).2 := ⟨(note_keeps h.inv t x).1, note_sz h.sz t (by omega), h.m1, h.m2⟩
theorem Kp.drop {most : Nat} {K : List Nt} (h : Kp most K) (t : Int) : Kp most (if t < 1 then K else dropP K t) := by
  by_cases ht : t < 1
  · rw [if_pos ht]; exact h
  · rw [if_neg ht]; exact ⟨drop_keeps h.inv t, fun n hn => h.sz n (List.mem_filter.1 hn).1, h.m1, h.m2⟩
/-- The program's notes L in blocks G and the reference's K, apart from each other, behind the law's arguments. -/
structure Two9 (M : World → (Nat → Prop) → Nat → Nat → List Nt → Prop) (w0 w : World) (G : Nat → Prop) (r b most : Nat) (L K : List Nt) : Prop where
  m : M w G r most L
  n : RN (fun k => ¬ G k ∧ w0.heap.size ≤ k) w b most K
  k : Kp most K
  gl : ∀ k, G k → w0.heap.size ≤ k
  gb : ¬ G b
  bel : Below w0.heap.size w0 w
  bl : w0.heap.size ≤ b
theorem Two9.below (I : Api9 M) {w0 w w' : World} {G : Nat → Prop} {r b most : Nat} {L K : List Nt} (h : Two9 M w0 w G r b most L K) (g : Below w.heap.size w w') : Two9 M w0 w' G r b most L K :=
  ⟨I.below h.m g, h.n.gw g, h.k, h.gl, h.gb, below_next h.bel g, h.bl⟩
/-- The program's notes turn. -/
theorem Two9.prog {w0 w w' : World} {G G' : Nat → Prop} {r b most : Nat} {L L' K : List Nt} (h : Two9 M w0 w G r b most L K) (m : M w' G' r most L') (hG : ∀ k, G' k → G k ∨ w.heap.size ≤ k) (o : Out G w w') : Two9 M w0 w' G' r b most L' K := by
  have hblt := h.n.lt
  have hs := h.bel.size
  refine ⟨m, (RN.out (F := fun k => (¬ G k ∧ w0.heap.size ≤ k) ∧ k < w.heap.size) ?_ o h.gb (fun k hk => hk.1.1)).mono fun k _ hk => ⟨fun hg => ?_, hk.1.2⟩, h.k, fun k hk => ?_, fun hg => ?_, h.bel.trans (o.below hs fun i hi hg => by have := h.gl i hg; omega), h.bl⟩
  · exact h.n.mono fun k hk hf => ⟨hf, hk⟩
  · rcases hG k hg with h | h
    · exact hk.1.1 h
    · have := hk.2; omega
  · rcases hG k hk with h1 | h1
    · exact h.gl k h1
    · omega
  · rcases hG b hg with h1 | h1
    · exact h.gb h1
    · omega
/-- The reference's notes turn. -/
theorem Two9.ref (I : Api9 M) {w0 w w' : World} {G : Nat → Prop} {r b most : Nat} {L K K' : List Nt} (h : Two9 M w0 w G r b most L K) (n : RN (fun k => ¬ G k ∧ w0.heap.size ≤ k) w' b most K') (k : Kp most K') (o : Out (fun k => k = b) w w') : Two9 M w0 w' G r b most L K' :=
  ⟨I.stays h.m (o.mono fun i _ e => by subst e; exact h.gb), n, k, h.gl, h.gb, h.bel.trans (o.below h.bel.size fun i hi e => by have := h.bl; omega), h.bl⟩
theorem Two9.note (I : Api9 M) {w0 w : World} {G : Nat → Prop} {r b most : Nat} {L K : List Nt} (h : Two9 M w0 w G r b most L K) (t : Int) (ht : (Lit.int .i64 t).wf = true) (x : Rd) (hx : RdS x) :
    Calls Tryz.prog 47 #[.pointer (some ⟨r, 0, none⟩), .int .i64 t, rdV x] w fun e w' => e = .returned (.int .i64 (noteP most L t x).1) ∧ ∃ G', Two9 M w0 w' G' r b most (noteP most L t x).2 K ∧ (∀ k, G' k → G k ∨ w.heap.size ≤ k) ∧ Out G w w' :=
  (I.note h.m t x ht hx).mono fun _ _ ⟨e, G', m, hG, o⟩ => ⟨e, G', h.prog m hG o, hG, o⟩
theorem Two9.drop (I : Api9 M) {w0 w : World} {G : Nat → Prop} {r b most : Nat} {L K : List Nt} (h : Two9 M w0 w G r b most L K) (t : Int) (ht : (Lit.int .i64 t).wf = true) :
    Calls Tryz.prog 129 #[.pointer (some ⟨r, 0, none⟩), .int .i64 t] w fun e w' => e = .returned (.int .i64 (if t < 1 then 1 else 0)) ∧ ∃ G', Two9 M w0 w' G' r b most (if t < 1 then L else dropP L t) K ∧ (∀ k, G' k → G k ∨ w.heap.size ≤ k) ∧ Out G w w' :=
  (I.drop h.m t ht).mono fun _ _ ⟨e, G', m, hG, o⟩ => ⟨e, G', h.prog m hG o, hG, o⟩
theorem Two9.rnote (I : Api9 M) {w0 w : World} {G : Nat → Prop} {r b most : Nat} {L K : List Nt} (h : Two9 M w0 w G r b most L K) (t : Int) (x : Rd) (hx : x.lo.size ≤ 140737488351232) :
    Calls Tryz.prog 149 #[.pointer (some ⟨b, 0, none⟩), .int .i64 t, rdV x] w fun e w' => e = .returned (.int .i64 (noteP most K t x).1) ∧ Two9 M w0 w' G r b most L (noteP most K t x).2 ∧ Out (fun k => k = b) w w' :=
  (wrNote h.n (by have := h.k.len; omega) (by have := h.k.m2; omega) h.k.sz (fun k hk => ⟨fun hg => by have := I.lt h.m k hg; omega, Nat.le_trans h.bel.size hk⟩) t x (by omega)).mono fun _ _ ⟨e, n, o⟩ => ⟨e, h.ref I n (h.k.note t hx) o, o⟩
theorem Two9.rdrop (I : Api9 M) {w0 w : World} {G : Nat → Prop} {r b most : Nat} {L K : List Nt} (h : Two9 M w0 w G r b most L K) (t : Int) :
    Calls Tryz.prog 118 #[.pointer (some ⟨b, 0, none⟩), .int .i64 t] w fun e w' => e = .returned (.int .i64 (if t < 1 then 1 else 0)) ∧ Two9 M w0 w' G r b most L (if t < 1 then K else dropP K t) ∧ Out (fun k => k = b) w w' :=
  (wrDrop h.n (by have := h.k.len; omega) (fun k hk => ⟨fun hg => by have := I.lt h.m k hg; omega, Nat.le_trans h.bel.size hk⟩) t).mono fun _ _ ⟨e, n, o⟩ => ⟨e, h.ref I n (h.k.drop t) o, o⟩
end
end Go.Proofs.YtknppiebncdjmaaGreat

/- Layer 10: how the program keeps its transactions: a block, three maps, the locks, the notes, the rows that kept ones have written. -/
namespace Go.Proofs.YtknppiebncdjmaaGreat
set_option maxRecDepth 100000
set_option maxRecDepth 100000
open Go.RowKit Go.Maps Go.ChangeMaps Go.MapKept

theorem MapM.look2 {κ : Type} [DecidableEq κ] {k : TypeId} {T : KT κ k} {w : World} {r : Nat} {hs : List (κ × Value)} (hM : MapM T w r hs) {t e : TypeId} (ht : Tryz.prog.underlying t = some (.map k e)) {z : Value} (hz : (zeroValue e).run Tryz.prog w = .ok z w) {x : κ} (hx : T.ok x) :
    (Instr.lookup t (.map (some r)) (T.enc x) true).run Tryz.prog w = .ok (.tuple #[(getM hs x).getD z, .bool (getM hs x).isSome]) w := by
  obtain ⟨D, ho, hv⟩ := hM
  obtain ⟨v, ps, hrun, h1⟩ := ho.look_ok T.law ht hz (zd := .held z) (zp := []) rfl (T.key hx)
  rw [hv.at_ x hx] at h1
  rw [hrun, hv.has x hx]
  unfold heldR at h1
  simp only [Option.some.injEq, Prod.mk.injEq] at h1
  obtain ⟨h1, -⟩ := h1
  cases hg : getM hs x with
  | none => rw [hg] at h1; simp only [Option.elim_none, DataW.held.injEq] at h1; rw [h1]; rfl
  | some u => rw [hg] at h1; simp only [Option.elim_some, DataW.held.injEq] at h1; rw [h1]; rfl
abbrev actT : TypeId := 86
abbrev kepT : TypeId := 87
abbrev flgT : TypeId := 88
def flagV (f : Bool × Bool) : Value := .agg #[.bool f.1, .bool f.2]
def pastV (k : KpR) : Value := .agg #[k.val, .int .i64 k.upto]
def actM (l : List (Int × Int)) : List (Int × Value) := encA (.int .i64) l
def kepM (l : List (Int × KpR)) : List (Int × Value) := encA pastV l
def flgM (l : List (Int × (Bool × Bool))) : List (Int × Value) := encA flagV l
theorem zeroN (w : World) : (zeroValue 2).run Tryz.prog w = .ok (.int .i64 0) w := by kernel_rfl
theorem zeroP (w : World) : (zeroValue 108).run Tryz.prog w = .ok (.agg #[.slice none 0 0, .int .i64 0]) w := by kernel_rfl
theorem zeroF (w : World) : (zeroValue 79).run Tryz.prog w = .ok (.agg #[.bool false, .bool false]) w := by kernel_rfl
theorem look_act {w : World} {r : Nat} {l : List (Int × Int)} (h : MapM KI w r (actM l)) {x : Int} (hx : (Lit.int .i64 x).wf = true) : (Instr.lookup actT (.map (some r)) (.int .i64 x) false).run Tryz.prog w = .ok (.int .i64 ((getA l x).getD 0)) w := by
  have := h.look Tryz.underlying86 (zeroN w) (x := x) hx
  unfold actM at this
  rw [enc_get] at this
  rw [show (Value.int .i64 x) = KI.enc x from rfl, this]
  cases getA l x <;> rfl
theorem look_act2 {w : World} {r : Nat} {l : List (Int × Int)} (h : MapM KI w r (actM l)) {x : Int} (hx : (Lit.int .i64 x).wf = true) : (Instr.lookup actT (.map (some r)) (.int .i64 x) true).run Tryz.prog w = .ok (.tuple #[.int .i64 ((getA l x).getD 0), .bool (getA l x).isSome]) w := by
  have := h.look2 Tryz.underlying86 (zeroN w) (x := x) hx
  unfold actM at this
  rw [enc_get] at this
  rw [show (Value.int .i64 x) = KI.enc x from rfl, this]
  cases getA l x <;> rfl
theorem look_kep {w : World} {r : Nat} {l : List (Int × KpR)} (h : MapM KI w r (kepM l)) {x : Int} (hx : (Lit.int .i64 x).wf = true) : (Instr.lookup kepT (.map (some r)) (.int .i64 x) false).run Tryz.prog w = .ok (pastV ((getA l x).getD ⟨.slice none 0 0, [], 0⟩)) w := by
  have := h.look Tryz.underlying87 (zeroP w) (x := x) hx
  unfold kepM at this
  rw [enc_get] at this
  rw [show (Value.int .i64 x) = KI.enc x from rfl, this]
  cases getA l x <;> rfl
theorem look_flg {w : World} {r : Nat} {l : List (Int × (Bool × Bool))} (h : MapM KI w r (flgM l)) {x : Int} (hx : (Lit.int .i64 x).wf = true) : (Instr.lookup flgT (.map (some r)) (.int .i64 x) false).run Tryz.prog w = .ok (flagV ((getA l x).getD (false, false))) w := by
  have := h.look Tryz.underlying88 (zeroF w) (x := x) hx
  unfold flgM at this
  rw [enc_get] at this
  rw [show (Value.int .i64 x) = KI.enc x from rfl, this]
  cases getA l x <;> rfl
/-- A list of locks that can be read. -/
structure LV (w : World) (v : Value) (ls : List Lk) : Prop where
  ex : ∃ A c, v = .slice A ls.length c ∧ SB w A (2 * ls.length) (cellsL ls) ∧ ls.length ≤ c ∧ c ≤ maxLen
/-- The blocks of a list. -/
def BlV (v : Value) (k : Nat) : Prop := ∃ ad n c, v = .slice (some ad) n c ∧ k = ad.block
theorem LV.kept {w w' : World} {v : Value} {ls : List Lk} (h : LV w v ls) (hb : ∀ k, BlV v k → w'.heap[k]? = w.heap[k]?) : LV w' v ls := by
  obtain ⟨A, c, rfl, h2, h3⟩ := h.ex
  refine ⟨A, c, rfl, ⟨h2.len, h2.one, fun h0 => ?_⟩, h3⟩
  obtain ⟨g, o, rfl, hc⟩ := h2.cell h0
  refine ⟨g, o, rfl, fun j u hj => ?_⟩
  have := hc j u hj
  unfold World.cell? at this ⊢
  rw [hb g ⟨_, _, _, rfl, rfl⟩]
  exact this
/-- The list's block is there, where it has one that is read. -/
structure KpOk (w : World) (k : KpR) : Prop where
  lv : LV w k.val k.wrote
  lt : ∀ g, BlV k.val g → g < w.heap.size
  len : k.wrote.length ≤ 4096
  ord : k.wrote.Pairwise (lessB · · = true)
  r : 0 ≤ k.upto ∧ k.upto ≤ 1000000000000000000
abbrev MF := World → (Nat → Prop) → Nat → Nat → List Nt → Prop
/-- The program's manager in memory: its block, its maps, the lock's block and map, the notes' block. -/
structure Mem10 (M : MF) (w : World) (b ab kb fb lm lr rr : Nat) (GR : Nat → Prop) (c : Cp10) (P : Pg) : Prop where
  blk : w.heap[b]? = some (.cells #[.int .i64 c.act, .int .i64 c.kept, .int .i64 (c.reads : Nat), .int .i64 c.locks, .int .i64 P.now, .int .i64 P.begun, .map (some ab), .map (some kb), .map (some fb), .pointer (some ⟨lm, 0, none⟩), .pointer (some ⟨rr, 0, none⟩)] 92 (0, 0))
  act : MapM KI w ab (actM P.act)
  kep : MapM KI w kb (kepM P.kep)
  flg : MapM KI w fb (flgM P.flg)
  lok : MG w lm lr c.locks P.H
  rds : M w GR rr c.reads P.L
  row : ∀ p ∈ P.kep, KpOk w p.2
  nod : [b, ab, kb, fb, lm, lr].Nodup
  ngr : ∀ k ∈ [b, ab, kb, fb, lm, lr], ¬ GR k
  nrow : ∀ p ∈ P.kep, ∀ g, BlV p.2.val g → g ∉ [b, ab, kb, fb, lr] ∧ ¬ GR g
/-- What the manager may take as an argument, and what bounds it. -/
structure PgOk (c : Cp10) (P : Pg) : Prop where
  ca : 1 ≤ c.act ∧ c.act ≤ 64
  ck : 0 ≤ c.kept ∧ c.kept ≤ 1024
  na : (P.act.length : Int) ≤ c.act
  nk : (P.kep.length : Int) ≤ c.kept
  nf : P.flg.length ≤ 100000
  bg : 0 ≤ P.begun ∧ P.begun ≤ 1000000000000000000
  nw : 0 ≤ P.now ∧ P.now ≤ 2000000000000000000
  ax : ∀ p ∈ P.act, 1 ≤ p.1 ∧ p.1 ≤ P.begun ∧ 0 ≤ p.2 ∧ p.2 ≤ P.now
  kx : ∀ p ∈ P.kep, 1 ≤ p.1 ∧ p.1 ≤ P.begun
  fx : ∀ p ∈ P.flg, 1 ≤ p.1 ∧ p.1 ≤ P.begun
/-- The blocks that calls may write. -/
def BlG (b ab kb fb lr : Nat) (GR : Nat → Prop) (k : Nat) : Prop := k ∈ [b, ab, kb, fb, lr] ∨ GR k
/-- The blocks that stay as they are. -/
def BlK (lm : Nat) (P : Pg) (k : Nat) : Prop := k = lm ∨ ∃ p ∈ P.kep, BlV p.2.val k
section
variable {M : MF} {w w' : World} {b ab kb fb lm lr rr : Nat} {GR : Nat → Prop} {c : Cp10} {P : Pg}
theorem Mem10.onceA (h : Mem10 M w b ab kb fb lm lr rr GR c P) : OnceA P.act ∧ OnceA P.kep ∧ OnceA P.flg := ⟨(enc_once _).1 h.act.once, (enc_once _).1 h.kep.once, (enc_once _).1 h.flg.once⟩
theorem Mem10.cells (h : Mem10 M w b ab kb fb lm lr rr GR c P) : w.cell? ⟨b, 0, none⟩ = some (.int .i64 c.act) ∧ w.cell? ⟨b, 1, none⟩ = some (.int .i64 c.kept) ∧ w.cell? ⟨b, 2, none⟩ = some (.int .i64 (c.reads : Nat)) ∧ w.cell? ⟨b, 3, none⟩ = some (.int .i64 c.locks) ∧ w.cell? ⟨b, 4, none⟩ = some (.int .i64 P.now) ∧ w.cell? ⟨b, 5, none⟩ = some (.int .i64 P.begun) ∧ w.cell? ⟨b, 6, none⟩ = some (.map (some ab)) ∧ w.cell? ⟨b, 7, none⟩ = some (.map (some kb)) ∧ w.cell? ⟨b, 8, none⟩ = some (.map (some fb)) ∧ w.cell? ⟨b, 9, none⟩ = some (.pointer (some ⟨lm, 0, none⟩)) ∧ w.cell? ⟨b, 10, none⟩ = some (.pointer (some ⟨rr, 0, none⟩)) :=
  ⟨cell_of_row _ _ 0 _ _ _ h.blk, cell_of_row _ _ 1 _ _ _ h.blk, cell_of_row _ _ 2 _ _ _ h.blk, cell_of_row _ _ 3 _ _ _ h.blk, cell_of_row _ _ 4 _ _ _ h.blk, cell_of_row _ _ 5 _ _ _ h.blk, cell_of_row _ _ 6 _ _ _ h.blk, cell_of_row _ _ 7 _ _ _ h.blk, cell_of_row _ _ 8 _ _ _ h.blk, cell_of_row _ _ 9 _ _ _ h.blk, cell_of_row _ _ 10 _ _ _ h.blk⟩
theorem Mem10.lt (I : Api9 M) (h : Mem10 M w b ab kb fb lm lr rr GR c P) : (∀ k, BlG b ab kb fb lr GR k → k < w.heap.size) ∧ ∀ k, BlK lm P k → k < w.heap.size := by
  refine ⟨?_, ?_⟩
  · rintro k (hk | hk)
    · simp only [List.mem_cons, List.not_mem_nil, or_false] at hk
      rcases hk with rfl | rfl | rfl | rfl | rfl
      · exact (Array.getElem?_eq_some_iff.1 h.blk).1
      · exact h.act.lt
      · exact h.kep.lt
      · exact h.flg.lt
      · exact h.lok.map.lt
    · exact I.lt h.rds k hk
  · rintro k (rfl | ⟨p, hp, hk⟩)
    · exact (Array.getElem?_eq_some_iff.1 h.lok.blk).1
    · exact (h.row p hp).lt k hk
theorem MG.kept {w w' : World} {m r : Nat} {most : Int} {hs : List Hd} (h : MG w m r most hs) (h1 : w'.heap[m]? = w.heap[m]?) (h2 : w'.heap[r]? = w.heap[r]?) : MG w' m r most hs :=
  ⟨h1.trans h.blk, h.map.block h2, h.m1, h.m2, h.len⟩
theorem KpOk.kept {k : KpR} (h : KpOk w k) (hb : ∀ g, BlV k.val g → w'.heap[g]? = w.heap[g]?) (hs : w.heap.size ≤ w'.heap.size) : KpOk w' k := ⟨h.lv.kept hb, fun g hg => Nat.lt_of_lt_of_le (h.lt g hg) hs, h.len, h.ord, h.r⟩
/-- Where only other blocks are written, all stays. -/
theorem Mem10.stays (I : Api9 M) (h : Mem10 M w b ab kb fb lm lr rr GR c P) {F : Nat → Prop} (o : Out F w w') (hF : ∀ k, F k → ¬ BlG b ab kb fb lr GR k ∧ ¬ BlK lm P k) : Mem10 M w' b ab kb fb lm lr rr GR c P := by
  obtain ⟨l1, l2⟩ := h.lt I
  have kg : ∀ k, BlG b ab kb fb lr GR k → w'.heap[k]? = w.heap[k]? := fun k hk => o.block k (l1 k hk) fun hf => (hF k hf).1 hk
  have kk : ∀ k, BlK lm P k → w'.heap[k]? = w.heap[k]? := fun k hk => o.block k (l2 k hk) fun hf => (hF k hf).2 hk
  refine ⟨(kg b (.inl (by simp))).trans h.blk, h.act.block (kg ab (.inl (by simp))), h.kep.block (kg kb (.inl (by simp))), h.flg.block (kg fb (.inl (by simp))), h.lok.kept (kk lm (.inl rfl)) (kg lr (.inl (by simp))), I.stays h.rds (o.mono fun k _ hf hg => (hF k hf).1 (.inr hg)), fun p hp => (h.row p hp).kept (fun g hg => kk g (.inr ⟨p, hp, hg⟩)) o.size, h.nod, h.ngr, h.nrow⟩
theorem Mem10.below (I : Api9 M) (h : Mem10 M w b ab kb fb lm lr rr GR c P) (g : Below w.heap.size w w') : Mem10 M w' b ab kb fb lm lr rr GR c P := h.stays I (Out.of_below g (fun _ => False)) fun _ hf => hf.elim
/-- All but the notes: where just the notes' blocks are written. -/
theorem Mem10.notes (h : Mem10 M w b ab kb fb lm lr rr GR c P) (I : Api9 M) {GR' : Nat → Prop} {L' : List Nt} (hm : M w' GR' rr c.reads L') (hG : ∀ k, GR' k → GR k ∨ w.heap.size ≤ k) (o : Out GR w w') : Mem10 M w' b ab kb fb lm lr rr GR' c { P with L := L' } := by
  obtain ⟨l1, l2⟩ := h.lt I
  have k1 : ∀ k ∈ [b, ab, kb, fb, lm, lr], w'.heap[k]? = w.heap[k]? := fun k hk => o.block k (by
    simp only [List.mem_cons, List.not_mem_nil, or_false] at hk
    rcases hk with rfl | rfl | rfl | rfl | rfl | rfl
    · exact l1 _ (.inl (by simp))
    · exact l1 _ (.inl (by simp))
    · exact l1 _ (.inl (by simp))
    · exact l1 _ (.inl (by simp))
    · exact l2 _ (.inl rfl)
    · exact l1 _ (.inl (by simp))) (h.ngr k hk)
  refine ⟨(k1 b (by simp)).trans h.blk, h.act.block (k1 ab (by simp)), h.kep.block (k1 kb (by simp)), h.flg.block (k1 fb (by simp)), h.lok.kept (k1 lm (by simp)) (k1 lr (by simp)), hm, fun p hp => (h.row p hp).kept (fun g hg => o.block g ((h.row p hp).lt g hg) (h.nrow p hp g hg).2) o.size, h.nod, fun k hk hg => ?_, fun p hp g hg => ⟨(h.nrow p hp g hg).1, fun hr => ?_⟩⟩
  · rcases hG k hg with h1 | h1
    · exact h.ngr k hk h1
    · have : k < w.heap.size := by
        simp only [List.mem_cons, List.not_mem_nil, or_false] at hk
        rcases hk with rfl | rfl | rfl | rfl | rfl | rfl
        · exact l1 _ (.inl (by simp))
        · exact l1 _ (.inl (by simp))
        · exact l1 _ (.inl (by simp))
        · exact l1 _ (.inl (by simp))
        · exact l2 _ (.inl rfl)
        · exact l1 _ (.inl (by simp))
      omega
  · rcases hG g hr with h1 | h1
    · exact (h.nrow p hp g hg).2 h1
    · have := (h.row p hp).lt g hg
      omega
end
end Go.Proofs.YtknppiebncdjmaaGreat

/- Layer 10: the program's small calls: made, isActive, refusal, holds, isConcurrent, both, with; Now, Snapshot, Flags. -/
namespace Go.Proofs.YtknppiebncdjmaaGreat
set_option maxRecDepth 100000
set_option maxRecDepth 100000
open Go.RowKit Go.Maps Go.ChangeMaps Go.MapKept

section
variable {M : MF} {w : World} {b ab kb fb lm lr rr : Nat} {GR : Nat → Prop} {c : Cp10} {P : Pg}
set_option maxHeartbeats 1000000 in
theorem wxMade (h : Mem10 M w b ab kb fb lm lr rr GR c P) (hc : PgOk c P) :
    Calls Tryz.prog 40 #[.pointer (some ⟨b, 0, none⟩)] w fun e w' => e = .returned (.bool true) ∧ w' = w := by
  have c0 := h.cells.1
  have i1 : ¬ c.act = 0 := by have := hc.ca; omega
  clear h hc
  go_enter Tryz.func40, Tryz.ntmps40
  go_wp2
  go_ret
  exact ⟨by simp [i1], rfl⟩
set_option maxHeartbeats 1000000 in
theorem wxIs (h : Mem10 M w b ab kb fb lm lr rr GR c P) {x : Int} (hx : (Lit.int .i64 x).wf = true) :
    Calls Tryz.prog 102 #[.pointer (some ⟨b, 0, none⟩), .int .i64 x] w fun e w' => e = .returned (.bool (isAct P x)) ∧ w' = w := by
  have c6 := h.cells.2.2.2.2.2.2.1
  have qA : (Instr.lookup 86 (.map (some ab)) (.int .i64 x) true).run Tryz.prog w = .ok (.tuple #[.int .i64 ((getA P.act x).getD 0), .bool (isAct P x)]) w := look_act2 h.act hx
  clear h
  go_enter Tryz.func102, Tryz.ntmps102
  go_wp2
  go_ret
  exact ⟨by first | rfl | simp, rfl⟩
def refG (P : Pg) (x : Int) : Int := if isAct P x = true then 0 else 101
set_option maxHeartbeats 1000000 in
theorem wxRef (h : Mem10 M w b ab kb fb lm lr rr GR c P) (hc : PgOk c P) {x : Int} (hx : (Lit.int .i64 x).wf = true) :
    Calls Tryz.prog 48 #[.pointer (some ⟨b, 0, none⟩), .int .i64 x] w fun e w' => e = .returned (.int .i64 (refG P x)) ∧ w' = w := by
  have CM := Lib.hid (wxMade h hc)
  have CI := Lib.hid (wxIs h hx)
  clear h
  unfold refG
  cases ha : isAct P x
  · rw [ha] at CI
    go_enter Tryz.func48, Tryz.ntmps48
    go_wp2_with (first
      | (go_at_call 40; go_loud (refine CM.out.mono ?_; rintro e w1 ⟨rfl, hw⟩; replace hw := hw.symm; subst hw))
      | (go_at_call 102; go_loud (refine CI.out.mono ?_; rintro e w1 ⟨rfl, hw⟩; replace hw := hw.symm; subst hw)))
    go_ret
    exact ⟨rfl, rfl⟩
  · rw [ha] at CI
    go_enter Tryz.func48, Tryz.ntmps48
    go_wp2_with (first
      | (go_at_call 40; go_loud (refine CM.out.mono ?_; rintro e w1 ⟨rfl, hw⟩; replace hw := hw.symm; subst hw))
      | (go_at_call 102; go_loud (refine CI.out.mono ?_; rintro e w1 ⟨rfl, hw⟩; replace hw := hw.symm; subst hw)))
    go_ret
    exact ⟨rfl, rfl⟩
set_option maxHeartbeats 2000000 in
theorem wxHolds (h : Mem10 M w b ab kb fb lm lr rr GR c P) {l : Lk} (hl : Sz l) (tx : Int) :
    Calls Tryz.prog 49 #[.pointer (some ⟨b, 0, none⟩), .int .i64 tx, lkV l] w fun e w' => e = .returned (.bool (decide (holderP P.H l = some tx))) ∧ Below w.heap.size w w' := by
  obtain ⟨W, hW⟩ : ∃ W, w.alloc (.cells #[.string l.1, .string l.2] 42) = W := ⟨_, rfl⟩
  have hB : Below w.heap.size w W := by rw [← hW]; exact (Below.refl _ _).alloc (Nat.le_refl _) _
  have HB := Lib.hid hB
  have q0 : W.heap[w.heap.size]? = some (.cells #[.string l.1, .string l.2] 42 (0, 0)) := by rw [← hW]; exact heap_alloc_new _ _
  have q1 : W.cell? ⟨w.heap.size, 0, none⟩ = some (.string l.1) := cell_of_row _ _ 0 _ _ _ q0
  have q2 : W.cell? ⟨w.heap.size, 1, none⟩ = some (.string l.2) := cell_of_row _ _ 1 _ _ _ q0
  have c9 : W.cell? ⟨b, 9, none⟩ = some (.pointer (some ⟨lm, 0, none⟩)) := keep_below h.cells.2.2.2.2.2.2.2.2.2.1 hB
  have CH := Lib.hid (wkHolder ((h.lok.below hB).below (Below.refl _ _).drew) hl)
  have HW := Lib.hid hW
  clear h hW q0 hl hB
  unfold lkV at CH ⊢
  obtain ⟨ho, hh⟩ : ∃ q, holderP P.H l = q := ⟨_, rfl⟩
  rw [hh] at CH
  rw [hh]
  clear hh
  go_enter Tryz.func49, Tryz.ntmps49
  go_upto_region 1 with fail
  rw [HW.out]
  cases ho with
  | none =>
    go_region_held3 (fun w' => w'.cell? ⟨b, 9, none⟩ = some (.pointer (some ⟨lm, 0, none⟩)) ∧ w'.cell? ⟨w.heap.size, 0, none⟩ = some (.string l.1) ∧ w'.cell? ⟨w.heap.size, 1, none⟩ = some (.string l.2)) (first | exact ⟨c9, q1, q2⟩ | exact S2)
      (first | (go_at_call 75; go_loud (refine CH.out.mono ?_; rintro e w2 ⟨rfl, g2⟩; have S2 : w2.cell? ⟨b, 9, none⟩ = some (.pointer (some ⟨lm, 0, none⟩)) ∧ w2.cell? ⟨w.heap.size, 0, none⟩ = some (.string l.1) ∧ w2.cell? ⟨w.heap.size, 1, none⟩ = some (.string l.2) := ⟨keep_below (w := W.drew) c9 g2, keep_below (w := W.drew) q1 g2, keep_below (w := W.drew) q2 g2⟩; have G2 := Lib.hid (below_next HB.out ((Below.refl W.heap.size W).drew.trans g2)); clear g2)))
    go_wp2
    go_ret
    exact ⟨by first | rfl | simp, G2.out⟩
  | some x =>
    go_region_held3 (fun w' => w'.cell? ⟨b, 9, none⟩ = some (.pointer (some ⟨lm, 0, none⟩)) ∧ w'.cell? ⟨w.heap.size, 0, none⟩ = some (.string l.1) ∧ w'.cell? ⟨w.heap.size, 1, none⟩ = some (.string l.2)) (first | exact ⟨c9, q1, q2⟩ | exact S2)
      (first | (go_at_call 75; go_loud (refine CH.out.mono ?_; rintro e w2 ⟨rfl, g2⟩; have S2 : w2.cell? ⟨b, 9, none⟩ = some (.pointer (some ⟨lm, 0, none⟩)) ∧ w2.cell? ⟨w.heap.size, 0, none⟩ = some (.string l.1) ∧ w2.cell? ⟨w.heap.size, 1, none⟩ = some (.string l.2) := ⟨keep_below (w := W.drew) c9 g2, keep_below (w := W.drew) q1 g2, keep_below (w := W.drew) q2 g2⟩; have G2 := Lib.hid (below_next HB.out ((Below.refl W.heap.size W).drew.trans g2)); clear g2)))
    go_wp2
    go_ret
    exact ⟨by simp only [Option.getD_some, Option.isSome_some, Option.some.injEq, Bool.true_and, Value.bool.injEq, Ending.returned.injEq]; first | rfl | exact (Bool.beq_eq_decide_eq _ _) | (by_cases e : x = tx <;> simp [e]), G2.out⟩
set_option maxHeartbeats 2000000 in
theorem wxConc (h : Mem10 M w b ab kb fb lm lr rr GR c P) (tx : Int) {o : Int} (ho : (Lit.int .i64 o).wf = true) :
    Calls Tryz.prog 132 #[.pointer (some ⟨b, 0, none⟩), .int .i64 tx, .int .i64 o] w fun e w' => e = .returned (.bool (concG P tx o)) ∧ w' = w := by
  have CI := Lib.hid (wxIs h ho)
  have c7 := h.cells.2.2.2.2.2.2.2.1
  obtain ⟨k, hk⟩ : ∃ k, (getA P.kep o).getD ⟨.slice none 0 0, [], 0⟩ = k := ⟨_, rfl⟩
  have hu : ((getA P.kep o).map (·.upto)).getD 0 = k.upto := by rw [← hk]; cases getA P.kep o <;> rfl
  have qK : (Instr.lookup 87 (.map (some kb)) (.int .i64 o) false).run Tryz.prog w = .ok (.agg #[k.val, .int .i64 k.upto]) w := by rw [← hk]; exact look_kep h.kep ho
  unfold concG
  rw [hu]
  obtain ⟨u, hu2⟩ : ∃ u, k.upto = u := ⟨_, rfl⟩
  obtain ⟨v, hv2⟩ : ∃ v, k.val = v := ⟨_, rfl⟩
  rw [hu2, hv2] at qK
  rw [hu2]
  have qF : ∀ W : World, (Instr.field 108 (.agg #[v, .int .i64 u]) 1).run Tryz.prog W = .ok (.int .i64 u) W := fun W => by kernel_rfl
  clear h hk hu hu2 hv2
  cases ha : isAct P o
  · rw [ha] at CI
    go_enter Tryz.func132, Tryz.ntmps132
    go_wp2_with (go_at_call 102; go_loud (refine CI.out.mono ?_; rintro e w1 ⟨rfl, hw⟩; replace hw := hw.symm; subst hw))
    go_ret
    exact ⟨by simp, rfl⟩
  · rw [ha] at CI
    go_enter Tryz.func132, Tryz.ntmps132
    go_wp2_with (go_at_call 102; go_loud (refine CI.out.mono ?_; rintro e w1 ⟨rfl, hw⟩; replace hw := hw.symm; subst hw))
    go_ret
    exact ⟨by simp, rfl⟩
set_option maxHeartbeats 1000000 in
theorem wxBoth (w : World) (x y : Bool) : Calls Tryz.prog 79 #[.agg #[.bool x, .bool y]] w fun e w' => e = .returned (.bool (x && y)) ∧ Below w.heap.size w w' := by
  obtain ⟨W, hW⟩ : ∃ W, w.alloc (.cells #[.bool x, .bool y] 79) = W := ⟨_, rfl⟩
  have HB := Lib.hid (show Below w.heap.size w W by rw [← hW]; exact (Below.refl _ _).alloc (Nat.le_refl _) _)
  have q0 : W.heap[w.heap.size]? = some (.cells #[.bool x, .bool y] 79 (0, 0)) := by rw [← hW]; exact heap_alloc_new _ _
  have q1 : W.cell? ⟨w.heap.size, 0, none⟩ = some (.bool x) := cell_of_row _ _ 0 _ _ _ q0
  have q2 : W.cell? ⟨w.heap.size, 1, none⟩ = some (.bool y) := cell_of_row _ _ 1 _ _ _ q0
  have HW := Lib.hid hW
  clear hW q0
  go_enter Tryz.func79, Tryz.ntmps79
  go_upto_region 1 with fail
  rw [HW.out]
  cases x
  · go_wp2
    go_ret
    exact ⟨rfl, HB.out⟩
  · go_wp2
    go_ret
    exact ⟨by simp, HB.out⟩
end
end Go.Proofs.YtknppiebncdjmaaGreat

/- Layer 10: the program's small calls: with, Now, Snapshot, Flags, forget. -/
namespace Go.Proofs.YtknppiebncdjmaaGreat
set_option maxRecDepth 100000
set_option maxRecDepth 100000
open Go.RowKit Go.Maps Go.ChangeMaps Go.MapKept

theorem row2_set {w : World} {b : Nat} {t : TypeId} {u v : Value} (h : w.heap[b]? = some (.cells #[u, v] t (0, 0))) (x y : Value) : ((w.setCell ⟨b, 0, none⟩ x).setCell ⟨b, 1, none⟩ y).heap[b]? = some (.cells #[x, y] t (0, 0)) := by
  have h1 := heap_setCell_same w b 0 _ _ x h
  have h2 := heap_setCell_same (w.setCell ⟨b, 0, none⟩ x) b 1 _ _ y h1
  rw [h2]
  rfl
set_option maxHeartbeats 4000000 in
theorem wxWith (w : World) (x y x2 y2 : Bool) : Calls Tryz.prog 145 #[.agg #[.bool x, .bool y], .agg #[.bool x2, .bool y2]] w fun e w' => e = .returned (.agg #[.bool (x || x2), .bool (y || y2)]) ∧ Below w.heap.size w w' := by
  obtain ⟨W1, hW1⟩ : ∃ W, w.alloc (.cells #[.bool x, .bool y] 79) = W := ⟨_, rfl⟩
  have s1 : W1.heap.size = w.heap.size + 1 := by rw [← hW1]; simp
  have b1 : Below w.heap.size w W1 := by rw [← hW1]; exact (Below.refl _ _).alloc (Nat.le_refl _) _
  have q1 : W1.heap[w.heap.size]? = some (.cells #[.bool x, .bool y] 79 (0, 0)) := by rw [← hW1]; exact heap_alloc_new _ _
  obtain ⟨W2, hW2⟩ : ∃ W, W1.alloc (.cells #[.bool x2, .bool y2] 79) = W := ⟨_, rfl⟩
  have s2 : W2.heap.size = w.heap.size + 1 + 1 := by rw [← hW2]; simp [s1]
  have b2 : Below W1.heap.size W1 W2 := by rw [← hW2]; exact (Below.refl _ _).alloc (Nat.le_refl _) _
  have q2 : W2.heap[w.heap.size + 1]? = some (.cells #[.bool x2, .bool y2] 79 (0, 0)) := by rw [← hW2, ← s1]; exact heap_alloc_new _ _
  obtain ⟨W3, hW3⟩ : ∃ W, W2.alloc (.cells #[.bool false, .bool false] 79) = W := ⟨_, rfl⟩
  have b3 : Below W2.heap.size W2 W3 := by rw [← hW3]; exact (Below.refl _ _).alloc (Nat.le_refl _) _
  have q3 : W3.heap[w.heap.size + 1 + 1]? = some (.cells #[.bool false, .bool false] 79 (0, 0)) := by rw [← hW3, ← s2]; exact heap_alloc_new _ _
  have q1' : W3.heap[w.heap.size]? = some (.cells #[.bool x, .bool y] 79 (0, 0)) := (b3.block _ (by omega)).trans ((b2.block _ (by omega)).trans q1)
  have q2' : W3.heap[w.heap.size + 1]? = some (.cells #[.bool x2, .bool y2] 79 (0, 0)) := (b3.block _ (by omega)).trans q2
  have x0 : W3.cell? ⟨w.heap.size, 0, none⟩ = some (.bool x) := cell_of_row _ _ 0 _ _ _ q1'
  have x1 : W3.cell? ⟨w.heap.size, 1, none⟩ = some (.bool y) := cell_of_row _ _ 1 _ _ _ q1'
  have y0 : W3.cell? ⟨w.heap.size + 1, 0, none⟩ = some (.bool x2) := cell_of_row _ _ 0 _ _ _ q2'
  have y1 : W3.cell? ⟨w.heap.size + 1, 1, none⟩ = some (.bool y2) := cell_of_row _ _ 1 _ _ _ q2'
  have z0 : W3.cell? ⟨w.heap.size + 1 + 1, 0, none⟩ = some (.bool false) := cell_of_row _ _ 0 _ _ _ q3
  have z1 : W3.cell? ⟨w.heap.size + 1 + 1, 1, none⟩ = some (.bool false) := cell_of_row _ _ 1 _ _ _ q3
  have f0 : W3.frozen? ⟨w.heap.size + 1 + 1, 0, none⟩ = false := frozen_of_row _ _ _ _ _ q3
  have f1 : W3.frozen? ⟨w.heap.size + 1 + 1, 1, none⟩ = false := frozen_of_row _ _ _ _ _ q3
  have B3 := Lib.hid (show Below w.heap.size w W3 from (b1.trans (b2.mono (by omega))).trans (b3.mono (by omega)))
  have Q3 := Lib.hid q3
  have HS := Lib.hid (And.intro s1 s2)
  have HW1 := Lib.hid hW1
  have HW2 := Lib.hid hW2
  have HW3 := Lib.hid hW3
  clear hW1 hW2 hW3 s1 s2 b1 b2 b3 q1 q2 q3 q1' q2'
  go_enter Tryz.func145, Tryz.ntmps145
  go_upto_region 1 with fail
  rw [HW1.out, HW2.out, HW3.out]
  obtain ⟨V, hV⟩ : ∃ V, (W3.setCell ⟨w.heap.size + 1 + 1, 0, none⟩ (.bool (x || x2))).setCell ⟨w.heap.size + 1 + 1, 1, none⟩ (.bool (y || y2)) = V := ⟨_, rfl⟩
  have BV := Lib.hid (show Below w.heap.size w V by rw [← hV]; exact (B3.out.setCell (by show w.heap.size ≤ w.heap.size + 1 + 1; omega) _).setCell (by show w.heap.size ≤ w.heap.size + 1 + 1; omega) _)
  have r0 : V.heap[w.heap.size + 1 + 1]? = some (.cells #[.bool (x || x2), .bool (y || y2)] 79 (0, 0)) := by rw [← hV]; exact row2_set Q3.out _ _
  have v0 : V.cell? ⟨w.heap.size + 1 + 1, 0, none⟩ = some (.bool (x || x2)) := cell_of_row _ _ 0 _ _ _ r0
  have v1 : V.cell? ⟨w.heap.size + 1 + 1, 1, none⟩ = some (.bool (y || y2)) := cell_of_row _ _ 1 _ _ _ r0
  have HV := Lib.hid hV
  clear hV r0
  cases x <;> cases y <;> (
    go_wp2
    first
      | rw [HV.out]
      | (simp only [Bool.true_or, Bool.false_or] at HV ⊢; rw [HV.out])
    refine bodyPost_ret (v := .agg #[.bool _, .bool _]) (by simp [results, Tryz.results145, go_sem, v0, v1]; first | done | rfl) rfl ⟨rfl, BV.out⟩)
end Go.Proofs.YtknppiebncdjmaaGreat
