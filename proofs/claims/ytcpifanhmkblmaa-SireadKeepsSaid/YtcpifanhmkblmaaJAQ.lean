import Derived.Test.YtcpifanhmkblmaaSiRef8
import Derived.Test.YtcpifanhmkblmaaJAN
import Derived.Test.YtcpifanhmkblmaaJAP
/- Layer 9: slices.Equal where both are one; slices.Contains. -/
namespace Go.Proofs.Ytcpifanhmkblmaa
set_option maxRecDepth 100000
set_option maxRecDepth 100000
open Go.RowKit

theorem neqRd (w : World) (x : Rd) : (binOp .neq 31 (rdV x) (rdV x)).run Try.prog w = .ok (.bool false) w := by
  have hs : Try.prog.underlying 31 = some (.struct (Try.prog.fieldsOf 31)) := by kernel_rfl
  have hp : Try.prog.stoodInHeld 31 = false := by kernel_rfl
  have hf : (Try.prog.fieldsOf 31).toList.map (fun f => (f.name == "_", f.type, f.offset)) = [(false, 9, 0), (false, 3, 1), (false, 9, 2), (false, 9, 3)] := by kernel_rfl
  have hu := Try.underlying9
  have hi := Try.underlying3
  unfold rdV
  rw [run_neq_struct, run_equalIn_struct w 9999 _ _ _ hs hp]
  generalize (Try.prog.fieldsOf 31).toList = fs at hf
  obtain ⟨f, fs1, rfl, hf1, hf⟩ := List.map_eq_cons_iff.1 hf
  obtain ⟨g, fs2, rfl, hg1, hf⟩ := List.map_eq_cons_iff.1 hf
  obtain ⟨h, fs3, rfl, hh1, hf⟩ := List.map_eq_cons_iff.1 hf
  obtain ⟨k, fs4, rfl, hk1, hf⟩ := List.map_eq_cons_iff.1 hf
  have : fs4 = [] := by simpa using hf
  subst this
  simp only [Prod.mk.injEq] at hf1 hg1 hh1 hk1
  obtain ⟨f1, f2, f3⟩ := hf1
  obtain ⟨g1, g2, g3⟩ := hg1
  obtain ⟨h1, h2, h3⟩ := hh1
  obtain ⟨k1, k2, k3⟩ := hk1
  have f1' : f.name ≠ "_" := by simpa using f1
  have g1' : g.name ≠ "_" := by simpa using g1
  have h1' : h.name ≠ "_" := by simpa using h1
  have k1' : k.name ≠ "_" := by simpa using k1
  simp only [Op.eqFields, f1', g1', h1', k1', f2, f3, g2, g3, h2, h3, k2, k3, ne_eq, not_false_eq_true, if_true, Sem.run_bind]
  have e1 : (part 9 #[Value.string x.tb, .int .i64 x.kd, Value.string x.lo, Value.string x.hi] 0).run Try.prog w = .ok (.string x.tb) w := by go_simp
  have e2 : (part 3 #[Value.string x.tb, .int .i64 x.kd, Value.string x.lo, Value.string x.hi] 1).run Try.prog w = .ok (.int .i64 x.kd) w := by go_simp
  have e3 : (part 9 #[Value.string x.tb, .int .i64 x.kd, Value.string x.lo, Value.string x.hi] 2).run Try.prog w = .ok (.string x.lo) w := by go_simp
  have e4 : (part 9 #[Value.string x.tb, .int .i64 x.kd, Value.string x.lo, Value.string x.hi] 3).run Try.prog w = .ok (.string x.hi) w := by go_simp
  simp [e1, e2, e3, e4, Result.andThen_ok, run_equalIn_string w 9998 _ _ _ hu, run_equalIn_int w 9998 _ _ _ _ _ hi]

set_option maxHeartbeats 2000000 in
theorem weqN {w : World} {A B : Option Addr} {c1 c2 : Nat} {l : List Int} (h1 : SB w A l.length (numC l)) (h2 : SB w B l.length (numC l)) (hn : l.length ≤ 10000000) :
    Calls Try.prog 31 #[.slice A l.length c1, .slice B l.length c2] w fun e w' => e = .returned (.bool true) ∧ Below w.heap.size w w' := by
  have H1 := Lib.hid h1
  have H2 := Lib.hid h2
  have HN := Lib.hid hn
  clear h1 h2 hn
  go_enter Try.func31, Try.ntmps31
  go_wp2
  go_loopw [13] (fun i' wr => ∃ j : Nat, i' = .int .i64 (j : Nat) ∧ j ≤ l.length ∧ Below w.heap.size w wr) (fun i' _ => l.length - (intOf i').toNat)
  case atStart => exact ⟨0, rfl, Nat.zero_le _, Below.refl _ _⟩
  case round =>
    rename World => wr
    obtain ⟨j, rfl, hj, hb⟩ := hrel
    by_cases hlt : j < l.length
    · obtain ⟨x, hx⟩ : ∃ x, l[j]? = some x := ⟨_, List.getElem?_eq_getElem hlt⟩
      obtain ⟨g, o, rfl, x0⟩ := (H1.out.gw hb).at_ (numC_at hx)
      obtain ⟨g2, o2, rfl, y0⟩ := (H2.out.gw hb).at_ (numC_at hx)
      have i1 : (j : Int) < (l.length : Int) := by omega
      have l1 : (j : Int) ≤ 10000000 := by have := HN.out; omega
      have HLT := Lib.hid hlt
      have HB := Lib.hid hb
      clear hj hlt hx hb
      go_upto_region 6 with fail
      go_region
      go_wp2
      go_roundw
      case rel => exact ⟨j + 1, by go_num, HLT.out, HB.out.drew⟩
      case measure => have := HLT.out; simp [intOf]; omega
    · have hje : j = l.length := by omega
      subst hje
      have i1 : ¬ (l.length : Int) < (l.length : Int) := by omega
      have HB := Lib.hid hb
      clear hj hlt hb
      go_wp2
      go_ret
      exact ⟨rfl, HB.out⟩

set_option maxHeartbeats 2000000 in
theorem weqR {w : World} {A B : Option Addr} {c1 c2 : Nat} {l : List Rd} (h1 : SB w A (4 * l.length) (cellsR l)) (h2 : SB w B (4 * l.length) (cellsR l)) (hn : l.length ≤ 10000000) :
    Calls Try.prog 42 #[.slice A l.length c1, .slice B l.length c2] w fun e w' => e = .returned (.bool true) ∧ Below w.heap.size w w' := by
  have H1 := Lib.hid h1
  have H2 := Lib.hid h2
  have HN := Lib.hid hn
  have qE := fun W x => neqRd W x
  unfold rdV at qE
  clear h1 h2 hn
  go_enter Try.func42, Try.ntmps42
  go_wp2
  go_loopw [13] (fun i' wr => ∃ j : Nat, i' = .int .i64 (j : Nat) ∧ j ≤ l.length ∧ Below w.heap.size w wr) (fun i' _ => l.length - (intOf i').toNat)
  case atStart => exact ⟨0, rfl, Nat.zero_le _, Below.refl _ _⟩
  case round =>
    rename World => wr
    obtain ⟨j, rfl, hj, hb⟩ := hrel
    by_cases hlt : j < l.length
    · obtain ⟨x, hx⟩ : ∃ x, l[j]? = some x := ⟨_, List.getElem?_eq_getElem hlt⟩
      obtain ⟨g, o, rfl, x0, x1, x2, x3⟩ := (H1.out.gw hb).rd hx
      obtain ⟨g2, o2, rfl, y0, y1, y2, y3⟩ := (H2.out.gw hb).rd hx
      have i1 : (j : Int) < (l.length : Int) := by omega
      have l1 : (j : Int) ≤ 10000000 := by have := HN.out; omega
      have HLT := Lib.hid hlt
      have HB := Lib.hid hb
      clear hj hlt hx hb
      go_upto_region 6 with fail
      go_region
      go_wp2
      go_roundw
      case rel => exact ⟨j + 1, by go_num, HLT.out, HB.out.drew⟩
      case measure => have := HLT.out; simp [intOf]; omega
    · have hje : j = l.length := by omega
      subst hje
      have i1 : ¬ (l.length : Int) < (l.length : Int) := by omega
      have HB := Lib.hid hb
      clear hj hlt hb
      go_wp2
      go_ret
      exact ⟨rfl, HB.out⟩

set_option maxHeartbeats 2000000 in
theorem windexN {w : World} {A : Option Addr} {c1 : Nat} {l : List Int} (h1 : SB w A l.length (numC l)) (hn : l.length ≤ 10000000) (y : Int) :
    Calls Try.prog 50 #[.slice A l.length c1, .int .i64 y] w fun e w' => (∃ k : Int, e = .returned (.int .i64 k) ∧ (y ∈ l ∧ 0 ≤ k ∨ y ∉ l ∧ k = -1)) ∧ Below w.heap.size w w' := by
  have H1 := Lib.hid h1
  have HN := Lib.hid hn
  clear h1 hn
  go_enter Try.func50, Try.ntmps50
  go_wp2
  go_loopw [8] (fun i' wr => ∃ j : Nat, i' = .int .i64 (j : Nat) ∧ j ≤ l.length ∧ y ∉ l.take j ∧ Below w.heap.size w wr) (fun i' _ => l.length - (intOf i').toNat)
  case atStart => exact ⟨0, rfl, Nat.zero_le _, by simp, Below.refl _ _⟩
  case round =>
    rename World => wr
    obtain ⟨j, rfl, hj, hno, hb⟩ := hrel
    by_cases hlt : j < l.length
    · obtain ⟨x, hx⟩ : ∃ x, l[j]? = some x := ⟨_, List.getElem?_eq_getElem hlt⟩
      obtain ⟨g, o, rfl, x0⟩ := (H1.out.gw hb).at_ (numC_at hx)
      have i1 : (j : Int) < (l.length : Int) := by omega
      have l1 : (j : Int) ≤ 10000000 := by have := HN.out; omega
      have HB := Lib.hid hb
      by_cases he : y = x
      · subst he
        have HM := Lib.hid (show y ∈ l from List.mem_of_getElem? hx)
        clear hj hlt hx hb hno
        go_wp2
        go_ret
        exact ⟨⟨_, rfl, .inl ⟨HM.out, by omega⟩⟩, HB.out⟩
      · have he' : (y == x) = false := by simpa using he
        have HNO := Lib.hid (show y ∉ l.take (j + 1) by
          rw [List.take_add_one, hx, Option.toList_some]
          simp only [List.mem_append, List.mem_singleton]
          intro h
          rcases h with h | h
          · exact hno h
          · exact he h)
        have HLT := Lib.hid hlt
        clear hj hlt hx hb hno
        go_wp2
        go_roundw
        case rel => exact ⟨j + 1, by go_num, HLT.out, HNO.out, HB.out⟩
        case measure => have := HLT.out; simp [intOf]; omega
    · have hje : j = l.length := by omega
      subst hje
      have i1 : ¬ (l.length : Int) < (l.length : Int) := by omega
      have HB := Lib.hid hb
      have HNO := Lib.hid (show y ∉ l by rwa [List.take_length] at hno)
      clear hj hlt hb hno
      go_wp2
      go_ret
      exact ⟨⟨_, rfl, .inr ⟨HNO.out, rfl⟩⟩, HB.out⟩

set_option maxHeartbeats 2000000 in
theorem wcontainsN {w : World} {A : Option Addr} {c1 : Nat} {l : List Int} (h1 : SB w A l.length (numC l)) (hn : l.length ≤ 10000000) (y : Int) :
    Calls Try.prog 25 #[.slice A l.length c1, .int .i64 y] w fun e w' => e = .returned (.bool (decide (y ∈ l))) ∧ Below w.heap.size w w' := by
  have C := Lib.hid (windexN (c1 := c1) h1 hn y)
  clear h1 hn
  go_enter Try.func25, Try.ntmps25
  by_cases hy : y ∈ l
  · have HY := Lib.hid (show decide (y ∈ l) = true by simpa using hy)
    go_wp2_with (go_at_call 50; go_loud (refine C.out.mono ?_; rintro e w1 ⟨⟨k, rfl, hk⟩, b1⟩; have HB := Lib.hid b1; clear b1; replace hk : 0 ≤ k := (by rcases hk with h | h; exact h.2; exact absurd hy h.1)))
    go_ret
    exact ⟨by rw [HY.out] <;> rfl, HB.out⟩
  · have HY := Lib.hid (show decide (y ∈ l) = false by simpa using hy)
    go_wp2_with (go_at_call 50; go_loud (refine C.out.mono ?_; rintro e w1 ⟨⟨k, rfl, hk⟩, b1⟩; have HB := Lib.hid b1; clear b1; obtain rfl : k = -1 := (by rcases hk with h | h; exact absurd h.1 hy; exact h.2)))
    go_ret
    exact ⟨by rw [HY.out] <;> rfl, HB.out⟩
end Go.Proofs.Ytcpifanhmkblmaa

/- Layer 9: what the program's calls promise, however its notes lie; the program's notes and the reference's beside each other. -/
namespace Go.Proofs.Ytcpifanhmkblmaa
set_option maxRecDepth 100000
set_option maxRecDepth 100000
open Go.RowKit

/-- Of a note that came in. -/
structure RdS (x : Rd) : Prop where
  lo : x.lo.size ≤ 140737488351232
  tb : x.tb.size ≤ 140737488351232
/-- Of the notes L in block r, within the blocks G: what each call does. -/
structure Api9 (M : World → (Nat → Prop) → Nat → Nat → List Nt → Prop) : Prop where
  stays : ∀ {w w' : World} {G : Nat → Prop} {r most : Nat} {L : List Nt}, M w G r most L → Out (fun k => ¬ G k) w w' → M w' G r most L
  lt : ∀ {w : World} {G : Nat → Prop} {r most : Nat} {L : List Nt}, M w G r most L → ∀ k, G k → k < w.heap.size
  inv : ∀ {w : World} {G : Nat → Prop} {r most : Nat} {L : List Nt}, M w G r most L → Inv9 most L ∧ SzL L ∧ 1 ≤ most ∧ most ≤ 65536
  new : ∀ (w : World) (m : Nat), 1 ≤ m → m ≤ 65536 → Calls Try.prog 20 #[.int .i64 (m : Int)] w fun e w' => ∃ r G, e = .returned (.tuple #[.pointer (some ⟨r, 0, none⟩), .int .i64 0]) ∧ M w' G r m [] ∧ (∀ k, G k → w.heap.size ≤ k) ∧ Below w.heap.size w w'
  bad : ∀ (w : World) (m : Int), capP m = false → Calls Try.prog 20 #[.int .i64 m] w fun e w' => e = .returned (.tuple #[.pointer none, .int .i64 1]) ∧ Below w.heap.size w w'
  note : ∀ {w : World} {G : Nat → Prop} {r most : Nat} {L : List Nt}, M w G r most L → ∀ (t : Int) (x : Rd), (Lit.int .i64 t).wf = true → RdS x →
    Calls Try.prog 12 #[.pointer (some ⟨r, 0, none⟩), .int .i64 t, rdV x] w fun e w' => e = .returned (.int .i64 (noteP most L t x).1) ∧ ∃ G', M w' G' r most (noteP most L t x).2 ∧ (∀ k, G' k → G k ∨ w.heap.size ≤ k) ∧ Out G w w'
  drop : ∀ {w : World} {G : Nat → Prop} {r most : Nat} {L : List Nt}, M w G r most L → ∀ (t : Int), (Lit.int .i64 t).wf = true →
    Calls Try.prog 14 #[.pointer (some ⟨r, 0, none⟩), .int .i64 t] w fun e w' => e = .returned (.int .i64 (if t < 1 then 1 else 0)) ∧ ∃ G', M w' G' r most (if t < 1 then L else dropP L t) ∧ (∀ k, G' k → G k ∨ w.heap.size ≤ k) ∧ Out G w w'
  readers : ∀ {w : World} {G : Nat → Prop} {r most : Nat} {L : List Nt}, M w G r most L → ∀ (t k : ByteArray), t.size ≤ 140737488351232 → k.size ≤ 140737488351232 →
    Calls Try.prog 21 #[.pointer (some ⟨r, 0, none⟩), .string t, .string k] w fun e w' => ∃ v, e = .returned v ∧ SO seN w.heap.size w' v (txP L fun n => hasP n.2 t k).length (numC (txP L fun n => hasP n.2 t k)) ∧ Below w.heap.size w w'
  txns : ∀ {w : World} {G : Nat → Prop} {r most : Nat} {L : List Nt}, M w G r most L →
    Calls Try.prog 26 #[.pointer (some ⟨r, 0, none⟩)] w fun e w' => ∃ v, e = .returned v ∧ SO seN w.heap.size w' v (txP L fun _ => true).length (numC (txP L fun _ => true)) ∧ Below w.heap.size w w'
  of : ∀ {w : World} {G : Nat → Prop} {r most : Nat} {L : List Nt}, M w G r most L → ∀ (t : Int), (Lit.int .i64 t).wf = true →
    Calls Try.prog 27 #[.pointer (some ⟨r, 0, none⟩), .int .i64 t] w fun e w' => ∃ v, e = .returned v ∧ SO seR w.heap.size w' v (ofP L t).length (cellsR (ofP L t)) ∧ Below w.heap.size w w'
  len : ∀ {w : World} {G : Nat → Prop} {r most : Nat} {L : List Nt}, M w G r most L →
    Calls Try.prog 23 #[.pointer (some ⟨r, 0, none⟩)] w fun e w' => e = .returned (.int .i64 (L.length : Nat)) ∧ Below w.heap.size w w'
  covers : ∀ (w : World) (a b : Rd), a.lo.size ≤ 140737488351232 → b.lo.size ≤ 140737488351232 → Calls Try.prog 18 #[rdV a, rdV b] w fun e w' => e = .returned (.bool (coversP a b)) ∧ Below w.heap.size w w'
section
variable {M : World → (Nat → Prop) → Nat → Nat → List Nt → Prop}
theorem Api9.below (I : Api9 M) {w w' : World} {G : Nat → Prop} {r most : Nat} {L : List Nt} (h : M w G r most L) (g : Below w.heap.size w w') : M w' G r most L := I.stays h (Out.of_below g _)

theorem RN.out {F G : Nat → Prop} {w w' : World} {b most : Nat} {L : List Nt} (h : RN F w b most L) (o : Out G w w') (hb : ¬ G b) (hF : ∀ k, F k → ¬ G k) : RN F w' b most L := by
  obtain ⟨A, c, h1, h2, h3, h4, h5⟩ := h.ex
  refine ⟨A, c, (o.block b (Array.getElem?_eq_some_iff.1 h1).1 hb).trans h1, ⟨h2.len, h2.one, fun h0 => ?_⟩, h3, h4, fun ad e => ⟨(h5 ad e).1, (h5 ad e).2.1, Nat.lt_of_lt_of_le (h5 ad e).2.2 o.size⟩⟩
  obtain ⟨g, q, e, hc⟩ := h2.cell h0
  exact ⟨g, q, e, fun j u hj => o.cell (hc j u hj) (hF _ (h5 _ e).2.1)⟩
theorem RN.mono {F F' : Nat → Prop} {w : World} {b most : Nat} {L : List Nt} (h : RN F w b most L) (hF : ∀ k, k < w.heap.size → F k → F' k) : RN F' w b most L := by
  obtain ⟨A, c, h1, h2, h3, h4, h5⟩ := h.ex
  exact ⟨A, c, h1, h2, h3, h4, fun ad e => ⟨(h5 ad e).1, hF _ (h5 ad e).2.2 (h5 ad e).2.1, (h5 ad e).2.2⟩⟩
theorem shrink_sz {most : Nat} : ∀ (f : Nat) (L M : List Nt), SzL L → shrinkP most f L = some M → SzL M
  | 0, L, M, h, e => by
    unfold shrinkP at e
    by_cases h1 : L.length ≤ most
    · rw [if_pos h1] at e; cases e; exact h
    · rw [if_neg h1] at e; cases e
  | f + 1, L, M, h, e => by
    unfold shrinkP at e
    by_cases h1 : L.length ≤ most
    · rw [if_pos h1] at e; cases e; exact h
    · rw [if_neg h1] at e
      cases h2 : coarsestP L with
      | none => rw [h2] at e; cases e
      | some p =>
        rw [h2] at e
        refine shrink_sz f _ M (fun n hn => ?_) e
        unfold coarseP at hn
        rcases List.mem_append.1 hn with hn | hn
        · exact h n (List.mem_filter.1 hn).1
        · rw [List.mem_singleton.1 hn]; exact Nat.zero_le _
theorem note_sz {most : Nat} {L : List Nt} (h : SzL L) (t : Int) {x : Rd} (hx : x.lo.size ≤ 140737488355328) : SzL (noteP most L t x).2 := by
  unfold noteP
  by_cases h1 : t < 1 ∨ mayP x = false
  · rw [if_pos h1]; exact h
  · rw [if_neg h1]
    cases h2 : L.any fun n => decide (n.1 = t) && coversP n.2 x with
    | true => rw [if_pos rfl]; exact h
    | false =>
      rw [if_neg (by simp)]
      cases h3 : shrinkP most (L.length + 1) (addP L t x) with
      | none => exact h
      | some M =>
        refine shrink_sz _ _ M (fun n hn => ?_) h3
        unfold addP at hn
        rcases List.mem_append.1 hn with hn | hn
        · exact h n (List.mem_filter.1 hn).1
        · rw [List.mem_singleton.1 hn]; exact hx
/-- What one side's notes keep. -/
structure Kp (most : Nat) (K : List Nt) : Prop where
  inv : Inv9 most K
  sz : SzL K
  m1 : 1 ≤ most
  m2 : most ≤ 65536
theorem Kp.len {most : Nat} {K : List Nt} (h : Kp most K) : K.length ≤ 65536 := Nat.le_trans h.inv.cap h.m2
theorem Kp.note {most : Nat} {K : List Nt} (h : Kp most K) (t : Int) {x : Rd} (hx : x.lo.size ≤ 140737488351232) : Kp most (noteP most K t x).2 := ⟨(note_keeps h.inv t x).1, note_sz h.sz t (by omega), h.m1, h.m2⟩
theorem Kp.drop {most : Nat} {K : List Nt} (h : Kp most K) (t : Int) : Kp most (if t < 1 then K else dropP K t) := by
  by_cases ht : t < 1
  · rw [if_pos ht]; exact h
  · rw [if_neg ht]; exact ⟨drop_keeps h.inv t, fun n hn => h.sz n (List.mem_filter.1 hn).1, h.m1, h.m2⟩
/-- The program's notes L in blocks G and the reference's K, apart from each other, behind the law's arguments. -/
structure Two9 (M : World → (Nat → Prop) → Nat → Nat → List Nt → Prop) (w0 w : World) (G : Nat → Prop) (r b most : Nat) (L K : List Nt) : Prop where
  m : M w G r most L
  n : RN (fun k => ¬ G k ∧ w0.heap.size ≤ k) w b most K
  k : Kp most K
  gl : ∀ k, G k → w0.heap.size ≤ k
  gb : ¬ G b
  bel : Below w0.heap.size w0 w
  bl : w0.heap.size ≤ b
theorem Two9.below (I : Api9 M) {w0 w w' : World} {G : Nat → Prop} {r b most : Nat} {L K : List Nt} (h : Two9 M w0 w G r b most L K) (g : Below w.heap.size w w') : Two9 M w0 w' G r b most L K :=
  ⟨I.below h.m g, h.n.gw g, h.k, h.gl, h.gb, below_next h.bel g, h.bl⟩
/-- The program's notes turn. -/
theorem Two9.prog {w0 w w' : World} {G G' : Nat → Prop} {r b most : Nat} {L L' K : List Nt} (h : Two9 M w0 w G r b most L K) (m : M w' G' r most L') (hG : ∀ k, G' k → G k ∨ w.heap.size ≤ k) (o : Out G w w') : Two9 M w0 w' G' r b most L' K := by
  have hblt := h.n.lt
  have hs := h.bel.size
  refine ⟨m, (RN.out (F := fun k => (¬ G k ∧ w0.heap.size ≤ k) ∧ k < w.heap.size) ?_ o h.gb (fun k hk => hk.1.1)).mono fun k _ hk => ⟨fun hg => ?_, hk.1.2⟩, h.k, fun k hk => ?_, fun hg => ?_, h.bel.trans (o.below hs fun i hi hg => by have := h.gl i hg; omega), h.bl⟩
  · exact h.n.mono fun k hk hf => ⟨hf, hk⟩
  · rcases hG k hg with h | h
    · exact hk.1.1 h
    · have := hk.2; omega
  · rcases hG k hk with h1 | h1
    · exact h.gl k h1
    · omega
  · rcases hG b hg with h1 | h1
    · exact h.gb h1
    · omega
/-- The reference's notes turn. -/
theorem Two9.ref (I : Api9 M) {w0 w w' : World} {G : Nat → Prop} {r b most : Nat} {L K K' : List Nt} (h : Two9 M w0 w G r b most L K) (n : RN (fun k => ¬ G k ∧ w0.heap.size ≤ k) w' b most K') (k : Kp most K') (o : Out (fun k => k = b) w w') : Two9 M w0 w' G r b most L K' :=
  ⟨I.stays h.m (o.mono fun i _ e => by subst e; exact h.gb), n, k, h.gl, h.gb, h.bel.trans (o.below h.bel.size fun i hi e => by have := h.bl; omega), h.bl⟩
theorem Two9.note (I : Api9 M) {w0 w : World} {G : Nat → Prop} {r b most : Nat} {L K : List Nt} (h : Two9 M w0 w G r b most L K) (t : Int) (ht : (Lit.int .i64 t).wf = true) (x : Rd) (hx : RdS x) :
    Calls Try.prog 12 #[.pointer (some ⟨r, 0, none⟩), .int .i64 t, rdV x] w fun e w' => e = .returned (.int .i64 (noteP most L t x).1) ∧ ∃ G', Two9 M w0 w' G' r b most (noteP most L t x).2 K ∧ (∀ k, G' k → G k ∨ w.heap.size ≤ k) ∧ Out G w w' :=
  (I.note h.m t x ht hx).mono fun _ _ ⟨e, G', m, hG, o⟩ => ⟨e, G', h.prog m hG o, hG, o⟩
theorem Two9.drop (I : Api9 M) {w0 w : World} {G : Nat → Prop} {r b most : Nat} {L K : List Nt} (h : Two9 M w0 w G r b most L K) (t : Int) (ht : (Lit.int .i64 t).wf = true) :
    Calls Try.prog 14 #[.pointer (some ⟨r, 0, none⟩), .int .i64 t] w fun e w' => e = .returned (.int .i64 (if t < 1 then 1 else 0)) ∧ ∃ G', Two9 M w0 w' G' r b most (if t < 1 then L else dropP L t) K ∧ (∀ k, G' k → G k ∨ w.heap.size ≤ k) ∧ Out G w w' :=
  (I.drop h.m t ht).mono fun _ _ ⟨e, G', m, hG, o⟩ => ⟨e, G', h.prog m hG o, hG, o⟩
theorem Two9.rnote (I : Api9 M) {w0 w : World} {G : Nat → Prop} {r b most : Nat} {L K : List Nt} (h : Two9 M w0 w G r b most L K) (t : Int) (x : Rd) (hx : x.lo.size ≤ 140737488351232) :
    Calls Try.prog 13 #[.pointer (some ⟨b, 0, none⟩), .int .i64 t, rdV x] w fun e w' => e = .returned (.int .i64 (noteP most K t x).1) ∧ Two9 M w0 w' G r b most L (noteP most K t x).2 ∧ Out (fun k => k = b) w w' :=
  (wrNote h.n (by have := h.k.len; omega) (by have := h.k.m2; omega) h.k.sz (fun k hk => ⟨fun hg => by have := I.lt h.m k hg; omega, Nat.le_trans h.bel.size hk⟩) t x (by omega)).mono fun _ _ ⟨e, n, o⟩ => ⟨e, h.ref I n (h.k.note t hx) o, o⟩
theorem Two9.rdrop (I : Api9 M) {w0 w : World} {G : Nat → Prop} {r b most : Nat} {L K : List Nt} (h : Two9 M w0 w G r b most L K) (t : Int) :
    Calls Try.prog 15 #[.pointer (some ⟨b, 0, none⟩), .int .i64 t] w fun e w' => e = .returned (.int .i64 (if t < 1 then 1 else 0)) ∧ Two9 M w0 w' G r b most L (if t < 1 then K else dropP K t) ∧ Out (fun k => k = b) w w' :=
  (wrDrop h.n (by have := h.k.len; omega) (fun k hk => ⟨fun hg => by have := I.lt h.m k hg; omega, Nat.le_trans h.bel.size hk⟩) t).mono fun _ _ ⟨e, n, o⟩ => ⟨e, h.ref I n (h.k.drop t) o, o⟩
end
end Go.Proofs.Ytcpifanhmkblmaa
