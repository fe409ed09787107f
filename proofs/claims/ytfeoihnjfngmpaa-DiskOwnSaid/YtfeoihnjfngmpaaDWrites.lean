/- The laws' own helper writes. -/
import Derived.Test.YtfeoihnjfngmpaaDAlike
namespace Go.Proofs.Ytfeoihnjfngmpaa
open Go.RowKit

/-- Is it a write that may be? -/
def OpD.ok (o : OpD) (blocks : Nat) : Prop := o.do_ = 0 ∧ 0 ≤ o.n ∧ o.n < (blocks : Int) ∧ o.n1 = 64
instance (o : OpD) (b : Nat) : Decidable (o.ok b) := by unfold OpD.ok; infer_instance
/-- What the script's writes make of the pending ones, and of each block's last bytes. -/
def wrPend : List Wr → Nat → List OpD → List Wr
  | l, _, [] => l
  | l, b, o :: r => wrPend (if o.ok b then l ++ [⟨o.n.toNat, o.z1⟩] else l) b r
def wrLast : List (Option (List Int)) → Nat → List OpD → List (Option (List Int))
  | l, _, [] => l
  | l, b, o :: r => wrLast (if o.ok b then l.set o.n.toNat (some o.z1) else l) b r
theorem wrPend_snoc (b : Nat) (o : OpD) : ∀ (r : List OpD) (l : List Wr), wrPend l b (r ++ [o]) = if o.ok b then wrPend l b r ++ [⟨o.n.toNat, o.z1⟩] else wrPend l b r
  | [], l => by simp [wrPend]
  | x :: r, l => by rw [List.cons_append, wrPend, wrPend_snoc b o r]; rfl
theorem wrLast_snoc (b : Nat) (o : OpD) : ∀ (r : List OpD) (l : List (Option (List Int))), wrLast l b (r ++ [o]) = if o.ok b then (wrLast l b r).set o.n.toNat (some o.z1) else wrLast l b r
  | [], l => by simp [wrLast]
  | x :: r, l => by rw [List.cons_append, wrLast, wrLast_snoc b o r]; rfl
theorem wrPend_len (b : Nat) : ∀ (r : List OpD) (l : List Wr), (wrPend l b r).length ≤ l.length + r.length
  | [], l => by simp [wrPend]
  | x :: r, l => by
    have := wrPend_len b r (if x.ok b then l ++ [⟨x.n.toNat, x.z1⟩] else l)
    rw [wrPend]
    split at this <;> simp at this ⊢ <;> simp [*] at * <;> omega
theorem wrLast_len (b : Nat) : ∀ (r : List OpD) (l : List (Option (List Int))), (wrLast l b r).length = l.length
  | [], l => rfl
  | x :: r, l => by rw [wrLast, wrLast_len b r]; split <;> simp

/-- One of a row of slices: nil, or 64 bytes outside F. -/
def LV (F : Nat → Prop) (w : World) (v : Value) : Option (List Int) → Prop
  | none => v = .slice none 0 0
  | some zs => ∃ g cap, v = .slice (some ⟨g, 0, none⟩) 64 cap ∧ RB w (some ⟨g, 0, none⟩) 64 zs ∧ ¬ F g
/-- A row of slices at block g. -/
structure LRow (F : Nat → Prop) (w : World) (g n : Nat) (ls : List (Option (List Int))) (vs : List Value) : Prop where
  own : w.ownsRow 0 34 1 (.slice (some ⟨g, 0, none⟩) n n) n vs
  len : ls.length = n
  out : ¬ F g
  at_ : ∀ (i : Nat) o v, ls[i]? = some o → vs[i]? = some v → LV F w v o
theorem LRow.step {F F' : Nat → Prop} {w w' : World} {g n : Nat} {ls : List (Option (List Int))} {vs : List Value} (h : LRow F w g n ls vs) (ho : Out F w w') (hF : ∀ j, F' j → F j ∨ w.heap.size ≤ j) : LRow F' w' g n ls vs := by
  have hgl := (h.own.lt g rfl).2
  refine ⟨own_stays h.own fun k e => by
    have ek : g = k := by simpa [Value.ownBlock] using e
    subst ek
    exact ho.block g hgl h.out, h.len, fun hf => ?_, fun i o v hi hv => ?_⟩
  · rcases hF g hf with h1 | h1
    · exact h.out h1
    · omega
  · have := h.at_ i o v hi hv
    cases o with
    | none => exact this
    | some zs =>
      obtain ⟨g', cap, e, h3, h4⟩ := this
      have hl := (rb_spot h3 (by omega)).2
      refine ⟨g', cap, e, ho.rb h3 (fun ad ea _ => by cases ea; exact h4), fun hf => ?_⟩
      rcases hF g' hf with h5 | h5
      · exact h4 h5
      · exact absurd hl (by simp; omega)
theorem LRow.set {F : Nat → Prop} {w : World} {g n : Nat} {ls : List (Option (List Int))} {vs : List Value} (h : LRow F w g n ls vs) (i : Nat) (v : Value) (o : Option (List Int)) (hv : LV F w v o) (hne : ∀ k, v.ownBlock = some k → k ≠ g) (hold : ∀ (j : Nat) (u : Value) k, vs[j]? = some u → u.ownBlock = some k → k ≠ g) :
    LRow F (w.setCell ⟨g, i, none⟩ v) g n (ls.set i o) (vs.set i v) := by
  refine ⟨(h.own.stored i v).1, by simp [h.len], h.out, fun j o' v' hj hv' => ?_⟩
  have keep : ∀ (u : Value) (q : Option (List Int)), LV F w u q → (∀ k, u.ownBlock = some k → k ≠ g) → LV F (w.setCell ⟨g, i, none⟩ v) u q := fun u q hu hn => by
    cases q with
    | none => exact hu
    | some zs =>
      obtain ⟨g', cap, e, h3, h4⟩ := hu
      refine ⟨g', cap, e, ⟨h3.len, h3.byte, fun hp => ?_⟩, h4⟩
      obtain ⟨ad, ea, hc⟩ := h3.cell hp
      cases ea
      refine ⟨_, rfl, fun k hk => ?_⟩
      rw [World.cell?_setCell_far _ _ _ _ (by rw [block_add]; exact (hn g' (by rw [e]; rfl)).symm)]
      exact hc k hk
  rw [List.getElem?_set] at hj hv'
  by_cases e : i = j
  · rw [if_pos e] at hj hv'
    split at hj
    · split at hv'
      · cases hj; cases hv'; exact keep _ _ hv hne
      · cases hv'
    · cases hj
  · rw [if_neg e] at hj hv'
    exact keep _ _ (h.at_ j o' v' hj hv') (fun k => hold j v' k hv')

theorem writeS_ok {S : St} {n : Int} {zs : List Int} (ho : S.off = false) (hp : S.plan = -1) (h1 : 0 ≤ n ∧ n < (S.last.length : Int)) (hl : zs.length = 64) : writeS S n zs = { S with pend := S.pend ++ [⟨n.toNat, zs⟩], writes := wrap64 (S.writes + 1) } ∧ writeE S n zs.length = 0 := by
  unfold writeS writeE spendS spendE
  simp [ho, hp, h1, hl]

/-- append of bytes onto nil, at a step of a region that draws its order. -/
theorem nil_append_step {w : World} {ops : Array Oper} {o : Oper} {a : Act} {K : Act → World → Prop} {Q : Exit → Act → World → Prop} {E : Prop} (hgd : o.guard = none) (s x : Operand)
    (ho : o.op = .call { callee := .builtin .append, args := #[s, x], argTypes := #[34, 34] })
    (hs : a.eval s = .slice none 0 0) (A : Option Addr) (m c : Nat) (ys : List Int) (hx : a.eval x = .slice A m c) (hr : RB w A m ys) (hm : 0 < m) (hsz : m ≤ 140737488355328)
    (h : ∀ cap w', OB w.heap.size w' (.slice (some ⟨w.heap.size, 0, none⟩) m cap) ys → Below w.heap.size w w' → K (a.put o.dst (.slice (some ⟨w.heap.size, 0, none⟩) m cap)) w') :
    if Region.wanted o (yielded ops a.tmps) = true then Oper.wp Try.prog o a w K Q else E := by
  obtain ⟨i0, hi, hz0, hz1, hz2⟩ := info_parts info_u8
  have hlen := hr.len
  obtain ⟨ad, rfl, -⟩ := hr.cell hm
  refine step_append_far w hgd s x 34 ho w.heap.size 5 i0 (.int .u8 0) 1 1 Try.underlying34 hi hz0 hz1 hz2 rfl (by decide) (.slice none 0 0) 0 [] hs (World.ownsRow_nil _ _ _ _) ad m c (ys.map (Value.int .u8)) hx (by simpa using hlen) ?_ (bytes_oneCell ys) hm (by simp only [maxLen]; omega) (by omega) (Nat.le_refl _) ?_
  · intro j u hu
    have hj : j < ys.length := by
      rcases Nat.lt_or_ge j ys.length with h1 | h1
      · exact h1
      · rw [List.getElem?_eq_none (by simpa using h1)] at hu; cases hu
    obtain ⟨ad', e, hc⟩ := hr.at_ (k := j) (by omega)
    injection e with e
    subst e
    rw [hc]
    simpa [List.getD_eq_getElem?_getD, List.getElem?_eq_getElem hj] using hu
  · intro g cap w' h1 h2 h3
    have hg : g = w.heap.size := by rcases h3 with h3 | h3; cases h3; exact h3
    subst hg
    rw [Nat.zero_add, List.nil_append] at h1
    rw [Nat.zero_add]
    · refine h cap w' ⟨by rw [hlen]; exact h1, hr.byte⟩ ⟨h2.os, h2.tape, h2.output, h2.size, fun k hk => h2.block k hk (by simp [Value.ownBlock])⟩

/-- What writes leaves. -/
def WritesIs (F : Nat → Prop) (w : World) (d : Nat) (S : St) (os : List OpD) (e : Ending) (w' : World) : Prop :=
  ∃ F' g vs c, e = .returned (.tuple #[.slice (some ⟨g, 0, none⟩) S.last.length S.last.length, .bool true]) ∧ PD F' w' d { S with pend := wrPend S.pend S.last.length os, writes := c } ∧ (∀ j, F' j → (F j ∨ w.heap.size ≤ j) ∧ j < w'.heap.size) ∧ Out F w w' ∧
    w.heap.size ≤ g ∧ LRow F' w' g S.last.length (wrLast (List.replicate S.last.length none) S.last.length os) vs

theorem infoSl : (Try.prog.info? 34).map (fun i => (i.zero, i.size, i.bytes)) = some (some (.slice none 0 0), 1, 24) := by kernel_rfl
theorem run_makeSl (w : World) (n : Nat) (h : n ≤ 16384) : (Instr.makeSlice 27 (.int .i64 (n : Int)) (.int .i64 (n : Int))).run Try.prog w = .ok (.slice (some ⟨w.heap.size, 0, none⟩) n n) (w.alloc (.cells (Array.replicate n (Value.slice none 0 0)) 34)) := by
  obtain ⟨i0, hi, hz0, hz1, hz2⟩ := info_parts infoSl
  have h1 := run_make (P := Try.prog) w 27 34 i0 (.slice none 0 0) Try.underlying27 hi hz0 .i64 .i64 n n (by omega) (by omega) (by rw [hz2]; omega) (by omega)
  rw [hz1, Nat.mul_one] at h1
  simp only [Int.toNat_natCast] at h1
  rw [h1]
  congr 3
  apply Array.ext'
  exact (toList_madeCells_one _ _).trans (by simp)

/-- Between two operations. -/
structure WMid (F : Nat → Prop) (w wr : World) (d : Nat) (S : St) (os : List OpD) (k : Nat) (F' : Nat → Prop) (g : Nat) (vs : List Value) (c : Int) : Prop where
  pd : PD F' wr d { S with pend := wrPend S.pend S.last.length (os.take k), writes := c }
  fs : ∀ j, F' j → (F j ∨ w.heap.size ≤ j) ∧ j < wr.heap.size
  out : Out F w wr
  gw : w.heap.size ≤ g
  row : LRow F' wr g S.last.length (wrLast (List.replicate S.last.length none) S.last.length (os.take k)) vs
  own : ∀ (j : Nat) (u : Value) i, vs[j]? = some u → u.ownBlock = some i → i ≠ g

theorem WMid.next {F F' : Nat → Prop} {w wr W1 w4 w5 : World} {d g k p cap5 : Nat} {S : St} {os : List OpD} {vs : List Value} {c c' : Int} {z1 : List Int} (h : WMid F w wr d S os k F' g vs c) (hb1 : Below wr.heap.size wr W1)
    (h4 : PD (Gr F' W1) w4 d { S with pend := wrPend S.pend S.last.length (os.take k) ++ [⟨p, z1⟩], writes := c' }) (o4 : Out F' W1 w4) (hb5 : Below w4.heap.size w4 w5) (ho5 : OB w4.heap.size w5 (.slice (some ⟨w4.heap.size, 0, none⟩) 64 cap5) z1) (hz : z1.length = 64)
    (h5 : LRow (fun j => Gr F' W1 j ∧ j < w4.heap.size) w5 g S.last.length (wrLast (List.replicate S.last.length none) S.last.length (os.take k)) vs)
    (t1 : wrPend S.pend S.last.length (os.take (k + 1)) = wrPend S.pend S.last.length (os.take k) ++ [⟨p, z1⟩]) (t2 : wrLast (List.replicate S.last.length none) S.last.length (os.take (k + 1)) = (wrLast (List.replicate S.last.length none) S.last.length (os.take k)).set p (some z1)) :
    WMid F w (w5.setCell ⟨g, p, none⟩ (.slice (some ⟨w4.heap.size, 0, none⟩) 64 cap5)) d S os (k + 1) (fun j => Gr F' W1 j ∧ j < w4.heap.size) g (vs.set p (.slice (some ⟨w4.heap.size, 0, none⟩) 64 cap5)) c' := by
  have hgw : g < wr.heap.size := (h.row.own.lt g rfl).2
  have hs1 := hb1.size
  have hs4 := o4.size
  have hs5 := hb5.size
  have hrb : RB w5 (some ⟨w4.heap.size, 0, none⟩) 64 z1 := by
    obtain ⟨A, c, e, hr, _⟩ := ho5.form
    rw [hz] at e hr
    injection e with e1 e2 e3
    rw [e1]; exact hr
  refine ⟨?_, fun j hj => ?_, ?_, h.gw, ?_, fun j u i hu hi => ?_⟩
  · rw [t1]
    refine (h4.shut.below hb5).stays fun j hj hf => heap_setCell_ne _ _ _ _ _ (fun e => ?_)
    subst e
    exact h5.out hf
  · refine ⟨?_, by simp [World.setCell]; exact Nat.lt_of_lt_of_le hj.2 hs5⟩
    rcases hj.1 with h1 | h1
    · exact (h.fs j h1).1
    · exact .inr (by have := h.out.size; omega)
  · refine Out.setCell ?_ (.inr h.gw) _
    have q1 : Out F w W1 := h.out.then (Out.of_below hb1 F)
    have q4 : Out F w w4 := q1.trans o4 fun i hi hf => by
      rcases (h.fs i hf).1 with h1 | h1
      · exact h1
      · omega
    exact q4.then (Out.of_below hb5 F)
  · rw [t2]
    refine h5.set p _ (some z1) ⟨_, _, rfl, hrb, fun hf => by have := hf.2; simp at this⟩ (fun i e => ?_) (fun j u i hu hi => h.own j u i hu hi)
    have : w4.heap.size = i := by simpa [Value.ownBlock] using e
    omega
  · rw [List.getElem?_set] at hu
    split at hu
    · split at hu
      · cases hu
        have : w4.heap.size = i := by simpa [Value.ownBlock] using hi
        omega
      · cases hu
    · exact h.own j u i hu hi

set_option maxRecDepth 10000 in
set_option maxHeartbeats 2000000 in
theorem lwrites {w0 w : World} {F : Nat → Prop} {d : Nat} {S : St} (h : PD F w d S) (hF : ∀ j, F j → w0.heap.size ≤ j) (hb0 : Below w0.heap.size w0 w) (hoff : S.off = false) (hpl : S.plan = -1) (A : Option Addr) (n c : Nat) (os : List OpD) (hos : RO w0 A n os) (hn : n ≤ c) (hc : c ≤ 2199023255488)
    (hm : S.pend.length + n < 2199023255552) : Calls Try.prog 21 #[.pointer (some ⟨d, 0, none⟩), .int .i64 (S.last.length : Int), .slice A n c] w (WritesIs F w d S os) := by
  have hlo := h.wf.lo
  have hhi := h.wf.hi
  have hmk := run_makeSl w S.last.length hhi
  obtain ⟨W0, hW0⟩ : ∃ W, W = w.alloc (.cells (Array.replicate S.last.length (Value.slice none 0 0)) 34) := ⟨_, rfl⟩
  rw [← hW0] at hmk
  have M0 := Lib.hid (show WMid F w W0 d S os 0 (fun j => F j ∧ j < w.heap.size) w.heap.size (List.replicate S.last.length (.slice none 0 0)) S.writes by
    refine ⟨by rw [hW0]; exact h.shut.alloc _, fun j hj => ⟨.inl hj.1, by rw [hW0]; simp; exact Nat.lt_succ_of_lt hj.2⟩, by rw [hW0]; exact (Out.refl F w).alloc _, Nat.le_refl _, ⟨⟨by simp, .inr ⟨w.heap.size, _, _, rfl, Nat.zero_le _, by rw [hW0]; exact heap_alloc_new _ _, Nat.le_refl _, by simp only [maxLen]; omega, by simp, by simp⟩⟩, by simp [wrLast], fun hh => by have := hh.2; omega, fun i o v hi hv => ?_⟩, fun j u i hu hi => ?_⟩
    · by_cases hil : i < S.last.length
      · simp [wrLast, hil] at hi hv
        subst hi
        subst hv
        exact rfl
      · simp [wrLast, hil] at hi
    · simp only [List.getElem?_replicate] at hu
      split at hu
      · cases hu; cases hi
      · cases hu)
  have HLEN := Lib.hid hos.len
  clear hW0 h
  go_enter Try.func21, Try.ntmps21
  go_wp2
  go_loopw [10, 15] (fun _ i wr => ∃ (k : Nat) (F' : Nat → Prop) (vs : List Value) (c : Int), i = .int .i64 (k : Nat) ∧ k ≤ n ∧ WMid F w wr d S os k F' w.heap.size vs c) (fun _ i _ => n - (intOf i).toNat)
  case atStart => exact ⟨0, _, _, _, rfl, Nat.zero_le _, M0.out⟩
  case round =>
    obtain ⟨k, F', vs, cw_, rfl, hk, hM⟩ := hrel
    by_cases hlt : k < n
    · obtain ⟨b, o, rfl, hrow⟩ := hos.row (by omega)
      obtain ⟨x, hx⟩ : ∃ x, os[k]? = some x := ⟨_, List.getElem?_eq_getElem (by rw [HLEN.out]; exact hlt)⟩
      have hB : Below w0.heap.size w0 wr := hb0.trans (hM.out.below hb0.size (fun i hi hf => by have := hF i hf; omega))
      have hxis := hos.is x (List.mem_of_getElem? hx)
      have HR := Lib.hid (show wr.rangeAt b (o + k * 4) [.int .i64 x.do_, .int .i64 x.n, .slice x.A1 x.n1 x.c1, .slice x.A2 x.n2 x.c2] from fun j v hv => (hB.cell (World.block_lt_of_cell? w0 _ (hrow k x hx j v hv))).trans (hrow k x hx j v hv))
      have HI := Lib.hid (show (Try.prog.info? 37).map (·.size) = some [Value.int .i64 x.do_, .int .i64 x.n, .slice x.A1 x.n1 x.c1, .slice x.A2 x.n2 x.c2].length by rfl)
      have hki : (k : Int) < (n : Int) := by omega
      have HT1 := Lib.hid (show wrPend S.pend S.last.length (os.take (k + 1)) = if x.ok S.last.length then wrPend S.pend S.last.length (os.take k) ++ [⟨x.n.toNat, x.z1⟩] else wrPend S.pend S.last.length (os.take k) by rw [List.take_add_one, hx]; exact wrPend_snoc _ _ _ _)
      have HT2 := Lib.hid (show wrLast (List.replicate S.last.length none) S.last.length (os.take (k + 1)) = if x.ok S.last.length then (wrLast (List.replicate S.last.length none) S.last.length (os.take k)).set x.n.toNat (some x.z1) else wrLast (List.replicate S.last.length none) S.last.length (os.take k) by rw [List.take_add_one, hx]; exact wrLast_snoc _ _ _ _)
      have HM := Lib.hid hM
      have HB := Lib.hid hB
      have HK := Lib.hid hlt
      have HPL := Lib.hid (show (wrPend S.pend S.last.length (os.take k)).length < 2199023255552 by have := wrPend_len S.last.length (os.take k) S.pend; rw [List.length_take] at this; omega)
      obtain ⟨do_, nn, A1, n1, c1, z1, A2, n2, c2, z2⟩ := x
      obtain ⟨rd, rn, b1, l1, m1, b2, l2, m2⟩ := hxis
      simp only at rd rn b1 l1 m1 b2 l2 m2 HR HI HT1 HT2
      clear hrow hx hM hB
      by_cases hok : OpD.ok ⟨do_, nn, A1, n1, c1, z1, A2, n2, c2, z2⟩ S.last.length
      · rw [if_pos hok] at HT1 HT2
        obtain ⟨h1, h2, h3, h4⟩ := hok
        simp only at h1 h2 h3 h4
        subst h1
        subst h4
        obtain ⟨p, rfl⟩ := Int.eq_ofNat_of_zero_le h2
        rw [Int.toNat_natCast] at HT1 HT2
        obtain ⟨W1, hW1⟩ : ∃ W, W = wr.alloc (.cells #[.int .i64 0, .int .i64 (p : Int), .slice A1 64 c1, .slice A2 n2 c2] 37) := ⟨_, rfl⟩
        have q0 : W1.heap[wr.heap.size]? = some (.cells #[.int .i64 0, .int .i64 (p : Int), .slice A1 64 c1, .slice A2 n2 c2] 37 (0, 0)) := by rw [hW1]; exact heap_alloc_new _ _
        have hbw : Below wr.heap.size wr W1 := by rw [hW1]; exact (Below.refl _ _).alloc (Nat.le_refl _) _
        have hb1 : RB W1 A1 64 z1 := (b1.below HB.out (Nat.le_refl _)).below' hbw
        have cw := dwrite (HM.out.pd.below hbw) (p : Int) A1 64 c1 z1 hb1 (fun ad e _ hf => by
          have hl := (rb_spot (e ▸ b1) (by omega)).2
          rcases (HM.out.fs _ hf).1 with h5 | h5
          · have := hF _ h5; omega
          · have := hb0.size; omega) l1 (by omega) HPL.out
        have wo := writeS_ok (S := { S with pend := wrPend S.pend S.last.length (os.take k), writes := cw_ }) hoff hpl ⟨h2, h3⟩ b1.len
        rw [wo.1, wo.2] at cw
        have hW1r := hW1.symm
        have CW := Lib.hid cw
        have Q0 := Lib.hid q0
        have HBW := Lib.hid hbw
        have HB1 := Lib.hid hb1
        have hq1 : (p : Int) < (S.last.length : Int) := h3
        have a0 : W1.cell? ⟨wr.heap.size, 0, none⟩ = some (.int .i64 0) := by rw [cell_of_row _ _ _ _ _ _ q0]; rfl
        have a1 : W1.cell? ⟨wr.heap.size, 1, none⟩ = some (.int .i64 (p : Int)) := by rw [cell_of_row _ _ _ _ _ _ q0]; rfl
        have a2 : W1.cell? ⟨wr.heap.size, 2, none⟩ = some (.slice A1 64 c1) := by rw [cell_of_row _ _ _ _ _ _ q0]; rfl
        have HNF := Lib.hid (show ¬ F' wr.heap.size from fun hf => by have := (HM.out.fs _ hf).2; omega)
        have HWL := Lib.hid (show wr.heap.size < W1.heap.size from (Array.getElem?_eq_some_iff.1 q0).1)
        clear hW1 q0 hbw hb1 cw wo h2
        go_upto_region 8 with (first
          | (with_reducible refine wpList_load_mid rfl 37 (.tmp 17) rfl b (o + k * 4) rfl [.int .i64 0, .int .i64 (p : Int), .slice A1 64 c1, .slice A2 n2 c2] _ HR.out Try.underlying37 rfl HI.out ?_)
          | (go_at_call 13; refine CW.out.mono ?_; rintro e w4 ⟨rfl, h4, o4⟩; have H4 := Lib.hid h4; have O4 := Lib.hid o4; have k1 := o4.cell a1 HNF.out; have k2 := o4.cell a2 HNF.out; clear h4 o4))
        have R1 := HM.out.row.step (F' := F') (Out.of_below HBW.out F') (fun j h => .inl h)
        have R4 := R1.step O4.out (F' := fun j => Gr F' W1 j ∧ j < w4.heap.size) (fun j h => h.1)
        have hrl : w.heap.size < wr.heap.size := (HM.out.row.own.lt _ rfl).2
        have hsl : p < vs.length := by have := HM.out.row.own.1; omega
        have hS1 : w4.drew.cell? ⟨wr.heap.size, 1, none⟩ = some (.int .i64 (p : Int)) ∧ w4.drew.cell? ⟨wr.heap.size, 2, none⟩ = some (.slice A1 64 c1) := ⟨k1, k2⟩
        have hb4 : RB w4 A1 64 z1 := O4.out.rb HB1.out (fun ad e _ hf => by
          have hl := (rb_spot (e ▸ b1) (by omega)).2
          rcases (HM.out.fs _ hf).1 with h5 | h5
          · have := hF _ h5; omega
          · have := hb0.size; omega)
        have R4H := Lib.hid R4
        have HRL := Lib.hid hrl
        have HSL := Lib.hid hsl
        have hb4d : RB w4.drew A1 64 z1 := hb4.drew
        clear R1 R4 hb4 CW HR HI a0 a1 a2 hW1r hsl k1 k2
        go_region_held3 (fun w' => w'.cell? ⟨wr.heap.size, 1, none⟩ = some (.int .i64 (p : Int)) ∧ w'.cell? ⟨wr.heap.size, 2, none⟩ = some (.slice A1 64 c1)) (first | exact hS1 | exact hS5 | exact hS6)
          (first
            | (refine nil_append_step rfl (.const (.slice none 0 0)) (.tmp 50) rfl rfl A1 64 c1 z1 rfl hb4d (by decide) (by decide) ?_; intro cap5 w5 ho5 hb5; have hS5 : w5.cell? ⟨wr.heap.size, 1, none⟩ = some (.int .i64 (p : Int)) ∧ w5.cell? ⟨wr.heap.size, 2, none⟩ = some (.slice A1 64 c1) := ⟨keep_below hS1.1 hb5, keep_below hS1.2 hb5⟩; have hb5' : Below w4.heap.size w4 w5 := ⟨hb5.os, hb5.tape, hb5.output, hb5.size, hb5.block⟩; have R5 := R4H.out.step (F' := fun j => Gr F' W1 j ∧ j < w4.heap.size) (Out.of_below hb5' _) (fun j h => .inl h); have hT := own_there R5.own p 1 (by have := HM.out.row.own.1; have := HSL.out; have := R5.own.1; omega); have hk0 := (hT 0 (by omega)).1; have hf0 := (hT 0 (by omega)).2; obtain ⟨u0, hu0⟩ := Option.isSome_iff_exists.1 hk0; rw [Nat.add_zero] at hu0 hf0; have hS6 : (w5.setCell ⟨w.heap.size, p, none⟩ (.slice (some ⟨w4.drew.heap.size, 0, none⟩) 64 cap5)).cell? ⟨wr.heap.size, 1, none⟩ = some (.int .i64 (p : Int)) ∧ (w5.setCell ⟨w.heap.size, p, none⟩ (.slice (some ⟨w4.drew.heap.size, 0, none⟩) 64 cap5)).cell? ⟨wr.heap.size, 2, none⟩ = some (.slice A1 64 c1) := (by rw [World.cell?_setCell_far _ _ _ _ (by simpa using Nat.ne_of_lt HRL.out), World.cell?_setCell_far _ _ _ _ (by simpa using Nat.ne_of_lt HRL.out)]; exact hS5); have HR5 := Lib.hid R5; have HO5 := Lib.hid ho5; have HB5 := Lib.hid hb5'; clear R5 hT hk0 ho5 hb5 hb5'))
        have HN := Lib.hid (HM.out.next HBW.out H4.out O4.out HB5.out HO5.out b1.len HR5.out HT1.out HT2.out)
        clear hS1 hS5 hS6 hu0 hf0 hb4d
        go_wp2
        go_roundw
        case rel => exact ⟨k + 1, _, _, _, by go_num, HK.out, HN.out⟩
        case measure => simp [intOf]; omega
      · rw [if_neg hok] at HT1 HT2
        obtain ⟨W1, hW1⟩ : ∃ W, W = wr.alloc (.cells #[.int .i64 do_, .int .i64 nn, .slice A1 n1 c1, .slice A2 n2 c2] 37) := ⟨_, rfl⟩
        have q0 : W1.heap[wr.heap.size]? = some (.cells #[.int .i64 do_, .int .i64 nn, .slice A1 n1 c1, .slice A2 n2 c2] 37 (0, 0)) := by rw [hW1]; exact heap_alloc_new _ _
        have hbw : Below wr.heap.size wr W1 := by rw [hW1]; exact (Below.refl _ _).alloc (Nat.le_refl _) _
        have a0 : W1.cell? ⟨wr.heap.size, 0, none⟩ = some (.int .i64 do_) := by rw [cell_of_row _ _ _ _ _ _ q0]; rfl
        have a1 : W1.cell? ⟨wr.heap.size, 1, none⟩ = some (.int .i64 nn) := by rw [cell_of_row _ _ _ _ _ _ q0]; rfl
        have a2 : W1.cell? ⟨wr.heap.size, 2, none⟩ = some (.slice A1 n1 c1) := by rw [cell_of_row _ _ _ _ _ _ q0]; rfl
        have hW1r := hW1.symm
        have HN := Lib.hid (show WMid F w W1 d S os (k + 1) F' w.heap.size vs cw_ from ⟨by rw [HT1.out]; exact HM.out.pd.below hbw, fun j hj => ⟨(HM.out.fs j hj).1, Nat.lt_of_lt_of_le (HM.out.fs j hj).2 hbw.size⟩, HM.out.out.then (Out.of_below hbw F), Nat.le_refl _, by rw [HT2.out]; exact HM.out.row.step (Out.of_below hbw F') (fun j h => .inl h), HM.out.own⟩)
        have HOK := Lib.hid hok
        clear hW1 q0 hbw hok
        by_cases e1 : do_ = 0
        · subst e1
          by_cases e2 : nn < 0
          · go_wp2_with (with_reducible refine wpList_load_mid rfl 37 (.tmp 17) rfl b (o + k * 4) rfl [.int .i64 0, .int .i64 nn, .slice A1 n1 c1, .slice A2 n2 c2] _ HR.out Try.underlying37 rfl HI.out ?_)
            go_roundw
            case rel => exact ⟨k + 1, _, _, _, by go_num, HK.out, HN.out⟩
            case measure => simp [intOf]; omega
          · have e2' : decide (nn < 0) = false := by simp; omega
            by_cases e3 : nn < (S.last.length : Int)
            · have e4 : ((n1 : Int) != 64) = true := by
                have := HOK.out
                simp [OpD.ok] at this
                simp; omega
              go_wp2_with (with_reducible refine wpList_load_mid rfl 37 (.tmp 17) rfl b (o + k * 4) rfl [.int .i64 0, .int .i64 nn, .slice A1 n1 c1, .slice A2 n2 c2] _ HR.out Try.underlying37 rfl HI.out ?_)
              go_roundw
              case rel => exact ⟨k + 1, _, _, _, by go_num, HK.out, HN.out⟩
              case measure => simp [intOf]; omega
            · have e3' : (S.last.length : Int) ≤ nn := by omega
              go_wp2_with (with_reducible refine wpList_load_mid rfl 37 (.tmp 17) rfl b (o + k * 4) rfl [.int .i64 0, .int .i64 nn, .slice A1 n1 c1, .slice A2 n2 c2] _ HR.out Try.underlying37 rfl HI.out ?_)
              go_roundw
              case rel => exact ⟨k + 1, _, _, _, by go_num, HK.out, HN.out⟩
              case measure => simp [intOf]; omega
        · have e1' : (do_ != 0) = true := by simpa using e1
          go_wp2_with (with_reducible refine wpList_load_mid rfl 37 (.tmp 17) rfl b (o + k * 4) rfl [.int .i64 do_, .int .i64 nn, .slice A1 n1 c1, .slice A2 n2 c2] _ HR.out Try.underlying37 rfl HI.out ?_)
          go_roundw
          case rel => exact ⟨k + 1, _, _, _, by go_num, HK.out, HN.out⟩
          case measure => simp [intOf]; omega
    · obtain rfl : k = n := by omega
      have htk : os.take k = os := List.take_of_length_le (by rw [HLEN.out]; exact Nat.le_refl _)
      have H1 := hM.pd
      have H2 := hM.row
      rw [htk] at H1 H2
      have HF := Lib.hid (⟨F', w.heap.size, vs, cw_, rfl, H1, hM.fs, hM.out, Nat.le_refl _, H2⟩ : WritesIs F w d S os (.returned (.tuple #[.slice (some ⟨w.heap.size, 0, none⟩) S.last.length S.last.length, .bool true])) wr)
      clear H1 H2 hM
      go_wp2
      go_ret2
      exact HF.out
end Go.Proofs.Ytfeoihnjfngmpaa
