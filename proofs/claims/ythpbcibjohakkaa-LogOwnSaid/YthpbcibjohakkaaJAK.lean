import Derived.Test.YthpbcibjohakkaaJAJ
import Derived.BigQuiet
import Derived.Deep.QuietTactic
/- The laws' own helper writes. -/
namespace Go.Proofs.Ythpbcibjohakkaa
set_option maxRecDepth 100000
open Go.RowKit

/-- Is it a write that may be? -/
def OpD.ok (o : OpD) (blocks : Nat) : Prop := o.do_ = 0 ∧ 0 ≤ o.n ∧ o.n < (blocks : Int) ∧ o.n1 = 64
instance (o : OpD) (b : Nat) : Decidable (o.ok b) := by unfold OpD.ok; infer_instance
/-- What the script's writes make of the pending ones, and of each block's last bytes. -/
def wrPend : List Wr → Nat → List OpD → List Wr
  | l, _, [] => l
  | l, b, o :: r => wrPend (if o.ok b then l ++ [⟨o.n.toNat, o.z1⟩] else l) b r
def wrLast : List (Option (List Int)) → Nat → List OpD → List (Option (List Int))
  | l, _, [] => l
  | l, b, o :: r => wrLast (if o.ok b then l.set o.n.toNat (some o.z1) else l) b r
theorem wrPend_snoc (b : Nat) (o : OpD) : ∀ (r : List OpD) (l : List Wr), wrPend l b (r ++ [o]) = if o.ok b then wrPend l b r ++ [⟨o.n.toNat, o.z1⟩] else wrPend l b r
  | [], l => by simp [wrPend]
  | x :: r, l => by rw [List.cons_append, wrPend, wrPend_snoc b o r]; rfl
theorem wrLast_snoc (b : Nat) (o : OpD) : ∀ (r : List OpD) (l : List (Option (List Int))), wrLast l b (r ++ [o]) = if o.ok b then (wrLast l b r).set o.n.toNat (some o.z1) else wrLast l b r
  | [], l => by simp [wrLast]
  | x :: r, l => by rw [List.cons_append, wrLast, wrLast_snoc b o r]; rfl
theorem wrPend_len (b : Nat) : ∀ (r : List OpD) (l : List Wr), (wrPend l b r).length ≤ l.length + r.length
  | [], l => by simp [wrPend]
  | x :: r, l => by
    have := wrPend_len b r (if x.ok b then l ++ [⟨x.n.toNat, x.z1⟩] else l)
    rw [wrPend]
    split at this <;> simp at this ⊢ <;> simp [*] at * <;> omega
theorem wrLast_len (b : Nat) : ∀ (r : List OpD) (l : List (Option (List Int))), (wrLast l b r).length = l.length
  | [], l => rfl
  | x :: r, l => by rw [wrLast, wrLast_len b r]; split <;> simp

/-- One of a row of slices: nil, or 64 bytes outside F. -/
def LV (F : Nat → Prop) (w : World) (v : Value) : Option (List Int) → Prop
  | none => v = .slice none 0 0
  | some zs => ∃ g cap, v = .slice (some ⟨g, 0, none⟩) 64 cap ∧ RB w (some ⟨g, 0, none⟩) 64 zs ∧ ¬ F g
/-- A row of slices at block g. -/
structure LRow (F : Nat → Prop) (w : World) (g n : Nat) (ls : List (Option (List Int))) (vs : List Value) : Prop where
  own : w.ownsRow 0 33 1 (.slice (some ⟨g, 0, none⟩) n n) n vs
  len : ls.length = n
  out : ¬ F g
  at_ : ∀ (i : Nat) o v, ls[i]? = some o → vs[i]? = some v → LV F w v o
theorem LRow.step {F F' : Nat → Prop} {w w' : World} {g n : Nat} {ls : List (Option (List Int))} {vs : List Value} (h : LRow F w g n ls vs) (ho : Out F w w') (hF : ∀ j, F' j → F j ∨ w.heap.size ≤ j) : LRow F' w' g n ls vs := by
  have hgl := (h.own.lt g rfl).2
  refine ⟨own_stays h.own fun k e => by
    have ek : g = k := by simpa [Value.ownBlock] using e
    subst ek
    exact ho.block g hgl h.out, h.len, fun hf => ?_, fun i o v hi hv => ?_⟩
  · rcases hF g hf with h1 | h1
    · exact h.out h1
    · omega
  · have := h.at_ i o v hi hv
    cases o with
    | none => exact this
    | some zs =>
      obtain ⟨g', cap, e, h3, h4⟩ := this
      have hl := (rb_spot h3 (by omega)).2
      refine ⟨g', cap, e, ho.rb h3 (fun ad ea _ => by cases ea; exact h4), fun hf => ?_⟩
      rcases hF g' hf with h5 | h5
      · exact h4 h5
      · exact absurd hl (by simp; omega)
theorem LRow.set {F : Nat → Prop} {w : World} {g n : Nat} {ls : List (Option (List Int))} {vs : List Value} (h : LRow F w g n ls vs) (i : Nat) (v : Value) (o : Option (List Int)) (hv : LV F w v o) (hne : ∀ k, v.ownBlock = some k → k ≠ g) (hold : ∀ (j : Nat) (u : Value) k, vs[j]? = some u → u.ownBlock = some k → k ≠ g) :
    LRow F (w.setCell ⟨g, i, none⟩ v) g n (ls.set i o) (vs.set i v) := by
  refine ⟨(h.own.stored i v).1, by simp [h.len], h.out, fun j o' v' hj hv' => ?_⟩
  have keep : ∀ (u : Value) (q : Option (List Int)), LV F w u q → (∀ k, u.ownBlock = some k → k ≠ g) → LV F (w.setCell ⟨g, i, none⟩ v) u q := fun u q hu hn => by
    cases q with
    | none => exact hu
    | some zs =>
      obtain ⟨g', cap, e, h3, h4⟩ := hu
      refine ⟨g', cap, e, ⟨h3.len, h3.byte, fun hp => ?_⟩, h4⟩
      obtain ⟨ad, ea, hc⟩ := h3.cell hp
      cases ea
      refine ⟨_, rfl, fun k hk => ?_⟩
      rw [World.cell?_setCell_far _ _ _ _ (by rw [block_add]; exact (hn g' (by rw [e]; rfl)).symm)]
      exact hc k hk
  rw [List.getElem?_set] at hj hv'
  by_cases e : i = j
  · rw [if_pos e] at hj hv'
    split at hj
    · split at hv'
      · cases hj; cases hv'; exact keep _ _ hv hne
      · cases hv'
    · cases hj
  · rw [if_neg e] at hj hv'
    exact keep _ _ (h.at_ j o' v' hj hv') (fun k => hold j v' k hv')

theorem writeS_ok {S : St} {n : Int} {zs : List Int} (ho : S.off = false) (hp : S.plan = -1) (h1 : 0 ≤ n ∧ n < (S.last.length : Int)) (hl : zs.length = 64) : writeS S n zs = { S with pend := S.pend ++ [⟨n.toNat, zs⟩], writes := wrap64 (S.writes + 1) } ∧ writeE S n zs.length = 0 := by
  unfold writeS writeE spendS spendE
  simp [ho, hp, h1, hl]

/-- append of bytes onto nil, at a step of a region that draws its order. -/
theorem nil_append_step {w : World} {ops : Array Oper} {o : Oper} {a : Act} {K : Act → World → Prop} {Q : Exit → Act → World → Prop} {E : Prop} (hgd : o.guard = none) (s x : Operand)
    (ho : o.op = .call { callee := .builtin .append, args := #[s, x], argTypes := #[33, 33] })
    (hs : a.eval s = .slice none 0 0) (A : Option Addr) (m c : Nat) (ys : List Int) (hx : a.eval x = .slice A m c) (hr : RB w A m ys) (hm : 0 < m) (hsz : m ≤ 140737488355328)
    (h : ∀ cap w', OB w.heap.size w' (.slice (some ⟨w.heap.size, 0, none⟩) m cap) ys → Below w.heap.size w w' → K (a.put o.dst (.slice (some ⟨w.heap.size, 0, none⟩) m cap)) w') :
    if Region.wanted o (yielded ops a.tmps) = true then Oper.wp Try.prog o a w K Q else E := by
  obtain ⟨i0, hi, hz0, hz1, hz2⟩ := info_parts info_u8
  have hlen := hr.len
  obtain ⟨ad, rfl, -⟩ := hr.cell hm
  refine step_append_far w hgd s x 33 ho w.heap.size 5 i0 (.int .u8 0) 1 1 Try.underlying33 hi hz0 hz1 hz2 rfl (by decide) (.slice none 0 0) 0 [] hs (World.ownsRow_nil _ _ _ _) ad m c (ys.map (Value.int .u8)) hx (by simpa using hlen) ?_ (bytes_oneCell ys) hm (by simp only [maxLen]; omega) (by omega) (Nat.le_refl _) ?_
  · intro j u hu
    have hj : j < ys.length := by
      rcases Nat.lt_or_ge j ys.length with h1 | h1
      · exact h1
      · rw [List.getElem?_eq_none (by simpa using h1)] at hu; cases hu
    obtain ⟨ad', e, hc⟩ := hr.at_ (k := j) (by omega)
    injection e with e
    subst e
    rw [hc]
    simpa [List.getD_eq_getElem?_getD, List.getElem?_eq_getElem hj] using hu
  · intro g cap w' h1 h2 h3
    have hg : g = w.heap.size := by rcases h3 with h3 | h3; cases h3; exact h3
    subst hg
    rw [Nat.zero_add, List.nil_append] at h1
    rw [Nat.zero_add]
    · refine h cap w' ⟨by rw [hlen]; exact h1, hr.byte⟩ ⟨h2.os, h2.tape, h2.output, h2.size, fun k hk => h2.block k hk (by simp [Value.ownBlock])⟩

/-- What writes leaves. -/
def WritesIs (F : Nat → Prop) (w : World) (d : Nat) (S : St) (os : List OpD) (e : Ending) (w' : World) : Prop :=
  ∃ F' g vs c, e = .returned (.tuple #[.slice (some ⟨g, 0, none⟩) S.last.length S.last.length, .bool true]) ∧ PD F' w' d { S with pend := wrPend S.pend S.last.length os, writes := c } ∧ (∀ j, F' j → (F j ∨ w.heap.size ≤ j) ∧ j < w'.heap.size) ∧ Out F w w' ∧
    w.heap.size ≤ g ∧ LRow F' w' g S.last.length (wrLast (List.replicate S.last.length none) S.last.length os) vs

theorem infoSl : (Try.prog.info? 33).map (fun i => (i.zero, i.size, i.bytes)) = some (some (.slice none 0 0), 1, 24) := by kernel_rfl
theorem run_makeSl (w : World) (n : Nat) (h : n ≤ 16384) : (Instr.makeSlice 25 (.int .i64 (n : Int)) (.int .i64 (n : Int))).run Try.prog w = .ok (.slice (some ⟨w.heap.size, 0, none⟩) n n) (w.alloc (.cells (Array.replicate n (Value.slice none 0 0)) 33)) := by
  obtain ⟨i0, hi, hz0, hz1, hz2⟩ := info_parts infoSl
  have h1 := run_make (P := Try.prog) w 25 33 i0 (.slice none 0 0) Try.underlying25 hi hz0 .i64 .i64 n n (by omega) (by omega) (by rw [hz2]; omega) (by omega)
  rw [hz1, Nat.mul_one] at h1
  simp only [Int.toNat_natCast] at h1
  rw [h1]
  congr 3
  apply Array.ext'
  exact (toList_madeCells_one _ _).trans (by simp)

/-- Between two operations. -/
structure WMid (F : Nat → Prop) (w wr : World) (d : Nat) (S : St) (os : List OpD) (k : Nat) (F' : Nat → Prop) (g : Nat) (vs : List Value) (c : Int) : Prop where
  pd : PD F' wr d { S with pend := wrPend S.pend S.last.length (os.take k), writes := c }
  fs : ∀ j, F' j → (F j ∨ w.heap.size ≤ j) ∧ j < wr.heap.size
  out : Out F w wr
  gw : w.heap.size ≤ g
  row : LRow F' wr g S.last.length (wrLast (List.replicate S.last.length none) S.last.length (os.take k)) vs
  own : ∀ (j : Nat) (u : Value) i, vs[j]? = some u → u.ownBlock = some i → i ≠ g

theorem WMid.next {F F' : Nat → Prop} {w wr W1 w4 w5 : World} {d g k p cap5 : Nat} {S : St} {os : List OpD} {vs : List Value} {c c' : Int} {z1 : List Int} (h : WMid F w wr d S os k F' g vs c) (hb1 : Below wr.heap.size wr W1)
    (h4 : PD (Gr F' W1) w4 d { S with pend := wrPend S.pend S.last.length (os.take k) ++ [⟨p, z1⟩], writes := c' }) (o4 : Out F' W1 w4) (hb5 : Below w4.heap.size w4 w5) (ho5 : OB w4.heap.size w5 (.slice (some ⟨w4.heap.size, 0, none⟩) 64 cap5) z1) (hz : z1.length = 64)
    (h5 : LRow (fun j => Gr F' W1 j ∧ j < w4.heap.size) w5 g S.last.length (wrLast (List.replicate S.last.length none) S.last.length (os.take k)) vs)
    (t1 : wrPend S.pend S.last.length (os.take (k + 1)) = wrPend S.pend S.last.length (os.take k) ++ [⟨p, z1⟩]) (t2 : wrLast (List.replicate S.last.length none) S.last.length (os.take (k + 1)) = (wrLast (List.replicate S.last.length none) S.last.length (os.take k)).set p (some z1)) :
    WMid F w (w5.setCell ⟨g, p, none⟩ (.slice (some ⟨w4.heap.size, 0, none⟩) 64 cap5)) d S os (k + 1) (fun j => Gr F' W1 j ∧ j < w4.heap.size) g (vs.set p (.slice (some ⟨w4.heap.size, 0, none⟩) 64 cap5)) c' := by
  have hgw : g < wr.heap.size := (h.row.own.lt g rfl).2
  have hs1 := hb1.size
  have hs4 := o4.size
  have hs5 := hb5.size
  have hrb : RB w5 (some ⟨w4.heap.size, 0, none⟩) 64 z1 := by
    obtain ⟨A, c, e, hr, _⟩ := ho5.form
    rw [hz] at e hr
    injection e with e1 e2 e3
    rw [e1]; exact hr
  refine ⟨?_, fun j hj => ?_, ?_, h.gw, ?_, fun j u i hu hi => ?_⟩
  · rw [t1]
    refine (h4.shut.below hb5).stays fun j hj hf => heap_setCell_ne _ _ _ _ _ (fun e => ?_)
    subst e
    exact h5.out hf
  · refine ⟨?_, by simp [World.setCell]; exact Nat.lt_of_lt_of_le hj.2 hs5⟩
    rcases hj.1 with h1 | h1
    · exact (h.fs j h1).1
    · exact .inr (by have := h.out.size; omega)
  · refine Out.setCell ?_ (.inr h.gw) _
    have q1 : Out F w W1 := h.out.then (Out.of_below hb1 F)
    have q4 : Out F w w4 := q1.trans o4 fun i hi hf => by
      rcases (h.fs i hf).1 with h1 | h1
      · exact h1
      · omega
    exact q4.then (Out.of_below hb5 F)
  · rw [t2]
    refine h5.set p _ (some z1) ⟨_, _, rfl, hrb, fun hf => by have := hf.2; simp at this⟩ (fun i e => ?_) (fun j u i hu hi => h.own j u i hu hi)
    have : w4.heap.size = i := by simpa [Value.ownBlock] using e
    omega
  · rw [List.getElem?_set] at hu
    split at hu
    · split at hu
      · cases hu
        have : w4.heap.size = i := by simpa [Value.ownBlock] using hi
        omega
      · cases hu
    · exact h.own j u i hu hi

end Go.Proofs.Ythpbcibjohakkaa

/- The laws' own helpers: has, alikePending of two rows that hold the same. -/
namespace Go.Proofs.Ythpbcibjohakkaa
set_option maxRecDepth 100000
open Go.RowKit

end Go.Proofs.Ythpbcibjohakkaa

/- Write of any capacity; spoil of any capacity. -/
namespace Go.Proofs.Ythpbcibjohakkaa
set_option maxRecDepth 100000
open Go.RowKit

set_option maxHeartbeats 1000000 in
theorem dwriteW {F : Nat → Prop} {w : World} {d : Nat} {S : St} (h : PD F w d S) (n : Int) (A : Option Addr) (m c : Nat) (zs : List Int) (hz : RB w A m zs) (hA : Far F A m) (hc : m ≤ c) (hm : S.pend.length < 2199023255552) :
    Calls Try.prog 52 #[.pointer (some ⟨d, 0, none⟩), .int .i64 n, .slice A m c] w (Codes F w d (writeS S n zs) (writeE S n zs.length)) := by
  obtain ⟨nw, vl, vp, vn, h, hn⟩ := h
  have r := drefuses h n
  have sp := dspend h
  have hlen := hz.len
  unfold writeS writeE
  cases ho : S.off with
  | true =>
    rw [ho] at r
    simp only [if_true] at r ⊢
    have HE := Lib.hid (codes (c := 22) h hn (Out.refl F w))
    clear h hn sp hz hlen
    go_enter Try.func52, Try.ntmps52
    go_wp2_with (go_at_call 66; refine r.mono ?_; rintro e w' ⟨rfl, rfl⟩)
    go_ret
    exact HE.out
  | false =>
    rw [ho] at r
    simp only [Bool.false_eq_true, if_false] at r ⊢
    by_cases hp : 0 ≤ n ∧ n < (S.last.length : Int)
    · rw [if_pos hp] at r
      rw [if_neg (not_not_intro hp), if_neg (not_not_intro hp)]
      by_cases h64 : m = 64
      · rw [if_neg (show ¬ (zs.length ≠ 64) by omega), if_neg (show ¬ (zs.length ≠ 64) by omega)]
        by_cases hpl : S.plan = 0
        · have he : spendE S = 22 := by unfold spendE; rw [if_pos hpl]
          rw [he] at sp ⊢
          rw [if_pos hpl]
          have HN := Lib.hid (nwok_same (S' := spendS S) hn (by rw [spendS_last]) (spendS_pend S))
          subst h64
          clear h hn hpl he hp hz hlen
          go_enter Try.func52, Try.ntmps52
          go_wp2_with (first
            | (go_at_call 66; refine r.mono ?_; rintro e w' ⟨rfl, rfl⟩)
            | (go_at_call 67; refine sp.mono ?_; rintro e w1 ⟨rfl, h1, o1⟩; have H1 := Lib.hid h1; have O1 := Lib.hid o1; clear h1 o1))
          go_ret
          exact codes H1.out HN.out O1.out
        · have he : spendE S = 0 := by unfold spendE; rw [if_neg hpl]
          rw [he] at sp ⊢
          rw [if_neg hpl]
          obtain ⟨k, rfl⟩ := Int.eq_ofNat_of_zero_le hp.1
          have hk : k < S.last.length := by omega
          obtain ⟨gn, cn, rfl, hgn, -⟩ := h.nform
          subst h64
          obtain ⟨ad, rfl, -⟩ := hz.cell (by omega)
          have hsp := (rb_spot hz (by omega)).1
          have hF := hA ad rfl (by omega)
          obtain ⟨b, o, s⟩ := ad
          simp only at hsp hF
          subst hsp
          have hT : (spendS S).last = S.last := spendS_last S
          have hTp : (spendS S).pend = S.pend := spendS_pend S
          have hTw : (spendS S).writes = S.writes := by unfold spendS; split <;> (try split) <;> rfl
          have hnl := h.nwl
          refine (dwrite64 (T := spendS S) (nw := nw) (vl := vl) (vp := vp) (gn := gn) (cn := cn) (by rw [hT]; exact h) h.fd hgn k (by rw [hT]; exact hk) b o c zs hz hF hc (by rw [hTp]; exact hm) r (by rw [hT]; exact sp)).mono ?_
          rintro e w' ⟨rfl, ⟨nw', vl', vp', vn', h9, hnw⟩, o9⟩
          refine ⟨rfl, ⟨nw', vl', vp', vn', ?_, ?_⟩, o9⟩
          · rw [← hTp, ← hTw]; exact h9
          · rw [hnw, hTp]
            exact nwok_write hn hnl (by simp [hT]) k zs rfl hk
      · rw [if_pos (show zs.length ≠ 64 by omega), if_pos (show zs.length ≠ 64 by omega)]
        have HE := Lib.hid (codes (c := 21) h hn (Out.refl F w))
        have h65 : ((m : Int) != 64) = true := by simp; omega
        clear h hn sp hz hlen
        go_enter Try.func52, Try.ntmps52
        go_wp2_with (go_at_call 66; refine r.mono ?_; rintro e w' ⟨rfl, rfl⟩)
        go_ret
        exact HE.out
    · rw [if_neg hp] at r
      rw [if_pos hp, if_pos hp]
      have HE := Lib.hid (codes (c := 20) h hn (Out.refl F w))
      clear h hn sp hz hlen hp
      go_enter Try.func52, Try.ntmps52
      go_wp2_with (go_at_call 66; refine r.mono ?_; rintro e w' ⟨rfl, rfl⟩)
      go_ret
      exact HE.out

end Go.Proofs.Ythpbcibjohakkaa
