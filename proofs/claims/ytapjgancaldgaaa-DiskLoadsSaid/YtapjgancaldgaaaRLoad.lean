/- The reference's Load. -/
import Derived.Test.YtapjgancaldgaaaRBegin
namespace Go.Proofs.Ytapjgancaldgaaa
set_option maxRecDepth 100000
open Go.RowKit

/-- copy of bytes over the whole of a block; what is copied from is as long, or longer. -/
theorem row_copy_in {w : World} {ops : Array Oper} {rest : List Oper} {o : Oper} {a : Act} {Q : Exit → Act → World → Prop} (hgd : o.guard = none) (d s : Operand)
    (ho : o.op = .call { callee := .builtin .copy, args := #[d, s], argTypes := #[34, 34] })
    (A : Option Addr) (g n n2 c e : Nat) (hd : a.eval d = .slice (some ⟨g, 0, none⟩) n e) (hs : a.eval s = .slice A n2 c) (hpos : 0 < n) (hnn : n ≤ n2)
    (zs : List Int) (hrow : Row w g zs) (hl : zs.length = n) (ys : List Int) (hr : RB w A n ys)
    (h : ∀ w', Row w' g ys → w.heap.size = w'.heap.size → w.grownBy w' (some g) → wpList Try.prog ops Q rest (a.put o.dst (goInt n)) w') : wpList Try.prog ops Q (o :: rest) a w := by
  obtain ⟨i0, hi, hz0, hz1, hz2⟩ := info_parts info_u8
  have hlen := hr.len
  obtain ⟨ad, rfl, hc⟩ := hr.cell hpos
  refine wpList_copy_own hgd d s 34 34 ho 5 Try.underlying34 (by simp [hi, hz1]) g 0 n e ad n2 c hd hs _ 5 hrow (ys.map (Value.int .u8)) (by rw [List.length_map, hlen]; exact (Nat.min_eq_right hnn).symm) (fun j u hu => ?_)
    (by simp [hlen, hl]) (bytes_oneCell ys) ?_
  · have hj : j < ys.length := by
      rcases Nat.lt_or_ge j ys.length with h1 | h1
      · exact h1
      · rw [List.getElem?_eq_none (by simpa using h1)] at hu; cases hu
    rw [hc j (by omega)]
    simpa [List.getD_eq_getElem?_getD, List.getElem?_eq_getElem hj] using hu
  · have e1 : ((ys.map (Value.int .u8)).length : Nat) = n := by simp [hlen]
    rw [e1]
    refine h _ ?_ (by simp [World.setRow]) ⟨rfl, rfl, rfl, by simp [World.setRow], fun k _ hk => setRow_other w g k _ (fun e => hk (by rw [e]))⟩
    unfold Row
    rw [setRow_heap w g _ _ 5 (0, 0) hrow]
    congr 2
    apply Array.ext'
    simp [hlen, hl]

/-- While the image is copied. -/
structure LMid (w1 wr : World) (B n k : Nat) (vs : List Value) (gd cd gt ct : Nat) (z : List Int) : Prop where
  blk : wr.heap[B]? = some (.cells (newArr gd n cd gt ct) 31 (0, 0))
  d : wr.ownsRow w1.heap.size 34 1 (.slice (some ⟨gd, 0, none⟩) n cd) n vs
  t : wr.ownsRow w1.heap.size 4 1 (.slice (some ⟨gt, 0, none⟩) n ct) n (List.replicate n (.bool false))
  at_ : ∀ i, i < n → ∃ g, vs[i]? = some (.slice (some ⟨g, 0, none⟩) 64 64) ∧ Row wr g (if i < k then part64 z i else zero64) ∧ w1.heap.size ≤ g ∧ g ≠ B ∧ g ≠ gd ∧ g ≠ gt
  nd : vs.Nodup
  b : w1.heap.size ≤ B
  bd : gd ≠ B
  bt : gt ≠ B
  dt : gd ≠ gt
  below : Below w1.heap.size w1 wr
theorem LMid.start {w1 w2 : World} {B' n gd cd gt ct : Nat} {vs : List Value} {z : List Int} (h : NPart w1 w2 B' n n (.slice (some ⟨gd, 0, none⟩) n cd) (.slice (some ⟨gt, 0, none⟩) n ct) vs) (hb : Below w1.heap.size w1 w2) :
    LMid w1 (w2.alloc (.cells (newArr gd n cd gt ct) 31)) w2.heap.size n 0 vs gd cd gt ct z := by
  have ld := (h.d.lt gd rfl).2
  have lt := (h.t.lt gt rfl).2
  have hk : ∀ k, k < w2.heap.size → (w2.alloc (.cells (newArr gd n cd gt ct) 31)).heap[k]? = w2.heap[k]? := fun k hk => Below.heap_alloc _ _ _ hk
  refine ⟨heap_alloc_new _ _, own_stays h.d fun k e => hk k (h.d.lt k e).2, own_stays h.t fun k e => hk k (h.t.lt k e).2, fun i hi => ?_, h.nd, hb.size, by omega, by omega, fun e => h.dt gd rfl (by rw [e]; rfl), hb.alloc hb.size _⟩
  obtain ⟨g, e, r, m1, m2, m3, m4⟩ := h.at_ i hi
  have rl := r.lt
  exact ⟨g, e, by rw [if_neg (Nat.not_lt_zero _)]; exact r.keep (hk g rl), m1, by omega, fun e2 => m3 (by rw [e2]; rfl), fun e2 => m4 (by rw [e2]; rfl)⟩
theorem LMid.drew {w1 wr : World} {B n k : Nat} {vs : List Value} {gd cd gt ct : Nat} {z : List Int} (h : LMid w1 wr B n k vs gd cd gt ct z) : LMid w1 wr.drew B n k vs gd cd gt ct z :=
  ⟨h.blk, own_stays h.d fun _ _ => rfl, own_stays h.t fun _ _ => rfl, fun i hi => by
    obtain ⟨g, e, r, m⟩ := h.at_ i hi
    exact ⟨g, e, r.keep rfl, m⟩, h.nd, h.b, h.bd, h.bt, h.dt, h.below.drew⟩
theorem LMid.step {w1 wr w' : World} {B n k g : Nat} {vs : List Value} {gd cd gt ct : Nat} {z : List Int} (h : LMid w1 wr B n k vs gd cd gt ct z) (hk : k < n) (hg : vs[k]? = some (.slice (some ⟨g, 0, none⟩) 64 64)) (hr : Row w' g (part64 z k)) (hgr : wr.grownBy w' (some g)) (hs : wr.heap.size = w'.heap.size) :
    LMid w1 w' B n (k + 1) vs gd cd gt ct z := by
  obtain ⟨g', e', r', m1, m2, m3, m4⟩ := h.at_ k hk
  rw [hg] at e'
  have hgg : g = g' := by
    injection e' with e'
    injection e' with e' _ _
    injection e' with e'
    injection e' with e' _ _
  subst hgg
  have old : ∀ j, j < wr.heap.size → j ≠ g → w'.heap[j]? = wr.heap[j]? := fun j hj hn => hgr.block j hj (fun e => hn (by injection e))
  have lB : B < wr.heap.size := (Array.getElem?_eq_some_iff.1 h.blk).1
  refine ⟨(old B lB (Ne.symm m2)).trans h.blk, own_stays h.d fun j e => old j (h.d.lt j e).2 ?_, own_stays h.t fun j e => old j (h.t.lt j e).2 ?_, fun i hi => ?_, h.nd, h.b, h.bd, h.bt, h.dt, h.below.grown hgr h.below.size (fun j e => by injection e with e; subst e; exact m1)⟩
  · have : gd = j := by simpa [Value.ownBlock] using e
    subst this; exact Ne.symm m3
  · have : gt = j := by simpa [Value.ownBlock] using e
    subst this; exact Ne.symm m4
  · by_cases hik : i = k
    · subst hik
      exact ⟨g, hg, by rw [if_pos (Nat.lt_succ_self _)]; exact hr, m1, m2, m3, m4⟩
    · obtain ⟨g2, e2, r2, q⟩ := h.at_ i hi
      have hne : g2 ≠ g := by
        intro e
        subst e
        have hil := (List.getElem?_eq_some_iff.1 e2).1
        exact hik ((List.getElem?_inj hil h.nd).1 (e2.trans hg.symm))
      refine ⟨g2, e2, ?_, q⟩
      have : (if i < k + 1 then part64 z i else zero64) = (if i < k then part64 z i else zero64) := by
        by_cases h1 : i < k
        · rw [if_pos h1, if_pos (by omega)]
        · rw [if_neg h1, if_neg (by omega)]
      rw [this]
      exact r2.keep (old g2 r2.lt hne)
theorem LMid.rf {w1 wr : World} {B n : Nat} {vs : List Value} {gd cd gt ct : Nat} {z : List Int} (h : LMid w1 wr B n n vs gd cd gt ct z) (h1 : 1 ≤ n) (h2 : n ≤ 16384) (hz : ∀ x ∈ z, 0 ≤ x ∧ x ≤ 255) (hzl : z.length = n * 64) :
    Rf (fun k => w1.heap.size ≤ k) wr B { newS n with last := tearAll (loadL z n n) [] } vs gd cd gt ct (.slice none 0 0) := by
  have hL : (loadL z n n).length = n := by simp [loadL]
  have hc : ∀ c ∈ loadL z n n, B64 c.b ∧ c.t = false := fun c hc => by
    obtain ⟨i, hi⟩ := List.getElem?_of_mem hc
    have hil : i < n := by have := (List.getElem?_eq_some_iff.1 hi).1; omega
    rw [loadL_get _ _ _ _ hil, if_pos hil] at hi
    cases hi
    exact ⟨part64_b hz (by omega), rfl⟩
  have hT : tearAll (loadL z n n) [] = loadL z n n := rfl
  rw [hT]
  refine ⟨⟨by simp [hL]; omega, by simp [hL]; omega, fun c h => (hc c h).1, by simp [newS], by simp [newS], by simp [newS]⟩, ?_, ?_, ?_, ?_, ⟨fun _ => rfl, fun hn => absurd rfl hn⟩, h.b, (h.d.lt gd rfl).1, (h.t.lt gt rfl).1, Ne.symm h.bd, Ne.symm h.bt, h.dt⟩
  · simp only [hL]; exact h.blk
  · simp only [hL]; exact own_base h.d (fun _ _ => Nat.zero_le _)
  · have e2 : ((loadL z n n).map fun c => Value.bool c.t) = List.replicate n (.bool false) := by
      rw [List.eq_replicate_iff]
      refine ⟨by simp [hL], fun v hv => ?_⟩
      obtain ⟨c, h3, rfl⟩ := List.mem_map.1 hv
      rw [(hc c h3).2]
    simp only [hL]
    rw [e2]
    exact own_base h.t (fun _ _ => Nat.zero_le _)
  · intro i c hi
    have hil : i < n := by have := (List.getElem?_eq_some_iff.1 hi).1; rw [show (({ newS n with last := loadL z n n } : St).last.length) = n from hL] at this; exact this
    simp only at hi
    rw [loadL_get _ _ _ _ hil, if_pos hil] at hi
    cases hi
    obtain ⟨g, e, r, m1, m2, m3, m4⟩ := h.at_ i hil
    rw [if_pos hil] at r
    have pb := part64_b (z := z) (i := i) hz (by omega)
    have rb := r.rb pb.byte
    rw [pb.len] at rb
    exact ⟨g, 64, e, Nat.le_refl _, rb, r.lt, m1, m2, m3, m4⟩

/-- The same rows under another header. -/
theorem Rf.rehead {F : Nat → Prop} {w W : World} {p p' : Nat} {S : St} {vs : List Value} {gd cd gt ct : Nat} {vw : Value} (h : Rf F w p S vs gd cd gt ct vw) (hk : ∀ k, k < w.heap.size → F k → W.heap[k]? = w.heap[k]?) (hs : w.heap.size ≤ W.heap.size)
    (hb : W.heap[p']? = some (.cells #[.bool true, .bool S.off, .int .i64 S.plan, .slice (some ⟨gd, 0, none⟩) S.last.length cd, .slice (some ⟨gt, 0, none⟩) S.last.length ct, vw, .int .i64 S.writes, .int .i64 S.syncs] 31 (0, 0)))
    (hp : w.heap.size ≤ p') (hF : F p') : Rf F W p' S vs gd cd gt ct vw := by
  have g := h.stays hk hs
  have ld := h.dlt
  have lt := h.tlt
  refine ⟨g.wf, hb, g.data, g.torn, fun i c hc => ?_, ?_, hF, h.fd, h.ft, by omega, by omega, h.dt⟩
  · obtain ⟨g1, cap, e, hcap, rb, lg, fg, n1, n2, n3⟩ := h.at_ i c hc
    exact ⟨g1, cap, e, hcap, rb_stays rb (hk g1 lg fg), Nat.lt_of_lt_of_le lg hs, fg, by omega, n2, n3⟩
  · refine ⟨h.wait.nil_, fun hn => ?_⟩
    obtain ⟨g1, cap, e, l1, f1, n1, n2, n3, hr⟩ := h.wait.row hn
    refine ⟨g1, cap, e, Nat.lt_of_lt_of_le l1 hs, f1, by omega, n2, n3, fun i x hx => ?_⟩
    obtain ⟨b, cb, c1, c2, hc, rb, lb, fb, m1, m2, m3⟩ := hr i x hx
    exact ⟨b, cb, (World.cell?_of_block (a := ⟨g1, i * 2, none⟩) (hk g1 l1 f1)).trans c1, (World.cell?_of_block (a := ⟨g1, i * 2 + 1, none⟩) (hk g1 l1 f1)).trans c2, hc, rb_stays rb (hk b lb fb), Nat.lt_of_lt_of_le lb hs, fb, by omega, m2, m3⟩

/-- What the reference's Load leaves. -/
def RLoadIs (w : World) (z ts : List Int) (e : Ending) (w' : World) : Prop :=
  (¬ loadGood z ts ∧ e = .returned (.tuple #[.agg #[.bool false, .bool false, .int .i64 0, .slice none 0 0, .slice none 0 0, .slice none 0 0, .int .i64 0, .int .i64 0], .int .i64 1]) ∧ Below w.heap.size w w') ∨
  (loadGood z ts ∧ ∃ n gd cd gt ct, e = .returned (.tuple #[.agg #[.bool true, .bool false, .int .i64 (-1), .slice (some ⟨gd, 0, none⟩) n cd, .slice (some ⟨gt, 0, none⟩) n ct, .slice none 0 0, .int .i64 0, .int .i64 0], .int .i64 0]) ∧ Below w.heap.size w w' ∧
    RD (fun k => w.heap.size ≤ k) (w'.alloc (.cells #[.bool true, .bool false, .int .i64 (-1), .slice (some ⟨gd, 0, none⟩) n cd, .slice (some ⟨gt, 0, none⟩) n ct, .slice none 0 0, .int .i64 0, .int .i64 0] 31)) w'.heap.size (loadS z ts))

def RNewParts (w : World) (n : Nat) (e : Ending) (w' : World) : Prop :=
  ∃ B vs gd cd gt ct, e = .returned (.tuple #[.agg #[.bool true, .bool false, .int .i64 (-1), .slice (some ⟨gd, 0, none⟩) n cd, .slice (some ⟨gt, 0, none⟩) n ct, .slice none 0 0, .int .i64 0, .int .i64 0], .int .i64 0]) ∧
    NPart w w' B n n (.slice (some ⟨gd, 0, none⟩) n cd) (.slice (some ⟨gt, 0, none⟩) n ct) vs ∧ Below w.heap.size w w'
theorem rnew_parts (w : World) (n : Nat) (h1 : 1 ≤ n) (h2 : n ≤ 16384) : Calls Try.prog 15 #[.int .i64 (n : Int)] w (RNewParts w n) := by
  refine (rnew w n (by omega)).mono ?_
  rintro e w' (⟨h, -, -⟩ | ⟨-, B, vd, vt, vs, rfl, hp, hb⟩)
  · exact absurd (by omega) h
  · rw [Int.toNat_natCast] at hp
    obtain ⟨gd, cd, rfl, -, -⟩ := hp.d.form (by omega)
    obtain ⟨gt, ct, rfl, -, -⟩ := hp.t.form (by omega)
    exact ⟨B, vs, gd, cd, gt, ct, rfl, hp, hb⟩

theorem bad_of {z ts : List Int} {t : Int} {q : Nat} (hq : z.length / 64 = q) (ht : t ∈ ts) (h : ¬ (0 ≤ t ∧ t < (q : Int))) : ¬ loadGood z ts := fun hg => h (by have := hg.2.2.2 t ht; rwa [hq] at this)

set_option maxHeartbeats 4000000 in
theorem rload (w : World) (A : Option Addr) (m c : Nat) (z : List Int) (hz : RB w A m z) (hc : m ≤ c) (hc2 : c ≤ 140737488355328) (At : Option Addr) (nt ct0 : Nat) (ts : List Int) (ht : RI w At nt ts) (hnt : nt ≤ 140737488355328) :
    Calls Try.prog 23 #[.slice A m c, .slice At nt ct0] w (RLoadIs w z ts) := by
  have hlen := hz.len
  obtain ⟨w1, hw1⟩ : ∃ W, w.alloc (.cells #[.bool false, .bool false, .int .i64 0, .slice none 0 0, .slice none 0 0, .slice none 0 0, .int .i64 0, .int .i64 0] 31) = W := ⟨_, rfl⟩
  have hs1 : w1.heap.size = w.heap.size + 1 := by rw [← hw1]; simp
  have HZ1 := Lib.hid (show w1.heap[w.heap.size]? = some (.cells z8 31 (0, 0)) by rw [← hw1]; exact heap_alloc_new _ _)
  have HB1 := Lib.hid (show Below w.heap.size w w1 by rw [← hw1]; exact (Below.refl _ _).alloc (Nat.le_refl _) _)
  have HS1 := Lib.hid hs1
  have HW1 := Lib.hid hw1
  clear hw1
  have HZ := Lib.hid hz
  have HT := Lib.hid ht
  obtain ⟨q, hq⟩ : ∃ q, m / 64 = q := ⟨_, rfl⟩
  have hdiv : (m : Int) / 64 = (q : Int) := by omega
  have HZL := Lib.hid (show z.length / 64 = q by rw [hlen]; exact hq)
  by_cases hbad : m % 64 ≠ 0 ∨ q < 1 ∨ 16384 < q
  · have HBAD := Lib.hid (show ¬ loadGood z ts from fun h => by
      have h1 := h.1
      have h2 := h.2.1
      have h3 := h.2.2.1
      rw [HZL.out] at h2 h3
      rw [hlen] at h1
      omega)
    have hcase : ((m : Int) % 64 != 0) = true ∨ (((m : Int) % 64 != 0) = false ∧ (decide ((q : Int) < 1) = true ∨ (decide ((q : Int) < 1) = false ∧ decide ((16384 : Int) < (q : Int)) = true))) := by
      rcases Nat.eq_zero_or_pos (m % 64) with h0 | h0
      · right
        refine ⟨by simp; omega, ?_⟩
        by_cases h1 : q < 1
        · left; simp; omega
        · right; exact ⟨by simp; omega, by simp; omega⟩
      · left; simp; omega
    clear hbad hq hlen hz ht hs1
    go_enter Try.func23, Try.ntmps23
    rcases hcase with h1 | ⟨h1, h2 | ⟨h2, h3⟩⟩
    · go_wp2
      exact bodyPost_ret (v := .tuple #[.agg #[.bool false, .bool false, .int .i64 0, .slice none 0 0, .slice none 0 0, .slice none 0 0, .int .i64 0, .int .i64 0], .int .i64 1]) (by simp [results, Try.results23, go_sem]) rfl (.inl ⟨HBAD.out, rfl, (Below.refl _ _).alloc (Nat.le_refl _) _⟩)
    · go_wp2
      exact bodyPost_ret (v := .tuple #[.agg #[.bool false, .bool false, .int .i64 0, .slice none 0 0, .slice none 0 0, .slice none 0 0, .int .i64 0, .int .i64 0], .int .i64 1]) (by simp [results, Try.results23, go_sem]) rfl (.inl ⟨HBAD.out, rfl, (Below.refl _ _).alloc (Nat.le_refl _) _⟩)
    · go_wp2
      exact bodyPost_ret (v := .tuple #[.agg #[.bool false, .bool false, .int .i64 0, .slice none 0 0, .slice none 0 0, .slice none 0 0, .int .i64 0, .int .i64 0], .int .i64 1]) (by simp [results, Try.results23, go_sem]) rfl (.inl ⟨HBAD.out, rfl, (Below.refl _ _).alloc (Nat.le_refl _) _⟩)
  · obtain ⟨h64, hq1, hq2⟩ : m % 64 = 0 ∧ 1 ≤ q ∧ q ≤ 16384 := by omega
    have hmod : (m : Int) % 64 = 0 := by omega
    have hqa : decide ((q : Int) < 1) = false := by simp; omega
    have hqb : decide ((16384 : Int) < (q : Int)) = false := by simp; omega
    have HMQ := Lib.hid (show m = q * 64 by omega)
    have HM64 := Lib.hid (show z.length % 64 = 0 by rw [hlen]; exact h64)
    have HQ1 := Lib.hid hq1
    have HQ2 := Lib.hid hq2
    have HLN := Lib.hid hlen
    clear hbad h64 hq hlen hz ht hs1
    go_enter Try.func23, Try.ntmps23
    go_wp2
    go_loopw [7] (fun i wr => ∃ k : Nat, i = .int .i64 (k : Nat) ∧ k ≤ nt ∧ w.alloc (.cells #[.bool false, .bool false, .int .i64 0, .slice none 0 0, .slice none 0 0, .slice none 0 0, .int .i64 0, .int .i64 0] 31) = wr ∧ ∀ t ∈ ts.take k, 0 ≤ t ∧ t < (q : Int)) (fun i _ => nt - (intOf i).toNat)
    case atStart => exact ⟨0, rfl, Nat.zero_le _, rfl, by simp⟩
    case round =>
      obtain ⟨k, rfl, hk, rfl, hgood⟩ := hrel
      by_cases hlt : k < nt
      · obtain ⟨b2, o2, rfl, hcell⟩ := ((HT.out.below HB1.out).cell (by omega))
        rw [← HW1.out] at hcell
        obtain ⟨t, htj⟩ : ∃ t, ts[k]? = some t := ⟨_, List.getElem?_eq_getElem (by rw [HT.out.len]; exact hlt)⟩
        have hcj := hcell k hlt
        rw [show ts.getD k 0 = t by rw [List.getD_eq_getElem?_getD, htj]; rfl] at hcj
        have hki : (k : Int) < (nt : Int) := by omega
        have HTM := Lib.hid (List.mem_of_getElem? htj)
        have HK := Lib.hid hlt
        by_cases hg : 0 ≤ t ∧ t < (q : Int)
        · have HG2 := Lib.hid (show ∀ t ∈ ts.take (k + 1), 0 ≤ t ∧ t < (q : Int) by
            intro t' ht'
            rw [List.take_add_one, htj] at ht'
            rcases List.mem_append.1 ht' with h1 | h1
            · exact hgood t' h1
            · simp at h1; subst h1; exact hg)
          have g1 : decide (t < 0) = false := by simp; omega
          have g2 : decide ((q : Int) ≤ t) = false := by simp; omega
          clear hgood hcell htj hg
          go_wp2
          go_roundw
          case rel => exact ⟨k + 1, by go_num, HK.out, trivial, HG2.out⟩
          case measure => have := HK.out; simp [intOf]; omega
        · have HBAD := Lib.hid (bad_of HZL.out HTM.out hg)
          have hg3 : t < 0 ∨ (¬ t < 0 ∧ (q : Int) ≤ t) := by omega
          clear hgood hcell htj hg
          rcases hg3 with g1 | ⟨g1, g2⟩
          · go_wp2
            exact bodyPost_ret (v := .tuple #[.agg #[.bool false, .bool false, .int .i64 0, .slice none 0 0, .slice none 0 0, .slice none 0 0, .int .i64 0, .int .i64 0], .int .i64 1]) (by simp [results, Try.results23, go_sem]) rfl (.inl ⟨HBAD.out, rfl, (Below.refl _ _).alloc (Nat.le_refl _) _⟩)
          · have g1' : decide (t < 0) = false := by simp; omega
            clear g1
            go_wp2
            exact bodyPost_ret (v := .tuple #[.agg #[.bool false, .bool false, .int .i64 0, .slice none 0 0, .slice none 0 0, .slice none 0 0, .int .i64 0, .int .i64 0], .int .i64 1]) (by simp [results, Try.results23, go_sem]) rfl (.inl ⟨HBAD.out, rfl, (Below.refl _ _).alloc (Nat.le_refl _) _⟩)
      · obtain rfl : k = nt := by omega
        have htake : ts.take k = ts := List.take_of_length_le (by rw [HT.out.len]; exact Nat.le_refl _)
        rw [htake] at hgood
        have HGOOD := Lib.hid hgood
        clear hgood htake
        rw [HW1.out]
        go_upto_region 10 with (go_at_call 15; go_loud (refine (rnew_parts w1 q HQ1.out HQ2.out).mono ?_; rintro e w2 ⟨B', vs, gd, cd, gt, ct, rfl, hp, hb2⟩; have L0' := Lib.hid (LMid.start (z := z) hp hb2); clear hp hb2))
        obtain ⟨w3, hw3⟩ : ∃ W, w2.alloc (.cells #[.bool true, .bool false, .int .i64 (-1), .slice (some ⟨gd, 0, none⟩) q cd, .slice (some ⟨gt, 0, none⟩) q ct, .slice none 0 0, .int .i64 0, .int .i64 0] 31) = W := ⟨_, rfl⟩
        have L0 := Lib.hid (show LMid w1 w3 w2.heap.size q 0 vs gd cd gt ct z by rw [← hw3]; exact L0'.out)
        rw [hw3]
        clear hw3 L0'
        go_wp2
        go_loopw [10] (fun i wr => ∃ k : Nat, i = .int .i64 (k : Nat) ∧ k ≤ q ∧ LMid w1 wr w2.heap.size q k vs gd cd gt ct z) (fun i _ => q - (intOf i).toNat)
        case atStart => exact ⟨0, rfl, Nat.zero_le _, L0.out⟩
        case round =>
          obtain ⟨j, rfl, hj, hM⟩ := hrel
          by_cases hjq : j < q
          · obtain ⟨b, o, rfl⟩ : ∃ b o, A = some ⟨b, o, none⟩ := by
              obtain ⟨ad, rfl, -⟩ := HZ.out.cell (by have := HMQ.out; omega)
              obtain ⟨b, o, rfl⟩ := spot_add (w := w) (rb_spot HZ.out (by have := HMQ.out; omega)).1
              exact ⟨b, o, rfl⟩
            have hd := hM.drew
            obtain ⟨g, hg, hrow, m1, m2, m3, m4⟩ := hd.at_ j hjq
            rw [if_neg (Nat.lt_irrefl j)] at hrow
            have c3 : wr.drew.cell? ⟨w2.heap.size, 3, none⟩ = some (.slice (some ⟨gd, 0, none⟩) q cd) := by rw [cell_of_row _ _ _ _ _ _ hd.blk]; rfl
            have dj : wr.drew.cell? ⟨gd, j, none⟩ = some (.slice (some ⟨g, 0, none⟩) 64 64) := by rw [hd.d.cellAt j (by omega)]; exact hg
            have hpb := part64_b (z := z) (i := j) HZ.out.byte (by have h1 := HMQ.out; have h2 := HLN.out; omega)
            have hB : Below w.heap.size w wr.drew := HB1.out.trans (hd.below.mono HB1.out.size)
            have hrb : RB wr.drew (some ⟨b, o + j * 64, none⟩) 64 (part64 z j) := by
              have h1 := ((HZ.out.below' hB).cut (k := j * 64) (by have := HMQ.out; omega) m (Nat.le_refl _)).take (k := 64) (by have := HMQ.out; omega)
              by_cases e : m = j * 64
              · have := HMQ.out; omega
              · rw [if_neg e, Option.map_some, Addr.add_mid] at h1
                exact h1
            have HRB := Lib.hid hrb
            have HM := Lib.hid hd
            have HG := Lib.hid hg
            have HROW := Lib.hid hrow
            have HPB := Lib.hid hpb.len
            have HJ := Lib.hid hjq
            have hq1 : (j : Int) < (q : Int) := by omega
            have hq2 : (j : Int) * 64 ≤ (m : Int) := by have := HMQ.out; omega
            have hq3 : ¬ c = j * 64 := by have := HMQ.out; omega
            have hq5 : (j : Int) * 64 ≤ 9223372036854775807 := by omega
            have hq6 : j * 64 ≤ m := by have := HMQ.out; omega
            have hq7 : ((j : Int) * 64).toNat = j * 64 := by omega
            have hq8 : IntKind.i64.wrap ((j : Int) * 64) = (j : Int) * 64 := by rw [IntKind.wrap_i64]; omega
            have hq9 : (0 : Int) ≤ (j : Int) * 64 := by omega
            have hq10 : 64 ≤ m - j * 64 := by have := HMQ.out; omega
            have HQ10 := Lib.hid hq10
            clear hM hd hg hrow m1 m2 m3 m4 hpb hB hrb hjq
            go_wp2
            refine wp_region_still_tail 9 (by kernel_rfl) (by kernel_rfl) ?_
            simp only [List.take_succ_cons, List.take_zero, List.drop_succ_cons, List.drop_zero]
            change wpStill _ _ wr.drew _ _ _
            iterate 9 still_step
            refine wpStill_nil ?_
            change wpList _ _ _ _ _ wr.drew
            refine row_copy_in rfl (.tmp 62) (.tmp 66) rfl (some ⟨b, o + j * 64, none⟩) g 64 (m - j * 64) (c - j * 64) 64 rfl rfl (by decide) HQ10.out zero64 HROW.out b64_zero.len (part64 z j) HRB.out ?_
            intro w5 h5 hs5 hg5
            have HN := Lib.hid (HM.out.step HJ.out HG.out h5 hg5 hs5)
            clear h5 hs5 hg5 c3 dj
            go_wp2
            go_roundw
            case rel => exact ⟨j + 1, by go_num, HJ.out, HN.out⟩
            case measure => have := HJ.out; simp [intOf]; omega
          · obtain rfl : j = q := by omega
            have HF := Lib.hid (hM.rf HQ1.out HQ2.out HZ.out.byte (by have h1 := HMQ.out; have h2 := HLN.out; omega))
            have HB := Lib.hid hM.below
            clear hM hjq
            go_wp2
            go_loopw [11] (fun i wr => ∃ (k' : Nat) (vs' : List Value), i = .int .i64 (k' : Nat) ∧ k' ≤ k ∧ Rf (fun k => w1.heap.size ≤ k) wr w2.heap.size { newS j with last := tearAll (loadL z j j) (ts.take k') } vs' gd cd gt ct (.slice none 0 0) ∧ Below w1.heap.size w1 wr) (fun i _ => k - (intOf i).toNat)
            case atStart => exact ⟨0, vs, rfl, Nat.zero_le _, HF.out, HB.out⟩
            case round =>
              obtain ⟨i, vs', rfl, hi, hR, hBl⟩ := hrel
              have hlen : (tearAll (loadL z j j) (ts.take i)).length = j := by rw [tearAll_len]; simp [loadL]
              by_cases hik : i < k
              · have hBw : Below w.heap.size w wr := HB1.out.trans (hBl.mono HB1.out.size)
                obtain ⟨b2, o2, rfl, hcell⟩ := (HT.out.below hBw).cell (by omega)
                obtain ⟨t, htj⟩ : ∃ t, ts[i]? = some t := ⟨_, List.getElem?_eq_getElem (by rw [HT.out.len]; exact hik)⟩
                have hcj := hcell i hik
                rw [show ts.getD i 0 = t by rw [List.getD_eq_getElem?_getD, htj]; rfl] at hcj
                have hki : (i : Int) < (k : Int) := by omega
                have hg := HGOOD.out t (List.mem_of_getElem? htj)
                obtain ⟨tn, rfl⟩ := Int.eq_ofNat_of_zero_le hg.1
                have CT := Lib.hid (rtear hR tn (by show tn < (tearAll (loadL z j j) (ts.take i)).length; rw [hlen]; omega))
                have HS := Lib.hid (show (tearAll (loadL z j j) (ts.take i)).set tn ⟨zero64, true⟩ = tearAll (loadL z j j) (ts.take (i + 1)) by rw [List.take_add_one, htj]; exact (tearAll_snoc _ _ (tn : Int)).symm)
                have HK := Lib.hid hik
                have HBL := Lib.hid hBl
                clear hR hBl hBw hcell htj hg hik hlen
                go_wp2_with (go_at_call 68; go_loud (refine CT.out.mono ?_; rintro e w6 ⟨rfl, ⟨vs6, h6⟩, o6⟩; have H6 := Lib.hid h6; have O6 := Lib.hid o6; clear h6 o6))
                go_roundw
                case rel =>
                  refine ⟨i + 1, vs6, by go_num, HK.out, ?_, HBL.out.trans (O6.out.below HBL.out.size (fun i hi hf => by omega))⟩
                  rw [← HS.out]
                  exact H6.out.mono (fun k _ hf => by
                    rcases hf with hf | hf
                    · exact hf
                    · exact Nat.le_trans HBL.out.size hf)
                case measure => have := HK.out; simp [intOf]; omega
              · obtain rfl : i = k := by omega
                have htake : ts.take i = ts := List.take_of_length_le (by rw [HT.out.len]; exact Nat.le_refl _)
                rw [htake] at hR hlen
                have hS : ({ newS j with last := tearAll (loadL z j j) ts } : St) = loadS z ts := by unfold loadS; rw [HZL.out]; rfl
                have HL0 : (loadS z ts).last.length = j := by rw [← hS]; exact hlen
                rw [hS] at hR
                have hz : wr.heap[w.heap.size]? = some (.cells z8 31 (0, 0)) := (hBl.block _ (by have := HS1.out; omega)).trans HZ1.out
                have hbk : wr.heap[w2.heap.size]? = some (.cells #[.bool true, .bool false, .int .i64 (-1), .slice (some ⟨gd, 0, none⟩) j cd, .slice (some ⟨gt, 0, none⟩) j ct, .slice none 0 0, .int .i64 0, .int .i64 0] 31 (0, 0)) := by have := hR.blk; rw [HL0] at this; exact this
                have c0 : wr.cell? ⟨w2.heap.size, 0, none⟩ = some (.bool true) := by rw [cell_of_row _ _ _ _ _ _ hbk]; rfl
                have c1 : wr.cell? ⟨w2.heap.size, 1, none⟩ = some (.bool false) := by rw [cell_of_row _ _ _ _ _ _ hbk]; rfl
                have c2 : wr.cell? ⟨w2.heap.size, 2, none⟩ = some (.int .i64 (-1)) := by rw [cell_of_row _ _ _ _ _ _ hbk]; rfl
                have c3 : wr.cell? ⟨w2.heap.size, 3, none⟩ = some (.slice (some ⟨gd, 0, none⟩) j cd) := by rw [cell_of_row _ _ _ _ _ _ hbk]; rfl
                have c4 : wr.cell? ⟨w2.heap.size, 4, none⟩ = some (.slice (some ⟨gt, 0, none⟩) j ct) := by rw [cell_of_row _ _ _ _ _ _ hbk]; rfl
                have c5 : wr.cell? ⟨w2.heap.size, 5, none⟩ = some (.slice none 0 0) := by rw [cell_of_row _ _ _ _ _ _ hbk]; rfl
                have c6 : wr.cell? ⟨w2.heap.size, 6, none⟩ = some (.int .i64 0) := by rw [cell_of_row _ _ _ _ _ _ hbk]; rfl
                have c7 : wr.cell? ⟨w2.heap.size, 7, none⟩ = some (.int .i64 0) := by rw [cell_of_row _ _ _ _ _ _ hbk]; rfl
                have d0 : wr.cell? ⟨w.heap.size, 0, none⟩ = some (.bool false) := by rw [cell_of_row _ _ _ _ _ _ hz]; rfl
                have e0 : wr.frozen? ⟨w.heap.size, 0, none⟩ = false := frozen_of_row _ _ _ _ _ hz
                have d1 : wr.cell? ⟨w.heap.size, 1, none⟩ = some (.bool false) := by rw [cell_of_row _ _ _ _ _ _ hz]; rfl
                have e1 : wr.frozen? ⟨w.heap.size, 1, none⟩ = false := frozen_of_row _ _ _ _ _ hz
                have d2 : wr.cell? ⟨w.heap.size, 2, none⟩ = some (.int .i64 0) := by rw [cell_of_row _ _ _ _ _ _ hz]; rfl
                have e2 : wr.frozen? ⟨w.heap.size, 2, none⟩ = false := frozen_of_row _ _ _ _ _ hz
                have d3 : wr.cell? ⟨w.heap.size, 3, none⟩ = some (.slice none 0 0) := by rw [cell_of_row _ _ _ _ _ _ hz]; rfl
                have e3 : wr.frozen? ⟨w.heap.size, 3, none⟩ = false := frozen_of_row _ _ _ _ _ hz
                have d4 : wr.cell? ⟨w.heap.size, 4, none⟩ = some (.slice none 0 0) := by rw [cell_of_row _ _ _ _ _ _ hz]; rfl
                have e4 : wr.frozen? ⟨w.heap.size, 4, none⟩ = false := frozen_of_row _ _ _ _ _ hz
                have d5 : wr.cell? ⟨w.heap.size, 5, none⟩ = some (.slice none 0 0) := by rw [cell_of_row _ _ _ _ _ _ hz]; rfl
                have e5 : wr.frozen? ⟨w.heap.size, 5, none⟩ = false := frozen_of_row _ _ _ _ _ hz
                have d6 : wr.cell? ⟨w.heap.size, 6, none⟩ = some (.int .i64 0) := by rw [cell_of_row _ _ _ _ _ _ hz]; rfl
                have e6 : wr.frozen? ⟨w.heap.size, 6, none⟩ = false := frozen_of_row _ _ _ _ _ hz
                have d7 : wr.cell? ⟨w.heap.size, 7, none⟩ = some (.int .i64 0) := by rw [cell_of_row _ _ _ _ _ _ hz]; rfl
                have e7 : wr.frozen? ⟨w.heap.size, 7, none⟩ = false := frozen_of_row _ _ _ _ _ hz
                obtain ⟨W8, hW8⟩ : ∃ W, ((((((((wr.setCell ⟨w.heap.size, 0, none⟩ (.bool true)).setCell ⟨w.heap.size, 1, none⟩ (.bool false)).setCell ⟨w.heap.size, 2, none⟩ (.int .i64 (-1))).setCell ⟨w.heap.size, 3, none⟩ (.slice (some ⟨gd, 0, none⟩) j cd)).setCell ⟨w.heap.size, 4, none⟩ (.slice (some ⟨gt, 0, none⟩) j ct)).setCell ⟨w.heap.size, 5, none⟩ (.slice none 0 0)).setCell ⟨w.heap.size, 6, none⟩ (.int .i64 0)).setCell ⟨w.heap.size, 7, none⟩ (.int .i64 0)) = W := ⟨_, rfl⟩
                have q8 : W8.heap[w.heap.size]? = some (.cells #[.bool true, .bool false, .int .i64 (-1), .slice (some ⟨gd, 0, none⟩) j cd, .slice (some ⟨gt, 0, none⟩) j ct, .slice none 0 0, .int .i64 0, .int .i64 0] 31 (0, 0)) := by
                  rw [← hW8, blk_set (blk_set (blk_set (blk_set (blk_set (blk_set (blk_set (blk_set hz 0 _) 1 _) 2 _) 3 _) 4 _) 5 _) 6 _) 7 _]
                  rfl
                have g0 : W8.cell? ⟨w.heap.size, 0, none⟩ = some (.bool true) := by rw [cell_of_row _ _ _ _ _ _ q8]; rfl
                have g1 : W8.cell? ⟨w.heap.size, 1, none⟩ = some (.bool false) := by rw [cell_of_row _ _ _ _ _ _ q8]; rfl
                have g2 : W8.cell? ⟨w.heap.size, 2, none⟩ = some (.int .i64 (-1)) := by rw [cell_of_row _ _ _ _ _ _ q8]; rfl
                have g3 : W8.cell? ⟨w.heap.size, 3, none⟩ = some (.slice (some ⟨gd, 0, none⟩) j cd) := by rw [cell_of_row _ _ _ _ _ _ q8]; rfl
                have g4 : W8.cell? ⟨w.heap.size, 4, none⟩ = some (.slice (some ⟨gt, 0, none⟩) j ct) := by rw [cell_of_row _ _ _ _ _ _ q8]; rfl
                have g5 : W8.cell? ⟨w.heap.size, 5, none⟩ = some (.slice none 0 0) := by rw [cell_of_row _ _ _ _ _ _ q8]; rfl
                have g6 : W8.cell? ⟨w.heap.size, 6, none⟩ = some (.int .i64 0) := by rw [cell_of_row _ _ _ _ _ _ q8]; rfl
                have g7 : W8.cell? ⟨w.heap.size, 7, none⟩ = some (.int .i64 0) := by rw [cell_of_row _ _ _ _ _ _ q8]; rfl
                have HW8 := Lib.hid (show ∀ j, j ≠ w.heap.size → W8.heap[j]? = wr.heap[j]? from fun j hj => by
                  rw [← hW8]
                  iterate 8 rw [heap_setCell_ne _ _ _ _ j hj]
                )
                have HB8 := Lib.hid (show Below w.heap.size w W8 by
                  rw [← hW8]
                  exact ((((((((HB1.out.trans (hBl.mono HB1.out.size)).setCell (p := ⟨w.heap.size, 0, none⟩) (Nat.le_refl _) _).setCell (p := ⟨w.heap.size, 1, none⟩) (Nat.le_refl _) _).setCell (p := ⟨w.heap.size, 2, none⟩) (Nat.le_refl _) _).setCell (p := ⟨w.heap.size, 3, none⟩) (Nat.le_refl _) _).setCell (p := ⟨w.heap.size, 4, none⟩) (Nat.le_refl _) _).setCell (p := ⟨w.heap.size, 5, none⟩) (Nat.le_refl _) _).setCell (p := ⟨w.heap.size, 6, none⟩) (Nat.le_refl _) _).setCell (p := ⟨w.heap.size, 7, none⟩) (Nat.le_refl _) _)
                have HR := Lib.hid hR
                have HBS := Lib.hid hBl.size
                have HWS := Lib.hid (show wr.heap.size ≤ W8.heap.size by rw [← hW8]; simp [World.setCell])
                have HGD := Lib.hid (show loadGood z ts from ⟨HM64.out, by rw [HZL.out]; exact HQ1.out, by rw [HZL.out]; exact HQ2.out, by rw [HZL.out]; exact HGOOD.out⟩)
                clear hR hz hbk q8 hlen hS htake hBl hik
                go_wp2
                refine bodyPost_ret (v := .tuple #[.agg #[.bool true, .bool false, .int .i64 (-1), .slice (some ⟨gd, 0, none⟩) j cd, .slice (some ⟨gt, 0, none⟩) j ct, .slice none 0 0, .int .i64 0, .int .i64 0], .int .i64 0]) (by simp [results, Try.results23, go_sem, g0, g1, g2, g3, g4, g5, g6, g7]) rfl ?_
                refine .inr ⟨HGD.out, j, gd, cd, gt, ct, rfl, HB8.out, vs', gd, cd, gt, ct, .slice none 0 0, ?_⟩
                have hss := HS1.out
                refine (HR.out.rehead (W := W8.alloc (.cells #[.bool true, .bool false, .int .i64 (-1), .slice (some ⟨gd, 0, none⟩) j cd, .slice (some ⟨gt, 0, none⟩) j ct, .slice none 0 0, .int .i64 0, .int .i64 0] 31)) (p' := W8.heap.size) (fun k hk hf => ?_) ?_ ?_ HWS.out ?_).mono (fun k _ hf => Nat.le_trans HB1.out.size hf)
                · exact (Below.heap_alloc _ _ _ (Nat.lt_of_lt_of_le hk HWS.out)).trans (HW8.out k (by omega))
                · exact Nat.le_trans HWS.out (by simp)
                · rw [HL0]; exact heap_alloc_new _ _
                · exact Nat.le_trans HBS.out HWS.out
end Go.Proofs.Ytapjgancaldgaaa
