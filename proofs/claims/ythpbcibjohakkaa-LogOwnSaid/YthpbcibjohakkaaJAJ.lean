import Derived.Test.YthpbcibjohakkaaJAI
import Derived.Shelf.Bytes.SlEqualAll
/- The call of Load. -/
namespace Go.Proofs.Ythpbcibjohakkaa
set_option maxRecDepth 100000
open Go.RowKit

theorem putL_more (xs vs : List Value) (o : Nat) (v : Value) (h : xs[o + vs.length]? = some v) : putL xs o (vs ++ [v]) = putL xs o vs := by
  have hl : o + vs.length < xs.length := (List.getElem?_eq_some_iff.1 h).1
  apply List.ext_getElem?
  intro j
  rw [putL_get _ _ _ _ (by simp; omega), putL_get _ _ _ _ (by omega)]
  simp only [List.length_append, List.length_cons, List.length_nil]
  by_cases h1 : o ≤ j ∧ j < o + vs.length
  · rw [if_pos (by omega), if_pos h1, List.getElem?_append_left (by omega)]
  · rw [if_neg h1]
    by_cases h2 : j = o + vs.length
    · subst h2
      rw [if_pos (by omega), List.getElem?_append_right (by omega), h]
      simp
    · rw [if_neg (by omega)]

section
variable {F : Nat → Prop} {w : World} {d : Nat} {S : St} {nw : List Int} {vl vp vn : Value}
/-- One block's bytes anew. -/
theorem Dv.setBytes {g cap : Nat} (h : Dv F w d S nw (.slice (some ⟨g, 0, none⟩) S.last.length cap) vp vn) (i : Nat) {c : Cn} (hi : S.last[i]? = some c) (zs : List Int) (hz : B64 zs) :
    Dv F (w.setCells g (i * 65) (bc zs)) d { S with last := S.last.set i ⟨zs, c.t⟩ } nw (.slice (some ⟨g, 0, none⟩) S.last.length cap) vp vn := by
  have hil : i < S.last.length := (List.getElem?_eq_some_iff.1 hi).1
  have hic : S.last[i] = c := (List.getElem?_eq_some_iff.1 hi).2
  have ho := heap_setCells g (bc zs) (i * 65) w
  have hg : ∀ k, k = g → F k ∧ k ≠ d := fun k e => h.fl k (by rw [e]; rfl)
  have hs : ∀ x ∈ S.last, x.cells.length = 65 := fun x hx => Cn.len (h.wf.lb x hx)
  have h1 := own_setCells (bc zs) (i * 65) h.last
  have e0 : (S.last.flatMap Cn.cells)[i * 65 + (bc zs).length]? = some (.bool c.t) := by
    rw [bc_len, hz.len, flat_get _ hs i 64 (by omega), hi]
    have hcb := h.wf.lb c (List.mem_of_getElem? hi)
    simp [Cn.cells, List.getElem?_append_right, bc_len, hcb.len]
  rw [← putL_more _ _ _ _ e0, show bc zs ++ [Value.bool c.t] = Cn.cells ⟨zs, c.t⟩ from rfl, flat_put S.last hs i hil ⟨zs, c.t⟩ (Cn.len hz)] at h1
  refine ⟨⟨by simpa using h.wf.lo, by simpa using h.wf.hi, fun x hx => ?_, h.wf.pb, by simpa using h.wf.pp, h.wf.pl⟩, (ho d (fun e => (hg d e).2 rfl)).trans h.blk, by simpa using h1, own_stays h.pend fun k e => ho k (fun e2 => (h.fp k e).2.2 (by rw [e2]; rfl)),
    by simpa using own_stays h.newest fun k e => ho k (fun e2 => (h.fn k e).2.2.1 (by rw [e2]; rfl)), h.pnil, h.fd, h.fl, h.fp, h.fn⟩
  rcases List.mem_or_eq_of_mem_set hx with hx | rfl
  · exact h.wf.lb x hx
  · exact hz
end

/-- Block i of an image. -/
def part64 (z : List Int) (i : Nat) : List Int := (z.drop (i * 64)).take 64
/-- The first k blocks of an image of n, the others noughts. -/
def loadL (z : List Int) (n k : Nat) : List Cn := (List.range n).map fun i => if i < k then ⟨part64 z i, false⟩ else ⟨zero64, false⟩
theorem loadL_zero (z : List Int) (n : Nat) : loadL z n 0 = newL n := by
  unfold loadL newL
  apply List.ext_getElem?
  intro i
  simp [List.getElem?_replicate]
  by_cases h : i < n <;> simp [h]
theorem loadL_get (z : List Int) (n k i : Nat) (h : i < n) : (loadL z n k)[i]? = some (if i < k then ⟨part64 z i, false⟩ else ⟨zero64, false⟩) := by
  simp [loadL, h]
theorem loadL_step (z : List Int) (n k : Nat) (h : k < n) : (loadL z n k).set k ⟨part64 z k, false⟩ = loadL z n (k + 1) := by
  apply List.ext_getElem?
  intro i
  by_cases hi : i < n
  · rw [loadL_get _ _ _ _ hi, List.getElem?_set]
    by_cases e : k = i
    · subst e; simp [loadL, h]
    · rw [if_neg e, loadL_get _ _ _ _ hi]
      congr 1
      by_cases h1 : i < k
      · rw [if_pos h1, if_pos (by omega)]
      · rw [if_neg h1, if_neg (by omega)]
  · rw [List.getElem?_eq_none (by simp [loadL]; omega), List.getElem?_eq_none (by simp [loadL]; omega)]
theorem part64_b {z : List Int} {i : Nat} (hb : ∀ x ∈ z, 0 ≤ x ∧ x ≤ 255) (h : i * 64 + 64 ≤ z.length) : B64 (part64 z i) :=
  ⟨by simp [part64]; omega, fun x hx => hb x (List.mem_of_mem_drop (List.mem_of_mem_take hx))⟩
def tearAll (l : List Cn) (ts : List Int) : List Cn := ts.foldl (fun l t => l.set t.toNat ⟨zero64, true⟩) l
theorem tearAll_snoc (l : List Cn) (ts : List Int) (t : Int) : tearAll l (ts ++ [t]) = (tearAll l ts).set t.toNat ⟨zero64, true⟩ := by simp [tearAll]
theorem tearAll_len (ts : List Int) : ∀ l : List Cn, (tearAll l ts).length = l.length := by
  induction ts with
  | nil => intro l; rfl
  | cons t r ih => intro l; show (tearAll (l.set _ _) r).length = _; rw [ih]; simp

def loadGood (z ts : List Int) : Prop := z.length % 64 = 0 ∧ 1 ≤ z.length / 64 ∧ z.length / 64 ≤ 16384 ∧ ∀ t ∈ ts, 0 ≤ t ∧ t < ((z.length / 64 : Nat) : Int)
def loadS (z ts : List Int) : St := ⟨tearAll (loadL z (z.length / 64) (z.length / 64)) ts, [], false, -1, 0, 0⟩
/-- What Load leaves. -/
def LoadIs (w : World) (z ts : List Int) (e : Ending) (w' : World) : Prop :=
  (¬ loadGood z ts ∧ e = .returned (.tuple #[.pointer none, .int .i64 1]) ∧ Below w.heap.size w w') ∨
  (loadGood z ts ∧ ∃ d, e = .returned (.tuple #[.pointer (some ⟨d, 0, none⟩), .int .i64 0]) ∧ PD (fun k => w.heap.size ≤ k) w' d (loadS z ts) ∧ Below w.heap.size w w')

theorem load_store {F : Nat → Prop} {w : World} {d : Nat} {S : St} {nw : List Int} {vp vn : Value} {g cap : Nat} (h : Dv F w d S nw (.slice (some ⟨g, 0, none⟩) S.last.length cap) vp vn) (i : Nat) {c : Cn} (hi : S.last[i]? = some c) (zs : List Int) (hz : B64 zs) :
    (storeCells ⟨g, i * 65, none⟩ (bc zs) 0).run Try.prog w = .ok () (w.setCells g (i * 65) (bc zs)) := by
  have hil : i < S.last.length := (List.getElem?_eq_some_iff.1 hi).1
  refine run_storeInto _ _ _ _ (own_there h.last _ _ ?_) (bc_one zs)
  rw [bc_len, hz.len, flat_len' S.last (fun y hy => Cn.len (h.wf.lb y hy))]
  omega
theorem torn_store {F : Nat → Prop} {w : World} {d : Nat} {S : St} {nw : List Int} {vp vn : Value} {g cap : Nat} (h : Dv F w d S nw (.slice (some ⟨g, 0, none⟩) S.last.length cap) vp vn) (i : Nat) (hil : i < S.last.length) :
    (storeCells ⟨g, i * 65, none⟩ (z80.toList.set 64 (.bool true)) 0).run Try.prog w = .ok () (w.setCells g (i * 65) (Cn.cells ⟨zero64, true⟩)) := by
  have e : z80.toList.set 64 (.bool true) = Cn.cells ⟨zero64, true⟩ := by
    have := congrArg Array.toList z80_torn
    simpa using this
  rw [e]
  refine run_storeInto _ _ _ _ (own_there h.last _ _ ?_) (Cn.one _)
  rw [Cn.len b64_zero, flat_len' S.last (fun y hy => Cn.len (h.wf.lb y hy))]
  omega

set_option maxHeartbeats 2000000 in
theorem dload (w : World) (A : Option Addr) (m c : Nat) (z : List Int) (hz : RB w A m z) (hc : m ≤ c) (hc2 : c ≤ 140737488355328) (At : Option Addr) (nt ct : Nat) (ts : List Int) (ht : RI w At nt ts) (hnt : nt ≤ 140737488355328) :
    Calls Try.prog 15 #[.slice A m c, .slice At nt ct] w (LoadIs w z ts) := by
  have hlen := hz.len
  by_cases h64 : m % 64 = 0
  · obtain ⟨q, hq⟩ : ∃ q, m / 64 = q := ⟨_, rfl⟩
    have cn := dnew w (q : Int) (by omega)
    have hdiv : (m : Int) / 64 = (q : Int) := by omega
    have hmod : (m : Int) % 64 = 0 := by omega
    have HZL := Lib.hid (show z.length / 64 = q by rw [hlen]; exact hq)
    have HM64 := Lib.hid (show z.length % 64 = 0 by rw [hlen]; exact h64)
    have HMQ := Lib.hid (show m = q * 64 by omega)
    have HLN := Lib.hid hlen
    by_cases hin : 1 ≤ q ∧ q ≤ 16384
    · have HT := Lib.hid ht.len
      have HTR := Lib.hid ht
      have HIN := Lib.hid hin
      clear hlen hq h64
      go_enter Try.func15, Try.ntmps15
      go_wp2_with (go_at_call 24; refine cn.mono ?_; rintro e w1 (⟨h, -, -⟩ | ⟨-, d, rfl, h1, b1⟩); exact absurd (by omega) h; rw [Int.toNat_natCast] at h1; have B1 := Lib.hid b1; obtain ⟨nw, vl, vp, vn, hv, hnw⟩ := h1; obtain ⟨gl, capl, rfl, -, -⟩ := hv.lform; have hnl : (newS q).last.length = q := (by simp [newS, newL]); rw [hnl] at hv; have c0 := hv.c0; have HV := Lib.hid hv; have HNW := Lib.hid hnw; have HNP := Lib.hid hv.pnil; clear hv hnw b1 hnl)
      go_loopw [8, 30] (fun _ i wr => ∃ k : Nat, i = .int .i64 (k : Nat) ∧ k ≤ q ∧ Dv (fun k => w.heap.size ≤ k) wr d { newS q with last := loadL z q k } nw (.slice (some ⟨gl, 0, none⟩) q capl) vp vn ∧ Below w.heap.size w wr) (fun _ i _ => q - (intOf i).toNat)
      case atStart => exact ⟨0, rfl, Nat.zero_le _, by rw [loadL_zero]; exact HV.out, B1.out⟩
      case round =>
        obtain ⟨k, rfl, hk, hd, hB⟩ := hrel
        have hll : (loadL z q k).length = q := by simp [loadL]
        by_cases hlt : k < q
        · obtain ⟨ad, rfl, -⟩ := hz.cell (by have := HMQ.out; omega)
          have hsp := (rb_spot hz (by have := HMQ.out; omega)).1
          obtain ⟨b, o, rfl⟩ := spot_add (w := w) hsp
          have hrw := hz.below (w' := wr) hB (Nat.le_refl _)
          have hpb := part64_b (z := z) (i := k) hz.byte (by have h1 := HMQ.out; have h2 := HLN.out; omega)
          have hrp : wr.rangeAt b (o + k * 64) (bc (part64 z k)) := fun j v hv => by
            have hj : j < 64 := by have := (List.getElem?_eq_some_iff.1 hv).1; rwa [bc_len, hpb.len] at this
            obtain ⟨ad, e, hc⟩ := hrw.at_ (k := k * 64 + j) (by have := HMQ.out; omega)
            cases e
            rw [Addr.add_mid] at hc
            rw [show o + k * 64 + j = o + (k * 64 + j) by omega, hc, ← hv]
            have hl2 : k * 64 + j < z.length := by have h1 := HMQ.out; have h2 := HLN.out; omega
            simp [bc, part64, List.getElem?_take, hj, List.getElem?_drop, List.getD_eq_getElem?_getD, List.getElem?_eq_getElem hl2]
          have hlk : (loadL z q k)[k]? = some ⟨zero64, false⟩ := by rw [loadL_get _ _ _ _ hlt, if_neg (by omega)]
          have c0w := hd.c0
          have hdd : Dv (fun k => w.heap.size ≤ k) wr.drew d { newS q with last := loadL z q k } nw (.slice (some ⟨gl, 0, none⟩) (loadL z q k).length capl) vp vn := by rw [hll]; exact hd.drew
          have hst := load_store hdd k hlk (part64 z k) hpb
          have hd2 := hdd.setBytes k hlk (part64 z k) hpb
          have hb2 : Below w.heap.size w (wr.drew.setCells gl (k * 65) (bc (part64 z k))) := (((Out.of_below hB (fun _ => False)).drew).setCells (.inr (hd.fl gl rfl).1) _ _).below (Nat.le_refl _) (fun _ _ h => h)
          rw [loadL_step z q k hlt, show (loadL z q k).length = q from hll] at hd2
          generalize wr.drew.setCells gl (k * 65) (bc (part64 z k)) = W2 at hst hd2 hb2
          have HD2 := Lib.hid hd2
          have HB2 := Lib.hid hb2
          have HRP := Lib.hid (show wr.drew.rangeAt b (o + k * 64) (bc (part64 z k)) from hrp)
          have HI := Lib.hid (show (Try.prog.info? 70).map (·.size) = some (bc (part64 z k)).length by rw [bc_len, hpb.len]; rfl)
          have hbl : (bc (part64 z k)).length = 64 := by rw [bc_len, hpb.len]
          have hq1 : (k : Int) < (q : Int) := by omega
          have hq2 : (k : Int) * 64 ≤ (m : Int) := by have := HMQ.out; omega
          have hq3 : ¬ c = k * 64 := by have := HMQ.out; omega
          have hq4 : 64 ≤ m - k * 64 := by have := HMQ.out; omega
          have hq5 : (k : Int) * 64 ≤ 9223372036854775807 := by omega
          have hq6 : k * 64 ≤ m := by have := HMQ.out; omega
          have hq7 : ((k : Int) * 64).toNat = k * 64 := by omega
          have hq8 : IntKind.i64.wrap ((k : Int) * 64) = (k : Int) * 64 := by rw [IntKind.wrap_i64]; omega
          have hq9 : (0 : Int) ≤ (k : Int) * 64 := by omega
          have hat : ∀ (n' c' : Nat) w, 64 ≤ n' → (Instr.arrayAt 70 (.slice (some ⟨b, o + k * 64, none⟩) n' c')).run Try.prog w = .ok (.pointer (some ⟨b, o + k * 64, none⟩)) w := fun n' c' w h => run_arrayAt w _ _ 64 _ _ _ Try.underlying70 h
          have HLT := Lib.hid hlt
          clear hd hB hrw hrp hdd hd2 hb2 hlk hz
          go_wp2
          refine wp_region_still_tail 13 (by kernel_rfl) (by kernel_rfl) ?_
          simp only [List.take_succ_cons, List.take_zero, List.drop_succ_cons, List.drop_zero]
          change wpStill _ _ wr.drew _ _ _
          iterate 10 still_step
          refine wpStill_load rfl 70 (.tmp 42) rfl b (o + k * 64) rfl (bc (part64 z k)) _ HRP.out Try.underlying70 rfl HI.out ?_
          iterate 2 still_step
          refine wpStill_nil ?_
          change wpList _ _ _ _ _ wr.drew
          clear hat HRP HI
          go_wp2
          go_roundw
          case rel => exact ⟨k + 1, by go_num, HLT.out, HD2.out, HB2.out⟩
          case measure => simp [intOf]; omega
        · obtain rfl : k = q := by omega
          have HD := Lib.hid hd
          have HB := Lib.hid hB
          clear hd hB hz hlt
          go_wp2
          go_loopw [10, 49] (fun _ i wr => ∃ j : Nat, i = .int .i64 (j : Nat) ∧ j ≤ nt ∧ Dv (fun k => w.heap.size ≤ k) wr d { newS k with last := tearAll (loadL z k k) (ts.take j) } nw (.slice (some ⟨gl, 0, none⟩) k capl) vp vn ∧ Below w.heap.size w wr ∧ ∀ t ∈ ts.take j, 0 ≤ t ∧ t < (k : Int)) (fun _ i _ => nt - (intOf i).toNat)
          case atStart => exact ⟨0, rfl, Nat.zero_le _, HD.out, HB.out, by simp⟩
          case round =>
            obtain ⟨j, rfl, hj, hd, hB, hgood⟩ := hrel
            have htl : (tearAll (loadL z k k) (ts.take j)).length = k := by rw [tearAll_len]; exact hll
            by_cases hjt : j < nt
            · obtain ⟨b2, o2, rfl, hcell⟩ := (HTR.out.below hB).cell (by omega)
              obtain ⟨t, htj⟩ : ∃ t, ts[j]? = some t := ⟨_, List.getElem?_eq_getElem (by rw [HT.out]; exact hjt)⟩
              have hcj := hcell j hjt
              rw [show ts.getD j 0 = t by rw [List.getD_eq_getElem?_getD, htj]; rfl] at hcj
              have c0w := hd.c0
              have hs := dhas (show Dv (fun k => w.heap.size ≤ k) wr d { newS k with last := tearAll (loadL z k k) (ts.take j) } nw (.slice (some ⟨gl, 0, none⟩) k capl) vp vn from hd) t
              rw [show ((({ newS k with last := tearAll (loadL z k k) (ts.take j) } : St).last.length : Nat) : Int) = (k : Int) by show ((tearAll (loadL z k k) (ts.take j)).length : Int) = _; rw [htl]] at hs
              have hji : (j : Int) < (nt : Int) := by omega
              have htm : t ∈ ts := List.mem_of_getElem? htj
              by_cases hg : 0 ≤ t ∧ t < (k : Int)
              · rw [decide_eq_true hg] at hs
                obtain ⟨i, rfl⟩ := Int.eq_ofNat_of_zero_le hg.1
                have hik : i < k := by omega
                have hdd : Dv (fun k => w.heap.size ≤ k) wr d { newS k with last := tearAll (loadL z k k) (ts.take j) } nw (.slice (some ⟨gl, 0, none⟩) (tearAll (loadL z k k) (ts.take j)).length capl) vp vn := by rw [htl]; exact hd
                have hst := torn_store hdd i (by show i < (tearAll (loadL z k k) (ts.take j)).length; rw [htl]; exact hik)
                have hd2 := hdd.setLast i (by show i < (tearAll (loadL z k k) (ts.take j)).length; rw [htl]; exact hik) ⟨zero64, true⟩ b64_zero
                have hb2 : Below w.heap.size w (wr.setCells gl (i * 65) (Cn.cells ⟨zero64, true⟩)) := ((Out.of_below hB (fun _ => False)).setCells (.inr (hd.fl gl rfl).1) _ _).below (Nat.le_refl _) (fun _ _ h => h)
                generalize wr.setCells gl (i * 65) (Cn.cells ⟨zero64, true⟩) = W2 at hst hd2 hb2
                have HS := Lib.hid (show (tearAll (loadL z k k) (ts.take j)).set i ⟨zero64, true⟩ = tearAll (loadL z k k) (ts.take (j + 1)) by rw [List.take_add_one, htj]; exact (tearAll_snoc _ _ (i : Int)).symm)
                have HD2 := Lib.hid (show Dv (fun k => w.heap.size ≤ k) W2 d { newS k with last := tearAll (loadL z k k) (ts.take (j + 1)) } nw (.slice (some ⟨gl, 0, none⟩) k capl) vp vn by rw [← HS.out]; have := hd2; rw [show ({ newS k with last := tearAll (loadL z k k) (ts.take j) } : St).last = tearAll (loadL z k k) (ts.take j) from rfl, htl] at this; exact this)
                have HB2 := Lib.hid hb2
                have HG2 := Lib.hid (show ∀ t ∈ ts.take (j + 1), 0 ≤ t ∧ t < (k : Int) by
                  intro t' ht'
                  rw [List.take_add_one, htj] at ht'
                  rcases List.mem_append.1 ht' with h1 | h1
                  · exact hgood t' h1
                  · simp at h1; subst h1; exact hg)
                have hz80 := run_zero80
                have hs80 := z80_size
                have hii : (i : Int) < (k : Int) := hg.2
                clear hd hB hdd hd2 hb2 hgood hcell htj htm hg
                go_wp2_with (go_at_call 35; refine hs.mono ?_; rintro e w' ⟨rfl, rfl⟩)
                go_roundw
                case rel => exact ⟨j + 1, by go_num, hjt, HD2.out, HB2.out, HG2.out⟩
                case measure => simp [intOf]; omega
              · rw [decide_eq_false hg] at hs
                have hbad : ¬ loadGood z ts := fun h => hg (by have := h.2.2.2 t htm; rwa [HZL.out] at this)
                have HB2 := Lib.hid hB
                clear hd hB hgood hcell htj hg
                go_wp2_with (go_at_call 35; refine hs.mono ?_; rintro e w' ⟨rfl, rfl⟩)
                go_ret2
                exact .inl ⟨hbad, rfl, HB2.out⟩
            · obtain rfl : j = nt := by omega
              have htake : ts.take j = ts := List.take_of_length_le (by rw [HT.out]; exact Nat.le_refl _)
              rw [htake] at hd hgood
              have hgd : loadGood z ts := ⟨HM64.out, by rw [HZL.out]; exact HIN.out.1, by rw [HZL.out]; exact HIN.out.2, by rw [HZL.out]; exact hgood⟩
              have hSe : ({ newS k with last := tearAll (loadL z k k) ts } : St) = loadS z ts := by unfold loadS; rw [HZL.out]; rfl
              rw [hSe] at hd
              have HFIN := Lib.hid (show PD (fun k => w.heap.size ≤ k) wr d (loadS z ts) from ⟨nw, _, _, _, hd, fun n hn => by
                have := HNW.out n (by simp [newS, newL]; have : n < (tearAll (loadL z k k) ts).length := by rw [← hSe] at hn; exact hn
                                      rw [tearAll_len, hll] at this; exact this)
                rcases this with h1 | ⟨j', x, _, h2, _⟩
                · exact .inl ⟨h1.1, by simp [loadS]⟩
                · simp [newS] at h2⟩)
              have HB2 := Lib.hid hB
              clear hd hB hgood
              go_wp2
              go_ret2
              exact .inr ⟨hgd, d, rfl, HFIN.out, HB2.out⟩
    · have hbad : ¬ loadGood z ts := fun h => hin ⟨by have := h.2.1; rwa [HZL.out] at this, by have := h.2.2.1; rwa [HZL.out] at this⟩
      clear h64 hq hlen
      go_enter Try.func15, Try.ntmps15
      have cn2 : Calls Try.prog 24 #[.int .i64 (q : Int)] w fun e w' => e = .returned (.tuple #[.pointer none, .int .i64 1]) ∧ w = w' := cn.mono (by
        rintro e w' (⟨-, h1, h2⟩ | ⟨h, -⟩)
        · exact ⟨h1, h2⟩
        · exact absurd (by omega) hin)
      clear cn
      go_wp2_with (go_at_call 24; refine cn2.mono ?_; rintro e w1 ⟨rfl, rfl⟩)
      go_ret2
      exact .inl ⟨hbad, rfl, Below.refl _ _⟩
  · have hbad : ¬ loadGood z ts := fun h => h64 (by rw [← hlen]; exact h.1)
    have hr : ((m : Int) % 64 != 0) = true := by simp; omega
    clear h64 hlen
    go_enter Try.func15, Try.ntmps15
    go_wp2
    go_ret2
    exact .inl ⟨hbad, rfl, Below.refl _ _⟩
end Go.Proofs.Ythpbcibjohakkaa

/- The laws' own helpers: alike, spoil. -/
namespace Go.Proofs.Ythpbcibjohakkaa
set_option maxRecDepth 100000
open Go.RowKit

theorem rb_in {w : World} {A : Option Addr} {n : Nat} {zs : List Int} (h : RB w A n zs) : Lib.BytesIn w A n zs := by
  rcases Nat.eq_zero_or_pos n with h0 | h0
  · subst h0; exact Lib.BytesIn.nil _ _ _
  · obtain ⟨ad, rfl, hc⟩ := h.cell h0
    exact Lib.BytesIn.of_cells hc
theorem rb_str {w : World} {A : Option Addr} {n : Nat} {zs : List Int} (h : RB w A n zs) (c : Nat) :
    (convert 33 9 (.slice A n c)).run Try.prog w = .ok (.string (strOfNums zs)) w :=
  (rb_in h).convert h.len c 33 5 9 Try.underlying33 Try.underlying5 Try.underlying9
theorem bytes_inj {zs ys : List Int} (hz : ∀ z ∈ zs, 0 ≤ z ∧ z ≤ 255) (hy : ∀ z ∈ ys, 0 ≤ z ∧ z ≤ 255) (h : Lib.bytesOf zs = Lib.bytesOf ys) : zs = ys := by
  have h1 : (zs.map fun n => UInt8.ofNat n.toNat) = ys.map fun n => UInt8.ofNat n.toNat := h
  clear h
  induction zs generalizing ys with
  | nil => cases ys with
    | nil => rfl
    | cons y ys => simp at h1
  | cons z zs ih => cases ys with
    | nil => simp at h1
    | cons y ys =>
      simp only [List.map_cons, List.cons.injEq] at h1
      have a := hz z (by simp)
      have b := hy y (by simp)
      have e : (UInt8.ofNat z.toNat).toNat = (UInt8.ofNat y.toNat).toNat := by rw [h1.1]
      simp only [UInt8.toNat_ofNat'] at e
      rw [ih (fun x hx => hz x (by simp [hx])) (fun x hx => hy x (by simp [hx])) h1.2]
      congr 1
      omega

/-- Block g holds bytes, at least c. -/
def U8Blk (w : World) (g c : Nat) : Prop := ∃ C t, w.heap[g]? = some (.cells C t (0, 0)) ∧ ∀ j, j < c → ∃ z, C[j]? = some (.int .u8 z)
end Go.Proofs.Ythpbcibjohakkaa
