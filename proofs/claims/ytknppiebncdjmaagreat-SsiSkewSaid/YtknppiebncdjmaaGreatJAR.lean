import Derived.Test.YtknppiebncdjmaaGreatJAP
import Derived.Test.YtknppiebncdjmaaGreatJAQ
import Derived.Test.YtknppiebncdjmaaGreatJAO
import Derived.Shelf.Abstract
set_option linter.unusedVariables false
namespace Go.Proofs.YtknppiebncdjmaaGreat
set_option maxRecDepth 100000
open Go.RowKit Go.Maps Go.ChangeMaps Go.MapKept

def Sz2 (l : Lk) : Prop := l.1.size ≤ 140737488351232 ∧ l.2.size ≤ 140737488351232
theorem Sz2.sz {l : Lk} (h : Sz2 l) : Sz l := ⟨Nat.le_trans h.1 (by decide), Nat.le_trans h.2 (by decide)⟩
def kwB (P : Pg) (tx : Int) (tb lo hi : ByteArray) (x : Int) (k : KpR) : Bool := concG P tx x && wroteB k.wrote tb lo hi
structure KwI (P : Pg) (tx : Int) (tb lo hi : ByteArray) (left : List (Int × KpR)) (zs : List Int) : Prop where
  ol : OnceA left
  sub : ∀ x k, (x, k) ∈ left → (x, k) ∈ P.kep
  mem : ∀ x, x ∈ zs ↔ ∃ k, (x, k) ∈ P.kep ∧ (x, k) ∉ left ∧ kwB P tx tb lo hi x k = true
  len : zs.length + left.length ≤ P.kep.length
def KwIs (P : Pg) (tx : Int) (tb lo hi : ByteArray) (zs : List Int) : Prop := (∀ x, x ∈ zs ↔ ∃ k, (x, k) ∈ P.kep ∧ kwB P tx tb lo hi x k = true) ∧ zs.length ≤ P.kep.length
section
variable {P : Pg} {tx : Int} {tb lo hi : ByteArray} {left : List (Int × KpR)} {zs : List Int}
theorem KwI.start (h : OnceA P.kep) : KwI P tx tb lo hi P.kep [] := ⟨h, fun _ _ h => h, fun x => ⟨(by intro h; cases h), fun h => by obtain ⟨k, h1, h2, -⟩ := h; exact absurd h1 h2⟩, by simp⟩
theorem del_lt {left : List (Int × KpR)} {x : Int} {k : KpR} (h : (x, k) ∈ left) : (delA left x).length < left.length := by
  unfold delA
  exact List.length_filter_lt_length_iff_exists.2 ⟨(x, k), h, by simp⟩
theorem KwI.step (h : OnceA P.kep) (I : KwI P tx tb lo hi left zs) {x : Int} {k : KpR} (hx : (x, k) ∈ left) : KwI P tx tb lo hi (delA left x) (zs ++ (if kwB P tx tb lo hi x k = true then [x] else [])) := by
  have hl := del_lt hx
  refine ⟨I.ol.del x, fun y u hy => I.sub y u (mem_delA.1 hy).1, fun y => ?_, ?_⟩
  · rw [List.mem_append, I.mem]
    constructor
    · rintro (⟨u, h1, h2, h3⟩ | h1)
      · exact ⟨u, h1, fun h4 => h2 (mem_delA.1 h4).1, h3⟩
      · by_cases e : kwB P tx tb lo hi x k = true
        · rw [if_pos e] at h1
          rw [List.mem_singleton.1 h1]
          exact ⟨k, I.sub x k hx, fun h4 => (mem_delA.1 h4).2 rfl, e⟩
        · rw [if_neg e] at h1; cases h1
    · rintro ⟨u, h1, h2, h3⟩
      by_cases e : y = x
      · subst e
        have e2 : u = k := by
          have a1 := (getA_some h).2 h1
          have a2 := (getA_some h).2 (I.sub y k hx)
          rw [a1] at a2; cases a2; rfl
        subst e2
        rw [if_pos h3]
        exact .inr (List.mem_singleton.2 rfl)
      · exact .inl ⟨u, h1, fun h4 => h2 (mem_delA.2 ⟨h4, e⟩), h3⟩
  · have := I.len
    rw [List.length_append]
    split <;> simp <;> omega
theorem KwI.ends (I : KwI P tx tb lo hi [] zs) : KwIs P tx tb lo hi zs := ⟨fun x => by rw [I.mem]; simp, by have := I.len; simpa using this⟩
end
section
variable {M : MF} {w : World} {b ab kb fb lm lr rr : Nat} {GR : Nat → Prop} {c : Cp10} {P : Pg}
set_option maxHeartbeats 8000000 in
theorem wxKw (I : Api9 M) (h : Mem10 M w b ab kb fb lm lr rr GR c P) (hc : PgOk c P) (tx : Int) (tb lo hi : ByteArray) :
    Calls Tryz.prog 83 #[.pointer (some ⟨b, 0, none⟩), .int .i64 tx, .string tb, .string lo, .string hi] w fun e w' => ∃ v zs, e = .returned v ∧ SO seN w.heap.size w' v zs.length (numC zs) ∧ KwIs P tx tb lo hi zs ∧ Below w.heap.size w w' := by
  have c7 := h.cells.2.2.2.2.2.2.2.1
  have HM := Lib.hid h
  have HO := Lib.hid h.onceA.2.1
  have HK := Lib.hid hc.kx
  have HNK := Lib.hid (show P.kep.length ≤ 1024 by have := hc.nk; have := hc.ck; omega)
  have HBG := Lib.hid hc.bg
  clear h hc
  go_enter Tryz.func83, Tryz.ntmps83
  go_wp2_with (at_range; go_loud (refine wp_rangeM KI (by rfl) (.tmp 17) (by rfl) (by rfl) HM.out.kep Tryz.underlying87 ?_; intro w2 r2 g2 s2; have R2 := Lib.hid r2; have G2 := Lib.hid g2; clear r2 g2 s2))
  try go_frame
  go_loopw [11] (fun v wr => ∃ (left : List (Int × KpR)) (zs : List Int), KwI P tx tb lo hi left zs ∧ RangeM KI wr kb w.heap.size (kepM P.kep) (kepM left) ∧ SO seN (w.heap.size + 1) wr v zs.length (numC zs) ∧ Below w.heap.size w wr) (fun _ wr => wr.rangeLeft kb w.heap.size)
  case atStart =>
    have b2 : Below w.heap.size w w2 := (Below.refl _ _).grown G2.out (Nat.le_refl _) (fun k e => by cases e)
    exact ⟨P.kep, [], KwI.start HO.out, R2.out, SO.nil _ _ _, b2⟩
  case round =>
    rename World => wr
    obtain ⟨left, zs, hI, hR, ho, hB⟩ := hrel
    have HI := Lib.hid hI
    have HR := Lib.hid hR
    have HV := Lib.hid ho
    have HB := Lib.hid hB
    have ZL := Lib.hid (show zs.length ≤ 4000000 by have := hI.len; have := HNK.out; omega)
    clear hI hR ho hB
    go_wp2_with (at_next; go_loud (refine wp_nextM KI (by rfl) (.tmp 18) (by rfl) w.heap.size (kepM left) (by rfl) HR.out ?_ ?_))
    · intro hnil
      have hl : left = [] := by
        unfold kepM encA at hnil
        exact List.map_eq_nil_iff.1 hnil
      subst hl
      go_wp2
      go_ret
      exact ⟨_, zs, rfl, HV.out.base (Nat.le_succ _) rfl rfl, HI.out.ends, HB.out⟩
    · intro x v wn hin hok hr2 hg2 hsz hlt hen
      obtain ⟨k, hkin, rfl⟩ := (enc_mem pastV).1 hin
      have hkP := HI.out.sub x k hkin
      obtain ⟨A, d, hval, hsb, hcl, hcm⟩ := (HM.out.row (x, k) hkP).lv.ex
      have hko := HM.out.row (x, k) hkP
      obtain ⟨n, hn⟩ : ∃ n, k.wrote.length = n := ⟨_, rfl⟩
      simp only [hn] at hval hsb hcl
      have hit : w.heap.size < wr.heap.size := RangeM.it_lt HR.out
      have hkb : kb < w.heap.size := HM.out.blt.2.2.1
      obtain ⟨X, hX⟩ : ∃ X, wn.alloc (.cells #[.slice A n d, .int .i64 k.upto] 108) = X := ⟨_, rfl⟩
      have bX : Below wn.heap.size wn X := by rw [← hX]; exact (Below.refl _ _).alloc (Nat.le_refl _) _
      have n0 : X.heap[wn.heap.size]? = some (.cells #[.slice A n d, .int .i64 k.upto] 108 (0, 0)) := by rw [← hX]; exact heap_alloc_new _ _
      have x1 : X.cell? ⟨wn.heap.size, 0, none⟩ = some (.slice A n d) := cell_of_row _ _ 0 _ _ _ n0
      have x2 : X.cell? ⟨wn.heap.size, 1, none⟩ = some (.int .i64 k.upto) := cell_of_row _ _ 1 _ _ _ n0
      have xlt : wn.heap.size < X.heap.size := (Array.getElem?_eq_some_iff.1 n0).1
      have hbn : Below w.heap.size w wn := HB.out.grown hg2 HB.out.size (fun j e => by rw [← Option.some.inj e]; exact Nat.le_refl _)
      have hbX : Below w.heap.size w X := below_next hbn bX
      have mX := HM.out.below I hbX
      have rX : RangeM KI X kb w.heap.size (kepM P.kep) (kepM (delA left x)) := by
        have hd : delM (kepM left) x = kepM (delA left x) := enc_del _ _ _
        rw [← hd]
        exact hr2.kept (bX.block kb (by omega)) (bX.block w.heap.size (by omega))
      have lX : X.rangeLeft kb w.heap.size < wr.rangeLeft kb w.heap.size := by
        rw [left_kept (bX.block kb (by omega)) (bX.block w.heap.size (by omega))]; exact hlt
      have OX := Lib.hid (show SO seN (w.heap.size + 1) X _ zs.length (numC zs) from (show SO seN (w.heap.size + 1) wn _ zs.length (numC zs) from ⟨own_stays HV.out.own fun j e => hg2.block j (HV.out.own.lt j e).2 (fun e2 => by have := (HV.out.own.lt j e).1; have := Option.some.inj e2; omega), HV.out.len, HV.out.one⟩).below bX)
      have hen2 : (Instr.entry (.pointer (some ⟨w.heap.size, 0, none⟩))).run Tryz.prog wn = .ok (.tuple #[.int .i64 x, .agg #[.slice A n d, .int .i64 k.upto]]) wn := by
        have := hen
        unfold pastV at this
        rw [hval] at this
        exact this
      have CC := Lib.hid (wxConc mX tx (o := x) hok)
      have CW := Lib.hid (wxWrote (w := X) (hsb.gw hbX) hn hcl hcm (by have : k.wrote.length ≤ 4096 := hko.len; omega) hko.ord k.upto tb lo hi)
      have RX := Lib.hid rX
      have LX := Lib.hid lX
      have BX := Lib.hid hbX
      have HX := Lib.hid hX
      have HST := Lib.hid (HI.out.step HO.out hkin)
      have HLT := Lib.hid (show kb < w.heap.size ∧ w.heap.size < wr.heap.size ∧ wr.heap.size ≤ wn.heap.size ∧ wn.heap.size < X.heap.size from ⟨hkb, hit, by omega, xlt⟩)
      have hq : kwB P tx tb lo hi x k = (concG P tx x && wroteB k.wrote tb lo hi) := rfl
      obtain ⟨q1, hq1⟩ : ∃ q, concG P tx x = q := ⟨_, rfl⟩
      obtain ⟨q2, hq2⟩ : ∃ q, wroteB k.wrote tb lo hi = q := ⟨_, rfl⟩
      rw [hq1, hq2] at hq
      rw [hq1] at CC
      rw [hq2] at CW
      have HE := Lib.hid hq
      clear hin hok hr2 hg2 hsz hlt hen hkP hval hsb hcl hcm hko hn hit hkb bX n0 xlt hbn hbX mX rX lX hkin hq hq1 hq2
      go_upto_region 5 with fail
      clear hen2 hX
      cases q1 <;> cases q2
      all_goals
        go_wp2_with (first
          | (go_at_call 132; go_loud (refine CC.out.mono ?_; rintro e w7 ⟨rfl, hw⟩; replace hw := hw.symm; subst hw))
          | (go_at_call 133; go_loud (refine CW.out.mono ?_; rintro e w8 ⟨rfl, b8⟩; have B8 := Lib.hid b8; have O8 := Lib.hid (OX.out.below b8); have R8 := Lib.hid (show RangeM KI w8 kb w.heap.size (kepM P.kep) (kepM (delA left x)) ∧ w8.rangeLeft kb w.heap.size < wr.rangeLeft kb w.heap.size from ⟨RX.out.kept (b8.block _ (by have := HLT.out; omega)) (b8.block _ (by have := HLT.out; omega)), by rw [left_kept (b8.block _ (by have := HLT.out; omega)) (b8.block _ (by have := HLT.out; omega))]; exact LX.out⟩); clear b8))
          | (at_builtin; go_loud (refine so_append seN_ok (by rfl) (.tmp 35) (.tmp 37) (by rfl) _ (by rfl) (O8.out.alloc _) (some ⟨w8.heap.size, 0, none⟩) 1 1 (numC [x]) (by rfl) (sb_num w8 x) (by have := ZL.out; omega) (by have := R8.out.1.it_lt; simp; omega) ?_; intro v3 w3 o3 b3; have O3 := Lib.hid o3; have B3 := Lib.hid ((below_next BX.out B8.out |>.alloc (Nat.le_trans BX.out.size B8.out.size) _).trans (b3.mono (Nat.le_succ _))); have hb3 : Below (w.heap.size + 1) w8 w3 := ((Below.refl _ _).alloc (by have := R8.out.1.it_lt; omega) _).trans b3; have R3 := Lib.hid (show RangeM KI w3 kb w.heap.size (kepM P.kep) (kepM (delA left x)) ∧ w3.rangeLeft kb w.heap.size < wr.rangeLeft kb w.heap.size from ⟨R8.out.1.kept (hb3.block _ (by have := HLT.out; omega)) (hb3.block _ (by omega)), by rw [left_kept (hb3.block _ (by have := HLT.out; omega)) (hb3.block _ (by omega))]; exact R8.out.2⟩); clear o3 b3 hb3)))
        go_roundw
        case rel => first
          | exact ⟨delA left x, zs, by have := HST.out; rw [HE.out] at this; simpa using this, RX.out, OX.out, BX.out⟩
          | exact ⟨delA left x, zs, by have := HST.out; rw [HE.out] at this; simpa using this, R8.out.1, O8.out, below_next BX.out B8.out⟩
          | exact ⟨delA left x, zs ++ [x], by have := HST.out; rw [HE.out] at this; simpa using this, R3.out.1, O3.out.base (Nat.le_refl _) (by simp [numC]) (by simp), B3.out⟩
        case measure => first | exact LX.out | exact R8.out.2 | exact R3.out.2
set_option maxHeartbeats 4000000 in
theorem wxKwOf (I : Api9 M) (h : Mem10 M w b ab kb fb lm lr rr GR c P) (hc : PgOk c P) (tx : Int) {l : Lk} (hl : Sz2 l) :
    Calls Tryz.prog 51 #[.pointer (some ⟨b, 0, none⟩), .int .i64 tx, lkV l] w fun e w' => ∃ v zs, e = .returned v ∧ SO seN w.heap.size w' v zs.length (numC zs) ∧ KwIs P tx l.1 l.2 (l.2 ++ ⟨#[0]⟩) zs ∧ Below w.heap.size w w' := by
  obtain ⟨W, hW⟩ : ∃ W, w.alloc (.cells #[.string l.1, .string l.2] 42) = W := ⟨_, rfl⟩
  have hB : Below w.heap.size w W := by rw [← hW]; exact (Below.refl _ _).alloc (Nat.le_refl _) _
  have q0 : W.heap[w.heap.size]? = some (.cells #[.string l.1, .string l.2] 42 (0, 0)) := by rw [← hW]; exact heap_alloc_new _ _
  have q1 : W.cell? ⟨w.heap.size, 0, none⟩ = some (.string l.1) := cell_of_row _ _ 0 _ _ _ q0
  have q2 : W.cell? ⟨w.heap.size, 1, none⟩ = some (.string l.2) := cell_of_row _ _ 1 _ _ _ q0
  have CK := Lib.hid (wxKw I (h.below I hB) hc tx l.1 l.2 (l.2 ++ ⟨#[0]⟩))
  have HB := Lib.hid hB
  have HW := Lib.hid hW
  have z1 : ¬ 9223372036854775807 < l.2.size + 1 := by have := hl.2; omega
  clear h hc hB hW q0 hl
  unfold lkV
  go_enter Tryz.func51, Tryz.ntmps51
  go_upto_region 1 with fail
  rw [HW.out]
  go_wp2_with (go_at_call 83; go_loud (refine CK.out.mono ?_; rintro e w2 ⟨v, zs, rfl, o2, k2, b2⟩; have O2 := Lib.hid o2; have K2 := Lib.hid k2; have B2 := Lib.hid b2; clear o2 k2 b2))
  go_ret
  exact ⟨v, zs, rfl, O2.out.base HB.out.size rfl rfl, K2.out, below_next HB.out B2.out⟩
end
end Go.Proofs.YtknppiebncdjmaaGreat

namespace Go.Proofs.YtknppiebncdjmaaGreat
set_option maxRecDepth 100000
open Go.RowKit Go.Maps Go.ChangeMaps Go.MapKept

def doneG (P : Pg) (f : Int) (left : List (Int × KpR)) (x : Int) : Bool := goneG P f x && (getA left x).isNone
def flgD (P : Pg) (f : Int) (left : List (Int × KpR)) : List (Int × (Bool × Bool)) := P.flg.filter fun p => !doneG P f left p.1
def notD (P : Pg) (f : Int) (left : List (Int × KpR)) : List Nt := P.L.filter fun n => !doneG P f left n.1
structure EndI (P : Pg) (f : Int) (cur left : List (Int × KpR)) : Prop where
  oc : OnceA cur
  ol : OnceA left
  mem : ∀ x k, (x, k) ∈ cur ↔ (x, k) ∈ P.kep ∧ (f ≤ k.upto ∨ (x, k) ∈ left)
  sub : ∀ x k, (x, k) ∈ left → (x, k) ∈ P.kep
def stD (P : Pg) (f : Int) (cur left : List (Int × KpR)) : Pg := { P with kep := cur, flg := flgD P f left, L := notD P f left }
section
variable {P : Pg} {f : Int} {cur left : List (Int × KpR)}
theorem done_start (h : OnceA P.kep) (x : Int) : doneG P f P.kep x = false := by
  unfold doneG goneG
  cases getA P.kep x <;> simp
theorem EndI.start (h : OnceA P.kep) : EndI P f P.kep P.kep := ⟨h, h, fun x k => ⟨fun hx => ⟨hx, .inr hx⟩, fun hx => hx.1⟩, fun _ _ h => h⟩
theorem stD_start (h : OnceA P.kep) : stD P f P.kep P.kep = P := by
  unfold stD flgD notD
  rw [List.filter_eq_self.2 fun p _ => by rw [done_start h]; rfl, List.filter_eq_self.2 fun n _ => by rw [done_start h]; rfl]
theorem EndI.get (h : OnceA P.kep) (I : EndI P f cur left) {x : Int} {k : KpR} (hx : (x, k) ∈ left) : getA P.kep x = some k := (getA_some h).2 (I.sub x k hx)
theorem EndI.skip (h : OnceA P.kep) (I : EndI P f cur left) {x : Int} {k : KpR} (hx : (x, k) ∈ left) (hk : f ≤ k.upto) : EndI P f cur (delA left x) ∧ stD P f cur (delA left x) = stD P f cur left := by
  have hg := I.get h hx
  have hd : ∀ y, doneG P f (delA left x) y = doneG P f left y := fun y => by
    unfold doneG
    rw [getA_del I.ol]
    by_cases e : y = x
    · subst e
      have : goneG P f y = false := by unfold goneG; rw [hg]; simp; omega
      rw [this]; rfl
    · rw [if_neg e]
  refine ⟨⟨I.oc, I.ol.del x, fun y u => ?_, fun y u hy => I.sub y u (mem_delA.1 hy).1⟩, ?_⟩
  · rw [I.mem]
    refine and_congr_right fun hy => ⟨fun h1 => ?_, fun h1 => h1.imp id fun h2 => (mem_delA.1 h2).1⟩
    rcases h1 with h1 | h1
    · exact .inl h1
    · by_cases e : y = x
      · subst e
        have := (getA_some h).2 hy
        rw [hg] at this; cases this
        exact .inl hk
      · exact .inr (mem_delA.2 ⟨h1, e⟩)
  · unfold stD flgD notD
    simp only [hd]
theorem filter_del {α : Type} (l : List α) (q : α → Bool) (r : α → Bool) (s : α → Bool) (h : ∀ a, s a = (q a && r a)) : (l.filter q).filter r = l.filter s := by
  rw [List.filter_filter]
  congr 1
  funext a
  rw [h, Bool.and_comm]
theorem EndI.drop (h : OnceA P.kep) (I : EndI P f cur left) {x : Int} {k : KpR} (hx : (x, k) ∈ left) (hk : ¬ f ≤ k.upto) (h1 : 1 ≤ x) : EndI P f (delA cur x) (delA left x) ∧ { forgetG (stD P f cur left) x with kep := delA cur x } = stD P f (delA cur x) (delA left x) := by
  have hg := I.get h hx
  have hd : ∀ y, (!doneG P f (delA left x) y) = ((!doneG P f left y) && !decide (y = x)) := fun y => by
    unfold doneG
    rw [getA_del I.ol]
    by_cases e : y = x
    · subst e
      have : goneG P f y = true := by unfold goneG; rw [hg]; simp; omega
      rw [this]; simp
    · rw [if_neg e]; simp [e]
  refine ⟨⟨I.oc.del x, I.ol.del x, fun y u => ?_, fun y u hy => I.sub y u (mem_delA.1 hy).1⟩, ?_⟩
  · rw [mem_delA, I.mem, mem_delA]
    constructor
    · rintro ⟨⟨h2, h3⟩, h4⟩
      exact ⟨h2, h3.imp id fun h5 => ⟨h5, h4⟩⟩
    · rintro ⟨h2, h3 | ⟨h3, h4⟩⟩
      · refine ⟨⟨h2, .inl h3⟩, fun e => ?_⟩
        subst e
        have := (getA_some h).2 h2
        rw [hg] at this; cases this
        exact hk h3
      · exact ⟨⟨h2, .inr h3⟩, h4⟩
  · unfold stD forgetG flgD notD dropN dropP delA
    simp only [if_neg (show ¬ x < 1 by omega)]
    rw [filter_del P.flg _ _ (fun p => !doneG P f (delA left x) p.1) fun p => hd p.1, filter_del P.L _ _ (fun n => !doneG P f (delA left x) n.1) fun n => hd n.1]
    rfl
theorem EndI.ends (h : OnceA P.kep) (I : EndI P f cur []) : cur.Perm (sweepG P f).kep ∧ stD P f (sweepG P f).kep [] = sweepG P f := by
  refine ⟨permA I.oc (h.filter _) fun x => ?_, ?_⟩
  · show getA cur x = getA (P.kep.filter fun p => decide (f ≤ p.2.upto)) x
    cases e : getA (P.kep.filter fun p => decide (f ≤ p.2.upto)) x with
    | none =>
      refine getA_none.2 fun k hk => getA_none.1 e k ?_
      obtain ⟨h1, h2⟩ := (I.mem x k).1 hk
      exact List.mem_filter.2 ⟨h1, by simpa using h2⟩
    | some k =>
      obtain ⟨h1, h2⟩ := List.mem_filter.1 (getA_mem e)
      exact (getA_some I.oc).2 ((I.mem x k).2 ⟨h1, .inl (by simpa using h2)⟩)
  · have hd : ∀ y, doneG P f [] y = goneG P f y := fun y => by unfold doneG getA; simp
    unfold stD flgD notD sweepG
    simp only [hd]
end
section
variable {M : MF} {w : World} {b ab kb fb lm lr rr : Nat} {GR : Nat → Prop} {c : Cp10} {P : Pg}
theorem wxEndNo (I : Api9 M) {bf bm : Nat} {f : Int} (c1 : w.cell? ⟨bf, 0, none⟩ = some (.int .i64 f)) (x : Int) (A : Option Addr) (n d : Nat) (u : Int) (hu : f ≤ u) :
    Calls Tryz.prog 131 #[.int .i64 x, .agg #[.slice A n d, .int .i64 u], .pointer (some ⟨bf, 0, none⟩), .pointer (some ⟨bm, 0, none⟩)] w fun e w' => e = .returned (.bool false) ∧ Below w.heap.size w w' := by
  obtain ⟨W, hW⟩ : ∃ W, w.alloc (.cells #[.slice A n d, .int .i64 u] 108) = W := ⟨_, rfl⟩
  have hB : Below w.heap.size w W := by rw [← hW]; exact (Below.refl _ _).alloc (Nat.le_refl _) _
  have q0 : W.heap[w.heap.size]? = some (.cells #[.slice A n d, .int .i64 u] 108 (0, 0)) := by rw [← hW]; exact heap_alloc_new _ _
  have q1 : W.cell? ⟨w.heap.size, 1, none⟩ = some (.int .i64 u) := cell_of_row _ _ 1 _ _ _ q0
  have c2 : W.cell? ⟨bf, 0, none⟩ = some (.int .i64 f) := keep_below c1 hB
  have HB := Lib.hid hB
  have HW := Lib.hid hW
  have i1 : u ≥ f := hu
  clear c1 hB hW q0 hu
  go_enter Tryz.func131, Tryz.ntmps131
  go_upto_region 1 with fail
  rw [HW.out]
  go_wp2
  go_ret
  exact ⟨rfl, HB.out⟩
theorem wxEndGo (I : Api9 M) (h : Mem10 M w b ab kb fb lm lr rr GR c P) {bf bm : Nat} {f : Int} (c1 : w.cell? ⟨bf, 0, none⟩ = some (.int .i64 f)) (c3 : w.cell? ⟨bm, 0, none⟩ = some (.pointer (some ⟨b, 0, none⟩))) {x : Int} (hx : (Lit.int .i64 x).wf = true) (A : Option Addr) (n d : Nat) (u : Int) (hu : ¬ f ≤ u) :
    Calls Tryz.prog 131 #[.int .i64 x, .agg #[.slice A n d, .int .i64 u], .pointer (some ⟨bf, 0, none⟩), .pointer (some ⟨bm, 0, none⟩)] w fun e w' => e = .returned (.bool true) ∧ ∃ GR', Mem10 M w' b ab kb fb lm lr rr GR' c (forgetG P x) ∧ (∀ k, GR' k → GR k ∨ w.heap.size ≤ k) ∧ Out (fun k => k = fb ∨ GR k) w w' := by
  obtain ⟨W, hW⟩ : ∃ W, w.alloc (.cells #[.slice A n d, .int .i64 u] 108) = W := ⟨_, rfl⟩
  have hB : Below w.heap.size w W := by rw [← hW]; exact (Below.refl _ _).alloc (Nat.le_refl _) _
  have q0 : W.heap[w.heap.size]? = some (.cells #[.slice A n d, .int .i64 u] 108 (0, 0)) := by rw [← hW]; exact heap_alloc_new _ _
  have q1 : W.cell? ⟨w.heap.size, 1, none⟩ = some (.int .i64 u) := cell_of_row _ _ 1 _ _ _ q0
  have c2 : W.cell? ⟨bf, 0, none⟩ = some (.int .i64 f) := keep_below c1 hB
  have c4 : W.cell? ⟨bm, 0, none⟩ = some (.pointer (some ⟨b, 0, none⟩)) := keep_below c3 hB
  have CF := Lib.hid (wxForget I (h.below I hB) hx)
  have HB := Lib.hid hB
  have HW := Lib.hid hW
  have i1 : ¬ u ≥ f := hu
  clear h c1 c3 hB hW q0 hu
  go_enter Tryz.func131, Tryz.ntmps131
  go_upto_region 1 with fail
  rw [HW.out]
  go_wp2_with (go_at_call 81; go_loud (refine CF.out.mono ?_; rintro e w2 ⟨rfl, GR', m2, g2, o2⟩; have M2 := Lib.hid m2; have G2 := Lib.hid g2; have O2 := Lib.hid o2; clear m2 g2 o2))
  go_ret
  exact ⟨rfl, GR', M2.out, fun k hk => (G2.out k hk).imp id fun h => Nat.le_trans HB.out.size h, (Out.of_below HB.out _).then O2.out⟩
structure EndR (M : MF) (w0 wr : World) (b ab kb fb lm lr rr : Nat) (GR GR' : Nat → Prop) (c : Cp10) (P : Pg) (f : Int) (cur left : List (Int × KpR)) : Prop where
  mem : Mem10 M wr b ab kb fb lm lr rr GR' c (stD P f cur left)
  rng : RangeM KI wr kb w0.heap.size (kepM cur) (kepM left)
  inv : EndI P f cur left
  g : ∀ k, GR' k → GR k ∨ w0.heap.size + 1 ≤ k
  out : Out (fun k => k = kb ∨ k = fb ∨ GR k) w0 wr
set_option maxHeartbeats 8000000 in
theorem wxDelete (I : Api9 M) (h : Mem10 M w b ab kb fb lm lr rr GR c P) (hc : PgOk c P) {bf bm : Nat} {f : Int} (c1 : w.cell? ⟨bf, 0, none⟩ = some (.int .i64 f)) (c3 : w.cell? ⟨bm, 0, none⟩ = some (.pointer (some ⟨b, 0, none⟩))) (n1 : ¬ BlG b ab kb fb lr GR bf) (n2 : ¬ BlG b ab kb fb lr GR bm) :
    Calls Tryz.prog 130 #[.map (some kb), .func (.func 131) #[] #[.pointer (some ⟨bf, 0, none⟩), .pointer (some ⟨bm, 0, none⟩)]] w fun e w' => e = .returned (.tuple #[]) ∧ ∃ GR', Mem10 M w' b ab kb fb lm lr rr GR' c (sweepG P f) ∧ (∀ k, GR' k → GR k ∨ w.heap.size ≤ k) ∧ Out (fun k => k = kb ∨ k = fb ∨ GR k) w w' := by
  have hn1 : bf ≠ kb ∧ bf ≠ fb ∧ ¬ GR bf := ⟨fun e => n1 (.inl (by simp [e])), fun e => n1 (.inl (by simp [e])), fun e => n1 (.inr e)⟩
  have hn2 : bm ≠ kb ∧ bm ≠ fb ∧ ¬ GR bm := ⟨fun e => n2 (.inl (by simp [e])), fun e => n2 (.inl (by simp [e])), fun e => n2 (.inr e)⟩
  have HN := Lib.hid (And.intro hn1 hn2)
  have HC := Lib.hid (And.intro c1 c3)
  have HM := Lib.hid h
  have HO := Lib.hid h.onceA.2.1
  have HK := Lib.hid hc.kx
  have HBG := Lib.hid hc.bg
  have HS := Lib.hid (stD_start (P := P) (f := f) h.onceA.2.1)
  clear h c1 c3 n1 n2 hn1 hn2 hc
  go_enter Tryz.func130, Tryz.ntmps130
  go_wp2_with (at_range; go_loud (refine wp_rangeM KI (by rfl) (.tmp 6) (by rfl) (by rfl) HM.out.kep Tryz.underlying87 ?_; intro w2 r2 g2 s2; have R2 := Lib.hid r2; have G2 := Lib.hid g2; clear r2 g2 s2))
  try go_frame
  go_loopw [8] (fun _ wr => ∃ (GR' : Nat → Prop) (cur left : List (Int × KpR)), EndR M w wr b ab kb fb lm lr rr GR GR' c P f cur left) (fun _ wr => wr.rangeLeft kb w.heap.size)
  case atStart =>
    have o2 : Out (fun _ => False) w w2 := (Out.refl _ w).grown G2.out (fun k e => by cases e)
    exact ⟨GR, P.kep, P.kep, by rw [HS.out]; exact HM.out.stays I o2 fun _ h => h.elim, R2.out, EndI.start HO.out, fun k hk => .inl hk, o2.mono fun _ _ h => h.elim⟩
  case round =>
    rename World => wr
    obtain ⟨GR', cur, left, hR⟩ := hrel
    have HR := Lib.hid hR
    clear hR
    go_wp2_with (at_next; go_loud (refine wp_nextM KI (by rfl) (.tmp 7) (by rfl) w.heap.size (kepM left) (by rfl) HR.out.rng ?_ ?_))
    · intro hnil
      have hl : left = [] := by
        unfold kepM encA at hnil
        exact List.map_eq_nil_iff.1 hnil
      subst hl
      have HE := Lib.hid (HR.out.inv.ends HO.out)
      go_wp2
      go_end0
      obtain ⟨e1, e2⟩ := HE.out
      have m5 := HR.out.mem.setKep I (Out.refl _ _) (K' := (sweepG P f).kep) (HR.out.mem.kep.perm (e1.map _)) fun p hp => .inl (e1.mem_iff.2 hp)
      refine ⟨rfl, GR', ?_, fun k hk => (HR.out.g k hk).imp id fun h => by omega, HR.out.out⟩
      rw [← e2]
      exact m5
    · intro x v wn hin hok hr2 hg2 hsz hlt hen
      obtain ⟨k, hkin, rfl⟩ := (enc_mem pastV).1 hin
      have hkP := HR.out.inv.sub x k hkin
      have hx := hok
      have hx1 : 1 ≤ x := (HK.out (x, k) hkP).1
      obtain ⟨A, d, hval, -⟩ := (HM.out.row (x, k) hkP).lv.ex
      obtain ⟨n, hn⟩ : ∃ n, k.wrote.length = n := ⟨_, rfl⟩
      rw [hn] at hval
      have hlts := HR.out.mem.blt
      have hit : w.heap.size < wr.heap.size := RangeM.it_lt HR.out.rng
      have hne := HR.out.mem.ne
      have on : Out (fun j => j = w.heap.size) wr wn := (Out.refl _ wr).grown hg2 fun j e => .inl (Option.some.inj e).symm
      have itG : ∀ j, j = w.heap.size → ¬ BlG b ab kb fb lr GR' j ∧ ¬ BlK lm (stD P f cur left) j := by
        have hw := HM.out.lt I
        rintro j rfl
        refine ⟨fun hj => ?_, fun hj => ?_⟩
        · rcases hj with hj | hj
          · exact absurd (hw.1 _ (.inl hj)) (Nat.lt_irrefl _)
          · rcases HR.out.g _ hj with h | h
            · exact absurd (hw.1 _ (.inr h)) (Nat.lt_irrefl _)
            · omega
        · rcases hj with hj | ⟨p, hp, hj⟩
          · exact absurd (hw.2 _ (.inl hj)) (Nat.lt_irrefl _)
          · have hp2 : p ∈ P.kep := ((HR.out.inv.mem p.1 p.2).1 hp).1
            exact absurd (hw.2 _ (.inr ⟨p, hp2, hj⟩)) (Nat.lt_irrefl _)
      obtain ⟨X, hX⟩ : ∃ X, wn.alloc (.cells #[.slice A n d, .int .i64 k.upto] 108) = X := ⟨_, rfl⟩
      have bX : Below wn.heap.size wn X := by rw [← hX]; exact (Below.refl _ _).alloc (Nat.le_refl _) _
      have n0 : X.heap[wn.heap.size]? = some (.cells #[.slice A n d, .int .i64 k.upto] 108 (0, 0)) := by rw [← hX]; exact heap_alloc_new _ _
      have x1 : X.cell? ⟨wn.heap.size, 0, none⟩ = some (.slice A n d) := cell_of_row _ _ 0 _ _ _ n0
      have x2 : X.cell? ⟨wn.heap.size, 1, none⟩ = some (.int .i64 k.upto) := cell_of_row _ _ 1 _ _ _ n0
      have oX : Out (fun j => j = w.heap.size) wr X := on.then (Out.of_below bX _)
      have mX := HR.out.mem.stays I oX itG
      have hkbit : kb < w.heap.size := HM.out.blt.2.2.1
      have rX : RangeM KI X kb w.heap.size (kepM cur) (kepM (delA left x)) := by
        have hd : delM (kepM left) x = kepM (delA left x) := enc_del _ _ _
        rw [← hd]
        exact hr2.kept (bX.block kb (by omega)) (bX.block w.heap.size (by omega))
      have lX : X.rangeLeft kb w.heap.size < wr.rangeLeft kb w.heap.size := by
        rw [left_kept (bX.block kb (by omega)) (bX.block w.heap.size (by omega))]; exact hlt
      have oW : Out (fun j => j = kb ∨ j = fb ∨ GR j) w X := HR.out.out.trans oX fun j hj e => by omega
      have cf : X.cell? ⟨bf, 0, none⟩ = some (.int .i64 f) := oW.cell HC.out.1 (by have := HN.out.1; rintro (e | e | e) <;> simp_all)
      have cm : X.cell? ⟨bm, 0, none⟩ = some (.pointer (some ⟨b, 0, none⟩)) := oW.cell HC.out.2 (by have := HN.out.2; rintro (e | e | e) <;> simp_all)
      have hen2 : (Instr.entry (.pointer (some ⟨w.heap.size, 0, none⟩))).run Tryz.prog wn = .ok (.tuple #[.int .i64 x, .agg #[.slice A n d, .int .i64 k.upto]]) wn := by
        have := hen
        unfold pastV at this
        rw [hval] at this
        exact this
      have xlt : wn.heap.size < X.heap.size := (Array.getElem?_eq_some_iff.1 n0).1
      have MX := Lib.hid mX
      have RX := Lib.hid rX
      have LX := Lib.hid lX
      have OX := Lib.hid oX
      have OW := Lib.hid oW
      have HX := Lib.hid hX
      have HIN := Lib.hid hkin
      have HXK := Lib.hid (show KI.ok x from hok)
      have HX1 := Lib.hid hx1
      have HLT := Lib.hid (show kb < w.heap.size ∧ w.heap.size < wr.heap.size ∧ wr.heap.size ≤ wn.heap.size ∧ wn.heap.size < X.heap.size from ⟨hkbit, hit, by omega, xlt⟩)
      by_cases hk : f ≤ k.upto
      · have CD := Lib.hid (wxEndNo (bm := bm) I cf x A n d k.upto hk)
        have HSK := Lib.hid (HR.out.inv.skip HO.out hkin hk)
        clear hin hok hr2 hg2 hsz hlt hen hkP hx hx1 hval hn hlts hit hne on itG bX n0 oX mX hkbit rX lX oW cf cm xlt hkin hk
        go_upto_region 3 with fail
        clear hen2 hX
        go_wp2_with (go_at_call 131; go_loud (refine CD.out.mono ?_; rintro e w3 ⟨rfl, b3⟩; have B3 := Lib.hid b3; clear b3))
        go_roundw
        case rel =>
          have hs := HLT.out
          exact ⟨GR', cur, delA left x, by rw [HSK.out.2]; exact MX.out.below I B3.out, RX.out.kept (B3.out.block _ (by omega)) (B3.out.block _ (by omega)), HSK.out.1, HR.out.g, OW.out.then (Out.of_below B3.out _)⟩
        case measure =>
          have hs := HLT.out
          rw [left_kept (B3.out.block _ (by omega)) (B3.out.block _ (by omega))]
          exact LX.out
      · have CD := Lib.hid (wxEndGo I mX cf cm hok A n d k.upto hk)
        have HSK := Lib.hid (HR.out.inv.drop HO.out hkin hk hx1)
        have KF := Lib.hid (show ∀ w3 : World, Out (fun k => k = fb ∨ GR' k) X w3 → X.heap.size ≤ w3.heap.size ∧ w3.heap[kb]? = X.heap[kb]? ∧ w3.heap[w.heap.size]? = X.heap[w.heap.size]? ∧ w3.heap[wn.heap.size]? = X.heap[wn.heap.size]? from fun w3 o3 => by
          have hs : kb < w.heap.size ∧ w.heap.size < wr.heap.size ∧ wr.heap.size ≤ wn.heap.size ∧ wn.heap.size < X.heap.size := HLT.out
          have hne := mX.ne
          have gi : ∀ j, w.heap.size ≤ j → j ≤ wn.heap.size → ¬ GR' j ∨ w.heap.size + 1 ≤ j := fun j h1 h2 => by
            by_cases h3 : GR' j
            · rcases HR.out.g j h3 with h4 | h4
              · exact absurd ((HM.out.lt I).1 j (.inr h4)) (by omega)
              · exact .inr h4
            · exact .inl h3
          refine ⟨o3.size, o3.block _ (by omega) ?_, o3.block _ (by omega) ?_, o3.block _ (by omega) ?_⟩
          · rintro (e | e)
            · exact hne.2.2.1.1 e
            · exact mX.ngr kb (by simp) e
          · rintro (e | e)
            · have := HM.out.blt.2.2.2.1; omega
            · rcases gi _ (Nat.le_refl _) (by omega) with h | h
              · exact h e
              · omega
          · rintro (e | e)
            · have := HM.out.blt.2.2.2.1; omega
            · have := (mX.lt I).1 _ (.inr e)
              have := (HR.out.mem.lt I).1 _ (.inr e)
              omega)
        clear hin hok hr2 hg2 hsz hlt hen hkP hx hx1 hval hn hlts hit hne on itG bX n0 oX mX hkbit rX lX oW cf cm xlt hkin hk
        go_upto_region 3 with fail
        clear hen2 hX
        go_wp2_with (first
          | (go_at_call 131; go_loud (refine CD.out.mono ?_; rintro e w3 ⟨rfl, GR3, m3, g3, o3⟩; have M3 := Lib.hid m3; have G3 := Lib.hid g3; have O3 := Lib.hid o3; have K3 := Lib.hid (KF.out w3 o3); have R3 := Lib.hid (RX.out.kept K3.out.2.1 K3.out.2.2.1); clear m3 g3 o3))
          | (at_delete; go_loud (refine wp_rdelM KI (by rfl) (.tmp 17) (.tmp 18) (by rfl) (by rfl) w.heap.size _ R3.out Tryz.underlying87 x HXK.out (by rfl) (by unfold kepM; rw [enc_get, getA_del HR.out.inv.ol, if_pos rfl]; rfl) ?_; intro w5 r5 g5 s5 l5; have R5 := Lib.hid r5; have G5 := Lib.hid g5; have L5 := Lib.hid l5; clear r5 g5 l5 s5; go_frame)))
        go_roundw
        case rel =>
          have o5 : Out (fun j => j = kb) w3 w5 := (Out.refl _ w3).grown G5.out fun j e => .inl (Option.some.inj e).symm
          have e5 : delM (kepM cur) x = kepM (delA cur x) := enc_del _ _ _
          have r5 := R5.out
          rw [e5] at r5
          have m5 := M3.out.setKep I o5 (K' := delA cur x) r5.map fun p hp => .inl (mem_delA.1 hp).1
          refine ⟨GR3, delA cur x, delA left x, ?_, r5, HSK.out.1, fun j hj => ?_, ?_⟩
          · rw [← HSK.out.2]; exact m5
          · rcases G3.out j hj with h | h
            · exact HR.out.g j h
            · have hs := HLT.out; exact .inr (by omega)
          · refine (OW.out.trans O3.out fun j hj e => ?_).trans o5 fun j _ e => .inl e
            rcases e with e | e
            · exact .inr (.inl e)
            · rcases HR.out.g j e with h | h
              · exact .inr (.inr h)
              · omega
        case measure =>
          have h1 := L5.out
          have h2 := LX.out
          rw [left_kept K3.out.2.1 K3.out.2.2.1] at h1
          exact Nat.lt_of_le_of_lt h1 h2
end
end Go.Proofs.YtknppiebncdjmaaGreat
