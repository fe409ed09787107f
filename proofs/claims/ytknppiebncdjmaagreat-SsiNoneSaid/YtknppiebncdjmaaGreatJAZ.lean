import Derived.Test.YtknppiebncdjmaaGreatJAV
import Derived.Shelf.Abstract
import Derived.Test.YtknppiebncdjmaaGreatJAW
import Derived.Test.YtknppiebncdjmaaGreatJAB
/- Layer 10: letting those go that are kept for nobody any more: end's function value, and maps.DeleteFunc as it calls it. -/
namespace Go.Proofs.YtknppiebncdjmaaGreat
set_option maxRecDepth 100000
set_option maxRecDepth 100000
open Go.RowKit Go.Maps Go.ChangeMaps Go.MapKept

/-- Is it one that goes, and has gone? -/
def doneG (P : Pg) (f : Int) (left : List (Int × KpR)) (x : Int) : Bool := goneG P f x && (getA left x).isNone
def flgD (P : Pg) (f : Int) (left : List (Int × KpR)) : List (Int × (Bool × Bool)) := P.flg.filter fun p => !doneG P f left p.1
def notD (P : Pg) (f : Int) (left : List (Int × KpR)) : List Nt := P.L.filter fun n => !doneG P f left n.1
/-- Under way: these are kept yet, these are still to come. -/
structure EndI (P : Pg) (f : Int) (cur left : List (Int × KpR)) : Prop where
  oc : OnceA cur
  ol : OnceA left
  mem : ∀ x k, (x, k) ∈ cur ↔ (x, k) ∈ P.kep ∧ (f ≤ k.upto ∨ (x, k) ∈ left)
  sub : ∀ x k, (x, k) ∈ left → (x, k) ∈ P.kep
def stD (P : Pg) (f : Int) (cur left : List (Int × KpR)) : Pg := { P with kep := cur, flg := flgD P f left, L := notD P f left }
section
variable {P : Pg} {f : Int} {cur left : List (Int × KpR)}
theorem done_start (h : OnceA P.kep) (x : Int) : doneG P f P.kep x = false := by
  unfold doneG goneG
  cases getA P.kep x <;> simp
theorem EndI.start (h : OnceA P.kep) : EndI P f P.kep P.kep := ⟨h, h, fun x k => ⟨fun hx => ⟨hx, .inr hx⟩, fun hx => hx.1⟩, fun _ _ h => h⟩
theorem stD_start (h : OnceA P.kep) : stD P f P.kep P.kep = P := by
  unfold stD flgD notD
  rw [List.filter_eq_self.2 fun p _ => by rw [done_start h]; rfl, List.filter_eq_self.2 fun n _ => by rw [done_start h]; rfl]
theorem EndI.get (h : OnceA P.kep) (I : EndI P f cur left) {x : Int} {k : KpR} (hx : (x, k) ∈ left) : getA P.kep x = some k := (getA_some h).2 (I.sub x k hx)
theorem EndI.skip (h : OnceA P.kep) (I : EndI P f cur left) {x : Int} {k : KpR} (hx : (x, k) ∈ left) (hk : f ≤ k.upto) : EndI P f cur (delA left x) ∧ stD P f cur (delA left x) = stD P f cur left := by
  have hg := I.get h hx
  have hd : ∀ y, doneG P f (delA left x) y = doneG P f left y := fun y => by
    unfold doneG
    rw [getA_del I.ol]
    by_cases e : y = x
    · subst e
      have : goneG P f y = false := by unfold goneG; rw [hg]; simp; omega
      rw [this]; rfl
    · rw [if_neg e]
  refine ⟨⟨I.oc, I.ol.del x, fun y u => ?_, fun y u hy => I.sub y u (mem_delA.1 hy).1⟩, ?_⟩
  · rw [I.mem]
    refine and_congr_right fun hy => ⟨fun h1 => ?_, fun h1 => h1.imp id fun h2 => (mem_delA.1 h2).1⟩
    rcases h1 with h1 | h1
    · exact .inl h1
    · by_cases e : y = x
      · subst e
        have := (getA_some h).2 hy
        rw [hg] at this; cases this
        exact .inl hk
      · exact .inr (mem_delA.2 ⟨h1, e⟩)
  · unfold stD flgD notD
    simp only [hd]
theorem filter_del {α : Type} (l : List α) (q : α → Bool) (r : α → Bool) (s : α → Bool) (h : ∀ a, s a = (q a && r a)) : (l.filter q).filter r = l.filter s := by
  rw [List.filter_filter]
  congr 1
  funext a
  rw [h, Bool.and_comm]
theorem EndI.drop (h : OnceA P.kep) (I : EndI P f cur left) {x : Int} {k : KpR} (hx : (x, k) ∈ left) (hk : ¬ f ≤ k.upto) (h1 : 1 ≤ x) : EndI P f (delA cur x) (delA left x) ∧ { forgetG (stD P f cur left) x with kep := delA cur x } = stD P f (delA cur x) (delA left x) := by
  have hg := I.get h hx
  have hd : ∀ y, (!doneG P f (delA left x) y) = ((!doneG P f left y) && !decide (y = x)) := fun y => by
    unfold doneG
    rw [getA_del I.ol]
    by_cases e : y = x
    · subst e
      have : goneG P f y = true := by unfold goneG; rw [hg]; simp; omega
      rw [this]; simp
    · rw [if_neg e]; simp [e]
  refine ⟨⟨I.oc.del x, I.ol.del x, fun y u => ?_, fun y u hy => I.sub y u (mem_delA.1 hy).1⟩, ?_⟩
  · rw [mem_delA, I.mem, mem_delA]
    constructor
    · rintro ⟨⟨h2, h3⟩, h4⟩
      exact ⟨h2, h3.imp id fun h5 => ⟨h5, h4⟩⟩
    · rintro ⟨h2, h3 | ⟨h3, h4⟩⟩
      · refine ⟨⟨h2, .inl h3⟩, fun e => ?_⟩
        subst e
        have := (getA_some h).2 h2
        rw [hg] at this; cases this
        exact hk h3
      · exact ⟨⟨h2, .inr h3⟩, h4⟩
  · unfold stD forgetG flgD notD dropN dropP delA
    simp only [if_neg (show ¬ x < 1 by omega)]
    rw [filter_del P.flg _ _ (fun p => !doneG P f (delA left x) p.1) fun p => hd p.1, filter_del P.L _ _ (fun n => !doneG P f (delA left x) n.1) fun n => hd n.1]
    rfl
theorem EndI.ends (h : OnceA P.kep) (I : EndI P f cur []) : cur.Perm (sweepG P f).kep ∧ stD P f (sweepG P f).kep [] = sweepG P f := by
  refine ⟨permA I.oc (h.filter _) fun x => ?_, ?_⟩
  · show getA cur x = getA (P.kep.filter fun p => decide (f ≤ p.2.upto)) x
    cases e : getA (P.kep.filter fun p => decide (f ≤ p.2.upto)) x with
    | none =>
      refine getA_none.2 fun k hk => getA_none.1 e k ?_
      obtain ⟨h1, h2⟩ := (I.mem x k).1 hk
      exact List.mem_filter.2 ⟨h1, by simpa using h2⟩
    | some k =>
      obtain ⟨h1, h2⟩ := List.mem_filter.1 (getA_mem e)
      exact (getA_some I.oc).2 ((I.mem x k).2 ⟨h1, .inl (by simpa using h2)⟩)
  · have hd : ∀ y, doneG P f [] y = goneG P f y := fun y => by unfold doneG getA; simp
    unfold stD flgD notD sweepG
    simp only [hd]
end
section
variable {M : MF} {w : World} {b ab kb fb lm lr rr : Nat} {GR : Nat → Prop} {c : Cp10} {P : Pg}
/-- Is it kept on? -/
theorem wxEndNo (I : Api9 M) {bf bm : Nat} {f : Int} (c1 : w.cell? ⟨bf, 0, none⟩ = some (.int .i64 f)) (x : Int) (A : Option Addr) (n d : Nat) (u : Int) (hu : f ≤ u) :
    Calls Tryz.prog 131 #[.int .i64 x, .agg #[.slice A n d, .int .i64 u], .pointer (some ⟨bf, 0, none⟩), .pointer (some ⟨bm, 0, none⟩)] w fun e w' => e = .returned (.bool false) ∧ Below w.heap.size w w' := by
  obtain ⟨W, hW⟩ : ∃ W, w.alloc (.cells #[.slice A n d, .int .i64 u] 108) = W := ⟨_, rfl⟩
  have hB : Below w.heap.size w W := by rw [← hW]; exact (Below.refl _ _).alloc (Nat.le_refl _) _
  have q0 : W.heap[w.heap.size]? = some (.cells #[.slice A n d, .int .i64 u] 108 (0, 0)) := by rw [← hW]; exact heap_alloc_new _ _
  have q1 : W.cell? ⟨w.heap.size, 1, none⟩ = some (.int .i64 u) := cell_of_row _ _ 1 _ _ _ q0
  have c2 : W.cell? ⟨bf, 0, none⟩ = some (.int .i64 f) := keep_below c1 hB
  have HB := Lib.hid hB
  have HW := Lib.hid hW
  have i1 : u ≥ f := hu
  clear c1 hB hW q0 hu
  go_enter Tryz.func131, Tryz.ntmps131
  go_upto_region 1 with fail
  rw [HW.out]
  go_wp2
  go_ret
  exact ⟨rfl, HB.out⟩
theorem wxEndGo (I : Api9 M) (h : Mem10 M w b ab kb fb lm lr rr GR c P) {bf bm : Nat} {f : Int} (c1 : w.cell? ⟨bf, 0, none⟩ = some (.int .i64 f)) (c3 : w.cell? ⟨bm, 0, none⟩ = some (.pointer (some ⟨b, 0, none⟩))) {x : Int} (hx : (Lit.int .i64 x).wf = true) (A : Option Addr) (n d : Nat) (u : Int) (hu : ¬ f ≤ u) :
    Calls Tryz.prog 131 #[.int .i64 x, .agg #[.slice A n d, .int .i64 u], .pointer (some ⟨bf, 0, none⟩), .pointer (some ⟨bm, 0, none⟩)] w fun e w' => e = .returned (.bool true) ∧ ∃ GR', Mem10 M w' b ab kb fb lm lr rr GR' c (forgetG P x) ∧ (∀ k, GR' k → GR k ∨ w.heap.size ≤ k) ∧ Out (fun k => k = fb ∨ GR k) w w' := by
  obtain ⟨W, hW⟩ : ∃ W, w.alloc (.cells #[.slice A n d, .int .i64 u] 108) = W := ⟨_, rfl⟩
  have hB : Below w.heap.size w W := by rw [← hW]; exact (Below.refl _ _).alloc (Nat.le_refl _) _
  have q0 : W.heap[w.heap.size]? = some (.cells #[.slice A n d, .int .i64 u] 108 (0, 0)) := by rw [← hW]; exact heap_alloc_new _ _
  have q1 : W.cell? ⟨w.heap.size, 1, none⟩ = some (.int .i64 u) := cell_of_row _ _ 1 _ _ _ q0
  have c2 : W.cell? ⟨bf, 0, none⟩ = some (.int .i64 f) := keep_below c1 hB
  have c4 : W.cell? ⟨bm, 0, none⟩ = some (.pointer (some ⟨b, 0, none⟩)) := keep_below c3 hB
  have CF := Lib.hid (wxForget I (h.below I hB) hx)
  have HB := Lib.hid hB
  have HW := Lib.hid hW
  have i1 : ¬ u ≥ f := hu
  clear h c1 c3 hB hW q0 hu
  go_enter Tryz.func131, Tryz.ntmps131
  go_upto_region 1 with fail
  rw [HW.out]
  go_wp2_with (go_at_call 81; go_loud (refine CF.out.mono ?_; rintro e w2 ⟨rfl, GR', m2, g2, o2⟩; have M2 := Lib.hid m2; have G2 := Lib.hid g2; have O2 := Lib.hid o2; clear m2 g2 o2))
  go_ret
  exact ⟨rfl, GR', M2.out, fun k hk => (G2.out k hk).imp id fun h => Nat.le_trans HB.out.size h, (Out.of_below HB.out _).then O2.out⟩
/-- DeleteFunc under way. -/
structure EndR (M : MF) (w0 wr : World) (b ab kb fb lm lr rr : Nat) (GR GR' : Nat → Prop) (c : Cp10) (P : Pg) (f : Int) (cur left : List (Int × KpR)) : Prop where
  mem : Mem10 M wr b ab kb fb lm lr rr GR' c (stD P f cur left)
  rng : RangeM KI wr kb w0.heap.size (kepM cur) (kepM left)
  inv : EndI P f cur left
  g : ∀ k, GR' k → GR k ∨ w0.heap.size + 1 ≤ k
  out : Out (fun k => k = kb ∨ k = fb ∨ GR k) w0 wr
set_option maxHeartbeats 8000000 in
theorem wxDelete (I : Api9 M) (h : Mem10 M w b ab kb fb lm lr rr GR c P) (hc : PgOk c P) {bf bm : Nat} {f : Int} (c1 : w.cell? ⟨bf, 0, none⟩ = some (.int .i64 f)) (c3 : w.cell? ⟨bm, 0, none⟩ = some (.pointer (some ⟨b, 0, none⟩))) (n1 : ¬ BlG b ab kb fb lr GR bf) (n2 : ¬ BlG b ab kb fb lr GR bm) :
    Calls Tryz.prog 130 #[.map (some kb), .func (.func 131) #[] #[.pointer (some ⟨bf, 0, none⟩), .pointer (some ⟨bm, 0, none⟩)]] w fun e w' => e = .returned (.tuple #[]) ∧ ∃ GR', Mem10 M w' b ab kb fb lm lr rr GR' c (sweepG P f) ∧ (∀ k, GR' k → GR k ∨ w.heap.size ≤ k) ∧ Out (fun k => k = kb ∨ k = fb ∨ GR k) w w' := by
  have hn1 : bf ≠ kb ∧ bf ≠ fb ∧ ¬ GR bf := ⟨fun e => n1 (.inl (by simp [e])), fun e => n1 (.inl (by simp [e])), fun e => n1 (.inr e)⟩
  have hn2 : bm ≠ kb ∧ bm ≠ fb ∧ ¬ GR bm := ⟨fun e => n2 (.inl (by simp [e])), fun e => n2 (.inl (by simp [e])), fun e => n2 (.inr e)⟩
  have HN := Lib.hid (And.intro hn1 hn2)
  have HC := Lib.hid (And.intro c1 c3)
  have HM := Lib.hid h
  have HO := Lib.hid h.onceA.2.1
  have HK := Lib.hid hc.kx
  have HBG := Lib.hid hc.bg
  have HS := Lib.hid (stD_start (P := P) (f := f) h.onceA.2.1)
  clear h c1 c3 n1 n2 hn1 hn2 hc
  go_enter Tryz.func130, Tryz.ntmps130
  go_wp2_with (at_range; go_loud (refine wp_rangeM KI (by rfl) (.tmp 6) (by rfl) (by rfl) HM.out.kep Tryz.underlying87 ?_; intro w2 r2 g2 s2; have R2 := Lib.hid r2; have G2 := Lib.hid g2; clear r2 g2 s2))
  try go_frame
  go_loopw [8] (fun _ wr => ∃ (GR' : Nat → Prop) (cur left : List (Int × KpR)), EndR M w wr b ab kb fb lm lr rr GR GR' c P f cur left) (fun _ wr => wr.rangeLeft kb w.heap.size)
  case atStart =>
    have o2 : Out (fun _ => False) w w2 := (Out.refl _ w).grown G2.out (fun k e => by cases e)
    exact ⟨GR, P.kep, P.kep, by rw [HS.out]; exact HM.out.stays I o2 fun _ h => h.elim, R2.out, EndI.start HO.out, fun k hk => .inl hk, o2.mono fun _ _ h => h.elim⟩
  case round =>
    rename World => wr
    obtain ⟨GR', cur, left, hR⟩ := hrel
    have HR := Lib.hid hR
    clear hR
    go_wp2_with (at_next; go_loud (refine wp_nextM KI (by rfl) (.tmp 7) (by rfl) w.heap.size (kepM left) (by rfl) HR.out.rng ?_ ?_))
    · intro hnil
      have hl : left = [] := by
        unfold kepM encA at hnil
        exact List.map_eq_nil_iff.1 hnil
      subst hl
      have HE := Lib.hid (HR.out.inv.ends HO.out)
      go_wp2
      go_end0
      obtain ⟨e1, e2⟩ := HE.out
      have m5 := HR.out.mem.setKep I (Out.refl _ _) (K' := (sweepG P f).kep) (HR.out.mem.kep.perm (e1.map _)) fun p hp => .inl (e1.mem_iff.2 hp)
      refine ⟨rfl, GR', ?_, fun k hk => (HR.out.g k hk).imp id fun h => by omega, HR.out.out⟩
      rw [← e2]
      exact m5
    · intro x v wn hin hok hr2 hg2 hsz hlt hen
      obtain ⟨k, hkin, rfl⟩ := (enc_mem pastV).1 hin
      have hkP := HR.out.inv.sub x k hkin
      have hx := hok
      have hx1 : 1 ≤ x := (HK.out (x, k) hkP).1
      obtain ⟨A, d, hval, -⟩ := (HM.out.row (x, k) hkP).lv.ex
      obtain ⟨n, hn⟩ : ∃ n, k.wrote.length = n := ⟨_, rfl⟩
      rw [hn] at hval
      have hlts := HR.out.mem.blt
      have hit : w.heap.size < wr.heap.size := RangeM.it_lt HR.out.rng
      have hne := HR.out.mem.ne
      have on : Out (fun j => j = w.heap.size) wr wn := (Out.refl _ wr).grown hg2 fun j e => .inl (Option.some.inj e).symm
      have itG : ∀ j, j = w.heap.size → ¬ BlG b ab kb fb lr GR' j ∧ ¬ BlK lm (stD P f cur left) j := by
        have hw := HM.out.lt I
        rintro j rfl
        refine ⟨fun hj => ?_, fun hj => ?_⟩
        · rcases hj with hj | hj
          · exact absurd (hw.1 _ (.inl hj)) (Nat.lt_irrefl _)
          · rcases HR.out.g _ hj with h | h
            · exact absurd (hw.1 _ (.inr h)) (Nat.lt_irrefl _)
            · omega
        · rcases hj with hj | ⟨p, hp, hj⟩
          · exact absurd (hw.2 _ (.inl hj)) (Nat.lt_irrefl _)
          · have hp2 : p ∈ P.kep := ((HR.out.inv.mem p.1 p.2).1 hp).1
            exact absurd (hw.2 _ (.inr ⟨p, hp2, hj⟩)) (Nat.lt_irrefl _)
      obtain ⟨X, hX⟩ : ∃ X, wn.alloc (.cells #[.slice A n d, .int .i64 k.upto] 108) = X := ⟨_, rfl⟩
      have bX : Below wn.heap.size wn X := by rw [← hX]; exact (Below.refl _ _).alloc (Nat.le_refl _) _
      have n0 : X.heap[wn.heap.size]? = some (.cells #[.slice A n d, .int .i64 k.upto] 108 (0, 0)) := by rw [← hX]; exact heap_alloc_new _ _
      have x1 : X.cell? ⟨wn.heap.size, 0, none⟩ = some (.slice A n d) := cell_of_row _ _ 0 _ _ _ n0
      have x2 : X.cell? ⟨wn.heap.size, 1, none⟩ = some (.int .i64 k.upto) := cell_of_row _ _ 1 _ _ _ n0
      have oX : Out (fun j => j = w.heap.size) wr X := on.then (Out.of_below bX _)
      have mX := HR.out.mem.stays I oX itG
      have hkbit : kb < w.heap.size := HM.out.blt.2.2.1
      have rX : RangeM KI X kb w.heap.size (kepM cur) (kepM (delA left x)) := by
        have hd : delM (kepM left) x = kepM (delA left x) := enc_del _ _ _
        rw [← hd]
        exact hr2.kept (bX.block kb (by omega)) (bX.block w.heap.size (by omega))
      have lX : X.rangeLeft kb w.heap.size < wr.rangeLeft kb w.heap.size := by
        rw [left_kept (bX.block kb (by omega)) (bX.block w.heap.size (by omega))]; exact hlt
      have oW : Out (fun j => j = kb ∨ j = fb ∨ GR j) w X := HR.out.out.trans oX fun j hj e => by omega
      have cf : X.cell? ⟨bf, 0, none⟩ = some (.int .i64 f) := oW.cell HC.out.1 (by have := HN.out.1; rintro (e | e | e) <;> simp_all)
      have cm : X.cell? ⟨bm, 0, none⟩ = some (.pointer (some ⟨b, 0, none⟩)) := oW.cell HC.out.2 (by have := HN.out.2; rintro (e | e | e) <;> simp_all)
      have hen2 : (Instr.entry (.pointer (some ⟨w.heap.size, 0, none⟩))).run Tryz.prog wn = .ok (.tuple #[.int .i64 x, .agg #[.slice A n d, .int .i64 k.upto]]) wn := by
        have := hen
        unfold pastV at this
        rw [hval] at this
        exact this
      have xlt : wn.heap.size < X.heap.size := (Array.getElem?_eq_some_iff.1 n0).1
      have MX := Lib.hid mX
      have RX := Lib.hid rX
      have LX := Lib.hid lX
      have OX := Lib.hid oX
      have OW := Lib.hid oW
      have HX := Lib.hid hX
      have HIN := Lib.hid hkin
      have HXK := Lib.hid (show KI.ok x from hok)
      have HX1 := Lib.hid hx1
      have HLT := Lib.hid (show kb < w.heap.size ∧ w.heap.size < wr.heap.size ∧ wr.heap.size ≤ wn.heap.size ∧ wn.heap.size < X.heap.size from ⟨hkbit, hit, by omega, xlt⟩)
      by_cases hk : f ≤ k.upto
      · have CD := Lib.hid (wxEndNo (bm := bm) I cf x A n d k.upto hk)
        have HSK := Lib.hid (HR.out.inv.skip HO.out hkin hk)
        clear hin hok hr2 hg2 hsz hlt hen hkP hx hx1 hval hn hlts hit hne on itG bX n0 oX mX hkbit rX lX oW cf cm xlt hkin hk
        go_upto_region 3 with fail
        clear hen2 hX
        go_wp2_with (go_at_call 131; go_loud (refine CD.out.mono ?_; rintro e w3 ⟨rfl, b3⟩; have B3 := Lib.hid b3; clear b3))
        go_roundw
        case rel =>
          have hs := HLT.out
          exact ⟨GR', cur, delA left x, by rw [HSK.out.2]; exact MX.out.below I B3.out, RX.out.kept (B3.out.block _ (by omega)) (B3.out.block _ (by omega)), HSK.out.1, HR.out.g, OW.out.then (Out.of_below B3.out _)⟩
        case measure =>
          have hs := HLT.out
          rw [left_kept (B3.out.block _ (by omega)) (B3.out.block _ (by omega))]
          exact LX.out
      · have CD := Lib.hid (wxEndGo I mX cf cm hok A n d k.upto hk)
        have HSK := Lib.hid (HR.out.inv.drop HO.out hkin hk hx1)
        have KF := Lib.hid (show ∀ w3 : World, Out (fun k => k = fb ∨ GR' k) X w3 → X.heap.size ≤ w3.heap.size ∧ w3.heap[kb]? = X.heap[kb]? ∧ w3.heap[w.heap.size]? = X.heap[w.heap.size]? ∧ w3.heap[wn.heap.size]? = X.heap[wn.heap.size]? from fun w3 o3 => by
          have hs : kb < w.heap.size ∧ w.heap.size < wr.heap.size ∧ wr.heap.size ≤ wn.heap.size ∧ wn.heap.size < X.heap.size := HLT.out
          have hne := mX.ne
          have gi : ∀ j, w.heap.size ≤ j → j ≤ wn.heap.size → ¬ GR' j ∨ w.heap.size + 1 ≤ j := fun j h1 h2 => by
            by_cases h3 : GR' j
            · rcases HR.out.g j h3 with h4 | h4
              · exact absurd ((HM.out.lt I).1 j (.inr h4)) (by omega)
              · exact .inr h4
            · exact .inl h3
          refine ⟨o3.size, o3.block _ (by omega) ?_, o3.block _ (by omega) ?_, o3.block _ (by omega) ?_⟩
          · rintro (e | e)
            · exact hne.2.2.1.1 e
            · exact mX.ngr kb (by simp) e
          · rintro (e | e)
            · have := HM.out.blt.2.2.2.1; omega
            · rcases gi _ (Nat.le_refl _) (by omega) with h | h
              · exact h e
              · omega
          · rintro (e | e)
            · have := HM.out.blt.2.2.2.1; omega
            · have := (mX.lt I).1 _ (.inr e)
              have := (HR.out.mem.lt I).1 _ (.inr e)
              omega)
        clear hin hok hr2 hg2 hsz hlt hen hkP hx hx1 hval hn hlts hit hne on itG bX n0 oX mX hkbit rX lX oW cf cm xlt hkin hk
        go_upto_region 3 with fail
        clear hen2 hX
        go_wp2_with (first
          | (go_at_call 131; go_loud (refine CD.out.mono ?_; rintro e w3 ⟨rfl, GR3, m3, g3, o3⟩; have M3 := Lib.hid m3; have G3 := Lib.hid g3; have O3 := Lib.hid o3; have K3 := Lib.hid (KF.out w3 o3); have R3 := Lib.hid (RX.out.kept K3.out.2.1 K3.out.2.2.1); clear m3 g3 o3))
          | (at_delete; go_loud (refine wp_rdelM KI (by rfl) (.tmp 17) (.tmp 18) (by rfl) (by rfl) w.heap.size _ R3.out Tryz.underlying87 x HXK.out (by rfl) (by unfold kepM; rw [enc_get, getA_del HR.out.inv.ol, if_pos rfl]; rfl) ?_; intro w5 r5 g5 s5 l5; have R5 := Lib.hid r5; have G5 := Lib.hid g5; have L5 := Lib.hid l5; clear r5 g5 l5 s5; go_frame)))
        go_roundw
        case rel =>
          have o5 : Out (fun j => j = kb) w3 w5 := (Out.refl _ w3).grown G5.out fun j e => .inl (Option.some.inj e).symm
          have e5 : delM (kepM cur) x = kepM (delA cur x) := enc_del _ _ _
          have r5 := R5.out
          rw [e5] at r5
          have m5 := M3.out.setKep I o5 (K' := delA cur x) r5.map fun p hp => .inl (mem_delA.1 hp).1
          refine ⟨GR3, delA cur x, delA left x, ?_, r5, HSK.out.1, fun j hj => ?_, ?_⟩
          · rw [← HSK.out.2]; exact m5
          · rcases G3.out j hj with h | h
            · exact HR.out.g j h
            · have hs := HLT.out; exact .inr (by omega)
          · refine (OW.out.trans O3.out fun j hj e => ?_).trans o5 fun j _ e => .inl e
            rcases e with e | e
            · exact .inr (.inl e)
            · rcases HR.out.g j e with h | h
              · exact .inr (.inr h)
              · omega
        case measure =>
          have h1 := L5.out
          have h2 := LX.out
          rw [left_kept K3.out.2.1 K3.out.2.2.1] at h1
          exact Nat.lt_of_le_of_lt h1 h2
end
end Go.Proofs.YtknppiebncdjmaaGreat

/- Layer 10: the end of a transaction, and its abort. -/
namespace Go.Proofs.YtknppiebncdjmaaGreat
set_option maxRecDepth 100000
set_option maxRecDepth 100000
open Go.RowKit Go.Maps Go.ChangeMaps Go.MapKept

/-- The least so far. -/
structure MinI (P : Pg) (left : List (Int × Int)) (m : Int) : Prop where
  le : ∀ x s, (x, s) ∈ P.act → (x, s) ∉ left → m ≤ x
  top : m ≤ P.begun + 1
  is : m = P.begun + 1 ∨ ∃ x s, (x, s) ∈ P.act ∧ m = x
theorem MinI.start (P : Pg) : MinI P P.act (P.begun + 1) := ⟨fun x s h h2 => absurd h h2, Int.le_refl _, .inl rfl⟩
theorem MinI.step {P : Pg} {left : List (Int × Int)} {m : Int} (h : MinI P left m) {x s : Int} (hx : (x, s) ∈ P.act) (ho : OnceA P.act) : MinI P (delA left x) (min m x) := by
  refine ⟨fun y t hy hn => ?_, by have := h.top; omega, ?_⟩
  · by_cases e : y = x
    · omega
    · have := h.le y t hy fun h2 => hn (mem_delA.2 ⟨h2, e⟩)
      omega
  · by_cases e : m ≤ x
    · rw [Int.min_eq_left e]; exact h.is
    · exact .inr ⟨x, s, hx, by omega⟩
theorem firstG_is (P : Pg) : firstG P ≤ P.begun + 1 ∧ (∀ p ∈ P.act, firstG P ≤ p.1) ∧ (firstG P = P.begun + 1 ∨ ∃ p ∈ P.act, firstG P = p.1) := by
  unfold firstG
  have key : ∀ (l : List (Int × Int)) (a : Int), l.foldl (fun a p => min a p.1) a ≤ a ∧ (∀ p ∈ l, l.foldl (fun a p => min a p.1) a ≤ p.1) ∧ (l.foldl (fun a p => min a p.1) a = a ∨ ∃ p ∈ l, l.foldl (fun a p => min a p.1) a = p.1) := by
    intro l
    induction l with
    | nil => intro a; simp
    | cons p l ih =>
      intro a
      obtain ⟨h1, h2, h3⟩ := ih (min a p.1)
      rw [List.foldl_cons]
      refine ⟨by omega, fun q hq => ?_, ?_⟩
      · rcases List.mem_cons.1 hq with rfl | hq
        · omega
        · exact h2 q hq
      · rcases h3 with h3 | ⟨q, hq, h3⟩
        · by_cases e : a ≤ p.1
          · exact .inl (by rw [h3]; omega)
          · exact .inr ⟨p, List.mem_cons_self .., by rw [h3]; omega⟩
        · exact .inr ⟨q, List.mem_cons_of_mem _ hq, h3⟩
  exact key _ _
theorem MinI.ends {P : Pg} {m : Int} (h : MinI P [] m) : m = firstG P := by
  obtain ⟨h1, h2, h3⟩ := firstG_is P
  refine Int.le_antisymm ?_ ?_
  · rcases h3 with h3 | ⟨p, hp, h3⟩
    · rw [h3]; exact h.top
    · rw [h3]; exact h.le p.1 p.2 hp (by simp)
  · rcases h.is with e | ⟨x, s, hx, e⟩
    · rw [e]; exact h1
    · rw [e]; exact h2 _ hx
section
variable {M : MF} {w : World} {b ab kb fb lm lr rr : Nat} {GR : Nat → Prop} {c : Cp10} {P : Pg}
theorem PgOk.delAct (h : PgOk c P) (tx : Int) : PgOk c { P with act := delA P.act tx } :=
  ⟨h.ca, h.ck, by have := del_lenA (l := P.act) tx; have := h.na; show ((delA P.act tx).length : Int) ≤ _; omega, h.nk, h.nf, h.bg, h.nw, fun p hp => h.ax p (mem_delA.1 (show (p.1, p.2) ∈ _ from hp)).1, h.kx, h.fx⟩
set_option maxHeartbeats 8000000 in
theorem wxEnd (I : Api9 M) (h : Mem10 M w b ab kb fb lm lr rr GR c P) (hc : PgOk c P) {tx : Int} (hx : (Lit.int .i64 tx).wf = true) :
    Calls Tryz.prog 82 #[.pointer (some ⟨b, 0, none⟩), .int .i64 tx] w fun e w' => e = .returned (.tuple #[]) ∧ ∃ GR', Mem10 M w' b ab kb fb lm lr rr GR' c (endG P tx) ∧ (∀ k, GR' k → GR k ∨ w.heap.size ≤ k) ∧ Out (fun k => k = ab ∨ k = kb ∨ k = fb ∨ GR k) w w' := by
  obtain ⟨W, hW⟩ : ∃ W, w.alloc (.cells #[.pointer (some ⟨b, 0, none⟩)] 25) = W := ⟨_, rfl⟩
  have hB : Below w.heap.size w W := by rw [← hW]; exact (Below.refl _ _).alloc (Nat.le_refl _) _
  have sW : W.heap.size = w.heap.size + 1 := by rw [← hW]; simp
  have q0 : W.cell? ⟨w.heap.size, 0, none⟩ = some (.pointer (some ⟨b, 0, none⟩)) := by rw [← hW]; exact cell_of_row _ _ 0 _ _ _ (heap_alloc_new _ _)
  have m1 := h.below I hB
  obtain ⟨-, -, -, -, -, c5, c6, c7, -, -, -⟩ := m1.cells
  have HB := Lib.hid hB
  have HW := Lib.hid hW
  have HS := Lib.hid sW
  have M1 := Lib.hid m1
  have HX := Lib.hid (show KI.ok tx from hx)
  have HC := Lib.hid (hc.delAct tx)
  have HLT := Lib.hid h.blt
  have HO := Lib.hid (h.onceA.1.del tx)
  have HGR := Lib.hid (h.lt I)
  obtain ⟨n0, hn0⟩ : ∃ n, P.begun = n := ⟨_, rfl⟩
  have i1 : 0 ≤ n0 ∧ n0 ≤ 1000000000000000000 := by rw [← hn0]; exact hc.bg
  obtain ⟨i1, i2⟩ := i1
  rw [hn0] at c5
  have HN0 := Lib.hid hn0
  clear h hB hW sW m1 hc hn0
  go_enter Tryz.func82, Tryz.ntmps82
  go_upto_region 1 with fail
  rw [HW.out]
  go_upto_region 2 with (at_delete; go_loud (refine wp_delM KI (by rfl) (.tmp 9) (.tmp 10) (by rfl) (by rfl) M1.out.act Tryz.underlying86 tx HX.out (by rfl) ?_; intro w2 m2 g2 s2; have M2a := Lib.hid m2; have G2 := Lib.hid g2; have S2 := Lib.hid s2; clear m2 g2 s2))
  have o2 : Out (fun k => k = ab) W w2 := (Out.refl _ W).grown G2.out fun k e => .inl (Option.some.inj e).symm
  have m2 := M1.out.setAct I o2 (A' := delA P.act tx) (by have := M2a.out; unfold actM at this ⊢; rw [← enc_del]; exact this)
  have nab : w.heap.size ≠ ab := by have := HLT.out.2.1; omega
  replace q0 : w2.cell? ⟨w.heap.size, 0, none⟩ = some (.pointer (some ⟨b, 0, none⟩)) := o2.cell q0 nab
  obtain ⟨-, -, -, -, -, c5, c6, c7, -, -, -⟩ := m2.cells
  rw [show ({ P with act := delA P.act tx } : Pg).begun = P.begun from rfl, HN0.out] at c5
  have s2 : w2.heap.size = w.heap.size + 1 := by rw [S2.out, HS.out]
  obtain ⟨X, hX⟩ : ∃ X, w2.alloc (.cells #[.int .i64 (n0 + 1)] 2) = X := ⟨_, rfl⟩
  have bX : Below w2.heap.size w2 X := by rw [← hX]; exact (Below.refl _ _).alloc (Nat.le_refl _) _
  have sX : X.heap.size = w.heap.size + 1 + 1 := by rw [← hX]; simp [s2]
  have mX := m2.below I bX
  have fX : Cel X (w.heap.size + 1) (.int .i64 (n0 + 1)) := by rw [← hX, ← s2]; exact Cel.new _ _ _
  have qx : X.cell? ⟨w.heap.size, 0, none⟩ = some (.pointer (some ⟨b, 0, none⟩)) := keep_below q0 bX
  obtain ⟨-, -, -, -, -, -, c6, c7, -, -, -⟩ := mX.cells
  have HX2 := Lib.hid hX
  have MX := Lib.hid mX
  have FX := Lib.hid fX
  have SX := Lib.hid sX
  have OX := Lib.hid (show Out (fun k => k = ab) w X from (Out.of_below HB.out _).then (o2.then (Out.of_below bX _)))
  have HS2 := Lib.hid s2
  clear o2 m2 nab bX mX hX s2 fX sX
  go_upto_region 3 with fail
  rw [HX2.out, HS2.out]
  go_wp2_with (at_range; go_loud (refine wp_rangeM KI (by rfl) (.tmp 19) (by rfl) (by rfl) MX.out.act Tryz.underlying86 ?_; intro w3 r3 g3 s3; have R3 := Lib.hid r3; have G3 := Lib.hid g3; have S3 := Lib.hid s3; clear r3 g3 s3))
  try go_frame
  rw [SX.out]
  go_loopw [21] (fun _ wr => ∃ (m : Int) (left : List (Int × Int)), MinI { P with act := delA P.act tx } left m ∧ RangeM KI wr ab (w.heap.size + 1 + 1) (actM (delA P.act tx)) (actM left) ∧ Cel wr (w.heap.size + 1) (.int .i64 m) ∧ Out (fun k => k = w.heap.size + 1) X wr) (fun _ wr => wr.rangeLeft ab (w.heap.size + 1 + 1))
  case atStart =>
    have b3 : Below X.heap.size X w3 := (Below.refl X.heap.size X).grown G3.out (Nat.le_refl _) fun k e => by cases e
    refine ⟨n0 + 1, delA P.act tx, by rw [← HN0.out]; exact MinI.start _, by rw [← SX.out]; exact R3.out, FX.out.below b3, Out.of_below b3 _⟩
  case round =>
    rename World => wr
    obtain ⟨m, left, hI, hR, hF, hO⟩ := hrel
    have MI := Lib.hid hI
    have RR := Lib.hid hR
    have FF := Lib.hid hF
    have OO := Lib.hid hO
    have q1 : wr.cell? ⟨w.heap.size, 0, none⟩ = some (.pointer (some ⟨b, 0, none⟩)) := hO.cell qx (by simp)
    have notG : ∀ k, k = w.heap.size + 1 → ¬ BlG b ab kb fb lr GR k ∧ ¬ BlK lm { P with act := delA P.act tx } k := by
      rintro k rfl
      have hl : ∀ k, BlG b ab kb fb lr GR k ∨ BlK lm { P with act := delA P.act tx } k → k < w.heap.size := by
        rintro k (hk | hk)
        · exact HGR.out.1 k hk
        · exact HGR.out.2 k hk
      exact ⟨fun h => by have := hl _ (.inl h); omega, fun h => by have := hl _ (.inr h); omega⟩
    have MR := Lib.hid (MX.out.stays I hO notG)
    clear hI hR hF hO
    go_wp2_with (at_next; go_loud (refine wp_nextM KI (by rfl) (.tmp 20) (by rfl) (w.heap.size + 1 + 1) (actM left) (by rfl) RR.out ?_ ?_))
    · intro hnil
      have hl : left = [] := by
        unfold actM encA at hnil
        exact List.map_eq_nil_iff.1 hnil
      subst hl
      have hm := MI.out.ends
      have f1 : wr.cell? ⟨w.heap.size + 1, 0, none⟩ = some (.int .i64 m) := FF.out.1
      rw [hm] at f1
      have CD := Lib.hid (wxDelete I MR.out HC.out f1 q1 (notG _ rfl).1 (fun h => by have := HGR.out.1 _ h; omega))
      obtain ⟨-, -, -, -, -, -, -, c7r, -, -, -⟩ := MR.out.cells
      clear hm notG f1
      go_wp2_with (go_at_call 130; go_loud (refine CD.out.mono ?_; rintro e w5 ⟨rfl, GR5, m5, g5, o5⟩; have M5 := Lib.hid m5; have G5 := Lib.hid g5; have O5 := Lib.hid o5; clear m5 g5 o5))
      go_end0
      have hsz := OO.out.size
      have hsx := SX.out
      refine ⟨rfl, GR5, M5.out, fun k hk => (G5.out k hk).imp id fun h => by omega, ?_⟩
      refine ((OX.out.mono fun k _ h => .inl h).trans OO.out fun k hk e => by omega).trans O5.out fun k _ e => ?_
      rcases e with e | e | e
      · exact .inr (.inl e)
      · exact .inr (.inr (.inl e))
      · exact .inr (.inr (.inr e))
    · intro x v wn hin hok hr2 hg2 hsz hlt hen
      obtain ⟨s, hs, rfl⟩ := (enc_mem (Value.int .i64)).1 hin
      have hact : (x, s) ∈ delA P.act tx := by
        have := RangeM.sub RR.out _ hin
        obtain ⟨s2, h2, e⟩ := (enc_mem (Value.int .i64)).1 this
        cases e; exact h2
      have hszr : w.heap.size + 1 + 1 ≤ X.heap.size := by rw [SX.out]; exact Nat.le_refl _
      have hitl := RangeM.it_lt RR.out
      have fn : Cel wn (w.heap.size + 1) (.int .i64 m) := by
        have hb := hg2.block (w.heap.size + 1) (by omega) (fun e => by have := Option.some.inj e; omega)
        obtain ⟨f1, f2⟩ := FF.out
        refine ⟨?_, ?_⟩
        · unfold World.cell? at f1 ⊢; rw [hb]; exact f1
        · unfold World.frozen? at f2 ⊢; rw [hb]; exact f2
      have f1 := fn.1
      have f2 := fn.2
      have FN := Lib.hid fn
      have HIN := Lib.hid hs
      have HAC := Lib.hid hact
      have HR2 := Lib.hid hr2
      have HG2 := Lib.hid hg2
      have HLTM := Lib.hid hlt
      have HSZ := Lib.hid hsz
      have HIT := Lib.hid hitl
      clear hin hok hr2 hg2 hsz hlt hs hact hszr hitl notG fn
      have hen2 : (Instr.entry (.pointer (some ⟨w.heap.size + 1 + 1, 0, none⟩))).run Tryz.prog wn = .ok (.tuple #[.int .i64 x, .int .i64 s]) wn := hen
      clear hen
      have NX := Lib.hid (show ∀ y : Int, y = min m x → ∃ (m' : Int) (left' : List (Int × Int)), (MinI { P with act := delA P.act tx } left' m' ∧ RangeM KI (wn.setCell ⟨w.heap.size + 1, 0, none⟩ (.int .i64 y)) ab (w.heap.size + 1 + 1) (actM (delA P.act tx)) (actM left') ∧ Cel (wn.setCell ⟨w.heap.size + 1, 0, none⟩ (.int .i64 y)) (w.heap.size + 1) (.int .i64 m') ∧ Out (fun k => k = w.heap.size + 1) X (wn.setCell ⟨w.heap.size + 1, 0, none⟩ (.int .i64 y))) ∧ (wn.setCell ⟨w.heap.size + 1, 0, none⟩ (.int .i64 y)).rangeLeft ab (w.heap.size + 1 + 1) < wr.rangeLeft ab (w.heap.size + 1 + 1) from by
        rintro y rfl
        have hab := HLT.out.2.1
        have h1 : ∀ k, k ≠ w.heap.size + 1 → (wn.setCell ⟨w.heap.size + 1, 0, none⟩ (.int .i64 (min m x))).heap[k]? = wn.heap[k]? := fun k hk => heap_setCells (w.heap.size + 1) [.int .i64 (min m x)] 0 wn k hk
        have hd : delM (actM left) x = actM (delA left x) := enc_del _ _ _
        have hr := HR2.out
        rw [hd] at hr
        refine ⟨min m x, delA left x, ⟨MI.out.step HAC.out HO.out, hr.kept (h1 _ (by omega)) (h1 _ (by omega)), FN.out.set_same _, ?_⟩, ?_⟩
        · refine Out.setCell (F := fun k => k = w.heap.size + 1) ?_ (.inl rfl) _
          exact OO.out.grown HG2.out fun k e => .inr (by have := Option.some.inj e; have := SX.out; omega)
        · rw [left_kept (h1 _ (by omega)) (h1 _ (by omega))]; exact HLTM.out)
      by_cases hxm : x < m
      · obtain ⟨m', left', h1, h2⟩ := NX.out x (by omega)
        have H1 := Lib.hid h1
        have H2 := Lib.hid h2
        clear h1 h2
        go_wp2
        go_roundw
        case rel => first | exact ⟨m', left', H1.out⟩ | (rw [show min m x = x by omega]; exact ⟨m', left', H1.out⟩)
        case measure => first | exact H2.out | (rw [show min m x = x by omega]; exact H2.out)
      · obtain ⟨m', left', h1, h2⟩ := NX.out m (by omega)
        have H1 := Lib.hid h1
        have H2 := Lib.hid h2
        clear h1 h2
        go_wp2
        go_roundw
        case rel => first | exact ⟨m', left', H1.out⟩ | (rw [show min m x = m by omega]; exact ⟨m', left', H1.out⟩)
        case measure => first | exact H2.out | (rw [show min m x = m by omega]; exact H2.out)
set_option maxHeartbeats 4000000 in
theorem wxAbort (I : Api9 M) (h : Mem10 M w b ab kb fb lm lr rr GR c P) (hc : PgOk c P) {tx : Int} (hx : (Lit.int .i64 tx).wf = true) :
    Calls Tryz.prog 52 #[.pointer (some ⟨b, 0, none⟩), .int .i64 tx] w fun e w' => e = .returned (.tuple #[]) ∧ ∃ GR', Mem10 M w' b ab kb fb lm lr rr GR' c (abortG P tx) ∧ (∀ k, GR' k → GR k ∨ w.heap.size ≤ k) ∧ Out (fun k => k = ab ∨ k = kb ∨ k = fb ∨ k = lr ∨ GR k) w w' := by
  obtain ⟨-, -, -, -, -, -, -, -, -, c9, -⟩ := h.cells
  have CR := Lib.hid (wkRelease h.lok tx)
  have CF := Lib.hid (fun (w1 : World) (m1 : Mem10 M w1 b ab kb fb lm lr rr GR c { P with H := releaseP P.H tx }) => wxForget I m1 hx)
  have CE := Lib.hid (fun (w1 : World) (GR1 : Nat → Prop) (m1 : Mem10 M w1 b ab kb fb lm lr rr GR1 c (forgetG { P with H := releaseP P.H tx } tx)) => wxEnd I m1 (c := c) ⟨hc.ca, hc.ck, hc.na, hc.nk, Nat.le_trans (del_lenA (l := P.flg) tx) hc.nf, hc.bg, hc.nw, hc.ax, hc.kx, fun p hp => hc.fx p (mem_delA.1 (show (p.1, p.2) ∈ _ from hp)).1⟩ hx)
  have HM := Lib.hid h
  obtain ⟨q, hq⟩ : ∃ q : Int, ((P.H.length : Int) - ((releaseP P.H tx).length : Int)) = q := ⟨_, rfl⟩
  rw [hq] at CR
  clear h hc hq
  go_enter Tryz.func52, Tryz.ntmps52
  go_wp2_with (first
    | (go_at_call 80; go_loud (refine CR.out.mono ?_; rintro e w1 ⟨rfl, l1, o1⟩; have O1 := Lib.hid o1; have M1 := Lib.hid (HM.out.setLok I o1 l1); clear l1 o1 c9))
    | (go_at_call 81; go_loud (refine (CF.out _ M1.out).mono ?_; rintro e w2 ⟨rfl, GR2, m2, g2, o2⟩; have M2 := Lib.hid m2; have G2 := Lib.hid g2; have O2 := Lib.hid o2; clear m2 g2 o2))
    | (go_at_call 82; go_loud (refine (CE.out _ _ M2.out).mono ?_; rintro e w3 ⟨rfl, GR3, m3, g3, o3⟩; have M3 := Lib.hid m3; have G3 := Lib.hid g3; have O3 := Lib.hid o3; clear m3 g3 o3)))
  go_end0
  have s1 := O1.out.size
  have s2 := O2.out.size
  refine ⟨rfl, GR3, M3.out, fun k hk => ?_, ?_⟩
  · rcases G3.out k hk with h | h
    · rcases G2.out k h with h | h
      · exact .inl h
      · exact .inr (by omega)
    · exact .inr (by omega)
  · refine ((O1.out.mono fun k _ e => .inr (.inr (.inr (.inl e)))).trans O2.out fun k _ e => ?_).trans O3.out fun k hk e => ?_
    · rcases e with e | e
      · exact .inr (.inr (.inl e))
      · exact .inr (.inr (.inr (.inr e)))
    · rcases e with e | e | e | e
      · exact .inl e
      · exact .inr (.inl e)
      · exact .inr (.inr (.inl e))
      · rcases G2.out k e with h | h
        · exact .inr (.inr (.inr (.inr h)))
        · omega
end
end Go.Proofs.YtknppiebncdjmaaGreat
