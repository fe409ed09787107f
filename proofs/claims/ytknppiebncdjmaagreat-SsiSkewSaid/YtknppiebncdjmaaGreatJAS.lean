import Derived.Test.YtknppiebncdjmaaGreatJAR
import Derived.Test.YtknppiebncdjmaaGreatJAP
import Derived.Test.YtknppiebncdjmaaGreatJAB
import Derived.Deep.RegionHeld3
set_option linter.unusedVariables false
namespace Go.Proofs.YtknppiebncdjmaaGreat
set_option maxRecDepth 100000
open Go.RowKit Go.Maps Go.ChangeMaps Go.MapKept

structure MinI (P : Pg) (left : List (Int × Int)) (m : Int) : Prop where
  le : ∀ x s, (x, s) ∈ P.act → (x, s) ∉ left → m ≤ x
  top : m ≤ P.begun + 1
  is : m = P.begun + 1 ∨ ∃ x s, (x, s) ∈ P.act ∧ m = x
theorem MinI.start (P : Pg) : MinI P P.act (P.begun + 1) := ⟨fun x s h h2 => absurd h h2, Int.le_refl _, .inl rfl⟩
theorem MinI.step {P : Pg} {left : List (Int × Int)} {m : Int} (h : MinI P left m) {x s : Int} (hx : (x, s) ∈ P.act) (ho : OnceA P.act) : MinI P (delA left x) (min m x) := by
  refine ⟨fun y t hy hn => ?_, by have := h.top; omega, ?_⟩
  · by_cases e : y = x
    · omega
    · have := h.le y t hy fun h2 => hn (mem_delA.2 ⟨h2, e⟩)
      omega
  · by_cases e : m ≤ x
    · rw [Int.min_eq_left e]; exact h.is
    · exact .inr ⟨x, s, hx, by omega⟩
theorem firstG_is (P : Pg) : firstG P ≤ P.begun + 1 ∧ (∀ p ∈ P.act, firstG P ≤ p.1) ∧ (firstG P = P.begun + 1 ∨ ∃ p ∈ P.act, firstG P = p.1) := by
  unfold firstG
  have key : ∀ (l : List (Int × Int)) (a : Int), l.foldl (fun a p => min a p.1) a ≤ a ∧ (∀ p ∈ l, l.foldl (fun a p => min a p.1) a ≤ p.1) ∧ (l.foldl (fun a p => min a p.1) a = a ∨ ∃ p ∈ l, l.foldl (fun a p => min a p.1) a = p.1) := by
    intro l
    induction l with
    | nil => intro a; simp
    | cons p l ih =>
      intro a
      obtain ⟨h1, h2, h3⟩ := ih (min a p.1)
      rw [List.foldl_cons]
      refine ⟨by omega, fun q hq => ?_, ?_⟩
      · rcases List.mem_cons.1 hq with rfl | hq
        · omega
        · exact h2 q hq
      · rcases h3 with h3 | ⟨q, hq, h3⟩
        · by_cases e : a ≤ p.1
          · exact .inl (by rw [h3]; omega)
          · exact .inr ⟨p, List.mem_cons_self .., by rw [h3]; omega⟩
        · exact .inr ⟨q, List.mem_cons_of_mem _ hq, h3⟩
  exact key _ _
theorem MinI.ends {P : Pg} {m : Int} (h : MinI P [] m) : m = firstG P := by
  obtain ⟨h1, h2, h3⟩ := firstG_is P
  refine Int.le_antisymm ?_ ?_
  · rcases h3 with h3 | ⟨p, hp, h3⟩
    · rw [h3]; exact h.top
    · rw [h3]; exact h.le p.1 p.2 hp (by simp)
  · rcases h.is with e | ⟨x, s, hx, e⟩
    · rw [e]; exact h1
    · rw [e]; exact h2 _ hx
section
variable {M : MF} {w : World} {b ab kb fb lm lr rr : Nat} {GR : Nat → Prop} {c : Cp10} {P : Pg}
theorem PgOk.delAct (h : PgOk c P) (tx : Int) : PgOk c { P with act := delA P.act tx } :=
  ⟨h.ca, h.ck, by have := del_lenA (l := P.act) tx; have := h.na; show ((delA P.act tx).length : Int) ≤ _; omega, h.nk, h.nf, h.bg, h.nw, fun p hp => h.ax p (mem_delA.1 (show (p.1, p.2) ∈ _ from hp)).1, h.kx, h.fx⟩
set_option maxHeartbeats 8000000 in
theorem wxEnd (I : Api9 M) (h : Mem10 M w b ab kb fb lm lr rr GR c P) (hc : PgOk c P) {tx : Int} (hx : (Lit.int .i64 tx).wf = true) :
    Calls Tryz.prog 82 #[.pointer (some ⟨b, 0, none⟩), .int .i64 tx] w fun e w' => e = .returned (.tuple #[]) ∧ ∃ GR', Mem10 M w' b ab kb fb lm lr rr GR' c (endG P tx) ∧ (∀ k, GR' k → GR k ∨ w.heap.size ≤ k) ∧ Out (fun k => k = ab ∨ k = kb ∨ k = fb ∨ GR k) w w' := by
  obtain ⟨W, hW⟩ : ∃ W, w.alloc (.cells #[.pointer (some ⟨b, 0, none⟩)] 25) = W := ⟨_, rfl⟩
  have hB : Below w.heap.size w W := by rw [← hW]; exact (Below.refl _ _).alloc (Nat.le_refl _) _
  have sW : W.heap.size = w.heap.size + 1 := by rw [← hW]; simp
  have q0 : W.cell? ⟨w.heap.size, 0, none⟩ = some (.pointer (some ⟨b, 0, none⟩)) := by rw [← hW]; exact cell_of_row _ _ 0 _ _ _ (heap_alloc_new _ _)
  have m1 := h.below I hB
  obtain ⟨-, -, -, -, -, c5, c6, c7, -, -, -⟩ := m1.cells
  have HB := Lib.hid hB
  have HW := Lib.hid hW
  have HS := Lib.hid sW
  have M1 := Lib.hid m1
  have HX := Lib.hid (show KI.ok tx from hx)
  have HC := Lib.hid (hc.delAct tx)
  have HLT := Lib.hid h.blt
  have HO := Lib.hid (h.onceA.1.del tx)
  have HGR := Lib.hid (h.lt I)
  obtain ⟨n0, hn0⟩ : ∃ n, P.begun = n := ⟨_, rfl⟩
  have i1 : 0 ≤ n0 ∧ n0 ≤ 1000000000000000000 := by rw [← hn0]; exact hc.bg
  obtain ⟨i1, i2⟩ := i1
  rw [hn0] at c5
  have HN0 := Lib.hid hn0
  clear h hB hW sW m1 hc hn0
  go_enter Tryz.func82, Tryz.ntmps82
  go_upto_region 1 with fail
  rw [HW.out]
  go_upto_region 2 with (at_delete; go_loud (refine wp_delM KI (by rfl) (.tmp 9) (.tmp 10) (by rfl) (by rfl) M1.out.act Tryz.underlying86 tx HX.out (by rfl) ?_; intro w2 m2 g2 s2; have M2a := Lib.hid m2; have G2 := Lib.hid g2; have S2 := Lib.hid s2; clear m2 g2 s2))
  have o2 : Out (fun k => k = ab) W w2 := (Out.refl _ W).grown G2.out fun k e => .inl (Option.some.inj e).symm
  have m2 := M1.out.setAct I o2 (A' := delA P.act tx) (by have := M2a.out; unfold actM at this ⊢; rw [← enc_del]; exact this)
  have nab : w.heap.size ≠ ab := by have := HLT.out.2.1; omega
  replace q0 : w2.cell? ⟨w.heap.size, 0, none⟩ = some (.pointer (some ⟨b, 0, none⟩)) := o2.cell q0 nab
  obtain ⟨-, -, -, -, -, c5, c6, c7, -, -, -⟩ := m2.cells
  rw [show ({ P with act := delA P.act tx } : Pg).begun = P.begun from rfl, HN0.out] at c5
  have s2 : w2.heap.size = w.heap.size + 1 := by rw [S2.out, HS.out]
  obtain ⟨X, hX⟩ : ∃ X, w2.alloc (.cells #[.int .i64 (n0 + 1)] 2) = X := ⟨_, rfl⟩
  have bX : Below w2.heap.size w2 X := by rw [← hX]; exact (Below.refl _ _).alloc (Nat.le_refl _) _
  have sX : X.heap.size = w.heap.size + 1 + 1 := by rw [← hX]; simp [s2]
  have mX := m2.below I bX
  have fX : Cel X (w.heap.size + 1) (.int .i64 (n0 + 1)) := by rw [← hX, ← s2]; exact Cel.new _ _ _
  have qx : X.cell? ⟨w.heap.size, 0, none⟩ = some (.pointer (some ⟨b, 0, none⟩)) := keep_below q0 bX
  obtain ⟨-, -, -, -, -, -, c6, c7, -, -, -⟩ := mX.cells
  have HX2 := Lib.hid hX
  have MX := Lib.hid mX
  have FX := Lib.hid fX
  have SX := Lib.hid sX
  have OX := Lib.hid (show Out (fun k => k = ab) w X from (Out.of_below HB.out _).then (o2.then (Out.of_below bX _)))
  have HS2 := Lib.hid s2
  clear o2 m2 nab bX mX hX s2 fX sX
  go_upto_region 3 with fail
  rw [HX2.out, HS2.out]
  go_wp2_with (at_range; go_loud (refine wp_rangeM KI (by rfl) (.tmp 19) (by rfl) (by rfl) MX.out.act Tryz.underlying86 ?_; intro w3 r3 g3 s3; have R3 := Lib.hid r3; have G3 := Lib.hid g3; have S3 := Lib.hid s3; clear r3 g3 s3))
  try go_frame
  rw [SX.out]
  go_loopw [21] (fun _ wr => ∃ (m : Int) (left : List (Int × Int)), MinI { P with act := delA P.act tx } left m ∧ RangeM KI wr ab (w.heap.size + 1 + 1) (actM (delA P.act tx)) (actM left) ∧ Cel wr (w.heap.size + 1) (.int .i64 m) ∧ Out (fun k => k = w.heap.size + 1) X wr) (fun _ wr => wr.rangeLeft ab (w.heap.size + 1 + 1))
  case atStart =>
    have b3 : Below X.heap.size X w3 := (Below.refl X.heap.size X).grown G3.out (Nat.le_refl _) fun k e => by cases e
    refine ⟨n0 + 1, delA P.act tx, by rw [← HN0.out]; exact MinI.start _, by rw [← SX.out]; exact R3.out, FX.out.below b3, Out.of_below b3 _⟩
  case round =>
    rename World => wr
    obtain ⟨m, left, hI, hR, hF, hO⟩ := hrel
    have MI := Lib.hid hI
    have RR := Lib.hid hR
    have FF := Lib.hid hF
    have OO := Lib.hid hO
    have q1 : wr.cell? ⟨w.heap.size, 0, none⟩ = some (.pointer (some ⟨b, 0, none⟩)) := hO.cell qx (by simp)
    have notG : ∀ k, k = w.heap.size + 1 → ¬ BlG b ab kb fb lr GR k ∧ ¬ BlK lm { P with act := delA P.act tx } k := by
      rintro k rfl
      have hl : ∀ k, BlG b ab kb fb lr GR k ∨ BlK lm { P with act := delA P.act tx } k → k < w.heap.size := by
        rintro k (hk | hk)
        · exact HGR.out.1 k hk
        · exact HGR.out.2 k hk
      exact ⟨fun h => by have := hl _ (.inl h); omega, fun h => by have := hl _ (.inr h); omega⟩
    have MR := Lib.hid (MX.out.stays I hO notG)
    clear hI hR hF hO
    go_wp2_with (at_next; go_loud (refine wp_nextM KI (by rfl) (.tmp 20) (by rfl) (w.heap.size + 1 + 1) (actM left) (by rfl) RR.out ?_ ?_))
    · intro hnil
      have hl : left = [] := by
        unfold actM encA at hnil
        exact List.map_eq_nil_iff.1 hnil
      subst hl
      have hm := MI.out.ends
      have f1 : wr.cell? ⟨w.heap.size + 1, 0, none⟩ = some (.int .i64 m) := FF.out.1
      rw [hm] at f1
      have CD := Lib.hid (wxDelete I MR.out HC.out f1 q1 (notG _ rfl).1 (fun h => by have := HGR.out.1 _ h; omega))
      obtain ⟨-, -, -, -, -, -, -, c7r, -, -, -⟩ := MR.out.cells
      clear hm notG f1
      go_wp2_with (go_at_call 130; go_loud (refine CD.out.mono ?_; rintro e w5 ⟨rfl, GR5, m5, g5, o5⟩; have M5 := Lib.hid m5; have G5 := Lib.hid g5; have O5 := Lib.hid o5; clear m5 g5 o5))
      go_end0
      have hsz := OO.out.size
      have hsx := SX.out
      refine ⟨rfl, GR5, M5.out, fun k hk => (G5.out k hk).imp id fun h => by omega, ?_⟩
      refine ((OX.out.mono fun k _ h => .inl h).trans OO.out fun k hk e => by omega).trans O5.out fun k _ e => ?_
      rcases e with e | e | e
      · exact .inr (.inl e)
      · exact .inr (.inr (.inl e))
      · exact .inr (.inr (.inr e))
    · intro x v wn hin hok hr2 hg2 hsz hlt hen
      obtain ⟨s, hs, rfl⟩ := (enc_mem (Value.int .i64)).1 hin
      have hact : (x, s) ∈ delA P.act tx := by
        have := RangeM.sub RR.out _ hin
        obtain ⟨s2, h2, e⟩ := (enc_mem (Value.int .i64)).1 this
        cases e; exact h2
      have hszr : w.heap.size + 1 + 1 ≤ X.heap.size := by rw [SX.out]; exact Nat.le_refl _
      have hitl := RangeM.it_lt RR.out
      have fn : Cel wn (w.heap.size + 1) (.int .i64 m) := by
        have hb := hg2.block (w.heap.size + 1) (by omega) (fun e => by have := Option.some.inj e; omega)
        obtain ⟨f1, f2⟩ := FF.out
        refine ⟨?_, ?_⟩
        · unfold World.cell? at f1 ⊢; rw [hb]; exact f1
        · unfold World.frozen? at f2 ⊢; rw [hb]; exact f2
      have f1 := fn.1
      have f2 := fn.2
      have FN := Lib.hid fn
      have HIN := Lib.hid hs
      have HAC := Lib.hid hact
      have HR2 := Lib.hid hr2
      have HG2 := Lib.hid hg2
      have HLTM := Lib.hid hlt
      have HSZ := Lib.hid hsz
      have HIT := Lib.hid hitl
      clear hin hok hr2 hg2 hsz hlt hs hact hszr hitl notG fn
      have hen2 : (Instr.entry (.pointer (some ⟨w.heap.size + 1 + 1, 0, none⟩))).run Tryz.prog wn = .ok (.tuple #[.int .i64 x, .int .i64 s]) wn := hen
      clear hen
      have NX := Lib.hid (show ∀ y : Int, y = min m x → ∃ (m' : Int) (left' : List (Int × Int)), (MinI { P with act := delA P.act tx } left' m' ∧ RangeM KI (wn.setCell ⟨w.heap.size + 1, 0, none⟩ (.int .i64 y)) ab (w.heap.size + 1 + 1) (actM (delA P.act tx)) (actM left') ∧ Cel (wn.setCell ⟨w.heap.size + 1, 0, none⟩ (.int .i64 y)) (w.heap.size + 1) (.int .i64 m') ∧ Out (fun k => k = w.heap.size + 1) X (wn.setCell ⟨w.heap.size + 1, 0, none⟩ (.int .i64 y))) ∧ (wn.setCell ⟨w.heap.size + 1, 0, none⟩ (.int .i64 y)).rangeLeft ab (w.heap.size + 1 + 1) < wr.rangeLeft ab (w.heap.size + 1 + 1) from by
        rintro y rfl
        have hab := HLT.out.2.1
        have h1 : ∀ k, k ≠ w.heap.size + 1 → (wn.setCell ⟨w.heap.size + 1, 0, none⟩ (.int .i64 (min m x))).heap[k]? = wn.heap[k]? := fun k hk => heap_setCells (w.heap.size + 1) [.int .i64 (min m x)] 0 wn k hk
        have hd : delM (actM left) x = actM (delA left x) := enc_del _ _ _
        have hr := HR2.out
        rw [hd] at hr
        refine ⟨min m x, delA left x, ⟨MI.out.step HAC.out HO.out, hr.kept (h1 _ (by omega)) (h1 _ (by omega)), FN.out.set_same _, ?_⟩, ?_⟩
        · refine Out.setCell (F := fun k => k = w.heap.size + 1) ?_ (.inl rfl) _
          exact OO.out.grown HG2.out fun k e => .inr (by have := Option.some.inj e; have := SX.out; omega)
        · rw [left_kept (h1 _ (by omega)) (h1 _ (by omega))]; exact HLTM.out)
      by_cases hxm : x < m
      · obtain ⟨m', left', h1, h2⟩ := NX.out x (by omega)
        have H1 := Lib.hid h1
        have H2 := Lib.hid h2
        clear h1 h2
        go_wp2
        go_roundw
        case rel => first | exact ⟨m', left', H1.out⟩ | (rw [show min m x = x by omega]; exact ⟨m', left', H1.out⟩)
        case measure => first | exact H2.out | (rw [show min m x = x by omega]; exact H2.out)
      · obtain ⟨m', left', h1, h2⟩ := NX.out m (by omega)
        have H1 := Lib.hid h1
        have H2 := Lib.hid h2
        clear h1 h2
        go_wp2
        go_roundw
        case rel => first | exact ⟨m', left', H1.out⟩ | (rw [show min m x = m by omega]; exact ⟨m', left', H1.out⟩)
        case measure => first | exact H2.out | (rw [show min m x = m by omega]; exact H2.out)
set_option maxHeartbeats 4000000 in
theorem wxAbort (I : Api9 M) (h : Mem10 M w b ab kb fb lm lr rr GR c P) (hc : PgOk c P) {tx : Int} (hx : (Lit.int .i64 tx).wf = true) :
    Calls Tryz.prog 52 #[.pointer (some ⟨b, 0, none⟩), .int .i64 tx] w fun e w' => e = .returned (.tuple #[]) ∧ ∃ GR', Mem10 M w' b ab kb fb lm lr rr GR' c (abortG P tx) ∧ (∀ k, GR' k → GR k ∨ w.heap.size ≤ k) ∧ Out (fun k => k = ab ∨ k = kb ∨ k = fb ∨ k = lr ∨ GR k) w w' := by
  obtain ⟨-, -, -, -, -, -, -, -, -, c9, -⟩ := h.cells
  have CR := Lib.hid (wkRelease h.lok tx)
  have CF := Lib.hid (fun (w1 : World) (m1 : Mem10 M w1 b ab kb fb lm lr rr GR c { P with H := releaseP P.H tx }) => wxForget I m1 hx)
  have CE := Lib.hid (fun (w1 : World) (GR1 : Nat → Prop) (m1 : Mem10 M w1 b ab kb fb lm lr rr GR1 c (forgetG { P with H := releaseP P.H tx } tx)) => wxEnd I m1 (c := c) ⟨hc.ca, hc.ck, hc.na, hc.nk, Nat.le_trans (del_lenA (l := P.flg) tx) hc.nf, hc.bg, hc.nw, hc.ax, hc.kx, fun p hp => hc.fx p (mem_delA.1 (show (p.1, p.2) ∈ _ from hp)).1⟩ hx)
  have HM := Lib.hid h
  obtain ⟨q, hq⟩ : ∃ q : Int, ((P.H.length : Int) - ((releaseP P.H tx).length : Int)) = q := ⟨_, rfl⟩
  rw [hq] at CR
  clear h hc hq
  go_enter Tryz.func52, Tryz.ntmps52
  go_wp2_with (first
    | (go_at_call 80; go_loud (refine CR.out.mono ?_; rintro e w1 ⟨rfl, l1, o1⟩; have O1 := Lib.hid o1; have M1 := Lib.hid (HM.out.setLok I o1 l1); clear l1 o1 c9))
    | (go_at_call 81; go_loud (refine (CF.out _ M1.out).mono ?_; rintro e w2 ⟨rfl, GR2, m2, g2, o2⟩; have M2 := Lib.hid m2; have G2 := Lib.hid g2; have O2 := Lib.hid o2; clear m2 g2 o2))
    | (go_at_call 82; go_loud (refine (CE.out _ _ M2.out).mono ?_; rintro e w3 ⟨rfl, GR3, m3, g3, o3⟩; have M3 := Lib.hid m3; have G3 := Lib.hid g3; have O3 := Lib.hid o3; clear m3 g3 o3)))
  go_end0
  have s1 := O1.out.size
  have s2 := O2.out.size
  refine ⟨rfl, GR3, M3.out, fun k hk => ?_, ?_⟩
  · rcases G3.out k hk with h | h
    · rcases G2.out k h with h | h
      · exact .inl h
      · exact .inr (by omega)
    · exact .inr (by omega)
  · refine ((O1.out.mono fun k _ e => .inr (.inr (.inr (.inl e)))).trans O2.out fun k _ e => ?_).trans O3.out fun k hk e => ?_
    · rcases e with e | e
      · exact .inr (.inr (.inl e))
      · exact .inr (.inr (.inr (.inr e)))
    · rcases e with e | e | e | e
      · exact .inl e
      · exact .inr (.inl e)
      · exact .inr (.inr (.inl e))
      · rcases G2.out k e with h | h
        · exact .inr (.inr (.inr (.inr h)))
        · omega
end
end Go.Proofs.YtknppiebncdjmaaGreat

namespace Go.Proofs.YtknppiebncdjmaaGreat
set_option maxRecDepth 100000
open Go.RowKit Go.Maps Go.ChangeMaps Go.MapKept

theorem MapM.upd {κ : Type} [DecidableEq κ] {k : TypeId} {T : KT κ k} {w : World} {r : Nat} {hs : List (κ × Value)} (hM : MapM T w r hs) {t e : TypeId} (ht : Tryz.prog.underlying t = some (.map k e)) {x : κ} (hx : T.ok x) (v : Value) (hlen : hs.length < 4000000) :
    ∃ w', (Instr.mapUpdate t (.map (some r)) (T.enc x) v).run Tryz.prog w = .ok () w' ∧ MapM T w' r (putM hs x v) ∧ Out (fun k => k = r) w w' := by
  obtain ⟨D, ho, hv⟩ := hM
  obtain ⟨w', hrun, h1, h2⟩ := ho.update T.law ht (by simp only [maxLen]; omega) (val := v) (d := .held v) (ps := []) (T.key hx) rfl
  have h3 := owns_tightM h1
  have h4 := hv.put hx v
  rw [h4.size] at h3
  refine ⟨w', hrun, ⟨_, h3, h4⟩, (Out.refl _ w).grown h2 fun k e => .inl (Option.some.inj e).symm⟩
theorem thens_len (P : Pg) (tx : Int) (own theirs : Bool × Bool) : ∀ (os : List Int) (T : List (Int × (Bool × Bool))), (os.foldl (thenG P tx own theirs) T).length ≤ T.length + 2 * os.length
  | [], T => by simp
  | o :: os, T => by
    rw [List.foldl_cons]
    have h := thens_len P tx own theirs os (thenG P tx own theirs T o)
    have h2 : (thenG P tx own theirs T o).length ≤ T.length + 2 := by
      unfold thenG
      split
      · have h3 := put_lenA (l := putA T tx (orF ((getA T tx).getD (false, false)) own)) o (orF (flgOf P o) theirs)
        have h4 := put_lenA (l := T) tx (orF ((getA T tx).getD (false, false)) own)
        omega
      · omega
    rw [List.length_cons]
    omega
def thenT (P : Pg) (tx : Int) (own theirs : Bool × Bool) (os : List Int) (j : Nat) : List (Int × (Bool × Bool)) := (os.take j).foldl (thenG P tx own theirs) [(tx, flgOf P tx)]
theorem thenT_next {P : Pg} {tx : Int} {own theirs : Bool × Bool} {os : List Int} {j : Nat} {o : Int} (h : os[j]? = some o) : thenT P tx own theirs os (j + 1) = thenG P tx own theirs (thenT P tx own theirs os j) o := by
  unfold thenT
  rw [List.take_add_one, h, List.foldl_append]
  rfl
theorem thenT_len (P : Pg) (tx : Int) (own theirs : Bool × Bool) (os : List Int) (j : Nat) : (thenT P tx own theirs os j).length ≤ 1 + 2 * os.length := by
  have := thens_len P tx own theirs (os.take j) [(tx, flgOf P tx)]
  have h2 := List.length_take_le j os
  have h3 : (os.take j).length ≤ os.length := by rw [List.length_take]; omega
  unfold thenT
  simp only [List.length_singleton] at this
  omega
structure BadI (P : Pg) (tx : Int) (T left : List (Int × (Bool × Bool))) : Prop where
  sub : ∀ x f, (x, f) ∈ left → (x, f) ∈ T
  no : ∀ x f, (x, f) ∈ T → (x, f) ∉ left → (bothF f && (decide (x = tx) || !isAct P x)) = false
theorem BadI.start (P : Pg) (tx : Int) (T : List (Int × (Bool × Bool))) : BadI P tx T T := ⟨fun _ _ h => h, fun x f h h2 => absurd h h2⟩
theorem BadI.step {P : Pg} {tx : Int} {T left : List (Int × (Bool × Bool))} (ho : OnceA T) (h : BadI P tx T left) {x : Int} {f : Bool × Bool} (hx : (x, f) ∈ left) (hb : (bothF f && (decide (x = tx) || !isAct P x)) = false) : BadI P tx T (delA left x) := by
  refine ⟨fun y g hy => h.sub y g (mem_delA.1 hy).1, fun y g hy hn => ?_⟩
  by_cases e : y = x
  · subst e
    have a1 := (getA_some ho).2 hy
    have a2 := (getA_some ho).2 (h.sub y f hx)
    rw [a1] at a2; cases a2
    exact hb
  · exact h.no y g hy fun h2 => hn (mem_delA.2 ⟨h2, e⟩)
theorem BadI.ends {P : Pg} {tx : Int} {T : List (Int × (Bool × Bool))} (h : BadI P tx T []) : badG P tx T = false := by
  unfold badG
  rw [List.any_eq_false]
  rintro ⟨x, f⟩ hm e
  rw [h.no x f hm (by simp)] at e; cases e
theorem BadI.found {P : Pg} {tx : Int} {T left : List (Int × (Bool × Bool))} (h : BadI P tx T left) {x : Int} {f : Bool × Bool} (hx : (x, f) ∈ left) (hb : (bothF f && (decide (x = tx) || !isAct P x)) = true) : badG P tx T = true := by
  unfold badG
  rw [List.any_eq_true]
  exact ⟨(x, f), h.sub x f hx, hb⟩
section
variable {M : MF} {w : World} {b ab kb fb lm lr rr : Nat} {GR : Nat → Prop} {c : Cp10} {P : Pg}
def TryIs (P : Pg) (b : Nat) (tx : Int) (T : List (Int × (Bool × Bool))) (base : Nat) (e : Ending) (w' : World) : Prop :=
  (badG P tx T = true ∧ e = .returned (.tuple #[.nilFunc, .bool false])) ∨ (badG P tx T = false ∧ ∃ bm bt tm, e = .returned (.tuple #[.func (.func 146) #[] #[.pointer (some ⟨bm, 0, none⟩), .pointer (some ⟨bt, 0, none⟩)], .bool true]) ∧ w'.cell? ⟨bm, 0, none⟩ = some (.pointer (some ⟨b, 0, none⟩)) ∧ w'.cell? ⟨bt, 0, none⟩ = some (.map (some tm)) ∧ MapM KI w' tm (flgM T) ∧ base ≤ tm ∧ base ≤ bm ∧ base ≤ bt)
set_option maxHeartbeats 16000000 in
theorem wxTry (I : Api9 M) (h : Mem10 M w b ab kb fb lm lr rr GR c P) (hc : PgOk c P) {tx : Int} (hx : (Lit.int .i64 tx).wf = true) {A : Option Addr} {n d : Nat} {os : List Int} (hA : SB w A n (numC os)) (hn : os.length = n) (hd : n ≤ d) (hm : d ≤ maxLen) (hle : n ≤ 1000000) (hwf : ∀ o ∈ os, (Lit.int .i64 o).wf = true) (own theirs : Bool × Bool) :
    Calls Tryz.prog 103 #[.pointer (some ⟨b, 0, none⟩), .int .i64 tx, .slice A n d, .agg #[.bool own.1, .bool own.2], .agg #[.bool theirs.1, .bool theirs.2]] w fun e w' => TryIs P b tx (thensG P tx own theirs os) w.heap.size e w' ∧ Below w.heap.size w w' := by
  obtain ⟨n0, hn0⟩ : ∃ n, w.heap.size = n := ⟨_, rfl⟩
  obtain ⟨n1, hn1⟩ : ∃ n, n0 + 1 = n := ⟨_, rfl⟩
  obtain ⟨n2, hn2⟩ : ∃ n, n1 + 1 = n := ⟨_, rfl⟩
  obtain ⟨n3, hn3⟩ : ∃ n, n2 + 1 = n := ⟨_, rfl⟩
  obtain ⟨n4, hn4⟩ : ∃ n, n3 + 1 = n := ⟨_, rfl⟩
  obtain ⟨W1, hW1⟩ : ∃ W, w.alloc (.cells #[.pointer (some ⟨b, 0, none⟩)] 25) = W := ⟨_, rfl⟩
  have s1 : W1.heap.size = n1 := by rw [← hW1]; simp [hn0, hn1]
  have b1 : Below n0 w W1 := by rw [← hW1, ← hn0]; exact (Below.refl _ _).alloc (Nat.le_refl _) _
  have q1 : W1.cell? ⟨n0, 0, none⟩ = some (.pointer (some ⟨b, 0, none⟩)) := by rw [← hW1, ← hn0]; exact cell_of_row _ _ 0 _ _ _ (heap_alloc_new _ _)
  obtain ⟨W2, hW2⟩ : ∃ W, W1.alloc (.cells #[.bool own.1, .bool own.2] 79) = W := ⟨_, rfl⟩
  have s2 : W2.heap.size = n2 := by rw [← hW2]; simp [s1, hn2]
  have b2 : Below n0 w W2 := by rw [← hW2]; exact b1.alloc (by omega) _
  have b12 : Below W1.heap.size W1 W2 := by rw [← hW2]; exact (Below.refl _ _).alloc (Nat.le_refl _) _
  have q2 : W2.heap[n1]? = some (.cells #[.bool own.1, .bool own.2] 79 (0, 0)) := by rw [← hW2, ← s1]; exact heap_alloc_new _ _
  obtain ⟨W3, hW3⟩ : ∃ W, W2.alloc (.cells #[.bool theirs.1, .bool theirs.2] 79) = W := ⟨_, rfl⟩
  have s3 : W3.heap.size = n3 := by rw [← hW3]; simp [s2, hn3]
  have b3 : Below n0 w W3 := by rw [← hW3]; exact b2.alloc (by omega) _
  have b23 : Below W2.heap.size W2 W3 := by rw [← hW3]; exact (Below.refl _ _).alloc (Nat.le_refl _) _
  have q3 : W3.heap[n2]? = some (.cells #[.bool theirs.1, .bool theirs.2] 79 (0, 0)) := by rw [← hW3, ← s2]; exact heap_alloc_new _ _
  obtain ⟨W4, hW4⟩ : ∃ W, W3.alloc (.map #[] 0) = W := ⟨_, rfl⟩
  have s4 : W4.heap.size = n4 := by rw [← hW4]; simp [s3, hn4]
  have b4 : Below n0 w W4 := by rw [← hW4]; exact b3.alloc (by omega) _
  have b34 : Below W3.heap.size W3 W4 := by rw [← hW4]; exact (Below.refl _ _).alloc (Nat.le_refl _) _
  have m4 : MapM KI W4 n3 [] := by rw [← hW4, ← s3]; exact MapM.new KI W3
  obtain ⟨W5, hr5, m5, o5⟩ := m4.upd (t := flgT) Tryz.underlying88 (x := tx) hx (flagV (flgOf P tx)) (by simp)
  replace m5 : MapM KI W5 n3 (flgM [(tx, flgOf P tx)]) := m5
  have b5 : Below n0 w W5 := b4.trans (o5.below (by omega) fun k hk e => by omega)
  have s5 : n4 ≤ W5.heap.size := by rw [← s4]; exact o5.size
  obtain ⟨n5, hn5⟩ : ∃ n, W5.heap.size = n := ⟨_, rfl⟩
  obtain ⟨W6, hW6⟩ : ∃ W, W5.alloc (.cells #[.map (some n3)] 88) = W := ⟨_, rfl⟩
  have b56 : Below W5.heap.size W5 W6 := by rw [← hW6]; exact (Below.refl _ _).alloc (Nat.le_refl _) _
  have b6 : Below n0 w W6 := by rw [← hW6]; exact b5.alloc (by omega) _
  have s6 : n5 < W6.heap.size := by rw [← hW6, ← hn5]; simp
  have t6 : W6.cell? ⟨n5, 0, none⟩ = some (.map (some n3)) := by rw [← hW6, ← hn5]; exact cell_of_row _ _ 0 _ _ _ (heap_alloc_new _ _)
  have m6 : MapM KI W6 n3 (flgM [(tx, flgOf P tx)]) := m5.block (b56.block _ (by omega))
  have k4 : W4.cell? ⟨n0, 0, none⟩ = some (.pointer (some ⟨b, 0, none⟩)) := keep_below (keep_below (keep_below q1 b12) b23) b34
  have k6 : W6.cell? ⟨n0, 0, none⟩ = some (.pointer (some ⟨b, 0, none⟩)) := keep_below (o5.cell k4 (by show n0 ≠ n3; omega)) b56
  have j6 : W6.heap[n1]? = some (.cells #[.bool own.1, .bool own.2] 79 (0, 0)) := (b56.block _ (by omega)).trans ((o5.block _ (by omega) (by omega)).trans ((b34.block _ (by omega)).trans ((b23.block _ (by omega)).trans q2)))
  have l6 : W6.heap[n2]? = some (.cells #[.bool theirs.1, .bool theirs.2] 79 (0, 0)) := (b56.block _ (by omega)).trans ((o5.block _ (by omega) (by omega)).trans ((b34.block _ (by omega)).trans q3))
  have hb4 : Below w.heap.size w W4 := by rw [hn0]; exact b4
  have M4 := h.below I hb4
  have c8 := M4.cells.2.2.2.2.2.2.2.2.1
  have qF : (Instr.lookup 88 (.map (some fb)) (.int .i64 tx) false).run Tryz.prog W4 = .ok (.agg #[.bool (flgOf P tx).1, .bool (flgOf P tx).2]) W4 := look_flg M4.flg hx
  have hr5 : (Instr.mapUpdate 88 (.map (some n3)) (.int .i64 tx) (.agg #[.bool (flgOf P tx).1, .bool (flgOf P tx).2])).run Tryz.prog W4 = .ok () W5 := hr5
  have hmm := @run_makeMap Tryz.prog
  have HM := Lib.hid h
  have HC := Lib.hid hc
  have HX := Lib.hid hx
  have HB6 := Lib.hid b6
  have HA := Lib.hid hA
  have HN := Lib.hid hn
  have HD := Lib.hid (And.intro hd (And.intro hm hle))
  have HWF := Lib.hid hwf
  have HK := Lib.hid (And.intro k6 (And.intro j6 (And.intro l6 t6)))
  have HM6 := Lib.hid m6
  have HS := Lib.hid (And.intro hn0 (And.intro hn1 (And.intro hn2 (And.intro hn3 (And.intro hn4 (And.intro s5 (And.intro hn5 s6)))))))
  clear m4 m5 o5 b1 b2 b12 b3 b23 b4 b34 b5 b56 b6 q1 q2 q3 t6 m6 k6 j6 l6 hb4 M4 h hc hx hA hn hd hm hle hwf s5 s6 hn1 hn2 hn3 hn4 s4
  go_enter Tryz.func103, Tryz.ntmps103
  go_upto_region 1 with fail
  try rw [hn0]
  try rw [hW1]
  try rw [s1]
  try rw [hW2]
  try rw [s2]
  try rw [hW3]
  go_upto_region 2 with fail
  try rw [hW6]
  clear hW1 hW2 hW3 hW4 hW6 hn0 s1 s2 s3 hn5 k4 c8 qF hr5 hmm
  have KP := Lib.hid (show ∀ wr : World, Out (fun k => k = n3) W6 wr → (Below w.heap.size w wr ∧ Mem10 M wr b ab kb fb lm lr rr GR c P) ∧ wr.cell? ⟨n0, 0, none⟩ = some (.pointer (some ⟨b, 0, none⟩)) ∧ (wr.cell? ⟨n1, 0, none⟩ = some (.bool own.1) ∧ wr.cell? ⟨n1, 1, none⟩ = some (.bool own.2)) ∧ (wr.cell? ⟨n2, 0, none⟩ = some (.bool theirs.1) ∧ wr.cell? ⟨n2, 1, none⟩ = some (.bool theirs.2)) ∧ wr.cell? ⟨n5, 0, none⟩ = some (.map (some n3)) ∧ wr.cell? ⟨b, 8, none⟩ = some (.map (some fb)) from by
    intro wr o
    obtain ⟨k1, k2, k3, k4⟩ := HK.out
    obtain ⟨e0, e1, e2, e3, e4, e5, e6, e7⟩ := HS.out
    have hb : Below w.heap.size w wr := by
      rw [e0]
      exact HB6.out.trans (o.below (by omega) fun k hk e => by omega)
    have mr := HM.out.below I hb
    have r1 := (o.block n1 (by omega) (by omega)).trans k2
    have r2 := (o.block n2 (by omega) (by omega)).trans k3
    exact ⟨⟨hb, mr⟩, o.cell k1 (by show n0 ≠ n3; omega), ⟨cell_of_row _ _ 0 _ _ _ r1, cell_of_row _ _ 1 _ _ _ r1⟩, ⟨cell_of_row _ _ 0 _ _ _ r2, cell_of_row _ _ 1 _ _ _ r2⟩, o.cell k4 (by show n5 ≠ n3; omega), mr.cells.2.2.2.2.2.2.2.2.1⟩)
  have HO6 := Lib.hid (thens_get P tx own theirs os)
  go_wp2
  go_loopw [28] (fun v wr => ∃ j : Nat, v = .int .i64 (j : Nat) ∧ j ≤ n ∧ MapM KI wr n3 (flgM (thenT P tx own theirs os j)) ∧ Out (fun k => k = n3) W6 wr) (fun v _ => n - (intOf v).toNat)
  case atStart => exact ⟨0, rfl, Nat.zero_le _, HM6.out, Out.refl _ _⟩
  case round =>
    rename World => wr
    obtain ⟨j, rfl, hj, hT, hO⟩ := hrel
    have TM := Lib.hid hT
    have OO := Lib.hid hO
    obtain ⟨kb1, k0, k1, k2, k5, k8⟩ := KP.out wr hO
    have KB := Lib.hid kb1
    clear hT hO kb1
    by_cases hlt : j < n
    · obtain ⟨o, ho⟩ : ∃ o, os[j]? = some o := ⟨_, List.getElem?_eq_getElem (by have := HN.out; omega)⟩
      have ho2 : (numC os)[j]? = some (.int .i64 o) := by unfold numC; rw [List.getElem?_map, ho]; rfl
      obtain ⟨g, q, rfl, x0⟩ := HA.out.at_ ho2
      have x1 := keep_below x0 KB.out.1
      have i1 : (j : Int) < (n : Int) := by omega
      have l1 : (j : Int) ≤ 1000000 := by have := HD.out.2.2; omega
      have hwo := HWF.out o (List.mem_of_getElem? ho)
      have CC := Lib.hid (wxConc KB.out.2 tx (o := o) hwo)
      have HNX := Lib.hid (thenT_next (P := P) (tx := tx) (own := own) (theirs := theirs) ho)
      have HLT := Lib.hid hlt
      have HWO := Lib.hid hwo
      obtain ⟨q1, hq1⟩ : ∃ q, concG P tx o = q := ⟨_, rfl⟩
      rw [hq1] at CC
      have HQ := Lib.hid hq1
      clear hj hlt ho ho2 x0 hwo hq1
      by_cases hot : o = tx
      · have HOT := Lib.hid hot
        have i2 : ¬ (o != tx) = true := by simp [hot]
        go_wp2
        go_roundw
        case rel => exact ⟨j + 1, by go_num, HLT.out, by rw [HNX.out]; unfold thenG; rw [if_neg (by have := HOT.out; simp [this])]; exact TM.out, OO.out⟩
        case measure => have := HLT.out; simp [intOf]; omega
      · have i2 : (o != tx) = true := by simp [hot]
        cases q1
        · go_wp2_with (go_at_call 132; go_loud (refine CC.out.mono ?_; rintro e w7 ⟨rfl, hw⟩; replace hw := hw.symm; subst hw))
          go_roundw
          case rel => exact ⟨j + 1, by go_num, HLT.out, by rw [HNX.out]; unfold thenG; rw [if_neg (by have := HQ.out; simp [this])]; exact TM.out, OO.out⟩
          case measure => have := HLT.out; simp [intOf]; omega
        · have HOT := Lib.hid hot
          obtain ⟨T, hTT⟩ : ∃ T, thenT P tx own theirs os j = T := ⟨_, rfl⟩
          have TL := Lib.hid (show T.length ≤ 2000001 by rw [← hTT]; have := thenT_len P tx own theirs os j; have := HN.out; have := HD.out.2.2; omega)
          rw [hTT] at TM HNX
          obtain ⟨f, hf⟩ : ∃ f, (getA T tx).getD (false, false) = f := ⟨_, rfl⟩
          have qT : (Instr.lookup 88 (.map (some n3)) (.int .i64 tx) false).run Tryz.prog wr.drew = .ok (.agg #[.bool f.1, .bool f.2]) wr.drew := by rw [← hf]; exact look_flg (show MapM KI wr.drew n3 (flgM T) from TM.out) HX.out
          have HF := Lib.hid hf
          clear hTT hf
          go_upto_region 6 with (go_at_call 132; go_loud (refine CC.out.mono ?_; rintro e w7 ⟨rfl, hw⟩; replace hw := hw.symm; subst hw))
          go_region_held3 (fun w' => w'.cell? ⟨n5, 0, none⟩ = some (.map (some n3)) ∧ w'.cell? ⟨n1, 0, none⟩ = some (.bool own.1) ∧ w'.cell? ⟨n1, 1, none⟩ = some (.bool own.2)) (first | exact ⟨k5, k1.1, k1.2⟩ | exact S2 | exact S3)
            (first | (go_at_call 145; go_loud (refine (wxWith _ _ _ _ _).mono ?_; rintro e w2 ⟨rfl, b2⟩; obtain ⟨W7, hr7, m7, o7⟩ := (show MapM KI w2 n3 (flgM T) from TM.out.block (b2.block n3 TM.out.lt)).upd (t := flgT) Tryz.underlying88 (x := tx) HX.out (flagV (orF f own)) (by rw [show (flgM T).length = T.length from enc_len _ _]; have := TL.out; omega); have S2 : w2.cell? ⟨n5, 0, none⟩ = some (.map (some n3)) ∧ w2.cell? ⟨n1, 0, none⟩ = some (.bool own.1) ∧ w2.cell? ⟨n1, 1, none⟩ = some (.bool own.2) := ⟨keep_below (w := wr.drew) k5 b2, keep_below (w := wr.drew) k1.1 b2, keep_below (w := wr.drew) k1.2 b2⟩; have hr7 : (Instr.mapUpdate 88 (.map (some n3)) (.int .i64 tx) (.agg #[.bool (f.1 || own.1), .bool (f.2 || own.2)])).run Tryz.prog w2 = .ok () W7 := hr7; have B2 := Lib.hid b2; have M7 := Lib.hid m7; have O7 := Lib.hid o7; have S3 : W7.cell? ⟨n5, 0, none⟩ = some (.map (some n3)) ∧ W7.cell? ⟨n1, 0, none⟩ = some (.bool own.1) ∧ W7.cell? ⟨n1, 1, none⟩ = some (.bool own.2) := ⟨o7.cell S2.1 (by have := HS.out; show n5 ≠ n3; omega), o7.cell S2.2.1 (by have := HS.out; show n1 ≠ n3; omega), o7.cell S2.2.2 (by have := HS.out; show n1 ≠ n3; omega)⟩; clear b2 m7 o7)))
          have o7b : Out (fun k => k = n3) W6 W7 := OO.out.drew.then ((Out.of_below B2.out _).then O7.out)
          have m7b : MapM KI W7 n3 (flgM (putA T tx (orF f own))) := by have := M7.out; unfold flgM at this ⊢; rw [enc_put] at this; exact this
          obtain ⟨kb7, e0, e1, e2, e5, e8⟩ := KP.out W7 o7b
          obtain ⟨gf, hgf⟩ : ∃ g, flgOf P o = g := ⟨_, rfl⟩
          have qG : (Instr.lookup 88 (.map (some fb)) (.int .i64 o) false).run Tryz.prog W7.drew = .ok (.agg #[.bool gf.1, .bool gf.2]) W7.drew := by rw [← hgf]; exact look_flg (show MapM KI W7.drew fb (flgM P.flg) from kb7.2.flg) HWO.out
          have KB7 := Lib.hid kb7
          have OW7 := Lib.hid o7b
          have MW7 := Lib.hid m7b
          have HGF := Lib.hid hgf
          clear o7b m7b kb7 hgf S2 S3 hr7
          go_upto_region 7 with fail
          go_region_held3 (fun w' => w'.cell? ⟨n5, 0, none⟩ = some (.map (some n3)) ∧ w'.cell? ⟨n0, 0, none⟩ = some (.pointer (some ⟨b, 0, none⟩)) ∧ w'.cell? ⟨b, 8, none⟩ = some (.map (some fb)) ∧ w'.cell? ⟨n2, 0, none⟩ = some (.bool theirs.1) ∧ w'.cell? ⟨n2, 1, none⟩ = some (.bool theirs.2)) (first | exact ⟨e5, e0, e8, e2.1, e2.2⟩ | exact S2 | exact S3)
            (first | (go_at_call 145; go_loud (refine (wxWith _ _ _ _ _).mono ?_; rintro e w2 ⟨rfl, b2⟩; obtain ⟨W9, hr9, m9, o9⟩ := (show MapM KI w2 n3 (flgM (putA T tx (orF f own))) from MW7.out.block (b2.block n3 MW7.out.lt)).upd (t := flgT) Tryz.underlying88 (x := o) HWO.out (flagV (orF gf theirs)) (by rw [show (flgM (putA T tx (orF f own))).length = (putA T tx (orF f own)).length from enc_len _ _]; have := put_lenA (l := T) tx (orF f own); have := TL.out; omega); have S2 : w2.cell? ⟨n5, 0, none⟩ = some (.map (some n3)) ∧ w2.cell? ⟨n0, 0, none⟩ = some (.pointer (some ⟨b, 0, none⟩)) ∧ w2.cell? ⟨b, 8, none⟩ = some (.map (some fb)) ∧ w2.cell? ⟨n2, 0, none⟩ = some (.bool theirs.1) ∧ w2.cell? ⟨n2, 1, none⟩ = some (.bool theirs.2) := ⟨keep_below (w := W7.drew) e5 b2, keep_below (w := W7.drew) e0 b2, keep_below (w := W7.drew) e8 b2, keep_below (w := W7.drew) e2.1 b2, keep_below (w := W7.drew) e2.2 b2⟩; have hr9 : (Instr.mapUpdate 88 (.map (some n3)) (.int .i64 o) (.agg #[.bool (gf.1 || theirs.1), .bool (gf.2 || theirs.2)])).run Tryz.prog w2 = .ok () W9 := hr9; have B9 := Lib.hid b2; have M9 := Lib.hid m9; have O9 := Lib.hid o9; have K9 := Lib.hid (KP.out W9 (OW7.out.drew.then ((Out.of_below b2 _).then o9))); have S3 : W9.cell? ⟨n5, 0, none⟩ = some (.map (some n3)) ∧ W9.cell? ⟨n0, 0, none⟩ = some (.pointer (some ⟨b, 0, none⟩)) ∧ W9.cell? ⟨b, 8, none⟩ = some (.map (some fb)) ∧ W9.cell? ⟨n2, 0, none⟩ = some (.bool theirs.1) ∧ W9.cell? ⟨n2, 1, none⟩ = some (.bool theirs.2) := ⟨K9.out.2.2.2.2.1, K9.out.2.1, K9.out.2.2.2.2.2, K9.out.2.2.2.1.1, K9.out.2.2.2.1.2⟩; clear b2 m9 o9)))
          go_wp2
          go_roundw
          case rel =>
            refine ⟨j + 1, by go_num, HLT.out, ?_, OW7.out.drew.then ((Out.of_below B9.out _).then O9.out)⟩
            rw [HNX.out]
            unfold thenG
            rw [if_pos ⟨HOT.out, HQ.out⟩, HF.out, HGF.out]
            have := M9.out
            unfold flgM at this ⊢
            rw [enc_put] at this
            exact this
          case measure => have := HLT.out; simp [intOf]; omega
    · have i1 : ¬ (j : Int) < (n : Int) := by omega
      have hjn : j = n := by omega
      have hTe : thenT P tx own theirs os j = thensG P tx own theirs os := by unfold thenT thensG; rw [List.take_of_length_le (by have := HN.out; omega)]
      rw [hTe] at TM
      obtain ⟨T, hTT⟩ : ∃ T, thensG P tx own theirs os = T := ⟨_, rfl⟩
      rw [hTT] at TM HO6
      have HTT := Lib.hid hTT
      clear hTe hj hlt hjn hTT
      go_wp2_with (at_range; go_loud (refine wp_rangeM KI (by rfl) (.tmp 59) (by rfl) (by rfl) TM.out Tryz.underlying88 ?_; intro w2 r2 g2 s2; have R2 := Lib.hid r2; have G2 := Lib.hid g2; have S2 := Lib.hid s2; clear r2 g2 s2))
      try go_frame
      have ob : Out (fun k => k = n3) W6 w2 := OO.out.then ((Out.refl _ wr).grown G2.out fun k e => by cases e)
      have OB := Lib.hid ob
      obtain ⟨it, hit⟩ : ∃ it, wr.heap.size = it := ⟨_, rfl⟩
      rw [hit] at R2
      rw [hit]
      have HIT := Lib.hid (show n5 < it by have := HS.out; have := OO.out.size; omega)
      have HWi := Lib.hid (show W6.heap.size ≤ it by rw [← hit]; exact OO.out.size)
      have HSW := Lib.hid (show w.heap.size ≤ n3 ∧ w.heap.size ≤ n0 ∧ w.heap.size ≤ n5 by have := HS.out; omega)
      clear hit ob
      go_loopw [61] (fun _ wz => ∃ left : List (Int × (Bool × Bool)), OnceA left ∧ BadI P tx T left ∧ RangeM KI wz n3 it (flgM T) (flgM left) ∧ Out (fun k => k = n3) W6 wz) (fun _ wz => wz.rangeLeft n3 it)
      case atStart => exact ⟨T, HO6.out.1, BadI.start P tx T, R2.out, OB.out⟩
      case round =>
        rename World => wz
        obtain ⟨left, hol, hI, hR, hO⟩ := hrel
        have HI := Lib.hid hI
        have HR := Lib.hid hR
        have HO2 := Lib.hid hO
        have HOL := Lib.hid hol
        clear hI hR hO hol
        go_wp2_with (at_next; go_loud (refine wp_nextM KI (by rfl) (.tmp 60) (by rfl) it (flgM left) (by rfl) HR.out ?_ ?_))
        · intro hnil
          have hl : left = [] := by
            unfold flgM encA at hnil
            exact List.map_eq_nil_iff.1 hnil
          subst hl
          go_wp2
          obtain ⟨kb, k0, -, -, k5, -⟩ := KP.out wz HO2.out
          refine bodyPost_ret (v := .tuple #[.func (.func 146) #[] #[.pointer (some ⟨n0, 0, none⟩), .pointer (some ⟨n5, 0, none⟩)], .bool true]) (by simp [results, Tryz.results103, go_sem]) rfl ⟨.inr ⟨by rw [HTT.out]; exact HI.out.ends, n0, n5, n3, rfl, k0, k5, by rw [HTT.out]; exact HR.out.map, HSW.out⟩, kb.1⟩
        · intro x v wn hin hok hr2 hg2 hsz hlt hen
          obtain ⟨f, hf, rfl⟩ := (enc_mem flagV).1 hin
          have hitl := RangeM.it_lt HR.out
          obtain ⟨X, hX⟩ : ∃ X, wn.alloc (.cells #[.bool f.1, .bool f.2] 79) = X := ⟨_, rfl⟩
          have bX : Below wn.heap.size wn X := by rw [← hX]; exact (Below.refl _ _).alloc (Nat.le_refl _) _
          have nX : X.heap[wn.heap.size]? = some (.cells #[.bool f.1, .bool f.2] 79 (0, 0)) := by rw [← hX]; exact heap_alloc_new _ _
          have x1 : X.cell? ⟨wn.heap.size, 0, none⟩ = some (.bool f.1) := cell_of_row _ _ 0 _ _ _ nX
          have x2 : X.cell? ⟨wn.heap.size, 1, none⟩ = some (.bool f.2) := cell_of_row _ _ 1 _ _ _ nX
          have oX : Out (fun k => k = n3) W6 X := (HO2.out.grown hg2 fun k e => .inr (by rw [← Option.some.inj e]; exact HWi.out)).then (Out.of_below bX _)
          have rX : RangeM KI X n3 it (flgM T) (flgM (delA left x)) := by
            have hd : delM (flgM left) x = flgM (delA left x) := enc_del _ _ _
            rw [← hd]
            exact hr2.kept (bX.block n3 hr2.map.lt) (bX.block it hr2.it_lt)
          have lX : X.rangeLeft n3 it < wz.rangeLeft n3 it := by
            rw [left_kept (bX.block n3 hr2.map.lt) (bX.block it hr2.it_lt)]; exact hlt
          have hen2 : (Instr.entry (.pointer (some ⟨it, 0, none⟩))).run Tryz.prog wn = .ok (.tuple #[.int .i64 x, .agg #[.bool f.1, .bool f.2]]) wn := hen
          have OX := Lib.hid oX
          have RX := Lib.hid rX
          have LX := Lib.hid lX
          have HX2 := Lib.hid hX
          have HF := Lib.hid hf
          have CB := Lib.hid (wxBoth X f.1 f.2)
          have CI := Lib.hid (fun (w3 : World) (b3 : Below X.heap.size X w3) => wxIs (KP.out w3 (oX.then (Out.of_below b3 _))).1.2 (x := x) hok)
          have KX := Lib.hid (fun (w3 : World) (b3 : Below X.heap.size X w3) => show Out (fun k => k = n3) W6 w3 ∧ RangeM KI w3 n3 it (flgM T) (flgM (delA left x)) ∧ w3.rangeLeft n3 it < wz.rangeLeft n3 it from ⟨oX.then (Out.of_below b3 _), rX.kept (b3.block n3 rX.map.lt) (b3.block it rX.it_lt), by rw [left_kept (b3.block n3 rX.map.lt) (b3.block it rX.it_lt)]; exact lX⟩)
          have SK := Lib.hid (fun hb => HI.out.step HO6.out.1 hf hb)
          have FD := Lib.hid (fun hb => HI.out.found hf hb)
          have KB0 := Lib.hid (fun (w3 : World) (b3 : Below X.heap.size X w3) => (KP.out w3 (oX.then (Out.of_below b3 _))).1.1)
          have kk := (KP.out X oX).2.1
          clear hin hok hr2 hg2 hsz hlt hen hitl bX nX oX rX lX hf
          obtain ⟨q1, hq1⟩ : ∃ q, (f.1 && f.2) = q := ⟨_, rfl⟩
          rw [hq1] at CB
          obtain ⟨q2, hq2⟩ : ∃ q, isAct P x = q := ⟨_, rfl⟩
          rw [hq2] at CI
          have HQ := Lib.hid (show ∀ r, decide (x = tx) = r → (bothF f && (decide (x = tx) || !isAct P x)) = (q1 && (r || !q2)) from fun r hr => by unfold bothF; rw [hq1, hq2, hr])
          clear hq1 hq2
          go_upto_region 12 with fail
          clear hen2 hX
          cases q1
          · go_wp2_with (go_at_call 79; go_loud (refine CB.out.mono ?_; rintro e w3 ⟨rfl, b3⟩; have B3 := Lib.hid b3; clear b3))
            go_roundw
            case rel => exact ⟨delA left x, HOL.out.del x, SK.out (by rw [HQ.out _ rfl]; rfl), (KX.out _ B3.out).2.1, (KX.out _ B3.out).1⟩
            case measure => exact (KX.out _ B3.out).2.2
          · by_cases hxt : x = tx
            · have i9 : (x == tx) = true := by simpa using hxt
              have HXT := Lib.hid (show decide (x = tx) = true by simpa using hxt)
              clear hxt
              go_wp2_with (go_at_call 79; go_loud (refine CB.out.mono ?_; rintro e w3 ⟨rfl, b3⟩; have B3 := Lib.hid b3; clear b3))
              refine bodyPost_ret (v := .tuple #[.nilFunc, .bool false]) (by simp [results, Tryz.results103, go_sem]) rfl ⟨.inl ⟨by rw [HTT.out]; exact FD.out (by rw [HQ.out _ HXT.out]; rfl), rfl⟩, KB0.out _ B3.out⟩
            · have i9 : (x == tx) = false := by simpa using hxt
              have HXT := Lib.hid (show decide (x = tx) = false by simpa using hxt)
              clear hxt
              cases q2
              · go_wp2_with (first
                  | (go_at_call 79; go_loud (refine CB.out.mono ?_; rintro e w3 ⟨rfl, b3⟩; have B3 := Lib.hid b3; have k3 := keep_below kk b3; clear b3))
                  | (go_at_call 102; go_loud (refine (CI.out _ B3.out).mono ?_; rintro e w7 ⟨rfl, hw⟩; replace hw := hw.symm; subst hw)))
                refine bodyPost_ret (v := .tuple #[.nilFunc, .bool false]) (by simp [results, Tryz.results103, go_sem]) rfl ⟨.inl ⟨by rw [HTT.out]; exact FD.out (by rw [HQ.out _ HXT.out]; rfl), rfl⟩, KB0.out _ B3.out⟩
              · go_wp2_with (first
                  | (go_at_call 79; go_loud (refine CB.out.mono ?_; rintro e w3 ⟨rfl, b3⟩; have B3 := Lib.hid b3; have k3 := keep_below kk b3; clear b3))
                  | (go_at_call 102; go_loud (refine (CI.out _ B3.out).mono ?_; rintro e w7 ⟨rfl, hw⟩; replace hw := hw.symm; subst hw)))
                go_roundw
                case rel => exact ⟨delA left x, HOL.out.del x, SK.out (by rw [HQ.out _ HXT.out]; rfl), (KX.out _ B3.out).2.1, (KX.out _ B3.out).1⟩
                case measure => exact (KX.out _ B3.out).2.2
end
end Go.Proofs.YtknppiebncdjmaaGreat
