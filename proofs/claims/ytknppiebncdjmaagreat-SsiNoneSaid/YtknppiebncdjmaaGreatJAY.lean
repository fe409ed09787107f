import Derived.Test.YtknppiebncdjmaaGreatJAX
import Derived.Test.YtknppiebncdjmaaGreatJAW
/- Layer 8: a manager's Holders. -/
namespace Go.Proofs.YtknppiebncdjmaaGreat
set_option maxRecDepth 100000
set_option maxRecDepth 100000
open Go.RowKit Go.Maps Go.ChangeMaps Go.MapKept

/-- Numbers gathered over a map: left is still to come. -/
structure ColI (hs : List Hd) (f : Hd → Bool) (zs : List Int) (left : List Hd) : Prop where
  mem : ∀ x, x ∈ zs ↔ ∃ h, h ∈ hs ∧ h ∉ left ∧ f h = true ∧ h.2 = x
  len : zs.length + left.length ≤ hs.length
  sub : ∀ h ∈ left, h ∈ hs
  ol : Once left
theorem ColI.start {hs : List Hd} (h : Once hs) (f : Hd → Bool) : ColI hs f [] hs := ⟨fun x => Iff.intro (fun h => absurd h (by simp)) (fun h => by obtain ⟨y, h1, h2, -⟩ := h; exact absurd h1 h2), by simp, fun _ h => h, h⟩
theorem not_left {left : List Hd} {l : Lk} (h : Hd) : h ∉ (left.filter fun h => !decide (h.1 = l)) ↔ h ∉ left ∨ h.1 = l := by
  rw [List.mem_filter]
  by_cases e : h.1 = l <;> simp [e]
theorem ColI.skip {hs left : List Hd} {f : Hd → Bool} {zs : List Int} {l : Lk} {t : Int} (ho : Once hs) (h : ColI hs f zs left) (hl : (l, t) ∈ left) (hf : f (l, t) = false) : ColI hs f zs (left.filter fun h => !decide (h.1 = l)) := by
  refine ⟨fun x => ?_, ?_, fun y hy => h.sub y (List.mem_filter.1 hy).1, List.Nodup.sublist (List.Sublist.map _ List.filter_sublist) h.ol⟩
  · rw [h.mem]
    constructor
    · rintro ⟨y, h1, h2, h3⟩; exact ⟨y, h1, (not_left y).2 (.inl h2), h3⟩
    · rintro ⟨y, h1, h2, h3, h4⟩
      rcases (not_left y).1 h2 with h5 | h5
      · exact ⟨y, h1, h5, h3, h4⟩
      · have := ho.eq h1 (h.sub _ hl) h5
        rw [this, hf] at h3; cases h3
  · have h1 := but_len h.ol hl
    have h2 := h.len
    omega
theorem ColI.take {hs left : List Hd} {f : Hd → Bool} {zs : List Int} {l : Lk} {t : Int} (ho : Once hs) (h : ColI hs f zs left) (hl : (l, t) ∈ left) (hf : f (l, t) = true) : ColI hs f (zs ++ [t]) (left.filter fun h => !decide (h.1 = l)) := by
  refine ⟨fun x => ?_, ?_, fun y hy => h.sub y (List.mem_filter.1 hy).1, List.Nodup.sublist (List.Sublist.map _ List.filter_sublist) h.ol⟩
  · rw [List.mem_append, h.mem, List.mem_singleton]
    constructor
    · rintro (⟨y, h1, h2, h3⟩ | rfl)
      · exact ⟨y, h1, (not_left y).2 (.inl h2), h3⟩
      · exact ⟨(l, x), h.sub _ hl, (not_left _).2 (.inr rfl), hf, rfl⟩
    · rintro ⟨y, h1, h2, h3, h4⟩
      rcases (not_left y).1 h2 with h5 | h5
      · exact .inl ⟨y, h1, h5, h3, h4⟩
      · have := ho.eq h1 (h.sub _ hl) h5
        rw [this] at h4
        exact .inr h4.symm
  · have h1 := but_len h.ol hl
    have h2 := h.len
    simp only [List.length_append, List.length_singleton]
    omega
theorem ColI.ends {hs : List Hd} {table lo hi : ByteArray} {zs : List Int} (h : ColI hs (inH table lo hi) zs []) : ∀ x, x ∈ zs ↔ x ∈ whoP hs table lo hi := fun x => by
  rw [h.mem]
  unfold whoP
  rw [List.mem_map]
  constructor
  · rintro ⟨y, h1, -, h3, h4⟩; exact ⟨y, List.mem_filter.2 ⟨h1, h3⟩, h4⟩
  · rintro ⟨y, h1, h4⟩; obtain ⟨h2, h3⟩ := List.mem_filter.1 h1; exact ⟨y, h2, by simp, h3, h4⟩

theorem SO.cells {E : SEl} {base n : Nat} {w : World} {v : Value} {vs : List Value} (h : SO E base w v n vs) {k : Nat} (e : v.ownBlock = some k) : ∃ cs t fr, w.heap[k]? = some (.cells cs t fr) := by
  rcases h.own.2 with ⟨rfl, -⟩ | ⟨g, cap, cur, rfl, -, hh, -⟩
  · simp [Value.ownBlock] at e
  · have e : g = k := by simpa [Value.ownBlock] using e
    subst e
    exact ⟨_, _, _, hh⟩
set_option maxHeartbeats 2000000 in
theorem wkIsIn (w : World) (key lo hi : ByteArray) :
    Calls Tryz.prog 134 #[.string key, .string lo, .string hi] w fun e w' => e = .returned (.bool (withinB key lo hi)) ∧ w' = w := by
  cases h1 : Op.bytesLess lo.toList key.toList <;> cases h4 : (lo.toList == key.toList) <;> cases h2 : (hi.toList == []) <;> cases h3 : klB key hi
  all_goals
    have HE := Lib.hid (show withinB key lo hi = _ by unfold withinB; rw [bl_le8 lo key, h1, h4, h2, h3])
    unfold klB at h3
    go_enter Tryz.func134, Tryz.ntmps134
    go_wp2
    go_ret
    exact ⟨by rw [HE.out] <;> rfl, rfl⟩
set_option maxHeartbeats 16000000 in
theorem wkHolders {w : World} {b r : Nat} {most : Int} {hs : List Hd} (h : MG w b r most hs) (table lo hi : ByteArray) :
    Calls Tryz.prog 84 #[.pointer (some ⟨b, 0, none⟩), .string table, .string lo, .string hi] w fun e w' => ∃ v, e = .returned v ∧ SO seN w.heap.size w' v (riseP (whoP hs table lo hi)).length (numC (riseP (whoP hs table lo hi))) ∧ Below w.heap.size w w' := by
  have CM := Lib.hid (wkAll h)
  have HM := Lib.hid h
  have HLT := Lib.hid (show b < w.heap.size ∧ r < w.heap.size from ⟨(Array.getElem?_eq_some_iff.1 h.blk).1, h.map.lt⟩)
  clear h
  go_enter Tryz.func84, Tryz.ntmps84
  go_upto_region 3 with (first
    | (go_at_call 121; go_loud (refine CM.out.mono ?_; rintro e w1 ⟨rfl, hw⟩; replace hw := hw.symm; subst hw))
    | (at_range; go_loud (refine map_range (by rfl) (.tmp 13) (by rfl) (by rfl) HM.out.map ?_; intro w2 r2 g2; have R2 := Lib.hid r2; have B2 := Lib.hid (show Below w.heap.size w w2 from (Below.refl _ _).grown g2 (Nat.le_refl _) (fun k e => by cases e)); clear r2 g2)))
  try go_frame
  go_loopw [9] (fun lv wr => ∃ (zs : List Int) (left : List Hd), SO seN (w.heap.size + 1) wr lv zs.length (numC zs) ∧ ColI hs (inH table lo hi) zs left ∧ RangeAt wr r w.heap.size hs left ∧ Below w.heap.size w wr) (fun _ wr => wr.rangeLeft r w.heap.size)
  case atStart => exact ⟨[], hs, SO.nil _ _ _, ColI.start HM.out.map.once _, R2.out, B2.out⟩
  case round =>
    rename World => wr
    obtain ⟨zs, left, ho, hI, hR, hB⟩ := hrel
    have HO := Lib.hid ho
    have HI := Lib.hid hI
    have HR := Lib.hid hR
    have HB := Lib.hid hB
    have HH4 := Lib.hid (show (hs.length : Int) ≤ 4096 by have := HM.out.len; have := HM.out.m2; omega)
    clear ho hI hR hB
    go_wp2_with (at_next; go_loud (refine map_next (by rfl) (.tmp 14) (by rfl) w.heap.size left (by rfl) HR.out ?_ ?_))
    · intro hnil
      subst hnil
      have ZL := Lib.hid (show zs.length ≤ 4000000 by have := HI.out.len; have := HH4.out; omega)
      have CS := Lib.hid (wsortN HO.out ZL.out)
      have SR := Lib.hid (sort_rise HI.out.ends)
      have CC := Lib.hid (fun (v2 : Value) (w2 : World) (O2 : SO seN (w.heap.size + 1) w2 v2 zs.length (numC (zs.mergeSort fun x y => decide (x ≤ y)))) => wcompactN (zs := zs.mergeSort fun x y => decide (x ≤ y)) (by rw [List.length_mergeSort]; exact O2) (by rw [List.length_mergeSort]; exact ZL.out))
      go_wp2_with (first
        | (go_at_call 89; go_loud (refine CS.out.mono ?_; rintro e w5 ⟨rfl, o5, g5⟩; have O5 := Lib.hid o5; have B5 := Lib.hid (HB.out.trans (g5.mono (Nat.le_succ _))); clear o5 g5))
        | (go_at_call 135; go_loud (refine (CC.out _ _ O5.out).mono ?_; rintro e w6 ⟨v6, rfl, o6, g6⟩; have O6 := Lib.hid o6; have B6 := Lib.hid (B5.out.trans (g6.mono (Nat.le_succ _))); clear o6 g6)))
      go_ret
      exact ⟨_, rfl, by rw [← SR.out]; exact O6.out.base (Nat.le_succ _) rfl rfl, B6.out⟩
    · intro k1 k2 t wn hin hsz hwf hr2 hg2 hlt hen
      obtain ⟨X, hX⟩ : ∃ X, wn.alloc (.cells #[.string k1, .string k2] 42) = X := ⟨_, rfl⟩
      have HXX := Lib.hid hX
      have BX : Below wn.heap.size wn X := by rw [← hX]; exact (Below.refl _ _).alloc (Nat.le_refl _) _
      have n0 : X.heap[wn.heap.size]? = some (.cells #[.string k1, .string k2] 42 (0, 0)) := by rw [← hX]; exact heap_alloc_new _ _
      have x1 : X.cell? ⟨wn.heap.size, 0, none⟩ = some (.string k1) := cell_of_row _ _ 0 _ _ _ n0
      have x2 : X.cell? ⟨wn.heap.size, 1, none⟩ = some (.string k2) := cell_of_row _ _ 1 _ _ _ n0
      have RX := Lib.hid (show RangeAt X r w.heap.size hs (left.filter fun h => !decide (h.1 = (k1, k2))) by rw [← hX]; exact hr2.kept (World.grownBy_alloc _ _ none) (by simp) (by simp))
      have LX := Lib.hid (show X.rangeLeft r w.heap.size < wr.rangeLeft r w.heap.size by
        have e : X.rangeLeft r w.heap.size = wn.rangeLeft r w.heap.size := by
          obtain ⟨D, f, cnt, h1, -⟩ := hr2
          have h2 : X.ranges Tryz.prog 42 (plainElem Tryz.prog 2) r w.heap.size hs.length D f cnt := by rw [← hX]; exact h1.alloc _
          rw [h1.left_eq, h2.left_eq]
        rw [e]; exact hlt)
      have hbn : Below w.heap.size w wn := HB.out.grown hg2 HB.out.size (fun k e => by rw [← Option.some.inj e]; exact Nat.le_refl _)
      have BXw := Lib.hid (below_next hbn BX)
      have OX := Lib.hid (show SO seN (w.heap.size + 1) X _ zs.length (numC zs) from (show SO seN (w.heap.size + 1) wn _ zs.length (numC zs) from ⟨own_stays HO.out.own fun k e => hg2.block k (HO.out.own.lt k e).2 (fun e2 => by obtain ⟨cs, t, fr, hk⟩ := HO.out.cells e; exact HR.out.no hk (Option.some.inj e2).symm), HO.out.len, HO.out.one⟩).below BX)
      have HIN := Lib.hid hin
      have ZL := Lib.hid (show zs.length ≤ 4000000 by have := HI.out.len; have := HH4.out; omega)
      clear hin hsz hwf hr2 hg2 hlt BX n0 hbn
      have CI := Lib.hid (wkIsIn X k2 lo hi)
      obtain ⟨q, hq⟩ : ∃ q, withinB k2 lo hi = q := ⟨_, rfl⟩
      rw [hq] at CI
      go_upto_region 5 with fail
      clear hen hX
      cases ht : (k1.toList == table.toList) <;> cases q
      all_goals
        have HE := Lib.hid (show inH table lo hi ((k1, k2), t) = _ by unfold inH; rw [ht, hq])
        clear hq
        go_wp2_with (first
          | (go_at_call 134; go_loud (refine CI.out.mono ?_; rintro e w7 ⟨rfl, hw⟩; replace hw := hw.symm; subst hw))
          | (at_builtin; go_loud (refine so_append seN_ok (by rfl) (.tmp 31) (.tmp 33) (by rfl) _ (by rfl) (OX.out.alloc _) (some ⟨X.heap.size, 0, none⟩) 1 1 (numC [t]) (by rfl) (sb_num X t) (by have := ZL.out; omega) (by have := RX.out.itlt; simp; omega) ?_; intro v3 w3 o3 b3; have O3 := Lib.hid o3; have B3 := Lib.hid ((BXw.out.alloc BXw.out.size _).trans (b3.mono (Nat.le_succ _))); have R3 := Lib.hid (RX.out.over ((Below.refl _ _).alloc (by have := RX.out.itlt; omega) _ |>.trans b3) (by have := HLT.out.2; omega) (Nat.lt_succ_self _)); clear o3 b3)))
        go_roundw
        case rel => first
          | exact ⟨_, _, OX.out, HI.out.skip HM.out.map.once HIN.out HE.out, RX.out, BXw.out⟩
          | exact ⟨_, _, O3.out.base (Nat.le_refl _) (by simp [numC]) (by simp), HI.out.take HM.out.map.once HIN.out HE.out, R3.out.1, B3.out⟩
        case measure => first | exact LX.out | (rw [R3.out.2]; exact LX.out)
end Go.Proofs.YtknppiebncdjmaaGreat

/- Layer 10: the kept ones that are concurrent and have written. -/
namespace Go.Proofs.YtknppiebncdjmaaGreat
set_option maxRecDepth 100000
set_option maxRecDepth 100000
open Go.RowKit Go.Maps Go.ChangeMaps Go.MapKept

/-- A lock as it comes in. -/
def Sz2 (l : Lk) : Prop := l.1.size ≤ 140737488351232 ∧ l.2.size ≤ 140737488351232
theorem Sz2.sz {l : Lk} (h : Sz2 l) : Sz l := ⟨Nat.le_trans h.1 (by decide), Nat.le_trans h.2 (by decide)⟩
/-- Is it kept, concurrent, and has it written a row of the range? -/
def kwB (P : Pg) (tx : Int) (tb lo hi : ByteArray) (x : Int) (k : KpR) : Bool := concG P tx x && wroteB k.wrote tb lo hi
/-- Under way: these were found, these are still to come. -/
structure KwI (P : Pg) (tx : Int) (tb lo hi : ByteArray) (left : List (Int × KpR)) (zs : List Int) : Prop where
  ol : OnceA left
  sub : ∀ x k, (x, k) ∈ left → (x, k) ∈ P.kep
  mem : ∀ x, x ∈ zs ↔ ∃ k, (x, k) ∈ P.kep ∧ (x, k) ∉ left ∧ kwB P tx tb lo hi x k = true
  len : zs.length + left.length ≤ P.kep.length
/-- What is found. -/
def KwIs (P : Pg) (tx : Int) (tb lo hi : ByteArray) (zs : List Int) : Prop := (∀ x, x ∈ zs ↔ ∃ k, (x, k) ∈ P.kep ∧ kwB P tx tb lo hi x k = true) ∧ zs.length ≤ P.kep.length
section
variable {P : Pg} {tx : Int} {tb lo hi : ByteArray} {left : List (Int × KpR)} {zs : List Int}
theorem KwI.start (h : OnceA P.kep) : KwI P tx tb lo hi P.kep [] := ⟨h, fun _ _ h => h, fun x => ⟨(by intro h; cases h), fun h => by obtain ⟨k, h1, h2, -⟩ := h; exact absurd h1 h2⟩, by simp⟩
theorem del_lt {left : List (Int × KpR)} {x : Int} {k : KpR} (h : (x, k) ∈ left) : (delA left x).length < left.length := by
  unfold delA
  exact List.length_filter_lt_length_iff_exists.2 ⟨(x, k), h, by simp⟩
theorem KwI.step (h : OnceA P.kep) (I : KwI P tx tb lo hi left zs) {x : Int} {k : KpR} (hx : (x, k) ∈ left) : KwI P tx tb lo hi (delA left x) (zs ++ (if kwB P tx tb lo hi x k = true then [x] else [])) := by
  have hl := del_lt hx
  refine ⟨I.ol.del x, fun y u hy => I.sub y u (mem_delA.1 hy).1, fun y => ?_, ?_⟩
  · rw [List.mem_append, I.mem]
    constructor
    · rintro (⟨u, h1, h2, h3⟩ | h1)
      · exact ⟨u, h1, fun h4 => h2 (mem_delA.1 h4).1, h3⟩
      · by_cases e : kwB P tx tb lo hi x k = true
        · rw [if_pos e] at h1
          rw [List.mem_singleton.1 h1]
          exact ⟨k, I.sub x k hx, fun h4 => (mem_delA.1 h4).2 rfl, e⟩
        · rw [if_neg e] at h1; cases h1
    · rintro ⟨u, h1, h2, h3⟩
      by_cases e : y = x
      · subst e
        have e2 : u = k := by
          have a1 := (getA_some h).2 h1
          have a2 := (getA_some h).2 (I.sub y k hx)
          rw [a1] at a2; cases a2; rfl
        subst e2
        rw [if_pos h3]
        exact .inr (List.mem_singleton.2 rfl)
      · exact .inl ⟨u, h1, fun h4 => h2 (mem_delA.2 ⟨h4, e⟩), h3⟩
  · have := I.len
    rw [List.length_append]
    split <;> simp <;> omega
theorem KwI.ends (I : KwI P tx tb lo hi [] zs) : KwIs P tx tb lo hi zs := ⟨fun x => by rw [I.mem]; simp, by have := I.len; simpa using this⟩
end
section
variable {M : MF} {w : World} {b ab kb fb lm lr rr : Nat} {GR : Nat → Prop} {c : Cp10} {P : Pg}
set_option maxHeartbeats 8000000 in
theorem wxKw (I : Api9 M) (h : Mem10 M w b ab kb fb lm lr rr GR c P) (hc : PgOk c P) (tx : Int) (tb lo hi : ByteArray) :
    Calls Tryz.prog 83 #[.pointer (some ⟨b, 0, none⟩), .int .i64 tx, .string tb, .string lo, .string hi] w fun e w' => ∃ v zs, e = .returned v ∧ SO seN w.heap.size w' v zs.length (numC zs) ∧ KwIs P tx tb lo hi zs ∧ Below w.heap.size w w' := by
  have c7 := h.cells.2.2.2.2.2.2.2.1
  have HM := Lib.hid h
  have HO := Lib.hid h.onceA.2.1
  have HK := Lib.hid hc.kx
  have HNK := Lib.hid (show P.kep.length ≤ 1024 by have := hc.nk; have := hc.ck; omega)
  have HBG := Lib.hid hc.bg
  clear h hc
  go_enter Tryz.func83, Tryz.ntmps83
  go_wp2_with (at_range; go_loud (refine wp_rangeM KI (by rfl) (.tmp 17) (by rfl) (by rfl) HM.out.kep Tryz.underlying87 ?_; intro w2 r2 g2 s2; have R2 := Lib.hid r2; have G2 := Lib.hid g2; clear r2 g2 s2))
  try go_frame
  go_loopw [11] (fun v wr => ∃ (left : List (Int × KpR)) (zs : List Int), KwI P tx tb lo hi left zs ∧ RangeM KI wr kb w.heap.size (kepM P.kep) (kepM left) ∧ SO seN (w.heap.size + 1) wr v zs.length (numC zs) ∧ Below w.heap.size w wr) (fun _ wr => wr.rangeLeft kb w.heap.size)
  case atStart =>
    have b2 : Below w.heap.size w w2 := (Below.refl _ _).grown G2.out (Nat.le_refl _) (fun k e => by cases e)
    exact ⟨P.kep, [], KwI.start HO.out, R2.out, SO.nil _ _ _, b2⟩
  case round =>
    rename World => wr
    obtain ⟨left, zs, hI, hR, ho, hB⟩ := hrel
    have HI := Lib.hid hI
    have HR := Lib.hid hR
    have HV := Lib.hid ho
    have HB := Lib.hid hB
    have ZL := Lib.hid (show zs.length ≤ 4000000 by have := hI.len; have := HNK.out; omega)
    clear hI hR ho hB
    go_wp2_with (at_next; go_loud (refine wp_nextM KI (by rfl) (.tmp 18) (by rfl) w.heap.size (kepM left) (by rfl) HR.out ?_ ?_))
    · intro hnil
      have hl : left = [] := by
        unfold kepM encA at hnil
        exact List.map_eq_nil_iff.1 hnil
      subst hl
      go_wp2
      go_ret
      exact ⟨_, zs, rfl, HV.out.base (Nat.le_succ _) rfl rfl, HI.out.ends, HB.out⟩
    · intro x v wn hin hok hr2 hg2 hsz hlt hen
      obtain ⟨k, hkin, rfl⟩ := (enc_mem pastV).1 hin
      have hkP := HI.out.sub x k hkin
      obtain ⟨A, d, hval, hsb, hcl, hcm⟩ := (HM.out.row (x, k) hkP).lv.ex
      have hko := HM.out.row (x, k) hkP
      obtain ⟨n, hn⟩ : ∃ n, k.wrote.length = n := ⟨_, rfl⟩
      simp only [hn] at hval hsb hcl
      have hit : w.heap.size < wr.heap.size := RangeM.it_lt HR.out
      have hkb : kb < w.heap.size := HM.out.blt.2.2.1
      obtain ⟨X, hX⟩ : ∃ X, wn.alloc (.cells #[.slice A n d, .int .i64 k.upto] 108) = X := ⟨_, rfl⟩
      have bX : Below wn.heap.size wn X := by rw [← hX]; exact (Below.refl _ _).alloc (Nat.le_refl _) _
      have n0 : X.heap[wn.heap.size]? = some (.cells #[.slice A n d, .int .i64 k.upto] 108 (0, 0)) := by rw [← hX]; exact heap_alloc_new _ _
      have x1 : X.cell? ⟨wn.heap.size, 0, none⟩ = some (.slice A n d) := cell_of_row _ _ 0 _ _ _ n0
      have x2 : X.cell? ⟨wn.heap.size, 1, none⟩ = some (.int .i64 k.upto) := cell_of_row _ _ 1 _ _ _ n0
      have xlt : wn.heap.size < X.heap.size := (Array.getElem?_eq_some_iff.1 n0).1
      have hbn : Below w.heap.size w wn := HB.out.grown hg2 HB.out.size (fun j e => by rw [← Option.some.inj e]; exact Nat.le_refl _)
      have hbX : Below w.heap.size w X := below_next hbn bX
      have mX := HM.out.below I hbX
      have rX : RangeM KI X kb w.heap.size (kepM P.kep) (kepM (delA left x)) := by
        have hd : delM (kepM left) x = kepM (delA left x) := enc_del _ _ _
        rw [← hd]
        exact hr2.kept (bX.block kb (by omega)) (bX.block w.heap.size (by omega))
      have lX : X.rangeLeft kb w.heap.size < wr.rangeLeft kb w.heap.size := by
        rw [left_kept (bX.block kb (by omega)) (bX.block w.heap.size (by omega))]; exact hlt
      have OX := Lib.hid (show SO seN (w.heap.size + 1) X _ zs.length (numC zs) from (show SO seN (w.heap.size + 1) wn _ zs.length (numC zs) from ⟨own_stays HV.out.own fun j e => hg2.block j (HV.out.own.lt j e).2 (fun e2 => by have := (HV.out.own.lt j e).1; have := Option.some.inj e2; omega), HV.out.len, HV.out.one⟩).below bX)
      have hen2 : (Instr.entry (.pointer (some ⟨w.heap.size, 0, none⟩))).run Tryz.prog wn = .ok (.tuple #[.int .i64 x, .agg #[.slice A n d, .int .i64 k.upto]]) wn := by
        have := hen
        unfold pastV at this
        rw [hval] at this
        exact this
      have CC := Lib.hid (wxConc mX tx (o := x) hok)
      have CW := Lib.hid (wxWrote (w := X) (hsb.gw hbX) hn hcl hcm (by have : k.wrote.length ≤ 4096 := hko.len; omega) hko.ord k.upto tb lo hi)
      have RX := Lib.hid rX
      have LX := Lib.hid lX
      have BX := Lib.hid hbX
      have HX := Lib.hid hX
      have HST := Lib.hid (HI.out.step HO.out hkin)
      have HLT := Lib.hid (show kb < w.heap.size ∧ w.heap.size < wr.heap.size ∧ wr.heap.size ≤ wn.heap.size ∧ wn.heap.size < X.heap.size from ⟨hkb, hit, by omega, xlt⟩)
      have hq : kwB P tx tb lo hi x k = (concG P tx x && wroteB k.wrote tb lo hi) := rfl
      obtain ⟨q1, hq1⟩ : ∃ q, concG P tx x = q := ⟨_, rfl⟩
      obtain ⟨q2, hq2⟩ : ∃ q, wroteB k.wrote tb lo hi = q := ⟨_, rfl⟩
      rw [hq1, hq2] at hq
      rw [hq1] at CC
      rw [hq2] at CW
      have HE := Lib.hid hq
      clear hin hok hr2 hg2 hsz hlt hen hkP hval hsb hcl hcm hko hn hit hkb bX n0 xlt hbn hbX mX rX lX hkin hq hq1 hq2
      go_upto_region 5 with fail
      clear hen2 hX
      cases q1 <;> cases q2
      all_goals
        go_wp2_with (first
          | (go_at_call 132; go_loud (refine CC.out.mono ?_; rintro e w7 ⟨rfl, hw⟩; replace hw := hw.symm; subst hw))
          | (go_at_call 133; go_loud (refine CW.out.mono ?_; rintro e w8 ⟨rfl, b8⟩; have B8 := Lib.hid b8; have O8 := Lib.hid (OX.out.below b8); have R8 := Lib.hid (show RangeM KI w8 kb w.heap.size (kepM P.kep) (kepM (delA left x)) ∧ w8.rangeLeft kb w.heap.size < wr.rangeLeft kb w.heap.size from ⟨RX.out.kept (b8.block _ (by have := HLT.out; omega)) (b8.block _ (by have := HLT.out; omega)), by rw [left_kept (b8.block _ (by have := HLT.out; omega)) (b8.block _ (by have := HLT.out; omega))]; exact LX.out⟩); clear b8))
          | (at_builtin; go_loud (refine so_append seN_ok (by rfl) (.tmp 35) (.tmp 37) (by rfl) _ (by rfl) (O8.out.alloc _) (some ⟨w8.heap.size, 0, none⟩) 1 1 (numC [x]) (by rfl) (sb_num w8 x) (by have := ZL.out; omega) (by have := R8.out.1.it_lt; simp; omega) ?_; intro v3 w3 o3 b3; have O3 := Lib.hid o3; have B3 := Lib.hid ((below_next BX.out B8.out |>.alloc (Nat.le_trans BX.out.size B8.out.size) _).trans (b3.mono (Nat.le_succ _))); have hb3 : Below (w.heap.size + 1) w8 w3 := ((Below.refl _ _).alloc (by have := R8.out.1.it_lt; omega) _).trans b3; have R3 := Lib.hid (show RangeM KI w3 kb w.heap.size (kepM P.kep) (kepM (delA left x)) ∧ w3.rangeLeft kb w.heap.size < wr.rangeLeft kb w.heap.size from ⟨R8.out.1.kept (hb3.block _ (by have := HLT.out; omega)) (hb3.block _ (by omega)), by rw [left_kept (hb3.block _ (by have := HLT.out; omega)) (hb3.block _ (by omega))]; exact R8.out.2⟩); clear o3 b3 hb3)))
        go_roundw
        case rel => first
          | exact ⟨delA left x, zs, by have := HST.out; rw [HE.out] at this; simpa using this, RX.out, OX.out, BX.out⟩
          | exact ⟨delA left x, zs, by have := HST.out; rw [HE.out] at this; simpa using this, R8.out.1, O8.out, below_next BX.out B8.out⟩
          | exact ⟨delA left x, zs ++ [x], by have := HST.out; rw [HE.out] at this; simpa using this, R3.out.1, O3.out.base (Nat.le_refl _) (by simp [numC]) (by simp), B3.out⟩
        case measure => first | exact LX.out | exact R8.out.2 | exact R3.out.2
/-- Those that have written one row. -/
def kwK (P : Pg) (tx : Int) (l : Lk) : ByteArray × ByteArray := (l.2, l.2 ++ ⟨#[0]⟩)
set_option maxHeartbeats 4000000 in
theorem wxKwOf (I : Api9 M) (h : Mem10 M w b ab kb fb lm lr rr GR c P) (hc : PgOk c P) (tx : Int) {l : Lk} (hl : Sz2 l) :
    Calls Tryz.prog 51 #[.pointer (some ⟨b, 0, none⟩), .int .i64 tx, lkV l] w fun e w' => ∃ v zs, e = .returned v ∧ SO seN w.heap.size w' v zs.length (numC zs) ∧ KwIs P tx l.1 l.2 (l.2 ++ ⟨#[0]⟩) zs ∧ Below w.heap.size w w' := by
  obtain ⟨W, hW⟩ : ∃ W, w.alloc (.cells #[.string l.1, .string l.2] 42) = W := ⟨_, rfl⟩
  have hB : Below w.heap.size w W := by rw [← hW]; exact (Below.refl _ _).alloc (Nat.le_refl _) _
  have q0 : W.heap[w.heap.size]? = some (.cells #[.string l.1, .string l.2] 42 (0, 0)) := by rw [← hW]; exact heap_alloc_new _ _
  have q1 : W.cell? ⟨w.heap.size, 0, none⟩ = some (.string l.1) := cell_of_row _ _ 0 _ _ _ q0
  have q2 : W.cell? ⟨w.heap.size, 1, none⟩ = some (.string l.2) := cell_of_row _ _ 1 _ _ _ q0
  have CK := Lib.hid (wxKw I (h.below I hB) hc tx l.1 l.2 (l.2 ++ ⟨#[0]⟩))
  have HB := Lib.hid hB
  have HW := Lib.hid hW
  have z1 : ¬ 9223372036854775807 < l.2.size + 1 := by have := hl.2; omega
  clear h hc hB hW q0 hl
  unfold lkV
  go_enter Tryz.func51, Tryz.ntmps51
  go_upto_region 1 with fail
  rw [HW.out]
  go_wp2_with (go_at_call 83; go_loud (refine CK.out.mono ?_; rintro e w2 ⟨v, zs, rfl, o2, k2, b2⟩; have O2 := Lib.hid o2; have K2 := Lib.hid k2; have B2 := Lib.hid b2; clear o2 k2 b2))
  go_ret
  exact ⟨v, zs, rfl, O2.out.base HB.out.size rfl rfl, K2.out, below_next HB.out B2.out⟩
end
end Go.Proofs.YtknppiebncdjmaaGreat
