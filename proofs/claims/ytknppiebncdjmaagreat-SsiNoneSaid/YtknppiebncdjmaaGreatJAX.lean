import Derived.Test.YtknppiebncdjmaaGreatJAS
import Derived.Test.YtknppiebncdjmaaGreatJAE
import Derived.Deep.Slices
import Derived.Test.YtknppiebncdjmaaGreatJAW
import Derived.Deep.RegionHeld3
import Derived.Deep.RegionWith
import Derived.Test.YtknppiebncdjmaaGreatProg
import Derived.Shelf.SlGeneric
import Derived.Shelf.SortM.Plain
import Derived.Shelf.SortM.SortNone
import Derived.Ground.SlgmProg
import Derived.Test.YtknppiebncdjmaaGreatSRow
/- Layer 8: arguments of laws: locks, scripts of operations on managers. -/
namespace Go.Proofs.YtknppiebncdjmaaGreat
set_option maxRecDepth 100000
set_option maxRecDepth 100000
open Go.Joins Go.Deep Go.ChangeShapes Go.WideShapes Go.ChangeAt Go.RowKit

/-- An operation of a script. -/
structure OpK where
  kind : Int
  tx : Int
  snap : Int
  last : Int
  at_ : Lk
  hi : ByteArray
def OpK.cells (o : OpK) : List Value := [.int .i64 o.kind, .int .i64 o.tx, .int .i64 o.snap, .int .i64 o.last, .string o.at_.1, .string o.at_.2, .string o.hi]
structure OpKIs (o : OpK) : Prop where
  rk : -9223372036854775808 ≤ o.kind ∧ o.kind ≤ 9223372036854775807
  rt : -9223372036854775808 ≤ o.tx ∧ o.tx ≤ 9223372036854775807
  rs : -9223372036854775808 ≤ o.snap ∧ o.snap ≤ 9223372036854775807
  rl : -9223372036854775808 ≤ o.last ∧ o.last ≤ 9223372036854775807
  sz : o.at_.1.size ≤ maxLen ∧ o.at_.2.size ≤ maxLen
/-- The slice of address A and length n is the script os. -/
structure RK (w : World) (A : Option Addr) (n : Nat) (os : List OpK) : Prop where
  len : os.length = n
  is : ∀ o ∈ os, OpKIs o
  row : 0 < n → ∃ b o, A = some ⟨b, o, none⟩ ∧ ∀ (j : Nat) (x : OpK), os[j]? = some x → w.rangeAt b (o + j * 7) x.cells
theorem rangeAt_belowK {w w' : World} {b o : Nat} {cs : List Value} (h : w.rangeAt b o cs) (hb : Below w.heap.size w w') : w'.rangeAt b o cs := fun j v hv => keep_below (h j v hv) hb
theorem RK.below {w w' : World} {A : Option Addr} {n : Nat} {os : List OpK} (h : RK w A n os) (hb : Below w.heap.size w w') : RK w' A n os :=
  ⟨h.len, h.is, fun hn => by
    obtain ⟨b, o, e, hr⟩ := h.row hn
    exact ⟨b, o, e, fun j x hx => rangeAt_belowK (hr j x hx) hb⟩⟩
theorem RK.at_ {w : World} {A : Option Addr} {n : Nat} {os : List OpK} (h : RK w A n os) {j : Nat} {x : OpK} (hx : os[j]? = some x) : ∃ b o, A = some ⟨b, o, none⟩ ∧ w.cell? ⟨b, o + j * 7, none⟩ = some (.int .i64 x.kind) ∧ w.cell? ⟨b, o + j * 7 + 1, none⟩ = some (.int .i64 x.tx) ∧ w.cell? ⟨b, o + j * 7 + 2, none⟩ = some (.int .i64 x.snap) ∧ w.cell? ⟨b, o + j * 7 + 3, none⟩ = some (.int .i64 x.last) ∧ w.cell? ⟨b, o + j * 7 + 4, none⟩ = some (.string x.at_.1) ∧ w.cell? ⟨b, o + j * 7 + 5, none⟩ = some (.string x.at_.2) ∧ w.cell? ⟨b, o + j * 7 + 6, none⟩ = some (.string x.hi) := by
  obtain ⟨b, o, e, hr⟩ := h.row (by have := (List.getElem?_eq_some_iff.1 hx).1; have := h.len; omega)
  have q := hr j x hx
  exact ⟨b, o, e, q 0 _ rfl, q 1 _ rfl, q 2 _ rfl, q 3 _ rfl, q 4 _ rfl, q 5 _ rfl, q 6 _ rfl⟩
section
variable {H : Type} {enc : TypeId × Value → H} {P : Program} {w : World} {held : Bool}
theorem open_strK {t : TypeId} {fuel : Nat} {v : Value} {y : DataW H × List MemPlace} (ht : P.underlying t = some .string)
    (h : DataW.trod enc P w 0 (fun _ => true) held fuel t [v] = some y) : ∃ s : ByteArray, v = .string s ∧ s.size ≤ maxLen := by
  obtain ⟨s, h1, h2, h3⟩ := DataW.trod_string ht h
  exact ⟨s, by simpa using h1, h3⟩
theorem spot_noneK {w : World} {ad : Addr} {v : Value} (hc : w.cell? ad = some v) : ad.spot = none := by
  unfold World.cell? at hc
  split at hc
  · split at hc
    · cases hc
    · rename_i hh; simpa using hh
  · cases hc
theorem spot_addK {ad : Addr} (h : ad.spot = none) : ∃ b o, ad = ⟨b, o, none⟩ := by
  obtain ⟨b, o, s⟩ := ad
  simp only at h
  subst h
  exact ⟨b, o, rfl⟩
theorem open_laidK {t : TypeId} {fs : Array Field} {m : Nat} {cs : List Value} {y : DataW H × List MemPlace} (hs : P.underlying t = some (.struct fs)) (hone : oneCellFields P fs = true) (hC : P.cellsOf t = fs.size)
    (h : DataW.trod enc P w 0 (fun _ => true) held m t cs = some y) :
    ∃ (ys : List (DataW H × List MemPlace)) (n : Nat), cs.length = fs.size ∧ ys.length = fs.size ∧ y.1 = .agg (ys.map (·.1)) ∧
      ∀ (j : Nat) (f : Field), fs[j]? = some f → DataW.trod enc P w 0 (fun _ => true) held n f.type [cs.getD j undef] = some (ys.getD j (.nil, [])) := by
  obtain ⟨xs, n, _, hx, hcl, hlen, hg⟩ := DataW.trod_struct hs h
  have hcl' : cs.length = fs.size := hcl.trans hC
  refine ⟨xs, n, hcl', hlen, by rw [hx], fun j f hj => ?_⟩
  obtain ⟨ho, hk⟩ := hone_of hone j f hj
  have hjl : j < fs.size := (Array.getElem?_eq_some_iff.1 hj).1
  have h1 := hg j f hj
  rw [ho, hk] at h1
  have e1 : (cs.drop j).take 1 = [cs.getD j undef] := by
    rw [List.drop_eq_getElem_cons (by omega), List.take_succ_cons, List.take_zero]
    simp [List.getD_eq_getElem?_getD, List.getElem?_eq_getElem (show j < cs.length by omega)]
  rw [e1] at h1
  rw [h1, List.getD_eq_getElem?_getD, List.getElem?_eq_getElem (show j < xs.length by omega)]
  rfl
theorem open_wideK {t : TypeId} {fs : Array Field} {m : Nat} {cs : List Value} {y : DataW H × List MemPlace} (hs : P.underlying t = some (.struct fs))
    (h : DataW.trod enc P w 0 (fun _ => true) held m t cs = some y) :
    ∃ (ys : List (DataW H × List MemPlace)) (n : Nat), cs.length = P.cellsOf t ∧ ys.length = fs.size ∧ y.1 = .agg (ys.map (·.1)) ∧
      ∀ (j : Nat) (f : Field), fs[j]? = some f → DataW.trod enc P w 0 (fun _ => true) held n f.type ((cs.drop f.offset).take (P.cellsOf f.type)) = some (ys.getD j (.nil, [])) := by
  obtain ⟨xs, n, _, hx, hcl, hlen, hg⟩ := DataW.trod_struct hs h
  refine ⟨xs, n, hcl, hlen, by rw [hx], fun j f hj => ?_⟩
  have hjl : j < fs.size := (Array.getElem?_eq_some_iff.1 hj).1
  have h1 := hg j f hj
  rw [h1, List.getD_eq_getElem?_getD, List.getElem?_eq_getElem (show j < xs.length by omega)]
  rfl
end
theorem cells_mapMK {w : World} {a : Addr} {n : Nat} {cs : List Value} (h : w.cells? 0 a n = some cs) : cs.length = n ∧ ∀ j, j < n → w.cell? (a.add j) = some (cs.getD j undef) := by
  unfold World.cells? at h
  rw [if_pos (Nat.zero_le _)] at h
  have hlen : cs.length = n := by simpa using Go.mapM_some_length h
  refine ⟨hlen, fun j hj => ?_⟩
  have := Go.mapM_some_get h j j (by simp [hj])
  rw [this, List.getD_eq_getElem?_getD, List.getElem?_eq_getElem (by omega)]
  rfl
instance : Inhabited OpK := ⟨⟨0, 0, 0, 0, (⟨#[]⟩, ⟨#[]⟩), ⟨#[]⟩⟩⟩
/-- A lock as it came in. -/
theorem open_lkK {H : Type} {enc : TypeId × Value → H} {w : World} {held : Bool} {fuel : Nat} {cs : List Value} {y : DataW H × List MemPlace} (h : DataW.trod enc Tryz.prog w 0 (fun _ => true) held fuel 42 cs = some y) :
    ∃ l : Lk, (l.1.size ≤ maxLen ∧ l.2.size ≤ maxLen) ∧ cs = [.string l.1, .string l.2] := by
  obtain ⟨zs, k2, hcl, hzl, hD2, hf2⟩ := open_laidK Tryz.underlying42 (by kernel_rfl) (by kernel_rfl) h
  match cs, hcl, zs, hzl with
  | [g4, g5], _, [z0, z1], _ =>
    have s0 : DataW.trod enc Tryz.prog w 0 (fun _ => true) held k2 9 [g4] = some z0 := hf2 0 _ rfl
    have s1 : DataW.trod enc Tryz.prog w 0 (fun _ => true) held k2 9 [g5] = some z1 := hf2 1 _ rfl
    obtain ⟨a4, rfl, z4⟩ := open_strK Tryz.underlying9 s0
    obtain ⟨a5, rfl, z5⟩ := open_strK Tryz.underlying9 s1
    exact ⟨(a4, a5), ⟨z4, z5⟩, rfl⟩
/-- A struct's cells. -/
theorem open_aggK {H : Type} {enc : TypeId × Value → H} {P : Program} {w : World} {held : Bool} {r : Reach} {b0 : Nat} {t : TypeId} {fs : Array Field} {v : Value} {d : DataW H} {p : List MemPlace} (hs : P.underlying t = some (.struct fs))
    (hv : Value.okWide P w r b0 t v) (h : DataW.Trod enc P w 0 (fun _ => true) held t v d p) : ∃ (cs : List Value) (n : Nat), v = .agg cs.toArray ∧ DataW.trod enc P w 0 (fun _ => true) held n t cs = some (d, p) := by
  obtain ⟨cs, rfl, -⟩ := okWide_struct hs hv
  obtain ⟨n, hn⟩ := h
  exact ⟨cs.toList, n, rfl, hn⟩
end Go.Proofs.YtknppiebncdjmaaGreat

/- Layer 8: the law's step: Take (with a trial manager's contract). -/
namespace Go.Proofs.YtknppiebncdjmaaGreat
set_option maxRecDepth 100000
set_option maxRecDepth 100000
open Go.RowKit Go.Maps Go.ChangeMaps Go.MapKept

theorem no_map {w : World} {p : Addr} {v : Value} (h : w.cell? p = some v) {es : Array MapEntry} {c : Nat} : w.heap[p.block]? ≠ some (.map es c) := by
  intro e
  unfold World.cell? at h
  rw [e] at h
  simp at h
theorem RM.out_map {w w' : World} {b r : Nat} {most : Int} {hs hs0 : List Hd} (h : RM w b most hs) (hm : MapAt w r hs0) (ho : Out (fun k => k = r) w w') : RM w' b most hs := by
  obtain ⟨A, c, h1, h2, h3⟩ := h.ex
  obtain ⟨D, ⟨es, cl, hr, -⟩, -⟩ := hm
  have hb : b ≠ r := by rintro rfl; rw [h1] at hr; cases hr
  refine ⟨A, c, (ho.block b (Array.getElem?_eq_some_iff.1 h1).1 hb).trans h1, ⟨h2.len, h2.one, fun h0 => ?_⟩, h3⟩
  obtain ⟨g, o, e, hc⟩ := h2.cell h0
  refine ⟨g, o, e, fun j u hj => ?_⟩
  have hcj := hc j u hj
  refine ho.cell hcj ?_
  show ¬ (g = r)
  rintro rfl
  exact no_map hcj hr
theorem MG.out_ref {w w' : World} {m r b : Nat} {most most0 : Int} {hs hs0 : List Hd} (h : MG w m r most hs) (hm : RM w b most0 hs0) (ho : Out (fun k => k = b) w w') : MG w' m r most hs := by
  obtain ⟨A, c, h1, -⟩ := hm.ex
  have hmb : m ≠ b := by
    rintro rfl
    have := h.blk
    rw [h1] at this
    simp at this
  have hrb : r ≠ b := fun e => h.map.no h1 e.symm
  exact ⟨(ho.block m (Array.getElem?_eq_some_iff.1 h.blk).1 hmb).trans h.blk, h.map.block (ho.block r h.map.lt hrb), h.m1, h.m2, h.len⟩
/-- What the script's manager and the reference's one hold alike. -/
structure Two8 (w : World) (m r b : Nat) (most : Int) (hs : List Hd) : Prop where
  mg : MG w m r most hs
  rm : RM w b most hs

end Go.Proofs.YtknppiebncdjmaaGreat

/- Layer 8: the law's step: Holder, Release, Len, Holders, Held, Clone. -/
namespace Go.Proofs.YtknppiebncdjmaaGreat
set_option maxRecDepth 100000
set_option maxRecDepth 100000
open Go.RowKit Go.Maps Go.ChangeMaps Go.MapKept


/-- What a manager's Holders and Held must answer. -/
def HoldersIs (m r : Nat) (most : Int) (hs : List Hd) (table lo hi : ByteArray) : Prop := ∀ w, MG w m r most hs → Calls Tryz.prog 84 #[.pointer (some ⟨m, 0, none⟩), .string table, .string lo, .string hi] w fun e w' => ∃ v, e = .returned v ∧ SO seN w.heap.size w' v (riseP (whoP hs table lo hi)).length (numC (riseP (whoP hs table lo hi))) ∧ Below w.heap.size w w'
def HeldIs (m r : Nat) (most : Int) (hs : List Hd) (tx : Int) : Prop := ∀ w, MG w m r most hs → Calls Tryz.prog 77 #[.pointer (some ⟨m, 0, none⟩), .int .i64 tx] w fun e w' => ∃ v, e = .returned v ∧ SO seL w.heap.size w' v (heldP hs tx).length (cellsL (heldP hs tx)) ∧ Below w.heap.size w w'
theorem whoR_len (hs : List Hd) (table lo hi : ByteArray) : (riseP (whoP hs table lo hi)).length ≤ hs.length := by
  have h1 := rise_len (whoP hs table lo hi) (whoP hs table lo hi).length
  rw [List.take_length] at h1
  have h2 := whoP_len hs table lo hi hs.length
  rw [List.take_length] at h2
  omega
theorem heldR_len (hs : List Hd) (tx : Int) : (heldP hs tx).length ≤ hs.length := by
  have h1 := heldP_len hs tx hs.length
  rwa [List.take_length] at h1

end Go.Proofs.YtknppiebncdjmaaGreat

/- Layer 8: the law's begun. -/
namespace Go.Proofs.YtknppiebncdjmaaGreat
set_option maxRecDepth 100000
set_option maxRecDepth 100000
open Go.RowKit Go.Maps Go.ChangeMaps Go.MapKept

theorem begun_t1 (l : Lk) : takeP 2 [] 1 0 0 l = (0, [(l, 1)]) := by simp [takeP, holderP]
theorem begun_t2 (l : Lk) : takeP 2 [(l, 1)] 2 0 0 l = (80, [(l, 1)]) := by simp [takeP, holderP, lkEq_is]
/-- Out of a map that is new. -/
theorem Out.fresh {a b c : World} {r n : Nat} (h : Below n a b) (hr : n ≤ r) (o : Out (fun k => k = r) b c) (hn : n ≤ b.heap.size) : Below n a c :=
  h.trans (o.below hn fun i hi e => by omega)

end Go.Proofs.YtknppiebncdjmaaGreat

/- Layer 8: maps.Clone of a map of locks; a trial manager's Clone. -/
namespace Go.Proofs.YtknppiebncdjmaaGreat
set_option maxRecDepth 100000
set_option maxRecDepth 100000
open Go.RowKit Go.Maps Go.ChangeMaps Go.MapKept

theorem wmapClone {w : World} {r : Nat} {hs : List Hd} (h : MapAt w r hs) : Calls Tryz.prog 87 #[.map (some r)] w fun e w' => e = .returned (.map (some w.heap.size)) ∧ MapAt w' w.heap.size hs ∧ Below w.heap.size w w' := by
  obtain ⟨D, ho, hv⟩ := h
  have hcon := AnyW.maps_Clone_owns Tryz.cloneL 42 _ r hs.length D w ho
  change Calls Tryz.prog 87 _ _ _ at hcon
  refine hcon.mono ?_
  rintro e w' ⟨h1, h2, -, h3⟩
  exact ⟨h1, ⟨D, h2, hv⟩, h3⟩

set_option maxHeartbeats 2000000 in
theorem wkClone {w : World} {b r : Nat} {most : Int} {hs : List Hd} (h : MG w b r most hs) :
    Calls Tryz.prog 44 #[.pointer (some ⟨b, 0, none⟩)] w fun e w' => ∃ m2 r2, e = .returned (.pointer (some ⟨m2, 0, none⟩)) ∧ MG w' m2 r2 most hs ∧ w.heap.size ≤ m2 ∧ w.heap.size ≤ r2 ∧ Below w.heap.size w w' := by
  have c0 : w.cell? ⟨b, 0, none⟩ = some (.int .i64 most) := cell_of_row _ _ 0 _ _ _ h.blk
  have c1 : w.cell? ⟨b, 1, none⟩ = some (.map (some r)) := cell_of_row _ _ 1 _ _ _ h.blk
  have CM := Lib.hid (wkMade h)
  have CC := Lib.hid (wmapClone (h.below (Below.refl w.heap.size w).drew).map)
  have HM := Lib.hid h
  clear h
  go_enter Tryz.func44, Tryz.ntmps44
  go_upto_region 3 with (go_at_call 86; go_loud (refine CM.out.mono ?_; rintro e w1 ⟨rfl, hw⟩; replace hw := hw.symm; subst hw))
  go_region_held3 (fun w' => w'.cell? ⟨b, 0, none⟩ = some (.int .i64 most) ∧ w'.cell? ⟨b, 1, none⟩ = some (.map (some r))) (first | exact ⟨c0, c1⟩ | exact S2 | exact S3)
    (first | (go_at_call 87; go_loud (refine CC.out.mono ?_; rintro e w2 ⟨rfl, m2, g2⟩; have M2 := Lib.hid m2; have G2 := Lib.hid (show Below w.heap.size w w2 from (Below.refl w.heap.size w).drew.trans g2); have S2 : w2.cell? ⟨b, 0, none⟩ = some (.int .i64 most) ∧ w2.cell? ⟨b, 1, none⟩ = some (.map (some r)) := ⟨keep_below c0 G2.out, keep_below c1 G2.out⟩; have S3 : (w2.alloc (Obj.cells #[Value.int .i64 most, Value.map (some w.heap.size)] 152)).cell? ⟨b, 0, none⟩ = some (.int .i64 most) ∧ (w2.alloc (Obj.cells #[Value.int .i64 most, Value.map (some w.heap.size)] 152)).cell? ⟨b, 1, none⟩ = some (.map (some r)) := ⟨keep_below S2.1 ((Below.refl _ _).alloc (Nat.le_refl _) _), keep_below S2.2 ((Below.refl _ _).alloc (Nat.le_refl _) _)⟩; clear m2 g2)))
  all_goals
    go_wp2
    go_ret
    refine ⟨w2.heap.size, w.heap.size, rfl, ⟨heap_alloc_new w2 _, M2.out.block (((Below.refl w2.heap.size w2).alloc (Nat.le_refl _) _).block _ M2.out.lt), HM.out.m1, HM.out.m2, HM.out.len⟩, G2.out.size, Nat.le_refl _, G2.out.alloc G2.out.size _⟩
end Go.Proofs.YtknppiebncdjmaaGreat

/- The library's contracts at this seat, in plain words (made by program: wip/law). -/
namespace Go.Proofs
set_option maxRecDepth 100000
open Go.Shelf
def Tryz.sortN_ren : Go.Shelf.Ren := ⟨fun | 5 => 89 | 8 => 137 | 7 => 136 | 19 => 168 | 20 => 169 | 10 => 159 | 11 => 160 | 12 => 161 | 13 => 162 | 14 => 163 | 15 => 164 | 16 => 165 | 17 => 166 | 18 => 167 | 30 => 200 | 31 => 201 | 32 => 202 | 33 => 203 | 34 => 204 | 35 => 205 | 40 => 216 | n => n, fun | 23 => 75 | 25 => 2 | 3 => 3 | 32 => 206 | 22 => 75 | 0 => 0 | 44 => 237 | 46 => 239 | 4 => 4 | 36 => 230 | 35 => 229 | 41 => 234 | 5 => 5 | 9 => 9 | 53 => 259 | 57 => 263 | 63 => 273 | 64 => 180 | n => n, fun | n => n⟩
theorem Tryz.sortN : Go.Proofs.SlLaysM.n5 Tryz.prog Tryz.sortN_ren := {
  mixed := by kernel_rfl
  f5 := ⟨Tryz.f89.name, by decide, Tryz.func89.trans (congrArg some (by kernel_rfl))⟩
  f7 := ⟨Tryz.f136.name, by decide, Tryz.func136.trans (congrArg some (by kernel_rfl))⟩
  f8 := Tryz.func137.trans (congrArg some (by kernel_rfl))
  f10 := ⟨Tryz.f159.name, by decide, Tryz.func159.trans (congrArg some (by kernel_rfl))⟩
  f11 := ⟨Tryz.f160.name, by decide, Tryz.func160.trans (congrArg some (by kernel_rfl))⟩
  f12 := ⟨Tryz.f161.name, by decide, Tryz.func161.trans (congrArg some (by kernel_rfl))⟩
  f13 := ⟨Tryz.f162.name, by decide, Tryz.func162.trans (congrArg some (by kernel_rfl))⟩
  f14 := ⟨Tryz.f163.name, by decide, Tryz.func163.trans (congrArg some (by kernel_rfl))⟩
  f15 := ⟨Tryz.f164.name, by decide, Tryz.func164.trans (congrArg some (by kernel_rfl))⟩
  f16 := ⟨Tryz.f165.name, by decide, Tryz.func165.trans (congrArg some (by kernel_rfl))⟩
  f17 := ⟨Tryz.f166.name, by decide, Tryz.func166.trans (congrArg some (by kernel_rfl))⟩
  f18 := ⟨Tryz.f167.name, by decide, Tryz.func167.trans (congrArg some (by kernel_rfl))⟩
  f19 := Tryz.func168.trans (congrArg some (by kernel_rfl))
  f20 := Tryz.func169.trans (congrArg some (by kernel_rfl))
  f30 := ⟨Tryz.f200.name, by decide, Tryz.func200.trans (congrArg some (by kernel_rfl))⟩
  f31 := Tryz.func201.trans (congrArg some (by kernel_rfl))
  f32 := Tryz.func202.trans (congrArg some (by kernel_rfl))
  f33 := ⟨Tryz.f203.name, by decide, Tryz.func203.trans (congrArg some (by kernel_rfl))⟩
  f34 := ⟨Tryz.f204.name, by decide, Tryz.func204.trans (congrArg some (by kernel_rfl))⟩
  f35 := ⟨Tryz.f205.name, by decide, Tryz.func205.trans (congrArg some (by kernel_rfl))⟩
  f40 := ⟨Tryz.f216.name, by decide, Tryz.func216.trans (congrArg some (by kernel_rfl))⟩
  t0 := Tryz.underlying0
  a0 := Tryz.isAgg0
  z0 := Tryz.sizeOf0
  v0 := Tryz.zeroValue0
  t3 := Tryz.underlying3
  a3 := Tryz.isAgg3
  z3 := Tryz.sizeOf3
  v3 := Tryz.zeroValue3
  t4 := Tryz.underlying4
  a4 := Tryz.isAgg4
  z4 := Tryz.sizeOf4
  v4 := Tryz.zeroValue4
  t5 := Tryz.underlying5
  a5 := Tryz.isAgg5
  z5 := Tryz.sizeOf5
  v5 := Tryz.zeroValue5
  t9 := Tryz.underlying9
  a9 := Tryz.isAgg9
  z9 := Tryz.sizeOf9
  v9 := Tryz.zeroValue9
  t22 := Tryz.underlying75
  a22 := Tryz.isAgg75
  z22 := Tryz.sizeOf75
  v22 := Tryz.zeroValue75
  t23 := Tryz.underlying75
  a23 := Tryz.isAgg75
  z23 := Tryz.sizeOf75
  v23 := Tryz.zeroValue75
  t25 := Tryz.underlying2
  a25 := Tryz.isAgg2
  z25 := Tryz.sizeOf2
  v25 := Tryz.zeroValue2
  t32 := Tryz.underlying206
  a32 := Tryz.isAgg206
  z32 := Tryz.sizeOf206
  v32 := Tryz.zeroValue206
  t35 := Tryz.underlying229
  a35 := Tryz.isAgg229
  z35 := Tryz.sizeOf229
  v35 := Tryz.zeroValue229
  t36 := Tryz.underlying230
  a36 := Tryz.isAgg230
  z36 := Tryz.sizeOf230
  v36 := Tryz.zeroValue230
  t41 := Tryz.underlying234
  a41 := Tryz.isAgg234
  z41 := Tryz.sizeOf234
  v41 := Tryz.zeroValue234
  t44 := Tryz.underlying237
  a44 := Tryz.isAgg237
  z44 := Tryz.sizeOf237
  v44 := Tryz.zeroValue237
  t46 := Tryz.underlying239
  a46 := Tryz.isAgg239
  z46 := Tryz.sizeOf239
  v46 := Tryz.zeroValue239
  t53 := Tryz.underlying259
  a53 := Tryz.isAgg259
  z53 := Tryz.sizeOf259
  v53 := Tryz.zeroValue259
  t57 := Tryz.underlying263
  a57 := Tryz.isAgg263
  z57 := Tryz.sizeOf263
  v57 := Tryz.zeroValue263
  t63 := Tryz.underlying273
  a63 := Tryz.isAgg273
  z63 := Tryz.sizeOf273
  v63 := Tryz.zeroValue273
  t64 := Tryz.underlying180
  a64 := Tryz.isAgg180
  z64 := Tryz.sizeOf180
  v64 := Tryz.zeroValue180 }
end Go.Proofs

/- Layer 9: slices.Sort of numbers that the call itself made, by its contract. -/
namespace Go.Proofs.YtknppiebncdjmaaGreat
set_option maxRecDepth 100000
set_option maxRecDepth 100000
open Go.RowKit

theorem sorted_heap (w : World) (m g : Nat) (ys : Array Int) (os : Array Obj) (k : Nat) (hk : k < w.heap.size) :
    (Sort.grow (Sort.putRow (Value.int .i64) (Sort.ahead w m) g 0 ys) os).heap[k]? = if k = g then (w.heap[k]?).map (Sort.onCells (Sort.putCells (Value.int .i64) 0 ys)) else w.heap[k]? := by
  unfold Sort.grow Sort.putRow Sort.mapBlock Sort.ahead
  simp only
  rw [Array.getElem?_append_left (by simpa using hk), Array.getElem?_modify]
  by_cases e : g = k
  · subst e; simp
  · rw [if_neg e, if_neg (Ne.symm e)]
theorem so_sorted {base n c g m : Nat} {w : World} {zs ys : List Int} {os : Array Obj} (h : SO seN base w (.slice (some ⟨g, 0, none⟩) n c) n (numC zs)) (hl : ys.length = n) :
    SO seN base (Sort.grow (Sort.putRow (Value.int .i64) (Sort.ahead w m) g 0 ys.toArray) os) (.slice (some ⟨g, 0, none⟩) n c) n (numC ys) := by
  rcases h.own.2 with ⟨hv, -⟩ | ⟨g', cap, cur, hv, hb, hh, hc, hm, hsz, ht⟩
  · cases hv
  · obtain ⟨rfl, rfl⟩ : g = g' ∧ c = cap := by simpa using hv
    refine ⟨⟨by rw [numC_len, hl]; show n = n * 1; omega, .inr ⟨g, c, Sort.putCells (Value.int .i64) 0 ys.toArray cur, rfl, hb, ?_, hc, hm, by simpa [Sort.putCells] using hsz, ?_⟩⟩, by rw [numC_len, hl]; show n = 1 * n; omega, numC_one _⟩
    · rw [sorted_heap _ _ _ _ _ _ (Array.getElem?_eq_some_iff.1 hh).1, if_pos rfl, hh]; rfl
    · have hcs : cur.size = c * 1 := hsz
      apply List.ext_getElem?
      intro k
      show (List.take (n * 1) _)[k]? = _
      rw [List.getElem?_take, Nat.mul_one]
      by_cases hk : k < n
      · rw [if_pos hk]
        have h1 : k < cur.size := by omega
        have h2 : k < ys.length := by omega
        simp [Sort.putCells, numC, h1, h2, Array.getElem?_eq_getElem]
      · rw [if_neg hk, List.getElem?_eq_none (by rw [numC_len]; omega)]
theorem so_sorted_out {g m : Nat} {w : World} {ys : List Int} {os : Array Obj} : Out (fun k => k = g) w (Sort.grow (Sort.putRow (Value.int .i64) (Sort.ahead w m) g 0 ys.toArray) os) :=
  ⟨rfl, rfl, rfl, by simp [Sort.grow, Sort.putRow, Sort.mapBlock, Sort.ahead], fun k hk hn => by
    rw [sorted_heap _ _ _ _ _ _ hk, if_neg hn]⟩
/-- slices.Sort of a list that the call made. -/
theorem wsortN {base : Nat} {w : World} {v : Value} {zs : List Int} (h : SO seN base w v zs.length (numC zs)) (hn : zs.length ≤ 4000000) :
    Calls Tryz.prog 89 #[v] w fun e w' => e = .returned (.tuple #[]) ∧ SO seN base w' v zs.length (numC (zs.mergeSort fun x y => decide (x ≤ y))) ∧ Below base w w' := by
  rcases h.own.2 with ⟨rfl, h0⟩ | ⟨g, cap, cur, rfl, hb, hh, -⟩
  · have hz : zs = [] := List.eq_nil_of_length_eq_zero h0
    subst hz
    have hcon := AnyM.slices_Sort_int_none Tryz.sortN none 0 w
    change Calls Tryz.prog 89 _ _ _ at hcon
    refine hcon.mono ?_
    rintro e w' ⟨h1, rfl⟩
    exact ⟨h1, by simpa using h, Below.refl _ _⟩
  · obtain ⟨A, c, e1, hsb, -⟩ := h.form
    obtain ⟨rfl, rfl⟩ : A = some ⟨g, 0, none⟩ ∧ c = cap := by
      simp at e1; exact ⟨e1.1.symm, e1.2.symm⟩
    rw [show seN.s * zs.length = zs.length from Nat.one_mul _] at hsb
    have hH : Sort.Holds (Value.int .i64) w g 0 zs.toArray := fun j hj => by
      have hj' : j < zs.length := by simpa using hj
      obtain ⟨x, hx⟩ : ∃ x, zs[j]? = some x := ⟨_, List.getElem?_eq_getElem hj'⟩
      obtain ⟨g1, o1, e2, hc⟩ := hsb.at_ (numC_at hx)
      cases e2
      refine ⟨?_, frozen_of_row _ _ _ _ _ hh⟩
      rw [hc]
      simp [hx, getElem!_pos, hj']
      rw [List.getElem?_eq_getElem hj'] at hx
      exact (Option.some.inj hx).symm
    have hlt := (Array.getElem?_eq_some_iff.1 hh).1
    have hcon := AnyM.slices_Sort_int Tryz.sortN g 0 c zs w hH hlt (by omega)
    change Calls Tryz.prog 89 _ _ _ at hcon
    refine hcon.mono ?_
    rintro e w' ⟨h1, m, os, rfl⟩
    exact ⟨h1, so_sorted h (List.length_mergeSort _), so_sorted_out.below (by omega) fun i hi e => by omega⟩
end Go.Proofs.YtknppiebncdjmaaGreat

/- Layer 8: slices.Sort of numbers that the call itself made, by its contract (as layer 9 has it). -/
namespace Go.Proofs.YtknppiebncdjmaaGreat
set_option maxRecDepth 100000
end Go.Proofs.YtknppiebncdjmaaGreat

/- Layer 8: slices.Compact of numbers that the call itself made, by its contract; what Sort and Compact make of a list is what Rise makes of it. -/
namespace Go.Proofs.YtknppiebncdjmaaGreat
set_option maxRecDepth 100000
set_option maxRecDepth 100000
open Go.RowKit

theorem compact_len8 (zs : List Int) : (Lib.compact zs).length ≤ zs.length := by
  unfold Lib.compact Lib.compactUpTo
  rw [List.length_map]
  have := List.length_filter_le (Lib.keeps zs.toArray) (List.range zs.length)
  simpa using this
/-- Compact of a list that rises: each of its numbers once, rising strictly. -/
theorem compact_is {ys : List Int} (h : ys.Pairwise (· ≤ ·)) : (Lib.compact ys).Pairwise (ltN · · = true) ∧ ∀ x, x ∈ Lib.compact ys ↔ x ∈ ys := by
  have hd : ∀ j, j < ys.length → ys.toArray[j]! = ys[j]! := fun j hj => by simp [getElem!_pos, hj]
  have key : ∀ m, m ≤ ys.length → (Lib.compactUpTo ys.toArray m).Pairwise (ltN · · = true) ∧ (∀ x, x ∈ Lib.compactUpTo ys.toArray m ↔ ∃ j, j < m ∧ ys[j]? = some x) := by
    intro m
    induction m with
    | zero => intro _; exact ⟨by simp [Lib.compactUpTo], by simp [Lib.compactUpTo]⟩
    | succ m ih =>
      intro hm
      obtain ⟨i1, i2⟩ := ih (by omega)
      obtain ⟨y, hy⟩ : ∃ y, ys[m]? = some y := ⟨_, List.getElem?_eq_getElem (by omega)⟩
      have hym : ys.toArray[m]! = y := by rw [hd m (by omega)]; simp [hy]
      rw [Lib.compactUpTo_succ, hym]
      by_cases hk : Lib.keeps ys.toArray m = true
      · rw [if_pos hk]
        refine ⟨List.pairwise_append.2 ⟨i1, List.pairwise_singleton .., fun a ha b hb => ?_⟩, fun x => ?_⟩
        · rw [List.mem_singleton.1 hb]
          obtain ⟨j, hj, hja⟩ := (i2 a).1 ha
          have hm0 : m ≠ 0 := by omega
          obtain ⟨z, hz⟩ : ∃ z, ys[m - 1]? = some z := ⟨_, List.getElem?_eq_getElem (by omega)⟩
          have hzm : ys.toArray[m - 1]! = z := by rw [hd (m - 1) (by omega)]; simp [hz]
          unfold Lib.keeps at hk
          rw [hym, hzm] at hk
          have hne : y ≠ z := by simpa [hm0] using hk
          have h1 : z ≤ y := by
            have := List.pairwise_iff_getElem.1 h (m - 1) m (by omega) (by omega) (by omega)
            rw [List.getElem?_eq_getElem (by omega)] at hz hy
            rw [Option.some.inj hz, Option.some.inj hy] at this
            exact this
          have h2 : a ≤ z := by
            rcases Nat.lt_or_ge j (m - 1) with h3 | h3
            · have := List.pairwise_iff_getElem.1 h j (m - 1) (by omega) (by omega) h3
              rw [List.getElem?_eq_getElem (by omega)] at hz hja
              rw [Option.some.inj hz, Option.some.inj hja] at this
              exact this
            · have : j = m - 1 := by omega
              subst this
              rw [hz] at hja
              rw [Option.some.inj hja]; exact Int.le_refl _
          unfold ltN
          simp only [decide_eq_true_eq]
          omega
        · rw [List.mem_append, i2, List.mem_singleton]
          constructor
          · rintro (⟨j, h1, h2⟩ | rfl)
            · exact ⟨j, by omega, h2⟩
            · exact ⟨m, by omega, hy⟩
          · rintro ⟨j, h1, h2⟩
            rcases Nat.lt_or_ge j m with h3 | h3
            · exact .inl ⟨j, h3, h2⟩
            · have : j = m := by omega
              subst this
              rw [hy] at h2
              exact .inr (Option.some.inj h2).symm
      · rw [if_neg hk, List.append_nil]
        refine ⟨i1, fun x => ?_⟩
        rw [i2]
        constructor
        · rintro ⟨j, h1, h2⟩; exact ⟨j, by omega, h2⟩
        · rintro ⟨j, h1, h2⟩
          rcases Nat.lt_or_ge j m with h3 | h3
          · exact ⟨j, h3, h2⟩
          · have : j = m := by omega
            subst this
            unfold Lib.keeps at hk
            have hm0 : j ≠ 0 := fun e => hk (by simp [e])
            obtain ⟨z, hz⟩ : ∃ z, ys[j - 1]? = some z := ⟨_, List.getElem?_eq_getElem (by omega)⟩
            have hzm : ys.toArray[j - 1]! = z := by rw [hd (j - 1) (by omega)]; simp [hz]
            rw [hym, hzm] at hk
            have hyz : y = z := by simpa [hm0] using hk
            rw [hy] at h2
            exact ⟨j - 1, by omega, by rw [hz, ← hyz]; exact h2⟩
  obtain ⟨h1, h2⟩ := key ys.length (Nat.le_refl _)
  refine ⟨h1, fun x => (h2 x).trans ⟨fun ⟨j, _, hj⟩ => List.mem_of_getElem? hj, fun hx => ?_⟩⟩
  obtain ⟨j, hj⟩ := List.mem_iff_getElem?.1 hx
  exact ⟨j, (List.getElem?_eq_some_iff.1 hj).1, hj⟩
/-- Sorted and compacted: what Rise answers, of any list with the same members. -/
theorem sort_rise {zs l : List Int} (h : ∀ x, x ∈ zs ↔ x ∈ l) : Lib.compact (zs.mergeSort fun x y => decide (x ≤ y)) = riseP l := by
  have hs : (zs.mergeSort fun x y => decide (x ≤ y)).Pairwise (· ≤ ·) := by
    have := List.pairwise_mergeSort (le := fun x y : Int => decide (x ≤ y)) (fun a b c h1 h2 => by simp at *; omega) (fun a b => by simp; omega) zs
    exact this.imp fun h => by simpa using h
  obtain ⟨h1, h2⟩ := compact_is hs
  exact rise_unique h1 fun y => (h2 y).trans ((List.mem_mergeSort).trans (h y))
theorem SO.shrink {base n n2 c g : Nat} {w : World} {zs : List Int} (h : SO seN base w (.slice (some ⟨g, 0, none⟩) n c) n (numC zs)) (hn : n2 ≤ n) : SO seN base w (.slice (some ⟨g, 0, none⟩) n2 c) n2 (numC (zs.take n2)) := by
  have hl := h.len
  rw [numC_len, show seN.s * n = n from Nat.one_mul _] at hl
  rcases h.own.2 with ⟨hv, -⟩ | ⟨g', cap, cur, hv, hb, hh, hc, hm, hsz, ht⟩
  · cases hv
  · obtain ⟨rfl, rfl⟩ : g = g' ∧ c = cap := by simpa using hv
    refine ⟨⟨by rw [numC_len, List.length_take]; show _ = n2 * 1; omega, .inr ⟨g, c, cur, rfl, hb, hh, Nat.le_trans hn hc, hm, hsz, ?_⟩⟩, by rw [numC_len, List.length_take]; show _ = 1 * n2; omega, numC_one _⟩
    have e : cur.toList.take (n2 * seN.s) = (cur.toList.take (n * seN.s)).take n2 := by
      rw [List.take_take, show n * seN.s = n from Nat.mul_one _, show n2 * seN.s = n2 from Nat.mul_one _, Nat.min_eq_left hn]
    rw [e, ht]
    simp [numC]
/-- slices.Compact of a list that the call made. -/
theorem wcompactN {base : Nat} {w : World} {v : Value} {zs : List Int} (h : SO seN base w v zs.length (numC zs)) (hn : zs.length ≤ 4000000) :
    Calls Tryz.prog 135 #[v] w fun e w' => ∃ v', e = .returned v' ∧ SO seN base w' v' (Lib.compact zs).length (numC (Lib.compact zs)) ∧ Below base w w' := by
  have hle := compact_len8 zs
  rcases h.own.2 with ⟨rfl, h0⟩ | ⟨g, cap, cur, rfl, hb, hh, hc, -⟩
  · have hz : zs = [] := List.eq_nil_of_length_eq_zero h0
    subst hz
    have hcon := AnyG.slices_Compact_int_empty Tryz.compactN none 0 w
    change Calls Tryz.prog 135 _ _ _ at hcon
    refine hcon.mono ?_
    rintro e w' ⟨h1, rfl⟩
    exact ⟨_, h1, SO.nil _ _ _, Below.refl _ _⟩
  · obtain ⟨A, c, e1, hsb, -⟩ := h.form
    obtain ⟨rfl, rfl⟩ : A = some ⟨g, 0, none⟩ ∧ c = cap := by
      simp at e1; exact ⟨e1.1.symm, e1.2.symm⟩
    rw [show seN.s * zs.length = zs.length from Nat.one_mul _] at hsb
    have hH : Sort.Holds (Value.int .i64) w g 0 zs.toArray := fun j hj => by
      have hj' : j < zs.length := by simpa using hj
      obtain ⟨x, hx⟩ : ∃ x, zs[j]? = some x := ⟨_, List.getElem?_eq_getElem hj'⟩
      obtain ⟨g1, o1, e2, hc⟩ := hsb.at_ (numC_at hx)
      cases e2
      refine ⟨?_, frozen_of_row _ _ _ _ _ hh⟩
      rw [hc]
      simp [hx, getElem!_pos, hj']
      rw [List.getElem?_eq_getElem hj'] at hx
      exact (Option.some.inj hx).symm
    have hlt := (Array.getElem?_eq_some_iff.1 hh).1
    have hcon := AnyG.slices_Compact_int Tryz.compactN g 0 c zs w hH (by omega) hc
    change Calls Tryz.prog 135 _ _ _ at hcon
    refine hcon.mono ?_
    rintro e w' ⟨h1, q, rfl⟩
    refine ⟨_, h1, ?_, ?_⟩
    · have h2 := so_sorted (m := q) (os := #[]) (ys := Lib.compact zs ++ List.replicate (zs.length - (Lib.compact zs).length) 0) h (by simp; omega)
      rw [Sort.grow_empty] at h2
      have h3 := h2.shrink (n2 := (Lib.compact zs).length) hle
      rw [List.take_left' rfl] at h3
      exact h3
    · have h2 := so_sorted_out (g := g) (m := q) (w := w) (ys := Lib.compact zs ++ List.replicate (zs.length - (Lib.compact zs).length) 0) (os := #[])
      rw [Sort.grow_empty] at h2
      exact h2.below (by omega) fun i hi e => by omega
end Go.Proofs.YtknppiebncdjmaaGreat
