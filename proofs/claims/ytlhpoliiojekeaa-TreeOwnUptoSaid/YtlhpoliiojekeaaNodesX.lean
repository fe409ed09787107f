/- Nodes once more: no two rows of what it hands back are one. -/
import Derived.Test.YtlhpoliiojekeaaKND
namespace Go.Proofs.Ytlhpoliiojekeaa
set_option maxRecDepth 100000
open Go.RowKit

def SepV (u v : Value) : Prop := ∀ k, u.ownBlock = some k → v.ownBlock ≠ some k
def SepT (a b : Tt) : Prop := SepV a.kv b.kv ∧ SepV a.zv b.zv
theorem sepT_snoc {L : List Tt} {base : Nat} {wr w8 : World} {v kv zv : Value} {ks zs : List Value} (h : L.Pairwise SepT) (hT : TO base wr v L) (hk : VO elS wr.heap.size w8 kv ks) (hz : VO elK wr.heap.size w8 zv zs) (t : TN) : (L ++ [(⟨t, kv, zv⟩ : Tt)]).Pairwise SepT := by
  refine List.pairwise_append.2 ⟨h, List.pairwise_singleton .., fun a ha b hb => ?_⟩
  simp only [List.mem_singleton] at hb
  subst hb
  obtain ⟨h1, h2⟩ := hT.is a ha
  refine ⟨fun k q1 q2 => ?_, fun k q1 q2 => ?_⟩
  · have := (h1.lt k q1).2; have := (hk.lt k q2).1; omega
  · have := (h2.lt k q1).2; have := (hz.lt k q2).1; omega
/-- What Nodes hands back: no two rows of it are one. -/
def NodesIsX (w : World) (ord : Nat) (ps : List Pr) (e : Ending) (w' : World) : Prop :=
  ∃ v L R root, e = .returned v ∧ TO w.heap.size w' v L ∧ L.length = R.length ∧ RInv ord w root (2 * ps.length + 1) R (L.map Tt.t) ∧ root.2.ps = ps ∧ root.2.m ≤ most ord root.1 ∧ Below w.heap.size w w' ∧ L.Pairwise SepT

set_option maxHeartbeats 16000000 in
theorem wnodesX {w : World} {T ord : Nat} {ps : List Pr} (h : TreeAt w T ord ps) (hp : ps.length ≤ 4000000) :
    Calls Try.prog 22 #[.pointer (some ⟨T, 0, none⟩)] w (NodesIsX w ord ps) := by
  have CM := Lib.hid (wmade h)
  obtain ⟨v, d, m, h1, h2, hr, hm, h2m, ho, ho2⟩ := h
  have c1 := h1.c1
  obtain ⟨tt, gg, hv⟩ := h2.form
  have hmo : most ord d ≤ 64 := by unfold most; split <;> omega
  obtain ⟨root, hroot⟩ : ∃ root : Nd, root = (d, ⟨v, ps, m⟩) := ⟨_, rfl⟩
  have RI0 := Lib.hid (show RInv ord w root (2 * ps.length + 1) [root] [] by subst hroot; exact RInv.start (root := (d, ⟨v, ps, m⟩)) h2 (by show m ≤ 990; omega) h2m)
  have RT := Lib.hid (show root.2.v = v ∧ root.2.ps = ps ∧ root.2.m ≤ most ord root.1 by subst hroot; exact ⟨rfl, rfl, hm⟩)
  have HPL := Lib.hid hp
  have HO := Lib.hid (show 3 ≤ ord ∧ ord ≤ 64 from ⟨ho, ho2⟩)
  subst hv
  obtain ⟨W, hW⟩ : ∃ W, w.alloc (.cells #[.iface tt (.pointer (some ⟨gg, 0, none⟩))] 80) = W := ⟨_, rfl⟩
  have G0 := Lib.hid (show Gw w W by rw [← hW]; exact (Gw.refl _).alloc _)
  have O0 : Hid (VO elN w.heap.size W (.slice (some ⟨w.heap.size, 0, none⟩) 1 1) (rowV [root])) := Lib.hid (by
    have e : rowV [root] = [.iface tt (.pointer (some ⟨gg, 0, none⟩))] := by simp [rowV, RT.out.1]
    rw [e]
    exact ⟨⟨by simp, .inr ⟨w.heap.size, 1, _, rfl, Nat.le_refl _, by rw [← hW]; exact heap_alloc_new w _, Nat.le_refl _, by simp [maxLen], by simp, by simp⟩⟩, by simp; rfl⟩)
  clear h1 h2 hr hm h2m hroot hmo ho ho2
  go_enter Try.func22, Try.ntmps22
  go_upto_region 6 with (go_at_call 36; refine CM.out.mono ?_; rintro e w1 ⟨rfl, hw⟩; replace hw := hw.symm; subst hw; clear CM)
  clear hW c1
  go_loopw [3, 4, 5] (fun rv tv i' wr => ∃ (R : List Nd) (L : List Tt) (A : Option Addr) (c : Nat), i' = .int .i64 (L.length : Nat) ∧ rv = .slice A R.length c ∧ VO elN w.heap.size wr (.slice A R.length c) (rowV R) ∧ TO w.heap.size wr tv L ∧ Gw w wr ∧ RInv ord w root (2 * ps.length + 1) R (L.map Tt.t) ∧ L.Pairwise SepT) (fun _ _ i' _ => 2 * ps.length + 1 - (intOf i').toNat)
  case atStart => exact ⟨[root], [], _, 1, rfl, rfl, O0.out, TO.nil _ _, G0.out, RI0.out, List.Pairwise.nil⟩
  case round =>
    rename World => wr
    obtain ⟨R, L, A, c, rfl, rfl, hR, hT, hG, hI, hSep⟩ := hrel
    have HSEP := Lib.hid hSep
    clear hSep
    have hll : (L.map Tt.t).length = L.length := List.length_map ..
    have hlen := hI.len
    have hpot := hI.pot
    have hpl := HPL.out
    rw [hll] at hlen
    by_cases hlt : L.length < R.length
    · obtain ⟨x, hx⟩ : ∃ x, R[L.length]? = some x := ⟨_, List.getElem?_eq_getElem hlt⟩
      have hn := hI.node x (List.mem_of_getElem? hx)
      have hf := hR.form
      obtain ⟨A', c', hf1, hvb, -, -⟩ := hf
      have hrl : (rowV R).length = R.length := by simp [rowV]
      rw [hrl] at hvb hf1
      obtain ⟨rfl, rfl⟩ : A' = A ∧ c' = c := by injection hf1 with e1 e2 e3; exact ⟨e1.symm, e3.symm⟩
      obtain ⟨ad, rfl, cx⟩ := hvb.at_ (k := L.length) (u := x.2.v) (by simp [rowV, hx])
      obtain ⟨tt2, g2, hxv⟩ := hn.1.form
      obtain ⟨t, ys, hd, hcall⟩ := wdescribe hn.1 hn.2.1 R.length (by omega)
      have CD := Lib.hid hcall
      have HSTEP := Lib.hid (hI.step HO.out.1 HO.out.2 (by rw [hll]; exact hx) hd)
      have hys : R.length + ys.length ≤ 9000000 := by
        have h9 := HSTEP.out.pot
        rw [List.length_append] at h9
        omega
      rw [hxv] at cx CD
      have i1 : (L.length : Int) < (R.length : Int) := by omega
      have lb : (L.length : Int) ≤ 9000000 := by omega
      have HR := Lib.hid hR
      have HT := Lib.hid hT
      have HG := Lib.hid hG
      have HYS := Lib.hid hys
      have HRL := Lib.hid hrl
      have HLT := Lib.hid hlt
      clear hx hn hvb hf1 hd hcall hI hll hlen hpot hpl hys hrl hR hT hG hlt hxv
      go_upto_region 9 with (go_at_call 46; go_loud (refine (CD.out _ HG.out).mono ?_; rintro e w8 ⟨kv, zv, C, cc, rfl, ok, oz, vb, hcc, b8⟩; obtain ⟨K, ck, hkv, -, -, -⟩ := ok.form; obtain ⟨Z, cz, hzv, -, -⟩ := oz.ints; subst hkv; subst hzv; have SP8 := Lib.hid (fun t => sepT_snoc HSEP.out HT.out ok oz t); have OK8 := Lib.hid ok; have OZ8 := Lib.hid oz; have VB8 := Lib.hid vb; have B8 := Lib.hid (show Gw wr w8 from b8); clear ok oz vb b8))
      have XTRA := Lib.hid (show ∀ c9 : Array Value, c9 = #[.bool t.leaf, .slice K t.ks.length ck, .slice Z t.kids.length cz] → ∀ W10, W10 = (w8.alloc (.cells c9 62)).alloc (.cells c9 62) →
          W10.cell? ⟨w8.heap.size + 1, 0, none⟩ = some (.bool t.leaf) ∧ W10.cell? ⟨w8.heap.size + 1, 1, none⟩ = some (.slice K t.ks.length ck) ∧ W10.cell? ⟨w8.heap.size + 1, 2, none⟩ = some (.slice Z t.kids.length cz) ∧
          VO elS w.heap.size W10 (.slice K t.ks.length ck) (t.ks.map Value.string) ∧ VO elK w.heap.size W10 (.slice Z t.kids.length cz) (intsV t.kids) ∧ TO w.heap.size W10 u4 L ∧ VO elN w.heap.size W10 (.slice (some ad) R.length c') (rowV R) ∧ VB W10 C ys.length (rowV ys) ∧ Gw w W10 from fun c9 h9 W10 h10 => by
        subst h9
        have ha := heap_alloc_new (w8.alloc (.cells #[.bool t.leaf, .slice K t.ks.length ck, .slice Z t.kids.length cz] 62)) (.cells #[.bool t.leaf, .slice K t.ks.length ck, .slice Z t.kids.length cz] 62)
        rw [← h10, show (w8.alloc (.cells #[.bool t.leaf, .slice K t.ks.length ck, .slice Z t.kids.length cz] 62)).heap.size = w8.heap.size + 1 by simp] at ha
        have g8 : Gw w8 W10 := by rw [h10]; exact ((Gw.refl _).alloc _).alloc _
        have gr := B8.out.trans g8
        have hk := (OK8.out.mono (Below.size HG.out)).gw g8
        rw [List.length_map] at hk
        exact ⟨(cell3 ha).1, (cell3 ha).2.1, (cell3 ha).2.2, hk, (OZ8.out.mono (Below.size HG.out)).gw g8, HT.out.gw gr, HR.out.gw gr, by have := VB8.out.gw g8; simpa [rowV] using this, HG.out.trans gr⟩)
      go_upto_region 10 with (at_builtin; go_loud (obtain ⟨a0, a1, a2, a3, a4, a5, a6, a7, a8⟩ := XTRA.out _ rfl _ rfl; refine to_append (by rfl) (.tmp 32) (.tmp 34) (by rfl) w.heap.size u4 L (by rfl) a5 (w8.heap.size + 1) ⟨t, .slice K t.ks.length ck, .slice Z t.kids.length cz⟩ (by rfl) a0 a1 a2 a3 a4 (by have := HYS.out; have := HLT.out; omega) (Below.size a8) ?_; intro v11 w11 o11 b11 g11; have O11 := Lib.hid o11; have R11 := Lib.hid (own_kept a5.own g11 a6.own (by decide)); have RO11 := Lib.hid a6.one; have B11 := Lib.hid (show Gw w w11 from Below.trans a8 b11); have V11 := Lib.hid (a7.kept a5.own g11 (by decide)); have G11 := Lib.hid g11; clear o11 b11 g11 a0 a1 a2 a3 a4 a7))
      go_wp2_with (at_builtin; go_loud (refine vn_append elN okN (by rfl) (.tmp 36) (.tmp 37) (by rfl) w.heap.size (.slice (some ad) R.length c') (rowV R) (by rfl) ⟨R11.out, RO11.out⟩ C ys.length cc (rowV ys) (by rfl) V11.out (by have := HYS.out; have := HRL.out; omega) (Below.size B11.out) ?_; intro v12 w12 o12 b12 g12; have T12 := Lib.hid (O11.out.past ⟨R11.out, RO11.out⟩ g12); obtain ⟨A12, c12, hv12, -, -, -⟩ := o12.form; obtain ⟨ln, hln⟩ : ∃ ln, (rowV R ++ rowV ys).length = ln := ⟨_, rfl⟩; rw [hln] at hv12; have HLN := Lib.hid (show ln = (R ++ ys).length by rw [← hln]; simp [rowV]); clear hln; subst hv12; have O12 := Lib.hid o12; have B12 := Lib.hid (show Gw w w12 from Below.trans B11.out b12); clear o12 b12 g12))
      go_roundw
      case rel => exact ⟨R ++ ys, L ++ [⟨t, .slice K t.ks.length ck, .slice Z t.kids.length cz⟩], A12, c12, by simp, by rw [HLN.out], by rw [show rowV (R ++ ys) = rowV R ++ rowV ys by simp [rowV], ← HLN.out]; exact O12.out, T12.out, B12.out, by simpa using HSTEP.out, by have h9 := SP8.out t; rw [List.length_map] at h9; exact h9⟩
      case measure =>
        have h9 := HSTEP.out.pot
        have h8 := HLT.out
        rw [List.length_append] at h9
        simp [intOf]
        omega
    · have hEq : L.length = R.length := by omega
      have i1 : ¬ (L.length : Int) < (R.length : Int) := by omega
      have FIN := Lib.hid (show NodesIsX w ord ps (.returned u4) wr from ⟨u4, L, R, root, rfl, hT, hEq, hI, RT.out.2.1, RT.out.2.2, hG, HSEP.out⟩)
      clear hT hR hI hlt hll hlen hpot hpl hEq
      go_wp2
      go_ret
      exact FIN.out
end Go.Proofs.Ytlhpoliiojekeaa
