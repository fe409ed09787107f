import Derived.Test.YtlhpoliiojekeaaChanges
import Derived.Test.YtlhpoliiojekeaaRefScan
import Derived.Test.YtlhpoliiojekeaaCelM
import Derived.RangeFuncKeeps
import Derived.WalkKit
import Derived.Stop.RegionWithIn
import Derived.Laws.Cover1
import Derived.WalkLawsBesides
import Derived.Test.YtlhpoliiojekeaaNextT
/- What an iterator over a tree needs kept between two rounds; a scan's pairs, node by node. -/
namespace Go.Proofs.Ytlhpoliiojekeaa
set_option maxRecDepth 100000
open Go.RowKit

/-- Nodes and lists that were there are as before. -/
def KeepN (A B : World) : Prop := A.heap.size ≤ B.heap.size ∧ ∀ (U : Nat) (cs : Array Value) (e : TypeId) (fr : Nat × Nat), A.heap[U]? = some (.cells cs e fr) → (e = 101 ∨ e = 109 ∨ ET e) → B.heap[U]? = some (.cells cs e fr)
theorem KeepN.refl (A : World) : KeepN A A := ⟨Nat.le_refl _, fun _ _ _ _ h _ => h⟩
theorem KeepN.trans {A B C : World} (h : KeepN A B) (k : KeepN B C) : KeepN A C := ⟨Nat.le_trans h.1 k.1, fun U cs e fr h1 h2 => k.2 U cs e fr (h.2 U cs e fr h1 h2) h2⟩
theorem Gw.keepN {A B : World} (h : Gw A B) : KeepN A B := ⟨Below.size h, fun U _ _ _ h1 _ => (Below.block h U (Array.getElem?_eq_some_iff.1 h1).1).trans h1⟩
theorem X2.keepN {T u : Nat} {A B : World} (h : X2 T u A B) (hT : Fo A T) (hu : Fo A u) : KeepN A B := ⟨h.size, fun U cs e fr h1 h2 => by
  have key : ∀ V, Fo A V → U ≠ V := fun V hV e' => by
    subst e'
    obtain ⟨cs', e2, fr', q1, q2, q3, q4⟩ := hV
    rw [h1] at q1
    simp only [Option.some.injEq, Obj.cells.injEq] at q1
    rcases h2 with h2 | h2 | h2
    · exact q2 (q1.2.1 ▸ h2)
    · exact q3 (q1.2.1 ▸ h2)
    · exact q4 (q1.2.1 ▸ h2)
  exact (h.block U (Array.getElem?_eq_some_iff.1 h1).1 (key T hT) (key u hu)).trans h1⟩
theorem Xt.keepN {T : Nat} {A B : World} (h : Xt T A B) (hT : Fo A T) : KeepN A B := (h.x2 T).keepN hT hT
theorem KeepN.turn (A : World) (l : Nat) (o o' : Obj) (hl : A.heap[l]? = some o) (hc : o.isCells = false) : KeepN A (A.putObj l o') :=
  ⟨(grownBy_putObj' A l o').size, fun U cs e fr h1 _ => by
    refine (World.putObj_heap_other (fun e' => ?_)).trans h1
    subst e'
    rw [h1] at hl
    cases hl
    cases hc⟩
theorem row_of_cell {w : World} {p : Addr} {v : Value} (h : w.cell? p = some v) : ∃ cs e fr, w.heap[p.block]? = some (.cells cs e fr) := by
  unfold World.cell? at h
  split at h
  · rename_i cs e fr hh
    exact ⟨cs, e, fr, hh⟩
  · cases h
theorem KeepN.vb {A B : World} (h : KeepN A B) {a : Option Addr} {n : Nat} {vs : List Value} (hv : VB A a n vs) : VB B a n vs :=
  ⟨hv.len, hv.one, fun hn => by
    obtain ⟨ad, e, nt, hc⟩ := hv.cell hn
    obtain ⟨u, hu⟩ : ∃ u, vs[0]? = some u := ⟨_, List.getElem?_eq_getElem (by rw [hv.len]; exact hn)⟩
    obtain ⟨cs, ty, fr, hrow⟩ := row_of_cell (hc 0 u hu)
    rw [block_add] at hrow
    have hb : B.heap[ad.block]? = A.heap[ad.block]? := (h.2 _ _ _ _ hrow (.inr (.inr (nt _ _ _ hrow)))).trans hrow.symm
    exact ⟨ad, e, nt.keep hb, fun j u hj => (World.cell?_of_block (w := A) (by rw [block_add]; exact hb)).trans (hc j u hj)⟩⟩
theorem LfAt.kn {A B : World} {g : Nat} {ps : List Pr} (hl : LfAt A g ps) (h : KeepN A B) : LfAt B g ps := by
  obtain ⟨a, c, b, e, h0, h1, h2, h3, h4⟩ := hl
  exact ⟨a, c, b, e, h.2 _ _ _ _ h0 (.inl rfl), h.vb h1, h2, h.vb h3, h4⟩
theorem NodeAt.kn {ord : Nat} {A B : World} (h : KeepN A B) : ∀ {d : Nat} {v : Value} {ps : List Pr} {m : Nat}, NodeAt ord A d v ps m → NodeAt ord B d v ps m
  | 0, _, _, _, ⟨g, h1, h2, h3⟩ => ⟨g, h1, h2.kn h, h3⟩
  | _ + 1, _, _, _, ⟨g, ks, kids, h1, h2, h3, h4⟩ => by
    obtain ⟨a, c, b, e, q0, q1, q2, q3, q4⟩ := h3.row
    exact ⟨g, ks, kids, h1, h2, ⟨⟨a, c, b, e, h.2 _ _ _ _ q0 (.inr (.inl rfl)), h.vb q1, q2, h.vb q3, q4⟩, h3.num, h3.all, fun x hx => NodeAt.kn h (h3.is x hx), h3.tok⟩, h4⟩
theorem InC.kn {ord d : Nat} {A B : World} (h : KeepN A B) {g : Nat} {ps : List Pr} {ks : List ByteArray} {kids : List Kid} (hC : InC (NodeAt ord A d) A g ps ks kids) : InC (NodeAt ord B d) B g ps ks kids := by
  obtain ⟨a, c, b, e, q0, q1, q2, q3, q4⟩ := hC.row
  exact ⟨⟨a, c, b, e, h.2 _ _ _ _ q0 (.inr (.inl rfl)), h.vb q1, q2, h.vb q3, q4⟩, hC.num, hC.all, fun x hx => (hC.is x hx).kn h, hC.tok⟩
/-! ### what is told -/
theorem scanP_app (a b : List Pr) (lo hi : ByteArray) : scanP (a ++ b) lo hi = scanP a lo hi ++ scanP b lo hi := by simp [scanP]
theorem scanP_under {a : List Pr} {lo hi : ByteArray} (h : ∀ p ∈ a, kl p.1 lo = true) : scanP a lo hi = [] := by
  unfold scanP
  rw [List.filter_eq_nil_iff]
  intro p hp
  simp [h p hp]
theorem scanP_over {a : List Pr} {lo hi : ByteArray} (h : ∀ p ∈ a, kl p.1 hi = false) : scanP a lo hi = [] := by
  unfold scanP
  rw [List.filter_eq_nil_iff]
  intro p hp
  simp [h p hp]
theorem scanP_take_pre (ps : List Pr) (lo hi : ByteArray) (i : Nat) : scanP (ps.take i) lo hi <+: scanP ps lo hi := by
  have h : scanP ps lo hi = scanP (ps.take i) lo hi ++ scanP (ps.drop i) lo hi := by rw [← scanP_app, List.take_append_drop]
  rw [h]; exact List.prefix_append _ _
theorem scanP_kids_pre (kids : List Kid) (lo hi : ByteArray) (i : Nat) : scanP (kidsP (kids.take i)) lo hi <+: scanP (kidsP kids) lo hi := by
  have h : scanP (kidsP kids) lo hi = scanP (kidsP (kids.take i)) lo hi ++ scanP (kidsP (kids.drop i)) lo hi := by rw [← scanP_app, ← kidsP_app, List.take_append_drop]
  rw [h]; exact List.prefix_append _ _
theorem prefix_app_left {α : Type} (p : List α) {a b : List α} (h : a <+: b) : p ++ a <+: p ++ b := (List.prefix_append_right_inj p).2 h
/-- How an element is handed on. -/
def encP (x : Pr) : Array Value := #[.string x.1, .int .i64 x.2]
/-- What is asked of a round over the pairs S. -/
def YP (l : Nat) (J Jx : List Pr → World → Prop) (S : List Pr) : Prop := ∀ (m : Nat) pre x A, J pre A → pre ++ [x] <+: S → YieldAt Fence.wide m Try.prog l (encP x) A fun e B => ∃ b, e = .returned (.bool b) ∧ ((b = true ∧ J (pre ++ [x]) B ∧ KeepN A B) ∨ (b = false ∧ Jx (pre ++ [x]) B))
/-- What going through S leads to. -/
def ScanIs (J Jx : List Pr → World → Prop) (S pre T : List Pr) (W : World) (e : Ending) (B : World) : Prop := ∃ b, e = .returned (.bool b) ∧ ((b = true ∧ J (pre ++ T) B ∧ KeepN W B) ∨ (b = false ∧ ∃ q, pre ++ q <+: S ∧ q ≠ [] ∧ Jx (pre ++ q) B))
end Go.Proofs.Ytlhpoliiojekeaa

/- scan: the keys below a node are told one by one. -/
namespace Go.Proofs.Ytlhpoliiojekeaa
set_option maxRecDepth 100000
open Go.RowKit Go.Shelf

attribute [local go_sem] Oper.semAt_some

set_option maxHeartbeats 16000000 in
theorem wscanL {l : Nat} {J Jx : List Pr → World → Prop} {S : List Pr} (hJ : ∀ s, Stays (J s)) (hY : YP l J Jx S) (lo hi : ByteArray) {W : World} {g : Nat} {ps : List Pr} (h : LfAt W g ps) (hr : Rises (keys ps)) (hn : ps.length ≤ 1000) (n : Nat) (pre : List Pr) (h0 : J pre W) (hp : pre ++ scanP ps lo hi <+: S) :
    CallsIn Fence.wide n Try.prog 39 #[lp g, .string lo, .string hi, .func (.yield l) #[] #[]] W (ScanIs J Jx S pre (scanP ps lo hi) W) := by
  have HLF := Lib.hid h
  obtain ⟨A, c, B, e, r0, h1, h2, h3, h4⟩ := h
  have c0 : W.cell? ⟨g, 0, none⟩ = some (.slice A ps.length c) := by rw [cell_of_row _ _ _ _ _ _ r0]; rfl
  rw [keysV_eq] at h1
  have CB := Lib.hid (wbin W A ps.length c (keys ps) lo h1 hr (by omega))
  have hrl : rk (keys ps) lo ≤ ps.length := by have := rk_le (keys ps) lo; rw [keys_len] at this; exact this
  have hst : scanP (ps.take (rk (keys ps) lo)) lo hi = [] := scanP_under (take_under lo)
  obtain ⟨r, hrk⟩ : ∃ r, rk (keys ps) lo = r := ⟨_, rfl⟩
  have HRK := Lib.hid hrk
  rw [hrk] at CB hrl hst
  have HST := Lib.hid hst
  have HR := Lib.hid hr
  have HP := Lib.hid hp
  have H0 := Lib.hid h0
  have HN := Lib.hid hn
  have HY := Lib.hid hY
  have HST2 := Lib.hid hJ
  have nb : (ps.length : Int) ≤ 1000 := by omega
  have HRL := Lib.hid hrl
  have t1 := ta_ll
  unfold lp
  clear r0 h1 h2 h3 h4 hr hp h0 hn hrk hst hrl hY hJ
  refine callsIn_wide.2 ?_
  go_enter Try.func39, Try.ntmps39
  go_upto_region 5 with (go_at_call 52; refine CB.out.mono ?_; rintro e w1 ⟨rfl, hw⟩; replace hw := hw.symm; subst hw; clear CB)
  clear c0
  go_loopw [10] (fun i' wr => ∃ i : Nat, i' = .int .i64 (i : Nat) ∧ r ≤ i ∧ i ≤ ps.length ∧ J (pre ++ scanP (ps.take i) lo hi) wr ∧ KeepN W wr) (fun i' _ => ps.length - (intOf i').toNat)
  case atStart => exact ⟨r, rfl, Nat.le_refl _, HRL.out, by rw [HST.out, List.append_nil]; exact H0.out, KeepN.refl _⟩
  case round =>
    rename World => wr
    obtain ⟨i, rfl, hri, hil, hJi, hK⟩ := hrel
    obtain ⟨A2, c2, B2, e2, r2, v1, v2, v3, v4⟩ := HLF.out.kn hK
    have c0 : wr.cell? ⟨g, 0, none⟩ = some (.slice A2 ps.length c2) := by rw [cell_of_row _ _ _ _ _ _ r2]; rfl
    have c1 : wr.cell? ⟨g, 1, none⟩ = some (.slice B2 ps.length e2) := by rw [cell_of_row _ _ _ _ _ _ r2]; rfl
    have HJ := Lib.hid hJi
    have HK := Lib.hid hK
    have ib : (i : Int) ≤ 1000 := by omega
    by_cases hlt : i < ps.length
    · obtain ⟨⟨k, z⟩, hx⟩ : ∃ p, ps[i]? = some p := ⟨_, List.getElem?_eq_getElem hlt⟩
      obtain ⟨ad, rfl, ck⟩ := v1.at_ (k := i) (u := .string k) (by simp [keysV, hx])
      obtain ⟨bd, rfl, cz⟩ := v3.at_ (k := i) (u := .int .i64 z) (by simp [numsV, hx])
      have hkx : (keys ps)[i]? = some k := by rw [keys_get, hx]; rfl
      have hlo : kl k lo = false := rk_above HR.out lo (by rw [HRK.out]; exact hri) hkx
      have i1 : (i : Int) < (ps.length : Int) := by omega
      have HLT := Lib.hid hlt
      have HRI := Lib.hid hri
      have hsucc := scanP_succ hx lo hi
      dsimp only at hsucc
      cases hhi : kl k hi
      · have HE := Lib.hid (show scanP ps lo hi = scanP (ps.take i) lo hi by
          have h9 : scanP ps lo hi = scanP (ps.take i) lo hi ++ scanP (ps.drop i) lo hi := by rw [← scanP_app, List.take_append_drop]
          rw [h9, scanP_over (a := ps.drop i), List.append_nil]
          intro p hp
          obtain ⟨j, hj, rfl⟩ := List.mem_iff_getElem.1 hp
          rw [List.getElem_drop]
          rw [List.length_drop] at hj
          have h1 : (keys ps)[i + j]? = some (ps[i + j]'(by omega)).1 := by rw [keys_get, List.getElem?_eq_getElem (by omega)]; rfl
          rcases Nat.eq_zero_or_pos j with hj0 | hj0
          · subst hj0
            have h2 : some k = some (ps[i + 0]'(by omega)).1 := hkx.symm.trans h1
            injection h2 with h2
            rw [← h2]; exact hhi
          · have h2 := HR.out.at_ (show i < i + j by omega) hkx h1
            cases h3 : kl (ps[i + j]'(by omega)).1 hi
            · rfl
            · have := kl_trans h2 h3; rw [hhi] at this; cases this)
        unfold kl at hhi
        clear hx v1 v2 v3 v4 r2 hkx hlo hlt hri hil hJi hK hsucc
        go_wp2
        go_ret
        exact ⟨true, rfl, .inl ⟨rfl, by rw [HE.out]; exact HJ.out, HK.out⟩⟩
      · have HE := Lib.hid (show scanP (ps.take (i + 1)) lo hi = scanP (ps.take i) lo hi ++ [(k, z)] by rw [hsucc]; simp [hlo, hhi])
        have hpre : (pre ++ scanP (ps.take i) lo hi) ++ [(k, z)] <+: S := by
          rw [List.append_assoc, ← HE.out]
          exact (prefix_app_left pre (scanP_take_pre ps lo hi (i + 1))).trans HP.out
        have YI := Lib.hid (fun m X (hX : J (pre ++ scanP (ps.take i) lo hi) X) => HY.out m _ (k, z) X hX hpre)
        have HPR := Lib.hid hpre
        unfold kl at hhi
        clear hx v1 v2 v3 v4 r2 hkx hlo hlt hri hil hJi hK hsucc hpre
        go_upto_region 7 with fail
        obtain ⟨fn, tmps, assign, body, hy, hR⟩ := YI.out 8 wr.drew (HST2.out _ _ _ HJ.out ((Gw.refl wr).drew))
        have HRR := Lib.hid hR
        unfold encP at hy
        clear hR
        refine (wpIn_wide (n := 9)).1 ?_
        gi_region_with (refine HRR.out.mono ?_; rintro e W2 ⟨b, rfl, hb⟩; have HB := Lib.hid hb; clear hb HRR)
        all_goals
          obtain ⟨rfl, hj, hk⟩ | ⟨rfl, hx⟩ := HB.out
          · have GJ := Lib.hid (show J (pre ++ scanP (ps.take (i + 1)) lo hi) W2 by rw [HE.out, ← List.append_assoc]; exact hj)
            have GK := Lib.hid (HK.out.trans (show KeepN wr W2 from hk))
            clear hj hk HB hy
            go_wp2
            go_roundw
            case rel => exact ⟨i + 1, by go_num, by have := HRI.out; omega, HLT.out, GJ.out, GK.out⟩
            case measure => have := HLT.out; simp [intOf]; omega
          · have GX := Lib.hid (show Jx (pre ++ scanP (ps.take (i + 1)) lo hi) W2 by rw [HE.out, ← List.append_assoc]; exact hx)
            have GP := Lib.hid (show pre ++ scanP (ps.take (i + 1)) lo hi <+: S by rw [HE.out, ← List.append_assoc]; exact HPR.out)
            have GN := Lib.hid (show scanP (ps.take (i + 1)) lo hi ≠ [] by rw [HE.out]; simp)
            clear hx HB hy
            go_wp2
            go_ret
            exact ⟨false, rfl, .inr ⟨rfl, _, GP.out, GN.out, GX.out⟩⟩
    · obtain rfl : i = ps.length := by omega
      have i1 : ¬ (ps.length : Int) < (ps.length : Int) := by omega
      have HE := Lib.hid (show ps.take ps.length = ps from List.take_of_length_le (Nat.le_refl _))
      clear v1 v2 v3 v4 r2 hlt hri hil hJi hK
      go_wp2
      go_ret
      exact ⟨true, rfl, .inl ⟨rfl, by have h9 := HJ.out; rw [HE.out] at h9; exact h9, HK.out⟩⟩

theorem kids_over {N : Value → List Pr → Nat → Prop} {w : World} {g : Nat} {ps : List Pr} {ks : List ByteArray} {kids : List Kid} (h : InC N w g ps ks kids) (lo hi : ByteArray) {i : Nat} (hi1 : pl ks hi + 1 ≤ i) : scanP (kidsP (kids.drop i)) lo hi = [] := by
  refine scanP_over fun p hp => ?_
  have h1 : p ∈ kidsP (kids.drop (pl ks hi + 1)) := by
    have e : kids.drop i = (kids.drop (pl ks hi + 1)).drop (i - (pl ks hi + 1)) := by rw [List.drop_drop]; congr 1; omega
    rw [e] at hp
    unfold kidsP at hp ⊢
    rw [List.mem_flatMap] at hp ⊢
    obtain ⟨y, hy, hpy⟩ := hp
    exact ⟨y, List.mem_of_mem_drop hy, hpy⟩
  exact kl_asymm (h.back hi p h1)

set_option maxHeartbeats 16000000 in
theorem wscanI {ord d : Nat} {l : Nat} {J Jx : List Pr → World → Prop} {S : List Pr} (lo hi : ByteArray) (ho : ord ≤ 64)
    (ih : ∀ (v : Value) (ps : List Pr) (m n : Nat) (pre : List Pr) (W : World), NodeAt ord W d v ps m → m ≤ 1000 → Rises (keys ps) → J pre W → pre ++ scanP ps lo hi <+: S → CallsIn Fence.wide n Try.prog 39 #[v, .string lo, .string hi, .func (.yield l) #[] #[]] W (ScanIs J Jx S pre (scanP ps lo hi) W))
    {W : World} {g : Nat} {ps : List Pr} {ks : List ByteArray} {kids : List Kid} (hC : InC (NodeAt ord W d) W g ps ks kids) (hF : ∀ x ∈ kids, Fit ord d x.m) (hk1 : kids.length ≤ 1000) (n : Nat) (pre : List Pr) (h0 : J pre W) (hp : pre ++ scanP ps lo hi <+: S) :
    CallsIn Fence.wide n Try.prog 39 #[ip g, .string lo, .string hi, .func (.yield l) #[] #[]] W (ScanIs J Jx S pre (scanP ps lo hi) W) := by
  have HC := Lib.hid hC
  have hnum := hC.num
  have CPh := Lib.hid (wplace hC (by omega) hi)
  have CPl := Lib.hid (wplace hC (by omega) lo)
  obtain ⟨b, hb⟩ : ∃ b, pl ks hi = b := ⟨_, rfl⟩
  obtain ⟨a, ha⟩ : ∃ a, pl ks lo = a := ⟨_, rfl⟩
  have hbl := pl_le ks hi
  have hal := pl_le ks lo
  rw [hb] at CPh hbl
  rw [ha] at CPl hal
  have HOV := Lib.hid (show ∀ i, b + 1 ≤ i → scanP (kidsP (kids.drop i)) lo hi = [] from fun i h => kids_over hC lo hi (by rw [hb]; exact h))
  have HST := Lib.hid (show scanP (kidsP (kids.take a)) lo hi = [] from scanP_under (by rw [← ha]; exact hC.front lo))
  have HALL := Lib.hid hC.all
  have HP := Lib.hid hp
  have H0 := Lib.hid h0
  have HNUM := Lib.hid (And.intro hnum (And.intro hbl (And.intro hal hk1)))
  have HF := Lib.hid hF
  have IH := Lib.hid ih
  have HO := Lib.hid ho
  have bb : (b : Int) ≤ 1000 := by omega
  have ab : (a : Int) ≤ 1000 := by omega
  have t1 := ta_il
  have t2 := ta_ii
  unfold ip
  clear hC hnum hbl hal hp h0 hk1 hF ih hb ha ho
  refine callsIn_wide.2 ?_
  go_enter Try.func39, Try.ntmps39
  go_upto_region 13 with (first
    | (go_at_call 53; go_loud (refine CPh.out.mono ?_; rintro e w1 ⟨rfl, hw⟩; replace hw := hw.symm; subst hw; clear CPh))
    | (go_at_call 53; go_loud (refine CPl.out.mono ?_; rintro e w1 ⟨rfl, hw⟩; replace hw := hw.symm; subst hw; clear CPl)))
  go_loopw [14] (fun i' wr => ∃ i : Nat, i' = .int .i64 (i : Nat) ∧ a ≤ i ∧ (i ≤ b + 1 ∨ i = a) ∧ J (pre ++ scanP (kidsP (kids.take i)) lo hi) wr ∧ KeepN W wr) (fun i' _ => b + 1 - (intOf i').toNat)
  case atStart => exact ⟨a, rfl, Nat.le_refl _, .inr rfl, by rw [HST.out, List.append_nil]; exact H0.out, KeepN.refl _⟩
  case round =>
    rename World => wr
    obtain ⟨i, rfl, hai, hib, hJi, hK⟩ := hrel
    have HJ := Lib.hid hJi
    have HK := Lib.hid hK
    have iB : (i : Int) ≤ 1001 := by have := HNUM.out; omega
    by_cases hlt : i ≤ b
    · obtain ⟨y, hy⟩ : ∃ y, kids[i]? = some y := ⟨_, List.getElem?_eq_getElem (by have := HNUM.out; omega)⟩
      have hCr := HC.out.kn hK
      obtain ⟨ad, e, q1, q2, -⟩ := hCr.cell_kid hy
      have i1 : (i : Int) ≤ (b : Int) := by omega
      have i2 : (i : Int) < (kids.length : Int) := by have := HNUM.out; omega
      have hym := List.mem_of_getElem? hy
      obtain ⟨hup, -⟩ := kids_upto hy
      have hrise := kid_rises ks kids hCr.num hCr.tok y hym
      have hsc : scanP (kidsP (kids.take (i + 1))) lo hi = scanP (kidsP (kids.take i)) lo hi ++ scanP y.ps lo hi := by rw [hup, scanP_app]
      have CS := Lib.hid (callsIn_wide.1 (IH.out y.v y.ps y.m 0 (pre ++ scanP (kidsP (kids.take i)) lo hi) wr (hCr.is y hym) (by have := (HF.out y hym).le (show ord ≤ 1000 by have := HO.out; omega); exact this) hrise hJi (by
        rw [List.append_assoc, ← hsc]
        refine (prefix_app_left pre ?_).trans HP.out
        rw [HALL.out]
        exact scanP_kids_pre kids lo hi (i + 1))))
      obtain ⟨tt, gg, hyv⟩ := (hCr.is y hym).form
      rw [hyv] at q2 CS
      have HSC := Lib.hid hsc
      have HAI := Lib.hid hai
      have HLT := Lib.hid hlt
      clear hy hCr hym hup hrise hsc hJi hK hai hib hlt hyv
      go_wp2_with (go_at_call 39; refine CS.out.mono ?_; rintro e w3 ⟨t, rfl, ⟨rfl, hj, hk⟩ | ⟨rfl, q, hp1, hq1, hx1⟩⟩)
      · have GJ := Lib.hid (show J (pre ++ scanP (kidsP (kids.take (i + 1))) lo hi) w3 by rw [HSC.out, ← List.append_assoc]; exact hj)
        have GK := Lib.hid (HK.out.trans hk)
        clear hj hk
        go_roundw
        case rel => exact ⟨i + 1, by go_num, by have := HAI.out; omega, .inl (by have := HLT.out; omega), GJ.out, GK.out⟩
        case measure => have := HLT.out; simp [intOf]; omega
      · have GX := Lib.hid (show Jx (pre ++ (scanP (kidsP (kids.take i)) lo hi ++ q)) w3 by rw [← List.append_assoc]; exact hx1)
        have GP := Lib.hid (show pre ++ (scanP (kidsP (kids.take i)) lo hi ++ q) <+: S by rw [← List.append_assoc]; exact hp1)
        have GN := Lib.hid (show scanP (kidsP (kids.take i)) lo hi ++ q ≠ [] by simp [hq1])
        clear hx1 hp1 hq1
        go_ret
        exact ⟨false, rfl, .inr ⟨rfl, _, GP.out, GN.out, GX.out⟩⟩
    · have i1 : ¬ (i : Int) ≤ (b : Int) := by omega
      have HE := Lib.hid (show scanP ps lo hi = scanP (kidsP (kids.take i)) lo hi by
        have h9 : scanP (kidsP kids) lo hi = scanP (kidsP (kids.take i)) lo hi ++ scanP (kidsP (kids.drop i)) lo hi := by rw [← scanP_app, ← kidsP_app, List.take_append_drop]
        rw [HALL.out, h9, HOV.out i (by omega), List.append_nil])
      clear hlt hai hib hJi hK
      go_wp2
      go_ret
      exact ⟨true, rfl, .inl ⟨rfl, by rw [HE.out]; exact HJ.out, HK.out⟩⟩

/-- scan of any node. -/
theorem wscanR {ord : Nat} {l : Nat} {J Jx : List Pr → World → Prop} {S : List Pr} (hJ : ∀ s, Stays (J s)) (hY : YP l J Jx S) (lo hi : ByteArray) (ho : ord ≤ 64) :
    ∀ (d : Nat) (v : Value) (ps : List Pr) (m n : Nat) (pre : List Pr) (W : World), NodeAt ord W d v ps m → m ≤ 1000 → Rises (keys ps) → J pre W → pre ++ scanP ps lo hi <+: S → CallsIn Fence.wide n Try.prog 39 #[v, .string lo, .string hi, .func (.yield l) #[] #[]] W (ScanIs J Jx S pre (scanP ps lo hi) W)
  | 0, _, ps, m, n, pre, W, ⟨g, hv, hl, hm⟩, h1, hr, h0, hp => by
    subst hv
    exact wscanL hJ hY lo hi hl hr (by omega) n pre h0 hp
  | d + 1, _, ps, m, n, pre, W, ⟨g, ks, kids, hv, hm, hC, hF⟩, h1, hr, h0, hp => by
    subst hv
    exact wscanI lo hi ho (wscanR hJ hY lo hi ho d) hC hF (by omega) n pre h0 hp
end Go.Proofs.Ytlhpoliiojekeaa

/- Scan: the function value that it makes, and what that value promises. -/
namespace Go.Proofs.Ytlhpoliiojekeaa
set_option maxRecDepth 100000
open Go.RowKit Go.Shelf

attribute [local go_sem] Oper.semAt_some

theorem YieldAt.anyDepthW {m : Nat} (m' : Nat) {P : Program} {l : Nat} {args : Array Value} {W : World} {R : Ending → World → Prop} (h : YieldAt Fence.wide m P l args W R) : YieldAt Fence.wide m' P l args W R := by
  obtain ⟨fn, tmps, assign, body, hy, hR⟩ := h
  exact ⟨fn, tmps, assign, body, hy, ⟨hR.1, fun c cs _ => hR.2 c cs (room_wide _)⟩⟩
/-- A block of one cell. -/
def R1 (X : World) (b : Nat) (v : Value) (t : TypeId) : Prop := X.heap[b]? = some (.cells #[v] t (0, 0))
theorem R1.gw {X Y : World} {b : Nat} {v : Value} {t : TypeId} (h : R1 X b v t) (g : Gw X Y) : R1 Y b v t := (Below.block g b (Array.getElem?_eq_some_iff.1 h).1).trans h
theorem R1.c {X : World} {b : Nat} {v : Value} {t : TypeId} (h : R1 X b v t) : X.cell? ⟨b, 0, none⟩ = some v := by rw [cell_of_row _ _ _ _ _ _ h]; rfl
theorem R1.f {X : World} {b : Nat} {v : Value} {t : TypeId} (h : R1 X b v t) : X.frozen? ⟨b, 0, none⟩ = false := by unfold R1 at h; simp [World.frozen?, h]
theorem R1.lt {X : World} {b : Nat} {v : Value} {t : TypeId} (h : R1 X b v t) : b < X.heap.size := (Array.getElem?_eq_some_iff.1 h).1
theorem R1.set {X : World} {b : Nat} {v : Value} {t : TypeId} (h : R1 X b v t) (u : Value) : R1 (X.setCell ⟨b, 0, none⟩ u) b u t := by
  unfold R1 at h ⊢
  simp [World.setCell, Array.getElem?_modify, h]
theorem R1.far {X : World} {b c : Nat} {v : Value} {t : TypeId} (h : R1 X b v t) (hne : b ≠ c) (u : Value) : R1 (X.setCell ⟨c, 0, none⟩ u) b v t := (Below.heap_setCell _ _ _ _ hne).trans h
theorem R1.turn {X : World} {b l : Nat} {v : Value} {t : TypeId} {o : Obj} (h : R1 X b v t) (o' : Obj) (hl : X.heap[l]? = some o) (hc : o.isCells = false) : R1 (X.putObj l o') b v t :=
  (World.putObj_heap_other (fun e => by subst e; unfold R1 at h; rw [h] at hl; cases hl; cases hc)).trans h
theorem R1.kn {X Y : World} {b : Nat} {v : Value} {t : TypeId} (h : R1 X b v t) (k : KeepN X Y) (ht : t = 101 ∨ t = 109 ∨ ET t) : R1 Y b v t := k.2 _ _ _ _ h ht

/-- The scan's function value in memory: the root, the bounds. -/
structure ScAt (V : World) (b4 b5 b7 : Nat) (ord : Nat) (ps : List Pr) (lo hi : ByteArray) : Prop where
  r4 : R1 V b4 (.string lo) 9
  r5 : R1 V b5 (.string hi) 9
  r7 : ∃ v d m, R1 V b7 v 80 ∧ NodeAt ord V d v ps m ∧ m ≤ 1000
  rise : Rises (keys ps)
  o : ord ≤ 64
theorem ScAt.kn {V X : World} {b4 b5 b7 ord : Nat} {ps : List Pr} {lo hi : ByteArray} (h : ScAt V b4 b5 b7 ord ps lo hi) (k : KeepN V X) : ScAt X b4 b5 b7 ord ps lo hi := by
  obtain ⟨v, d, m, q1, q2, q3⟩ := h.r7
  exact ⟨h.r4.kn k (.inr (.inr (.inl rfl))), h.r5.kn k (.inr (.inr (.inl rfl))), ⟨v, d, m, q1.kn k (.inr (.inr (.inr (.inr (.inl rfl))))), q2.kn k, q3⟩, h.rise, h.o⟩

set_option maxHeartbeats 8000000 in
theorem wscanT {w : World} {T ord : Nat} {ps : List Pr} (h : TreeAt w T ord ps) (lo hi : ByteArray) :
    Calls Try.prog 14 #[.pointer (some ⟨T, 0, none⟩), .string lo, .string hi] w fun e w' => ∃ b4 b5 b7, e = .returned (.func (.func 38) #[] #[.pointer (some ⟨b7, 0, none⟩), .pointer (some ⟨b4, 0, none⟩), .pointer (some ⟨b5, 0, none⟩)]) ∧ ScAt w' b4 b5 b7 ord ps lo hi ∧ Gw w w' := by
  obtain ⟨W2, hW2⟩ : ∃ W2, (w.alloc (.cells #[.string lo] 9)).alloc (.cells #[.string hi] 9) = W2 := ⟨_, rfl⟩
  have g2 : Gw w W2 := by rw [← hW2]; exact ((Gw.refl _).alloc _).alloc _
  have q4 : R1 W2 w.heap.size (.string lo) 9 := by rw [← hW2]; exact heap_alloc2_old _ _ _
  have q5 : R1 W2 (w.heap.size + 1) (.string hi) 9 := by rw [← hW2]; exact heap_alloc2_new _ _ _
  have HT := Lib.hid (h.below g2)
  have CM := Lib.hid (wmade HT.out)
  have hrise := h.rises
  obtain ⟨v, d, m, h1, h2, hr, hm, h2m, ho, ho2⟩ := HT.out
  have c1 := h1.c1
  obtain ⟨tt, gg, hv⟩ := h2.form
  have hml : m ≤ 1000 := by unfold most at hm; split at hm <;> omega
  have s2 : W2.heap.size = w.heap.size + 2 := by rw [← hW2]; simp
  have FIN := Lib.hid (show ∀ X, W2.alloc (.cells #[v] 80) = X → ScAt X w.heap.size (w.heap.size + 1) (w.heap.size + 2) ord ps lo hi ∧ Gw w X from fun X hX => by
    have gx : Gw W2 X := by rw [← hX]; exact (Gw.refl _).alloc _
    refine ⟨⟨q4.gw gx, q5.gw gx, ⟨v, d, m, ?_, h2.gw gx, hml⟩, hrise, ho2⟩, g2.trans gx⟩
    rw [← hX, ← s2]; exact heap_alloc_new _ _)
  subst hv
  clear h1 h2 hr hm h2m ho ho2 q4 q5 g2 h hml hrise
  go_enter Try.func14, Try.ntmps14
  go_wp2_with (go_at_call 36; refine CM.out.mono ?_; rintro e w1 ⟨rfl, hw⟩; replace hw := hw.symm; subst hw; clear CM)
  go_ret
  exact ⟨_, _, _, rfl, FIN.out _ rfl⟩

set_option maxHeartbeats 8000000 in
theorem hands_scan (n b4 b5 b7 ord : Nat) (ps : List Pr) (lo hi : ByteArray) (V : World) (h : ScAt V b4 b5 b7 ord ps lo hi) :
    Hands Fence.wide n Try.prog 38 #[.pointer (some ⟨b7, 0, none⟩), .pointer (some ⟨b4, 0, none⟩), .pointer (some ⟨b5, 0, none⟩)] encP (fun pre x _ => pre ++ [x] <+: scanP ps lo hi) KeepN (fun xs => xs = scanP ps lo hi) (fun pre => pre <+: scanP ps lo hi ∧ pre ≠ []) V := by
  intro l J Jx W hW hJ hJx hY h0
  have hS := h.kn (Gw.keepN (show Gw V W from hW))
  obtain ⟨v, d, m, q1, q2, q3⟩ := hS.r7
  have c7 := q1.c
  have c4 := hS.r4.c
  have c5 := hS.r5.c
  have YY : YP l J Jx (scanP ps lo hi) := fun m pre x A hj hp => YieldAt.anyDepthW m (YieldAt.mono (hY pre x A hj hp) fun e B hb => by
    rcases hb with ⟨he, h1, h2⟩ | ⟨he, h1⟩
    · exact ⟨true, he, .inl ⟨rfl, h1, h2⟩⟩
    · exact ⟨false, he, .inr ⟨rfl, h1⟩⟩)
  have CS := Lib.hid (callsIn_wide.1 (wscanR hJ YY lo hi hS.o d v ps m 0 [] W q2 q3 hS.rise h0 (by simp)))
  obtain ⟨tt, gg, hv⟩ := q2.form
  subst hv
  clear YY hY h0 hS q1 q2 q3 hJ hJx hW h
  refine callsIn_wide.2 ?_
  simp only [List.append_toArray, List.cons_append, List.nil_append]
  go_enter Try.func38, Try.ntmps38
  go_wp2_with (go_at_call 39; refine CS.out.mono ?_; rintro e B ⟨b, rfl, hb⟩; have HB := Lib.hid hb; clear hb CS)
  go_end0
  rcases HB.out with ⟨rfl, hj, -⟩ | ⟨rfl, q, hp, hq, hx⟩
  · exact ⟨⟨_, rfl⟩, .inl ⟨_, rfl, by simpa using hj⟩⟩
  · exact ⟨⟨_, rfl⟩, .inr ⟨q, ⟨by simpa using hp, hq⟩, by simpa using hx⟩⟩
end Go.Proofs.Ytlhpoliiojekeaa

/- goes: a scan tells just these pairs, as far as it is asked. -/
namespace Go.Proofs.Ytlhpoliiojekeaa
set_option maxRecDepth 100000
open Go.RowKit Go.Shelf

attribute [local go_sem] Oper.semAt_some

/-- What stands throughout. -/
structure GS (w : World) (s p11 p12 : Nat) (most : Int) (bv : Bool) (Bw : Option Addr) (nw cw : Nat) (S : List Pr) (k : Nat) (X : World) : Prop where
  r9 : R1 X s (.int .i64 most) 3
  r10 : R1 X (s + 1) (.bool bv) 4
  r11 : R1 X p11 (.slice Bw nw cw) 25
  r12 : R1 X p12 (.int .i64 (k : Nat)) 3
  pb : PB X Bw nw S
  gw : Gw w X
section
variable {w X Y : World} {s p11 p12 : Nat} {most : Int} {bv : Bool} {Bw : Option Addr} {nw cw : Nat} {S : List Pr} {k : Nat}
theorem GS.gwE (h : GS w s p11 p12 most bv Bw nw cw S k X) (g : Gw X Y) : GS w s p11 p12 most bv Bw nw cw S k Y := ⟨h.r9.gw g, h.r10.gw g, h.r11.gw g, h.r12.gw g, h.pb.gw g, h.gw.trans g⟩
theorem GS.turn (h : GS w s p11 p12 most bv Bw nw cw S k X) {l : Nat} {o : Obj} (o' : Obj) (hw : w.heap.size ≤ l) (hl : X.heap[l]? = some o) (hc : o.isCells = false) : GS w s p11 p12 most bv Bw nw cw S k (X.putObj l o') :=
  ⟨h.r9.turn o' hl hc, h.r10.turn o' hl hc, h.r11.turn o' hl hc, h.r12.turn o' hl hc, ⟨h.pb.1, (KeepN.turn X l o o' hl hc).vb h.pb.2⟩, below_turn (o := o) (b := 0) h.gw (Nat.le_refl _) hw o'⟩
theorem R1.fo {b : Nat} {v : Value} {t : TypeId} (h : R1 X b v t) (h1 : t ≠ 101) (h2 : t ≠ 109) (h3 : ¬ ET t) : Fo X b := ⟨_, _, _, h, h1, h2, h3⟩
/-- The number of pairs is stored. -/
theorem GS.step (h : GS w s p11 p12 most bv Bw nw cw S k X) (hs : w.heap.size ≤ p12) (hd : p12 ≠ s ∧ p12 ≠ s + 1 ∧ p12 ≠ p11) (k' : Nat) : GS w s p11 p12 most bv Bw nw cw S k' (X.setCell ⟨p12, 0, none⟩ (.int .i64 (k' : Nat))) ∧ KeepN X (X.setCell ⟨p12, 0, none⟩ (.int .i64 (k' : Nat))) := by
  have fo := h.r12.fo (by decide) (by decide) (by decide)
  have xs : Xt p12 X (X.setCell ⟨p12, 0, none⟩ (.int .i64 (k' : Nat))) := Xt.set (Gw.refl _) 0 _
  exact ⟨⟨h.r9.far hd.1.symm _, h.r10.far hd.2.1.symm _, h.r11.far hd.2.2.symm _, h.r12.set _, xs.pb fo h.pb, Xt.below h.gw xs hs⟩, xs.keepN fo⟩
theorem GS.ans (h : GS w s p11 p12 most bv Bw nw cw S k X) (hs : w.heap.size ≤ s) (hd : p12 ≠ s + 1 ∧ p11 ≠ s + 1) (b : Bool) : GS w s p11 p12 most b Bw nw cw S k (X.setCell ⟨s + 1, 0, none⟩ (.bool b)) := by
  have fo := h.r10.fo (by decide) (by decide) (by decide)
  have xs : Xt (s + 1) X (X.setCell ⟨s + 1, 0, none⟩ (.bool b)) := Xt.set (Gw.refl _) 0 _
  exact ⟨h.r9.far (by omega) _, h.r10.set _, h.r11.far hd.2 _, h.r12.far hd.1 _, xs.pb fo h.pb, Xt.below h.gw xs (by omega)⟩
end

set_option maxHeartbeats 16000000 in
theorem wgoes {w : World} {T ord m d : Nat} {B : Option Addr} {ps : List Pr} (hT : TreeAt w T ord ps) (hP : PB w B m ps) (hl : ps.length ≤ 1048576) (lo hi : ByteArray) (most : Int) (hmost : -9223372036854775808 ≤ most ∧ most ≤ 9223372036854775807) :
    Calls Try.prog 31 #[.pointer (some ⟨T, 0, none⟩), .slice B m d, .string lo, .string hi, .int .i64 most] w fun e w' => e = .returned (.bool true) ∧ Gw w w' := by
  refine (callsIn_wide (n := 10)).1 ?_
  refine callsIn_of_wp_marks Try.func31 rfl trivial ?_ rfl
  simp only [Try.ntmps31, List.size_toArray, List.length_cons, List.length_nil, Nat.reduceAdd, Nat.reduceSub, Array.replicate_succ, Array.replicate_zero, List.push_toArray, List.append_toArray, List.nil_append, List.cons_append]
  obtain ⟨W0, hW0⟩ : ∃ W0, (w.alloc (.cells #[.int .i64 most] 3)).alloc (.cells #[.bool false] 4) = W0 := ⟨_, rfl⟩
  have G0 := Lib.hid (show Gw w W0 by rw [← hW0]; exact ((Gw.refl _).alloc _).alloc _)
  have Q9 := Lib.hid (show R1 W0 w.heap.size (.int .i64 most) 3 by rw [← hW0]; exact heap_alloc2_old _ _ _)
  have Q10 := Lib.hid (show R1 W0 (w.heap.size + 1) (.bool false) 4 by rw [← hW0]; exact heap_alloc2_new _ _ _)
  have HT := Lib.hid (hT.below G0.out)
  have HPL := Lib.hid hl
  have HML := Lib.hid hP.1
  have CR := Lib.hid (wrefScan (c := d) (hP.gw G0.out) (by have := hP.1; omega) lo hi)
  have CT := Lib.hid fun X (hX : Gw W0 X) => wscanT (HT.out.below hX) lo hi
  clear hT hP hl
  gi_wp2_with (refine ⟨trivial, ?_⟩; first
    | (gi_at_call 15; go_loud (refine (callsIn_wide.2 CR.out).mono ?_; rintro e w1 ⟨v1, rfl, o1, g1⟩; obtain ⟨Bw, cw, rfl, p1, -, -⟩ := o1.form; have G1 := Lib.hid g1; have P1 := Lib.hid p1; clear o1 p1 g1 CR))
    | (gi_at_call 14; go_loud (refine (callsIn_wide.2 (CT.out _ (((G1.out).alloc _).alloc _))).mono ?_; rintro e w2 ⟨b4, b5, b7, rfl, sc, g2⟩; have SC := Lib.hid sc; have G2 := Lib.hid g2; clear sc g2 CT)))
  have hsz0 : W0.heap.size = w.heap.size + 2 := by rw [← hW0]; simp
  have hsz1 := Below.size G1.out
  have hSl : (scanP ps lo hi).length ≤ 1048576 := Nat.le_trans (scanP_len ps lo hi) HPL.out
  have HSC := Lib.hid (hands_scan 9 b4 b5 b7 ord ps lo hi w2 SC.out)
  obtain ⟨S, hS⟩ : ∃ S, scanP ps lo hi = S := ⟨_, rfl⟩
  rw [hS] at HSC P1 hSl ⊢
  obtain ⟨nS, hnS⟩ : ∃ nS, S.length = nS := ⟨_, rfl⟩
  have GQ := Lib.hid (show ∀ X, (w1.alloc (.cells #[.slice Bw nS cw] 25)).alloc (.cells #[.int .i64 0] 3) = X → Gw X w2 → GS w w.heap.size w1.heap.size (w1.heap.size + 1) most false Bw nS cw S 0 w2 from fun X hX hg => by
    have g1x : Gw w1 X := by rw [← hX]; exact ((Gw.refl _).alloc _).alloc _
    have g1 := g1x.trans hg
    have g0 := G1.out.trans g1
    refine ⟨Q9.out.gw g0, Q10.out.gw g0, R1.gw (X := X) ?_ hg, R1.gw (X := X) ?_ hg, by rw [← hnS]; exact P1.out.gw g1, G0.out.trans g0⟩
    · rw [← hX]; exact heap_alloc2_old _ _ _
    · rw [← hX]; exact heap_alloc2_new _ _ _)
  have GS0 := Lib.hid (GQ.out _ rfl (by rw [hS, hnS] at G2; exact G2.out))
  have hw2 : w1.heap.size + 1 < w2.heap.size := GS0.out.r12.lt
  obtain ⟨p12, hp12⟩ : ∃ p, w1.heap.size + 1 = p := ⟨_, rfl⟩
  rw [hp12] at GS0 hw2 ⊢
  obtain ⟨p11, hp11⟩ : ∃ p, w1.heap.size = p := ⟨_, rfl⟩
  rw [hp11] at GS0 ⊢
  obtain ⟨s, hs⟩ : ∃ s, w.heap.size = s := ⟨_, rfl⟩
  have hww2 : w.heap.size ≤ w2.heap.size := Below.size GS0.out.gw
  rw [hs] at GS0 ⊢
  have HD := Lib.hid (show p12 ≠ s ∧ p12 ≠ s + 1 ∧ p12 ≠ p11 ∧ p11 ≠ s + 1 ∧ w.heap.size ≤ p12 ∧ w.heap.size ≤ s ∧ s + 1 < w2.heap.size ∧ w.heap.size ≤ w2.heap.size by omega)
  rw [hnS] at hSl ⊢
  have HNS := Lib.hid hnS
  have HSL := Lib.hid hSl
  clear hsz0 hsz1 hS hnS GQ hp12 hp11 hs hw2 hww2 hW0 Q9 Q10 G0 G1 G2 P1 SC HT
  refine wp_hands rfl (by decide) (gf := 38) (lb := #[.pointer (some ⟨b7, 0, none⟩), .pointer (some ⟨b4, 0, none⟩), .pointer (some ⟨b5, 0, none⟩)]) rfl trivial (enters_of Try.func38 (by kernel_rfl) rfl)
    HSC.out (fun h k => h.trans k) (fun A l o o' _ ho hc => KeepN.turn A l o o' ho hc) (fun _ => rfl)
    (fun pre X => GS w s p11 p12 most false Bw nS cw S pre.length X)
    (fun c pre X => c = .ret ∧ GS w s p11 p12 most true Bw nS cw S pre.length X)
    (fun _ A C h hb => GS.gwE h hb) (fun _ A l o o' h hl ho hc => GS.turn h o' (Nat.le_trans HD.out.2.2.2.2.2.2.2 hl) ho hc)
    (fun c _ A C h hb => ⟨h.1, GS.gwE h.2 hb⟩) (fun c _ A l o o' h hl ho hc => ⟨h.1, GS.turn h.2 o' (Nat.le_trans HD.out.2.2.2.2.2.2.2 hl) ho hc⟩)
    (fun _ _ A l o o' h _ _ _ => h) GS0.out
    ?act ?assign ?body ?done ?stop
  case assign =>
    intro l x X K hK
    unfold encP
    gi_wp2
    exact hK
  case body =>
    rintro l pre ⟨k, z⟩ X hX gs hpre
    obtain ⟨j, hj⟩ : ∃ j, pre.length = j := ⟨_, rfl⟩
    have hx : S[j]? = some (k, z) := by
      obtain ⟨t, ht⟩ := hpre
      rw [← ht, ← hj]
      simp
    have hjn : j < nS := by have := (List.getElem?_eq_some_iff.1 hx).1; have := HNS.out; omega
    have hln : (pre ++ [(k, z)]).length = j + 1 := by simp [hj]
    rw [hj] at gs
    obtain ⟨b, o, hB, q0, q1⟩ := gs.pb.num hx
    subst hB
    dsimp only at q0 q1
    have c9 := gs.r9.c
    have c10 := gs.r10.c
    have f10 := gs.r10.f
    have c11 := gs.r11.c
    have c12 := gs.r12.c
    have f12 := gs.r12.f
    have hsl := HSL.out
    have i1 : ¬ (nS : Int) ≤ (j : Int) := by omega
    have i2 : (j : Int) < (nS : Int) := by omega
    have jb : (j : Int) ≤ 1048576 := by omega
    have i3 : IntKind.i64.wrap ((j : Int) + 1) = ((j + 1 : Nat) : Int) := by rw [IntKind.wrap_i64]; omega
    have i4 : wrap64 ((j : Int) + 1) = ((j + 1 : Nat) : Int) := by unfold wrap64; omega
    obtain ⟨st1, st2⟩ := gs.step HD.out.2.2.2.2.1 ⟨HD.out.1, HD.out.2.1, HD.out.2.2.1⟩ (j + 1)
    have ST1 := Lib.hid st1
    have ST2 := Lib.hid st2
    have AN := Lib.hid (st1.ans HD.out.2.2.2.2.2.1 ⟨HD.out.2.1, HD.out.2.2.2.1⟩ true)
    have KO := Lib.hid (KeepsOthers.setCell X ⟨p12, 0, none⟩ (.int .i64 ((j + 1 : Nat) : Int)))
    have d9 := st1.r9.c
    have d10 := st1.r10.c
    have e10 := st1.r10.f
    have d12 := st1.r12.c
    obtain ⟨X1, hX1⟩ : ∃ X1, X.setCell ⟨p12, 0, none⟩ (.int .i64 ((j + 1 : Nat) : Int)) = X1 := ⟨_, rfl⟩
    rw [hX1] at ST1 ST2 AN KO d9 d10 e10 d12
    obtain ⟨j1, hj1⟩ : ∃ j1, j + 1 = j1 := ⟨_, rfl⟩
    rw [hj1] at ST1 AN d12 i3 i4 hX1 hln
    have HLN := Lib.hid hln
    clear gs hx hjn hln hj hX hpre hsl st1 st2 c10 f10 hj1
    by_cases hm : (j1 : Int) = most
    · subst hm
      gi_wp2
      refine ⟨KO.out.trans (KeepsOthers.setCell _ _ _), rfl, ?_⟩
      show GS w s p11 p12 _ true _ nS cw S (pre ++ [(k, z)]).length _
      rw [HLN.out]
      exact AN.out
    · have hm2 : ((j1 : Int) == most) = false := by simpa using hm
      gi_wp2
      refine ⟨KO.out, ST2.out, ?_⟩
      show GS w s p11 p12 most false _ nS cw S (pre ++ [(k, z)]).length _
      rw [HLN.out]
      exact ST1.out
  case done =>
    rintro D xs X hD rfl gs hK
    rw [HNS.out] at gs
    have c10 := gs.r10.c
    have f10 := gs.r10.f
    have c11 := gs.r11.c
    have c12 := gs.r12.c
    have AN := Lib.hid (gs.ans HD.out.2.2.2.2.2.1 ⟨HD.out.2.1, HD.out.2.2.2.1⟩ true)
    have HKK := Lib.hid hK
    clear gs hK
    gi_wp2
    refine leaves_marks (fun Y => Gw w Y ∧ R1 Y (s + 1) (.bool true) 4) w2.heap.size (fun Y D h hD ho => ⟨below_turn (o := .deferred (some [])) (b := 0) h.1 (Nat.le_refl _) (by have := HD.out.2.2.2.2.2.2.2; omega) _, h.2.turn _ ho rfl⟩) (fun Y h => ?_) [D] _ (by simp)
      (fun E hE => ?_) ⟨AN.out.gw, AN.out.r10⟩
    · have hc5 := h.2.c
      exact ⟨.bool true, by simp [results, Try.f31, go_sem, hc5], rfl, h.1⟩
    · simp only [List.mem_cons, List.not_mem_nil, or_false] at hE
      subst hE
      exact ⟨hD, (Below.heap_setCell _ _ _ _ (by show E ≠ s + 1; have := HD.out.2.2.2.2.2.2.1; omega)).trans HKK.out⟩
  case stop =>
    rintro D c pre X hD - ⟨rfl, gs⟩ hK
    have c10 := gs.r10.c
    have HG := Lib.hid gs
    have HKK := Lib.hid hK
    clear gs hK
    gi_wp2
    refine leaves_marks (fun Y => Gw w Y ∧ R1 Y (s + 1) (.bool true) 4) w2.heap.size (fun Y D h hD ho => ⟨below_turn (o := .deferred (some [])) (b := 0) h.1 (Nat.le_refl _) (by have := HD.out.2.2.2.2.2.2.2; omega) _, h.2.turn _ ho rfl⟩) (fun Y h => ?_) [D] _ (by simp)
      (fun E hE => ?_) ⟨HG.out.gw, HG.out.r10⟩
    · have hc5 := h.2.c
      exact ⟨.bool true, by simp [results, Try.f31, go_sem, hc5], rfl, h.1⟩
    · simp only [List.mem_cons, List.not_mem_nil, or_false] at hE
      subst hE
      exact ⟨hD, HKK.out⟩
end Go.Proofs.Ytlhpoliiojekeaa
