import Derived.Test.YtnpeankmmojebaaGreatDoorJAH
import Derived.Test.YtnpeankmmojebaaGreatDoorProg
import Derived.Shelf.SlGeneric
import Derived.Shelf.SlSortCmp.WholeK
import Derived.Shelf.SlSortCmp.NoneTotal
import Derived.Ground.SlsfProg
/- Layer 11: slices.AppendSeq, Collect and Sorted over slices.Values. -/
set_option linter.unusedVariables false
namespace Go.Proofs.YtnpeankmmojebaaGreatDoor
set_option maxRecDepth 100000
set_option maxRecDepth 100000
open Go.RowKit Go.Shelf

attribute [local go_sem] Oper.semAt_some

theorem Cel.blockE {W W' : World} {b : Nat} {v : Value} (h : Cel W b v) (e : W'.heap[b]? = W.heap[b]?) : Cel W' b v :=
  ⟨(World.cell?_of_block (w := W) (a := ⟨b, 0, none⟩) e).trans h.1, (World.frozen?_of_block (w := W) (a := ⟨b, 0, none⟩) e).trans h.2⟩
theorem SO.turnE {E : SEl} {base n : Nat} {W : World} {v : Value} {vs : List Value} (h : SO E base W v n vs) {l : Nat} {o : Obj} (o' : Obj) (hl : W.heap[l]? = some o) (hc : o.isCells = false) : SO E base (W.putObj l o') v n vs := by
  refine ⟨own_stays h.own fun k hk => ?_, h.len, h.one⟩
  rcases h.own.2 with ⟨rfl, -⟩ | ⟨g, cap, cur, rfl, hg, hh, -⟩
  · cases hk
  · have : g = k := by simpa [Value.ownBlock] using hk
    subst this
    exact World.putObj_heap_other (fun e => by subst e; rw [hh] at hl; injection hl with hl; subst hl; cases hc)
theorem SO.cellsE {E : SEl} {base n : Nat} {W : World} {v : Value} {vs : List Value} (h : SO E base W v n vs) {k : Nat} (hk : v.ownBlock = some k) : base ≤ k ∧ ∃ cur fr, W.heap[k]? = some (.cells cur E.e fr) := by
  rcases h.own.2 with ⟨rfl, -⟩ | ⟨g, cap, cur, rfl, hg, hh, -⟩
  · cases hk
  · have : g = k := by simpa [Value.ownBlock] using hk
    subst this
    exact ⟨hg, cur, _, hh⟩
theorem form_of_own {w : World} {base n : Nat} {v : Value} {vs : List Value} (h : w.ownsRow base 3 1 v n vs) (hn : 0 < n) : ∃ g c, v = .slice (some ⟨g, 0, none⟩) n c := by
  rcases h.2 with ⟨-, h0⟩ | ⟨g, cap, cur, rfl, -⟩
  · exact absurd h0 (by omega)
  · exact ⟨g, cap, rfl⟩
/-- The marks of loops that are over lead to no call. -/
def markE (D : Nat) : Deferred := { target := .collected D, args := #[] }
theorem leaves_marksE {F : Fence} {n : Nat} {P : Program} {fn : Func} {tmps : Array Value} {R : Ending → World → Prop} (T : World → Prop) (s : Nat)
    (hT : ∀ W D, T W → s ≤ D → W.heap[D]? = some (.deferred (some [])) → T (W.putObj D (.deferred none))) (hR : ∀ W, T W → LeavesInM F n P fn tmps R [] .returning W) :
    ∀ (Ds : List Nat) (W : World), Ds.Nodup → (∀ D, D ∈ Ds → s ≤ D ∧ W.heap[D]? = some (.deferred (some []))) → T W → LeavesInM F n P fn tmps R (Ds.map markE) .returning W := by
  intro Ds
  induction Ds with
  | nil => exact fun W _ _ h => hR W h
  | cons D Ds ih =>
    intro W hn hd ht
    obtain ⟨h1, h2⟩ := List.nodup_cons.1 hn
    obtain ⟨hs, hD⟩ := hd D (List.mem_cons_self ..)
    refine ⟨by simp, .inl ⟨D, _, rfl, run_takeDeferred hD, ih _ h2 (fun E hE => ⟨(hd E (List.mem_cons_of_mem _ hE)).1, ?_⟩) (hT _ _ ht hs hD)⟩⟩
    rw [World.putObj_heap_other (fun e => h1 (by rw [← e]; exact hE))]
    exact (hd E (List.mem_cons_of_mem _ hE)).2
theorem Cel.cellsE {W : World} {b : Nat} {v : Value} (h : Cel W b v) {o : Obj} (ho : W.heap[b]? = some o) : o.isCells = true := by
  have h1 := h.1
  unfold World.cell? at h1
  simp only [ho] at h1
  cases o <;> simp at h1 ⊢ <;> rfl
/-- Between two rounds: what has come lies in a list of the call's own, which the box holds. -/
def AsI (w : World) (Bs : Nat) (pre : List Int) (X : World) : Prop := ∃ v, Cel X Bs v ∧ SO seI (Bs + 1) X v pre.length (numC pre) ∧ Below w.heap.size w X
set_option maxHeartbeats 16000000 in
theorem wsAppendSeq {w : World} {bv N0 : Nat} {A : Option Addr} {n c : Nat} {cs : List Int} (hc : w.cell? ⟨bv, 0, none⟩ = some (.slice A n c)) (hs : SB w A n (numC cs)) (hl : cs.length = n) (hn : n ≤ 4096) (hb : bv < N0) (hA : ∀ ad, A = some ad → 0 < n → ad.block < N0) (hN : N0 ≤ w.heap.size) :
    Calls Tryz.prog 74 #[.slice none 0 0, .func (.func 67) #[] #[.pointer (some ⟨bv, 0, none⟩)]] w fun e w' => ∃ v, e = .returned v ∧ SO seI w.heap.size w' v n (numC cs) ∧ Below w.heap.size w w' := by
  refine (callsIn_wide (n := 10)).1 ?_
  refine callsIn_of_wp_marks Tryz.func74 rfl trivial ?_ rfl
  simp only [Tryz.ntmps74, List.size_toArray, List.length_cons, List.length_nil, Nat.reduceAdd, Nat.reduceSub, Array.replicate_succ, Array.replicate_zero, List.push_toArray, List.append_toArray, List.nil_append, List.cons_append]
  obtain ⟨W1, hW1⟩ : ∃ W, w.alloc (.cells #[.slice none 0 0] 22) = W := ⟨_, rfl⟩
  have b1 : Below w.heap.size w W1 := hW1 ▸ alloc_below11 w _
  have s1 : W1.heap.size = w.heap.size + 1 := by have := congrArg (fun W => W.heap.size) hW1; simpa using this.symm
  have HI0 := Lib.hid (show AsI w w.heap.size [] W1 from ⟨_, hW1 ▸ Cel.new w _ _, SO.nil _ _ _, b1⟩)
  have HSC := Lib.hid (hands_values 9 N0 bv A n c cs W1 (keep_below hc b1) (hs.gw b1) hl hn hb hA (by omega))
  have HL := Lib.hid hl
  have HN := Lib.hid hn
  have HN0 := Lib.hid hN
  have S1 := Lib.hid s1
  have HW1 := Lib.hid hW1
  clear hc hs hl hn hb hA hN b1 s1 hW1
  gi_wp2
  rw [HW1.out]
  refine wp_hands rfl (by decide) (gf := 67) (lb := #[.pointer (some ⟨bv, 0, none⟩)]) rfl trivial (enters_of Tryz.func67 (by kernel_rfl) rfl)
    HSC.out (fun h k => h.trans k) (fun X l o o' hl ho hc => fun k hk => World.putObj_heap_other (by have := S1.out; have := HN0.out; omega)) (fun _ => rfl)
    (fun pre X => AsI w w.heap.size pre X)
    (fun c pre X => False)
    (fun pre X Y h hb => by obtain ⟨v, k1, k2, k3⟩ := h; exact ⟨v, k1.below hb, k2.below hb, below_next k3 hb⟩)
    (fun pre X l o o' h hl ho hc => by obtain ⟨v, k1, k2, k3⟩ := h; exact ⟨v, k1.turn o' ho hc, k2.turnE o' ho hc, below_turn (o := o) (b := 0) k3 (Nat.le_refl _) (by have := S1.out; omega) o'⟩)
    (fun c _ X Y h hb => h) (fun c _ X l o o' h hl ho hc => h)
    (fun _ _ X l o o' h _ _ _ => h) HI0.out
    ?act ?assign ?body ?done ?stop
  case assign =>
    intro l x X K hK
    unfold encI11
    gi_wp2
    exact hK
  case body =>
    rintro l pre x X hX ⟨v, k1, k2, k3⟩ hpre
    obtain ⟨i0, hi, hz0, hz1, hz2⟩ := info_parts seI_ok.info
    have c0 := k1.1
    have hBlt := k1.lt
    have hrow := fun k hk => k2.cellsE (k := k) hk
    have K3 := Lib.hid k3
    have hlen : pre.length + 1 ≤ 4096 := by have := HN.out; omega
    have HRW := Lib.hid hrow
    have K1 := Lib.hid k1
    have HB := Lib.hid hBlt
    have hown := k2.own
    have HS1 := Lib.hid (Below.size k3)
    clear hX k1 k2 k3 hrow hBlt hpre
    gi_wp2_with (gi_at_builtin; refine wpListIn_append_own _ rfl _ _ 22 rfl (w.heap.size + 1) 3 i0 (.int .i64 0) 1 8 seI_ok.und hi hz0 hz1 hz2 rfl (by decide) _ _ _ rfl (hown.alloc _) ⟨X.heap.size, 0, none⟩ 1 1 [.int .i64 x] rfl rfl (cell_one_new _ _ _) (by simp [Value.oneCell']) (by simp only [maxLen]; omega) (by omega) (by have := HS1.out; have := HB.out; simp; omega) ?_; intro v' w3 hown' hg3 hnil3; have CB := Lib.hid (show Cel w3 w.heap.size v from (K1.out.alloc (.cells #[.int .i64 x] 3)).blockE (hg3.block _ (by have := HB.out; simp; omega) (fun e => by have := (HRW.out _ e.symm).1; omega))); have c3 := CB.out.1; have f3 := CB.out.2; have HG3 := Lib.hid (show (X.alloc (.cells #[.int .i64 x] 3)).grownBy w3 v.ownBlock from hg3); have hform := form_of_own hown' (Nat.succ_pos _); obtain ⟨g3, cap3, rfl⟩ := hform; have HO := Lib.hid hown'; clear hown' hg3 hnil3)
    have q : Out (fun k => v.ownBlock = some k) X w3 := (Out.of_below (alloc_below11 X _) _).then ((Out.refl _ _).grown HG3.out fun k e => .inl e)
    have q2 : Out (fun k => v.ownBlock = some k ∨ k = w.heap.size) X (w3.setCell ⟨w.heap.size, 0, none⟩ (.slice (some ⟨g3, 0, none⟩) (pre.length + 1) cap3)) := (q.mono fun i _ e => .inl e).setCell (p := ⟨w.heap.size, 0, none⟩) (.inl (.inr rfl)) _
    have hg3 : w.heap.size + 1 ≤ g3 := (HO.out.lt g3 rfl).1
    refine ⟨⟨q2.size, fun k o hk hc => ?_⟩, fun k hk => ?_, .slice (some ⟨g3, 0, none⟩) (pre.length + 1) cap3, CB.out.set_same _, ?_, ?_⟩
    · refine (q2.block k (Array.getElem?_eq_some_iff.1 hk).1 fun e => ?_).trans hk
      rcases e with e | e
      · obtain ⟨-, cur, fr, e2⟩ := HRW.out k e
        rw [e2] at hk
        injection hk with hk
        subst hk
        cases hc
      · subst e
        rw [K1.out.cellsE hk] at hc
        cases hc
    · refine q2.block k (by have := HN0.out; have := HS1.out; omega) fun e => ?_
      rcases e with e | e
      · have := (HRW.out k e).1
        have := HN0.out
        omega
      · have := HN0.out
        omega
    · have hl : (pre ++ [x]).length = pre.length + 1 := by simp
      rw [hl]
      refine ⟨own_stays (xs := numC (pre ++ [x])) (by rw [show numC (pre ++ [x]) = numC pre ++ [.int .i64 x] by simp [numC]]; exact HO.out) fun k hk => ?_, by rw [numC_len, hl]; show _ = 1 * _; omega, numC_one _⟩
      have : g3 = k := by simpa [Value.ownBlock] using hk
      exact Below.heap_setCell _ _ _ _ (by show k ≠ w.heap.size; omega)
    · exact K3.out.trans (q2.below HS1.out fun i hi e => by
        rcases e with e | e
        · have := (HRW.out i e).1; omega
        · omega)
  case done =>
    rintro D xs X hD rfl ⟨v, k1, k2, k3⟩ hK
    have c0 := k1.1
    have f0 := k1.2
    have K2 := Lib.hid k2
    have K3 := Lib.hid k3
    have HK := Lib.hid hK
    clear k1 k2 k3 hK
    gi_wp2
    refine leaves_marksE (fun Y => SO seI (w.heap.size + 1) Y v xs.length (numC xs) ∧ Below w.heap.size w Y) W1.heap.size (fun Y D h hD ho => ⟨h.1.turnE _ ho rfl, below_turn (o := .deferred (some [])) (b := 0) h.2 (Nat.le_refl _) (by have := S1.out; omega) _⟩) (fun Y h => ?_) [D] _ (by simp) (fun E hE => ?_) ⟨K2.out, K3.out⟩
    · exact ⟨v, by simp [results, Tryz.f74, go_sem], v, rfl, h.1.base (Nat.le_succ _) rfl HL.out, h.2⟩
    · rw [List.mem_singleton.1 hE]
      exact ⟨hD, HK.out⟩
  case stop =>
    rintro D c pre X hD - hx hK
    exact hx.elim
set_option maxHeartbeats 4000000 in
/-- slices.Sorted(slices.Values(l)). -/
theorem wsSorted {w : World} {bv N0 : Nat} {A : Option Addr} {n c : Nat} {cs : List Int} (hc : w.cell? ⟨bv, 0, none⟩ = some (.slice A n c)) (hs : SB w A n (numC cs)) (hl : cs.length = n) (hn : n ≤ 4096) (hb : bv < N0) (hA : ∀ ad, A = some ad → 0 < n → ad.block < N0) (hN : N0 ≤ w.heap.size) :
    Calls Tryz.prog 45 #[.func (.func 67) #[] #[.pointer (some ⟨bv, 0, none⟩)]] w fun e w' => ∃ v, e = .returned v ∧ SO seI w.heap.size w' v n (numC (cs.mergeSort fun x y => decide (x ≤ y))) ∧ Below w.heap.size w w' := by
  have CA := Lib.hid (wsAppendSeq hc hs hl hn hb hA hN)
  have HL := Lib.hid hl
  have HN := Lib.hid hn
  have CC := Lib.hid (show Calls Tryz.prog 65 #[.func (.func 67) #[] #[.pointer (some ⟨bv, 0, none⟩)]] w fun e w' => ∃ v, e = .returned v ∧ SO seI w.heap.size w' v n (numC cs) ∧ Below w.heap.size w w' by
    clear hc hs hl hn hb hA hN
    go_enter Tryz.func65, Tryz.ntmps65
    go_wp2_with (go_at_call 74; go_loud (refine CA.out.mono ?_; rintro e w2 ⟨v2, rfl, s2, b2⟩; have S2 := Lib.hid s2; have B2 := Lib.hid b2; clear s2 b2))
    go_ret
    exact ⟨_, rfl, S2.out, B2.out⟩)
  clear hc hs hl hn hb hA hN CA
  go_enter Tryz.func45, Tryz.ntmps45
  go_wp2_with (first
    | (go_at_call 65; go_loud (refine CC.out.mono ?_; rintro e w2 ⟨v2, rfl, s2, b2⟩; have S2 := s2; rw [← HL.out] at S2; have CS := Lib.hid (wsortI S2 (by rw [HL.out]; have := HN.out; omega)); have B2 := Lib.hid b2; clear s2 b2 S2))
    | (go_at_call 66; go_loud (refine CS.out.mono ?_; rintro e w3 ⟨rfl, s3, b3⟩; have S3 := Lib.hid s3; have B3 := Lib.hid b3; clear s3 b3)))
  go_ret
  exact ⟨_, rfl, S3.out.base (Nat.le_refl _) rfl HL.out, B2.out.trans B3.out⟩
theorem sorted_is {cs : List Int} (h : cs.Nodup) : (cs.mergeSort fun x y => decide (x ≤ y)) = riseP cs := by
  have hs : (cs.mergeSort fun x y => decide (x ≤ y)).Pairwise (· ≤ ·) := by
    have := List.pairwise_mergeSort (le := fun x y : Int => decide (x ≤ y)) (fun a b c h1 h2 => by simp at *; omega) (fun a b => by simp; omega) cs
    exact this.imp fun h => by simpa using h
  have hp := List.mergeSort_perm cs fun x y => decide (x ≤ y)
  have hd : (cs.mergeSort fun x y => decide (x ≤ y)).Nodup := hp.nodup_iff.2 h
  refine rise_unique ?_ fun y => hp.mem_iff
  rw [List.pairwise_iff_getElem] at hs ⊢
  intro i j hi hj hij
  have h1 := hs i j hi hj hij
  have h2 := List.nodup_iff_pairwise_ne.1 hd
  rw [List.pairwise_iff_getElem] at h2
  have h3 := h2 i j hi hj hij
  unfold ltN
  simp only [decide_eq_true_eq]
  omega
end Go.Proofs.YtnpeankmmojebaaGreatDoor

/- Layer 11: slices.SortFunc at dependencies and at acts, laid in plain words (numbers of this seat). -/
namespace Go.Proofs
set_option maxRecDepth 100000
open Go.Shelf
def Tryz.sortD_ren : Go.Shelf.Ren := ⟨fun | 6 => 52 | 15 => 72 | 14 => 71 | 28 => 85 | 29 => 86 | 20 => 77 | 21 => 78 | 22 => 79 | 23 => 80 | 24 => 81 | 25 => 82 | 26 => 83 | 27 => 84 | 46 => 104 | 47 => 105 | 48 => 106 | 49 => 107 | 50 => 108 | 57 => 115 | n => n, fun | 22 => 45 | 24 => 51 | 25 => 98 | 3 => 3 | 39 => 114 | 0 => 0 | 53 => 127 | 55 => 107 | 4 => 4 | 46 => 121 | 45 => 120 | 50 => 92 | 5 => 5 | 9 => 9 | 66 => 139 | 70 => 143 | 76 => 149 | 77 => 150 | n => n, fun | n => n⟩
theorem Tryz.sortD : Go.Proofs.SlLaysF0.n6 Tryz.prog Tryz.sortD_ren := {
  mixed := by kernel_rfl
  f6 := ⟨Tryz.f52.name, by decide, Tryz.func52.trans (congrArg some (by kernel_rfl))⟩
  f14 := ⟨Tryz.f71.name, by decide, Tryz.func71.trans (congrArg some (by kernel_rfl))⟩
  f15 := Tryz.func72.trans (congrArg some (by kernel_rfl))
  f20 := ⟨Tryz.f77.name, by decide, Tryz.func77.trans (congrArg some (by kernel_rfl))⟩
  f21 := ⟨Tryz.f78.name, by decide, Tryz.func78.trans (congrArg some (by kernel_rfl))⟩
  f22 := ⟨Tryz.f79.name, by decide, Tryz.func79.trans (congrArg some (by kernel_rfl))⟩
  f23 := ⟨Tryz.f80.name, by decide, Tryz.func80.trans (congrArg some (by kernel_rfl))⟩
  f24 := ⟨Tryz.f81.name, by decide, Tryz.func81.trans (congrArg some (by kernel_rfl))⟩
  f25 := ⟨Tryz.f82.name, by decide, Tryz.func82.trans (congrArg some (by kernel_rfl))⟩
  f26 := ⟨Tryz.f83.name, by decide, Tryz.func83.trans (congrArg some (by kernel_rfl))⟩
  f27 := ⟨Tryz.f84.name, by decide, Tryz.func84.trans (congrArg some (by kernel_rfl))⟩
  f28 := Tryz.func85.trans (congrArg some (by kernel_rfl))
  f29 := Tryz.func86.trans (congrArg some (by kernel_rfl))
  f46 := ⟨Tryz.f104.name, by decide, Tryz.func104.trans (congrArg some (by kernel_rfl))⟩
  f47 := Tryz.func105.trans (congrArg some (by kernel_rfl))
  f48 := Tryz.func106.trans (congrArg some (by kernel_rfl))
  f49 := ⟨Tryz.f107.name, by decide, Tryz.func107.trans (congrArg some (by kernel_rfl))⟩
  f50 := ⟨Tryz.f108.name, by decide, Tryz.func108.trans (congrArg some (by kernel_rfl))⟩
  f57 := ⟨Tryz.f115.name, by decide, Tryz.func115.trans (congrArg some (by kernel_rfl))⟩
  t0 := Tryz.underlying0
  a0 := Tryz.isAgg0
  z0 := Tryz.sizeOf0
  v0 := Tryz.zeroValue0
  t3 := Tryz.underlying3
  a3 := Tryz.isAgg3
  z3 := Tryz.sizeOf3
  v3 := Tryz.zeroValue3
  t4 := Tryz.underlying4
  a4 := Tryz.isAgg4
  z4 := Tryz.sizeOf4
  v4 := Tryz.zeroValue4
  t5 := Tryz.underlying5
  a5 := Tryz.isAgg5
  z5 := Tryz.sizeOf5
  v5 := Tryz.zeroValue5
  t9 := Tryz.underlying9
  a9 := Tryz.isAgg9
  z9 := Tryz.sizeOf9
  v9 := Tryz.zeroValue9
  t22 := Tryz.underlying45
  a22 := Tryz.isAgg45
  z22 := Tryz.sizeOf45
  v22 := Tryz.zeroValue45
  t25 := Tryz.underlying98
  a25 := Tryz.isAgg98
  z25 := Tryz.sizeOf98
  v25 := Tryz.zeroValue98
  t39 := Tryz.underlying114
  a39 := Tryz.isAgg114
  z39 := Tryz.sizeOf114
  v39 := Tryz.zeroValue114
  t45 := Tryz.underlying120
  a45 := Tryz.isAgg120
  z45 := Tryz.sizeOf120
  v45 := Tryz.zeroValue120
  t46 := Tryz.underlying121
  a46 := Tryz.isAgg121
  z46 := Tryz.sizeOf121
  v46 := Tryz.zeroValue121
  t50 := Tryz.underlying92
  a50 := Tryz.isAgg92
  z50 := Tryz.sizeOf92
  v50 := Tryz.zeroValue92
  t53 := Tryz.underlying127
  a53 := Tryz.isAgg127
  z53 := Tryz.sizeOf127
  v53 := Tryz.zeroValue127
  t55 := Tryz.underlying107
  a55 := Tryz.isAgg107
  z55 := Tryz.sizeOf107
  v55 := Tryz.zeroValue107
  t66 := Tryz.underlying139
  a66 := Tryz.isAgg139
  z66 := Tryz.sizeOf139
  v66 := Tryz.zeroValue139
  t70 := Tryz.underlying143
  a70 := Tryz.isAgg143
  z70 := Tryz.sizeOf143
  v70 := Tryz.zeroValue143
  t76 := Tryz.underlying149
  a76 := Tryz.isAgg149
  z76 := Tryz.sizeOf149
  v76 := Tryz.zeroValue149
  t77 := Tryz.underlying150
  a77 := Tryz.isAgg150
  z77 := Tryz.sizeOf150
  v77 := Tryz.zeroValue150 }
def Tryz.sortAc_ren : Go.Shelf.Ren := ⟨fun | 6 => 69 | 15 => 72 | 14 => 76 | 28 => 85 | 29 => 86 | 20 => 96 | 21 => 97 | 22 => 98 | 23 => 99 | 24 => 100 | 25 => 101 | 26 => 102 | 27 => 103 | 46 => 112 | 47 => 105 | 48 => 106 | 49 => 113 | 50 => 114 | 57 => 117 | n => n, fun | 22 => 23 | 24 => 44 | 25 => 110 | 3 => 3 | 39 => 114 | 0 => 0 | 53 => 127 | 55 => 107 | 4 => 4 | 46 => 121 | 45 => 120 | 50 => 92 | 5 => 5 | 9 => 9 | 66 => 139 | 70 => 143 | 76 => 149 | 77 => 150 | n => n, fun | n => n⟩
theorem Tryz.sortAc : Go.Proofs.SlLaysF0.n6 Tryz.prog Tryz.sortAc_ren := {
  mixed := by kernel_rfl
  f6 := ⟨Tryz.f69.name, by decide, Tryz.func69.trans (congrArg some (by kernel_rfl))⟩
  f14 := ⟨Tryz.f76.name, by decide, Tryz.func76.trans (congrArg some (by kernel_rfl))⟩
  f15 := Tryz.func72.trans (congrArg some (by kernel_rfl))
  f20 := ⟨Tryz.f96.name, by decide, Tryz.func96.trans (congrArg some (by kernel_rfl))⟩
  f21 := ⟨Tryz.f97.name, by decide, Tryz.func97.trans (congrArg some (by kernel_rfl))⟩
  f22 := ⟨Tryz.f98.name, by decide, Tryz.func98.trans (congrArg some (by kernel_rfl))⟩
  f23 := ⟨Tryz.f99.name, by decide, Tryz.func99.trans (congrArg some (by kernel_rfl))⟩
  f24 := ⟨Tryz.f100.name, by decide, Tryz.func100.trans (congrArg some (by kernel_rfl))⟩
  f25 := ⟨Tryz.f101.name, by decide, Tryz.func101.trans (congrArg some (by kernel_rfl))⟩
  f26 := ⟨Tryz.f102.name, by decide, Tryz.func102.trans (congrArg some (by kernel_rfl))⟩
  f27 := ⟨Tryz.f103.name, by decide, Tryz.func103.trans (congrArg some (by kernel_rfl))⟩
  f28 := Tryz.func85.trans (congrArg some (by kernel_rfl))
  f29 := Tryz.func86.trans (congrArg some (by kernel_rfl))
  f46 := ⟨Tryz.f112.name, by decide, Tryz.func112.trans (congrArg some (by kernel_rfl))⟩
  f47 := Tryz.func105.trans (congrArg some (by kernel_rfl))
  f48 := Tryz.func106.trans (congrArg some (by kernel_rfl))
  f49 := ⟨Tryz.f113.name, by decide, Tryz.func113.trans (congrArg some (by kernel_rfl))⟩
  f50 := ⟨Tryz.f114.name, by decide, Tryz.func114.trans (congrArg some (by kernel_rfl))⟩
  f57 := ⟨Tryz.f117.name, by decide, Tryz.func117.trans (congrArg some (by kernel_rfl))⟩
  t0 := Tryz.underlying0
  a0 := Tryz.isAgg0
  z0 := Tryz.sizeOf0
  v0 := Tryz.zeroValue0
  t3 := Tryz.underlying3
  a3 := Tryz.isAgg3
  z3 := Tryz.sizeOf3
  v3 := Tryz.zeroValue3
  t4 := Tryz.underlying4
  a4 := Tryz.isAgg4
  z4 := Tryz.sizeOf4
  v4 := Tryz.zeroValue4
  t5 := Tryz.underlying5
  a5 := Tryz.isAgg5
  z5 := Tryz.sizeOf5
  v5 := Tryz.zeroValue5
  t9 := Tryz.underlying9
  a9 := Tryz.isAgg9
  z9 := Tryz.sizeOf9
  v9 := Tryz.zeroValue9
  t22 := Tryz.underlying23
  a22 := Tryz.isAgg23
  z22 := Tryz.sizeOf23
  v22 := Tryz.zeroValue23
  t25 := Tryz.underlying110
  a25 := Tryz.isAgg110
  z25 := Tryz.sizeOf110
  v25 := Tryz.zeroValue110
  t39 := Tryz.underlying114
  a39 := Tryz.isAgg114
  z39 := Tryz.sizeOf114
  v39 := Tryz.zeroValue114
  t45 := Tryz.underlying120
  a45 := Tryz.isAgg120
  z45 := Tryz.sizeOf120
  v45 := Tryz.zeroValue120
  t46 := Tryz.underlying121
  a46 := Tryz.isAgg121
  z46 := Tryz.sizeOf121
  v46 := Tryz.zeroValue121
  t50 := Tryz.underlying92
  a50 := Tryz.isAgg92
  z50 := Tryz.sizeOf92
  v50 := Tryz.zeroValue92
  t53 := Tryz.underlying127
  a53 := Tryz.isAgg127
  z53 := Tryz.sizeOf127
  v53 := Tryz.zeroValue127
  t55 := Tryz.underlying107
  a55 := Tryz.isAgg107
  z55 := Tryz.sizeOf107
  v55 := Tryz.zeroValue107
  t66 := Tryz.underlying139
  a66 := Tryz.isAgg139
  z66 := Tryz.sizeOf139
  v66 := Tryz.zeroValue139
  t70 := Tryz.underlying143
  a70 := Tryz.isAgg143
  z70 := Tryz.sizeOf143
  v70 := Tryz.zeroValue143
  t76 := Tryz.underlying149
  a76 := Tryz.isAgg149
  z76 := Tryz.sizeOf149
  v76 := Tryz.zeroValue149
  t77 := Tryz.underlying150
  a77 := Tryz.isAgg150
  z77 := Tryz.sizeOf150
  v77 := Tryz.zeroValue150 }
end Go.Proofs
