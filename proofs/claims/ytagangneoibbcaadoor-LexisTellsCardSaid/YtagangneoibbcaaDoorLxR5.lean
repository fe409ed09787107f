/- Layer 12: the reference's one (made by wip/gen/mklxro.py). -/
import Derived.Test.YtagangneoibbcaaDoorLxR4
set_option linter.unusedVariables false
namespace Go.Proofs.YtagangneoibbcaaDoor
set_option maxRecDepth 100000
set_option maxRecDepth 100000
open Go.RowKit

/-- Block g is a token. -/
def TkB (w : World) (g : Nat) (x : Tk) : Prop := w.heap[g]? = some (.cells #[.int .i64 x.k, .string x.t, .int .i64 x.vk, .int .i64 x.vi, .bool false, .string x.vb, .complex .f64 0 0, .int .i64 (x.a : Nat)] 36 (0, 0))
section
variable {w w' : World} {g : Nat} {x : Tk}
theorem TkB.lt (h : TkB w g x) : g < w.heap.size := (Array.getElem?_eq_some_iff.1 h).1
theorem TkB.cell (h : TkB w g x) (o : Nat) : w.cell? ⟨g, o, none⟩ = (#[Value.int .i64 x.k, .string x.t, .int .i64 x.vk, .int .i64 x.vi, .bool false, .string x.vb, .complex .f64 0 0, .int .i64 (x.a : Nat)] : Array Value)[o]? := cell_of_row _ _ _ _ _ _ h
theorem TkB.frozen (h : TkB w g x) (o : Nat) : w.frozen? ⟨g, o, none⟩ = false := by unfold TkB at h; simp [World.frozen?, h]
theorem TkB.keep (h : TkB w g x) (hb : w'.heap[g]? = w.heap[g]?) : TkB w' g x := hb.trans h
theorem TkB.below (h : TkB w g x) (hb : Below w.heap.size w w') : TkB w' g x := h.keep (hb.block g h.lt)
theorem TkB.row (h : TkB w g x) : w.rangeAt g 0 [.int .i64 x.k, .string x.t, .int .i64 x.vk, .int .i64 x.vi, .bool false, .string x.vb, .complex .f64 0 0, .int .i64 (x.a : Nat)] := fun j v hj => by
  rw [Nat.zero_add, h.cell, ← hj]
  simp
theorem TkB.there (h : TkB w g x) : w.there g 0 8 := fun j hj => ⟨by
  rw [h.cell, Array.getElem?_eq_getElem (by simp; omega)]; rfl, h.frozen _⟩
theorem TkB.thereV (h : TkB w g x) : w.there g 2 5 := fun j hj => ⟨by
  rw [h.cell, Array.getElem?_eq_getElem (by simp; omega)]; rfl, h.frozen _⟩
theorem TkB.set_k (h : TkB w g x) (k : Int) : TkB (w.setCell ⟨g, 0, none⟩ (.int .i64 k)) g ⟨k, x.t, x.vk, x.vi, x.vb, x.a⟩ := by
  unfold TkB at h ⊢
  simp [World.setCell, Array.getElem?_modify, h]
theorem TkB.set_t (h : TkB w g x) (t : ByteArray) : TkB (w.setCell ⟨g, 1, none⟩ (.string t)) g ⟨x.k, t, x.vk, x.vi, x.vb, x.a⟩ := by
  unfold TkB at h ⊢
  simp [World.setCell, Array.getElem?_modify, h]
theorem TkB.set_v (h : TkB w g x) (vk vi : Int) (vb : ByteArray) : TkB (w.setCells g 2 [.int .i64 vk, .int .i64 vi, .bool false, .string vb, .complex .f64 0 0]) g ⟨x.k, x.t, vk, vi, vb, x.a⟩ := by
  unfold TkB at h ⊢
  simp [World.setCells, World.setCell, Array.getElem?_modify, h]
theorem TkB.set_all (h : TkB w g x) (y : Tk) : TkB (w.setCells g 0 [.int .i64 y.k, .string y.t, .int .i64 y.vk, .int .i64 y.vi, .bool false, .string y.vb, .complex .f64 0 0, .int .i64 (y.a : Nat)]) g y := by
  unfold TkB at h ⊢
  simp [World.setCells, World.setCell, Array.getElem?_modify, h]
theorem TkB.other (h : TkB w g x) {g' o : Nat} (hg : g ≠ g') (u : Value) : TkB (w.setCell ⟨g', o, none⟩ u) g x := h.keep ((setCell_out (g := g') u).block g h.lt hg)
theorem TkB.others (h : TkB w g x) {g' : Nat} (o : Nat) (hg : g ≠ g') (us : List Value) : TkB (w.setCells g' o us) g x := h.keep (((Out.refl (fun k => k = g') w).setCells (.inl rfl) o us).block g h.lt hg)
end
theorem results_one {fn : Func} {ty : TypeId} (h : fn.results = #[.cell 4 ty, .tmp 5, .tmp 6]) (tmps : Array Value) (w : World) (g : Nat) (cs : List Value) (d : TypeDesc)
    (hp : tmps.getD 4 undef = .pointer (some ⟨g, 0, none⟩)) (hg : w.rangeAt g 0 cs)
    (hu : Tryd.prog.underlying ty = some d) (hd : d.isRow = true) (hi : (Tryd.prog.info? ty).map (·.size) = some cs.length) :
    (results fn tmps).run Tryd.prog w = .ok (.tuple #[.agg cs.toArray, tmps.getD 5 undef, tmps.getD 6 undef]) w := by
  have hp' : tmps[4]?.getD undef = .pointer (some ⟨g, 0, none⟩) := by simpa using hp
  simp [results, h, hp', asAddr, run_loadVar_mid w g 0 ty cs d hg hu hd hi]
theorem strOf_size (l : List Int) : (strOfNums l).size = l.length := by simp [strOfNums, ByteArray.size]
/-- What one leaves. -/
def ROneIs (o : One) (i : Nat) (w : World) (e : Ending) (w' : World) : Prop :=
  Below w.heap.size w w' ∧ ∃ y : Tk, e = .returned (.tuple #[.agg #[.int .i64 y.k, .string y.t, .int .i64 y.vk, .int .i64 y.vi, .bool false, .string y.vb, .complex .f64 0 0, .int .i64 (y.a : Nat)], .int .i64 (i + o.n : Nat), .int .i64 o.e]) ∧ (o.e = 0 → y = o.tk)
theorem ROneIs.mk_ {o : One} {i : Nat} {w w' : World} (y : Tk) {n e0 : Int} (hb : Below w.heap.size w w') (hn : n = (i + o.n : Nat)) (he : e0 = o.e) (hy : o.e = 0 → y = o.tk) : ROneIs o i w (.returned (.tuple #[.agg #[.int .i64 y.k, .string y.t, .int .i64 y.vk, .int .i64 y.vi, .bool false, .string y.vb, .complex .f64 0 0, .int .i64 (y.a : Nat)], .int .i64 n, .int .i64 e0])) w' := by
  subst hn he
  exact ⟨hb, y, rfl, hy⟩
section
variable {w : World} {i : Nat} {s : ByteArray}
set_option maxHeartbeats 1600000 in
theorem wrOne (hi : i < s.size) (hs : s.size ≤ 65536) :
    Calls Tryd.prog 29 #[.string s, .int .i64 (i : Nat)] w (ROneIs (oneP i ((strB s).drop i)) i w) := by
  obtain ⟨L, hL⟩ : ∃ L, strB s = L := ⟨_, rfl⟩
  have HLS := Lib.hid hL.symm
  have HLL := Lib.hid (show L.length = s.size by rw [← hL]; exact strB_len s)
  have HC := Lib.hid (fun (j : Nat) (h : j < s.size) => (show chP L j = ((s[j]'h).toNat : Int) by rw [← hL, chP_at s j h]))
  have HSUB := Lib.hid (fun (a b : Nat) => (show s.extract a b = strOfNums ((L.drop a).take (b - a)) by rw [← hL, sub_nums]))
  rw [hL]
  clear hL
  obtain ⟨W0, hW0⟩ : ∃ W, (w.alloc (.cells #[.int .i64 0, .string ⟨#[]⟩, .int .i64 0, .int .i64 0, .bool false, .string ⟨#[]⟩, .complex .f64 0 0, .int .i64 0] 36)).alloc (.cells #[.int .i64 0, .string ⟨#[]⟩, .int .i64 0, .int .i64 0, .bool false, .string ⟨#[]⟩, .complex .f64 0 0, .int .i64 (i : Nat)] 36) = W := ⟨_, rfl⟩
  have HW0 := Lib.hid hW0
  have B0 : Below w.heap.size w W0 := by rw [← hW0]; exact ((Below.refl _ _).alloc (Nat.le_refl _) _).alloc (by simp) _
  obtain ⟨g4, hg4⟩ : ∃ g, w.heap.size = g := ⟨_, rfl⟩
  obtain ⟨g7, hg7⟩ : ∃ g, g4 + 1 = g := ⟨_, rfl⟩
  have R4 : TkB W0 g4 ⟨0, ⟨#[]⟩, 0, 0, ⟨#[]⟩, 0⟩ := by
    rw [← hW0, ← hg4]
    exact (show TkB (w.alloc _) w.heap.size ⟨0, ⟨#[]⟩, 0, 0, ⟨#[]⟩, 0⟩ from heap_alloc_new w _).below ((Below.refl _ _).alloc (Nat.le_refl _) _)
  have R7 : TkB W0 g7 ⟨0, ⟨#[]⟩, 0, 0, ⟨#[]⟩, i⟩ := by
    rw [← hW0, ← hg7, ← hg4]
    have := heap_alloc_new (w.alloc (.cells #[.int .i64 0, .string ⟨#[]⟩, .int .i64 0, .int .i64 0, .bool false, .string ⟨#[]⟩, .complex .f64 0 0, .int .i64 0] 36)) (.cells #[.int .i64 0, .string ⟨#[]⟩, .int .i64 0, .int .i64 0, .bool false, .string ⟨#[]⟩, .complex .f64 0 0, .int .i64 (i : Nat)] 36)
    simpa [TkB] using this
  have HG4 := Lib.hid (show w.heap.size ≤ g4 by omega)
  have HN47 := Lib.hid (show g4 ≠ g7 by omega)
  have HN74 := Lib.hid (show g7 ≠ g4 by omega)
  have HG7 := Lib.hid (show w.heap.size ≤ g7 by omega)
  have HGE := Lib.hid (show w.heap.size = g4 ∧ g4 + 1 = g7 by omega)
  have hbi := (s[i]'hi).toNat_lt
  obtain ⟨c, hc⟩ : ∃ c : Int, ((s[i]'hi).toNat : Int) = c := ⟨_, rfl⟩
  have HCC := Lib.hid (show chP L i = c by rw [HC.out i hi, hc])
  have HC0 := Lib.hid (show chP (L.drop i) 0 = c by rw [chP_drop]; exact HCC.out)
  have i0 : (0 : Int) ≤ (i : Int) := by omega
  have i1 : (i : Int) < 65536 := by omega
  have CL := Lib.hid fun c W => wrLow c W
  have CD := Lib.hid fun c W => wrDigit c W
  have CI := Lib.hid fun c W => wrInner c W
  have HR7 := Lib.hid R7
  have HR4 := Lib.hid R4
  have HB0 := Lib.hid B0
  have hst := run_store_cx Tryd.prog
  clear hW0 B0 R4 R7 hg4 hg7
  rcases hl : lowB c with _ | _
  case true =>
    have HON := Lib.hid (show oneP i (L.drop i) = nameP i (L.drop i) by unfold oneP; rw [HC0.out, hl, if_pos rfl])
    have CLc := Lib.hid fun W => CL.out c W
    rw [hl] at CLc
    rw [HON.out]
    have HLW := Lib.hid hl
    have HCH := Lib.hid hc
    clear hl
    go_enter Tryd.func29, Tryd.ntmps29
    go_upto_region 2 with fail
    rw [HW0.out, HGE.out.1, HGE.out.2]
    clear hst
    go_upto_region 3 with fail
    clear hc
    go_wp2_with ((go_at_call 33; go_loud (refine (CLc.out _).mono ?_; rintro e wz ⟨rfl, rfl⟩)))
    go_loop [9] (fun v => ∃ j : Nat, v = .int .i64 (j : Nat) ∧ i ≤ j ∧ j ≤ s.size ∧ ∀ m, i ≤ m → m < j → innB (chP L m) = true) (fun v => s.size - (intOf v).toNat)
    case atStart => exact ⟨i, rfl, Nat.le_refl _, Nat.le_of_lt hi, fun m h1 h2 => by omega⟩
    case round =>
      obtain ⟨j, rfl, hij, hj, hA⟩ := hrel
      have HA := Lib.hid hA
      clear hA
      by_cases hgo : j < s.size ∧ innB (chP L j) = true
      · obtain ⟨hlt, hin⟩ := hgo
        have CIj := Lib.hid fun W => CI.out ((s[j]'hlt).toNat : Int) W
        rw [← HC.out j hlt, hin, HC.out j hlt] at CIj
        have HA2 := Lib.hid (show ∀ m, i ≤ m → m < j + 1 → innB (chP L m) = true from fun m h1 h2 => by
          by_cases hm : m = j
          · rw [hm]; exact hin
          · exact HA.out m h1 (by omega))
        clear hin
        go_wp2_with (go_at_call 34; go_loud (refine (CIj.out _).mono ?_; rintro e wz ⟨rfl, rfl⟩))
        go_round
        case rel => exact ⟨j + 1, by go_num, by omega, by omega, HA2.out⟩
        case measure => simp [intOf]; omega
      · have hni : innB (chP L j) = false := by
          rcases Nat.lt_or_ge j s.size with h | h
          · cases e : innB (chP L j) with
            | false => rfl
            | true => exact absurd ⟨h, e⟩ hgo
          · rw [chP_end L j (by rw [HLL.out]; exact h)]; decide
        have htw := takeWhile_is innB L i j hij (by rw [HLL.out]; exact hj) HA.out hni
        have hlen : ((L.drop i).take (j - i)).length = j - i := by rw [List.length_take, List.length_drop, HLL.out]; omega
        obtain ⟨t, ht⟩ : ∃ t, s.extract i j = t := ⟨_, rfl⟩
        have HNM := Lib.hid (show nameP i (L.drop i) = if 32 < j - i then ⟨Tk.zero, 0, 121⟩ else ⟨⟨1, t, 0, 0, ⟨#[]⟩, i⟩, j - i, 0⟩ by
          unfold nameP; rw [htw, hlen, ← HSUB.out i j, ht])
        have hijz : (i : Int) ≤ (j : Int) := by omega
        have hjz : (j : Int) ≤ (s.size : Int) := by omega
        have HJI := Lib.hid (show ((j : Nat) : Int) = ((i + (j - i) : Nat) : Int) by omega)
        have HS := Lib.hid (show ∀ h : j < s.size, ∀ W, Calls Tryd.prog 34 #[.int .u8 ((s[j]'h).toNat : Int)] W fun e w' => e = .returned (.bool false) ∧ W = w' from fun h W => by
          have := CI.out ((s[j]'h).toNat : Int) W
          rwa [← HC.out j h, hni, HC.out j h] at this)
        clear htw hlen hni hgo
        by_cases hlong : 32 < j - i
        · have hl2 : (32 : Int) < (j : Int) - (i : Int) := by omega
          have HOE := Lib.hid (show nameP i (L.drop i) = ⟨Tk.zero, 0, 121⟩ by rw [HNM.out, if_pos hlong])
          clear ht hlong
          rcases Nat.lt_or_ge j s.size with hlt | hge
          · have CIj := Lib.hid (HS.out hlt)
            have R7z := Lib.hid HR7.out
            have R4z := Lib.hid HR4.out
            have Bz := Lib.hid HB0.out
            have HRow := Lib.hid (show W0.rangeAt g7 0 [Value.int .i64 (0), .string ⟨#[]⟩, .int .i64 (0), .int .i64 (0), .bool false, .string ⟨#[]⟩, .complex .f64 0 0, .int .i64 (i : Nat)] from R7z.out.row)
            have HI := Lib.hid (show (Tryd.prog.info? 36).map (·.size) = some [Value.int .i64 (0), .string ⟨#[]⟩, .int .i64 (0), .int .i64 (0), .bool false, .string ⟨#[]⟩, .complex .f64 0 0, .int .i64 (i : Nat)].length by rfl)
            have HI2 := Lib.hid (show (Tryd.prog.info? 36).map (·.size) = some (#[Value.int .i64 (0), .string ⟨#[]⟩, .int .i64 (0), .int .i64 (0), .bool false, .string ⟨#[]⟩, .complex .f64 0 0, .int .i64 (i : Nat)] : Array Value).size by rfl)
            have HO := Lib.hid (show ((#[Value.int .i64 (0), .string ⟨#[]⟩, .int .i64 (0), .int .i64 (0), .bool false, .string ⟨#[]⟩, .complex .f64 0 0, .int .i64 (i : Nat)] : Array Value).all (·.oneCell') = true) by simp [Value.oneCell'])
            have HT4 := Lib.hid (show W0.there g4 0 (#[Value.int .i64 (0), .string ⟨#[]⟩, .int .i64 (0), .int .i64 (0), .bool false, .string ⟨#[]⟩, .complex .f64 0 0, .int .i64 (i : Nat)] : Array Value).size from R4z.out.there)
            have RES := Lib.hid (R4z.out.set_all ⟨0, ⟨#[]⟩, 0, 0, ⟨#[]⟩, i⟩)
            have BES := Lib.hid (show Below w.heap.size w (W0.setCells g4 0 [Value.int .i64 (0), .string ⟨#[]⟩, .int .i64 (0), .int .i64 (0), .bool false, .string ⟨#[]⟩, .complex .f64 0 0, .int .i64 (i : Nat)]) from ((Out.of_below Bz.out (fun _ => False)).setCells (g := g4) (.inr HG4.out) 0 _).below (Nat.le_refl _) (fun _ _ h => h))
            go_wp2_with (first | (go_at_call 34; go_loud (refine (CIj.out _).mono ?_; rintro e wz ⟨rfl, rfl⟩)) | (with_reducible refine wpList_load_mid rfl 36 (.tmp 7) rfl g7 0 rfl [Value.int .i64 (0), .string ⟨#[]⟩, .int .i64 (0), .int .i64 (0), .bool false, .string ⟨#[]⟩, .complex .f64 0 0, .int .i64 (i : Nat)] _ HRow.out Tryd.underlying36 rfl HI.out ?_) | (with_reducible refine wpList_store_mid rfl 36 (.tmp 4) (.tmp 42) rfl g4 0 #[Value.int .i64 (0), .string ⟨#[]⟩, .int .i64 (0), .int .i64 (0), .bool false, .string ⟨#[]⟩, .complex .f64 0 0, .int .i64 (i : Nat)] rfl rfl HT4.out HI2.out HO.out ?_; generalize hWF : World.setCells W0 g4 0 (#[Value.int .i64 (0), .string ⟨#[]⟩, .int .i64 (0), .int .i64 (0), .bool false, .string ⟨#[]⟩, .complex .f64 0 0, .int .i64 (i : Nat)] : Array Value).toList = WF; have RESF := Lib.hid (show TkB WF g4 ⟨0, ⟨#[]⟩, 0, 0, ⟨#[]⟩, i⟩ by rw [← hWF]; exact RES.out); have BESF := Lib.hid (show Below w.heap.size w WF by rw [← hWF]; exact BES.out); clear hWF))
            refine bodyPost_ret (results_one rfl _ _ g4 _ _ rfl RESF.out.row Tryd.underlying36 rfl (by kernel_rfl)) rfl ?_
            rw [HOE.out]
            exact ROneIs.mk_ ⟨0, ⟨#[]⟩, 0, 0, ⟨#[]⟩, i⟩ BESF.out (rfl) (rfl) (fun h => absurd (show (121 : Int) = 0 from h) (by decide))
          · have hge2 : ¬ (j : Int) < (s.size : Int) := by omega
            have R7z := Lib.hid HR7.out
            have R4z := Lib.hid HR4.out
            have Bz := Lib.hid HB0.out
            have HRow := Lib.hid (show W0.rangeAt g7 0 [Value.int .i64 (0), .string ⟨#[]⟩, .int .i64 (0), .int .i64 (0), .bool false, .string ⟨#[]⟩, .complex .f64 0 0, .int .i64 (i : Nat)] from R7z.out.row)
            have HI := Lib.hid (show (Tryd.prog.info? 36).map (·.size) = some [Value.int .i64 (0), .string ⟨#[]⟩, .int .i64 (0), .int .i64 (0), .bool false, .string ⟨#[]⟩, .complex .f64 0 0, .int .i64 (i : Nat)].length by rfl)
            have HI2 := Lib.hid (show (Tryd.prog.info? 36).map (·.size) = some (#[Value.int .i64 (0), .string ⟨#[]⟩, .int .i64 (0), .int .i64 (0), .bool false, .string ⟨#[]⟩, .complex .f64 0 0, .int .i64 (i : Nat)] : Array Value).size by rfl)
            have HO := Lib.hid (show ((#[Value.int .i64 (0), .string ⟨#[]⟩, .int .i64 (0), .int .i64 (0), .bool false, .string ⟨#[]⟩, .complex .f64 0 0, .int .i64 (i : Nat)] : Array Value).all (·.oneCell') = true) by simp [Value.oneCell'])
            have HT4 := Lib.hid (show W0.there g4 0 (#[Value.int .i64 (0), .string ⟨#[]⟩, .int .i64 (0), .int .i64 (0), .bool false, .string ⟨#[]⟩, .complex .f64 0 0, .int .i64 (i : Nat)] : Array Value).size from R4z.out.there)
            have RES := Lib.hid (R4z.out.set_all ⟨0, ⟨#[]⟩, 0, 0, ⟨#[]⟩, i⟩)
            have BES := Lib.hid (show Below w.heap.size w (W0.setCells g4 0 [Value.int .i64 (0), .string ⟨#[]⟩, .int .i64 (0), .int .i64 (0), .bool false, .string ⟨#[]⟩, .complex .f64 0 0, .int .i64 (i : Nat)]) from ((Out.of_below Bz.out (fun _ => False)).setCells (g := g4) (.inr HG4.out) 0 _).below (Nat.le_refl _) (fun _ _ h => h))
            go_wp2_with (first | (with_reducible refine wpList_load_mid rfl 36 (.tmp 7) rfl g7 0 rfl [Value.int .i64 (0), .string ⟨#[]⟩, .int .i64 (0), .int .i64 (0), .bool false, .string ⟨#[]⟩, .complex .f64 0 0, .int .i64 (i : Nat)] _ HRow.out Tryd.underlying36 rfl HI.out ?_) | (with_reducible refine wpList_store_mid rfl 36 (.tmp 4) (.tmp 42) rfl g4 0 #[Value.int .i64 (0), .string ⟨#[]⟩, .int .i64 (0), .int .i64 (0), .bool false, .string ⟨#[]⟩, .complex .f64 0 0, .int .i64 (i : Nat)] rfl rfl HT4.out HI2.out HO.out ?_; generalize hWF : World.setCells W0 g4 0 (#[Value.int .i64 (0), .string ⟨#[]⟩, .int .i64 (0), .int .i64 (0), .bool false, .string ⟨#[]⟩, .complex .f64 0 0, .int .i64 (i : Nat)] : Array Value).toList = WF; have RESF := Lib.hid (show TkB WF g4 ⟨0, ⟨#[]⟩, 0, 0, ⟨#[]⟩, i⟩ by rw [← hWF]; exact RES.out); have BESF := Lib.hid (show Below w.heap.size w WF by rw [← hWF]; exact BES.out); clear hWF))
            refine bodyPost_ret (results_one rfl _ _ g4 _ _ rfl RESF.out.row Tryd.underlying36 rfl (by kernel_rfl)) rfl ?_
            rw [HOE.out]
            exact ROneIs.mk_ ⟨0, ⟨#[]⟩, 0, 0, ⟨#[]⟩, i⟩ BESF.out (rfl) (rfl) (fun h => absurd (show (121 : Int) = 0 from h) (by decide))
        · have hl2 : ¬ (32 : Int) < (j : Int) - (i : Int) := by omega
          have hl3 : decide ((32 : Int) < (j : Int) - (i : Int)) = false := by simp; omega
          have hl4 : (j : Int) - (i : Int) ≤ 32 := by omega
          have HOE := Lib.hid (show nameP i (L.drop i) = ⟨⟨1, t, 0, 0, ⟨#[]⟩, i⟩, j - i, 0⟩ by rw [HNM.out, if_neg hlong])
          clear hlong
          rcases Nat.lt_or_ge j s.size with hlt | hge
          · have CIj := Lib.hid (HS.out hlt)
            have R7c := Lib.hid HR7.out
            have R4c := Lib.hid HR4.out
            have Bc := Lib.hid HB0.out
            have k0 := R7c.out.frozen 0
            have c0 : W0.cell? ⟨g7, 0, none⟩ = some (.int .i64 0) := R7c.out.cell 0
            go_upto_region 10 with (first | (go_at_call 34; go_loud (refine (CIj.out _).mono ?_; rintro e wz ⟨rfl, rfl⟩)) | fail)
            generalize hW1 : World.setCell W0 ⟨g7, 0, none⟩ (.int .i64 1) = W1
            have R7d := Lib.hid (show TkB W1 g7 ⟨1, ⟨#[]⟩, 0, 0, ⟨#[]⟩, i⟩ by rw [← hW1]; exact R7c.out.set_k 1)
            have R4d := Lib.hid (show TkB W1 g4 ⟨0, ⟨#[]⟩, 0, 0, ⟨#[]⟩, 0⟩ by rw [← hW1]; exact R4c.out.other (o := 0) HN47.out (.int .i64 1))
            have Bd := Lib.hid (show Below w.heap.size w W1 by rw [← hW1]; exact ((Out.of_below Bc.out (fun _ => False)).setCell (p := ⟨g7, 0, none⟩) (.inr HG7.out) (.int .i64 1)).below (Nat.le_refl _) (fun _ _ h => h))
            clear hW1 k0 c0
            have k1 := R7d.out.frozen 1
            have c1 : W1.cell? ⟨g7, 1, none⟩ = some (.string ⟨#[]⟩) := R7d.out.cell 1
            go_upto_region 11 with fail
            generalize hW2 : World.setCell W1 ⟨g7, 1, none⟩ (.string t) = W2
            have R7z := Lib.hid (show TkB W2 g7 ⟨1, t, 0, 0, ⟨#[]⟩, i⟩ by rw [← hW2]; exact R7d.out.set_t t)
            have R4z := Lib.hid (show TkB W2 g4 ⟨0, ⟨#[]⟩, 0, 0, ⟨#[]⟩, 0⟩ by rw [← hW2]; exact R4d.out.other (o := 1) HN47.out (.string t))
            have Bz := Lib.hid (show Below w.heap.size w W2 by rw [← hW2]; exact ((Out.of_below Bd.out (fun _ => False)).setCell (p := ⟨g7, 1, none⟩) (.inr HG7.out) (.string t)).below (Nat.le_refl _) (fun _ _ h => h))
            clear hW2 k1 c1
            have HRow := Lib.hid (show W2.rangeAt g7 0 [Value.int .i64 (1), .string t, .int .i64 (0), .int .i64 (0), .bool false, .string ⟨#[]⟩, .complex .f64 0 0, .int .i64 (i : Nat)] from R7z.out.row)
            have HI := Lib.hid (show (Tryd.prog.info? 36).map (·.size) = some [Value.int .i64 (1), .string t, .int .i64 (0), .int .i64 (0), .bool false, .string ⟨#[]⟩, .complex .f64 0 0, .int .i64 (i : Nat)].length by rfl)
            have HI2 := Lib.hid (show (Tryd.prog.info? 36).map (·.size) = some (#[Value.int .i64 (1), .string t, .int .i64 (0), .int .i64 (0), .bool false, .string ⟨#[]⟩, .complex .f64 0 0, .int .i64 (i : Nat)] : Array Value).size by rfl)
            have HO := Lib.hid (show ((#[Value.int .i64 (1), .string t, .int .i64 (0), .int .i64 (0), .bool false, .string ⟨#[]⟩, .complex .f64 0 0, .int .i64 (i : Nat)] : Array Value).all (·.oneCell') = true) by simp [Value.oneCell'])
            have HT4 := Lib.hid (show W2.there g4 0 (#[Value.int .i64 (1), .string t, .int .i64 (0), .int .i64 (0), .bool false, .string ⟨#[]⟩, .complex .f64 0 0, .int .i64 (i : Nat)] : Array Value).size from R4z.out.there)
            have RES := Lib.hid (R4z.out.set_all ⟨1, t, 0, 0, ⟨#[]⟩, i⟩)
            have BES := Lib.hid (show Below w.heap.size w (W2.setCells g4 0 [Value.int .i64 (1), .string t, .int .i64 (0), .int .i64 (0), .bool false, .string ⟨#[]⟩, .complex .f64 0 0, .int .i64 (i : Nat)]) from ((Out.of_below Bz.out (fun _ => False)).setCells (g := g4) (.inr HG4.out) 0 _).below (Nat.le_refl _) (fun _ _ h => h))
            go_wp2_with (first | (with_reducible refine wpList_load_mid rfl 36 (.tmp 7) rfl g7 0 rfl [Value.int .i64 (1), .string t, .int .i64 (0), .int .i64 (0), .bool false, .string ⟨#[]⟩, .complex .f64 0 0, .int .i64 (i : Nat)] _ HRow.out Tryd.underlying36 rfl HI.out ?_) | (with_reducible refine wpList_store_mid rfl 36 (.tmp 4) (.tmp 50) rfl g4 0 #[Value.int .i64 (1), .string t, .int .i64 (0), .int .i64 (0), .bool false, .string ⟨#[]⟩, .complex .f64 0 0, .int .i64 (i : Nat)] rfl rfl HT4.out HI2.out HO.out ?_; generalize hWF : World.setCells W2 g4 0 (#[Value.int .i64 (1), .string t, .int .i64 (0), .int .i64 (0), .bool false, .string ⟨#[]⟩, .complex .f64 0 0, .int .i64 (i : Nat)] : Array Value).toList = WF; have RESF := Lib.hid (show TkB WF g4 ⟨1, t, 0, 0, ⟨#[]⟩, i⟩ by rw [← hWF]; exact RES.out); have BESF := Lib.hid (show Below w.heap.size w WF by rw [← hWF]; exact BES.out); clear hWF))
            refine bodyPost_ret (results_one rfl _ _ g4 _ _ rfl RESF.out.row Tryd.underlying36 rfl (by kernel_rfl)) rfl ?_
            rw [HOE.out]
            exact ROneIs.mk_ ⟨1, t, 0, 0, ⟨#[]⟩, i⟩ BESF.out (HJI.out) (rfl) (fun _ => rfl)
          · have hge2 : ¬ (j : Int) < (s.size : Int) := by omega
            have R7c := Lib.hid HR7.out
            have R4c := Lib.hid HR4.out
            have Bc := Lib.hid HB0.out
            have k0 := R7c.out.frozen 0
            have c0 : W0.cell? ⟨g7, 0, none⟩ = some (.int .i64 0) := R7c.out.cell 0
            go_upto_region 10 with (first | fail | fail)
            generalize hW1 : World.setCell W0 ⟨g7, 0, none⟩ (.int .i64 1) = W1
            have R7d := Lib.hid (show TkB W1 g7 ⟨1, ⟨#[]⟩, 0, 0, ⟨#[]⟩, i⟩ by rw [← hW1]; exact R7c.out.set_k 1)
            have R4d := Lib.hid (show TkB W1 g4 ⟨0, ⟨#[]⟩, 0, 0, ⟨#[]⟩, 0⟩ by rw [← hW1]; exact R4c.out.other (o := 0) HN47.out (.int .i64 1))
            have Bd := Lib.hid (show Below w.heap.size w W1 by rw [← hW1]; exact ((Out.of_below Bc.out (fun _ => False)).setCell (p := ⟨g7, 0, none⟩) (.inr HG7.out) (.int .i64 1)).below (Nat.le_refl _) (fun _ _ h => h))
            clear hW1 k0 c0
            have k1 := R7d.out.frozen 1
            have c1 : W1.cell? ⟨g7, 1, none⟩ = some (.string ⟨#[]⟩) := R7d.out.cell 1
            go_upto_region 11 with fail
            generalize hW2 : World.setCell W1 ⟨g7, 1, none⟩ (.string t) = W2
            have R7z := Lib.hid (show TkB W2 g7 ⟨1, t, 0, 0, ⟨#[]⟩, i⟩ by rw [← hW2]; exact R7d.out.set_t t)
            have R4z := Lib.hid (show TkB W2 g4 ⟨0, ⟨#[]⟩, 0, 0, ⟨#[]⟩, 0⟩ by rw [← hW2]; exact R4d.out.other (o := 1) HN47.out (.string t))
            have Bz := Lib.hid (show Below w.heap.size w W2 by rw [← hW2]; exact ((Out.of_below Bd.out (fun _ => False)).setCell (p := ⟨g7, 1, none⟩) (.inr HG7.out) (.string t)).below (Nat.le_refl _) (fun _ _ h => h))
            clear hW2 k1 c1
            have HRow := Lib.hid (show W2.rangeAt g7 0 [Value.int .i64 (1), .string t, .int .i64 (0), .int .i64 (0), .bool false, .string ⟨#[]⟩, .complex .f64 0 0, .int .i64 (i : Nat)] from R7z.out.row)
            have HI := Lib.hid (show (Tryd.prog.info? 36).map (·.size) = some [Value.int .i64 (1), .string t, .int .i64 (0), .int .i64 (0), .bool false, .string ⟨#[]⟩, .complex .f64 0 0, .int .i64 (i : Nat)].length by rfl)
            have HI2 := Lib.hid (show (Tryd.prog.info? 36).map (·.size) = some (#[Value.int .i64 (1), .string t, .int .i64 (0), .int .i64 (0), .bool false, .string ⟨#[]⟩, .complex .f64 0 0, .int .i64 (i : Nat)] : Array Value).size by rfl)
            have HO := Lib.hid (show ((#[Value.int .i64 (1), .string t, .int .i64 (0), .int .i64 (0), .bool false, .string ⟨#[]⟩, .complex .f64 0 0, .int .i64 (i : Nat)] : Array Value).all (·.oneCell') = true) by simp [Value.oneCell'])
            have HT4 := Lib.hid (show W2.there g4 0 (#[Value.int .i64 (1), .string t, .int .i64 (0), .int .i64 (0), .bool false, .string ⟨#[]⟩, .complex .f64 0 0, .int .i64 (i : Nat)] : Array Value).size from R4z.out.there)
            have RES := Lib.hid (R4z.out.set_all ⟨1, t, 0, 0, ⟨#[]⟩, i⟩)
            have BES := Lib.hid (show Below w.heap.size w (W2.setCells g4 0 [Value.int .i64 (1), .string t, .int .i64 (0), .int .i64 (0), .bool false, .string ⟨#[]⟩, .complex .f64 0 0, .int .i64 (i : Nat)]) from ((Out.of_below Bz.out (fun _ => False)).setCells (g := g4) (.inr HG4.out) 0 _).below (Nat.le_refl _) (fun _ _ h => h))
            go_wp2_with (first | (with_reducible refine wpList_load_mid rfl 36 (.tmp 7) rfl g7 0 rfl [Value.int .i64 (1), .string t, .int .i64 (0), .int .i64 (0), .bool false, .string ⟨#[]⟩, .complex .f64 0 0, .int .i64 (i : Nat)] _ HRow.out Tryd.underlying36 rfl HI.out ?_) | (with_reducible refine wpList_store_mid rfl 36 (.tmp 4) (.tmp 50) rfl g4 0 #[Value.int .i64 (1), .string t, .int .i64 (0), .int .i64 (0), .bool false, .string ⟨#[]⟩, .complex .f64 0 0, .int .i64 (i : Nat)] rfl rfl HT4.out HI2.out HO.out ?_; generalize hWF : World.setCells W2 g4 0 (#[Value.int .i64 (1), .string t, .int .i64 (0), .int .i64 (0), .bool false, .string ⟨#[]⟩, .complex .f64 0 0, .int .i64 (i : Nat)] : Array Value).toList = WF; have RESF := Lib.hid (show TkB WF g4 ⟨1, t, 0, 0, ⟨#[]⟩, i⟩ by rw [← hWF]; exact RES.out); have BESF := Lib.hid (show Below w.heap.size w WF by rw [← hWF]; exact BES.out); clear hWF))
            refine bodyPost_ret (results_one rfl _ _ g4 _ _ rfl RESF.out.row Tryd.underlying36 rfl (by kernel_rfl)) rfl ?_
            rw [HOE.out]
            exact ROneIs.mk_ ⟨1, t, 0, 0, ⟨#[]⟩, i⟩ BESF.out (HJI.out) (rfl) (fun _ => rfl)
  have CLc := Lib.hid fun W => CL.out c W
  rw [hl] at CLc
  rcases hd : digB c with _ | _
  case true =>
    have HON := Lib.hid (show oneP i (L.drop i) = intP i (L.drop i) by unfold oneP; rw [HC0.out, hl, hd, if_neg (by simp), if_pos rfl])
    have CDc := Lib.hid fun W => CD.out c W
    rw [hd] at CDc
    rw [HON.out]
    have CW := Lib.hid (wrWhole s i W0 hi hs (by rw [← HLS.out, HCC.out]; exact hd))
    rw [← HLS.out] at CW
    clear hl hd
    unfold WholeIs at CW
    have hlen0 := tw_le digB (L.drop i)
    rw [List.length_drop, HLL.out] at hlen0
    obtain ⟨m, hm⟩ : ∃ m, ((L.drop i).takeWhile digB).length = m := ⟨_, rfl⟩
    obtain ⟨v, hv⟩ : ∃ v, numP ((L.drop i).takeWhile digB) = v := ⟨_, rfl⟩
    have HIP := Lib.hid (show intP i (L.drop i) = if badN (L.drop i) then ⟨Tk.zero, 0, 122⟩ else ⟨⟨2, ⟨#[]⟩, 1, (v : Nat), ⟨#[]⟩, i⟩, m, 0⟩ by unfold intP; rw [hm, hv])
    rw [hm, hv] at CW
    rw [hm] at hlen0
    clear hm hv
    rcases hb : badN (L.drop i) with _ | _
    · have HOE := Lib.hid (show intP i (L.drop i) = ⟨⟨2, ⟨#[]⟩, 1, (v : Nat), ⟨#[]⟩, i⟩, m, 0⟩ by rw [HIP.out, hb, if_neg (by simp)])
      rw [hb] at CW
      have CW2 := Lib.hid (CW.out.mono fun e w' h => (show e = .returned (.tuple #[.int .i64 (v : Nat), .int .i64 ((i + m : Nat) : Int), .bool true]) ∧ W0 = w' from by obtain ⟨n, h1, h2, h3⟩ := h; rw [h2 rfl] at h1; exact ⟨h1, h3⟩))
      obtain ⟨vz, hvz⟩ : ∃ vz : Int, ((v : Nat) : Int) = vz := ⟨_, rfl⟩
      obtain ⟨q, hq⟩ : ∃ q : Int, ((i + m : Nat) : Int) = q := ⟨_, rfl⟩
      have HQ := Lib.hid hq.symm
      rw [hvz] at CW2 HOE
      rw [hq] at CW2
      clear hb hvz hq CW
      go_enter Tryd.func29, Tryd.ntmps29
      go_upto_region 2 with fail
      rw [HW0.out, HGE.out.1, HGE.out.2]
      clear hst
      go_upto_region 3 with fail
      clear hc
      have R7c := Lib.hid HR7.out
      have R4c := Lib.hid HR4.out
      have Bc := Lib.hid HB0.out
      have k0 := R7c.out.frozen 0
      have c0 : W0.cell? ⟨g7, 0, none⟩ = some (.int .i64 0) := R7c.out.cell 0
      go_upto_region 17 with (first | (go_at_call 33; go_loud (refine (CLc.out _).mono ?_; rintro e wz ⟨rfl, rfl⟩)) | (go_at_call 50; go_loud (refine (CDc.out _).mono ?_; rintro e wz ⟨rfl, rfl⟩)) | (go_at_call 51; go_loud (refine CW2.out.mono ?_; rintro e wz ⟨rfl, rfl⟩)) | fail)
      generalize hW1 : World.setCell W0 ⟨g7, 0, none⟩ (.int .i64 2) = W1
      have R7d := Lib.hid (show TkB W1 g7 ⟨2, ⟨#[]⟩, 0, 0, ⟨#[]⟩, i⟩ by rw [← hW1]; exact R7c.out.set_k 2)
      have R4d := Lib.hid (show TkB W1 g4 ⟨0, ⟨#[]⟩, 0, 0, ⟨#[]⟩, 0⟩ by rw [← hW1]; exact R4c.out.other (o := 0) HN47.out (.int .i64 2))
      have Bd := Lib.hid (show Below w.heap.size w W1 by rw [← hW1]; exact ((Out.of_below Bc.out (fun _ => False)).setCell (p := ⟨g7, 0, none⟩) (.inr HG7.out) (.int .i64 2)).below (Nat.le_refl _) (fun _ _ h => h))
      clear hW1 k0 c0
      have HV5 := Lib.hid (show (Tryd.prog.info? 34).map (·.size) = some (#[Value.int .i64 1, .int .i64 vz, .bool false, .string ⟨#[]⟩, .complex .f64 0 0] : Array Value).size by rfl)
      have HVO := Lib.hid (show ((#[Value.int .i64 1, .int .i64 vz, .bool false, .string ⟨#[]⟩, .complex .f64 0 0] : Array Value).all (·.oneCell') = true) by simp [Value.oneCell'])
      have HVT := Lib.hid (show W1.there g7 2 (#[Value.int .i64 1, .int .i64 vz, .bool false, .string ⟨#[]⟩, .complex .f64 0 0] : Array Value).size from R7d.out.thereV)
      go_upto_region 18 with (with_reducible refine wpList_store_mid rfl 34 (.tmp 69) (.tmp 68) rfl g7 2 #[Value.int .i64 1, .int .i64 vz, .bool false, .string ⟨#[]⟩, .complex .f64 0 0] rfl rfl HVT.out HV5.out HVO.out ?_; generalize hW2 : World.setCells W1 g7 2 (#[Value.int .i64 1, .int .i64 vz, .bool false, .string ⟨#[]⟩, .complex .f64 0 0] : Array Value).toList = W2; have R7z := Lib.hid (show TkB W2 g7 ⟨2, ⟨#[]⟩, 1, vz, ⟨#[]⟩, i⟩ by rw [← hW2]; exact R7d.out.set_v 1 vz ⟨#[]⟩); have R4z := Lib.hid (show TkB W2 g4 ⟨0, ⟨#[]⟩, 0, 0, ⟨#[]⟩, 0⟩ by rw [← hW2]; exact R4d.out.others 2 HN47.out _); have Bz := Lib.hid (show Below w.heap.size w W2 by rw [← hW2]; exact ((Out.of_below Bd.out (fun _ => False)).setCells (g := g7) (.inr HG7.out) 2 _).below (Nat.le_refl _) (fun _ _ h => h)); clear hW2)
      have HRow := Lib.hid (show W2.rangeAt g7 0 [Value.int .i64 (2), .string ⟨#[]⟩, .int .i64 (1), .int .i64 (vz), .bool false, .string ⟨#[]⟩, .complex .f64 0 0, .int .i64 (i : Nat)] from R7z.out.row)
      have HI := Lib.hid (show (Tryd.prog.info? 36).map (·.size) = some [Value.int .i64 (2), .string ⟨#[]⟩, .int .i64 (1), .int .i64 (vz), .bool false, .string ⟨#[]⟩, .complex .f64 0 0, .int .i64 (i : Nat)].length by rfl)
      have HI2 := Lib.hid (show (Tryd.prog.info? 36).map (·.size) = some (#[Value.int .i64 (2), .string ⟨#[]⟩, .int .i64 (1), .int .i64 (vz), .bool false, .string ⟨#[]⟩, .complex .f64 0 0, .int .i64 (i : Nat)] : Array Value).size by rfl)
      have HO := Lib.hid (show ((#[Value.int .i64 (2), .string ⟨#[]⟩, .int .i64 (1), .int .i64 (vz), .bool false, .string ⟨#[]⟩, .complex .f64 0 0, .int .i64 (i : Nat)] : Array Value).all (·.oneCell') = true) by simp [Value.oneCell'])
      have HT4 := Lib.hid (show W2.there g4 0 (#[Value.int .i64 (2), .string ⟨#[]⟩, .int .i64 (1), .int .i64 (vz), .bool false, .string ⟨#[]⟩, .complex .f64 0 0, .int .i64 (i : Nat)] : Array Value).size from R4z.out.there)
      have RES := Lib.hid (R4z.out.set_all ⟨2, ⟨#[]⟩, 1, vz, ⟨#[]⟩, i⟩)
      have BES := Lib.hid (show Below w.heap.size w (W2.setCells g4 0 [Value.int .i64 (2), .string ⟨#[]⟩, .int .i64 (1), .int .i64 (vz), .bool false, .string ⟨#[]⟩, .complex .f64 0 0, .int .i64 (i : Nat)]) from ((Out.of_below Bz.out (fun _ => False)).setCells (g := g4) (.inr HG4.out) 0 _).below (Nat.le_refl _) (fun _ _ h => h))
      go_wp2_with (first | (with_reducible refine wpList_load_mid rfl 36 (.tmp 7) rfl g7 0 rfl [Value.int .i64 (2), .string ⟨#[]⟩, .int .i64 (1), .int .i64 (vz), .bool false, .string ⟨#[]⟩, .complex .f64 0 0, .int .i64 (i : Nat)] _ HRow.out Tryd.underlying36 rfl HI.out ?_) | (with_reducible refine wpList_store_mid rfl 36 (.tmp 4) (.tmp 70) rfl g4 0 #[Value.int .i64 (2), .string ⟨#[]⟩, .int .i64 (1), .int .i64 (vz), .bool false, .string ⟨#[]⟩, .complex .f64 0 0, .int .i64 (i : Nat)] rfl rfl HT4.out HI2.out HO.out ?_; generalize hWF : World.setCells W2 g4 0 (#[Value.int .i64 (2), .string ⟨#[]⟩, .int .i64 (1), .int .i64 (vz), .bool false, .string ⟨#[]⟩, .complex .f64 0 0, .int .i64 (i : Nat)] : Array Value).toList = WF; have RESF := Lib.hid (show TkB WF g4 ⟨2, ⟨#[]⟩, 1, vz, ⟨#[]⟩, i⟩ by rw [← hWF]; exact RES.out); have BESF := Lib.hid (show Below w.heap.size w WF by rw [← hWF]; exact BES.out); clear hWF))
      refine bodyPost_ret (results_one rfl _ _ g4 _ _ rfl RESF.out.row Tryd.underlying36 rfl (by kernel_rfl)) rfl ?_
      rw [HOE.out]
      exact ROneIs.mk_ ⟨2, ⟨#[]⟩, 1, vz, ⟨#[]⟩, i⟩ BESF.out (HQ.out) (rfl) (fun _ => rfl)
    · have HOE := Lib.hid (show intP i (L.drop i) = ⟨Tk.zero, 0, 122⟩ by rw [HIP.out, hb, if_pos rfl])
      rw [hb] at CW
      have CW2 := Lib.hid (CW.out.mono fun e w' h => (show ∃ n, e = .returned (.tuple #[.int .i64 n, .int .i64 ((i + m : Nat) : Int), .bool false]) ∧ W0 = w' from by obtain ⟨n, h1, -, h3⟩ := h; exact ⟨n, h1, h3⟩))
      obtain ⟨q, hq⟩ : ∃ q : Int, ((i + m : Nat) : Int) = q := ⟨_, rfl⟩
      rw [hq] at CW2
      clear hb hq CW
      go_enter Tryd.func29, Tryd.ntmps29
      go_upto_region 2 with fail
      rw [HW0.out, HGE.out.1, HGE.out.2]
      clear hst
      go_upto_region 3 with fail
      clear hc
      have R7z := Lib.hid HR7.out
      have R4z := Lib.hid HR4.out
      have Bz := Lib.hid HB0.out
      have HRow := Lib.hid (show W0.rangeAt g7 0 [Value.int .i64 (0), .string ⟨#[]⟩, .int .i64 (0), .int .i64 (0), .bool false, .string ⟨#[]⟩, .complex .f64 0 0, .int .i64 (i : Nat)] from R7z.out.row)
      have HI := Lib.hid (show (Tryd.prog.info? 36).map (·.size) = some [Value.int .i64 (0), .string ⟨#[]⟩, .int .i64 (0), .int .i64 (0), .bool false, .string ⟨#[]⟩, .complex .f64 0 0, .int .i64 (i : Nat)].length by rfl)
      have HI2 := Lib.hid (show (Tryd.prog.info? 36).map (·.size) = some (#[Value.int .i64 (0), .string ⟨#[]⟩, .int .i64 (0), .int .i64 (0), .bool false, .string ⟨#[]⟩, .complex .f64 0 0, .int .i64 (i : Nat)] : Array Value).size by rfl)
      have HO := Lib.hid (show ((#[Value.int .i64 (0), .string ⟨#[]⟩, .int .i64 (0), .int .i64 (0), .bool false, .string ⟨#[]⟩, .complex .f64 0 0, .int .i64 (i : Nat)] : Array Value).all (·.oneCell') = true) by simp [Value.oneCell'])
      have HT4 := Lib.hid (show W0.there g4 0 (#[Value.int .i64 (0), .string ⟨#[]⟩, .int .i64 (0), .int .i64 (0), .bool false, .string ⟨#[]⟩, .complex .f64 0 0, .int .i64 (i : Nat)] : Array Value).size from R4z.out.there)
      have RES := Lib.hid (R4z.out.set_all ⟨0, ⟨#[]⟩, 0, 0, ⟨#[]⟩, i⟩)
      have BES := Lib.hid (show Below w.heap.size w (W0.setCells g4 0 [Value.int .i64 (0), .string ⟨#[]⟩, .int .i64 (0), .int .i64 (0), .bool false, .string ⟨#[]⟩, .complex .f64 0 0, .int .i64 (i : Nat)]) from ((Out.of_below Bz.out (fun _ => False)).setCells (g := g4) (.inr HG4.out) 0 _).below (Nat.le_refl _) (fun _ _ h => h))
      go_wp2_with (first | (go_at_call 33; go_loud (refine (CLc.out _).mono ?_; rintro e wz ⟨rfl, rfl⟩)) | (go_at_call 50; go_loud (refine (CDc.out _).mono ?_; rintro e wz ⟨rfl, rfl⟩)) | (go_at_call 51; go_loud (refine CW2.out.mono ?_; rintro e wz ⟨n0, rfl, rfl⟩)) | (with_reducible refine wpList_load_mid rfl 36 (.tmp 7) rfl g7 0 rfl [Value.int .i64 (0), .string ⟨#[]⟩, .int .i64 (0), .int .i64 (0), .bool false, .string ⟨#[]⟩, .complex .f64 0 0, .int .i64 (i : Nat)] _ HRow.out Tryd.underlying36 rfl HI.out ?_) | (with_reducible refine wpList_store_mid rfl 36 (.tmp 4) (.tmp 64) rfl g4 0 #[Value.int .i64 (0), .string ⟨#[]⟩, .int .i64 (0), .int .i64 (0), .bool false, .string ⟨#[]⟩, .complex .f64 0 0, .int .i64 (i : Nat)] rfl rfl HT4.out HI2.out HO.out ?_; generalize hWF : World.setCells W0 g4 0 (#[Value.int .i64 (0), .string ⟨#[]⟩, .int .i64 (0), .int .i64 (0), .bool false, .string ⟨#[]⟩, .complex .f64 0 0, .int .i64 (i : Nat)] : Array Value).toList = WF; have RESF := Lib.hid (show TkB WF g4 ⟨0, ⟨#[]⟩, 0, 0, ⟨#[]⟩, i⟩ by rw [← hWF]; exact RES.out); have BESF := Lib.hid (show Below w.heap.size w WF by rw [← hWF]; exact BES.out); clear hWF))
      refine bodyPost_ret (results_one rfl _ _ g4 _ _ rfl RESF.out.row Tryd.underlying36 rfl (by kernel_rfl)) rfl ?_
      rw [HOE.out]
      exact ROneIs.mk_ ⟨0, ⟨#[]⟩, 0, 0, ⟨#[]⟩, i⟩ BESF.out (rfl) (rfl) (fun h => absurd (show (122 : Int) = 0 from h) (by decide))
  have CDc := Lib.hid fun W => CD.out c W
  rw [hd] at CDc
  by_cases h34 : c = 34
  · have HON := Lib.hid (show oneP i (L.drop i) = textP i (L.drop i) by unfold oneP; rw [HC0.out, hl, hd, if_neg (by simp), if_neg (by simp), if_pos h34])
    rw [HON.out]
    have CQ := Lib.hid (wrQuoted s i W0 hi hs)
    rw [← HLS.out] at CQ
    unfold RQuotedIs at CQ
    have htp : textP i (L.drop i) = match qtP (L.drop (i + 1)) with
        | (none, n) => ⟨Tk.zero, 1 + n, 123⟩
        | (some b, n) => if 4096 < b.length then ⟨Tk.zero, 0, 3⟩ else ⟨⟨3, ⟨#[]⟩, 3, 0, strOfNums b, i⟩, 1 + n, 0⟩ := by
      unfold textP; rw [List.drop_drop]; rfl
    have e34 : (c == 34) = true := by simpa using h34
    clear hl hd h34
    rcases hq : qtP (L.drop (i + 1)) with ⟨_ | b, n⟩
    · rw [hq] at htp CQ
      dsimp only at htp CQ
      have HOE := Lib.hid htp
      have HNZ := Lib.hid (show ((i + 1 + n : Nat) : Int) = ((i + (1 + n) : Nat) : Int) by omega)
      clear hq htp
      go_enter Tryd.func29, Tryd.ntmps29
      go_upto_region 2 with fail
      rw [HW0.out, HGE.out.1, HGE.out.2]
      clear hst
      go_upto_region 3 with fail
      clear hc
      go_upto_region 21 with (first | (go_at_call 33; go_loud (refine (CLc.out _).mono ?_; rintro e wz ⟨rfl, rfl⟩)) | (go_at_call 50; go_loud (refine (CDc.out _).mono ?_; rintro e wz ⟨rfl, rfl⟩)) | (go_at_call 52; go_loud (refine CQ.out.mono ?_; rintro e w1 ⟨b1, rfl⟩; have R7x := Lib.hid (HR7.out.below b1); have R4x := Lib.hid (HR4.out.below b1); have Bx := Lib.hid (below_next HB0.out b1); clear b1)))
      have R7z := Lib.hid R7x.out
      have R4z := Lib.hid R4x.out
      have Bz := Lib.hid Bx.out
      have HRow := Lib.hid (show w1.rangeAt g7 0 [Value.int .i64 (0), .string ⟨#[]⟩, .int .i64 (0), .int .i64 (0), .bool false, .string ⟨#[]⟩, .complex .f64 0 0, .int .i64 (i : Nat)] from R7z.out.row)
      have HI := Lib.hid (show (Tryd.prog.info? 36).map (·.size) = some [Value.int .i64 (0), .string ⟨#[]⟩, .int .i64 (0), .int .i64 (0), .bool false, .string ⟨#[]⟩, .complex .f64 0 0, .int .i64 (i : Nat)].length by rfl)
      have HI2 := Lib.hid (show (Tryd.prog.info? 36).map (·.size) = some (#[Value.int .i64 (0), .string ⟨#[]⟩, .int .i64 (0), .int .i64 (0), .bool false, .string ⟨#[]⟩, .complex .f64 0 0, .int .i64 (i : Nat)] : Array Value).size by rfl)
      have HO := Lib.hid (show ((#[Value.int .i64 (0), .string ⟨#[]⟩, .int .i64 (0), .int .i64 (0), .bool false, .string ⟨#[]⟩, .complex .f64 0 0, .int .i64 (i : Nat)] : Array Value).all (·.oneCell') = true) by simp [Value.oneCell'])
      have HT4 := Lib.hid (show w1.there g4 0 (#[Value.int .i64 (0), .string ⟨#[]⟩, .int .i64 (0), .int .i64 (0), .bool false, .string ⟨#[]⟩, .complex .f64 0 0, .int .i64 (i : Nat)] : Array Value).size from R4z.out.there)
      have RES := Lib.hid (R4z.out.set_all ⟨0, ⟨#[]⟩, 0, 0, ⟨#[]⟩, i⟩)
      have BES := Lib.hid (show Below w.heap.size w (w1.setCells g4 0 [Value.int .i64 (0), .string ⟨#[]⟩, .int .i64 (0), .int .i64 (0), .bool false, .string ⟨#[]⟩, .complex .f64 0 0, .int .i64 (i : Nat)]) from ((Out.of_below Bz.out (fun _ => False)).setCells (g := g4) (.inr HG4.out) 0 _).below (Nat.le_refl _) (fun _ _ h => h))
      go_wp2_with (first | (with_reducible refine wpList_load_mid rfl 36 (.tmp 7) rfl g7 0 rfl [Value.int .i64 (0), .string ⟨#[]⟩, .int .i64 (0), .int .i64 (0), .bool false, .string ⟨#[]⟩, .complex .f64 0 0, .int .i64 (i : Nat)] _ HRow.out Tryd.underlying36 rfl HI.out ?_) | (with_reducible refine wpList_store_mid rfl 36 (.tmp 4) (.tmp 84) rfl g4 0 #[Value.int .i64 (0), .string ⟨#[]⟩, .int .i64 (0), .int .i64 (0), .bool false, .string ⟨#[]⟩, .complex .f64 0 0, .int .i64 (i : Nat)] rfl rfl HT4.out HI2.out HO.out ?_; generalize hWF : World.setCells w1 g4 0 (#[Value.int .i64 (0), .string ⟨#[]⟩, .int .i64 (0), .int .i64 (0), .bool false, .string ⟨#[]⟩, .complex .f64 0 0, .int .i64 (i : Nat)] : Array Value).toList = WF; have RESF := Lib.hid (show TkB WF g4 ⟨0, ⟨#[]⟩, 0, 0, ⟨#[]⟩, i⟩ by rw [← hWF]; exact RES.out); have BESF := Lib.hid (show Below w.heap.size w WF by rw [← hWF]; exact BES.out); clear hWF))
      refine bodyPost_ret (results_one rfl _ _ g4 _ _ rfl RESF.out.row Tryd.underlying36 rfl (by kernel_rfl)) rfl ?_
      rw [HOE.out]
      exact ROneIs.mk_ ⟨0, ⟨#[]⟩, 0, 0, ⟨#[]⟩, i⟩ BESF.out (HNZ.out) (rfl) (fun h => absurd (show (123 : Int) = 0 from h) (by decide))
    · rw [hq] at htp CQ
      dsimp only at htp CQ
      by_cases hlong : 4096 < b.length
      · rw [if_pos hlong] at htp
        have CQ := Lib.hid (CQ.out.mono fun e w' h => (show Below W0.heap.size W0 w' ∧ e = .returned (.tuple #[.string ⟨#[]⟩, .int .i64 (i : Nat), .int .i64 3]) from ⟨h.1, by have := h.2; rwa [if_pos hlong] at this⟩))
        have HOE := Lib.hid htp
        have HNZ := Lib.hid (show ((i : Nat) : Int) = ((i + 0 : Nat) : Int) by omega)
        clear hq htp hlong
        go_enter Tryd.func29, Tryd.ntmps29
        go_upto_region 2 with fail
        rw [HW0.out, HGE.out.1, HGE.out.2]
        clear hst
        go_upto_region 3 with fail
        clear hc
        go_upto_region 21 with (first | (go_at_call 33; go_loud (refine (CLc.out _).mono ?_; rintro e wz ⟨rfl, rfl⟩)) | (go_at_call 50; go_loud (refine (CDc.out _).mono ?_; rintro e wz ⟨rfl, rfl⟩)) | (go_at_call 52; go_loud (refine CQ.out.mono ?_; rintro e w1 ⟨b1, rfl⟩; have R7x := Lib.hid (HR7.out.below b1); have R4x := Lib.hid (HR4.out.below b1); have Bx := Lib.hid (below_next HB0.out b1); clear b1)))
        have R7z := Lib.hid R7x.out
        have R4z := Lib.hid R4x.out
        have Bz := Lib.hid Bx.out
        have HRow := Lib.hid (show w1.rangeAt g7 0 [Value.int .i64 (0), .string ⟨#[]⟩, .int .i64 (0), .int .i64 (0), .bool false, .string ⟨#[]⟩, .complex .f64 0 0, .int .i64 (i : Nat)] from R7z.out.row)
        have HI := Lib.hid (show (Tryd.prog.info? 36).map (·.size) = some [Value.int .i64 (0), .string ⟨#[]⟩, .int .i64 (0), .int .i64 (0), .bool false, .string ⟨#[]⟩, .complex .f64 0 0, .int .i64 (i : Nat)].length by rfl)
        have HI2 := Lib.hid (show (Tryd.prog.info? 36).map (·.size) = some (#[Value.int .i64 (0), .string ⟨#[]⟩, .int .i64 (0), .int .i64 (0), .bool false, .string ⟨#[]⟩, .complex .f64 0 0, .int .i64 (i : Nat)] : Array Value).size by rfl)
        have HO := Lib.hid (show ((#[Value.int .i64 (0), .string ⟨#[]⟩, .int .i64 (0), .int .i64 (0), .bool false, .string ⟨#[]⟩, .complex .f64 0 0, .int .i64 (i : Nat)] : Array Value).all (·.oneCell') = true) by simp [Value.oneCell'])
        have HT4 := Lib.hid (show w1.there g4 0 (#[Value.int .i64 (0), .string ⟨#[]⟩, .int .i64 (0), .int .i64 (0), .bool false, .string ⟨#[]⟩, .complex .f64 0 0, .int .i64 (i : Nat)] : Array Value).size from R4z.out.there)
        have RES := Lib.hid (R4z.out.set_all ⟨0, ⟨#[]⟩, 0, 0, ⟨#[]⟩, i⟩)
        have BES := Lib.hid (show Below w.heap.size w (w1.setCells g4 0 [Value.int .i64 (0), .string ⟨#[]⟩, .int .i64 (0), .int .i64 (0), .bool false, .string ⟨#[]⟩, .complex .f64 0 0, .int .i64 (i : Nat)]) from ((Out.of_below Bz.out (fun _ => False)).setCells (g := g4) (.inr HG4.out) 0 _).below (Nat.le_refl _) (fun _ _ h => h))
        go_wp2_with (first | (with_reducible refine wpList_load_mid rfl 36 (.tmp 7) rfl g7 0 rfl [Value.int .i64 (0), .string ⟨#[]⟩, .int .i64 (0), .int .i64 (0), .bool false, .string ⟨#[]⟩, .complex .f64 0 0, .int .i64 (i : Nat)] _ HRow.out Tryd.underlying36 rfl HI.out ?_) | (with_reducible refine wpList_store_mid rfl 36 (.tmp 4) (.tmp 84) rfl g4 0 #[Value.int .i64 (0), .string ⟨#[]⟩, .int .i64 (0), .int .i64 (0), .bool false, .string ⟨#[]⟩, .complex .f64 0 0, .int .i64 (i : Nat)] rfl rfl HT4.out HI2.out HO.out ?_; generalize hWF : World.setCells w1 g4 0 (#[Value.int .i64 (0), .string ⟨#[]⟩, .int .i64 (0), .int .i64 (0), .bool false, .string ⟨#[]⟩, .complex .f64 0 0, .int .i64 (i : Nat)] : Array Value).toList = WF; have RESF := Lib.hid (show TkB WF g4 ⟨0, ⟨#[]⟩, 0, 0, ⟨#[]⟩, i⟩ by rw [← hWF]; exact RES.out); have BESF := Lib.hid (show Below w.heap.size w WF by rw [← hWF]; exact BES.out); clear hWF))
        refine bodyPost_ret (results_one rfl _ _ g4 _ _ rfl RESF.out.row Tryd.underlying36 rfl (by kernel_rfl)) rfl ?_
        rw [HOE.out]
        exact ROneIs.mk_ ⟨0, ⟨#[]⟩, 0, 0, ⟨#[]⟩, i⟩ BESF.out (HNZ.out) (rfl) (fun h => absurd (show (3 : Int) = 0 from h) (by decide))
      · rw [if_neg hlong] at htp
        have CQ := Lib.hid (CQ.out.mono fun e w' h => (show Below W0.heap.size W0 w' ∧ e = .returned (.tuple #[.string (strOfNums b), .int .i64 (i + 1 + n : Nat), .int .i64 0]) from ⟨h.1, by have := h.2; rwa [if_neg hlong] at this⟩))
        obtain ⟨t, ht⟩ : ∃ t, strOfNums b = t := ⟨_, rfl⟩
        rw [ht] at htp CQ
        have HOE := Lib.hid htp
        have HNZ := Lib.hid (show ((i + 1 + n : Nat) : Int) = ((i + (1 + n) : Nat) : Int) by omega)
        clear hq htp hlong ht
        go_enter Tryd.func29, Tryd.ntmps29
        go_upto_region 2 with fail
        rw [HW0.out, HGE.out.1, HGE.out.2]
        clear hst
        go_upto_region 3 with fail
        clear hc
        go_upto_region 21 with (first | (go_at_call 33; go_loud (refine (CLc.out _).mono ?_; rintro e wz ⟨rfl, rfl⟩)) | (go_at_call 50; go_loud (refine (CDc.out _).mono ?_; rintro e wz ⟨rfl, rfl⟩)) | (go_at_call 52; go_loud (refine CQ.out.mono ?_; rintro e w1 ⟨b1, rfl⟩; have R7x := Lib.hid (HR7.out.below b1); have R4x := Lib.hid (HR4.out.below b1); have Bx := Lib.hid (below_next HB0.out b1); clear b1)))
        have R7c := Lib.hid R7x.out
        have R4c := Lib.hid R4x.out
        have Bc := Lib.hid Bx.out
        have k0 := R7c.out.frozen 0
        have c0 : w1.cell? ⟨g7, 0, none⟩ = some (.int .i64 0) := R7c.out.cell 0
        go_upto_region 24 with (first | fail | fail)
        generalize hW1 : World.setCell w1 ⟨g7, 0, none⟩ (.int .i64 3) = W1
        have R7d := Lib.hid (show TkB W1 g7 ⟨3, ⟨#[]⟩, 0, 0, ⟨#[]⟩, i⟩ by rw [← hW1]; exact R7c.out.set_k 3)
        have R4d := Lib.hid (show TkB W1 g4 ⟨0, ⟨#[]⟩, 0, 0, ⟨#[]⟩, 0⟩ by rw [← hW1]; exact R4c.out.other (o := 0) HN47.out (.int .i64 3))
        have Bd := Lib.hid (show Below w.heap.size w W1 by rw [← hW1]; exact ((Out.of_below Bc.out (fun _ => False)).setCell (p := ⟨g7, 0, none⟩) (.inr HG7.out) (.int .i64 3)).below (Nat.le_refl _) (fun _ _ h => h))
        clear hW1 k0 c0
        have HV5 := Lib.hid (show (Tryd.prog.info? 34).map (·.size) = some (#[Value.int .i64 3, .int .i64 0, .bool false, .string t, .complex .f64 0 0] : Array Value).size by rfl)
        have HVO := Lib.hid (show ((#[Value.int .i64 3, .int .i64 0, .bool false, .string t, .complex .f64 0 0] : Array Value).all (·.oneCell') = true) by simp [Value.oneCell'])
        have HVT := Lib.hid (show W1.there g7 2 (#[Value.int .i64 3, .int .i64 0, .bool false, .string t, .complex .f64 0 0] : Array Value).size from R7d.out.thereV)
        go_upto_region 25 with (with_reducible refine wpList_store_mid rfl 34 (.tmp 90) (.tmp 89) rfl g7 2 #[Value.int .i64 3, .int .i64 0, .bool false, .string t, .complex .f64 0 0] rfl rfl HVT.out HV5.out HVO.out ?_; generalize hW2 : World.setCells W1 g7 2 (#[Value.int .i64 3, .int .i64 0, .bool false, .string t, .complex .f64 0 0] : Array Value).toList = W2; have R7z := Lib.hid (show TkB W2 g7 ⟨3, ⟨#[]⟩, 3, 0, t, i⟩ by rw [← hW2]; exact R7d.out.set_v 3 0 t); have R4z := Lib.hid (show TkB W2 g4 ⟨0, ⟨#[]⟩, 0, 0, ⟨#[]⟩, 0⟩ by rw [← hW2]; exact R4d.out.others 2 HN47.out _); have Bz := Lib.hid (show Below w.heap.size w W2 by rw [← hW2]; exact ((Out.of_below Bd.out (fun _ => False)).setCells (g := g7) (.inr HG7.out) 2 _).below (Nat.le_refl _) (fun _ _ h => h)); clear hW2)
        have HRow := Lib.hid (show W2.rangeAt g7 0 [Value.int .i64 (3), .string ⟨#[]⟩, .int .i64 (3), .int .i64 (0), .bool false, .string t, .complex .f64 0 0, .int .i64 (i : Nat)] from R7z.out.row)
        have HI := Lib.hid (show (Tryd.prog.info? 36).map (·.size) = some [Value.int .i64 (3), .string ⟨#[]⟩, .int .i64 (3), .int .i64 (0), .bool false, .string t, .complex .f64 0 0, .int .i64 (i : Nat)].length by rfl)
        have HI2 := Lib.hid (show (Tryd.prog.info? 36).map (·.size) = some (#[Value.int .i64 (3), .string ⟨#[]⟩, .int .i64 (3), .int .i64 (0), .bool false, .string t, .complex .f64 0 0, .int .i64 (i : Nat)] : Array Value).size by rfl)
        have HO := Lib.hid (show ((#[Value.int .i64 (3), .string ⟨#[]⟩, .int .i64 (3), .int .i64 (0), .bool false, .string t, .complex .f64 0 0, .int .i64 (i : Nat)] : Array Value).all (·.oneCell') = true) by simp [Value.oneCell'])
        have HT4 := Lib.hid (show W2.there g4 0 (#[Value.int .i64 (3), .string ⟨#[]⟩, .int .i64 (3), .int .i64 (0), .bool false, .string t, .complex .f64 0 0, .int .i64 (i : Nat)] : Array Value).size from R4z.out.there)
        have RES := Lib.hid (R4z.out.set_all ⟨3, ⟨#[]⟩, 3, 0, t, i⟩)
        have BES := Lib.hid (show Below w.heap.size w (W2.setCells g4 0 [Value.int .i64 (3), .string ⟨#[]⟩, .int .i64 (3), .int .i64 (0), .bool false, .string t, .complex .f64 0 0, .int .i64 (i : Nat)]) from ((Out.of_below Bz.out (fun _ => False)).setCells (g := g4) (.inr HG4.out) 0 _).below (Nat.le_refl _) (fun _ _ h => h))
        go_wp2_with (first | (with_reducible refine wpList_load_mid rfl 36 (.tmp 7) rfl g7 0 rfl [Value.int .i64 (3), .string ⟨#[]⟩, .int .i64 (3), .int .i64 (0), .bool false, .string t, .complex .f64 0 0, .int .i64 (i : Nat)] _ HRow.out Tryd.underlying36 rfl HI.out ?_) | (with_reducible refine wpList_store_mid rfl 36 (.tmp 4) (.tmp 91) rfl g4 0 #[Value.int .i64 (3), .string ⟨#[]⟩, .int .i64 (3), .int .i64 (0), .bool false, .string t, .complex .f64 0 0, .int .i64 (i : Nat)] rfl rfl HT4.out HI2.out HO.out ?_; generalize hWF : World.setCells W2 g4 0 (#[Value.int .i64 (3), .string ⟨#[]⟩, .int .i64 (3), .int .i64 (0), .bool false, .string t, .complex .f64 0 0, .int .i64 (i : Nat)] : Array Value).toList = WF; have RESF := Lib.hid (show TkB WF g4 ⟨3, ⟨#[]⟩, 3, 0, t, i⟩ by rw [← hWF]; exact RES.out); have BESF := Lib.hid (show Below w.heap.size w WF by rw [← hWF]; exact BES.out); clear hWF))
        refine bodyPost_ret (results_one rfl _ _ g4 _ _ rfl RESF.out.row Tryd.underlying36 rfl (by kernel_rfl)) rfl ?_
        rw [HOE.out]
        exact ROneIs.mk_ ⟨3, ⟨#[]⟩, 3, 0, t, i⟩ BESF.out (HNZ.out) (rfl) (fun _ => rfl)
  · have HON := Lib.hid (show oneP i (L.drop i) = signP i (L.drop i) by unfold oneP; rw [HC0.out, hl, hd, if_neg (by simp), if_neg (by simp), if_neg h34])
    rw [HON.out]
    have CS := Lib.hid (wrSign s i W0 hi hs)
    rw [← HLS.out] at CS
    obtain ⟨sn, hsn⟩ : ∃ sn, signN (chP L i) (chP L (i + 1)) = sn := ⟨_, rfl⟩
    have hsp : signP i (L.drop i) = if sn = 0 then ⟨Tk.zero, 0, 120⟩ else ⟨⟨4, strOfNums ((L.drop i).take sn), 0, 0, ⟨#[]⟩, i⟩, sn, 0⟩ := by
      unfold signP; rw [chP_drop, chP_drop, Nat.add_zero, hsn]
    rw [hsn] at CS
    have e34 : (c == 34) = false := by simpa using h34
    have hsl : sn ≤ 2 ∧ (sn = 2 → chP L (i + 1) ≠ -1) := by
      rw [← hsn]
      generalize chP L (i + 1) = d
      unfold signN
      refine ⟨by (repeat' split) <;> omega, fun h2 => ?_⟩
      split at h2
      · omega
      · split at h2
        · split at h2
          · omega
          · omega
        · split at h2
          · split at h2
            · omega
            · rename_i hcd hdc
              have hcc := HCC.out
              omega
          · omega
    have hlen : ((L.drop i).take sn).length = sn := by
      rw [List.length_take, List.length_drop, HLL.out]
      by_cases h2 : sn = 2
      · have : i + 1 < s.size := by
          by_cases hlt : i + 1 < s.size
          · exact hlt
          · exact absurd (chP_end L (i + 1) (by rw [HLL.out]; omega)) (hsl.2 h2)
        omega
      · have := hsl.1; omega
    obtain ⟨t, ht⟩ : ∃ t, strOfNums ((L.drop i).take sn) = t := ⟨_, rfl⟩
    have hts : t.size = sn := by rw [← ht, strOf_size, hlen]
    rw [ht] at CS hsp
    have hs2 := hsl.1
    clear hl hd h34 hsn hlen hsl ht
    by_cases h0 : sn = 0
    · rw [if_pos h0] at hsp
      have HOE := Lib.hid hsp
      have htl : t.toList = [] := by
        rw [toList_data12]
        exact List.eq_nil_of_length_eq_zero (by have : t.data.toList.length = t.size := by simp
                                                omega)
      clear h0 hts hsp hs2
      go_enter Tryd.func29, Tryd.ntmps29
      go_upto_region 2 with fail
      rw [HW0.out, HGE.out.1, HGE.out.2]
      clear hst
      go_upto_region 3 with fail
      clear hc
      go_upto_region 27 with (first | (go_at_call 33; go_loud (refine (CLc.out _).mono ?_; rintro e wz ⟨rfl, rfl⟩)) | (go_at_call 50; go_loud (refine (CDc.out _).mono ?_; rintro e wz ⟨rfl, rfl⟩)) | (go_at_call 53; go_loud (refine CS.out.mono ?_; rintro e w1 ⟨rfl, n1, hw1⟩; have R7x := Lib.hid (show TkB w1 g7 ⟨0, ⟨#[]⟩, 0, 0, ⟨#[]⟩, i⟩ by rw [hw1]; exact HR7.out); have R4x := Lib.hid (show TkB w1 g4 ⟨0, ⟨#[]⟩, 0, 0, ⟨#[]⟩, 0⟩ by rw [hw1]; exact HR4.out); have Bx := Lib.hid (show Below w.heap.size w w1 by rw [hw1]; exact HB0.out.trans ⟨rfl, rfl, rfl, Nat.le_refl _, fun _ _ => rfl⟩); clear hw1)))
      have R7z := Lib.hid R7x.out
      have R4z := Lib.hid R4x.out
      have Bz := Lib.hid Bx.out
      have HRow := Lib.hid (show w1.rangeAt g7 0 [Value.int .i64 (0), .string ⟨#[]⟩, .int .i64 (0), .int .i64 (0), .bool false, .string ⟨#[]⟩, .complex .f64 0 0, .int .i64 (i : Nat)] from R7z.out.row)
      have HI := Lib.hid (show (Tryd.prog.info? 36).map (·.size) = some [Value.int .i64 (0), .string ⟨#[]⟩, .int .i64 (0), .int .i64 (0), .bool false, .string ⟨#[]⟩, .complex .f64 0 0, .int .i64 (i : Nat)].length by rfl)
      have HI2 := Lib.hid (show (Tryd.prog.info? 36).map (·.size) = some (#[Value.int .i64 (0), .string ⟨#[]⟩, .int .i64 (0), .int .i64 (0), .bool false, .string ⟨#[]⟩, .complex .f64 0 0, .int .i64 (i : Nat)] : Array Value).size by rfl)
      have HO := Lib.hid (show ((#[Value.int .i64 (0), .string ⟨#[]⟩, .int .i64 (0), .int .i64 (0), .bool false, .string ⟨#[]⟩, .complex .f64 0 0, .int .i64 (i : Nat)] : Array Value).all (·.oneCell') = true) by simp [Value.oneCell'])
      have HT4 := Lib.hid (show w1.there g4 0 (#[Value.int .i64 (0), .string ⟨#[]⟩, .int .i64 (0), .int .i64 (0), .bool false, .string ⟨#[]⟩, .complex .f64 0 0, .int .i64 (i : Nat)] : Array Value).size from R4z.out.there)
      have RES := Lib.hid (R4z.out.set_all ⟨0, ⟨#[]⟩, 0, 0, ⟨#[]⟩, i⟩)
      have BES := Lib.hid (show Below w.heap.size w (w1.setCells g4 0 [Value.int .i64 (0), .string ⟨#[]⟩, .int .i64 (0), .int .i64 (0), .bool false, .string ⟨#[]⟩, .complex .f64 0 0, .int .i64 (i : Nat)]) from ((Out.of_below Bz.out (fun _ => False)).setCells (g := g4) (.inr HG4.out) 0 _).below (Nat.le_refl _) (fun _ _ h => h))
      go_wp2_with (first | (with_reducible refine wpList_load_mid rfl 36 (.tmp 7) rfl g7 0 rfl [Value.int .i64 (0), .string ⟨#[]⟩, .int .i64 (0), .int .i64 (0), .bool false, .string ⟨#[]⟩, .complex .f64 0 0, .int .i64 (i : Nat)] _ HRow.out Tryd.underlying36 rfl HI.out ?_) | (with_reducible refine wpList_store_mid rfl 36 (.tmp 4) (.tmp 98) rfl g4 0 #[Value.int .i64 (0), .string ⟨#[]⟩, .int .i64 (0), .int .i64 (0), .bool false, .string ⟨#[]⟩, .complex .f64 0 0, .int .i64 (i : Nat)] rfl rfl HT4.out HI2.out HO.out ?_; generalize hWF : World.setCells w1 g4 0 (#[Value.int .i64 (0), .string ⟨#[]⟩, .int .i64 (0), .int .i64 (0), .bool false, .string ⟨#[]⟩, .complex .f64 0 0, .int .i64 (i : Nat)] : Array Value).toList = WF; have RESF := Lib.hid (show TkB WF g4 ⟨0, ⟨#[]⟩, 0, 0, ⟨#[]⟩, i⟩ by rw [← hWF]; exact RES.out); have BESF := Lib.hid (show Below w.heap.size w WF by rw [← hWF]; exact BES.out); clear hWF))
      refine bodyPost_ret (results_one rfl _ _ g4 _ _ rfl RESF.out.row Tryd.underlying36 rfl (by kernel_rfl)) rfl ?_
      rw [HOE.out]
      exact ROneIs.mk_ ⟨0, ⟨#[]⟩, 0, 0, ⟨#[]⟩, i⟩ BESF.out (rfl) (rfl) (fun h => absurd (show (120 : Int) = 0 from h) (by decide))
    · rw [if_neg h0] at hsp
      have HOE := Lib.hid hsp
      have htl : ¬ t.toList = [] := fun h => by
        rw [toList_data12] at h
        have : t.data.toList.length = t.size := by simp
        rw [h] at this
        simp at this
        omega
      have htl2 : t.toList.isEmpty = false := by
        cases h : t.toList with
        | nil => exact absurd h htl
        | cons a l => rfl
      have tz0 : (t.size : Int) ≤ 2 := by omega
      have HTS := Lib.hid (show ((i : Nat) : Int) + (t.size : Int) = ((i + sn : Nat) : Int) by omega)
      clear h0 hts hsp hs2
      go_enter Tryd.func29, Tryd.ntmps29
      go_upto_region 2 with fail
      rw [HW0.out, HGE.out.1, HGE.out.2]
      clear hst
      go_upto_region 3 with fail
      clear hc
      go_upto_region 27 with (first | (go_at_call 33; go_loud (refine (CLc.out _).mono ?_; rintro e wz ⟨rfl, rfl⟩)) | (go_at_call 50; go_loud (refine (CDc.out _).mono ?_; rintro e wz ⟨rfl, rfl⟩)) | (go_at_call 53; go_loud (refine CS.out.mono ?_; rintro e w1 ⟨rfl, n1, hw1⟩; have R7x := Lib.hid (show TkB w1 g7 ⟨0, ⟨#[]⟩, 0, 0, ⟨#[]⟩, i⟩ by rw [hw1]; exact HR7.out); have R4x := Lib.hid (show TkB w1 g4 ⟨0, ⟨#[]⟩, 0, 0, ⟨#[]⟩, 0⟩ by rw [hw1]; exact HR4.out); have Bx := Lib.hid (show Below w.heap.size w w1 by rw [hw1]; exact HB0.out.trans ⟨rfl, rfl, rfl, Nat.le_refl _, fun _ _ => rfl⟩); clear hw1)))
      have R7c := Lib.hid R7x.out
      have R4c := Lib.hid R4x.out
      have Bc := Lib.hid Bx.out
      have k0 := R7c.out.frozen 0
      have c0 : w1.cell? ⟨g7, 0, none⟩ = some (.int .i64 0) := R7c.out.cell 0
      go_upto_region 30 with (first | fail | fail)
      generalize hW1 : World.setCell w1 ⟨g7, 0, none⟩ (.int .i64 4) = W1
      have R7d := Lib.hid (show TkB W1 g7 ⟨4, ⟨#[]⟩, 0, 0, ⟨#[]⟩, i⟩ by rw [← hW1]; exact R7c.out.set_k 4)
      have R4d := Lib.hid (show TkB W1 g4 ⟨0, ⟨#[]⟩, 0, 0, ⟨#[]⟩, 0⟩ by rw [← hW1]; exact R4c.out.other (o := 0) HN47.out (.int .i64 4))
      have Bd := Lib.hid (show Below w.heap.size w W1 by rw [← hW1]; exact ((Out.of_below Bc.out (fun _ => False)).setCell (p := ⟨g7, 0, none⟩) (.inr HG7.out) (.int .i64 4)).below (Nat.le_refl _) (fun _ _ h => h))
      clear hW1 k0 c0
      have k1 := R7d.out.frozen 1
      have c1 : W1.cell? ⟨g7, 1, none⟩ = some (.string ⟨#[]⟩) := R7d.out.cell 1
      go_upto_region 31 with fail
      generalize hW2 : World.setCell W1 ⟨g7, 1, none⟩ (.string t) = W2
      have R7z := Lib.hid (show TkB W2 g7 ⟨4, t, 0, 0, ⟨#[]⟩, i⟩ by rw [← hW2]; exact R7d.out.set_t t)
      have R4z := Lib.hid (show TkB W2 g4 ⟨0, ⟨#[]⟩, 0, 0, ⟨#[]⟩, 0⟩ by rw [← hW2]; exact R4d.out.other (o := 1) HN47.out (.string t))
      have Bz := Lib.hid (show Below w.heap.size w W2 by rw [← hW2]; exact ((Out.of_below Bd.out (fun _ => False)).setCell (p := ⟨g7, 1, none⟩) (.inr HG7.out) (.string t)).below (Nat.le_refl _) (fun _ _ h => h))
      clear hW2 k1 c1
      have HRow := Lib.hid (show W2.rangeAt g7 0 [Value.int .i64 (4), .string t, .int .i64 (0), .int .i64 (0), .bool false, .string ⟨#[]⟩, .complex .f64 0 0, .int .i64 (i : Nat)] from R7z.out.row)
      have HI := Lib.hid (show (Tryd.prog.info? 36).map (·.size) = some [Value.int .i64 (4), .string t, .int .i64 (0), .int .i64 (0), .bool false, .string ⟨#[]⟩, .complex .f64 0 0, .int .i64 (i : Nat)].length by rfl)
      have HI2 := Lib.hid (show (Tryd.prog.info? 36).map (·.size) = some (#[Value.int .i64 (4), .string t, .int .i64 (0), .int .i64 (0), .bool false, .string ⟨#[]⟩, .complex .f64 0 0, .int .i64 (i : Nat)] : Array Value).size by rfl)
      have HO := Lib.hid (show ((#[Value.int .i64 (4), .string t, .int .i64 (0), .int .i64 (0), .bool false, .string ⟨#[]⟩, .complex .f64 0 0, .int .i64 (i : Nat)] : Array Value).all (·.oneCell') = true) by simp [Value.oneCell'])
      have HT4 := Lib.hid (show W2.there g4 0 (#[Value.int .i64 (4), .string t, .int .i64 (0), .int .i64 (0), .bool false, .string ⟨#[]⟩, .complex .f64 0 0, .int .i64 (i : Nat)] : Array Value).size from R4z.out.there)
      have RES := Lib.hid (R4z.out.set_all ⟨4, t, 0, 0, ⟨#[]⟩, i⟩)
      have BES := Lib.hid (show Below w.heap.size w (W2.setCells g4 0 [Value.int .i64 (4), .string t, .int .i64 (0), .int .i64 (0), .bool false, .string ⟨#[]⟩, .complex .f64 0 0, .int .i64 (i : Nat)]) from ((Out.of_below Bz.out (fun _ => False)).setCells (g := g4) (.inr HG4.out) 0 _).below (Nat.le_refl _) (fun _ _ h => h))
      go_wp2_with (first | (with_reducible refine wpList_load_mid rfl 36 (.tmp 7) rfl g7 0 rfl [Value.int .i64 (4), .string t, .int .i64 (0), .int .i64 (0), .bool false, .string ⟨#[]⟩, .complex .f64 0 0, .int .i64 (i : Nat)] _ HRow.out Tryd.underlying36 rfl HI.out ?_) | (with_reducible refine wpList_store_mid rfl 36 (.tmp 4) (.tmp 103) rfl g4 0 #[Value.int .i64 (4), .string t, .int .i64 (0), .int .i64 (0), .bool false, .string ⟨#[]⟩, .complex .f64 0 0, .int .i64 (i : Nat)] rfl rfl HT4.out HI2.out HO.out ?_; generalize hWF : World.setCells W2 g4 0 (#[Value.int .i64 (4), .string t, .int .i64 (0), .int .i64 (0), .bool false, .string ⟨#[]⟩, .complex .f64 0 0, .int .i64 (i : Nat)] : Array Value).toList = WF; have RESF := Lib.hid (show TkB WF g4 ⟨4, t, 0, 0, ⟨#[]⟩, i⟩ by rw [← hWF]; exact RES.out); have BESF := Lib.hid (show Below w.heap.size w WF by rw [← hWF]; exact BES.out); clear hWF))
      refine bodyPost_ret (results_one rfl _ _ g4 _ _ rfl RESF.out.row Tryd.underlying36 rfl (by kernel_rfl)) rfl ?_
      rw [HOE.out]
      exact ROneIs.mk_ ⟨4, t, 0, 0, ⟨#[]⟩, i⟩ BESF.out (HTS.out) (rfl) (fun _ => rfl)
end
end Go.Proofs.YtagangneoibbcaaDoor
