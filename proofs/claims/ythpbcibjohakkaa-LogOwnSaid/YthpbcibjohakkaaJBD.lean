import Derived.Test.YthpbcibjohakkaaJBC
/- A mark that is written is read; which one counts then. Over plain lists. -/
namespace Go.Proofs.Ythpbcibjohakkaa
set_option maxRecDepth 100000
set_option maxRecDepth 100000
open Go.RowKit

theorem takeText_back64 (s : ByteArray) (hs : s.size ≤ 64) (r : List Int) : takeText (textB s ++ r) 0 64 = (strB s, (textB s).length, 0) := by
  have ht := takeUint_back s.size (by omega) (strB s ++ r)
  rw [← List.append_assoc] at ht
  have ht2 : takeUint (textB s ++ r) 0 = (s.size, (uintB s.size).length, 0) := ht
  have hlen : (textB s).length = (uintB s.size).length + s.size := by unfold textB; rw [List.length_append, strB_len]
  unfold takeText
  rw [if_neg (by simp; omega), ht2]
  simp only [List.length_append]
  rw [if_neg (by omega), if_neg (by rw [hlen]; simp)]
  simp only [Int.toNat_zero, Nat.zero_add, Prod.mk.injEq, and_true]
  refine ⟨?_, by rw [hlen]⟩
  unfold textB
  rw [List.append_assoc, List.drop_left' rfl, List.take_left' (strB_len s)]

theorem strB_title : strB titleS = titleL := by decide

theorem takeMark_back (m : Mk) (size : Nat) (h0 : size ≤ 16384) (h1 : m.turn ≤ 2) (h2 : m.area ≤ 1) (h3 : m.since ≤ maxSt) : takeMark (markB m size) size = m := by
  have e1 : rdText ⟨markB m size, false⟩ = (titleL, ⟨uintB size ++ (uintB m.turn ++ (uintB m.area ++ uintB m.since)), false⟩) := by
    unfold rdText markB
    simp only
    rw [takeText_back64 titleS (by decide) _, if_neg (by simp), strB_title, List.drop_left]
  have e4 : rdNum maxSt ⟨uintB m.since, false⟩ = (m.since, ⟨[], false⟩) := by
    have := rdNum_back maxSt m.since [] false h3 (by unfold maxSt; omega)
    rwa [List.append_nil] at this
  unfold takeMark
  simp only [e1]
  rw [if_neg (by simp)]
  simp only [rdNum_back 16384 size _ false h0 (by omega)]
  rw [if_neg (by simp)]
  simp only [rdNum_back 2 m.turn _ false h1 (by omega), rdNum_back 1 m.area _ false h2 (by omega), e4]
  rw [if_neg (by simp)]

theorem over_get (L : List Cn) (ws : List (Nat × List Int)) (n : Nat) (h : ∀ x ∈ ws, x.1 ≠ n) (d : Cn) : (overW L ws).getD n d = L.getD n d := by
  rw [List.getD_eq_getElem?_getD, List.getD_eq_getElem?_getD, overW_out L ws n h]
theorem markAt_over (L : List Cn) (ws : List (Nat × List Int)) (i : Nat) (h : ∀ x ∈ ws, x.1 ≠ i) : markAt (overW L ws) i = markAt L i := by
  unfold markAt
  rw [over_get L ws i h, overW_len]
def pickM (x0 x1 : Mk) : Nat × Mk := bif x0.newer Mk.no then (bif x1.newer x0 then (1, x1) else (0, x0)) else (bif x1.newer Mk.no then (1, x1) else (0, Mk.no))
theorem findM_eq (L : List Cn) : findM L = pickM (markAt L 0) (markAt L 1) := by
  have e1 : findS L 1 = if (markAt L 0).newer Mk.no = true then (0, markAt L 0) else (0, Mk.no) := rfl
  have e2 : findS L 2 = if (markAt L 1).newer (findS L 1).2 = true then (1, markAt L 1) else findS L 1 := rfl
  show findS L 2 = _
  unfold pickM
  cases h0 : (markAt L 0).newer Mk.no with
  | true =>
    rw [h0, if_pos rfl] at e1
    rw [e1] at e2
    rw [e2]
    cases h1 : (markAt L 1).newer (markAt L 0) <;> simp [h1]
  | false =>
    rw [h0, if_neg (by simp)] at e1
    rw [e1] at e2
    rw [e2]
    cases h1 : (markAt L 1).newer Mk.no <;> simp [h1]
/-- Writes behind the marks turn none. -/
theorem findM_over (L : List Cn) (ws : List (Nat × List Int)) (h : ∀ x ∈ ws, 2 ≤ x.1) : findM (overW L ws) = findM L := by
  have h0 := markAt_over L ws 0 (fun x hx => by have := h x hx; omega)
  have h1 := markAt_over L ws 1 (fun x hx => by have := h x hx; omega)
  rw [findM_eq, findM_eq, h0, h1]
theorem uintB_bytes (n : Nat) : ∀ z ∈ uintB n, 0 ≤ z ∧ z ≤ 255 := uintB_byte n
theorem markB_byte (m : Mk) (size : Nat) : ∀ z ∈ markB m size, 0 ≤ z ∧ z ≤ 255 := by
  intro z hz
  unfold markB textB at hz
  simp only [List.mem_append] at hz
  rcases hz with (hz | hz) | hz | hz | hz | hz
  · exact uintB_byte _ z hz
  · exact strB_byte _ z hz
  · exact uintB_byte _ z hz
  · exact uintB_byte _ z hz
  · exact uintB_byte _ z hz
  · exact uintB_byte _ z hz
theorem markAt_turn (L : List Cn) (slot : Nat) (m : Mk) (hs : 1 - slot < L.length) (h0 : areaSize L.length ≤ 16384) (h1 : m.turn ≤ 2) (h2 : m.area ≤ 1) (h3 : m.since ≤ maxSt) :
    markAt (overW L (turnW slot m (areaSize L.length))) (1 - slot) = m := by
  unfold markAt
  rw [overW_len]
  have e : (overW L (turnW slot m (areaSize L.length))).getD (1 - slot) ⟨[], true⟩ = ⟨blockOf (markB m (areaSize L.length)), false⟩ := by
    simp [overW, turnW, List.getD_eq_getElem?_getD, hs]
  rw [e, blockC_back _ (markB_byte _ _) (markB_len m _ h0 h1 h2 h3), takeMark_back m _ h0 h1 h2 h3]

/-- A new mark beside the one that counts takes its place. -/
theorem findM_turn (L : List Cn) (slot : Nat) (m : Mk) (hf : findM L = (slot, m)) (a s : Nat) (hl : 2 ≤ L.length) (h0 : areaSize L.length ≤ 16384) (ha : a ≤ 1) (hs0 : 0 < s) (hs : s ≤ maxSt) :
    findM (overW L (turnW slot ⟨m.next, a, s⟩ (areaSize L.length))) = (1 - slot, ⟨m.next, a, s⟩) := by
  have hn : m.next ≤ 2 := by unfold Mk.next; omega
  have htm : m.turn ≤ 2 := by have := (findS_turn L 2).1; unfold findM at hf; rw [hf] at this; exact this
  have hf2 := hf
  rw [findM_eq] at hf2
  unfold pickM at hf2
  have nn : ∀ x : Mk, x.newer Mk.no = true → x ≠ Mk.no := by
    intro x hx e; subst e; simp [Mk.newer, Mk.no] at hx
  have hall : slot ≤ 1 ∧ (markAt L slot = m ∨ m = Mk.no) ∧ (m = Mk.no → slot = 0 ∧ (markAt L 0).newer Mk.no = false) := by
    cases hA : (markAt L 0).newer Mk.no with
    | true =>
      rw [hA] at hf2
      simp only [cond_true] at hf2
      cases hB : (markAt L 1).newer (markAt L 0) with
      | true =>
        rw [hB] at hf2
        simp only [cond_true, Prod.mk.injEq] at hf2
        obtain ⟨rfl, rfl⟩ := hf2
        refine ⟨by omega, .inl rfl, fun e => ?_⟩
        rw [e] at hB
        simp [Mk.newer, Mk.no] at hB
      | false =>
        rw [hB] at hf2
        simp only [cond_false, Prod.mk.injEq] at hf2
        obtain ⟨rfl, rfl⟩ := hf2
        exact ⟨by omega, .inl rfl, fun e => absurd e (nn _ hA)⟩
    | false =>
      rw [hA] at hf2
      simp only [cond_false] at hf2
      cases hB : (markAt L 1).newer Mk.no with
      | true =>
        rw [hB] at hf2
        simp only [cond_true, Prod.mk.injEq] at hf2
        obtain ⟨rfl, rfl⟩ := hf2
        exact ⟨by omega, .inl rfl, fun e => absurd e (nn _ hB)⟩
      | false =>
        rw [hB] at hf2
        simp only [cond_false, Prod.mk.injEq] at hf2
        obtain ⟨rfl, rfl⟩ := hf2
        exact ⟨by omega, .inr rfl, fun _ => ⟨rfl, rfl⟩⟩
  obtain ⟨hsl, hm, hslot0⟩ := hall
  have hnew := markAt_turn L slot ⟨m.next, a, s⟩ (by omega) h0 hn ha hs
  have hold : markAt (overW L (turnW slot ⟨m.next, a, s⟩ (areaSize L.length))) slot = markAt L slot := markAt_over L _ slot (fun x hx => by
    simp only [turnW, List.mem_singleton] at hx; subst hx; simp only; omega)
  have key1 : (⟨m.next, a, s⟩ : Mk).newer m = true := by simp [Mk.newer, hs0]
  have key2 : m.newer ⟨m.next, a, s⟩ = false := by
    simp only [Mk.newer, Mk.next]
    have : ¬ m.turn = ((m.turn + 1) % 3 + 1) % 3 := by omega
    simp [hs0, this]
    try (intro _; omega)
  have key0 : (⟨m.next, a, s⟩ : Mk).newer Mk.no = true := by simp [Mk.newer, Mk.no, hs0]
  rw [findM_eq]
  unfold pickM
  have hcase : slot = 0 ∨ slot = 1 := by omega
  rcases hcase with rfl | rfl
  · simp only [Nat.sub_zero] at hnew ⊢
    rw [hnew, hold]
    rcases hm with hm | hm
    · rw [hm, key1, key0]
      cases m.newer Mk.no <;> rfl
    · obtain ⟨-, h2⟩ := hslot0 hm
      rw [h2, key0]
      rfl
  · simp only [Nat.sub_self] at hnew ⊢
    rcases hm with hm | hm
    · rw [hnew, hold, hm, key0, key2]
      rfl
    · exact absurd (hslot0 hm).1 (by omega)
end Go.Proofs.Ythpbcibjohakkaa

/- Pieces that are written are read; a record that stands is told. Over plain lists. -/
namespace Go.Proofs.Ythpbcibjohakkaa
set_option maxRecDepth 100000
set_option maxRecDepth 100000
open Go.RowKit

theorem over_range (f : Nat → List Int) (b : Nat) : ∀ (n : Nat) (L : List Cn) (j : Nat), j < n → b + j < L.length → (overW L ((List.range n).map fun i => (b + i, f i)))[b + j]? = some ⟨f j, false⟩
  | 0, _, _, h, _ => absurd h (by omega)
  | n + 1, L, j, h, hl => by
    rw [List.range_succ, List.map_append, overW_app]
    by_cases hj : j = n
    · subst hj
      simp only [List.map_cons, List.map_nil, overW, List.foldl_cons, List.foldl_nil]
      rw [List.getElem?_set_self (by have := overW_len L ((List.range j).map fun i => (b + i, f i)); unfold overW at this; omega)]
    · simp only [List.map_cons, List.map_nil]
      rw [overW_out _ _ (b + j) (fun x hx => by simp only [List.mem_singleton] at hx; subst hx; simp only; omega)]
      exact over_range f b n L j (by omega) hl
theorem pieceAt_out (L : List Cn) (ws : List (Nat × List Int)) (i : Nat) (h : ∀ x ∈ ws, x.1 ≠ 2 + i) : pieceAt (overW L ws) i = pieceAt L i := by
  unfold pieceAt
  rw [over_get L ws (2 + i) h]

/-- Part i of a record. -/
def chunk (zs : List Int) (i : Nat) : List Int := (zs.drop (i * 40)).take (min (i * 40 + 40) zs.length - i * 40)
def recP (st : Nat) (zs : List Int) : List Pc := (List.range (nblocks zs.length)).map fun i => ⟨st, zs.length, i, chunk zs i⟩
theorem recP_len (st : Nat) (zs : List Int) : (recP st zs).length = nblocks zs.length := by simp [recP]
theorem recP_get (st : Nat) (zs : List Int) (i : Nat) (h : i < nblocks zs.length) : (recP st zs)[i]? = some ⟨st, zs.length, i, chunk zs i⟩ := by
  unfold recP
  rw [List.getElem?_map, List.getElem?_range h]
  rfl
theorem chunk_len (zs : List Int) (i : Nat) (h : i * 40 ≤ zs.length) : (chunk zs i).length = min (i * 40 + 40) zs.length - i * 40 := by
  unfold chunk
  rw [List.length_take, List.length_drop]
  omega
theorem pc_ok (st : Nat) (zs : List Int) (i : Nat) (hs : st ≤ maxSt) (hl : zs.length ≤ 65536) (hi : i < nblocks zs.length) : PcOk ⟨st, zs.length, i, chunk zs i⟩ := by
  have h40 := nblocks_lt _ _ hi
  have hn := nblocks_le zs.length 1639 (by omega) (by omega)
  refine ⟨hs, hl, by simp only; omega, ?_⟩
  simp only
  rw [chunk_len _ _ h40]
  unfold pieceLen
  omega
theorem pieceB_byte (p : Pc) (hb : ∀ z ∈ p.bytes, 0 ≤ z ∧ z ≤ 255) : ∀ z ∈ pieceB p, 0 ≤ z ∧ z ≤ 255 := by
  intro z hz
  unfold pieceB at hz
  simp only [List.mem_append] at hz
  rcases hz with hz | hz | hz | hz
  · exact uintB_byte _ z hz
  · exact uintB_byte _ z hz
  · exact uintB_byte _ z hz
  · exact hb z hz
theorem pieceAt_lay (L : List Cn) (zs : List Int) (st k a at_ j : Nat) (hs : st ≤ maxSt) (hl : zs.length ≤ 65536) (hb : ∀ z ∈ zs, 0 ≤ z ∧ z ≤ 255) (hj : j < nblocks zs.length) (hL : 2 + a * k + at_ + j < L.length) :
    pieceAt (overW L (layW zs st k a at_)) (a * k + at_ + j) = ⟨st, zs.length, j, chunk zs j⟩ := by
  have h40 := nblocks_lt _ _ hj
  have hn := nblocks_le zs.length 1639 (by omega) (by omega)
  have e : layW zs st k a at_ = (List.range (nblocks zs.length)).map fun i => ((2 + a * k + at_) + i, blockOf (pieceB ⟨st, zs.length, i, chunk zs i⟩)) := by
    unfold layW chunk
    apply List.map_congr_left
    intro i _
    rw [Nat.add_assoc (2 + a * k)]
  have hg := over_range (fun i => blockOf (pieceB ⟨st, zs.length, i, chunk zs i⟩)) (2 + a * k + at_) (nblocks zs.length) L j hj hL
  unfold pieceAt
  rw [e, List.getD_eq_getElem?_getD, show 2 + (a * k + at_ + j) = 2 + a * k + at_ + j from by omega, hg, Option.getD_some]
  have hcl := chunk_len zs j h40
  rw [blockC_back _ (pieceB_byte _ (fun z hz => hb z (List.mem_of_mem_drop (List.mem_of_mem_take hz)))) (pieceB_len _ hs hl (by simp only; omega) (by simp only; omega)), takePiece_back _ (pc_ok st zs j hs hl hj)]

/-- The pieces of an area. -/
def areaP (L : List Cn) (k a : Nat) : List Pc := (List.range k).map fun i => pieceAt L (a * k + i)
theorem areaP_len (L : List Cn) (k a : Nat) : (areaP L k a).length = k := by simp [areaP]
theorem areaP_get (L : List Cn) (k a i : Nat) (h : i < k) : (areaP L k a)[i]? = some (pieceAt L (a * k + i)) := by
  unfold areaP
  rw [List.getElem?_map, List.getElem?_range h]
  rfl
theorem areaP_of (L : List Cn) (k a : Nat) (ha : a ≤ 1) : ((piecesOf L (2 * k)).drop (a * k)).take k = areaP L k a := by
  apply List.ext_getElem?
  intro i
  have hak : a * k ≤ k := by have := Nat.mul_le_mul_right k ha; omega
  by_cases hi : i < k
  · rw [List.getElem?_take, if_pos hi, List.getElem?_drop, areaP_get _ _ _ _ hi]
    unfold piecesOf
    rw [List.getElem?_map, List.getElem?_range (by omega)]
    rfl
  · rw [List.getElem?_eq_none (by simp; omega), List.getElem?_eq_none (by rw [areaP_len]; omega)]
theorem areaP_out (L : List Cn) (ws : List (Nat × List Int)) (k a : Nat) (h : ∀ x ∈ ws, ∀ i, i < k → x.1 ≠ 2 + (a * k + i)) : areaP (overW L ws) k a = areaP L k a := by
  unfold areaP
  apply List.map_congr_left
  intro i hi
  exact pieceAt_out L ws _ (fun x hx => h x hx i (List.mem_range.1 hi))
theorem layW_at (zs : List Int) (st k a at_ : Nat) : ∀ x ∈ layW zs st k a at_, ∃ j, j < nblocks zs.length ∧ x.1 = 2 + (a * k + (at_ + j)) := by
  intro x hx
  unfold layW at hx
  obtain ⟨i, hi, rfl⟩ := List.mem_map.1 hx
  exact ⟨i, List.mem_range.1 hi, by simp only; omega⟩
/-- A record laid into an area. -/
theorem areaP_lay (L : List Cn) (zs : List Int) (st k a at_ : Nat) (hs : st ≤ maxSt) (hl : zs.length ≤ 65536) (hb : ∀ z ∈ zs, 0 ≤ z ∧ z ≤ 255) (ha : a ≤ 1) (hfit : at_ + nblocks zs.length ≤ k) (hL : 2 + 2 * k ≤ L.length) :
    areaP (overW L (layW zs st k a at_)) k a = (areaP L k a).take at_ ++ (recP st zs ++ (areaP L k a).drop (at_ + nblocks zs.length)) := by
  have hak : a * k ≤ k := by have := Nat.mul_le_mul_right k ha; omega
  apply List.ext_getElem?
  intro i
  by_cases hi : i < k
  · rw [areaP_get _ _ _ _ hi]
    by_cases h1 : i < at_
    · rw [List.getElem?_append_left (by rw [List.length_take, areaP_len]; omega), List.getElem?_take, if_pos h1, areaP_get _ _ _ _ hi]
      rw [pieceAt_out]
      intro x hx
      obtain ⟨j, hj, e⟩ := layW_at _ _ _ _ _ x hx
      omega
    · rw [List.getElem?_append_right (by rw [List.length_take, areaP_len]; omega), List.length_take, areaP_len, Nat.min_eq_left (by omega)]
      by_cases h2 : i < at_ + nblocks zs.length
      · rw [List.getElem?_append_left (by rw [recP_len]; omega), recP_get _ _ _ (by omega)]
        have := pieceAt_lay L zs st k a at_ (i - at_) hs hl hb (by omega) (by omega)
        rw [show a * k + i = a * k + at_ + (i - at_) from by omega, this]
      · rw [List.getElem?_append_right (by rw [recP_len]; omega), recP_len, List.getElem?_drop, show at_ + nblocks zs.length + (i - at_ - nblocks zs.length) = i from by omega, areaP_get _ _ _ _ hi]
        rw [pieceAt_out]
        intro x hx
        obtain ⟨j, hj, e⟩ := layW_at _ _ _ _ _ x hx
        omega
  · rw [List.getElem?_eq_none (by rw [areaP_len]; omega), List.getElem?_eq_none]
    simp only [List.length_append, List.length_take, List.length_drop, areaP_len, recP_len]
    omega
theorem areaP_lay_other (L : List Cn) (zs : List Int) (st k a b at_ : Nat) (hab : a ≠ b) (ha : a ≤ 1) (hb : b ≤ 1) (hfit : at_ + nblocks zs.length ≤ k) : areaP (overW L (layW zs st k a at_)) k b = areaP L k b := by
  apply areaP_out
  intro x hx i hi
  obtain ⟨j, hj, e⟩ := layW_at _ _ _ _ _ x hx
  have h : (a = 0 ∧ b = 1) ∨ (a = 1 ∧ b = 0) := by omega
  rcases h with ⟨rfl, rfl⟩ | ⟨rfl, rfl⟩ <;> simp only [Nat.zero_mul, Nat.one_mul] at e ⊢ <;> omega
theorem areaP_turn (L : List Cn) (slot : Nat) (m : Mk) (size k a : Nat) : areaP (overW L (turnW slot m size)) k a = areaP L k a := by
  apply areaP_out
  intro x hx i hi
  simp only [turnW, List.mem_singleton] at hx
  subst hx
  simp only
  omega
theorem blank : takePiece (blockC ⟨zero64, false⟩) = Pc.no := by rfl
theorem areaP_wipe (L : List Cn) (k a : Nat) (ha : a ≤ 1) (hL : 2 + 2 * k ≤ L.length) : ∀ p ∈ areaP (overW L (wipeW k a)) k a, p = Pc.no := by
  intro p hp
  obtain ⟨i, hi, rfl⟩ := List.mem_map.1 hp
  have hi := List.mem_range.1 hi
  have hak : a * k ≤ k := by have := Nat.mul_le_mul_right k ha; omega
  have hg := over_range (fun _ => zero64) (2 + a * k) k L i hi (by omega)
  unfold pieceAt
  rw [List.getD_eq_getElem?_getD, show 2 + (a * k + i) = 2 + a * k + i from by omega]
  unfold wipeW
  rw [hg, Option.getD_some]
  exact blank
theorem areaP_wipe_other (L : List Cn) (k a b : Nat) (hab : a ≠ b) (ha : a ≤ 1) (hb : b ≤ 1) : areaP (overW L (wipeW k a)) k b = areaP L k b := by
  apply areaP_out
  intro x hx i hi
  unfold wipeW at hx
  obtain ⟨j, hj, rfl⟩ := List.mem_map.1 hx
  have hj := List.mem_range.1 hj
  have h : (a = 0 ∧ b = 1) ∨ (a = 1 ∧ b = 0) := by omega
  rcases h with ⟨rfl, rfl⟩ | ⟨rfl, rfl⟩ <;> simp only [Nat.zero_mul, Nat.one_mul] <;> omega
end Go.Proofs.Ythpbcibjohakkaa
