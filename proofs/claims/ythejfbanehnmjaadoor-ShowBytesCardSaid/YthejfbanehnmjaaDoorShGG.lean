/- The columns of a text's two parts, cut at a border; where Cut cuts (pure). -/
import Derived.Test.YthejfbanehnmjaaDoorShAG
import Derived.Test.YthejfbanehnmjaaDoorLastG
set_option linter.unusedSimpArgs false
set_option linter.unusedVariables false
namespace Go.Proofs.YthejfbanehnmjaaDoor
open Go.RowKit Go.Lib

/-- cut at the n-th cluster -/
theorem cls_cut (s : ByteArray) (n : Nat) (hn : n ≤ (pcs s).length) : ∃ k, IsBord s k ∧ (pcs s).drop n = pcsF s (chars s) k ∧ clsB (s.extract 0 (placeAt s k)) = (clsB s).take n ∧ clsB (s.extract (placeAt s k) s.size) = (clsB s).drop n := by
  obtain ⟨k, hk, hd⟩ := split_at s n hn
  refine ⟨k, hk, hd, ?_, ?_⟩
  · unfold clsB
    rw [take_cut s n k hn hk hd, List.map_take]
  · obtain ⟨h1, h2⟩ := drop_cut s k hk
    unfold clsB
    rw [← List.map_drop, hd]
    apply List.ext_getElem?
    intro i
    rw [List.getElem?_map, List.getElem?_map]
    cases hx : (pcsF s (chars s) k)[i]? with
    | none =>
      have := List.getElem?_eq_none_iff.1 hx
      rw [List.getElem?_eq_none (by omega)]
    | some x =>
      have hi := (List.getElem?_eq_some_iff.1 hx).1
      have hy := List.getElem?_eq_getElem (show i < (pcs (s.extract (placeAt s k) s.size)).length by omega)
      rw [hy]
      have := (h2 i x _ hx hy).1
      simp [this]
theorem wide_split (rz wd : Bool) (tb : Int) (s : ByteArray) (c n : Nat) : sumW rz wd (tabN tb) ((clsB s).take n) c + sumW rz wd (tabN tb) ((clsB s).drop n) (c + sumW rz wd (tabN tb) ((clsB s).take n) c) = wideZ rz wd tb s c := by
  unfold wideZ
  rw [← sumW_append, List.take_append_drop]
theorem fit_le (rz wd : Bool) (tb : Int) (w : Int) (s : ByteArray) : fitN rz wd (tabN tb) w (clsB s) 0 ≤ (pcs s).length := by
  have := fitN_le rz wd (tabN tb) w (clsB s) 0
  rwa [clsB_len] at this
theorem fit_neg (rz wd : Bool) (tb : Nat) (w : Int) (h : w < 0) (L : List (List UInt8)) (c : Nat) : fitN rz wd tb w L c = 0 := by
  cases L with
  | nil => rfl
  | cons k L =>
    unfold fitN
    rw [if_pos (by omega)]
/-- where Cut cuts: ahead of the first cluster that has no place -/
theorem cut_at (rz wd : Bool) (tb : Int) (w : Int) (s : ByteArray) (n k : Nat) (hn : fitN rz wd (tabN tb) w (clsB s) 0 = n) (hk : IsBord s k) (hd : (pcs s).drop n = pcsF s (chars s) k) : cutZ rz wd tb s w = placeAt s k := by
  have hle := fit_le rz wd tb w s
  unfold cutZ
  rw [hn] at hle ⊢
  rcases Nat.lt_or_ge n (pcs s).length with h | h
  · rw [(drop_at s n k hd h).2]
  · obtain rfl : n = (pcs s).length := by omega
    rw [List.getElem?_eq_none (Nat.le_refl _), drop_none s k hk hd, placeAt_all]
end Go.Proofs.YthejfbanehnmjaaDoor

/- What is shown of one cluster, in the program's words and in the document's (pure). -/
namespace Go.Proofs.YthejfbanehnmjaaDoor
open Go.RowKit Go.Lib

theorem clu_good {k : List UInt8} (h : Clu k) (hb : ¬ ((dec k).1 = 65533 ∧ (dec k).2 = 1)) : ∀ d ∈ segs k, badSeg d = false := by
  intro d hd
  obtain ⟨i, hi, rfl⟩ := List.getElem_of_mem hd
  cases hbd : badSeg ((segs k)[i]) with
  | false => rfl
  | true =>
    rcases Nat.lt_or_ge (segs k).length 2 with h2 | h2
    · obtain rfl : i = 0 := by omega
      exfalso
      apply hb
      have e : (segs k)[0] = dec k := by
        have := segs_cons k h.1
        simp [this]
      rw [e] at hbd
      unfold badSeg at hbd
      simp at hbd
      exact ⟨hbd.2, hbd.1⟩
    · exact absurd (role_bad (segs k) i _ (List.getElem?_eq_getElem hi) hbd) (clD_notBad (segs k) (by rw [h.2.1]; exact h2) i (by rw [h.2.1]; exact hi))
theorem circ_clu {k : List UInt8} (h : Clu k) (raw wid : Bool) (stop : Nat) : oneZ (circP k) raw wid stop k = oneZ (circD k) raw wid stop k := by
  by_cases hb : (dec k).1 = 65533 ∧ (dec k).2 = 1
  · unfold oneZ
    dsimp only
    rw [if_neg h.1, if_neg h.1, if_pos hb, if_pos hb]
  · rw [circ_same (clu_good h hb) h.2.2]
/-- the document's words on one cluster are the program's -/
theorem doc_clu {k : List UInt8} (h : Clu k) (raw wid : Bool) (stop : Nat) : oneY (circD k) raw wid stop k = oneZ (circP k) raw wid stop k := by
  rw [h.same, ← circ_clu h]
/-- the first cluster of a text is one, if there is any -/
theorem first_clu {l : List UInt8} (h : l ≠ []) : Clu (firstK l) := by
  obtain ⟨s, rfl⟩ : ∃ s : ByteArray, l = s.data.toList := ⟨⟨l.toArray⟩, by simp⟩
  have hc : 0 < chars s := by
    have := List.length_pos_iff.2 (segs_ne _ h)
    exact this
  have := cut_clu (s := s) (i := 0) hc
  have e : (s.extract (placeAt s 0) (placeAt s (clEnd s 0))).data.toList = firstK s.data.toList := by
    rw [placeAt_zero, take_list]
    unfold firstK placeAt clEnd
    simp
  rwa [e] at this
theorem first_nil : firstK [] = [] := by
  unfold firstK
  simp
/-- one cluster's first cluster is itself -/
theorem first_self {k : List UInt8} (h : Clu k) : firstK k = k := by
  unfold firstK
  rw [h.2.1, List.take_of_length_le (Nat.le_refl _), total_segs, List.take_length]
end Go.Proofs.YthejfbanehnmjaaDoor

/- What is shown of a single byte (pure). -/
namespace Go.Proofs.YthejfbanehnmjaaDoor
open Go.RowKit Go.Lib

theorem dec_byte (b : UInt8) : (b.toNat < 128 → dec [b] = (b.toNat, 1)) ∧ (128 ≤ b.toNat → dec [b] = (65533, 1)) := by
  have h : ∀ b : UInt8, (b.toNat < 128 → dec [b] = (b.toNat, 1)) ∧ (128 ≤ b.toNat → dec [b] = (65533, 1)) := by
    intro b
    have h0 : gb [b] 0 = b.toNat := rfl
    have h1 : gb [b] 1 = 0 := rfl
    have h2 : gb [b] 2 = 0 := rfl
    have h3 : gb [b] 3 = 0 := rfl
    unfold dec decodeN
    rw [h0, h1, h2, h3]
    constructor
    · intro h
      rw [if_pos h]
    · intro h
      repeat' split
      all_goals first | rfl | (exfalso; simp at *; omega) | omega
  exact h b
theorem segs_byte (b : UInt8) : segs [b] = [dec [b]] := by
  have h := segs_cons [b] (by simp)
  have h2 : (dec [b]).2 = 1 := by
    have := dec_byte b
    rcases Nat.lt_or_ge b.toNat 128 with hb | hb
    · rw [this.1 hb]
    · rw [this.2 hb]
  rw [h2] at h
  rw [h, show List.drop 1 [b] = [] from rfl, segs_nil]
theorem clu_byte (b : UInt8) : Clu [b] := by
  have h := segs_byte b
  refine clu_most (by simp) ?_
  have hb := clD_bounds (ds := segs [b]) (by rw [h]; simp)
  have hl : (segs [b]).length = 1 := by rw [h]; rfl
  omega
theorem low_tab : ∀ b < 127, 32 ≤ b → (kN b ≠ 1 ∧ kN b ≠ 2 ∧ wideOf (cls widthsL (char b)) false = 1 ∧ wideOf (cls widthsL (char b)) true = 1) := by decide +kernel
/-- a printable byte shows itself -/
theorem show_low (circ : List UInt8) (raw wid : Bool) (stop : Nat) (b : UInt8) (h1 : 32 ≤ b.toNat) (h2 : b.toNat < 127) : oneZ circ raw wid stop [b] = ([b], 1) := by
  have hd := (dec_byte b).1 (by omega)
  have hk := k_ctl b.toNat
  obtain ⟨t1, t2, t3, t4⟩ := low_tab b.toNat h2 h1
  have hs : secZ [b] = 65533 := by unfold secZ; rw [segs_byte]; rfl
  have hw : wideOf (cls widthsL (char b.toNat)) wid = 1 := by cases wid; exact t3; exact t4
  have hreg : regN b.toNat = false := by unfold regN; simp; omega
  unfold oneZ
  dsimp only
  rw [hd, hs]
  simp only
  rw [if_neg (by simp), if_neg (by omega), if_neg (by omega), if_neg (by omega), if_neg (by omega), if_neg (by omega), if_neg (by rw [hreg]; simp), hw]
  rfl
theorem xor_low2 : ∀ x < 128, (x < 32 ∨ x = 127) → 32 ≤ (UInt8.ofNat (Nat.xor x 64)).toNat ∧ (UInt8.ofNat (Nat.xor x 64)).toNat ≤ 126 := by decide +kernel
theorem hexD_low : ∀ d < 16, 32 ≤ (hexD d).toNat ∧ (hexD d).toNat ≤ 126 := by decide +kernel
/-- any other byte is shown in printable ones, as many as columns -/
theorem show_other (circ : List UInt8) (raw wid : Bool) (stop : Nat) (b : UInt8) (h : b.toNat < 32 ∨ 127 ≤ b.toNat) (hs : 1 ≤ stop) (L : List UInt8) (n : Nat) (he : oneZ circ raw wid stop [b] = (L, n)) :
    L.length = n ∧ (n = 0 ↔ b.toNat = 10) ∧ ∀ y ∈ L, 32 ≤ y.toNat ∧ y.toNat ≤ 126 := by
  have hbt := b.toNat_lt
  rcases Nat.lt_or_ge b.toNat 128 with hb | hb
  · have hd := (dec_byte b).1 hb
    have hk := (k_ctl b.toNat).2 (by omega)
    have hg : gb [b] 0 = b.toNat := rfl
    have h9 : ([b] = [9]) ↔ b.toNat = 9 := by
      simp only [List.cons.injEq, and_true]
      exact ⟨fun e => by rw [e]; rfl, fun e => UInt8.toNat_inj.1 e⟩
    have h10 : ([b] = [10]) ↔ b.toNat = 10 := by
      simp only [List.cons.injEq, and_true]
      exact ⟨fun e => by rw [e]; rfl, fun e => UInt8.toNat_inj.1 e⟩
    unfold oneZ at he
    dsimp only at he
    rw [hd] at he
    simp only at he
    rw [if_neg (by simp), if_neg (by omega), if_pos hk, if_pos (by omega), hg] at he
    by_cases e9 : b.toNat = 9
    · rw [if_pos (h9.2 e9)] at he
      obtain ⟨rfl, rfl⟩ := Prod.mk.inj he
      refine ⟨by simp, by omega, fun y hy => ?_⟩
      rw [(List.mem_replicate.1 hy).2]
      decide
    · rw [if_neg (fun e => e9 (h9.1 e))] at he
      by_cases e10 : b.toNat = 10
      · rw [if_pos (.inl (h10.2 e10))] at he
        obtain ⟨rfl, rfl⟩ := Prod.mk.inj he
        refine ⟨rfl, by simp [e10], by simp⟩
      · rw [if_neg (fun e => e.elim (fun e => e10 (h10.1 e)) (fun e => by simp at e))] at he
        obtain ⟨rfl, rfl⟩ := Prod.mk.inj he
        have hx := xor_low2 b.toNat hb (by omega)
        refine ⟨rfl, by omega, fun y hy => ?_⟩
        simp only [List.mem_cons, List.not_mem_nil, or_false] at hy
        rcases hy with rfl | rfl
        · decide
        · exact hx
  · have hd := (dec_byte b).2 hb
    have hg : gb [b] 0 = b.toNat := rfl
    unfold oneZ at he
    dsimp only at he
    rw [hd] at he
    simp only at he
    rw [if_neg (by simp), if_pos (by simp), hg, ang_byte _ (by omega)] at he
    obtain ⟨rfl, rfl⟩ := Prod.mk.inj he
    have h1 := hexD_low (b.toNat / 16) (by omega)
    have h2 := hexD_low (b.toNat % 16) (by omega)
    refine ⟨rfl, by omega, fun y hy => ?_⟩
    simp only [List.mem_cons, List.not_mem_nil, or_false] at hy
    rcases hy with rfl | rfl | rfl | rfl
    · decide
    · exact h1
    · exact h2
    · decide
end Go.Proofs.YthejfbanehnmjaaDoor
