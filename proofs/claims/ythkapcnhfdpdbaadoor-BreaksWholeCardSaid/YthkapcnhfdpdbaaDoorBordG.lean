/- isCertain: what stands on both sides of a place alone. -/
import Derived.Test.YthkapcnhfdpdbaaDoorCount
set_option linter.unusedSimpArgs false
set_option linter.unusedVariables false
namespace Go.Proofs.YthkapcnhfdpdbaaDoor
open Go.RowKit Go.Shelf Go.Lib

theorem segs_upto (l : List UInt8) (i : Nat) (h : i ≤ (segs l).length) : segs (l.take (total ((segs l).take i))) = (segs l).take i := by
  rcases Nat.lt_or_ge i (segs l).length with hlt | hge
  · obtain ⟨hb, _, _⟩ := segs_at l i hlt
    have hp := segs_parts hb
    have hr := segs_rest l i h
    have hlen := congrArg List.length hp
    rw [List.length_append, hr, List.length_drop] at hlen
    have h2 : (segs (l.take (total ((segs l).take i)))).length = i := by omega
    have := congrArg (List.take i) hp
    rw [List.take_append_of_le_length (by omega), List.take_of_length_le (by omega)] at this
    exact this
  · rw [List.take_of_length_le hge, total_segs, List.take_length]
theorem placeAt_ext (s : ByteArray) (i j : Nat) (hij : i ≤ j) (hj : j ≤ chars s) : segs ((s.extract (placeAt s i) (placeAt s j)).data.toList) = ((segs s.data.toList).drop i).take (j - i) := by
  have hle := placeAt_mono s hij
  have e : (s.extract (placeAt s i) (placeAt s j)).data.toList = (s.data.toList.drop (placeAt s i)).take (placeAt s j - placeAt s i) := by
    rw [ByteArray.data_extract, Array.toList_extract, List.extract_eq_take_drop]
  rw [e]
  have hr : segs (s.data.toList.drop (placeAt s i)) = (segs s.data.toList).drop i := segs_rest _ _ (Nat.le_trans hij hj)
  have hpl : placeAt s j - placeAt s i = total ((segs (s.data.toList.drop (placeAt s i))).take (j - i)) := by
    rw [hr]
    have := placeAt_add s i (j - i)
    rw [Nat.add_sub_cancel' hij] at this
    omega
  rw [hpl, segs_upto _ _ (by rw [hr, List.length_drop]; have : (segs s.data.toList).length = chars s := rfl; omega), hr]
/-- the i-th character or bad byte -/
def sign (s : ByteArray) (i : Nat) : Nat × Nat := (segs s.data.toList).getD i (0, 0)
theorem sign_at {s : ByteArray} {i : Nat} (h : i < chars s) : (segs s.data.toList)[i]? = some (sign s i) := by
  unfold sign
  rw [List.getD_eq_getElem?_getD, List.getElem?_eq_getElem h]
  rfl
theorem sign_nxt {s : ByteArray} {i : Nat} (h : i < chars s) : nxt (s.data.toList.drop (placeAt s i)) = sign s i := by
  have := (nxt_at h).1
  rw [sign_at h] at this
  exact (Option.some.inj this).symm
theorem sign_size {s : ByteArray} {i : Nat} (h : i < chars s) : placeAt s i + (sign s i).2 = placeAt s (i + 1) ∧ 0 < (sign s i).2 ∧ (sign s i).2 ≤ 4 := by
  obtain ⟨_, h2, h3, h4⟩ := nxt_at h
  rw [sign_nxt h] at h2 h3 h4
  exact ⟨h2, by omega, h4⟩
theorem sign_last {s : ByteArray} {i : Nat} (h : i < chars s) : decodeLastL (s.data.toList.take (placeAt s (i + 1))) = sign s i := by
  obtain ⟨hb, h2, h3⟩ := segs_at s.data.toList i h
  have hs : dec (s.data.toList.drop (placeAt s i)) = sign s i := by
    rw [sign_at h] at h2
    exact (Option.some.inj h2).symm
  rw [← (sign_size h).1, ← hs]
  exact last_at hb h3
theorem roleAt_sign {s : ByteArray} {i : Nat} (h : i < chars s) : roleAt s i = roleN (sign s i).1 (sign s i).2 := by
  unfold roleAt
  rw [sign_at h]
/-- is the i-th place a border by what stands on both its sides alone? -/
def certB (s : ByteArray) (i : Nat) : Bool := i == 0 || (!((sign s (i - 1)).1 == 8205 && roleAt s i == 64) && clD [sign s (i - 1), sign s i] == 1)
theorem cnext_two (s : ByteArray) (i : Nat) (w : World) (hi : i + 1 < chars s) (hT : Utf8Tabs 0 1 w) (hm : s.size ≤ 140737488351232) :
    Calls Tryd.prog 36 #[.string (s.extract (placeAt s i) (placeAt s (i + 2)))] w fun e w' => e = .returned (.int .i64 ((total ([sign s i, sign s (i + 1)].take (clD [sign s i, sign s (i + 1)])) : Nat) : Int)) ∧ Below w.heap.size w w' := by
  have hseg : segs ((s.extract (placeAt s i) (placeAt s (i + 2))).data.toList) = [sign s i, sign s (i + 1)] := by
    rw [placeAt_ext s i (i + 2) (by omega) (by omega), show i + 2 - i = 2 by omega]
    have h1 := sign_at (s := s) (i := i) (by omega)
    have h2 := sign_at (s := s) (i := i + 1) hi
    apply List.ext_getElem?
    intro k
    match k with
    | 0 => rw [List.getElem?_take_of_lt (by omega), List.getElem?_drop, Nat.add_zero, h1]; rfl
    | 1 => rw [List.getElem?_take_of_lt (by omega), List.getElem?_drop, h2]; rfl
    | k + 2 => rw [List.getElem?_eq_none (by simp; omega), List.getElem?_eq_none (by simp)]
  refine (cnext_any (s.extract (placeAt s i) (placeAt s (i + 2))) w hT (by simp; omega)).mono ?_
  rintro e w' ⟨k, hk, rfl, hb⟩
  refine ⟨?_, hb⟩
  have hk := first_clD hk
  rw [hseg] at hk
  subst hk
  rw [show ∀ q, placeAt (s.extract (placeAt s i) (placeAt s (i + 2))) q = total ((segs (s.extract (placeAt s i) (placeAt s (i + 2))).data.toList).take q) from fun q => rfl, hseg]

set_option maxRecDepth 100000 in
set_option maxHeartbeats 1000000 in
theorem cert_any (s : ByteArray) (i : Nat) (w : World) (hi : i < chars s) (hs : s.size ≤ 140737488351232) (hT : Utf8Tabs 0 1 w) : Calls Tryd.prog 69 #[.string s, .int .i64 (placeAt s i : Int)] w fun e w' => e = .returned (.bool (certB s i)) ∧ Below w.heap.size w w' := by
  cases i with
  | zero =>
    have h0 : ((placeAt s 0 : Int) == 0) = true := rfl
    have hc : certB s 0 = true := rfl
    rw [hc]
    go_enter Tryd.func69, Tryd.ntmps69
    go_wp2_with fail
    go_ret
    exact ⟨rfl, Below.refl _ _⟩
  | succ j =>
    have hpl := placeAt_lt s (show j < j + 1 by omega) (by omega)
    have hle := placeAt_le s (j + 1)
    have hle2 := placeAt_le s (j + 2)
    obtain ⟨z1, z2, z3⟩ := sign_size (s := s) (i := j) (by omega)
    obtain ⟨y1, y2, y3⟩ := sign_size (s := s) (i := j + 1) hi
    have hL : ∀ W, Utf8Tabs 0 1 W → Calls Tryd.prog 81 #[.string (s.extract 0 (placeAt s (j + 1)))] W fun e w' => e = .returned (.tuple #[.int .i32 ((sign s j).1 : Nat), .int .i64 ((sign s j).2 : Nat)]) ∧ Below W.heap.size W w' := fun W hT => by
      have := last_any (s.extract 0 (placeAt s (j + 1))) W (by unfold maxLen; simp; omega) hT
      rw [take_list, sign_last (by omega)] at this
      exact this
    have hN : ∀ W, Utf8Tabs 0 1 W → Calls Tryd.prog 24 #[.string (s.extract (placeAt s (j + 1)) s.size)] W fun e w' => e = .returned (.tuple #[.int .i32 ((sign s (j + 1)).1 : Nat), .int .i64 ((sign s (j + 1)).2 : Nat)]) ∧ Below W.heap.size W w' := fun W hT => by
      have := next_any (s.extract (placeAt s (j + 1)) s.size) W hT
      rw [drop_list, sign_nxt hi] at this
      exact this
    have hR := fun W => role_any (sign s (j + 1)).1 (sign s (j + 1)).2 W
    have hC := fun W hT => cnext_two s j W hi hT hs
    have hcert : certB s (j + 1) = (!((sign s j).1 == 8205 && roleN (sign s (j + 1)).1 (sign s (j + 1)).2 == 64) && clD [sign s j, sign s (j + 1)] == 1) := by
      unfold certB
      rw [roleAt_sign hi]
      simp
    have hcb := clD_bounds (ds := [sign s j, sign s (j + 1)]) (by simp)
    rw [hcert]
    have htot : clD [sign s j, sign s (j + 1)] = 1 ∧ total ([sign s j, sign s (j + 1)].take (clD [sign s j, sign s (j + 1)])) = (sign s j).2 ∨ clD [sign s j, sign s (j + 1)] = 2 ∧ total ([sign s j, sign s (j + 1)].take (clD [sign s j, sign s (j + 1)])) = (sign s j).2 + (sign s (j + 1)).2 := by
      have hc2 : clD [sign s j, sign s (j + 1)] = 1 ∨ clD [sign s j, sign s (j + 1)] = 2 := by
        have := hcb.2.1
        simp at this
        omega
      rcases hc2 with h | h
      · exact .inl ⟨h, by rw [h]; simp [total]⟩
      · exact .inr ⟨h, by rw [h]; simp [total]⟩
    clear hcb hcert
    have hp0 : ((placeAt s (j + 1) : Int) == 0) = false := by simp; omega
    obtain ⟨c, hc⟩ : ∃ c, clD [sign s j, sign s (j + 1)] = c := ⟨_, rfl⟩
    obtain ⟨tt, htt⟩ : ∃ tt, total ([sign s j, sign s (j + 1)].take c) = tt := ⟨_, rfl⟩
    rw [hc] at htot hC ⊢
    rw [htt] at htot hC
    obtain ⟨ro, hro⟩ : ∃ ro, roleN (sign s (j + 1)).1 (sign s (j + 1)).2 = ro := ⟨_, rfl⟩
    rw [hro] at hR ⊢
    obtain ⟨z, hz⟩ : ∃ z, sign s j = z := ⟨_, rfl⟩
    obtain ⟨y, hy⟩ : ∃ y, sign s (j + 1) = y := ⟨_, rfl⟩
    rw [hz] at z1 z2 z3 hL htot ⊢
    rw [hy] at y1 y2 y3 hN hR htot
    obtain ⟨p, hp⟩ : ∃ p, placeAt s (j + 1) = p := ⟨_, rfl⟩
    obtain ⟨p0, hpp⟩ : ∃ p0, placeAt s j = p0 := ⟨_, rfl⟩
    obtain ⟨p1, hp1⟩ : ∃ p1, placeAt s (j + 2) = p1 := ⟨_, rfl⟩
    rw [hp] at hpl hle z1 y1 hL hN hp0 ⊢
    rw [hpp] at hpl z1 hC
    rw [show j + 1 + 1 = j + 2 from rfl, hp1] at y1
    rw [hp1] at hle2 hC
    have hw1 : IntKind.i64.wrap ((p : Int) - (z.2 : Int)) = (p0 : Int) := by rw [IntWalk.i64_in _ (by omega)]; omega
    have hw2 : IntKind.i64.wrap ((p : Int) + (y.2 : Int)) = (p1 : Int) := by rw [IntWalk.i64_in _ (by omega)]; omega
    have i1 : (p : Int) ≤ (s.size : Int) := by omega
    have i2 : (p0 : Int) ≤ (p1 : Int) := by omega
    have i3 : (p1 : Int) ≤ (s.size : Int) := by omega
    have HL := Lib.hid hL
    have HN := Lib.hid hN
    have HR := Lib.hid hR
    have HC := Lib.hid hC
    have HT := Lib.hid hT
    have Hz1 := Lib.hid z1
    have Hy1 := Lib.hid y1
    clear hL hN hR hC hT hc htt hro hz hy hp hpp hp1 z1 y1
    obtain ⟨res, hres⟩ : ∃ res, (!(z.1 == 8205 && ro == 64) && c == 1) = res := ⟨_, rfl⟩
    rw [hres]
    have Hres := Lib.hid hres
    clear hres
    go_enter Tryd.func69, Tryd.ntmps69
    go_wp2_with fail
    refine (HL.out _ HT.out).mono ?_
    rintro _ w1 ⟨rfl, b1⟩
    have T1 := Lib.hid (Utf8Tabs_below HT.out b1)
    go_wp2_with fail
    refine (HN.out _ T1.out).mono ?_
    rintro _ w2 ⟨rfl, b2⟩
    have T2 := Lib.hid (Utf8Tabs_below T1.out b2)
    have B2 := Lib.hid (b1.trans (b2.mono b1.size))
    clear b1 b2
    by_cases hz5 : z.1 = 8205
    · have hzb : ((z.1 : Int) == 8205) = true := by simp; omega
      have hzn : (z.1 == 8205) = true := by simp; omega
      have Hzn := Lib.hid hzn
      clear hz5 hzn
      go_wp2_with fail
      refine (HR.out _).mono ?_
      rintro _ w3 ⟨rfl, b3⟩
      have T3 := Lib.hid (Utf8Tabs_below T2.out b3)
      have B3 := Lib.hid (B2.out.trans (b3.mono B2.out.size))
      clear b3
      by_cases hr : ro = 64
      · subst hr
        have e : res = false := by rw [← Hres.out, Hzn.out]; rfl
        subst e
        go_wp2_with fail
        go_ret
        exact ⟨rfl, B3.out⟩
      · have hrb : ((ro : Int) == 64) = false := by simp; omega
        have hrn : (ro == 64) = false := by simp; omega
        have Hrn := Lib.hid hrn
        clear hr hrn
        go_wp2_with fail
        refine (HC.out _ T3.out).mono ?_
        rintro _ w9 ⟨rfl, b9⟩
        have B9 := Lib.hid (B3.out.trans (b9.mono B3.out.size))
        clear b9
        rcases htot with ⟨rfl, ht⟩ | ⟨rfl, ht⟩
        · have hb : ((tt : Int) == (z.2 : Int)) = true := by simp; omega
          clear ht
          have e : res = true := by rw [← Hres.out, Hzn.out, Hrn.out]; rfl
          subst e
          go_wp2_with fail
          go_ret
          exact ⟨rfl, B9.out⟩
        · have hb : ((tt : Int) == (z.2 : Int)) = false := by simp; omega
          clear ht
          have e : res = false := by rw [← Hres.out, Hzn.out, Hrn.out]; rfl
          subst e
          go_wp2_with fail
          go_ret
          exact ⟨rfl, B9.out⟩
    · have hzb : ((z.1 : Int) == 8205) = false := by simp; omega
      have hzn : (z.1 == 8205) = false := by simp; omega
      have Hzn := Lib.hid hzn
      clear hz5 hzn
      go_wp2_with fail
      refine (HC.out _ T2.out).mono ?_
      rintro _ w9 ⟨rfl, b9⟩
      have B9 := Lib.hid (B2.out.trans (b9.mono B2.out.size))
      clear b9
      rcases htot with ⟨rfl, ht⟩ | ⟨rfl, ht⟩
      · have hb : ((tt : Int) == (z.2 : Int)) = true := by simp; omega
        clear ht
        have e : res = true := by rw [← Hres.out, Hzn.out]; rfl
        subst e
        go_wp2_with fail
        go_ret
        exact ⟨rfl, B9.out⟩
      · have hb : ((tt : Int) == (z.2 : Int)) = false := by simp; omega
        clear ht
        have e : res = false := by rw [← Hres.out, Hzn.out]; rfl
        subst e
        go_wp2_with fail
        go_ret
        exact ⟨rfl, B9.out⟩
end Go.Proofs.YthkapcnhfdpdbaaDoor

/- endOfCharacter: the end of the character that has a byte. -/
namespace Go.Proofs.YthkapcnhfdpdbaaDoor
open Go.RowKit Go.Shelf Go.Lib

theorem place_has (s : ByteArray) (p : Nat) : ∀ n, n ≤ chars s → p < placeAt s n → ∃ i, i < n ∧ placeAt s i ≤ p ∧ p < placeAt s (i + 1)
  | 0, _, h => by rw [placeAt_zero] at h; omega
  | n + 1, hn, h => by
    by_cases hp : p < placeAt s n
    · obtain ⟨i, h1, h2⟩ := place_has s p n (by omega) hp
      exact ⟨i, by omega, h2⟩
    · exact ⟨n, by omega, by omega, h⟩
theorem placeAt_all (s : ByteArray) : placeAt s (chars s) = s.size := by
  have := placeAt_end s
  rw [places_len] at this
  exact this
/-- the one that has the byte at p -/
theorem has_byte (s : ByteArray) (p : Nat) (h : p < s.size) : ∃ i, i < chars s ∧ placeAt s i ≤ p ∧ p < placeAt s (i + 1) := place_has s p (chars s) (Nat.le_refl _) (by rw [placeAt_all]; exact h)
theorem inner_one (s : ByteArray) (i f : Nat) (hi : i < chars s) (h1 : placeAt s i < f) (h2 : f < placeAt s (i + 1)) : (nxt (s.data.toList.drop f)).2 = 1 := by
  obtain ⟨z1, z2, z3⟩ := sign_size hi
  have hle := placeAt_le s (i + 1)
  have hne : s.data.toList.drop f ≠ [] := drop_ne _ _ (by rw [size_list]; omega)
  have hne2 : s.data.toList.drop (placeAt s i) ≠ [] := drop_ne _ _ (by rw [size_list]; omega)
  have hd : dec (s.data.toList.drop (placeAt s i)) = sign s i := by
    have := sign_nxt hi
    unfold nxt at this
    rwa [if_neg hne2] at this
  have hin := dec_in _ hne2 (f - placeAt s i) (by omega) (by rw [hd]; omega)
  rw [gb_drop, Nat.add_sub_cancel' (Nat.le_of_lt h1)] at hin
  unfold nxt
  rw [if_neg hne]
  have hf := dec_facts _ hne
  have h0 : gb (s.data.toList.drop f) 0 = gb s.data.toList f := by rw [gb_drop, Nat.add_zero]
  rcases Nat.lt_or_ge (dec (s.data.toList.drop f)).2 2 with h | h
  · omega
  · have := (hf.2.2.2.1 h).1
    rw [h0] at this
    omega
/-- none that begins ahead of a border lies over it -/
theorem no_cross (s : ByteArray) (i f : Nat) (hi : i ≤ chars s) (hf : f < placeAt s i) : f + (nxt (s.data.toList.drop f)).2 ≤ placeAt s i := by
  obtain ⟨j, hj, h1, h2⟩ := place_has s f i hi hf
  have hm := placeAt_mono s (show j + 1 ≤ i from hj)
  rcases Nat.eq_or_lt_of_le h1 with he | hlt
  · subst he
    have := (sign_size (s := s) (i := j) (by omega)).1
    rw [sign_nxt (by omega)]
    omega
  · have := inner_one s j f (by omega) hlt h2
    omega
set_option maxRecDepth 100000 in
set_option maxHeartbeats 1000000 in
theorem endc_any (s : ByteArray) (p i : Nat) (w : World) (hi : i < chars s) (h1 : placeAt s i ≤ p) (h2 : p < placeAt s (i + 1)) (hs : s.size ≤ 140737488351232) (hT : Utf8Tabs 0 1 w) :
    Calls Tryd.prog 68 #[.string s, .int .i64 (p : Int)] w fun e w' => e = .returned (.int .i64 (placeAt s (i + 1) : Nat)) ∧ Below w.heap.size w w' := by
  have hle := placeAt_le s (i + 1)
  obtain ⟨z1, z2, z3⟩ := sign_size hi
  have hN : ∀ f W, Utf8Tabs 0 1 W → Calls Tryd.prog 24 #[.string (s.extract f s.size)] W fun e w' => e = .returned (.tuple #[.int .i32 ((nxt (s.data.toList.drop f)).1 : Nat), .int .i64 ((nxt (s.data.toList.drop f)).2 : Nat)]) ∧ Below W.heap.size W w' := fun f W hT => by
    have := next_any (s.extract f s.size) W hT
    rw [drop_list] at this
    exact this
  have hcr := fun f hf => no_cross s i f (Nat.le_of_lt hi) hf
  have hat : placeAt s i + (nxt (s.data.toList.drop (placeAt s i))).2 = placeAt s (i + 1) := by rw [sign_nxt hi]; exact z1
  obtain ⟨b, hb⟩ : ∃ b, placeAt s i = b := ⟨_, rfl⟩
  obtain ⟨e, he⟩ : ∃ e, placeAt s (i + 1) = e := ⟨_, rfl⟩
  rw [hb] at h1 z1 hcr hat
  rw [he] at h2 z1 hle hat ⊢
  have hw1 : IntKind.i64.wrap ((p : Int) - 4) = (p : Int) - 4 := IntWalk.i64_in _ (by omega)
  have hw2 : IntKind.i64.wrap ((p : Int) - 4 + 1) = (p : Int) - 4 + 1 := IntWalk.i64_in _ (by omega)
  obtain ⟨f0, hf0⟩ : ∃ f0 : Nat, max ((p : Int) - 4 + 1) 0 = (f0 : Int) := ⟨p - 3, by omega⟩
  have hf0b : f0 ≤ b := by omega
  have HN := Lib.hid hN
  have HT := Lib.hid hT
  have Hcr := Lib.hid hcr
  have Hat := Lib.hid hat
  clear hN hT hcr hb he hat
  go_enter Tryd.func68, Tryd.ntmps68
  go_wp2_with fail
  go_loopw [5] (fun v wr => ∃ f : Nat, v = .int .i64 (f : Int) ∧ f ≤ b ∧ Below w.heap.size w wr) (fun v _ => p - (RowKit.intOf v).toNat)
  case atStart => exact ⟨f0, rfl, hf0b, Below.refl _ _⟩
  case round =>
    obtain ⟨f, rfl, hfb, hbw⟩ := hrel
    have hTr := Lib.hid (Utf8Tabs_below HT.out hbw)
    have Hbw := Lib.hid hbw
    clear hbw
    by_cases hfp : f < p
    · have hfi : (f : Int) < (p : Int) := by omega
      have hfs : (f : Int) ≤ (s.size : Int) := by omega
      have hNf := HN.out f wr hTr.out
      have hcase : (f < b ∧ f + (nxt (s.data.toList.drop f)).2 ≤ b) ∨ (f = b ∧ f + (nxt (s.data.toList.drop f)).2 = e) := by
        rcases Nat.lt_or_ge f b with h | h
        · exact .inl ⟨h, Hcr.out f h⟩
        · have : f = b := by omega
          subst this
          exact .inr ⟨rfl, Hat.out⟩
      revert hNf hcase
      generalize nxt (s.data.toList.drop f) = d
      intro hNf hcase
      have hw3 : IntKind.i64.wrap ((f : Int) + (d.2 : Int)) = ((f + d.2 : Nat) : Int) := by rw [IntWalk.i64_in _ (by omega)]; omega
      have hw4 : IntKind.i64.wrap ((f : Int) + 1) = ((f + 1 : Nat) : Int) := by rw [IntWalk.i64_in _ (by omega)]; omega
      have HNf := Lib.hid hNf
      clear hNf
      go_wp2_with fail
      refine HNf.out.mono ?_
      rintro _ w1 ⟨rfl, b1⟩
      have B1 := Lib.hid (Hbw.out.trans (b1.mono Hbw.out.size))
      clear b1
      rcases hcase with ⟨hc, hd⟩ | ⟨rfl, hd⟩
      · have hng : ¬ ((p : Int) < (f : Int) + (d.2 : Int)) := by omega
        go_wp2_with fail
        refine ⟨⟨f + 1, by simp, by omega, B1.out⟩, ?_⟩
        simp only [RowKit.intOf]
        omega
      · have hng : (p : Int) < (f : Int) + (d.2 : Int) := by omega
        go_wp2_with fail
        go_ret
        exact ⟨rfl, B1.out⟩
    · have hfp2 : f = p := by omega
      have hbp : b = p := by omega
      subst hfp2
      subst hbp
      have hNf := HN.out b wr hTr.out
      have hat2 := Hat.out
      revert hNf hat2
      generalize nxt (s.data.toList.drop b) = d
      intro hNf hat2
      have hfs : (b : Int) ≤ (s.size : Int) := by omega
      have hw3 : IntKind.i64.wrap ((b : Int) + (d.2 : Int)) = (e : Int) := by rw [IntWalk.i64_in _ (by omega)]; omega
      have HNf := Lib.hid hNf
      clear hNf hat2
      go_wp2_with fail
      refine HNf.out.mono ?_
      rintro _ w1 ⟨rfl, b1⟩
      have B1 := Lib.hid (Hbw.out.trans (b1.mono Hbw.out.size))
      clear b1
      go_wp2_with fail
      go_ret
      exact ⟨rfl, B1.out⟩
end Go.Proofs.YthkapcnhfdpdbaaDoor

/- certain: the last border up to a byte that is one by both its sides alone. -/
namespace Go.Proofs.YthkapcnhfdpdbaaDoor
open Go.RowKit Go.Shelf Go.Lib
attribute [local go_sem] Oper.semAt_some

def lastCert (s : ByteArray) : Nat → Nat
  | 0 => 0
  | i + 1 => if certB s (i + 1) = true then i + 1 else lastCert s i
theorem lastCert_skip (s : ByteArray) (i : Nat) : ∀ q, q ≤ i → (∀ r, r < q → certB s (i - r) = false) → lastCert s i = lastCert s (i - q)
  | 0, _, _ => rfl
  | q + 1, h, hf => by
    rw [lastCert_skip s i q (by omega) (fun r hr => hf r (by omega))]
    have hq := hf q (by omega)
    obtain ⟨k, hk⟩ : ∃ k, i - q = k + 1 := ⟨i - q - 1, by omega⟩
    rw [hk] at hq ⊢
    rw [show i - (q + 1) = k by omega, lastCert, if_neg (by rw [hq]; decide)]
theorem places_upto (s : ByteArray) (i : Nat) (hi : i ≤ chars s) : places (s.extract 0 (placeAt s i)) = (places s).take i := by
  have hseg := placeAt_ext s 0 i (Nat.zero_le _) hi
  rw [placeAt_zero, List.drop_zero, Nat.sub_zero] at hseg
  rw [places_offs, places_offs, hseg]
  apply List.ext_getElem?
  intro k
  rw [offs_get]
  by_cases hk : k < i
  · rw [List.getElem?_take_of_lt hk, List.getElem?_take_of_lt hk, offs_get, List.take_take, Nat.min_eq_left (by omega)]
  · rw [List.getElem?_eq_none (by simp; omega), List.getElem?_eq_none (by simp; omega)]
    rfl
theorem place_is (s : ByteArray) {i : Nat} (hi : i < chars s) : (places s)[i]? = some (placeAt s i, (sign s i).1) := by
  rw [places_offs, offs_get, sign_at hi]
  simp [placeAt]

set_option maxRecDepth 100000 in
set_option maxHeartbeats 1000000 in
theorem certain_any (s : ByteArray) (p i : Nat) (w : World) (hi : i < chars s) (h1 : placeAt s i ≤ p) (h2 : p < placeAt s (i + 1)) (hs : s.size ≤ 140737488351232) (hT : Utf8Tabs 0 1 w) :
    Calls Tryd.prog 40 #[.string s, .int .i64 (p : Int)] w fun e w' => e = .returned (.int .i64 (placeAt s (lastCert s i) : Nat)) ∧ Below w.heap.size w w' := by
  obtain ⟨B, hB⟩ : ∃ B, w.heap.size = B := ⟨_, rfl⟩
  have h2t : 2 ≤ w.heap.size := tabs_size hT
  have hle := placeAt_le s (i + 1)
  rw [hB] at h2t ⊢
  have HE := Lib.hid (fun W hT => endc_any s p i W hi h1 h2 hs hT)
  have HM := Lib.hid (fun W => back_maker (s.extract 0 (placeAt s (i + 1))) W)
  have HC := Lib.hid (fun j W hj hT => cert_any s j W hj hs hT)
  have HT := Lib.hid hT
  have he1 : ((placeAt s (i + 1) : Nat) : Int) ≤ (s.size : Int) := by omega
  clear hT h1 h2
  refine (callsIn_wide (n := 9)).1 ?_
  refine callsIn_of_wp_marks Tryd.func40 rfl trivial ?_ rfl
  refine wpIn_wide.2 ?_
  simp only [Tryd.ntmps40, List.size_toArray, List.length_cons, List.length_nil, Nat.reduceAdd, Nat.reduceSub, Array.replicate_succ, Array.replicate_zero, List.push_toArray, List.append_toArray, List.nil_append, List.cons_append]
  go_wp2_with fail
  obtain ⟨W1, hW1⟩ : ∃ W1, (w.alloc (.cells #[.string s] 9)).alloc (.cells #[.int .i64 0] 3) = W1 := ⟨_, rfl⟩
  have b0 : Boxed W1 B 9 (.string s) := by rw [← hW1]; simp only [Boxed, alloc_get, World.size_alloc, hB]; rw [if_neg (by omega)]; simp
  have b1 : Boxed W1 (B + 1) 3 (.int .i64 0) := by rw [← hW1]; simp only [Boxed, alloc_get, World.size_alloc, hB]; simp
  have hsz1 : W1.heap.size = B + 2 := by rw [← hW1]; simp [hB]
  have hB1 : Below B w W1 := by rw [← hW1]; exact ((Below.refl B w).alloc (by omega) _).alloc (by simp; omega) _
  rw [hW1]
  clear hW1
  have c0d : W1.drew.cell? ⟨B, 0, none⟩ = some (.string s) := b0.cell
  have hTd : Hid (Utf8Tabs 0 1 W1.drew) := Lib.hid (Utf8Tabs_below HT.out (by rw [hB]; exact hB1.drew))
  have hlt : B < W1.drew.heap.size := by show B < W1.heap.size; omega
  go_region_held3 (fun w' => w'.cell? ⟨B, 0, none⟩ = some (.string s)) (first | exact c0d | exact (b2.cell (p := ⟨B, 0, none⟩) hlt).trans c0d | exact cell_alloc_sl _ ((b2.cell (p := ⟨B, 0, none⟩) hlt).trans c0d))
    (first
      | (go_at_call 68; refine (HE.out _ hTd.out).mono ?_; rintro e w2 ⟨rfl, b2⟩)
      | (go_at_call 67; refine (HM.out _).mono ?_; rintro e w3 ⟨rfl, rfl⟩))
  obtain ⟨b, hb⟩ : ∃ b, w2.heap.size = b := ⟨_, rfl⟩
  have hs2 : B + 2 ≤ b := by have h := b2.size; have : W1.drew.heap.size = W1.heap.size := rfl; omega
  obtain ⟨Wa, hWa⟩ : ∃ Wa, w2.alloc (.cells #[.string (s.extract 0 (placeAt s (i + 1)))] 9) = Wa := ⟨_, rfl⟩
  have hBW : Below (B + 2) W1 Wa := by
    have h3 : Below (B + 2) W1.drew w2 := b2.mono (by show B + 2 ≤ W1.heap.size; omega)
    rw [← hWa]
    exact ((Below.refl (B + 2) W1).drew.trans h3).alloc (by omega) _
  have a0 : Boxed Wa B 9 (.string s) := (hBW.block B (by omega)).trans b0
  have a1 : Boxed Wa (B + 1) 3 (.int .i64 0) := (hBW.block (B + 1) (by omega)).trans b1
  have a2 : Boxed Wa b 9 (.string (s.extract 0 (placeAt s (i + 1)))) := by have := Boxed.new w2 9 (.string (s.extract 0 (placeAt s (i + 1)))); rwa [hb, hWa] at this
  have hsa : Wa.heap.size = b + 1 := by rw [← hWa]; simp [hb]
  have hba : Below B w Wa := hB1.trans (hBW.mono (by omega))
  have hTa : Utf8Tabs 0 1 Wa := Utf8Tabs_below HT.out (by rw [hB]; exact hba)
  rw [hb, hWa]
  clear hWa b2 c0d hlt hTd hBW b0 b1
  have HI := Lib.hid hi
  go_wp2_with fail
  refine (wpIn_wide (n := 9)).1 ?_
  refine range_N1 rfl (by omega) (gf := 80) (lb := #[.pointer (some ⟨b, 0, none⟩)]) rfl trivial (enters_of Tryd.func80 (by kernel_rfl) rfl)
    (seqBackN 8 (by omega) b (fun k => k ≤ b ∧ k ≠ B + 1) (s.extract 0 (placeAt s (i + 1))) Wa (by omega) (by omega) (by omega) a2.cell (by unfold maxLen; simp; omega) hTa) (fun k hk => by omega) (fun _ => rfl)
    (fun pre T W => (Boxed W B 9 (.string s) ∧ Boxed W (B + 1) 3 (.int .i64 0) ∧ Utf8Tabs 0 1 W ∧ Below B Wa W) ∧ ∀ r, r < pre.length → certB s (i - r) = false)
    (fun c pre T W => c = .ret ∧ Boxed W (B + 1) 3 (.int .i64 (placeAt s (lastCert s i) : Int)) ∧ Below B Wa W)
    ?hI ?hIx
    ⟨⟨a0, a1, hTa, Below.refl _ _⟩, fun r hr => absurd hr (Nat.not_lt_zero _)⟩
    ?a1 ?assign ?body ?done ?stop
  case assign =>
    intro l x W K hK
    gi_wp2
    exact hK
  case hI =>
    rintro pre T T' W1 W2 ⟨⟨h1, h2, h3, hb2⟩, hr⟩ hT hm hg
    have hn : ∀ k, k < b + 1 → ¬ T k := fun k hk e => by have := (hT _ e).1; omega
    exact ⟨⟨(hm.block _ h1.lt (hn _ (by omega))).trans h1, (hm.block _ h2.lt (hn _ (by omega))).trans h2, (⟨hm.size, fun k hk ho => hm.block k hk (hn k (by rcases ho with ho | ho; omega; exact ho.elim))⟩ : KeepT (1 + 1) (fun _ => False) W1 W2).u8 (Nat.le_refl _) h3, hb2.trans ⟨hm.os, hm.tape, hm.output, hm.size, fun k hk => hm.block k (by have := hb2.size; omega) (hn _ (by omega))⟩⟩, hr⟩
  case hIx =>
    rintro cd pre T T' W1 W2 ⟨rfl, h2, hb2⟩ hT hm hg
    have hn : ∀ k, k < b + 1 → ¬ T k := fun k hk e => by have := (hT _ e).1; omega
    exact ⟨rfl, (hm.block _ h2.lt (hn _ (by omega))).trans h2, hb2.trans ⟨hm.os, hm.tape, hm.output, hm.size, fun k hk => hm.block k (by have := hb2.size; omega) (hn _ (by omega))⟩⟩
  case body =>
    rintro l pre x T W hl hT hr0 ⟨⟨h1, h2, h3, hbb⟩, hr⟩ hlen hsp
    have hplen : (places (s.extract 0 (placeAt s (i + 1)))).length = i + 1 := by
      rw [places_upto s (i + 1) HI.out, List.length_take, places_len]
      have : (segs s.data.toList).length = chars s := rfl
      have := HI.out
      omega
    obtain ⟨q, hq⟩ : ∃ q, pre.length = q := ⟨_, rfl⟩
    have hget := prefix_get hsp
    rw [hplen] at hlen
    rw [hq] at hget hlen hr
    rw [List.getElem?_reverse (by rw [hplen]; exact hlen), hplen, places_upto s (i + 1) HI.out, List.getElem?_take_of_lt (by omega), show i + 1 - 1 - q = i - q by omega, place_is s (by have := HI.out; omega)] at hget
    have hx := (Option.some.inj hget).symm
    have hxp : (x.1 : Int) = ((placeAt s (i - q) : Nat) : Int) := by rw [hx]
    have hcc := HC.out (i - q) W (by have := HI.out; omega) h3
    have c0 := h1.cell
    have c1 := h2.cell
    have c1f := h2.frozen
    have hnT : ¬ T (B + 1) := fun e => by have := (hT _ e).1; omega
    have Hcc := Lib.hid hcc
    have H1 := Lib.hid h1
    have H2 := Lib.hid h2
    have H3 := Lib.hid h3
    have Hbb := Lib.hid hbb
    clear hcc h1 h2 h3 hbb hget hsp hx
    rw [hxp]
    clear hxp
    gi_wp2_with fail
    refine ⟨trivial, (CallsIn.inRound l (callsIn_wide.2 Hcc.out)).mono ?_⟩
    rintro _ w3 ⟨rfl, b3⟩
    have k1 := boxed_below H2.out b3
    have k0 := boxed_below H1.out b3
    have k1f := k1.frozen
    have k1c := k1.cell
    have hsB : B ≤ W.heap.size := by have := H1.out.lt; omega
    have hbel : Below B Wa w3 := Hbb.out.trans (b3.mono hsB)
    have hT3 := Utf8Tabs_below H3.out b3
    by_cases hce : certB s (i - q) = true
    · rw [hce]
      have hlc : lastCert s i = i - q := by
        rw [lastCert_skip s i q (by omega) hr]
        cases e : i - q with
        | zero => rfl
        | succ k => rw [lastCert, if_pos (by rw [← e]; exact hce)]
      gi_wp2_with fail
      refine ⟨(KeepN.of_below _ _ b3).trans (KeepN.setCell _ _ _ _ _ _ (by omega) hnT), rfl, ?_, hbel.setCell (p := ⟨B + 1, 0, none⟩) (show B ≤ B + 1 by omega) _⟩
      rw [hlc]
      exact k1.set _
    · have hcf : certB s (i - q) = false := by simpa using hce
      rw [hcf]
      gi_wp2_with fail
      refine ⟨KeepN.of_below _ _ b3, ⟨k0, k1, hT3, hbel⟩, fun r hr2 => ?_⟩
      rcases Nat.lt_or_ge r q with h | h
      · exact hr r h
      · have : r = q := by simp [hq] at hr2; omega
        rw [this]
        exact hcf
  case done =>
    rintro D ys T W hD hT rfl ⟨_, hr⟩ hK
    exfalso
    have := hr i (by
      rw [List.length_reverse, places_upto s (i + 1) HI.out, List.length_take, places_len]
      have : (segs s.data.toList).length = chars s := rfl
      have := HI.out
      omega)
    rw [Nat.sub_self] at this
    cases this
  case stop =>
    rintro D c pre T W hD hT _ ⟨rfl, h2, hbb⟩ hK
    have HK := Lib.hid hK
    have H2 := Lib.hid h2
    have Hbb := Lib.hid hbb
    clear hK h2 hbb
    gi_wp2
    have hD1 := hT D hD
    have hc7 := cell_kept H2.out.cell (grownBy_putObj' _ D (.deferred none)) (fun r e => by cases e; exact ⟨_, HK.out, rfl⟩)
    refine ⟨by simp, .inl ⟨_, _, rfl, run_takeDeferred HK.out, ?_⟩⟩
    refine ⟨_, ?_, rfl, (hba.trans Hbb.out).trans (belowK_b (w := w) (by omega) _ D _ (.deferred none) (by omega) HK.out rfl rfl)⟩
    simp [results, Tryd.f40, go_sem, hc7]
end Go.Proofs.YthkapcnhfdpdbaaDoor

/- A place that is a border by both its sides alone is one; pure. -/
namespace Go.Proofs.YthkapcnhfdpdbaaDoor
open Go.RowKit Go.Lib

inductive IsBord (s : ByteArray) : Nat → Prop
  | zero : IsBord s 0
  | next (k : Nat) : IsBord s k → k < chars s → IsBord s (clEnd s k)
theorem lastCert_le (s : ByteArray) : ∀ i, lastCert s i ≤ i
  | 0 => Nat.le_refl _
  | i + 1 => by
    unfold lastCert
    split
    · exact Nat.le_refl _
    · have := lastCert_le s i; omega
theorem lastCert_cert (s : ByteArray) : ∀ i, certB s (lastCert s i) = true
  | 0 => rfl
  | i + 1 => by
    unfold lastCert
    split
    · assumption
    · exact lastCert_cert s i
/-- the border at which the cluster begins that has the i-th character -/
theorem bord_at (s : ByteArray) (i : Nat) (hi : i < chars s) : ∃ k, IsBord s k ∧ k ≤ i ∧ i < clEnd s k := by
  have key : ∀ f k, i - k ≤ f → IsBord s k → k ≤ i → ∃ k, IsBord s k ∧ k ≤ i ∧ i < clEnd s k := by
    intro f
    induction f with
    | zero =>
      intro k hf hk hki
      have := clEnd_bounds (s := s) (i := k) (by omega)
      exact ⟨k, hk, hki, by omega⟩
    | succ f ih =>
      intro k hf hk hki
      by_cases h : i < clEnd s k
      · exact ⟨k, hk, hki, h⟩
      · have := clEnd_bounds (s := s) (i := k) (by omega)
        exact ih (clEnd s k) (by omega) (hk.next k (by omega)) (by omega)
  exact key i 0 (by omega) .zero (Nat.zero_le _)
theorem roleD_drop (s : ByteArray) (k n : Nat) : roleD ((segs s.data.toList).drop k) n = roleAt s (k + n) := by
  unfold roleD roleAt
  rw [List.getElem?_drop]
  all_goals (cases (segs s.data.toList)[k + n]? <;> rfl)
theorem roleD_two {s : ByteArray} {i : Nat} (h : i + 1 < chars s) : roleD [sign s i, sign s (i + 1)] 0 = roleAt s i ∧ roleD [sign s i, sign s (i + 1)] 1 = roleAt s (i + 1) := by
  rw [roleAt_sign (by omega), roleAt_sign h]
  exact ⟨rfl, rfl⟩
theorem clD_two {ds : List (Nat × Nat)} (hl : ds.length = 2) (h1 : roleD ds 0 ≠ 1) (h2 : roleD ds 0 ≠ 2) (h4 : roleD ds 0 ≠ 4) (hg : goesD ds 1 = true) : clD ds = 2 := by
  unfold clD
  rw [if_neg (by omega), if_neg (by intro h; rcases h with h | h; exact h1 h; exact h4 h), if_neg h2]
  rw [show runD ds 32 1 = if 1 < ds.length ∧ 1 < 32 ∧ goesD ds 1 = true then runD ds 31 2 else 1 from rfl, if_pos ⟨by omega, by omega, hg⟩]
  rw [show runD ds 31 2 = if 2 < ds.length ∧ 2 < 32 ∧ goesD ds 2 = true then runD ds 30 3 else 2 from rfl, if_neg (by omega)]
theorem runD_inner (ds : List (Nat × Nat)) : ∀ (f n j : Nat), n ≤ j → j < runD ds f n → goesD ds j = true
  | 0, n, j, h, hj => by unfold runD at hj; omega
  | f + 1, n, j, h, hj => by
    unfold runD at hj
    by_cases hc : n < ds.length ∧ n < 32 ∧ goesD ds n = true
    · rw [if_pos hc] at hj
      rcases Nat.eq_or_lt_of_le h with he | hlt
      · rw [← he]; exact hc.2.2
      · exact runD_inner ds f (n + 1) j hlt hj
    · rw [if_neg hc] at hj; omega
theorem role16 {r z : Nat} (h : roleN r z = 16) : r = 8205 := by
  unfold roleN at h
  by_cases h5 : r = 8205
  · exact h5
  · exfalso
    by_cases h1 : r = 65533 ∧ z = 1
    · rw [if_pos h1] at h; omega
    rw [if_neg h1] at h
    by_cases h2 : r = 13
    · rw [if_pos h2] at h; omega
    rw [if_neg h2] at h
    by_cases h3 : r = 10
    · rw [if_pos h3] at h; omega
    rw [if_neg h3] at h
    by_cases h4 : r = 8204
    · rw [if_pos h4] at h; omega
    rw [if_neg h4, if_neg h5] at h
    by_cases h6 : r = 8232 ∨ r = 8233
    · rw [if_pos h6] at h; omega
    rw [if_neg h6] at h
    by_cases h7 : 127462 ≤ r ∧ r ≤ 127487
    · rw [if_pos h7] at h; omega
    rw [if_neg h7] at h
    by_cases h8 : 4352 ≤ r ∧ r ≤ 4607
    · rw [if_pos h8] at h
      by_cases h9 : r < 4448
      · rw [if_pos h9] at h; omega
      rw [if_neg h9] at h
      by_cases h10 : r < 4520
      · rw [if_pos h10] at h; omega
      · rw [if_neg h10] at h; omega
    rw [if_neg h8] at h
    by_cases h9 : 44032 ≤ r ∧ r ≤ 55203
    · rw [if_pos h9] at h
      by_cases h10 : (r - 44032) % 28 = 0
      · rw [if_pos h10] at h; omega
      · rw [if_neg h10] at h; omega
    rw [if_neg h9] at h
    unfold kindRole at h
    repeat' split at h
    all_goals omega
/-- a place within a cluster is none that both its sides alone part -/
theorem inner_not_cert (s : ByteArray) (k i : Nat) (hk : k < i) (hi : i < clEnd s k) (hc : i < chars s) : certB s i = false := by
  obtain ⟨n, rfl⟩ := Nat.exists_eq_add_of_lt hk
  have hi' : n + 1 < clD ((segs s.data.toList).drop k) := by unfold clEnd at hi; omega
  have hrole := roleD_drop s k
  have h2 := roleD_two (s := s) (i := k + n) (by omega)
  unfold certB
  rw [show (k + n + 1 == 0) = false by simp, show k + n + 1 - 1 = k + n by omega, Bool.false_or]
  unfold clD at hi'
  have hlen : ¬ ((segs s.data.toList).drop k).length = 0 := fun h => by rw [if_pos h] at hi'; omega
  rw [if_neg hlen] at hi'
  by_cases h14 : roleD ((segs s.data.toList).drop k) 0 = 1 ∨ roleD ((segs s.data.toList).drop k) 0 = 4
  · rw [if_pos h14] at hi'; omega
  rw [if_neg h14] at hi'
  have two : ∀ r : Nat, clD [sign s (k + n), sign s (k + n + 1)] = 2 → (!((sign s (k + n)).1 == 8205 && roleAt s (k + n + 1) == 64) && clD [sign s (k + n), sign s (k + n + 1)] == 1) = false := fun _ h => by rw [h]; simp
  by_cases hcr : roleD ((segs s.data.toList).drop k) 0 = 2
  · rw [if_pos hcr] at hi'
    by_cases h4 : roleD ((segs s.data.toList).drop k) 1 = 4
    · rw [if_pos h4] at hi'
      have hn0 : n = 0 := by omega
      subst hn0
      refine two 0 ?_
      rw [hrole] at hcr h4
      unfold clD
      rw [if_neg (by simp), if_neg (by rw [h2.1]; intro h; rcases h with h | h <;> rw [show k + 0 = k from rfl] at * <;> omega), if_pos (by rw [h2.1]; exact hcr), if_pos (by rw [h2.2]; exact h4)]
    · rw [if_neg h4] at hi'; omega
  rw [if_neg hcr] at hi'
  have hg := runD_inner _ 32 1 (n + 1) (by omega) hi'
  have hz : roleAt s (k + n) ≠ 1 ∧ roleAt s (k + n) ≠ 2 ∧ roleAt s (k + n) ≠ 4 := by
    cases n with
    | zero =>
      rw [hrole] at h14 hcr
      refine ⟨fun e => h14 (.inl e), hcr, fun e => h14 (.inr e)⟩
    | succ m =>
      have hg2 := runD_inner _ 32 1 (m + 1) (by omega) (Nat.lt_of_succ_lt hi')
      unfold goesD at hg2
      simp only [hrole] at hg2
      refine ⟨fun e => ?_, fun e => ?_, fun e => ?_⟩ <;> rw [e] at hg2 <;> simp [syl] at hg2
  unfold goesD at hg
  simp only [hrole] at hg
  rw [show n + 1 - 1 = n by omega, show k + (n + 1) = k + n + 1 by omega] at hg
  have pair : (roleAt s (k + n + 1) == 8 || roleAt s (k + n + 1) == 16 || (roleAt s (k + n) == 32 && roleAt s (k + n + 1) == 32) || syl (roleAt s (k + n)) (roleAt s (k + n + 1))) = true → (!((sign s (k + n)).1 == 8205 && roleAt s (k + n + 1) == 64) && clD [sign s (k + n), sign s (k + n + 1)] == 1) = false := fun hp => by
    refine two 0 (clD_two rfl (by rw [h2.1]; exact hz.1) (by rw [h2.1]; exact hz.2.1) (by rw [h2.1]; exact hz.2.2) ?_)
    unfold goesD
    rw [h2.2, show (1 - 1 : Nat) = 0 from rfl, h2.1]
    simp only [Bool.or_eq_true, Bool.and_eq_true, beq_iff_eq] at hp ⊢
    rcases hp with ((hp | hp) | hp) | hp
    · exact .inl (.inl (.inl (.inl hp)))
    · exact .inl (.inl (.inl (.inr hp)))
    · exact .inl (.inl (.inr ⟨⟨trivial, hp.1⟩, hp.2⟩))
    · exact .inr hp
  simp only [Bool.or_eq_true, Bool.and_eq_true, beq_iff_eq] at hg
  rcases hg with (((hg | hg) | hg) | hg) | hg
  · exact pair (by rw [hg]; rfl)
  · exact pair (by rw [hg]; rfl)
  · have hn1 := hg.1.1
    have hn0 : n = 0 := by omega
    subst hn0
    have e1 : roleAt s (k + 0) = 32 := hg.1.2
    have e2 := hg.2
    exact pair (by rw [e1, e2]; rfl)
  · have h8205 : (sign s (k + n)).1 = 8205 := by
      have := hg.1.1
      rw [roleAt_sign (by omega)] at this
      exact role16 this
    rw [h8205, hg.1.2]
    rfl
  · exact pair (by simp only [Bool.or_eq_true]; exact .inr hg)
theorem cert_bord (s : ByteArray) (i : Nat) (hi : i < chars s) (h : certB s i = true) : IsBord s i := by
  obtain ⟨k, hk, h1, h2⟩ := bord_at s i hi
  rcases Nat.eq_or_lt_of_le h1 with he | hlt
  · rw [← he]; exact hk
  · rw [inner_not_cert s k i hlt h2 hi] at h
    cases h
end Go.Proofs.YthkapcnhfdpdbaaDoor

/- At and Is: the cluster that has a byte. -/
namespace Go.Proofs.YthkapcnhfdpdbaaDoor
open Go.RowKit Go.Shelf Go.Lib

/-- what At says at a byte: the two borders around it -/
def Around (s : ByteArray) (p : Nat) (a b : Nat) : Prop := ∃ k, IsBord s k ∧ k < chars s ∧ placeAt s k ≤ p ∧ p < placeAt s (clEnd s k) ∧ a = placeAt s k ∧ b = placeAt s (clEnd s k)
theorem isBord_le {s : ByteArray} {k : Nat} (h : IsBord s k) : k ≤ chars s := by
  cases h with
  | zero => omega
  | next k _ hk => exact (clEnd_bounds hk).2

set_option maxRecDepth 100000 in
set_option maxHeartbeats 1000000 in
theorem at_any (s : ByteArray) (q : Int) (p : Nat) (w : World) (hq : min (max q 0) (s.size : Int) = (p : Int)) (hp : p < s.size) (hs : s.size ≤ 140737488351232) (hT : Utf8Tabs 0 1 w) :
    Calls Tryd.prog 26 #[.string s, .int .i64 q] w fun e w' => (∃ a b : Nat, e = .returned (.tuple #[.int .i64 (a : Int), .int .i64 (b : Int)]) ∧ Around s p a b) ∧ Below w.heap.size w w' := by
  obtain ⟨i, hi, h1, h2⟩ := has_byte s p hp
  have HC := Lib.hid (certain_any s p i w hi h1 h2 hs hT)
  have HN := Lib.hid (fun k W hk hT => cnext_rest s k W hk hT hs)
  have HT := Lib.hid hT
  obtain ⟨k0, hk0⟩ : ∃ k0, lastCert s i = k0 := ⟨_, rfl⟩
  have hk0i : k0 ≤ i := by rw [← hk0]; exact lastCert_le s i
  have HB0 : Hid (IsBord s k0) := Lib.hid (by rw [← hk0]; exact cert_bord s _ (by rw [hk0]; omega) (lastCert_cert s i))
  rw [hk0] at HC
  have hne : ¬ ((p : Int) = (s.size : Int)) := by omega
  have hpl : ∀ k, ((placeAt s k : Nat) : Int) ≤ (s.size : Int) := fun k => by have := placeAt_le s k; omega
  have hle0 := hpl k0
  have hw : ∀ k, k ≤ i → IntKind.i64.wrap (((placeAt s k : Nat) : Int) + ((placeAt s (clEnd s k) - placeAt s k : Nat) : Int)) = ((placeAt s (clEnd s k) : Nat) : Int) := fun k hk => by
    have a := placeAt_mono s (Nat.le_of_lt (clEnd_bounds (s := s) (i := k) (by omega)).1)
    have b := placeAt_le s (clEnd s k)
    rw [IntWalk.i64_in _ (by omega)]; omega
  have hw0 := hw k0 hk0i
  have HW := Lib.hid hw
  have HPL := Lib.hid hpl
  have H1 := Lib.hid h1
  have H2 := Lib.hid h2
  clear hT hk0 hw hpl h1 h2
  go_enter Tryd.func26, Tryd.ntmps26
  go_wp2_with fail
  refine HC.out.mono ?_
  rintro _ w1 ⟨rfl, b1⟩
  have hT1 := Lib.hid (Utf8Tabs_below HT.out b1)
  have HN0 := Lib.hid (HN.out k0 w1 (by omega) hT1.out)
  have HB1 := Lib.hid b1
  clear b1
  go_wp2_with fail
  refine HN0.out.mono ?_
  rintro _ w2 ⟨rfl, b2⟩
  have HB2 := Lib.hid (HB1.out.trans (b2.mono HB1.out.size))
  clear b2
  go_wp2_with fail
  go_loopw [4, 5] (fun x y wr => ∃ k : Nat, x = .int .i64 ((placeAt s k : Nat) : Int) ∧ y = .int .i64 ((placeAt s (clEnd s k) : Nat) : Int) ∧ k ≤ i ∧ Hid (IsBord s k) ∧ Below w.heap.size w wr) (fun x _ _ => s.size - (RowKit.intOf x).toNat)
  case atStart => exact ⟨k0, rfl, rfl, hk0i, HB0, HB2.out⟩
  case round =>
    obtain ⟨k, rfl, rfl, hki, HBk, hbw⟩ := hrel
    have Hbw := Lib.hid hbw
    have HTr := Lib.hid (Utf8Tabs_below HT.out hbw)
    clear hbw
    have hb := clEnd_bounds (s := s) (i := k) (by omega)
    by_cases hc : clEnd s k ≤ i
    · have hle : ((placeAt s (clEnd s k) : Nat) : Int) ≤ (p : Int) := by have := placeAt_mono s hc; have := H1.out; omega
      have hls := HPL.out (clEnd s k)
      have hwk := HW.out (clEnd s k) hc
      have hN := Lib.hid (HN.out (clEnd s k) wr hb.2 HTr.out)
      have hlt := placeAt_lt s hb.1 hb.2
      have hls2 := placeAt_le s (clEnd s k)
      go_wp2_with fail
      refine hN.out.mono ?_
      rintro _ w3 ⟨rfl, b3⟩
      have HB3 := Lib.hid (Hbw.out.trans (b3.mono Hbw.out.size))
      clear b3
      go_wp2_with fail
      refine ⟨⟨clEnd s k, rfl, rfl, hc, Lib.hid (HBk.out.next k (by omega)), HB3.out⟩, ?_⟩
      simp only [RowKit.intOf]
      omega
    · have hgt : ¬ (((placeAt s (clEnd s k) : Nat) : Int) ≤ (p : Int)) := by have := placeAt_mono s (show i + 1 ≤ clEnd s k by omega); have := H2.out; omega
      go_wp2_with fail
      go_ret2
      exact ⟨⟨_, _, rfl, k, HBk.out, by omega, by have := placeAt_mono s hki; have := H1.out; omega, by omega, rfl, rfl⟩, Hbw.out⟩

set_option maxRecDepth 100000 in
set_option maxHeartbeats 1000000 in
theorem at_end (s : ByteArray) (q : Int) (w : World) (hq : min (max q 0) (s.size : Int) = (s.size : Int)) (hs : s.size ≤ 140737488351232) :
    Calls Tryd.prog 26 #[.string s, .int .i64 q] w fun e w' => e = .returned (.tuple #[.int .i64 (s.size : Int), .int .i64 (s.size : Int)]) ∧ Below w.heap.size w w' := by
  go_enter Tryd.func26, Tryd.ntmps26
  go_wp2_with fail
  go_ret2
  exact ⟨rfl, Below.refl _ _⟩
end Go.Proofs.YthkapcnhfdpdbaaDoor

/- The borders one behind the other; Is. -/
namespace Go.Proofs.YthkapcnhfdpdbaaDoor
open Go.RowKit Go.Shelf Go.Lib

/-- the n-th border, as a count of characters -/
def bd (s : ByteArray) : Nat → Nat
  | 0 => 0
  | n + 1 => clEnd s (bd s n)
theorem clEnd_all (s : ByteArray) : clEnd s (chars s) = chars s := by
  unfold clEnd
  rw [List.drop_eq_nil_of_le (show (segs s.data.toList).length ≤ chars s from Nat.le_refl _)]
  rfl
theorem bd_le (s : ByteArray) : ∀ n, bd s n ≤ chars s
  | 0 => Nat.zero_le _
  | n + 1 => by
    rcases Nat.lt_or_ge (bd s n) (chars s) with h | h
    · exact (clEnd_bounds h).2
    · have : bd s n = chars s := Nat.le_antisymm (bd_le s n) h
      rw [bd, this, clEnd_all]
      exact Nat.le_refl _
theorem bd_step (s : ByteArray) (n : Nat) : bd s n ≤ bd s (n + 1) := by
  rcases Nat.lt_or_ge (bd s n) (chars s) with h | h
  · exact Nat.le_of_lt (clEnd_bounds h).1
  · have : bd s n = chars s := Nat.le_antisymm (bd_le s n) h
    rw [bd, this, clEnd_all]
    exact Nat.le_refl _
theorem bd_mono (s : ByteArray) {a b : Nat} (h : a ≤ b) : bd s a ≤ bd s b := by
  induction h with
  | refl => exact Nat.le_refl _
  | step _ ih => exact Nat.le_trans ih (bd_step s _)
theorem isBord_bd {s : ByteArray} {k : Nat} (h : IsBord s k) : ∃ n, k = bd s n := by
  induction h with
  | zero => exact ⟨0, rfl⟩
  | next k _ hk ih =>
    obtain ⟨n, hn⟩ := ih
    exact ⟨n + 1, by rw [bd, ← hn]⟩
theorem bd_isBord (s : ByteArray) : ∀ n, IsBord s (bd s n)
  | 0 => .zero
  | n + 1 => by
    rcases Nat.lt_or_ge (bd s n) (chars s) with h | h
    · exact (bd_isBord s n).next _ h
    · have : bd s n = chars s := Nat.le_antisymm (bd_le s n) h
      rw [bd, this, clEnd_all, ← this]
      exact bd_isBord s n
theorem isBord_lt {s : ByteArray} {j k : Nat} (hj : IsBord s j) (hk : IsBord s k) (h : j < k) : clEnd s j ≤ k := by
  obtain ⟨a, rfl⟩ := isBord_bd hj
  obtain ⟨b, rfl⟩ := isBord_bd hk
  have : a < b := by
    rcases Nat.lt_or_ge a b with h' | h'
    · exact h'
    · have := bd_mono s h'; omega
  exact bd_mono s (show a + 1 ≤ b from this)
/-- the borders around a byte are the only ones -/
theorem around_one {s : ByteArray} {p a b j : Nat} (h : Around s p a b) (hj : IsBord s j) (h1 : placeAt s j ≤ p) (h2 : p < placeAt s (clEnd s j)) : a = placeAt s j ∧ b = placeAt s (clEnd s j) := by
  obtain ⟨k, hk, hkc, h3, h4, rfl, rfl⟩ := h
  have : j = k := by
    rcases Nat.lt_trichotomy j k with h | h | h
    · have := placeAt_mono s (isBord_lt hj hk h); omega
    · exact h
    · have := placeAt_mono s (isBord_lt hk hj h); omega
  subst this
  exact ⟨rfl, rfl⟩
/-- whether a number is a border of the text -/
def isB (s : ByteArray) (q : Int) : Prop := ∃ k, IsBord s k ∧ ((placeAt s k : Nat) : Int) = q
theorem around_isB {s : ByteArray} {q : Int} {p a b : Nat} (hq : min (max q 0) (s.size : Int) = (p : Int)) (hp : p < s.size) (h : Around s p a b) : ((a : Int) = q ↔ isB s q) := by
  constructor
  · intro e
    obtain ⟨k, hk, _, _, _, rfl, _⟩ := h
    exact ⟨k, hk, e⟩
  · rintro ⟨k, hk, rfl⟩
    have hle := placeAt_le s k
    have hpe : placeAt s k = p := by omega
    have hkc : k < chars s := by
      rcases Nat.lt_or_ge k (chars s) with h | h
      · exact h
      · have : k = chars s := Nat.le_antisymm (isBord_le hk) h
        rw [this, placeAt_all] at hpe
        omega
    have hb := clEnd_bounds hkc
    have := placeAt_lt s hb.1 hb.2
    rw [(around_one h hk (by omega) (by omega)).1]
theorem isBord_all (s : ByteArray) : IsBord s (chars s) := by
  have key : ∀ f k, chars s - k ≤ f → IsBord s k → IsBord s (chars s) := by
    intro f
    induction f with
    | zero => intro k hf hk; have := isBord_le hk; rwa [show chars s = k by omega]
    | succ f ih =>
      intro k hf hk
      rcases Nat.lt_or_ge k (chars s) with h | h
      · have := clEnd_bounds h
        exact ih (clEnd s k) (by omega) (hk.next k h)
      · have := isBord_le hk; rwa [show chars s = k by omega]
  exact key (chars s) 0 (by omega) .zero
theorem end_isB {s : ByteArray} {q : Int} (hq : min (max q 0) (s.size : Int) = (s.size : Int)) : ((s.size : Int) = q ↔ isB s q) := by
  constructor
  · intro e
    exact ⟨chars s, isBord_all s, by rw [placeAt_all]; exact e⟩
  · rintro ⟨k, hk, rfl⟩
    have := placeAt_le s k
    omega

set_option maxRecDepth 100000 in
set_option maxHeartbeats 1000000 in
theorem is_any (s : ByteArray) (q : Int) (w : World) (hs : s.size ≤ 140737488351232) (hT : Utf8Tabs 0 1 w) :
    Calls Tryd.prog 16 #[.string s, .int .i64 q] w fun e w' => (∃ b : Bool, e = .returned (.bool b) ∧ (b = true ↔ isB s q)) ∧ Below w.heap.size w w' := by
  rcases Nat.lt_or_ge (min (max q 0) (s.size : Int)).toNat s.size with hlt | hge
  · have HA := Lib.hid (at_any s q (min (max q 0) (s.size : Int)).toNat w (by omega) hlt hs hT)
    have HI := Lib.hid (fun a b h => @around_isB s q (min (max q 0) (s.size : Int)).toNat a b (by omega) hlt h)
    clear hT hlt
    go_enter Tryd.func16, Tryd.ntmps16
    go_wp2_with fail
    refine HA.out.mono ?_
    rintro _ w1 ⟨⟨a, b, rfl, ha⟩, b1⟩
    have hi := HI.out a b ha
    have Hb := Lib.hid b1
    have Hi := Lib.hid hi
    clear ha b1 hi
    go_wp2_with fail
    go_ret
    refine ⟨⟨_, rfl, ?_⟩, Hb.out⟩
    rw [← Hi.out]
    simp
  · have hq : min (max q 0) (s.size : Int) = (s.size : Int) := by omega
    have HA := Lib.hid (at_end s q w hq hs)
    have Hi := Lib.hid (end_isB hq)
    clear hT hge hq
    go_enter Tryd.func16, Tryd.ntmps16
    go_wp2_with fail
    refine HA.out.mono ?_
    rintro _ w1 ⟨rfl, b1⟩
    have Hb := Lib.hid b1
    clear b1
    go_wp2_with fail
    go_ret
    refine ⟨⟨_, rfl, ?_⟩, Hb.out⟩
    rw [← Hi.out]
    simp
end Go.Proofs.YthkapcnhfdpdbaaDoor

/- The clusters of a text between two borders; pure. -/
namespace Go.Proofs.YthkapcnhfdpdbaaDoor
open Go.RowKit Go.Lib

theorem SeqN.inRound {α : Type} {F : Fence} {n : Nat} {P : Program} {g : Nat} {lb : Array Value} {encs : α → Array Value} {S Sp : List α → Prop} {N : Nat} {N₀ : Bl} {w : World} (l : Nat) (h : SeqN F n P g lb encs S Sp N N₀ w) : SeqN (F.inRound l) n P g lb encs S Sp N N₀ w := h

theorem roleD_take (ds : List (Nat × Nat)) (m k : Nat) : roleD (ds.take m) k = if k < m then roleD ds k else 0 := by
  unfold roleD
  by_cases h : k < m
  · rw [if_pos h, List.getElem?_take_of_lt h]
  · rw [if_neg h, List.getElem?_eq_none (by simp; omega)]
theorem goesD_take (ds : List (Nat × Nat)) (m k : Nat) (h : k < m) : goesD (ds.take m) k = goesD ds k := by
  unfold goesD
  rw [roleD_take, roleD_take, roleD_take, if_pos h, if_pos (by omega), if_pos (by omega)]
theorem runD_take (ds : List (Nat × Nat)) (m : Nat) : ∀ f n, n ≤ m → runD ds f n ≤ m → runD (ds.take m) f n = runD ds f n
  | 0, n, _, _ => rfl
  | f + 1, n, hn, h => by
    have hge : ∀ f n, n ≤ runD ds f n := by
      intro f
      induction f with
      | zero => intro n; exact Nat.le_refl _
      | succ f ih =>
        intro n
        unfold runD
        split
        · have := ih (n + 1); omega
        · exact Nat.le_refl _
    rw [runD] at h ⊢
    rw [runD]
    by_cases hc : n < ds.length ∧ n < 32 ∧ goesD ds n = true
    · rw [if_pos hc] at h ⊢
      have := hge f (n + 1)
      rw [if_pos ⟨by simp; omega, hc.2.1, by rw [goesD_take _ _ _ (by omega)]; exact hc.2.2⟩]
      exact runD_take ds m f (n + 1) (by omega) h
    · rw [if_neg hc] at h ⊢
      rw [if_neg]
      rintro ⟨h1, h2, h3⟩
      rw [List.length_take] at h1
      exact hc ⟨by omega, h2, by rw [goesD_take _ _ _ (by omega)] at h3; exact h3⟩
/-- the first cluster is the same where what follows it is cut off -/
theorem clD_take (ds : List (Nat × Nat)) (m : Nat) (h0 : 0 < m) (h : clD ds ≤ m) : clD (ds.take m) = clD ds := by
  unfold clD at h ⊢
  by_cases hl : ds.length = 0
  · rw [if_pos hl, if_pos (by rw [List.length_take]; omega)]
  rw [if_neg hl] at h ⊢
  rw [if_neg (by rw [List.length_take]; omega), roleD_take, if_pos h0]
  by_cases h14 : roleD ds 0 = 1 ∨ roleD ds 0 = 4
  · rw [if_pos h14, if_pos h14]
  rw [if_neg h14] at h ⊢
  rw [if_neg h14]
  by_cases h2 : roleD ds 0 = 2
  · rw [if_pos h2] at h ⊢
    rw [if_pos h2, roleD_take]
    by_cases h4 : roleD ds 1 = 4
    · rw [if_pos h4] at h ⊢
      rw [if_pos (show 1 < m by omega), if_pos h4]
    · rw [if_neg h4, if_neg]
      split
      · exact h4
      · decide
  · rw [if_neg h2] at h ⊢
    rw [if_neg h2]
    exact runD_take ds m 32 1 (by omega) h

/-- the borders from the k-th character up to the e-th -/
def bords (s : ByteArray) : Nat → Nat → Nat → List Nat
  | 0, _, _ => []
  | f + 1, k, e => if k < e then k :: bords s f (clEnd s k) e else []
abbrev pc (s : ByteArray) (j : Nat) : Nat × ByteArray := (placeAt s j, s.extract (placeAt s j) (placeAt s (clEnd s j)))
theorem bords_pcs (s : ByteArray) (e : Nat) (he : IsBord s e) : ∀ f k, IsBord s k → k ≤ e → e - k ≤ f → pcsF s (chars s) k = (bords s f k e).map (pc s) ++ pcsF s (chars s) e := by
  have hel := isBord_le he
  intro f
  induction f with
  | zero =>
    intro k hk h1 h2
    rw [show k = e by omega]
    rfl
  | succ f ih =>
    intro k hk h1 h2
    rcases Nat.eq_or_lt_of_le h1 with h | h
    · subst h
      rw [bords, if_neg (by omega)]
      rfl
    · have hb := clEnd_bounds (s := s) (i := k) (by omega)
      rw [bords, if_pos h, pcsF_step s k (by omega), ih (clEnd s k) (hk.next k (by omega)) (isBord_lt hk he h) (by omega)]
      rfl
section cut
variable (s : ByteArray) (k e : Nat) (hke : k ≤ e) (he : e ≤ chars s)
include hke he
theorem cut_segs : segs (s.extract (placeAt s k) (placeAt s e)).data.toList = ((segs s.data.toList).drop k).take (e - k) := placeAt_ext s k e hke he
theorem cut_chars : chars (s.extract (placeAt s k) (placeAt s e)) = e - k := by
  unfold chars
  rw [cut_segs s k e hke he, List.length_take, List.length_drop]
  have : (segs s.data.toList).length = chars s := rfl
  omega
theorem cut_place (i : Nat) (hi : i ≤ e - k) : placeAt (s.extract (placeAt s k) (placeAt s e)) i = placeAt s (k + i) - placeAt s k := by
  rw [placeAt_add, Nat.add_sub_cancel_left]
  show total ((segs (s.extract (placeAt s k) (placeAt s e)).data.toList).take i) = _
  rw [cut_segs s k e hke he, List.take_take, Nat.min_eq_left hi]
theorem cut_end (i : Nat) (hi : i < e - k) (hc : clEnd s (k + i) ≤ e) : k + clEnd (s.extract (placeAt s k) (placeAt s e)) i = clEnd s (k + i) := by
  unfold clEnd at hc ⊢
  rw [cut_segs s k e hke he, List.drop_take, List.drop_drop, clD_take _ _ (by omega) (by omega)]
  omega
end cut
/-- where the clusters begin of what lies between two borders -/
theorem cut_bords (s : ByteArray) (k e : Nat) (hk : IsBord s k) (he : IsBord s e) (hke : k ≤ e) : ∀ f g i, IsBord s (k + i) → k + i ≤ e → e - (k + i) ≤ f → e - (k + i) ≤ g →
    (pcsF (s.extract (placeAt s k) (placeAt s e)) g i).map (·.1) = (bords s f (k + i) e).map fun j => placeAt s j - placeAt s k := by
  have hel := isBord_le he
  have hch := cut_chars s k e hke hel
  intro f
  induction f with
  | zero =>
    intro g i hi h1 h2 h3
    cases g with
    | zero => rfl
    | succ g =>
      unfold pcsF
      rw [if_neg (by omega)]
      rfl
  | succ f ih =>
    intro g i hi h1 h2 h3
    cases g with
    | zero =>
      rw [bords, if_neg (by omega)]
      rfl
    | succ g =>
      unfold pcsF
      by_cases h : k + i < e
      · have hb := clEnd_bounds (s := s) (i := k + i) (by omega)
        have hle := isBord_lt hi he h
        have hce := cut_end s k e hke hel i (by omega) hle
        rw [if_pos (by omega), bords, if_pos h, List.map_cons, List.map_cons, cut_place s k e hke hel i (by omega)]
        have := ih g (clEnd (s.extract (placeAt s k) (placeAt s e)) i) (by rw [hce]; exact hi.next _ (by omega)) (by omega) (by omega) (by omega)
        rw [this, hce]
      · rw [if_neg (by omega), bords, if_neg h]
        rfl
end Go.Proofs.YthkapcnhfdpdbaaDoor

/- A collected list: emptied (l[:0]), and read. -/
namespace Go.Proofs.YthkapcnhfdpdbaaDoor
open Go.RowKit Go.Lib

theorem row_cut {W : World} {base : Nat} {e : TypeId} {size : Nat} {v : Value} {n : Nat} {xs : List Value} (h : W.ownsRow base e size v n xs) :
    ∃ A c, v = .slice A n c ∧ W.ownsRow base e size (.slice A 0 c) 0 [] ∧ (Value.slice A 0 c).ownBlock = v.ownBlock := by
  rcases h.2 with ⟨rfl, rfl⟩ | ⟨g, cap, cur, rfl, hg, hh, hn, hc, hs, ht⟩
  · exact ⟨none, 0, rfl, ⟨by simp, .inl ⟨rfl, rfl⟩⟩, rfl⟩
  · exact ⟨some ⟨g, 0, none⟩, cap, rfl, ⟨by simp, .inr ⟨g, cap, cur, rfl, hg, hh, Nat.zero_le _, hc, hs, by simp⟩⟩, rfl⟩
/-- its box is given the emptied list -/
theorem Col.emptied {T : Bl} {W : World} {B : Nat} {t e : TypeId} {size base : Nat} {v : Value} {n : Nat} {xs : List Value} (h : Col T W B t e size base v n xs) (hte : t ≠ e) :
    ∃ A c, v = .slice A n c ∧ Col T (W.setCell ⟨B, 0, none⟩ (.slice A 0 c)) B t e size base (.slice A 0 c) 0 [] := by
  obtain ⟨A, c, rfl, hr, hb⟩ := row_cut h.row
  have hne : ∀ k, (Value.slice A n c).ownBlock = some k → k ≠ B := fun k hk e2 => by
    subst e2
    obtain ⟨cs, hcs⟩ := row_block h.row hk
    have hbx : W.heap[k]? = some (.cells #[.slice A n c] t) := h.box
    rw [hbx] at hcs
    cases hcs
    exact hte rfl
  refine ⟨A, c, rfl, h.box.set _, row_same hr fun k hk => ?_, fun k hk => h.apart k (hb ▸ hk)⟩
  exact Below.heap_setCell W ⟨B, 0, none⟩ _ k (hne k (hb ▸ hk))
/-- what it holds, read -/
theorem row_read {W : World} {base : Nat} {e : TypeId} {v : Value} {n : Nat} {xs : List Nat} (h : W.ownsRow base e 1 v n (xs.map fun x : Nat => Value.int .i64 (x : Int))) (hn : 0 < n) :
    ∃ g c, v = .slice (some ⟨g, 0, none⟩) n c ∧ base ≤ g ∧ v.ownBlock = some g ∧ xs.length = n ∧ ∀ (j x : Nat), xs[j]? = some x → W.cell? ((⟨g, 0, none⟩ : Addr).add j) = some (.int .i64 (x : Int)) := by
  have hl : xs.length = n := by have := h.1; simpa using this
  rcases h.2 with ⟨rfl, h0⟩ | ⟨g, cap, cur, rfl, hg, _⟩
  · omega
  · refine ⟨g, cap, rfl, hg, rfl, hl, fun j x hx => ?_⟩
    have hr := Rd.own h
    obtain ⟨hj, hxe⟩ := List.getElem?_eq_some_iff.1 hx
    obtain ⟨a, ha, _, hc⟩ := hr.at_ (k := j) (by simpa using hj)
    cases ha
    simp only [List.getElem_map, hxe] at hc
    exact hc
end Go.Proofs.YthkapcnhfdpdbaaDoor
