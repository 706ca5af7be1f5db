/- norm's Apart and Same. -/
import Derived.Test.YtakfgeonjamjeaaDoorApart
namespace Go.Proofs.YtakfgeonjamjeaaDoor
open Go.RowKit Go.Lib

/-- what a piece may be -/
def OkP (p : Pc) : Prop := 0 ≤ p.1 ∧ p.1 ≤ 1114111 ∧ p.2.1 < 256 ∧ p.2.2 < 256
theorem single_le (r : Int) (h : 0 ≤ r ∧ r ≤ 1114111) : 0 ≤ singleZ r ∧ singleZ r ≤ 1114111 := by
  unfold singleZ
  split
  · decide
  · split
    · decide
    · split
      · decide
      · exact h
theorem splitF_le : ∀ (f : Nat) (r : Int), 0 ≤ r ∧ r ≤ 1114111 → ∀ q ∈ splitF f r, 0 ≤ q ∧ q ≤ 1114111
  | 0, r, h, q, hq => by
    rw [List.mem_singleton.1 hq]
    exact single_le r h
  | f + 1, r, h, q, hq => by
    unfold splitF at hq
    split at hq
    · rw [List.mem_singleton.1 hq]
      exact single_le r h
    · have hp := parts_le (singleZ r)
      have e : stepZ r = partsZ (singleZ r) := rfl
      rcases List.mem_append.1 hq with hq | hq
      · exact splitF_le f _ (by rw [e]; omega) q hq
      · rw [List.mem_singleton.1 hq, e]
        omega
theorem headP_ok (l : List UInt8) (h : l ≠ []) : ∀ p ∈ headP l, OkP p := by
  intro p hp
  have hd := (dec_facts l h).2.2.2.2.2.2
  unfold headP at hp
  split at hp
  · rw [List.mem_singleton.1 hp]
    have : gb l 0 < 256 := by unfold gb; exact UInt8.toNat_lt _
    exact ⟨by show (0 : Int) ≤ 0; omega, by show (0 : Int) ≤ 1114111; omega, by show 0 < 256; omega, this⟩
  · obtain ⟨q, hq, rfl⟩ := List.mem_map.1 hp
    have hb := splitF_le 3 ((dec l).1 : Int) (by omega) q hq
    exact ⟨hb.1, hb.2, markZ_lt q, by show 0 < 256; omega⟩
theorem apF_ok : ∀ (f : Nat) (l : List UInt8), ∀ p ∈ apF f l, OkP p
  | 0, l, p, hp => by simp [apF] at hp
  | f + 1, l, p, hp => by
    unfold apF at hp
    by_cases h : l = []
    · rw [if_pos h] at hp
      cases hp
    · rw [if_neg h] at hp
      rcases List.mem_append.1 hp with hp | hp
      · exact headP_ok l h p hp
      · exact apF_ok f _ p hp
theorem ordR_mem {α : Type} (num : α → Nat) : ∀ (xs row : List α) (y : α), y ∈ ordR num row xs → y ∈ row ∨ y ∈ xs
  | [], row, y, h => .inl (conc_mem num row y 256 h)
  | x :: t, row, y, h => by
    unfold ordR at h
    by_cases hx : num x = 0
    · rw [if_pos hx] at h
      rcases List.mem_append.1 h with h | h
      · exact .inl (conc_mem num row y 256 h)
      · rcases List.mem_cons.1 h with rfl | h
        · exact .inr (List.mem_cons_self ..)
        · rcases ordR_mem num t [] y h with h | h
          · cases h
          · exact .inr (List.mem_cons_of_mem _ h)
    · rw [if_neg hx] at h
      rcases ordR_mem num t (row ++ [x]) y h with h | h
      · rcases List.mem_append.1 h with h | h
        · exact .inl h
        · rw [List.mem_singleton.1 h]; exact .inr (List.mem_cons_self ..)
      · exact .inr (List.mem_cons_of_mem _ h)
theorem apartP_ok (l : List UInt8) : ∀ p ∈ apartP l, OkP p := by
  intro p hp
  rcases ordR_mem numP _ _ p hp with h | h
  · cases h
  · exact apF_ok _ _ p h
theorem apF_len : ∀ (f : Nat) (l : List UInt8), (apF f l).length ≤ 4 * l.length
  | 0, l => by simp [apF]
  | f + 1, l => by
    unfold apF
    by_cases h : l = []
    · rw [if_pos h]; simp
    · rw [if_neg h, List.length_append]
      have h1 := headP_len l
      have h2 := apF_len f (l.drop (dec l).2)
      have h3 := dec_pos l
      have h4 := List.length_pos_iff.2 h
      rw [List.length_drop] at h2
      omega
theorem apartP_len (l : List UInt8) : (apartP l).length ≤ 4 * l.length := by
  unfold apartP ordZ rawP
  rw [ordR_len numP _ _ (fun _ h => by cases h) (fun p hp => (apF_ok _ _ p hp).2.2.1)]
  have := apF_len l.length l
  simp only [List.length_nil, Nat.zero_add]
  exact this
/-- what Apart says -/
def apartS (l : List UInt8) : List UInt8 := textP (apartP l)

set_option maxRecDepth 100000 in
theorem Apart_any (s : ByteArray) (w : World) (hs : s.size ≤ 268435456) (hT : Utf8Tabs 0 1 w) : Calls Tryd.prog 20 #[.string s] w fun e w' => e = .returned (.string ⟨(apartS s.data.toList).toArray⟩) ∧ Below w.heap.size w w' := by
  have HA := Lib.hid (apart_any s w hs hT)
  have HX := Lib.hid (fun ps A n c w a b c' d => ntext_any ps A n c w a b c' d)
  have hlen := apartP_len s.data.toList
  have hsl := size_list s
  have hok := apartP_ok s.data.toList
  unfold apartS
  obtain ⟨ps, hps⟩ : ∃ ps, apartP s.data.toList = ps := ⟨_, rfl⟩
  rw [hps] at HA hlen hok ⊢
  rw [hsl] at hlen
  clear hps hsl
  obtain ⟨R, hR⟩ : ∃ R, (textP ps).toArray = R := ⟨_, rfl⟩
  rw [hR]
  go_enter Tryd.func20, Tryd.ntmps20
  go_wp2_with fail
  refine HA.out.mono ?_
  rintro _ w1 ⟨A, c, rfl, hown, b1⟩
  have HT1 := Lib.hid (HX.out ps A _ c w1 (Rd.own hown) rfl (by omega) (fun p hp => ⟨by have := (hok p hp).1; omega, by have := (hok p hp).2.1; omega, (hok p hp).2.2.2⟩))
  rw [hR] at HT1
  have Hb1 := Lib.hid b1
  clear hown b1 hok
  go_wp2_with fail
  refine HT1.out.mono ?_
  rintro _ w2 ⟨rfl, b2⟩
  have Hb2 := Lib.hid (Hb1.out.trans (b2.mono Hb1.out.size))
  clear b2
  go_wp2_with fail
  go_ret
  exact ⟨rfl, Hb2.out⟩
def sameZ (a b : List UInt8) : Bool := decide (apartS a = apartS b)
set_option maxRecDepth 100000 in
theorem NSame_any (a b : ByteArray) (w : World) (ha : a.size ≤ 268435456) (hb : b.size ≤ 268435456) (hT : Utf8Tabs 0 1 w) : Calls Tryd.prog 24 #[.string a, .string b] w fun e w' => e = .returned (.bool (sameZ a.data.toList b.data.toList)) ∧ Below w.heap.size w w' := by
  have HA := Lib.hid (Apart_any a w ha hT)
  have HB := Lib.hid (fun w hT => Apart_any b w hb hT)
  have HT := Lib.hid hT
  unfold sameZ
  obtain ⟨x, hx⟩ : ∃ x, apartS a.data.toList = x := ⟨_, rfl⟩
  obtain ⟨y, hy⟩ : ∃ y, apartS b.data.toList = y := ⟨_, rfl⟩
  rw [hx] at HA ⊢
  rw [hy] at HB ⊢
  clear hx hy hT
  go_enter Tryd.func24, Tryd.ntmps24
  go_wp2_with fail
  refine HA.out.mono ?_
  rintro _ w1 ⟨rfl, b1⟩
  have HT1 := Lib.hid (Utf8Tabs_below HT.out b1)
  have Hb1 := Lib.hid b1
  clear b1
  go_wp2_with fail
  refine (HB.out w1 HT1.out).mono ?_
  rintro _ w2 ⟨rfl, b2⟩
  have Hb2 := Lib.hid (Hb1.out.trans (b2.mono Hb1.out.size))
  clear b2
  by_cases h : x = y
  · subst h
    go_wp2_with fail
    go_ret
    exact ⟨by simp, Hb2.out⟩
  · have hne : ¬ ((⟨x.toArray⟩ : ByteArray) = ⟨y.toArray⟩) := fun e => h (by have := congrArg (fun z : ByteArray => z.data.toList) e; simpa using this)
    go_wp2_with fail
    go_ret
    exact ⟨by simp [h], Hb2.out⟩
end Go.Proofs.YtakfgeonjamjeaaDoor
