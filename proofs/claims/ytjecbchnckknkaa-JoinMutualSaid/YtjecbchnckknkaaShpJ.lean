/- Layer 11, pure: the shapes of letters, and what a shape is of. -/
import Derived.Test.YtjecbchnckknkaaPureG
import Derived.Test.YtjecbchnckknkaaClass
set_option linter.unusedSimpArgs false
set_option linter.unusedVariables false
namespace Go.Proofs.Ytjecbchnckknkaa

def tabJ : List (Int × Int) := [(0x621, 0xfe80), (0x622, 0xfe81), (0x623, 0xfe83), (0x624, 0xfe85), (0x625, 0xfe87),
  (0x626, 0xfe89), (0x627, 0xfe8d), (0x628, 0xfe8f), (0x629, 0xfe93), (0x62a, 0xfe95), (0x62b, 0xfe99),
  (0x62c, 0xfe9d), (0x62d, 0xfea1), (0x62e, 0xfea5), (0x62f, 0xfea9), (0x630, 0xfeab), (0x631, 0xfead), (0x632, 0xfeaf),
  (0x633, 0xfeb1), (0x634, 0xfeb5), (0x635, 0xfeb9), (0x636, 0xfebd), (0x637, 0xfec1), (0x638, 0xfec5), (0x639, 0xfec9), (0x63a, 0xfecd),
  (0x641, 0xfed1), (0x642, 0xfed5), (0x643, 0xfed9), (0x644, 0xfedd), (0x645, 0xfee1), (0x646, 0xfee5), (0x647, 0xfee9),
  (0x648, 0xfeed), (0x649, 0xfeef), (0x64a, 0xfef1)]
def kJ (r : Int) : Int := ((cls joinsL (char r) : Nat) : Int)
/-- one of a row of shapes: k: how it joins -/
def ofJ (k first form : Int) : Int :=
  if k = 2 ∧ form = 1 then first + 2 else if k = 2 ∧ form = 2 then first + 3
  else if (k = 2 ∨ k = 1) ∧ form = 3 ∨ k = 1 ∧ form = 2 then first + 1 else first
def shapeJ (r form : Int) : Int :=
  match tabJ.find? (fun e => e.1 == r) with
  | some e => ofJ (kJ r) e.2 form
  | none => r
def ligJ (i : Int) : Int := if i = 0 then 0x622 else if i = 1 then 0x623 else if i = 2 then 0x625 else 0x627
def plainJ (r : Int) : List Int :=
  if 0xfef5 ≤ r ∧ r ≤ 0xfefc then [0x644, ligJ ((r - 0xfef5) / 2)]
  else match tabJ.find? (fun e => shapeJ e.1 0 == r || shapeJ e.1 1 == r || shapeJ e.1 2 == r || shapeJ e.1 3 == r) with
  | some e => [e.1]
  | none => [r]
def shapedJ (l : List Int) : List Int := List.zipWith shapeJ l (formsJ 0 (l.map kJ))
def plainsJ (l : List Int) : List Int := l.flatMap plainJ

theorem ofJ_four (k first form : Int) : ∃ g ∈ [(0 : Int), 1, 2, 3], ofJ k first form = ofJ k first g := by
  by_cases h1 : form = 1
  · exact ⟨1, by simp, by rw [h1]⟩
  by_cases h2 : form = 2
  · exact ⟨2, by simp, by rw [h2]⟩
  by_cases h3 : form = 3
  · exact ⟨3, by simp, by rw [h3]⟩
  exact ⟨0, by simp, by simp [ofJ, h1, h2, h3]⟩
theorem shapeJ_four (r form : Int) : ∃ g ∈ [(0 : Int), 1, 2, 3], shapeJ r form = shapeJ r g := by
  unfold shapeJ
  split
  · exact ofJ_four _ _ _
  · exact ⟨0, by simp, rfl⟩
theorem tab_plain : (tabJ.all fun e => [(0 : Int), 1, 2, 3].all fun g => plainJ (shapeJ e.1 g) == [e.1]) = true := by decide +kernel
theorem tab_self : (tabJ.all fun e => plainJ e.1 == [e.1]) = true := by decide +kernel
theorem tab_kind : (tabJ.all fun e => !(kJ e.1 == 3) && !(kJ e.1 == 4)) = true := by decide +kernel
theorem lig_self : ([0x644, 0x622, 0x623, 0x625, 0x627].all fun (x : Int) => plainJ x == [x]) = true := by decide +kernel
theorem found_tab {r : Int} {e : Int × Int} (h : tabJ.find? (fun e => e.1 == r) = some e) : e ∈ tabJ ∧ e.1 = r :=
  ⟨List.mem_of_find?_eq_some h, by simpa using List.find?_some h⟩

theorem plain_shape (r form : Int) : plainJ (shapeJ r form) = plainJ r := by
  obtain ⟨g, hg, e⟩ := shapeJ_four r form
  rw [e]
  rcases hf : tabJ.find? (fun e => e.1 == r) with _ | t
  · have : shapeJ r g = r := by unfold shapeJ; rw [hf]
    rw [this]
  · obtain ⟨hm, rfl⟩ := found_tab hf
    have a := List.all_eq_true.1 tab_plain t hm
    have b := List.all_eq_true.1 tab_self t hm
    have a' := List.all_eq_true.1 a g hg
    rw [eq_of_beq a', eq_of_beq b]
theorem lig_mem (i : Int) : ligJ i ∈ [(0x644 : Int), 0x622, 0x623, 0x625, 0x627] := by
  unfold ligJ; split
  · simp
  split
  · simp
  split <;> simp
theorem plain_plain (r x : Int) (h : x ∈ plainJ r) : plainJ x = [x] := by
  unfold plainJ at h
  split at h
  · simp only [List.mem_cons, List.not_mem_nil, or_false] at h
    rcases h with rfl | rfl
    · exact eq_of_beq (List.all_eq_true.1 lig_self _ (by simp))
    · exact eq_of_beq (List.all_eq_true.1 lig_self _ (lig_mem _))
  · rename_i hn
    split at h
    · rename_i e he
      simp only [List.mem_singleton] at h; subst h
      exact eq_of_beq (List.all_eq_true.1 tab_self e (List.mem_of_find?_eq_some he))
    · rename_i he
      simp only [List.mem_singleton] at h; subst h
      unfold plainJ
      rw [if_neg hn, he]
theorem shape_keep (r form : Int) (h : kJ r = 3 ∨ kJ r = 4) : shapeJ r form = r := by
  unfold shapeJ
  split
  · rename_i e he
    obtain ⟨hm, rfl⟩ := found_tab he
    have := List.all_eq_true.1 tab_kind e hm
    rcases h with h | h <;> simp [h] at this
  · rfl

theorem shapedJ_len (l : List Int) : (shapedJ l).length = l.length := by
  unfold shapedJ; rw [List.length_zipWith, formsJ_len, List.length_map, Nat.min_self]
theorem plains_zip : ∀ (l fs : List Int), l.length = fs.length → plainsJ (List.zipWith shapeJ l fs) = plainsJ l
  | [], _, _ => rfl
  | r :: l, [], h => absurd h (by simp)
  | r :: l, f :: fs, h => by
    have := plains_zip l fs (by simpa using h)
    unfold plainsJ at this ⊢
    rw [List.zipWith_cons_cons, List.flatMap_cons, List.flatMap_cons, this, plain_shape]
theorem plains_shaped (l : List Int) : plainsJ (shapedJ l) = plainsJ l := plains_zip _ _ (by rw [formsJ_len, List.length_map])
theorem plains_id : ∀ (l : List Int), (∀ x ∈ l, plainJ x = [x]) → plainsJ l = l
  | [], _ => rfl
  | x :: l, h => by
    have := plains_id l fun y hy => h y (.tail _ hy)
    unfold plainsJ at this ⊢
    rw [List.flatMap_cons, this, h x (.head _)]; rfl
theorem plains_twice (l : List Int) : plainsJ (plainsJ l) = plainsJ l :=
  plains_id _ fun x hx => by
    unfold plainsJ at hx
    obtain ⟨r, _, hr⟩ := List.mem_flatMap.1 hx
    exact plain_plain r x hr
theorem plains_back (l : List Int) : plainsJ (shapedJ (plainsJ l)) = plainsJ l := by rw [plains_shaped, plains_twice]
theorem plainJ_len (r : Int) : (plainJ r).length = 1 ∨ (plainJ r).length = 2 := by
  unfold plainJ; split
  · exact .inr rfl
  · split <;> exact .inl rfl
end Go.Proofs.Ytjecbchnckknkaa
