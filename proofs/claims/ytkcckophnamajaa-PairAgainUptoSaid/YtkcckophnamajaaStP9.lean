/- Layer 9, pure: what is resolved, place by place; one direction alone; without brackets. -/
import Derived.Test.YtkcckophnamajaaInst9
set_option linter.unusedSimpArgs false
set_option linter.unusedVariables false
namespace Go.Proofs.Ytkcckophnamajaa

theorem fold_val {nsm : Int → Bool} {rs : List Int} {e sos : Int} (he : e = 0 ∨ e = 1) (hs : sos = 0 ∨ sos = 1) : ∀ (ps : Prs) (cur : List Int) (j : Nat), (ps.foldl (pairZ9 nsm rs e sos) cur)[j]? = cur[j]? ∨ ∃ v, (v = 0 ∨ v = 1) ∧ (ps.foldl (pairZ9 nsm rs e sos) cur)[j]? = some v
  | [], _, _ => .inl rfl
  | p :: ps, cur, j => by
    rw [List.foldl_cons]
    rcases fold_val he hs ps (pairZ9 nsm rs e sos cur p) j with h | h
    · rw [h]
      have ha := ahead_two (cur.take p.1) sos hs
      have key : ∀ v, (v = 0 ∨ v = 1) → (becZ nsm rs (becZ nsm rs cur p.1 v) p.2 v)[j]? = cur[j]? ∨ ∃ u, (u = 0 ∨ u = 1) ∧ (becZ nsm rs (becZ nsm rs cur p.1 v) p.2 v)[j]? = some u := fun v hv => by
        rcases becZ_at nsm rs (becZ nsm rs cur p.1 v) p.2 v j with h1 | ⟨_, _, h1⟩ | ⟨_, _, _, h1⟩
        · rw [h1]
          rcases becZ_at nsm rs cur p.1 v j with h2 | ⟨_, _, h2⟩ | ⟨_, _, _, h2⟩
          · exact .inl h2
          · exact .inr ⟨v, hv, h2⟩
          · exact .inr ⟨v, hv, h2⟩
        · exact .inr ⟨v, hv, h1⟩
        · exact .inr ⟨v, hv, h1⟩
      unfold pairZ9
      simp only
      split
      · exact .inl rfl
      · split
        · exact key _ ha
        · exact key _ he
    · exact .inr h
theorem cn9_neu (k : Int) : neuZ (cn9 k) = neuZ k := by
  unfold cn9
  split
  · next h => subst h; rfl
  · rfl
theorem cn9_way (k : Int) (h : neuZ k = false) : wayZ (cn9 k) = wayZ k := by
  unfold cn9
  split
  · next h => subst h; rfl
  · rfl
/-- the answer is a list gone over once more -/
theorem rs_parts {rs ks : List Int} {n : Nat} (hr : rs.length = n) (hk : ks.length = n) (lv sos eos : Int) : ∃ F, rsZ pairOf nsm9 rs ks lv sos eos = rstZ (lvlZ lv) (sidZ eos) (sidZ sos) 0 F ∧ F.length = n ∧ KeepN (ks.map cn9) F ∧ (∀ j : Nat, F[j]? = (ks.map cn9)[j]? ∨ ∃ v, (v = 0 ∨ v = 1) ∧ F[j]? = some v) ∧ (OneW (lvlZ lv) (ks.map cn9) → OneW (lvlZ lv) F) := by
  have e1 : rs.take n = rs := by rw [← hr]; exact List.take_length
  have e2 : ks.take n = ks := by rw [← hk]; exact List.take_length
  refine ⟨(brZ pairOf rs (ks.map cn9)).foldl (pairZ9 nsm9 rs (lvlZ lv) (sidZ sos)) (ks.map cn9), ?_, ?_, ?_, fun j => fold_val (lvl_two _) (sid_two _) _ _ j, fun h => oneW_fold (lvl_two _) _ _ h⟩
  · unfold rsZ
    simp only
    rw [hr, hk, Nat.min_self, e1, e2]
  · rw [fold_len]; simpa using hk
  · refine fold_keep _ _ ⟨rfl, fun _ _ h _ => h⟩ fun p hp => ?_
    obtain ⟨_, _, h⟩ := brZ_holds (rs := rs) (ks := ks.map cn9) pair_back
    have := h.pair p hp
    exact ⟨this.2.2.1, this.2.2.2.1⟩
theorem stays_at {rs ks : List Int} {n : Nat} (hr : rs.length = n) (hk : ks.length = n) (lv sos eos : Int) {i : Nat} {k : Int} (hi : ks[i]? = some k) :
    (neuZ k = false → (rsZ pairOf nsm9 rs ks lv sos eos)[i]? = some (cn9 k)) ∧ (neuZ k = true → ∃ v, (v = 0 ∨ v = 1) ∧ (rsZ pairOf nsm9 rs ks lv sos eos)[i]? = some v) := by
  obtain ⟨F, hF, hFl, hkeep, hval, _⟩ := rs_parts hr hk lv sos eos
  rw [hF]
  have hout : (ks.map cn9)[i]? = some (cn9 k) := by rw [List.getElem?_map, hi]; rfl
  constructor
  · intro hn
    have h1 := hkeep.2 i (cn9 k) hout (by rw [cn9_neu]; exact hn)
    exact (rst_two _ _ _ (lvl_two lv) (sid_two sos) F i (cn9 k) h1).1 (by rw [cn9_neu]; exact hn)
  · intro hn
    rcases hval i with h1 | ⟨v, hv, h1⟩
    · rw [hout] at h1
      exact (rst_two _ _ _ (lvl_two lv) (sid_two sos) F i (cn9 k) h1).2 (by rw [cn9_neu]; exact hn)
    · exact ⟨v, hv, (rst_two _ _ _ (lvl_two lv) (sid_two sos) F i v h1).1 (neu_two hv)⟩
theorem stays_one {rs ks : List Int} {n : Nat} (hr : rs.length = n) (hk : ks.length = n) (lv sos eos : Int) (h1 : sidZ sos = lvlZ lv) (h2 : sidZ eos = lvlZ lv) (ho : otherZ (lvlZ lv) ks = false) {i : Nat} {v : Int} (hi : (rsZ pairOf nsm9 rs ks lv sos eos)[i]? = some v) : v = lvlZ lv ∨ v = 3 ∨ v = 6 := by
  obtain ⟨F, hF, hFl, hkeep, hval, hone⟩ := rs_parts hr hk lv sos eos
  rw [hF, h1, h2] at hi
  have hw : OneW (lvlZ lv) (ks.map cn9) := by
    intro x hx hn
    obtain ⟨k, hkm, rfl⟩ := List.mem_map.1 hx
    rw [cn9_neu] at hn
    rw [cn9_way k hn]
    unfold otherZ at ho
    rw [List.any_eq_false] at ho
    have := ho k hkm
    rw [hn] at this
    simpa using this
  have hlen : (rstZ (lvlZ lv) (lvlZ lv) (lvlZ lv) 0 F).length = n := by rw [rstZ_len, hFl, Nat.zero_add]
  have hin : i < n := by have := (List.getElem?_eq_some_iff.1 hi).1; omega
  obtain ⟨u, hu⟩ : ∃ u, F[i]? = some u := ⟨_, List.getElem?_eq_getElem (by omega)⟩
  by_cases hun : neuZ u = true
  · have := rst_one (hone hw) hu hun
    rw [hi] at this
    exact .inl (Option.some.inj this)
  · have hun' : neuZ u = false := by simpa using hun
    have h3 := (rst_two _ (lvlZ lv) _ (lvl_two lv) (lvl_two lv) F i u hu).1 hun'
    rw [hi] at h3
    obtain rfl := Option.some.inj h3
    have hwu := hone hw v (List.mem_of_getElem? hu) hun'
    have hv2 : v ≠ 2 := by
      rcases hval i with h4 | ⟨x, hx, h4⟩
      · rw [hu, List.getElem?_map] at h4
        cases hki : ks[i]? with
        | none => rw [hki] at h4; cases h4
        | some k =>
          rw [hki] at h4
          have h5 : v = cn9 k := Option.some.inj h4
          rw [h5]
          unfold cn9
          split <;> omega
      · rw [hu] at h4
        have h5 : v = x := Option.some.inj h4
        omega
    rcases neu_not hun' with rfl | rfl | rfl | rfl | rfl
    · exact .inl hwu
    · exact .inl hwu
    · exact absurd rfl hv2
    · exact .inr (.inl rfl)
    · exact .inr (.inr rfl)
end Go.Proofs.Ytkcckophnamajaa
