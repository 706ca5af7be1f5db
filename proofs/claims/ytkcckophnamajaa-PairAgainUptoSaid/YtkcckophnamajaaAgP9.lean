/- Layer 9, pure: what is resolved once more; without brackets. -/
import Derived.Test.YtkcckophnamajaaStP9
set_option linter.unusedSimpArgs false
set_option linter.unusedVariables false
namespace Go.Proofs.Ytkcckophnamajaa

theorem cn9_four {k : Int} (h : neuZ k = false) : cn9 k = 0 ∨ cn9 k = 1 ∨ cn9 k = 3 ∨ cn9 k = 6 := by
  rcases neu_not h with rfl | rfl | rfl | rfl | rfl <;> decide
theorem rs_four {rs ks : List Int} {n : Nat} (hr : rs.length = n) (hk : ks.length = n) (lv sos eos : Int) : ∀ v ∈ rsZ pairOf nsm9 rs ks lv sos eos, v = 0 ∨ v = 1 ∨ v = 3 ∨ v = 6 := by
  intro v hv
  obtain ⟨i, hi⟩ := List.getElem?_of_mem hv
  have hin : i < n := by
    have h1 := (List.getElem?_eq_some_iff.1 hi).1
    rw [rsZ_len, hr, hk, Nat.min_self] at h1
    exact h1
  obtain ⟨k, hki⟩ : ∃ k, ks[i]? = some k := ⟨_, List.getElem?_eq_getElem (by omega)⟩
  have hs := stays_at hr hk lv sos eos hki
  cases hn : neuZ k with
  | false =>
    have := hs.1 hn
    rw [hi] at this
    rw [Option.some.inj this]
    exact cn9_four hn
  | true =>
    obtain ⟨u, hu, h1⟩ := hs.2 hn
    rw [hi] at h1
    have := Option.some.inj h1
    omega
theorem again_same {rs ks : List Int} {n : Nat} (hr : rs.length = n) (hk : ks.length = n) (lv sos eos : Int) : rsZ pairOf nsm9 rs (rsZ pairOf nsm9 rs ks lv sos eos) lv eos sos = rsZ pairOf nsm9 rs ks lv sos eos :=
  rs_again pairOf nsm9 rs _ lv eos sos (by rw [rsZ_len, hr, hk, Nat.min_self]) (rs_four hr hk lv sos eos)
theorem plain_brk (n : Nat) (l : List Int) : brZ pairOf (List.replicate n 97) l = [] := by
  refine brk_none pairOf _ 0 [] [] (fun x hx => .inl ?_)
  have h := (List.of_mem_zip hx).1
  rw [List.eq_of_mem_replicate h]
  decide +kernel
theorem plain_is {ks : List Int} {n : Nat} (hk : ks.length = n) (lv sos eos : Int) : rsZ pairOf nsm9 (List.replicate n 97) ks lv sos eos = rstZ (lvlZ lv) (sidZ eos) (sidZ sos) 0 (ks.map cn9) := by
  have e1 : (List.replicate n (97 : Int)).take n = List.replicate n 97 := by rw [List.take_replicate, Nat.min_self]
  have e2 : ks.take n = ks := by rw [← hk]; exact List.take_length
  unfold rsZ
  simp only
  rw [List.length_replicate, hk, Nat.min_self, e1, e2, plain_brk]
  rfl
theorem plain_at {ks : List Int} {n : Nat} (hk : ks.length = n) (lv sos eos : Int) {i : Nat} {k : Int} (hi : ks[i]? = some k) :
    (neuZ k = false → (rsZ pairOf nsm9 (List.replicate n 97) ks lv sos eos)[i]? = some (cn9 k)) ∧
    (neuZ k = true → ∃ v, (v = 0 ∨ v = 1) ∧ (v = aheadZ (sidZ sos) ((ks.map cn9).take i) ∨ v = lvlZ lv) ∧ (rsZ pairOf nsm9 (List.replicate n 97) ks lv sos eos)[i]? = some v) := by
  rw [plain_is hk]
  have hout : (ks.map cn9)[i]? = some (cn9 k) := by rw [List.getElem?_map, hi]; rfl
  have h := (rst_at (lvlZ lv) (sidZ eos) (ks.map cn9) (sidZ sos) 0).2 i (cn9 k) hout
  rw [Nat.zero_add, cn9_neu] at h
  refine ⟨h.1, fun hn => ?_⟩
  rcases h.2 hn with h1 | h1
  · exact ⟨_, ahead_two _ _ (sid_two sos), .inl rfl, h1⟩
  · exact ⟨_, lvl_two lv, .inr rfl, h1⟩
theorem ahead_step (s : Int) {ks : List Int} {i : Nat} {k : Int} (hi : ks[i]? = some k) : aheadZ s ((ks.map cn9).take (i + 1)) = if neuZ k = true then aheadZ s ((ks.map cn9).take i) else wayZ (cn9 k) := by
  have hout : (ks.map cn9)[i]? = some (cn9 k) := by rw [List.getElem?_map, hi]; rfl
  rw [List.take_add_one, hout, ← cn9_neu k]
  exact ahead_snoc s _ _
end Go.Proofs.Ytkcckophnamajaa
