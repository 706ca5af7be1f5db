/- The law's own helpers that ask a few texts: steps, alive. -/
import Derived.Test.YtiafofekobcifaaDoorRowG
import Derived.Test.YtiafofekobcifaaDoorLastC
set_option linter.unusedSimpArgs false
set_option linter.unusedVariables false
namespace Go.Proofs.YtiafofekobcifaaDoor
open Go.RowKit Go.Lib

theorem cnext_s (s : ByteArray) (w : World) (hT : Utf8Tabs 0 1 w) (hs : s.size ≤ 1073741824) :
    Calls Tryd.prog 48 #[.string s] w fun e w' => e = .returned (.int .i64 ((placeAt s (clEnd s 0) : Nat) : Int)) ∧ Below w.heap.size w w' := by
  have h := cnext_rest s 0 w (Nat.zero_le _) hT hs
  rw [placeAt_zero, Nat.sub_zero] at h
  have e : s.extract 0 s.size = s := by simp
  rw [e] at h
  exact h
theorem not_isB {s : ByteArray} {q : Int} {j : Nat} (hj : IsBord s j) (h1 : ((placeAt s j : Nat) : Int) < q) (h2 : q < ((placeAt s (clEnd s j) : Nat) : Int)) : ¬ isB s q := by
  rintro ⟨k, hk, rfl⟩
  rcases Nat.lt_or_ge j k with h | h
  · have := placeAt_mono s (isBord_lt hj hk h)
    omega
  · have := placeAt_mono s h
    omega

section texts
theorem a_next : placeAt ⟨#[97]⟩ (clEnd ⟨#[97]⟩ 0) = 1 := by decide +kernel
theorem a_last : clLast ⟨#[97]⟩ = 1 := by decide +kernel
theorem b_at : placeAt ⟨#[97, 204, 129, 98]⟩ (clEnd ⟨#[97, 204, 129, 98]⟩ 0) = 3 := by decide +kernel
theorem c_row : (pcs ⟨#[97, 204, 129, 13, 10, 98, 128]⟩).map (·.2) = [⟨#[97, 204, 129]⟩, ⟨#[13, 10]⟩, ⟨#[98]⟩, ⟨#[128]⟩] := by decide +kernel
theorem d_last : clLast ⟨#[97, 204, 129, 204, 130]⟩ = 5 := by decide +kernel
theorem e_at : placeAt ⟨#[97, 204, 129]⟩ (clEnd ⟨#[97, 204, 129]⟩ 0) = 3 := by decide +kernel
theorem e_size : placeAt ⟨#[97, 204, 129]⟩ (chars ⟨#[97, 204, 129]⟩) = 3 := by decide +kernel
theorem f_count : (pcs ⟨#[225, 132, 128, 225, 133, 161, 225, 134, 168, 120]⟩).length = 2 := by decide +kernel
theorem g_len : (pcs ⟨#[97, 98]⟩).length = 2 := by decide +kernel
end texts

end Go.Proofs.YtiafofekobcifaaDoor
