/- ScanLanguage: the places and numbers of a text; ranging over scan.All, the maker. -/
import Derived.Test.YthakdkpgobloiaaDoorIterA
import Derived.Test.YthakdkpgobloiaaDoorPartsS
import Derived.Test.YthakdkpgobloiaaDoorPartsA
namespace Go.Proofs.YthakdkpgobloiaaDoor
open Go.RowKit Go.Shelf Go.Lib

theorem places_runesF (s : ByteArray) : ∀ (f p : Nat), s.size - p ≤ f → p ≤ s.size → (placesF s f p).map (·.2) = runesOf (s.data.toList.drop p)
  | 0, p, h, hp => by
    rw [placesF_end s 0 p (by omega), List.drop_of_length_le (by rw [size_list]; omega)]
    rfl
  | f + 1, p, h, hp => by
    by_cases hlt : p < s.size
    · have hd := decode_dec s p hp
      have hne : s.data.toList.drop p ≠ [] := by
        intro e
        have := congrArg List.length e
        rw [List.length_drop, size_list] at this
        simp at this
        omega
      have hpos := decode_pos s p
      have hle := dec_le _ hne
      rw [← hd, List.length_drop, size_list] at hle
      unfold placesF
      rw [if_pos hlt, List.map_cons, places_runesF s f _ (by omega) (by omega)]
      unfold runesOf
      rw [segs_cons _ hne, List.map_cons, ← hd, List.drop_drop]
    · rw [placesF_end s _ p hlt, List.drop_of_length_le (by rw [size_list]; omega)]
      rfl
theorem places_runes (s : ByteArray) : (places s).map (·.2) = runesOf s.data.toList := places_runesF s s.size 0 (by omega) (Nat.zero_le _)

theorem all_maker (s : ByteArray) (w : World) : Calls Tryd.prog 35 #[.string s] w fun e w' => e = .returned (.func (.func 55) #[] #[.pointer (some ⟨w.heap.size, 0, none⟩)]) ∧ w' = w.alloc (.cells #[.string s] 9) := by
  go_enter Tryd.func35, Tryd.ntmps35
  go_wp2
  go_ret
  exact ⟨rfl, rfl⟩
theorem iterAll_stops (F : Fence) (n : Nat) (h6 : F.fn 55) (hro : F.round = none) (hn : 1 ≤ n) (Bn : Nat) (s : ByteArray) (w : World) (hBn : Bn < w.heap.size) (hc : w.cell? ⟨Bn, 0, none⟩ = some (.string s)) :
    SeqStopsK F n Tryd.prog 55 #[.pointer (some ⟨Bn, 0, none⟩)] encPlace KeepsWalks (fun ys => ys = places s) (fun pre => pre <+: places s) (places s).length w := fun l J Jx W hW hJ _ hY h0 =>
  iterAll_in F n h6 hro hn l Bn s W.heap.size J Jx hJ hY W (Nat.le_refl _) ((hW.cell (p := ⟨Bn, 0, none⟩) hBn).trans hc) h0
end Go.Proofs.YthakdkpgobloiaaDoor
