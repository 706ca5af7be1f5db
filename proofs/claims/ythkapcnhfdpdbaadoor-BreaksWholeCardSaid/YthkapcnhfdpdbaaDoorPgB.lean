/- Layer 13, the program: what its functions answer. -/
import Derived.Test.YthkapcnhfdpdbaaDoorHlG
import Derived.Test.YthkapcnhfdpdbaaDoorNbIt
set_option linter.unusedSimpArgs false
set_option linter.unusedVariables false
namespace Go.Proofs.YthkapcnhfdpdbaaDoor
open Go.RowKit Go.Shelf Go.Lib

theorem whV_ends (s : ByteArray) : saysV (endsN s) = whV (whereN s) := by
  rw [← ends_where]
  unfold whV saysV
  rw [List.map_map]
  rfl
theorem ends_wlen (s : ByteArray) : (endsN s).length = (whereN s).length := by rw [← ends_where, List.length_map]
set_option maxRecDepth 100000 in
theorem breakP_is : BreakP where
  where_ := fun s w hs hT => by
    have h := pwhere_any s w (by omega) hT
    rw [whV_ends, ends_wlen] at h
    exact h
  lines := fun s w hs hT => by
    refine (ln_mk s w).mono ?_
    rintro _ w' ⟨rfl, rfl⟩
    have hb : Below w.heap.size w (w.alloc (.cells #[.string s] 9)) := (Below.refl _ w).alloc (Nat.le_refl _) _
    refine ⟨22, _, rfl, hb, enters_of Tryd.func22 (by kernel_rfl) rfl, fun W => by rfl, fun N₀ W h0 h1 hn hk => ?_⟩
    have hB : N₀ w.heap.size := hn _ (Nat.le_refl _) (by rw [World.size_alloc]; exact Nat.lt_succ_self _)
    exact seqLn 8 (by omega) w.heap.size N₀ s W hB h0 h1 (hk.cell (p := ⟨w.heap.size, 0, none⟩) (.inl hB) (Boxed.new w 9 (.string s)).cell) (by omega) (hk.u8 (.inl h0) (.inl h1) (Utf8Tabs_below hT hb))
end Go.Proofs.YthkapcnhfdpdbaaDoor
