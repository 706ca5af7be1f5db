/- The document's answer: the six switches. Written by a program of mine (tools/mkdata.py). -/
import Derived.Test.YtjkakemlhhieoaaGreatDoorClassG
import Derived.Test.YtjkakemlhhieoaaGreatDoorData
set_option linter.unusedSimpArgs false
set_option linter.unusedVariables false
namespace Go.Proofs.YtjkakemlhhieoaaGreatDoor
open Go.RowKit

set_option maxRecDepth 100000 in
theorem refKind_any (x : Int) (w : World) : Calls Tryz.prog 30 #[.int .i32 x] w fun e w' => e = .returned (.int .i8 (firstRow (plainRows kindS) kindD (char x) : Nat)) ∧ w' = w :=
  switch_calls (tR := 21) (tB := 4) (tV := 34) (kV := .i8) (known := 56) (p0 := "ref.go:17") (p1 := "ref.go:18") (pd := "ref.go:37") (z := 0) (rid := 128) (l := kindS) (d := kindD)
    Tryz.func30 (by kernel_rfl) rfl (by decide +kernel) (by decide +kernel) x (char x) w (known_any x w)
    fun ρ h3 hk => run_call rfl rfl (by simp [h3]) hk (enters_of Tryz.func56 (by kernel_rfl) rfl _ _)

set_option maxRecDepth 100000 in
theorem refMark_any (x : Int) (w : World) : Calls Tryz.prog 109 #[.int .i32 x] w fun e w' => e = .returned (.int .u8 (firstRow (plainRows markS) markD (char x) : Nat)) ∧ w' = w :=
  switch_calls (tR := 21) (tB := 4) (tV := 5) (kV := .u8) (known := 56) (p0 := "ref.go:173") (p1 := "ref.go:174") (pd := "ref.go:259") (z := 0) (rid := 133) (l := markS) (d := markD)
    Tryz.func109 (by kernel_rfl) rfl (by decide +kernel) (by decide +kernel) x (char x) w (known_any x w)
    fun ρ h3 hk => run_call rfl rfl (by simp [h3]) hk (enters_of Tryz.func56 (by kernel_rfl) rfl _ _)

end Go.Proofs.YtjkakemlhhieoaaGreatDoor

/- The program's tables and the document's rows say the same of every number: settled at the borders. -/
namespace Go.Proofs.YtjkakemlhhieoaaGreatDoor
open Go.RowKit Go.Lib

def bordersR (l : Rows) : List Nat := l.flatMap fun e => e.1.flatMap fun x => [x.1, x.2 + 1]
def alike (l : Tab) (rs : Rows) (d : Nat) : Bool :=
  let B := l.map (·.1) ++ bordersR rs
  among l B && (rs.all fun e => amongRow e.1 B) && B.all fun a => Nat.beq (cls l a) (firstRow rs d a)
theorem alike_at {l : Tab} {rs : Rows} {d : Nat} (h : alike l rs d = true) (h0 : 0 ∈ l.map (·.1)) (r : Nat) : firstRow rs d r = cls l r := by
  unfold alike at h
  simp only [Bool.and_eq_true] at h
  obtain ⟨⟨h1, h2⟩, h3⟩ := h
  obtain ⟨a, ha, hle, hg⟩ := greatest (l.map (·.1) ++ bordersR rs) (by simp only [List.mem_append]; exact .inl h0) r
  rw [cls_same h1 hle hg, firstRow_same hle hg rs d h2]
  exact (Nat.eq_of_beq_eq_true (List.all_eq_true.1 h3 a ha)).symm
set_option maxRecDepth 100000
theorem kinds_same (r : Nat) : firstRow (plainRows kindS) kindD r = cls kindsL r := alike_at (by decide +kernel) (by decide +kernel) r
theorem dirs_same (r : Nat) : firstRow (plainRows dirS) dirD r = cls dirsL r := alike_at (by decide +kernel) (by decide +kernel) r
theorem widths_same (r : Nat) : firstRow (plainRows widthS) widthD r = cls widthsL r := alike_at (by decide +kernel) (by decide +kernel) r
theorem marks_same (r : Nat) : firstRow (plainRows markS) markD r = cls marksL r := alike_at (by decide +kernel) (by decide +kernel) r
theorem joins_same (r : Nat) : firstRow (plainRows joinS) joinD r = cls joinsL r := alike_at (by decide +kernel) (by decide +kernel) r
theorem breaks_same (r : Nat) : firstRow (plainRows breakS) breakD r = cls breaksL r := alike_at (by decide +kernel) (by decide +kernel) r

theorem refKind_is (x : Int) (w : World) : Calls Tryz.prog 30 #[.int .i32 x] w fun e w' => e = .returned (.int .i8 (cls kindsL (char x) : Nat)) ∧ w' = w := by
  rw [← kinds_same]; exact refKind_any x w
theorem refMark_is (x : Int) (w : World) : Calls Tryz.prog 109 #[.int .i32 x] w fun e w' => e = .returned (.int .u8 (cls marksL (char x) : Nat)) ∧ w' = w := by
  rw [← marks_same]; exact refMark_any x w
end Go.Proofs.YtjkakemlhhieoaaGreatDoor
