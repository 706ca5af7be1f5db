/- The program's tables and the document's rows say the same of every number: settled at the borders. -/
import Derived.Test.YthkapcnhfdpdbaaDoorRefs
set_option linter.unusedSimpArgs false
set_option linter.unusedVariables false
namespace Go.Proofs.YthkapcnhfdpdbaaDoor
open Go.RowKit Go.Lib

def bordersR (l : Rows) : List Nat := l.flatMap fun e => e.1.flatMap fun x => [x.1, x.2 + 1]
def alike (l : Tab) (rs : Rows) (d : Nat) : Bool :=
  let B := l.map (·.1) ++ bordersR rs
  among l B && (rs.all fun e => amongRow e.1 B) && B.all fun a => Nat.beq (cls l a) (firstRow rs d a)
theorem alike_at {l : Tab} {rs : Rows} {d : Nat} (h : alike l rs d = true) (h0 : 0 ∈ l.map (·.1)) (r : Nat) : firstRow rs d r = cls l r := by
  unfold alike at h
  simp only [Bool.and_eq_true] at h
  obtain ⟨⟨h1, h2⟩, h3⟩ := h
  obtain ⟨a, ha, hle, hg⟩ := greatest (l.map (·.1) ++ bordersR rs) (by simp only [List.mem_append]; exact .inl h0) r
  rw [cls_same h1 hle hg, firstRow_same hle hg rs d h2]
  exact (Nat.eq_of_beq_eq_true (List.all_eq_true.1 h3 a ha)).symm
set_option maxRecDepth 100000
theorem kinds_same (r : Nat) : firstRow (plainRows kindS) kindD r = cls kindsL r := alike_at (by decide +kernel) (by decide +kernel) r
theorem dirs_same (r : Nat) : firstRow (plainRows dirS) dirD r = cls dirsL r := alike_at (by decide +kernel) (by decide +kernel) r
theorem widths_same (r : Nat) : firstRow (plainRows widthS) widthD r = cls widthsL r := alike_at (by decide +kernel) (by decide +kernel) r
theorem marks_same (r : Nat) : firstRow (plainRows markS) markD r = cls marksL r := alike_at (by decide +kernel) (by decide +kernel) r
theorem joins_same (r : Nat) : firstRow (plainRows joinS) joinD r = cls joinsL r := alike_at (by decide +kernel) (by decide +kernel) r
theorem breaks_same (r : Nat) : firstRow (plainRows breakS) breakD r = cls breaksL r := alike_at (by decide +kernel) (by decide +kernel) r

theorem refKind_is (x : Int) (w : World) : Calls Tryd.prog 70 #[.int .i32 x] w fun e w' => e = .returned (.int .i8 (cls kindsL (char x) : Nat)) ∧ w' = w := by
  rw [← kinds_same]; exact refKind_any x w
theorem refBreak_is (x : Int) (w : World) : Calls Tryd.prog 30 #[.int .i32 x] w fun e w' => e = .returned (.int .i8 (cls breaksL (char x) : Nat)) ∧ w' = w := by
  rw [← breaks_same]; exact refBreak_any x w
theorem refColumns_is (x : Int) (w : World) : Calls Tryd.prog 88 #[.int .i32 x] w fun e w' => e = .returned (.int .i64 (cls widthsL (char x) : Nat)) ∧ w' = w := by
  rw [← widths_same]; exact refColumns_any x w
end Go.Proofs.YthkapcnhfdpdbaaDoor
