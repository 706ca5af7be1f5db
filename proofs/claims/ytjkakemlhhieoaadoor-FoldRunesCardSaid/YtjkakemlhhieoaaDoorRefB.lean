/- The document's answer: a character's number, and the first of a text. -/
import Derived.Test.YtjkakemlhhieoaaDoorRefA
import Derived.BigQuiet
import Derived.Deep.QuietTactic
set_option linter.unusedSimpArgs false
set_option linter.unusedVariables false
namespace Go.Proofs.YtjkakemlhhieoaaDoor
open Go.RowKit Go.Lib

set_option maxRecDepth 100000 in
theorem and63 : ∀ X : Fin 256, bits .and .u8 ((X.val : Nat) : Int) 63 = ((X.val % 64 : Nat) : Int) := by decide
set_option maxRecDepth 100000 in
theorem and127 : ∀ X : Fin 256, bits .and .u8 ((X.val : Nat) : Int) 127 = ((X.val % 128 : Nat) : Int) := by decide
set_option maxRecDepth 100000 in
theorem and31 : ∀ X : Fin 256, bits .and .u8 ((X.val : Nat) : Int) 31 = ((X.val % 32 : Nat) : Int) := by decide
set_option maxRecDepth 100000 in
theorem and15 : ∀ X : Fin 256, bits .and .u8 ((X.val : Nat) : Int) 15 = ((X.val % 16 : Nat) : Int) := by decide
set_option maxRecDepth 100000 in
theorem and7' : ∀ X : Fin 256, bits .and .u8 ((X.val : Nat) : Int) 7 = ((X.val % 8 : Nat) : Int) := by decide

def numFrom (l : List UInt8) : Nat → Nat → Nat → Nat
  | 0, _, r => r
  | f + 1, k, r => numFrom l f (k + 1) (64 * r + gb l k % 64)
def maskOf (m : Nat) : Nat := if m = 1 then 128 else if m = 2 then 32 else if m = 3 then 16 else 8
def num (l : List UInt8) : Nat := numFrom l (l.length - 1) 1 (gb l 0 % maskOf l.length)

def NumBd (k r : Nat) : Prop := (k = 1 ∧ r < 128) ∨ (k = 2 ∧ r < 8192) ∨ (k = 3 ∧ r < 524288) ∨ (k = 4 ∧ r < 33554432)

end Go.Proofs.YtjkakemlhhieoaaDoor
