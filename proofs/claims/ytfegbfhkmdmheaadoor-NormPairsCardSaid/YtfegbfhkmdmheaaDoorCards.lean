/-
  DERIVED. GIVEN WITH THE SEED: THE CARDS: each row of YtfegbfhkmdmheaaDoorRows.lean that lists a variable, with what it lists TIED to the program's text (the seventh form; the later family's looks); each row that meets fmt, with fmt's text TOLD by the authors' own Lean function (tested against real Go, not proved from fmt's source: count such statements apart). THE CARD IS WHAT COUNTS. Prove the row's statement (the work); the ties are given (YtfegbfhkmdmheaaDoorTie.lean); close each card by the builder's one call (the guide's Derived/Test/ToyasCard.lean, 'card_holds'). Laid BY PROGRAM, IN A SANDBOX (cutbox-door.mjs). By AI agents, Wed Nov 11 2026. No macro, syntax, notation, axiom, sorry.
-/
import Derived.Test.YtfegbfhkmdmheaaDoorRows
import GoSem.ClaimSeven
namespace Go.Proofs.YtfegbfhkmdmheaaDoor
namespace Rows

/-- THE TIED CARD OF 'shuttlelaw01.ScanReads'. -/
def scanReadsCard : Claim7 := { stood := { row := scanReadsRow, standIns := [], harness := (true, "029c5604136a8f45dba2fd54a3da3e5138c15076a91ea8b6a7a2bf92a39a1f6f"), looks := false }, kinds := [], alts := [], laidByText := true, laidKinds := [.data, .pinned], laidTests := true, laidLooks := .later }
def ScanReadsCardSaid : Prop := Claim7.holds Tryd.pinned (.plain (OpenSpec.ofChange scanReadsSpec)) scanReadsCard

/-- THE TIED CARD OF 'shuttlelaw04.NormPairs'. -/
def normPairsCard : Claim7 := { stood := { row := normPairsRow, standIns := [], harness := (true, "029c5604136a8f45dba2fd54a3da3e5138c15076a91ea8b6a7a2bf92a39a1f6f"), looks := false }, kinds := [], alts := [], laidByText := true, laidKinds := [.data, .pinned], laidTests := true, laidLooks := .later }
def NormPairsCardSaid : Prop := Claim7.holds Tryd.pinned (.plain (OpenSpec.ofChange normPairsSpec)) normPairsCard

/-- THE TIED CARD OF 'shuttlelaw06.ShowAdds'. -/
def showAddsCard : Claim7 := { stood := { row := showAddsRow, standIns := [], harness := (true, "029c5604136a8f45dba2fd54a3da3e5138c15076a91ea8b6a7a2bf92a39a1f6f"), looks := false }, kinds := [], alts := [], laidByText := true, laidKinds := [.data, .pinned], laidTests := true, laidLooks := .later }
def ShowAddsCardSaid : Prop := Claim7.holds Tryd.pinned (.plain (OpenSpec.ofChange showAddsSpec)) showAddsCard

/-- THE SECOND FORM's CARD OF 'shuttlelaw01.ScanReads'. -/
def scanReadsUptoCard : Claim7 := { stood := { row := scanReadsUptoRow, standIns := [], harness := (true, "029c5604136a8f45dba2fd54a3da3e5138c15076a91ea8b6a7a2bf92a39a1f6f"), looks := false }, kinds := [], alts := [], laidByText := true, laidKinds := [.data, .pinned], laidTests := true, laidLooks := .later }
def ScanReadsUptoCardSaid : Prop := Claim7.holds Tryd.pinned (.plain (OpenSpec.upto scanReadsSpec)) scanReadsUptoCard

/-- THE SECOND FORM's CARD OF 'shuttlelaw04.NormPairs'. -/
def normPairsUptoCard : Claim7 := { stood := { row := normPairsUptoRow, standIns := [], harness := (true, "029c5604136a8f45dba2fd54a3da3e5138c15076a91ea8b6a7a2bf92a39a1f6f"), looks := false }, kinds := [], alts := [], laidByText := true, laidKinds := [.data, .pinned], laidTests := true, laidLooks := .later }
def NormPairsUptoCardSaid : Prop := Claim7.holds Tryd.pinned (.plain (OpenSpec.upto normPairsSpec)) normPairsUptoCard

/-- THE SECOND FORM's CARD OF 'shuttlelaw06.ShowAdds'. -/
def showAddsUptoCard : Claim7 := { stood := { row := showAddsUptoRow, standIns := [], harness := (true, "029c5604136a8f45dba2fd54a3da3e5138c15076a91ea8b6a7a2bf92a39a1f6f"), looks := false }, kinds := [], alts := [], laidByText := true, laidKinds := [.data, .pinned], laidTests := true, laidLooks := .later }
def ShowAddsUptoCardSaid : Prop := Claim7.holds Tryd.pinned (.plain (OpenSpec.upto showAddsSpec)) showAddsUptoCard
end Rows
end Go.Proofs.YtfegbfhkmdmheaaDoor
