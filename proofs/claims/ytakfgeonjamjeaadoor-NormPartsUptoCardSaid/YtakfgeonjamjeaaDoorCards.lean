/-
  DERIVED. GIVEN WITH THE SEED: THE CARDS: each row of YtakfgeonjamjeaaDoorRows.lean that lists a variable, with what it lists TIED to the program's text (the seventh form; the later family's looks); each row that meets fmt, with fmt's text TOLD by the authors' own Lean function (tested against real Go, not proved from fmt's source: count such statements apart). THE CARD IS WHAT COUNTS. Prove the row's statement (the work); the ties are given (YtakfgeonjamjeaaDoorTie.lean); close each card by the builder's one call (the guide's Derived/Test/ToyasCard.lean, 'card_holds'). Laid BY PROGRAM, IN A SANDBOX (cutbox-door.mjs). By AI agents, Wed Nov 11 2026. No macro, syntax, notation, axiom, sorry.
-/
import Derived.Test.YtakfgeonjamjeaaDoorRows
import GoSem.ClaimSeven
namespace Go.Proofs.YtakfgeonjamjeaaDoor
namespace Rows

/-- THE TIED CARD OF 'shuttlelaw04.NormLetters'. -/
def normLettersCard : Claim7 := { stood := { row := normLettersRow, standIns := [], harness := (true, "3f254c821e3d84d2aa0e63fbd3f215dcdda570c6cee4885206b5d00f3890f92d"), looks := false }, kinds := [], alts := [], laidByText := true, laidKinds := [.data, .pinned], laidTests := true, laidLooks := .later }
def NormLettersCardSaid : Prop := Claim7.holds Tryd.pinned (.plain (OpenSpec.ofChange normLettersSpec)) normLettersCard

/-- THE TIED CARD OF 'shuttlelaw04.NormOrder'. -/
def normOrderCard : Claim7 := { stood := { row := normOrderRow, standIns := [], harness := (true, "3f254c821e3d84d2aa0e63fbd3f215dcdda570c6cee4885206b5d00f3890f92d"), looks := false }, kinds := [], alts := [], laidByText := true, laidKinds := [.data, .pinned], laidTests := true, laidLooks := .later }
def NormOrderCardSaid : Prop := Claim7.holds Tryd.pinned (.plain (OpenSpec.ofChange normOrderSpec)) normOrderCard

/-- THE TIED CARD OF 'shuttlelaw04.NormForms'. -/
def normFormsCard : Claim7 := { stood := { row := normFormsRow, standIns := [], harness := (true, "3f254c821e3d84d2aa0e63fbd3f215dcdda570c6cee4885206b5d00f3890f92d"), looks := false }, kinds := [], alts := [], laidByText := true, laidKinds := [.data, .pinned], laidTests := true, laidLooks := .later }
def NormFormsCardSaid : Prop := Claim7.holds Tryd.pinned (.plain (OpenSpec.ofChange normFormsSpec)) normFormsCard

/-- THE TIED CARD OF 'shuttlelaw04.NormSame'. -/
def normSameCard : Claim7 := { stood := { row := normSameRow, standIns := [], harness := (true, "3f254c821e3d84d2aa0e63fbd3f215dcdda570c6cee4885206b5d00f3890f92d"), looks := false }, kinds := [], alts := [], laidByText := true, laidKinds := [.data, .pinned], laidTests := true, laidLooks := .later }
def NormSameCardSaid : Prop := Claim7.holds Tryd.pinned (.plain (OpenSpec.ofChange normSameSpec)) normSameCard

/-- THE TIED CARD OF 'shuttlelaw04.NormEach'. -/
def normEachCard : Claim7 := { stood := { row := normEachRow, standIns := [], harness := (true, "3f254c821e3d84d2aa0e63fbd3f215dcdda570c6cee4885206b5d00f3890f92d"), looks := false }, kinds := [], alts := [], laidByText := true, laidKinds := [.data, .pinned], laidTests := true, laidLooks := .later }
def NormEachCardSaid : Prop := Claim7.holds Tryd.pinned (.plain (OpenSpec.ofChange normEachSpec)) normEachCard

/-- THE TIED CARD OF 'shuttlelaw04.NormOnce'. -/
def normOnceCard : Claim7 := { stood := { row := normOnceRow, standIns := [], harness := (true, "3f254c821e3d84d2aa0e63fbd3f215dcdda570c6cee4885206b5d00f3890f92d"), looks := false }, kinds := [], alts := [], laidByText := true, laidKinds := [.data, .pinned], laidTests := true, laidLooks := .later }
def NormOnceCardSaid : Prop := Claim7.holds Tryd.pinned (.plain (OpenSpec.ofChange normOnceSpec)) normOnceCard

/-- THE TIED CARD OF 'shuttlelaw04.NormAlike'. -/
def normAlikeCard : Claim7 := { stood := { row := normAlikeRow, standIns := [], harness := (true, "3f254c821e3d84d2aa0e63fbd3f215dcdda570c6cee4885206b5d00f3890f92d"), looks := false }, kinds := [], alts := [], laidByText := true, laidKinds := [.data, .pinned], laidTests := true, laidLooks := .later }
def NormAlikeCardSaid : Prop := Claim7.holds Tryd.pinned (.plain (OpenSpec.ofChange normAlikeSpec)) normAlikeCard

/-- THE TIED CARD OF 'shuttlelaw04.NormParts'. -/
def normPartsCard : Claim7 := { stood := { row := normPartsRow, standIns := [], harness := (true, "3f254c821e3d84d2aa0e63fbd3f215dcdda570c6cee4885206b5d00f3890f92d"), looks := false }, kinds := [], alts := [], laidByText := true, laidKinds := [.data, .pinned], laidTests := true, laidLooks := .later }
def NormPartsCardSaid : Prop := Claim7.holds Tryd.pinned (.plain (OpenSpec.ofChange normPartsSpec)) normPartsCard

/-- THE TIED CARD OF 'shuttlelaw04.NormPairs'. -/
def normPairsCard : Claim7 := { stood := { row := normPairsRow, standIns := [], harness := (true, "3f254c821e3d84d2aa0e63fbd3f215dcdda570c6cee4885206b5d00f3890f92d"), looks := false }, kinds := [], alts := [], laidByText := true, laidKinds := [.data, .pinned], laidTests := true, laidLooks := .later }
def NormPairsCardSaid : Prop := Claim7.holds Tryd.pinned (.plain (OpenSpec.ofChange normPairsSpec)) normPairsCard

/-- THE SECOND FORM's CARD OF 'shuttlelaw04.NormLetters'. -/
def normLettersUptoCard : Claim7 := { stood := { row := normLettersUptoRow, standIns := [], harness := (true, "3f254c821e3d84d2aa0e63fbd3f215dcdda570c6cee4885206b5d00f3890f92d"), looks := false }, kinds := [], alts := [], laidByText := true, laidKinds := [.data, .pinned], laidTests := true, laidLooks := .later }
def NormLettersUptoCardSaid : Prop := Claim7.holds Tryd.pinned (.plain (OpenSpec.upto normLettersSpec)) normLettersUptoCard

/-- THE SECOND FORM's CARD OF 'shuttlelaw04.NormOrder'. -/
def normOrderUptoCard : Claim7 := { stood := { row := normOrderUptoRow, standIns := [], harness := (true, "3f254c821e3d84d2aa0e63fbd3f215dcdda570c6cee4885206b5d00f3890f92d"), looks := false }, kinds := [], alts := [], laidByText := true, laidKinds := [.data, .pinned], laidTests := true, laidLooks := .later }
def NormOrderUptoCardSaid : Prop := Claim7.holds Tryd.pinned (.plain (OpenSpec.upto normOrderSpec)) normOrderUptoCard

/-- THE SECOND FORM's CARD OF 'shuttlelaw04.NormForms'. -/
def normFormsUptoCard : Claim7 := { stood := { row := normFormsUptoRow, standIns := [], harness := (true, "3f254c821e3d84d2aa0e63fbd3f215dcdda570c6cee4885206b5d00f3890f92d"), looks := false }, kinds := [], alts := [], laidByText := true, laidKinds := [.data, .pinned], laidTests := true, laidLooks := .later }
def NormFormsUptoCardSaid : Prop := Claim7.holds Tryd.pinned (.plain (OpenSpec.upto normFormsSpec)) normFormsUptoCard

/-- THE SECOND FORM's CARD OF 'shuttlelaw04.NormSame'. -/
def normSameUptoCard : Claim7 := { stood := { row := normSameUptoRow, standIns := [], harness := (true, "3f254c821e3d84d2aa0e63fbd3f215dcdda570c6cee4885206b5d00f3890f92d"), looks := false }, kinds := [], alts := [], laidByText := true, laidKinds := [.data, .pinned], laidTests := true, laidLooks := .later }
def NormSameUptoCardSaid : Prop := Claim7.holds Tryd.pinned (.plain (OpenSpec.upto normSameSpec)) normSameUptoCard

/-- THE SECOND FORM's CARD OF 'shuttlelaw04.NormEach'. -/
def normEachUptoCard : Claim7 := { stood := { row := normEachUptoRow, standIns := [], harness := (true, "3f254c821e3d84d2aa0e63fbd3f215dcdda570c6cee4885206b5d00f3890f92d"), looks := false }, kinds := [], alts := [], laidByText := true, laidKinds := [.data, .pinned], laidTests := true, laidLooks := .later }
def NormEachUptoCardSaid : Prop := Claim7.holds Tryd.pinned (.plain (OpenSpec.upto normEachSpec)) normEachUptoCard

/-- THE SECOND FORM's CARD OF 'shuttlelaw04.NormOnce'. -/
def normOnceUptoCard : Claim7 := { stood := { row := normOnceUptoRow, standIns := [], harness := (true, "3f254c821e3d84d2aa0e63fbd3f215dcdda570c6cee4885206b5d00f3890f92d"), looks := false }, kinds := [], alts := [], laidByText := true, laidKinds := [.data, .pinned], laidTests := true, laidLooks := .later }
def NormOnceUptoCardSaid : Prop := Claim7.holds Tryd.pinned (.plain (OpenSpec.upto normOnceSpec)) normOnceUptoCard

/-- THE SECOND FORM's CARD OF 'shuttlelaw04.NormAlike'. -/
def normAlikeUptoCard : Claim7 := { stood := { row := normAlikeUptoRow, standIns := [], harness := (true, "3f254c821e3d84d2aa0e63fbd3f215dcdda570c6cee4885206b5d00f3890f92d"), looks := false }, kinds := [], alts := [], laidByText := true, laidKinds := [.data, .pinned], laidTests := true, laidLooks := .later }
def NormAlikeUptoCardSaid : Prop := Claim7.holds Tryd.pinned (.plain (OpenSpec.upto normAlikeSpec)) normAlikeUptoCard

/-- THE SECOND FORM's CARD OF 'shuttlelaw04.NormParts'. -/
def normPartsUptoCard : Claim7 := { stood := { row := normPartsUptoRow, standIns := [], harness := (true, "3f254c821e3d84d2aa0e63fbd3f215dcdda570c6cee4885206b5d00f3890f92d"), looks := false }, kinds := [], alts := [], laidByText := true, laidKinds := [.data, .pinned], laidTests := true, laidLooks := .later }
def NormPartsUptoCardSaid : Prop := Claim7.holds Tryd.pinned (.plain (OpenSpec.upto normPartsSpec)) normPartsUptoCard

/-- THE SECOND FORM's CARD OF 'shuttlelaw04.NormPairs'. -/
def normPairsUptoCard : Claim7 := { stood := { row := normPairsUptoRow, standIns := [], harness := (true, "3f254c821e3d84d2aa0e63fbd3f215dcdda570c6cee4885206b5d00f3890f92d"), looks := false }, kinds := [], alts := [], laidByText := true, laidKinds := [.data, .pinned], laidTests := true, laidLooks := .later }
def NormPairsUptoCardSaid : Prop := Claim7.holds Tryd.pinned (.plain (OpenSpec.upto normPairsSpec)) normPairsUptoCard
end Rows
end Go.Proofs.YtakfgeonjamjeaaDoor
