/-
  DERIVED. GIVEN WITH THE SEED: THE CARDS: each row of YthejfbanehnmjaaDoorRows.lean that lists a variable, with what it lists TIED to the program's text (the seventh form; the later family's looks); each row that meets fmt, with fmt's text TOLD by the authors' own Lean function (tested against real Go, not proved from fmt's source: count such statements apart). THE CARD IS WHAT COUNTS. Prove the row's statement (the work); the ties are given (YthejfbanehnmjaaDoorTie.lean); close each card by the builder's one call (the guide's Derived/Test/ToyasCard.lean, 'card_holds'). Laid BY PROGRAM, IN A SANDBOX (cutbox-door.mjs). By AI agents, Wed Nov 11 2026. No macro, syntax, notation, axiom, sorry.
-/
import Derived.Test.YthejfbanehnmjaaDoorRows
import GoSem.ClaimSeven
namespace Go.Proofs.YthejfbanehnmjaaDoor
namespace Rows

/-- THE TIED CARD OF 'shuttlelaw06.ShowText'. -/
def showTextCard : Claim7 := { stood := { row := showTextRow, standIns := [], harness := (true, "b15954e826a4882707882a269db7d6219561c3ed31f92efe2977b425b9e78028"), looks := false }, kinds := [], alts := [], laidByText := true, laidKinds := [.data, .pinned], laidTests := true, laidLooks := .later }
def ShowTextCardSaid : Prop := Claim7.holds Tryd.pinned (.plain (OpenSpec.ofChange showTextSpec)) showTextCard

/-- THE TIED CARD OF 'shuttlelaw06.ShowWide'. -/
def showWideCard : Claim7 := { stood := { row := showWideRow, standIns := [], harness := (true, "b15954e826a4882707882a269db7d6219561c3ed31f92efe2977b425b9e78028"), looks := false }, kinds := [], alts := [], laidByText := true, laidKinds := [.data, .pinned], laidTests := true, laidLooks := .later }
def ShowWideCardSaid : Prop := Claim7.holds Tryd.pinned (.plain (OpenSpec.ofChange showWideSpec)) showWideCard

/-- THE TIED CARD OF 'shuttlelaw06.ShowCut'. -/
def showCutCard : Claim7 := { stood := { row := showCutRow, standIns := [], harness := (true, "b15954e826a4882707882a269db7d6219561c3ed31f92efe2977b425b9e78028"), looks := false }, kinds := [], alts := [], laidByText := true, laidKinds := [.data, .pinned], laidTests := true, laidLooks := .later }
def ShowCutCardSaid : Prop := Claim7.holds Tryd.pinned (.plain (OpenSpec.ofChange showCutSpec)) showCutCard

/-- THE TIED CARD OF 'shuttlelaw06.ShowPlain'. -/
def showPlainCard : Claim7 := { stood := { row := showPlainRow, standIns := [], harness := (true, "b15954e826a4882707882a269db7d6219561c3ed31f92efe2977b425b9e78028"), looks := false }, kinds := [], alts := [], laidByText := true, laidKinds := [.data, .pinned], laidTests := true, laidLooks := .later }
def ShowPlainCardSaid : Prop := Claim7.holds Tryd.pinned (.plain (OpenSpec.ofChange showPlainSpec)) showPlainCard

/-- THE TIED CARD OF 'shuttlelaw06.ShowAdds'. -/
def showAddsCard : Claim7 := { stood := { row := showAddsRow, standIns := [], harness := (true, "b15954e826a4882707882a269db7d6219561c3ed31f92efe2977b425b9e78028"), looks := false }, kinds := [], alts := [], laidByText := true, laidKinds := [.data, .pinned], laidTests := true, laidLooks := .later }
def ShowAddsCardSaid : Prop := Claim7.holds Tryd.pinned (.plain (OpenSpec.ofChange showAddsSpec)) showAddsCard

/-- THE TIED CARD OF 'shuttlelaw06.ShowBytes'. -/
def showBytesCard : Claim7 := { stood := { row := showBytesRow, standIns := [], harness := (true, "b15954e826a4882707882a269db7d6219561c3ed31f92efe2977b425b9e78028"), looks := false }, kinds := [], alts := [], laidByText := true, laidKinds := [.data, .pinned], laidTests := true, laidLooks := .later }
def ShowBytesCardSaid : Prop := Claim7.holds Tryd.pinned (.plain (OpenSpec.ofChange showBytesSpec)) showBytesCard

/-- THE TIED CARD OF 'shuttlelaw06.ShowKnown'. -/
def showKnownCard : Claim7 := { stood := { row := showKnownRow, standIns := [], harness := (true, "b15954e826a4882707882a269db7d6219561c3ed31f92efe2977b425b9e78028"), looks := false }, kinds := [], alts := [], laidByText := true, laidKinds := [.data, .pinned], laidTests := true, laidLooks := .later }
def ShowKnownCardSaid : Prop := Claim7.holds Tryd.pinned (.plain (OpenSpec.ofChange showKnownSpec)) showKnownCard

/-- THE SECOND FORM's CARD OF 'shuttlelaw06.ShowText'. -/
def showTextUptoCard : Claim7 := { stood := { row := showTextUptoRow, standIns := [], harness := (true, "b15954e826a4882707882a269db7d6219561c3ed31f92efe2977b425b9e78028"), looks := false }, kinds := [], alts := [], laidByText := true, laidKinds := [.data, .pinned], laidTests := true, laidLooks := .later }
def ShowTextUptoCardSaid : Prop := Claim7.holds Tryd.pinned (.plain (OpenSpec.upto showTextSpec)) showTextUptoCard

/-- THE SECOND FORM's CARD OF 'shuttlelaw06.ShowWide'. -/
def showWideUptoCard : Claim7 := { stood := { row := showWideUptoRow, standIns := [], harness := (true, "b15954e826a4882707882a269db7d6219561c3ed31f92efe2977b425b9e78028"), looks := false }, kinds := [], alts := [], laidByText := true, laidKinds := [.data, .pinned], laidTests := true, laidLooks := .later }
def ShowWideUptoCardSaid : Prop := Claim7.holds Tryd.pinned (.plain (OpenSpec.upto showWideSpec)) showWideUptoCard

/-- THE SECOND FORM's CARD OF 'shuttlelaw06.ShowCut'. -/
def showCutUptoCard : Claim7 := { stood := { row := showCutUptoRow, standIns := [], harness := (true, "b15954e826a4882707882a269db7d6219561c3ed31f92efe2977b425b9e78028"), looks := false }, kinds := [], alts := [], laidByText := true, laidKinds := [.data, .pinned], laidTests := true, laidLooks := .later }
def ShowCutUptoCardSaid : Prop := Claim7.holds Tryd.pinned (.plain (OpenSpec.upto showCutSpec)) showCutUptoCard

/-- THE SECOND FORM's CARD OF 'shuttlelaw06.ShowPlain'. -/
def showPlainUptoCard : Claim7 := { stood := { row := showPlainUptoRow, standIns := [], harness := (true, "b15954e826a4882707882a269db7d6219561c3ed31f92efe2977b425b9e78028"), looks := false }, kinds := [], alts := [], laidByText := true, laidKinds := [.data, .pinned], laidTests := true, laidLooks := .later }
def ShowPlainUptoCardSaid : Prop := Claim7.holds Tryd.pinned (.plain (OpenSpec.upto showPlainSpec)) showPlainUptoCard

/-- THE SECOND FORM's CARD OF 'shuttlelaw06.ShowAdds'. -/
def showAddsUptoCard : Claim7 := { stood := { row := showAddsUptoRow, standIns := [], harness := (true, "b15954e826a4882707882a269db7d6219561c3ed31f92efe2977b425b9e78028"), looks := false }, kinds := [], alts := [], laidByText := true, laidKinds := [.data, .pinned], laidTests := true, laidLooks := .later }
def ShowAddsUptoCardSaid : Prop := Claim7.holds Tryd.pinned (.plain (OpenSpec.upto showAddsSpec)) showAddsUptoCard

/-- THE SECOND FORM's CARD OF 'shuttlelaw06.ShowBytes'. -/
def showBytesUptoCard : Claim7 := { stood := { row := showBytesUptoRow, standIns := [], harness := (true, "b15954e826a4882707882a269db7d6219561c3ed31f92efe2977b425b9e78028"), looks := false }, kinds := [], alts := [], laidByText := true, laidKinds := [.data, .pinned], laidTests := true, laidLooks := .later }
def ShowBytesUptoCardSaid : Prop := Claim7.holds Tryd.pinned (.plain (OpenSpec.upto showBytesSpec)) showBytesUptoCard

/-- THE SECOND FORM's CARD OF 'shuttlelaw06.ShowKnown'. -/
def showKnownUptoCard : Claim7 := { stood := { row := showKnownUptoRow, standIns := [], harness := (true, "b15954e826a4882707882a269db7d6219561c3ed31f92efe2977b425b9e78028"), looks := false }, kinds := [], alts := [], laidByText := true, laidKinds := [.data, .pinned], laidTests := true, laidLooks := .later }
def ShowKnownUptoCardSaid : Prop := Claim7.holds Tryd.pinned (.plain (OpenSpec.upto showKnownSpec)) showKnownUptoCard
end Rows
end Go.Proofs.YthejfbanehnmjaaDoor
