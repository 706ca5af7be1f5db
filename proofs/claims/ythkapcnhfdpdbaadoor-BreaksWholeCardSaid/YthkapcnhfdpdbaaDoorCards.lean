/-
  DERIVED. GIVEN WITH THE SEED: THE CARDS: each row of YthkapcnhfdpdbaaDoorRows.lean that lists a variable, with what it lists TIED to the program's text (the seventh form; the later family's looks); each row that meets fmt, with fmt's text TOLD by the authors' own Lean function (tested against real Go, not proved from fmt's source: count such statements apart). THE CARD IS WHAT COUNTS. Prove the row's statement (the work); the ties are given (YthkapcnhfdpdbaaDoorTie.lean); close each card by the builder's one call (the guide's Derived/Test/ToyasCard.lean, 'card_holds'). Laid BY PROGRAM, IN A SANDBOX (cutbox-door.mjs). By AI agents, Wed Nov 11 2026. No macro, syntax, notation, axiom, sorry.
-/
import Derived.Test.YthkapcnhfdpdbaaDoorRows
import GoSem.ClaimSeven
namespace Go.Proofs.YthkapcnhfdpdbaaDoor
namespace Rows

/-- THE TIED CARD OF 'shuttlelaw13.BreaksWhere'. -/
def breaksWhereCard : Claim7 := { stood := { row := breaksWhereRow, standIns := [], harness := (true, "e486e3e2fcc2a65cb3860fc4af1e15a5bd9a8dbac36b880c65a3beb92a69f62d"), looks := false }, kinds := [], alts := [], laidByText := true, laidKinds := [.data, .pinned], laidTests := true, laidLooks := .later }
def BreaksWhereCardSaid : Prop := Claim7.holds Tryd.pinned (.plain (OpenSpec.ofChange breaksWhereSpec)) breaksWhereCard

/-- THE TIED CARD OF 'shuttlelaw13.BreaksLines'. -/
def breaksLinesCard : Claim7 := { stood := { row := breaksLinesRow, standIns := [], harness := (true, "e486e3e2fcc2a65cb3860fc4af1e15a5bd9a8dbac36b880c65a3beb92a69f62d"), looks := false }, kinds := [], alts := [], laidByText := true, laidKinds := [.data, .pinned], laidTests := true, laidLooks := .later }
def BreaksLinesCardSaid : Prop := Claim7.holds Tryd.pinned (.plain (OpenSpec.ofChange breaksLinesSpec)) breaksLinesCard

/-- THE TIED CARD OF 'shuttlelaw13.BreaksLocal'. -/
def breaksLocalCard : Claim7 := { stood := { row := breaksLocalRow, standIns := [], harness := (true, "e486e3e2fcc2a65cb3860fc4af1e15a5bd9a8dbac36b880c65a3beb92a69f62d"), looks := false }, kinds := [], alts := [], laidByText := true, laidKinds := [.data, .pinned], laidTests := true, laidLooks := .later }
def BreaksLocalCardSaid : Prop := Claim7.holds Tryd.pinned (.plain (OpenSpec.ofChange breaksLocalSpec)) breaksLocalCard

/-- THE TIED CARD OF 'shuttlelaw13.BreaksWhole'. -/
def breaksWholeCard : Claim7 := { stood := { row := breaksWholeRow, standIns := [], harness := (true, "e486e3e2fcc2a65cb3860fc4af1e15a5bd9a8dbac36b880c65a3beb92a69f62d"), looks := false }, kinds := [], alts := [], laidByText := true, laidKinds := [.data, .pinned], laidTests := true, laidLooks := .later }
def BreaksWholeCardSaid : Prop := Claim7.holds Tryd.pinned (.plain (OpenSpec.ofChange breaksWholeSpec)) breaksWholeCard

/-- THE SECOND FORM's CARD OF 'shuttlelaw13.BreaksWhere'. -/
def breaksWhereUptoCard : Claim7 := { stood := { row := breaksWhereUptoRow, standIns := [], harness := (true, "e486e3e2fcc2a65cb3860fc4af1e15a5bd9a8dbac36b880c65a3beb92a69f62d"), looks := false }, kinds := [], alts := [], laidByText := true, laidKinds := [.data, .pinned], laidTests := true, laidLooks := .later }
def BreaksWhereUptoCardSaid : Prop := Claim7.holds Tryd.pinned (.plain (OpenSpec.upto breaksWhereSpec)) breaksWhereUptoCard

/-- THE SECOND FORM's CARD OF 'shuttlelaw13.BreaksLines'. -/
def breaksLinesUptoCard : Claim7 := { stood := { row := breaksLinesUptoRow, standIns := [], harness := (true, "e486e3e2fcc2a65cb3860fc4af1e15a5bd9a8dbac36b880c65a3beb92a69f62d"), looks := false }, kinds := [], alts := [], laidByText := true, laidKinds := [.data, .pinned], laidTests := true, laidLooks := .later }
def BreaksLinesUptoCardSaid : Prop := Claim7.holds Tryd.pinned (.plain (OpenSpec.upto breaksLinesSpec)) breaksLinesUptoCard

/-- THE SECOND FORM's CARD OF 'shuttlelaw13.BreaksLocal'. -/
def breaksLocalUptoCard : Claim7 := { stood := { row := breaksLocalUptoRow, standIns := [], harness := (true, "e486e3e2fcc2a65cb3860fc4af1e15a5bd9a8dbac36b880c65a3beb92a69f62d"), looks := false }, kinds := [], alts := [], laidByText := true, laidKinds := [.data, .pinned], laidTests := true, laidLooks := .later }
def BreaksLocalUptoCardSaid : Prop := Claim7.holds Tryd.pinned (.plain (OpenSpec.upto breaksLocalSpec)) breaksLocalUptoCard

/-- THE SECOND FORM's CARD OF 'shuttlelaw13.BreaksWhole'. -/
def breaksWholeUptoCard : Claim7 := { stood := { row := breaksWholeUptoRow, standIns := [], harness := (true, "e486e3e2fcc2a65cb3860fc4af1e15a5bd9a8dbac36b880c65a3beb92a69f62d"), looks := false }, kinds := [], alts := [], laidByText := true, laidKinds := [.data, .pinned], laidTests := true, laidLooks := .later }
def BreaksWholeUptoCardSaid : Prop := Claim7.holds Tryd.pinned (.plain (OpenSpec.upto breaksWholeSpec)) breaksWholeUptoCard
end Rows
end Go.Proofs.YthkapcnhfdpdbaaDoor
