/-
  DERIVED. GIVEN WITH THE SEED: THE CARDS: each row of YtjkakemlhhieoaaDoorRows.lean that lists a variable, with what it lists TIED to the program's text (the seventh form; the later family's looks); each row that meets fmt, with fmt's text TOLD by the authors' own Lean function (tested against real Go, not proved from fmt's source: count such statements apart). THE CARD IS WHAT COUNTS. Prove the row's statement (the work); the ties are given (YtjkakemlhhieoaaDoorTie.lean); close each card by the builder's one call (the guide's Derived/Test/ToyasCard.lean, 'card_holds'). Laid BY PROGRAM, IN A SANDBOX (cutbox-door.mjs). By AI agents, Wed Nov 11 2026. No macro, syntax, notation, axiom, sorry.
-/
import Derived.Test.YtjkakemlhhieoaaDoorRows
import GoSem.ClaimSeven
namespace Go.Proofs.YtjkakemlhhieoaaDoor
namespace Rows

/-- THE TIED CARD OF 'shuttlelaw05.FoldLetters'. -/
def foldLettersCard : Claim7 := { stood := { row := foldLettersRow, standIns := [], harness := (true, "07934314b5b3b04053affc4053ad3bfa15bc8a687707c65a10384d7e59f8ac97"), looks := false }, kinds := [], alts := [], laidByText := true, laidKinds := [.data, .data, .pinned], laidTests := true, laidLooks := .later }
def FoldLettersCardSaid : Prop := Claim7.holds Tryd.pinned (.plain (OpenSpec.ofChange foldLettersSpec)) foldLettersCard

/-- THE TIED CARD OF 'shuttlelaw05.FoldRunes'. -/
def foldRunesCard : Claim7 := { stood := { row := foldRunesRow, standIns := [], harness := (true, "07934314b5b3b04053affc4053ad3bfa15bc8a687707c65a10384d7e59f8ac97"), looks := false }, kinds := [], alts := [], laidByText := true, laidKinds := [.data, .data, .pinned], laidTests := true, laidLooks := .later }
def FoldRunesCardSaid : Prop := Claim7.holds Tryd.pinned (.plain (OpenSpec.ofChange foldRunesSpec)) foldRunesCard

/-- THE TIED CARD OF 'shuttlelaw05.FoldOnce'. -/
def foldOnceCard : Claim7 := { stood := { row := foldOnceRow, standIns := [], harness := (true, "07934314b5b3b04053affc4053ad3bfa15bc8a687707c65a10384d7e59f8ac97"), looks := false }, kinds := [], alts := [], laidByText := true, laidKinds := [.data, .data, .pinned], laidTests := true, laidLooks := .later }
def FoldOnceCardSaid : Prop := Claim7.holds Tryd.pinned (.plain (OpenSpec.ofChange foldOnceSpec)) foldOnceCard

/-- THE TIED CARD OF 'shuttlelaw05.FoldLike'. -/
def foldLikeCard : Claim7 := { stood := { row := foldLikeRow, standIns := [], harness := (true, "07934314b5b3b04053affc4053ad3bfa15bc8a687707c65a10384d7e59f8ac97"), looks := false }, kinds := [], alts := [], laidByText := true, laidKinds := [.data, .data, .pinned], laidTests := true, laidLooks := .later }
def FoldLikeCardSaid : Prop := Claim7.holds Tryd.pinned (.plain (OpenSpec.ofChange foldLikeSpec)) foldLikeCard

/-- THE TIED CARD OF 'shuttlelaw05.FoldBytes'. -/
def foldBytesCard : Claim7 := { stood := { row := foldBytesRow, standIns := [], harness := (true, "07934314b5b3b04053affc4053ad3bfa15bc8a687707c65a10384d7e59f8ac97"), looks := false }, kinds := [], alts := [], laidByText := true, laidKinds := [.data, .data, .pinned], laidTests := true, laidLooks := .later }
def FoldBytesCardSaid : Prop := Claim7.holds Tryd.pinned (.plain (OpenSpec.ofChange foldBytesSpec)) foldBytesCard

/-- THE TIED CARD OF 'shuttlelaw05.FoldPairs'. -/
def foldPairsCard : Claim7 := { stood := { row := foldPairsRow, standIns := [], harness := (true, "07934314b5b3b04053affc4053ad3bfa15bc8a687707c65a10384d7e59f8ac97"), looks := false }, kinds := [], alts := [], laidByText := true, laidKinds := [.data, .data, .pinned], laidTests := true, laidLooks := .later }
def FoldPairsCardSaid : Prop := Claim7.holds Tryd.pinned (.plain (OpenSpec.ofChange foldPairsSpec)) foldPairsCard

/-- THE TIED CARD OF 'shuttlelaw05.FoldKnown'. -/
def foldKnownCard : Claim7 := { stood := { row := foldKnownRow, standIns := [], harness := (true, "07934314b5b3b04053affc4053ad3bfa15bc8a687707c65a10384d7e59f8ac97"), looks := false }, kinds := [], alts := [], laidByText := true, laidKinds := [.data, .data, .pinned], laidTests := true, laidLooks := .later }
def FoldKnownCardSaid : Prop := Claim7.holds Tryd.pinned (.plain (OpenSpec.ofChange foldKnownSpec)) foldKnownCard

/-- THE SECOND FORM's CARD OF 'shuttlelaw05.FoldLetters'. -/
def foldLettersUptoCard : Claim7 := { stood := { row := foldLettersUptoRow, standIns := [], harness := (true, "07934314b5b3b04053affc4053ad3bfa15bc8a687707c65a10384d7e59f8ac97"), looks := false }, kinds := [], alts := [], laidByText := true, laidKinds := [.data, .data, .pinned], laidTests := true, laidLooks := .later }
def FoldLettersUptoCardSaid : Prop := Claim7.holds Tryd.pinned (.plain (OpenSpec.upto foldLettersSpec)) foldLettersUptoCard

/-- THE SECOND FORM's CARD OF 'shuttlelaw05.FoldRunes'. -/
def foldRunesUptoCard : Claim7 := { stood := { row := foldRunesUptoRow, standIns := [], harness := (true, "07934314b5b3b04053affc4053ad3bfa15bc8a687707c65a10384d7e59f8ac97"), looks := false }, kinds := [], alts := [], laidByText := true, laidKinds := [.data, .data, .pinned], laidTests := true, laidLooks := .later }
def FoldRunesUptoCardSaid : Prop := Claim7.holds Tryd.pinned (.plain (OpenSpec.upto foldRunesSpec)) foldRunesUptoCard

/-- THE SECOND FORM's CARD OF 'shuttlelaw05.FoldOnce'. -/
def foldOnceUptoCard : Claim7 := { stood := { row := foldOnceUptoRow, standIns := [], harness := (true, "07934314b5b3b04053affc4053ad3bfa15bc8a687707c65a10384d7e59f8ac97"), looks := false }, kinds := [], alts := [], laidByText := true, laidKinds := [.data, .data, .pinned], laidTests := true, laidLooks := .later }
def FoldOnceUptoCardSaid : Prop := Claim7.holds Tryd.pinned (.plain (OpenSpec.upto foldOnceSpec)) foldOnceUptoCard

/-- THE SECOND FORM's CARD OF 'shuttlelaw05.FoldLike'. -/
def foldLikeUptoCard : Claim7 := { stood := { row := foldLikeUptoRow, standIns := [], harness := (true, "07934314b5b3b04053affc4053ad3bfa15bc8a687707c65a10384d7e59f8ac97"), looks := false }, kinds := [], alts := [], laidByText := true, laidKinds := [.data, .data, .pinned], laidTests := true, laidLooks := .later }
def FoldLikeUptoCardSaid : Prop := Claim7.holds Tryd.pinned (.plain (OpenSpec.upto foldLikeSpec)) foldLikeUptoCard

/-- THE SECOND FORM's CARD OF 'shuttlelaw05.FoldBytes'. -/
def foldBytesUptoCard : Claim7 := { stood := { row := foldBytesUptoRow, standIns := [], harness := (true, "07934314b5b3b04053affc4053ad3bfa15bc8a687707c65a10384d7e59f8ac97"), looks := false }, kinds := [], alts := [], laidByText := true, laidKinds := [.data, .data, .pinned], laidTests := true, laidLooks := .later }
def FoldBytesUptoCardSaid : Prop := Claim7.holds Tryd.pinned (.plain (OpenSpec.upto foldBytesSpec)) foldBytesUptoCard

/-- THE SECOND FORM's CARD OF 'shuttlelaw05.FoldPairs'. -/
def foldPairsUptoCard : Claim7 := { stood := { row := foldPairsUptoRow, standIns := [], harness := (true, "07934314b5b3b04053affc4053ad3bfa15bc8a687707c65a10384d7e59f8ac97"), looks := false }, kinds := [], alts := [], laidByText := true, laidKinds := [.data, .data, .pinned], laidTests := true, laidLooks := .later }
def FoldPairsUptoCardSaid : Prop := Claim7.holds Tryd.pinned (.plain (OpenSpec.upto foldPairsSpec)) foldPairsUptoCard

/-- THE SECOND FORM's CARD OF 'shuttlelaw05.FoldKnown'. -/
def foldKnownUptoCard : Claim7 := { stood := { row := foldKnownUptoRow, standIns := [], harness := (true, "07934314b5b3b04053affc4053ad3bfa15bc8a687707c65a10384d7e59f8ac97"), looks := false }, kinds := [], alts := [], laidByText := true, laidKinds := [.data, .data, .pinned], laidTests := true, laidLooks := .later }
def FoldKnownUptoCardSaid : Prop := Claim7.holds Tryd.pinned (.plain (OpenSpec.upto foldKnownSpec)) foldKnownUptoCard
end Rows
end Go.Proofs.YtjkakemlhhieoaaDoor
