/-
  DERIVED. GIVEN WITH THE SEED: THE CARDS: each row of YtlkflbfemlnleaaDoorRows.lean that lists a variable, with what it lists TIED to the program's text (the seventh form; the later family's looks); each row that meets fmt, with fmt's text TOLD by the authors' own Lean function (tested against real Go, not proved from fmt's source: count such statements apart). THE CARD IS WHAT COUNTS. Prove the row's statement (the work); the ties are given (YtlkflbfemlnleaaDoorTie.lean); close each card by the builder's one call (the guide's Derived/Test/ToyasCard.lean, 'card_holds'). Laid BY PROGRAM, IN A SANDBOX (cutbox-door.mjs). By AI agents, Wed Nov 11 2026. No macro, syntax, notation, axiom, sorry.
-/
import Derived.Test.YtlkflbfemlnleaaDoorRows
import GoSem.ClaimSeven
namespace Go.Proofs.YtlkflbfemlnleaaDoor
namespace Rows

/-- THE TIED CARD OF 'shuttlelaw03.ClusterAll'. -/
def clusterAllCard : Claim7 := { stood := { row := clusterAllRow, standIns := [], harness := (true, "c8edc5b3fcefdfecfec20fa5d84ad974b8d155ccca49ce45d9f105af8ba8a59b"), looks := false }, kinds := [], alts := [], laidByText := true, laidKinds := [.data, .pinned], laidTests := true, laidLooks := .later }
def ClusterAllCardSaid : Prop := Claim7.holds Tryd.pinned (.plain (OpenSpec.ofChange clusterAllSpec)) clusterAllCard

/-- THE TIED CARD OF 'shuttlelaw03.ClusterAt'. -/
def clusterAtCard : Claim7 := { stood := { row := clusterAtRow, standIns := [], harness := (true, "c8edc5b3fcefdfecfec20fa5d84ad974b8d155ccca49ce45d9f105af8ba8a59b"), looks := false }, kinds := [], alts := [], laidByText := true, laidKinds := [.data, .pinned], laidTests := true, laidLooks := .later }
def ClusterAtCardSaid : Prop := Claim7.holds Tryd.pinned (.plain (OpenSpec.ofChange clusterAtSpec)) clusterAtCard

/-- THE TIED CARD OF 'shuttlelaw03.ClusterCuts'. -/
def clusterCutsCard : Claim7 := { stood := { row := clusterCutsRow, standIns := [], harness := (true, "c8edc5b3fcefdfecfec20fa5d84ad974b8d155ccca49ce45d9f105af8ba8a59b"), looks := false }, kinds := [], alts := [], laidByText := true, laidKinds := [.data, .pinned], laidTests := true, laidLooks := .later }
def ClusterCutsCardSaid : Prop := Claim7.holds Tryd.pinned (.plain (OpenSpec.ofChange clusterCutsSpec)) clusterCutsCard

/-- THE TIED CARD OF 'shuttlelaw03.ClusterOnes'. -/
def clusterOnesCard : Claim7 := { stood := { row := clusterOnesRow, standIns := [], harness := (true, "c8edc5b3fcefdfecfec20fa5d84ad974b8d155ccca49ce45d9f105af8ba8a59b"), looks := false }, kinds := [], alts := [], laidByText := true, laidKinds := [.data, .pinned], laidTests := true, laidLooks := .later }
def ClusterOnesCardSaid : Prop := Claim7.holds Tryd.pinned (.plain (OpenSpec.ofChange clusterOnesSpec)) clusterOnesCard

/-- THE TIED CARD OF 'shuttlelaw03.ClusterParts'. -/
def clusterPartsCard : Claim7 := { stood := { row := clusterPartsRow, standIns := [], harness := (true, "c8edc5b3fcefdfecfec20fa5d84ad974b8d155ccca49ce45d9f105af8ba8a59b"), looks := false }, kinds := [], alts := [], laidByText := true, laidKinds := [.data, .pinned], laidTests := true, laidLooks := .later }
def ClusterPartsCardSaid : Prop := Claim7.holds Tryd.pinned (.plain (OpenSpec.ofChange clusterPartsSpec)) clusterPartsCard

/-- THE TIED CARD OF 'shuttlelaw03.ClusterKnown'. -/
def clusterKnownCard : Claim7 := { stood := { row := clusterKnownRow, standIns := [], harness := (true, "c8edc5b3fcefdfecfec20fa5d84ad974b8d155ccca49ce45d9f105af8ba8a59b"), looks := false }, kinds := [], alts := [], laidByText := true, laidKinds := [.data, .pinned], laidTests := true, laidLooks := .later }
def ClusterKnownCardSaid : Prop := Claim7.holds Tryd.pinned (.plain (OpenSpec.ofChange clusterKnownSpec)) clusterKnownCard

/-- THE SECOND FORM's CARD OF 'shuttlelaw03.ClusterAll'. -/
def clusterAllUptoCard : Claim7 := { stood := { row := clusterAllUptoRow, standIns := [], harness := (true, "c8edc5b3fcefdfecfec20fa5d84ad974b8d155ccca49ce45d9f105af8ba8a59b"), looks := false }, kinds := [], alts := [], laidByText := true, laidKinds := [.data, .pinned], laidTests := true, laidLooks := .later }
def ClusterAllUptoCardSaid : Prop := Claim7.holds Tryd.pinned (.plain (OpenSpec.upto clusterAllSpec)) clusterAllUptoCard

/-- THE SECOND FORM's CARD OF 'shuttlelaw03.ClusterAt'. -/
def clusterAtUptoCard : Claim7 := { stood := { row := clusterAtUptoRow, standIns := [], harness := (true, "c8edc5b3fcefdfecfec20fa5d84ad974b8d155ccca49ce45d9f105af8ba8a59b"), looks := false }, kinds := [], alts := [], laidByText := true, laidKinds := [.data, .pinned], laidTests := true, laidLooks := .later }
def ClusterAtUptoCardSaid : Prop := Claim7.holds Tryd.pinned (.plain (OpenSpec.upto clusterAtSpec)) clusterAtUptoCard

/-- THE SECOND FORM's CARD OF 'shuttlelaw03.ClusterCuts'. -/
def clusterCutsUptoCard : Claim7 := { stood := { row := clusterCutsUptoRow, standIns := [], harness := (true, "c8edc5b3fcefdfecfec20fa5d84ad974b8d155ccca49ce45d9f105af8ba8a59b"), looks := false }, kinds := [], alts := [], laidByText := true, laidKinds := [.data, .pinned], laidTests := true, laidLooks := .later }
def ClusterCutsUptoCardSaid : Prop := Claim7.holds Tryd.pinned (.plain (OpenSpec.upto clusterCutsSpec)) clusterCutsUptoCard

/-- THE SECOND FORM's CARD OF 'shuttlelaw03.ClusterOnes'. -/
def clusterOnesUptoCard : Claim7 := { stood := { row := clusterOnesUptoRow, standIns := [], harness := (true, "c8edc5b3fcefdfecfec20fa5d84ad974b8d155ccca49ce45d9f105af8ba8a59b"), looks := false }, kinds := [], alts := [], laidByText := true, laidKinds := [.data, .pinned], laidTests := true, laidLooks := .later }
def ClusterOnesUptoCardSaid : Prop := Claim7.holds Tryd.pinned (.plain (OpenSpec.upto clusterOnesSpec)) clusterOnesUptoCard

/-- THE SECOND FORM's CARD OF 'shuttlelaw03.ClusterParts'. -/
def clusterPartsUptoCard : Claim7 := { stood := { row := clusterPartsUptoRow, standIns := [], harness := (true, "c8edc5b3fcefdfecfec20fa5d84ad974b8d155ccca49ce45d9f105af8ba8a59b"), looks := false }, kinds := [], alts := [], laidByText := true, laidKinds := [.data, .pinned], laidTests := true, laidLooks := .later }
def ClusterPartsUptoCardSaid : Prop := Claim7.holds Tryd.pinned (.plain (OpenSpec.upto clusterPartsSpec)) clusterPartsUptoCard

/-- THE SECOND FORM's CARD OF 'shuttlelaw03.ClusterKnown'. -/
def clusterKnownUptoCard : Claim7 := { stood := { row := clusterKnownUptoRow, standIns := [], harness := (true, "c8edc5b3fcefdfecfec20fa5d84ad974b8d155ccca49ce45d9f105af8ba8a59b"), looks := false }, kinds := [], alts := [], laidByText := true, laidKinds := [.data, .pinned], laidTests := true, laidLooks := .later }
def ClusterKnownUptoCardSaid : Prop := Claim7.holds Tryd.pinned (.plain (OpenSpec.upto clusterKnownSpec)) clusterKnownUptoCard
end Rows
end Go.Proofs.YtlkflbfemlnleaaDoor
