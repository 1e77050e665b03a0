/-
  DERIVED. GIVEN WITH THE SEED: THE CARDS: each row of YtniailfcmlongaaGreatDoorRows.lean that lists a variable, with what it lists TIED to the program's text (the seventh form; the later family's looks); each row that meets fmt, with fmt's text TOLD by the authors' own Lean function (tested against real Go, not proved from fmt's source: count such statements apart). THE CARD IS WHAT COUNTS. Prove the row's statement (the work); the ties are given (YtniailfcmlongaaGreatDoorTie.lean); close each card by the builder's one call (the guide's Derived/Test/ToyasCard.lean, 'card_holds'). Laid BY PROGRAM, IN A SANDBOX (cutbox-door.mjs). By AI agents, Wed Nov 11 2026. No macro, syntax, notation, axiom, sorry.
-/
import Derived.Test.YtniailfcmlongaaGreatDoorRows
import GoSem.ClaimSeven
namespace Go.Proofs.YtniailfcmlongaaGreatDoor
namespace Rows

/-- THE TIED CARD OF 'bootjacklaw14.TypesTells'. -/
def typesTellsCard : Claim7 := { stood := { row := typesTellsRow, standIns := [], harness := (true, "f2f5cecc18039ea26f9d4f48348bb189c0d6d5e75635ee4a677d9a2b0db711b7"), looks := true }, kinds := [], alts := [], laidByText := true, laidKinds := [.data, .data, .data, .data, .sentinel, .sentinel, .pinned], laidTests := true, laidLooks := .later }
def TypesTellsCardSaid : Prop := Claim7.holds Tryz.pinned (.plain (OpenSpec.ofChange typesTellsSpec)) typesTellsCard

/-- THE TIED CARD OF 'bootjacklaw14.TypesMerges'. -/
def typesMergesCard : Claim7 := { stood := { row := typesMergesRow, standIns := [], harness := (true, "f2f5cecc18039ea26f9d4f48348bb189c0d6d5e75635ee4a677d9a2b0db711b7"), looks := true }, kinds := [], alts := [], laidByText := true, laidKinds := [.data, .data, .data, .data, .sentinel, .sentinel, .pinned], laidTests := true, laidLooks := .later }
def TypesMergesCardSaid : Prop := Claim7.holds Tryz.pinned (.plain (OpenSpec.ofChange typesMergesSpec)) typesMergesCard

/-- THE TIED CARD OF 'bootjacklaw14.TypesFit'. -/
def typesFitCard : Claim7 := { stood := { row := typesFitRow, standIns := [], harness := (true, "f2f5cecc18039ea26f9d4f48348bb189c0d6d5e75635ee4a677d9a2b0db711b7"), looks := true }, kinds := [], alts := [], laidByText := true, laidKinds := [.data, .data, .data, .data, .sentinel, .sentinel, .pinned], laidTests := true, laidLooks := .later }
def TypesFitCardSaid : Prop := Claim7.holds Tryz.pinned (.plain (OpenSpec.ofChange typesFitSpec)) typesFitCard

/-- THE TIED CARD OF 'bootjacklaw14.TypesLeast'. -/
def typesLeastCard : Claim7 := { stood := { row := typesLeastRow, standIns := [], harness := (true, "f2f5cecc18039ea26f9d4f48348bb189c0d6d5e75635ee4a677d9a2b0db711b7"), looks := true }, kinds := [], alts := [], laidByText := true, laidKinds := [.data, .data, .data, .data, .sentinel, .sentinel, .pinned], laidTests := true, laidLooks := .later }
def TypesLeastCardSaid : Prop := Claim7.holds Tryz.pinned (.plain (OpenSpec.ofChange typesLeastSpec)) typesLeastCard

/-- THE TIED CARD OF 'bootjacklaw14.TypesLists'. -/
def typesListsCard : Claim7 := { stood := { row := typesListsRow, standIns := [], harness := (true, "f2f5cecc18039ea26f9d4f48348bb189c0d6d5e75635ee4a677d9a2b0db711b7"), looks := true }, kinds := [], alts := [], laidByText := true, laidKinds := [.data, .data, .data, .data, .sentinel, .sentinel, .pinned], laidTests := true, laidLooks := .later }
def TypesListsCardSaid : Prop := Claim7.holds Tryz.pinned (.plain (OpenSpec.ofChange typesListsSpec)) typesListsCard

/-- THE TIED CARD OF 'bootjacklaw14.TypesInts'. -/
def typesIntsCard : Claim7 := { stood := { row := typesIntsRow, standIns := [], harness := (true, "f2f5cecc18039ea26f9d4f48348bb189c0d6d5e75635ee4a677d9a2b0db711b7"), looks := true }, kinds := [], alts := [], laidByText := true, laidKinds := [.data, .data, .data, .data, .sentinel, .sentinel, .pinned], laidTests := true, laidLooks := .later }
def TypesIntsCardSaid : Prop := Claim7.holds Tryz.pinned (.plain (OpenSpec.ofChange typesIntsSpec)) typesIntsCard

/-- THE TIED CARD OF 'bootjacklaw14.TypesNested'. -/
def typesNestedCard : Claim7 := { stood := { row := typesNestedRow, standIns := [], harness := (true, "f2f5cecc18039ea26f9d4f48348bb189c0d6d5e75635ee4a677d9a2b0db711b7"), looks := true }, kinds := [], alts := [], laidByText := true, laidKinds := [.data, .data, .data, .data, .sentinel, .sentinel, .pinned], laidTests := true, laidLooks := .later }
def TypesNestedCardSaid : Prop := Claim7.holds Tryz.pinned (.plain (OpenSpec.ofChange typesNestedSpec)) typesNestedCard

/-- THE SECOND FORM's CARD OF 'bootjacklaw14.TypesTells'. -/
def typesTellsUptoCard : Claim7 := { stood := { row := typesTellsUptoRow, standIns := [], harness := (true, "f2f5cecc18039ea26f9d4f48348bb189c0d6d5e75635ee4a677d9a2b0db711b7"), looks := true }, kinds := [], alts := [], laidByText := true, laidKinds := [.data, .data, .data, .data, .sentinel, .sentinel, .pinned], laidTests := true, laidLooks := .later }
def TypesTellsUptoCardSaid : Prop := Claim7.holds Tryz.pinned (.plain (OpenSpec.upto typesTellsSpec)) typesTellsUptoCard

/-- THE SECOND FORM's CARD OF 'bootjacklaw14.TypesMerges'. -/
def typesMergesUptoCard : Claim7 := { stood := { row := typesMergesUptoRow, standIns := [], harness := (true, "f2f5cecc18039ea26f9d4f48348bb189c0d6d5e75635ee4a677d9a2b0db711b7"), looks := true }, kinds := [], alts := [], laidByText := true, laidKinds := [.data, .data, .data, .data, .sentinel, .sentinel, .pinned], laidTests := true, laidLooks := .later }
def TypesMergesUptoCardSaid : Prop := Claim7.holds Tryz.pinned (.plain (OpenSpec.upto typesMergesSpec)) typesMergesUptoCard

/-- THE SECOND FORM's CARD OF 'bootjacklaw14.TypesFit'. -/
def typesFitUptoCard : Claim7 := { stood := { row := typesFitUptoRow, standIns := [], harness := (true, "f2f5cecc18039ea26f9d4f48348bb189c0d6d5e75635ee4a677d9a2b0db711b7"), looks := true }, kinds := [], alts := [], laidByText := true, laidKinds := [.data, .data, .data, .data, .sentinel, .sentinel, .pinned], laidTests := true, laidLooks := .later }
def TypesFitUptoCardSaid : Prop := Claim7.holds Tryz.pinned (.plain (OpenSpec.upto typesFitSpec)) typesFitUptoCard

/-- THE SECOND FORM's CARD OF 'bootjacklaw14.TypesLeast'. -/
def typesLeastUptoCard : Claim7 := { stood := { row := typesLeastUptoRow, standIns := [], harness := (true, "f2f5cecc18039ea26f9d4f48348bb189c0d6d5e75635ee4a677d9a2b0db711b7"), looks := true }, kinds := [], alts := [], laidByText := true, laidKinds := [.data, .data, .data, .data, .sentinel, .sentinel, .pinned], laidTests := true, laidLooks := .later }
def TypesLeastUptoCardSaid : Prop := Claim7.holds Tryz.pinned (.plain (OpenSpec.upto typesLeastSpec)) typesLeastUptoCard

/-- THE SECOND FORM's CARD OF 'bootjacklaw14.TypesLists'. -/
def typesListsUptoCard : Claim7 := { stood := { row := typesListsUptoRow, standIns := [], harness := (true, "f2f5cecc18039ea26f9d4f48348bb189c0d6d5e75635ee4a677d9a2b0db711b7"), looks := true }, kinds := [], alts := [], laidByText := true, laidKinds := [.data, .data, .data, .data, .sentinel, .sentinel, .pinned], laidTests := true, laidLooks := .later }
def TypesListsUptoCardSaid : Prop := Claim7.holds Tryz.pinned (.plain (OpenSpec.upto typesListsSpec)) typesListsUptoCard

/-- THE SECOND FORM's CARD OF 'bootjacklaw14.TypesInts'. -/
def typesIntsUptoCard : Claim7 := { stood := { row := typesIntsUptoRow, standIns := [], harness := (true, "f2f5cecc18039ea26f9d4f48348bb189c0d6d5e75635ee4a677d9a2b0db711b7"), looks := true }, kinds := [], alts := [], laidByText := true, laidKinds := [.data, .data, .data, .data, .sentinel, .sentinel, .pinned], laidTests := true, laidLooks := .later }
def TypesIntsUptoCardSaid : Prop := Claim7.holds Tryz.pinned (.plain (OpenSpec.upto typesIntsSpec)) typesIntsUptoCard

/-- THE SECOND FORM's CARD OF 'bootjacklaw14.TypesNested'. -/
def typesNestedUptoCard : Claim7 := { stood := { row := typesNestedUptoRow, standIns := [], harness := (true, "f2f5cecc18039ea26f9d4f48348bb189c0d6d5e75635ee4a677d9a2b0db711b7"), looks := true }, kinds := [], alts := [], laidByText := true, laidKinds := [.data, .data, .data, .data, .sentinel, .sentinel, .pinned], laidTests := true, laidLooks := .later }
def TypesNestedUptoCardSaid : Prop := Claim7.holds Tryz.pinned (.plain (OpenSpec.upto typesNestedSpec)) typesNestedUptoCard
end Rows
end Go.Proofs.YtniailfcmlongaaGreatDoor
