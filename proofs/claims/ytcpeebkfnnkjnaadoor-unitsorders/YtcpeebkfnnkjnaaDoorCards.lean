/-
  DERIVED. GIVEN WITH THE SEED: THE CARDS: each row of YtcpeebkfnnkjnaaDoorRows.lean that lists a variable, with what it lists TIED to the program's text (the seventh form; the later family's looks); each row that meets fmt, with fmt's text TOLD by the authors' own Lean function (tested against real Go, not proved from fmt's source: count such statements apart). THE CARD IS WHAT COUNTS. Prove the row's statement (the work); the ties are given (YtcpeebkfnnkjnaaDoorTie.lean); close each card by the builder's one call (the guide's Derived/Test/ToyasCard.lean, 'card_holds'). Laid BY PROGRAM, IN A SANDBOX (cutbox-door.mjs). By AI agents, Wed Nov 11 2026. No macro, syntax, notation, axiom, sorry.
-/
import Derived.Test.YtcpeebkfnnkjnaaDoorRows
import GoSem.ClaimSeven
namespace Go.Proofs.YtcpeebkfnnkjnaaDoor
namespace Rows

/-- THE TIED CARD OF 'bootjacklaw17.UnitsOrders'. -/
def unitsOrdersCard : Claim7 := { stood := { row := unitsOrdersRow, standIns := [], harness := (true, "952a81a6053e171d30065d485dfbe81450a85753ff5100b506091e0c9f0e98f6"), looks := false }, kinds := [], alts := [], laidByText := true, laidKinds := [.data], laidTests := true, laidLooks := .later }
def UnitsOrdersCardSaid : Prop := Claim7.holds Tryd.pinned (.plain (OpenSpec.ofChange unitsOrdersSpec)) unitsOrdersCard

/-- THE TIED CARD OF 'bootjacklaw17.UnitsDiffs'. -/
def unitsDiffsCard : Claim7 := { stood := { row := unitsDiffsRow, standIns := [], harness := (true, "952a81a6053e171d30065d485dfbe81450a85753ff5100b506091e0c9f0e98f6"), looks := false }, kinds := [], alts := [], laidByText := true, laidKinds := [.data], laidTests := true, laidLooks := .later }
def UnitsDiffsCardSaid : Prop := Claim7.holds Tryd.pinned (.plain (OpenSpec.ofChange unitsDiffsSpec)) unitsDiffsCard

/-- THE TIED CARD OF 'bootjacklaw17.UnitsWait'. -/
def unitsWaitCard : Claim7 := { stood := { row := unitsWaitRow, standIns := [], harness := (true, "952a81a6053e171d30065d485dfbe81450a85753ff5100b506091e0c9f0e98f6"), looks := false }, kinds := [], alts := [], laidByText := true, laidKinds := [.data], laidTests := true, laidLooks := .later }
def UnitsWaitCardSaid : Prop := Claim7.holds Tryd.pinned (.plain (OpenSpec.ofChange unitsWaitSpec)) unitsWaitCard

/-- THE TIED CARD OF 'bootjacklaw17.UnitsParted'. -/
def unitsPartedCard : Claim7 := { stood := { row := unitsPartedRow, standIns := [], harness := (true, "952a81a6053e171d30065d485dfbe81450a85753ff5100b506091e0c9f0e98f6"), looks := false }, kinds := [], alts := [], laidByText := true, laidKinds := [.data], laidTests := true, laidLooks := .later }
def UnitsPartedCardSaid : Prop := Claim7.holds Tryd.pinned (.plain (OpenSpec.ofChange unitsPartedSpec)) unitsPartedCard

/-- THE TIED CARD OF 'bootjacklaw17.UnitsRings'. -/
def unitsRingsCard : Claim7 := { stood := { row := unitsRingsRow, standIns := [], harness := (true, "952a81a6053e171d30065d485dfbe81450a85753ff5100b506091e0c9f0e98f6"), looks := false }, kinds := [], alts := [], laidByText := true, laidKinds := [.data], laidTests := true, laidLooks := .later }
def UnitsRingsCardSaid : Prop := Claim7.holds Tryd.pinned (.plain (OpenSpec.ofChange unitsRingsSpec)) unitsRingsCard

/-- THE SECOND FORM's CARD OF 'bootjacklaw17.UnitsOrders'. -/
def unitsOrdersUptoCard : Claim7 := { stood := { row := unitsOrdersUptoRow, standIns := [], harness := (true, "952a81a6053e171d30065d485dfbe81450a85753ff5100b506091e0c9f0e98f6"), looks := false }, kinds := [], alts := [], laidByText := true, laidKinds := [.data], laidTests := true, laidLooks := .later }
def UnitsOrdersUptoCardSaid : Prop := Claim7.holds Tryd.pinned (.plain (OpenSpec.upto unitsOrdersSpec)) unitsOrdersUptoCard

/-- THE SECOND FORM's CARD OF 'bootjacklaw17.UnitsDiffs'. -/
def unitsDiffsUptoCard : Claim7 := { stood := { row := unitsDiffsUptoRow, standIns := [], harness := (true, "952a81a6053e171d30065d485dfbe81450a85753ff5100b506091e0c9f0e98f6"), looks := false }, kinds := [], alts := [], laidByText := true, laidKinds := [.data], laidTests := true, laidLooks := .later }
def UnitsDiffsUptoCardSaid : Prop := Claim7.holds Tryd.pinned (.plain (OpenSpec.upto unitsDiffsSpec)) unitsDiffsUptoCard

/-- THE SECOND FORM's CARD OF 'bootjacklaw17.UnitsWait'. -/
def unitsWaitUptoCard : Claim7 := { stood := { row := unitsWaitUptoRow, standIns := [], harness := (true, "952a81a6053e171d30065d485dfbe81450a85753ff5100b506091e0c9f0e98f6"), looks := false }, kinds := [], alts := [], laidByText := true, laidKinds := [.data], laidTests := true, laidLooks := .later }
def UnitsWaitUptoCardSaid : Prop := Claim7.holds Tryd.pinned (.plain (OpenSpec.upto unitsWaitSpec)) unitsWaitUptoCard

/-- THE SECOND FORM's CARD OF 'bootjacklaw17.UnitsParted'. -/
def unitsPartedUptoCard : Claim7 := { stood := { row := unitsPartedUptoRow, standIns := [], harness := (true, "952a81a6053e171d30065d485dfbe81450a85753ff5100b506091e0c9f0e98f6"), looks := false }, kinds := [], alts := [], laidByText := true, laidKinds := [.data], laidTests := true, laidLooks := .later }
def UnitsPartedUptoCardSaid : Prop := Claim7.holds Tryd.pinned (.plain (OpenSpec.upto unitsPartedSpec)) unitsPartedUptoCard

/-- THE SECOND FORM's CARD OF 'bootjacklaw17.UnitsRings'. -/
def unitsRingsUptoCard : Claim7 := { stood := { row := unitsRingsUptoRow, standIns := [], harness := (true, "952a81a6053e171d30065d485dfbe81450a85753ff5100b506091e0c9f0e98f6"), looks := false }, kinds := [], alts := [], laidByText := true, laidKinds := [.data], laidTests := true, laidLooks := .later }
def UnitsRingsUptoCardSaid : Prop := Claim7.holds Tryd.pinned (.plain (OpenSpec.upto unitsRingsSpec)) unitsRingsUptoCard
end Rows
end Go.Proofs.YtcpeebkfnnkjnaaDoor
