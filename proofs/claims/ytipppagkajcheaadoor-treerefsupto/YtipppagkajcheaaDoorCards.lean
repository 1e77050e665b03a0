/-
  DERIVED. GIVEN WITH THE SEED: THE CARDS: each row of YtipppagkajcheaaDoorRows.lean that lists a variable, with what it lists TIED to the program's text (the seventh form; the later family's looks); each row that meets fmt, with fmt's text TOLD by the authors' own Lean function (tested against real Go, not proved from fmt's source: count such statements apart). THE CARD IS WHAT COUNTS. Prove the row's statement (the work); the ties are given (YtipppagkajcheaaDoorTie.lean); close each card by the builder's one call (the guide's Derived/Test/ToyasCard.lean, 'card_holds'). Laid BY PROGRAM, IN A SANDBOX (cutbox-door.mjs). By AI agents, Wed Nov 11 2026. No macro, syntax, notation, axiom, sorry.
-/
import Derived.Test.YtipppagkajcheaaDoorRows
import GoSem.ClaimSeven
namespace Go.Proofs.YtipppagkajcheaaDoor
namespace Rows

/-- THE TIED CARD OF 'bootjacklaw08.TreeBytes'. -/
def treeBytesCard : Claim7 := { stood := { row := treeBytesRow, standIns := [], harness := (true, "c1923a77df65e9fd6a9ade90c6e9fadf51095212f6d2c69008fd7e46271862f6"), looks := false }, kinds := [], alts := [], laidByText := true, laidKinds := [.data, .data, .data], laidTests := true, laidLooks := .later }
def TreeBytesCardSaid : Prop := Claim7.holds Tryd.pinned (.plain (OpenSpec.ofChange treeBytesSpec)) treeBytesCard

/-- THE TIED CARD OF 'bootjacklaw08.TreeFinds'. -/
def treeFindsCard : Claim7 := { stood := { row := treeFindsRow, standIns := [], harness := (true, "c1923a77df65e9fd6a9ade90c6e9fadf51095212f6d2c69008fd7e46271862f6"), looks := false }, kinds := [], alts := [], laidByText := true, laidKinds := [.data, .data, .data], laidTests := true, laidLooks := .later }
def TreeFindsCardSaid : Prop := Claim7.holds Tryd.pinned (.plain (OpenSpec.ofChange treeFindsSpec)) treeFindsCard

/-- THE TIED CARD OF 'bootjacklaw08.TreeRefs'. -/
def treeRefsCard : Claim7 := { stood := { row := treeRefsRow, standIns := [], harness := (true, "c1923a77df65e9fd6a9ade90c6e9fadf51095212f6d2c69008fd7e46271862f6"), looks := false }, kinds := [], alts := [], laidByText := true, laidKinds := [.data, .data, .data], laidTests := true, laidLooks := .later }
def TreeRefsCardSaid : Prop := Claim7.holds Tryd.pinned (.plain (OpenSpec.ofChange treeRefsSpec)) treeRefsCard

/-- THE SECOND FORM's CARD OF 'bootjacklaw08.TreeBytes'. -/
def treeBytesUptoCard : Claim7 := { stood := { row := treeBytesUptoRow, standIns := [], harness := (true, "c1923a77df65e9fd6a9ade90c6e9fadf51095212f6d2c69008fd7e46271862f6"), looks := false }, kinds := [], alts := [], laidByText := true, laidKinds := [.data, .data, .data], laidTests := true, laidLooks := .later }
def TreeBytesUptoCardSaid : Prop := Claim7.holds Tryd.pinned (.plain (OpenSpec.upto treeBytesSpec)) treeBytesUptoCard

/-- THE SECOND FORM's CARD OF 'bootjacklaw08.TreeFinds'. -/
def treeFindsUptoCard : Claim7 := { stood := { row := treeFindsUptoRow, standIns := [], harness := (true, "c1923a77df65e9fd6a9ade90c6e9fadf51095212f6d2c69008fd7e46271862f6"), looks := false }, kinds := [], alts := [], laidByText := true, laidKinds := [.data, .data, .data], laidTests := true, laidLooks := .later }
def TreeFindsUptoCardSaid : Prop := Claim7.holds Tryd.pinned (.plain (OpenSpec.upto treeFindsSpec)) treeFindsUptoCard

/-- THE SECOND FORM's CARD OF 'bootjacklaw08.TreeRefs'. -/
def treeRefsUptoCard : Claim7 := { stood := { row := treeRefsUptoRow, standIns := [], harness := (true, "c1923a77df65e9fd6a9ade90c6e9fadf51095212f6d2c69008fd7e46271862f6"), looks := false }, kinds := [], alts := [], laidByText := true, laidKinds := [.data, .data, .data], laidTests := true, laidLooks := .later }
def TreeRefsUptoCardSaid : Prop := Claim7.holds Tryd.pinned (.plain (OpenSpec.upto treeRefsSpec)) treeRefsUptoCard
end Rows
end Go.Proofs.YtipppagkajcheaaDoor
