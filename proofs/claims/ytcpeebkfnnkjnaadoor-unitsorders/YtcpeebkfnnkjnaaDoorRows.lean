/-
  NARROWER THAN 'FOR EVERY INPUT', by the rows' own cells (each row's printed sentence says how): UnitsOrders: laid · UnitsDiffs: laid · UnitsWait: laid · UnitsParted: laid · UnitsRings: laid.
  DERIVED. THE GIVEN ROWS OF THIS SEAT. 5 by the template 'for every input the law returns true; each argument reads behind the call as it read before'; 0 by the template 'total and deterministic' (their statements: YtcpeebkfnnkjnaaDoorTotals.lean).
  GIVEN WITH THE SEED: the statements are not yours to turn. If you find one false, say at which input.
  Laid BY PROGRAM, IN A SANDBOX (cutbox-rows.mjs): the forced cells as the released guide's own fill.sh prints them over the translation 76cb10a571fa01cd… (all of the seat's roots in one cut). By AI agents, Wed Nov 11 2026. No macro, syntax, notation, axiom, sorry.
-/
import Derived.Test.YtcpeebkfnnkjnaaDoorChecked
import GoSem.Claim
import GoSem.ClaimJoined
import GoSem.ClaimMapViews
import Derived.JoinedTies
import Derived.KernelRfl
namespace Go.Proofs.YtcpeebkfnnkjnaaDoor
/- THE CELL 'sum', in the pinned program and in every row, IS THE sha256 OF THE DUMP (.gsa) THAT YtcpeebkfnnkjnaaDoorProg.lean LOADS. Nothing in Lean hashes anything: it is a label: what it is worth is what the hold of that sum in a sandbox is worth. -/
noncomputable def Tryd.pinned : Pinned := { name := "ytcpeebkfnnkjnaadoor", sum := "76cb10a571fa01cd2cb42885e32714348effe2b8d48cc4ac049877137d4768e5", checked := Tryd.checked }
namespace Rows
def none {H : Type} : Left H := { results := [], args := [] }

/- WHAT THE LISTED PACKAGE-LEVEL VARIABLES READ AS WHEN THE CALL BEGINS. Each datum BY PROGRAM (the guide's laid-datum.mjs) off the statement by which the dump's own 'gosem.cut.vars' lays the variable. In a bare row this is a premise. The card (YtcpeebkfnnkjnaaDoorCards.lean) ties it to the program's text. -/
def laid_math_bits_deBruijn32tab {H : Type} : DataW H := .agg [.lit (.int .u8 0), .lit (.int .u8 1), .lit (.int .u8 28), .lit (.int .u8 2), .lit (.int .u8 29), .lit (.int .u8 14), .lit (.int .u8 24), .lit (.int .u8 3), .lit (.int .u8 30), .lit (.int .u8 22), .lit (.int .u8 20), .lit (.int .u8 15), .lit (.int .u8 25), .lit (.int .u8 17), .lit (.int .u8 4), .lit (.int .u8 8), .lit (.int .u8 31), .lit (.int .u8 27), .lit (.int .u8 13), .lit (.int .u8 23), .lit (.int .u8 21), .lit (.int .u8 19), .lit (.int .u8 16), .lit (.int .u8 7), .lit (.int .u8 26), .lit (.int .u8 12), .lit (.int .u8 18), .lit (.int .u8 6), .lit (.int .u8 11), .lit (.int .u8 5), .lit (.int .u8 10), .lit (.int .u8 9)]

/-- 'bootjacklaw17.UnitsOrders': WHATEVER THE INPUT: true; the input reads as it did. -/
def unitsOrdersSpec : ChangeSpec := { name := "unitsOrders", fn := fun _ => fun
  | [d] => { results := [.lit (.bool true)], args := [d] }
  | _ => none }
def unitsOrdersRow : OpenClaim := { program := "ytcpeebkfnnkjnaadoor", sum := "76cb10a571fa01cd2cb42885e32714348effe2b8d48cc4ac049877137d4768e5", func := "bootjack/bootjacklaw17.UnitsOrders", spec := "unitsOrders", inPlace := ["internal/bytealg.abigen_runtime_cmpstring"], unfollowed := true, recurses := true, named := ["math/bits.deBruijn32tab"], apart := false, laid := [("math/bits.deBruijn32tab", laid_math_bits_deBruijn32tab)] }
def UnitsOrdersSaid : Prop := unitsOrdersRow.holds Tryd.pinned (OpenSpec.ofChange unitsOrdersSpec)

/-- ITS FALSE NEIGHBOUR: 'it returns false'. Refute it at one input. -/
def unitsOrdersWrong : ChangeSpec := { name := "unitsOrders", fn := fun _ => fun
  | [d] => { results := [.lit (.bool false)], args := [d] }
  | _ => none }
def UnitsOrdersWrongFalsely : Prop := unitsOrdersRow.holds Tryd.pinned (OpenSpec.ofChange unitsOrdersWrong)

/-- 'bootjacklaw17.UnitsDiffs': WHATEVER THE INPUT: true; the input reads as it did. -/
def unitsDiffsSpec : ChangeSpec := { name := "unitsDiffs", fn := fun _ => fun
  | [d1, d2] => { results := [.lit (.bool true)], args := [d1, d2] }
  | _ => none }
def unitsDiffsRow : OpenClaim := { program := "ytcpeebkfnnkjnaadoor", sum := "76cb10a571fa01cd2cb42885e32714348effe2b8d48cc4ac049877137d4768e5", func := "bootjack/bootjacklaw17.UnitsDiffs", spec := "unitsDiffs", inPlace := ["internal/bytealg.abigen_runtime_cmpstring"], unfollowed := true, recurses := true, named := ["math/bits.deBruijn32tab"], apart := false, laid := [("math/bits.deBruijn32tab", laid_math_bits_deBruijn32tab)] }
def UnitsDiffsSaid : Prop := unitsDiffsRow.holds Tryd.pinned (OpenSpec.ofChange unitsDiffsSpec)

/-- ITS FALSE NEIGHBOUR: 'it returns false'. Refute it at one input. -/
def unitsDiffsWrong : ChangeSpec := { name := "unitsDiffs", fn := fun _ => fun
  | [d1, d2] => { results := [.lit (.bool false)], args := [d1, d2] }
  | _ => none }
def UnitsDiffsWrongFalsely : Prop := unitsDiffsRow.holds Tryd.pinned (OpenSpec.ofChange unitsDiffsWrong)

/-- 'bootjacklaw17.UnitsWait': WHATEVER THE INPUT: true; the input reads as it did. -/
def unitsWaitSpec : ChangeSpec := { name := "unitsWait", fn := fun _ => fun
  | [d] => { results := [.lit (.bool true)], args := [d] }
  | _ => none }
def unitsWaitRow : OpenClaim := { program := "ytcpeebkfnnkjnaadoor", sum := "76cb10a571fa01cd2cb42885e32714348effe2b8d48cc4ac049877137d4768e5", func := "bootjack/bootjacklaw17.UnitsWait", spec := "unitsWait", inPlace := ["internal/bytealg.abigen_runtime_cmpstring"], unfollowed := true, recurses := true, named := ["math/bits.deBruijn32tab"], apart := false, laid := [("math/bits.deBruijn32tab", laid_math_bits_deBruijn32tab)] }
def UnitsWaitSaid : Prop := unitsWaitRow.holds Tryd.pinned (OpenSpec.ofChange unitsWaitSpec)

/-- ITS FALSE NEIGHBOUR: 'it returns false'. Refute it at one input. -/
def unitsWaitWrong : ChangeSpec := { name := "unitsWait", fn := fun _ => fun
  | [d] => { results := [.lit (.bool false)], args := [d] }
  | _ => none }
def UnitsWaitWrongFalsely : Prop := unitsWaitRow.holds Tryd.pinned (OpenSpec.ofChange unitsWaitWrong)

/-- 'bootjacklaw17.UnitsParted': WHATEVER THE INPUT: true; the input reads as it did. -/
def unitsPartedSpec : ChangeSpec := { name := "unitsParted", fn := fun _ => fun
  | [d1, d2] => { results := [.lit (.bool true)], args := [d1, d2] }
  | _ => none }
def unitsPartedRow : OpenClaim := { program := "ytcpeebkfnnkjnaadoor", sum := "76cb10a571fa01cd2cb42885e32714348effe2b8d48cc4ac049877137d4768e5", func := "bootjack/bootjacklaw17.UnitsParted", spec := "unitsParted", inPlace := ["internal/bytealg.abigen_runtime_cmpstring"], unfollowed := true, recurses := true, named := ["math/bits.deBruijn32tab"], apart := false, laid := [("math/bits.deBruijn32tab", laid_math_bits_deBruijn32tab)] }
def UnitsPartedSaid : Prop := unitsPartedRow.holds Tryd.pinned (OpenSpec.ofChange unitsPartedSpec)

/-- ITS FALSE NEIGHBOUR: 'it returns false'. Refute it at one input. -/
def unitsPartedWrong : ChangeSpec := { name := "unitsParted", fn := fun _ => fun
  | [d1, d2] => { results := [.lit (.bool false)], args := [d1, d2] }
  | _ => none }
def UnitsPartedWrongFalsely : Prop := unitsPartedRow.holds Tryd.pinned (OpenSpec.ofChange unitsPartedWrong)

/-- 'bootjacklaw17.UnitsRings': WHATEVER THE INPUT: true; the input reads as it did. -/
def unitsRingsSpec : ChangeSpec := { name := "unitsRings", fn := fun _ => fun
  | [d1, d2, d3] => { results := [.lit (.bool true)], args := [d1, d2, d3] }
  | _ => none }
def unitsRingsRow : OpenClaim := { program := "ytcpeebkfnnkjnaadoor", sum := "76cb10a571fa01cd2cb42885e32714348effe2b8d48cc4ac049877137d4768e5", func := "bootjack/bootjacklaw17.UnitsRings", spec := "unitsRings", inPlace := ["internal/bytealg.abigen_runtime_cmpstring"], unfollowed := true, recurses := true, named := ["math/bits.deBruijn32tab"], apart := false, laid := [("math/bits.deBruijn32tab", laid_math_bits_deBruijn32tab)] }
def UnitsRingsSaid : Prop := unitsRingsRow.holds Tryd.pinned (OpenSpec.ofChange unitsRingsSpec)

/-- ITS FALSE NEIGHBOUR: 'it returns false'. Refute it at one input. -/
def unitsRingsWrong : ChangeSpec := { name := "unitsRings", fn := fun _ => fun
  | [d1, d2, d3] => { results := [.lit (.bool false)], args := [d1, d2, d3] }
  | _ => none }
def UnitsRingsWrongFalsely : Prop := unitsRingsRow.holds Tryd.pinned (OpenSpec.ofChange unitsRingsWrong)

/- THE SECOND FORM. 'bulk': how many values and letters a reading holds, each counted each time it is reached (what is shared counts as often as it is met; a slice's spare places count too). A statement '..UptoSaid' is the law's where the arguments, and the package variables that the reading takes, are together of bulk at most 1048576: NARROWER than '..Said'. Prove '..Said' where nothing that the law and all that it calls make is longer than what came in: it says more and counts as full. Else prove '..UptoSaid'. A law counts once. -/
mutual
def uptoBulk {H : Type} : DataW H → Nat
  | .lit (.string bytes) => bytes.length + 1
  | .lit _ => 1
  | .nil => 1
  | .ptr d => uptoBulk d + 1
  | .slice elems spare => uptoBulkAll elems + uptoBulkAll spare + 1
  | .agg parts => uptoBulkAll parts + 1
  | .iface _ d => uptoBulk d + 1
  | .map entries => uptoBulkEntries entries + 1
  | .held _ => 1
def uptoBulkAll {H : Type} : List (DataW H) → Nat
  | [] => 0
  | d :: r => uptoBulk d + uptoBulkAll r
def uptoBulkEntries {H : Type} : List (Lit × DataW H) → Nat
  | [] => 0
  | x :: r => uptoBulkEntry x + uptoBulkEntries r
def uptoBulkEntry {H : Type} : Lit × DataW H → Nat
  | (.string bytes, d) => bytes.length + uptoBulk d + 1
  | (_, d) => uptoBulk d + 1
 end
def uptoSmall : (H : Type) → List (DataW H) → Bool := fun _ ds => decide (uptoBulkAll ds ≤ 1048576)
def OpenSpec.upto (s : _root_.Go.ChangeSpec) : _root_.Go.OpenSpec := { _root_.Go.OpenSpec.ofChange s with cond := some uptoSmall }

/-- 'bootjacklaw17.UnitsOrders', WHERE WHAT IT READS IS OF BULK AT MOST 1048576: true; the input reads as it did. -/
def unitsOrdersUptoRow : OpenClaim := { program := "ytcpeebkfnnkjnaadoor", sum := "76cb10a571fa01cd2cb42885e32714348effe2b8d48cc4ac049877137d4768e5", func := "bootjack/bootjacklaw17.UnitsOrders", spec := "unitsOrders", inPlace := ["internal/bytealg.abigen_runtime_cmpstring"], unfollowed := true, recurses := true, named := ["math/bits.deBruijn32tab"], apart := false, laid := [("math/bits.deBruijn32tab", laid_math_bits_deBruijn32tab)], narrowed := true }
def UnitsOrdersUptoSaid : Prop := unitsOrdersUptoRow.holds Tryd.pinned (OpenSpec.upto unitsOrdersSpec)

/-- 'bootjacklaw17.UnitsDiffs', WHERE WHAT IT READS IS OF BULK AT MOST 1048576: true; the input reads as it did. -/
def unitsDiffsUptoRow : OpenClaim := { program := "ytcpeebkfnnkjnaadoor", sum := "76cb10a571fa01cd2cb42885e32714348effe2b8d48cc4ac049877137d4768e5", func := "bootjack/bootjacklaw17.UnitsDiffs", spec := "unitsDiffs", inPlace := ["internal/bytealg.abigen_runtime_cmpstring"], unfollowed := true, recurses := true, named := ["math/bits.deBruijn32tab"], apart := false, laid := [("math/bits.deBruijn32tab", laid_math_bits_deBruijn32tab)], narrowed := true }
def UnitsDiffsUptoSaid : Prop := unitsDiffsUptoRow.holds Tryd.pinned (OpenSpec.upto unitsDiffsSpec)

/-- 'bootjacklaw17.UnitsWait', WHERE WHAT IT READS IS OF BULK AT MOST 1048576: true; the input reads as it did. -/
def unitsWaitUptoRow : OpenClaim := { program := "ytcpeebkfnnkjnaadoor", sum := "76cb10a571fa01cd2cb42885e32714348effe2b8d48cc4ac049877137d4768e5", func := "bootjack/bootjacklaw17.UnitsWait", spec := "unitsWait", inPlace := ["internal/bytealg.abigen_runtime_cmpstring"], unfollowed := true, recurses := true, named := ["math/bits.deBruijn32tab"], apart := false, laid := [("math/bits.deBruijn32tab", laid_math_bits_deBruijn32tab)], narrowed := true }
def UnitsWaitUptoSaid : Prop := unitsWaitUptoRow.holds Tryd.pinned (OpenSpec.upto unitsWaitSpec)

/-- 'bootjacklaw17.UnitsParted', WHERE WHAT IT READS IS OF BULK AT MOST 1048576: true; the input reads as it did. -/
def unitsPartedUptoRow : OpenClaim := { program := "ytcpeebkfnnkjnaadoor", sum := "76cb10a571fa01cd2cb42885e32714348effe2b8d48cc4ac049877137d4768e5", func := "bootjack/bootjacklaw17.UnitsParted", spec := "unitsParted", inPlace := ["internal/bytealg.abigen_runtime_cmpstring"], unfollowed := true, recurses := true, named := ["math/bits.deBruijn32tab"], apart := false, laid := [("math/bits.deBruijn32tab", laid_math_bits_deBruijn32tab)], narrowed := true }
def UnitsPartedUptoSaid : Prop := unitsPartedUptoRow.holds Tryd.pinned (OpenSpec.upto unitsPartedSpec)

/-- 'bootjacklaw17.UnitsRings', WHERE WHAT IT READS IS OF BULK AT MOST 1048576: true; the input reads as it did. -/
def unitsRingsUptoRow : OpenClaim := { program := "ytcpeebkfnnkjnaadoor", sum := "76cb10a571fa01cd2cb42885e32714348effe2b8d48cc4ac049877137d4768e5", func := "bootjack/bootjacklaw17.UnitsRings", spec := "unitsRings", inPlace := ["internal/bytealg.abigen_runtime_cmpstring"], unfollowed := true, recurses := true, named := ["math/bits.deBruijn32tab"], apart := false, laid := [("math/bits.deBruijn32tab", laid_math_bits_deBruijn32tab)], narrowed := true }
def UnitsRingsUptoSaid : Prop := unitsRingsUptoRow.holds Tryd.pinned (OpenSpec.upto unitsRingsSpec)

end Rows
end Go.Proofs.YtcpeebkfnnkjnaaDoor
