/- Rings of units, in plain words. -/
import Derived.Test.YtcpeebkfnnkjnaaDoorUor
namespace Go.Proofs.YtcpeebkfnnkjnaaDoor.Tr
open Go.RowKit

def nmR (i : Nat) : Nm := [114, 97 + UInt8.ofNat i]
def nmA (i : Nat) : Nm := [97, 97 + UInt8.ofNat i]
def ringU (n : Nat) (cut : Bool) (i : Nat) : Ut := ⟨nmR i, [], [], if cut && i + 1 == n then [] else [nmR ((i + 1) % n)]⟩
def othU (i : Nat) : Ut := ⟨nmA i, [], [], []⟩
def lst (n o : Nat) (cut : Bool) : List Ut := (List.range n).map (ringU n cut) ++ (List.range o).map othU
def okR (n o : Nat) : Bool := decide (ordF (lst n o false) = ([], [114, 97], 29)) && (let r := ordF (lst n o true); decide (r.2 = ([], 0) ∧ r.1.map (·.n) = (List.range o).map nmA ++ (List.range n).map (fun i => nmR (n - 1 - i))))
set_option maxRecDepth 100000 in
theorem rings_all : ∀ n : Fin 12, ∀ o : Fin 12, okR (n.1 + 1) o.1 = true := by decide +kernel
end Go.Proofs.YtcpeebkfnnkjnaaDoor.Tr
