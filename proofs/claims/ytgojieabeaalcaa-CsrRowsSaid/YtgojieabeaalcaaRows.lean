/-
  No cell of these rows narrows 'for every input' (looked for: loops, veiled, ifaces, maps, wideKeys, modest, calm, conditions, laid).
  DERIVED. THE GIVEN ROWS OF THIS SEAT. 3 by the template 'for every input the law returns true; each argument reads behind the call as it read before'; 0 by the template 'total and deterministic' (their statements: YtgojieabeaalcaaTotals.lean).
  GIVEN WITH THE SEED: the statements are not yours to turn. If you find one false, say at which input.
  Laid BY PROGRAM, IN A SANDBOX (cutbox-rows.mjs): the forced cells as the released guide's own fill.sh prints them over the translation 6fc5a98e0569dd25… (all of the seat's roots in one cut). By AI agents, Wed Nov 11 2026. No macro, syntax, notation, axiom, sorry.
-/
import Derived.Test.YtgojieabeaalcaaChecked
import GoSem.Claim
import GoSem.ClaimJoined
import GoSem.ClaimMapViews
import Derived.JoinedTies
import Derived.KernelRfl
namespace Go.Proofs.Ytgojieabeaalcaa
/- THE CELL 'sum', in the pinned program and in every row, IS THE sha256 OF THE DUMP (.gsa) THAT YtgojieabeaalcaaProg.lean LOADS. Nothing in Lean hashes anything: it is a label: what it is worth is what the hold of that sum in a sandbox is worth. -/
noncomputable def Try.pinned : Pinned := { name := "ytgojieabeaalcaa", sum := "6fc5a98e0569dd257d064bc77a877760f2f76be05548da9dd0c77dfb8f5790db", checked := Try.checked }
namespace Rows
def none {H : Type} : Left H := { results := [], args := [] }

/-- 'bridlewaylaw07.CsrRows': WHATEVER THE INPUT: true; the input reads as it did. -/
def csrRowsSpec : ChangeSpec := { name := "csrRows", fn := fun _ => fun
  | [d1, d2, d3] => { results := [.lit (.bool true)], args := [d1, d2, d3] }
  | _ => none }
def csrRowsRow : OpenClaim := { program := "ytgojieabeaalcaa", sum := "6fc5a98e0569dd257d064bc77a877760f2f76be05548da9dd0c77dfb8f5790db", func := "bridleway/bridlewaylaw07.CsrRows", spec := "csrRows", unfollowed := true, recurses := true, apart := false }
def CsrRowsSaid : Prop := csrRowsRow.holds Try.pinned (OpenSpec.ofChange csrRowsSpec)

/-- ITS FALSE NEIGHBOUR: 'it returns false'. Refute it at one input. -/
def csrRowsWrong : ChangeSpec := { name := "csrRows", fn := fun _ => fun
  | [d1, d2, d3] => { results := [.lit (.bool false)], args := [d1, d2, d3] }
  | _ => none }
def CsrRowsWrongFalsely : Prop := csrRowsRow.holds Try.pinned (OpenSpec.ofChange csrRowsWrong)

/-- 'bridlewaylaw07.CsrAll': WHATEVER THE INPUT: true; the input reads as it did. -/
def csrAllSpec : ChangeSpec := { name := "csrAll", fn := fun _ => fun
  | [d] => { results := [.lit (.bool true)], args := [d] }
  | _ => none }
def csrAllRow : OpenClaim := { program := "ytgojieabeaalcaa", sum := "6fc5a98e0569dd257d064bc77a877760f2f76be05548da9dd0c77dfb8f5790db", func := "bridleway/bridlewaylaw07.CsrAll", spec := "csrAll", recurses := true, apart := false }
def CsrAllSaid : Prop := csrAllRow.holds Try.pinned (OpenSpec.ofChange csrAllSpec)

/-- ITS FALSE NEIGHBOUR: 'it returns false'. Refute it at one input. -/
def csrAllWrong : ChangeSpec := { name := "csrAll", fn := fun _ => fun
  | [d] => { results := [.lit (.bool false)], args := [d] }
  | _ => none }
def CsrAllWrongFalsely : Prop := csrAllRow.holds Try.pinned (OpenSpec.ofChange csrAllWrong)

/-- 'bridlewaylaw23.ProductCells': WHATEVER THE INPUT: true; the input reads as it did. -/
def productCellsSpec : ChangeSpec := { name := "productCells", fn := fun _ => fun
  | [d1, d2, d3] => { results := [.lit (.bool true)], args := [d1, d2, d3] }
  | _ => none }
def productCellsRow : OpenClaim := { program := "ytgojieabeaalcaa", sum := "6fc5a98e0569dd257d064bc77a877760f2f76be05548da9dd0c77dfb8f5790db", func := "bridleway/bridlewaylaw23.ProductCells", spec := "productCells", unfollowed := true, recurses := true, apart := false }
def ProductCellsSaid : Prop := productCellsRow.holds Try.pinned (OpenSpec.ofChange productCellsSpec)

/-- ITS FALSE NEIGHBOUR: 'it returns false'. Refute it at one input. -/
def productCellsWrong : ChangeSpec := { name := "productCells", fn := fun _ => fun
  | [d1, d2, d3] => { results := [.lit (.bool false)], args := [d1, d2, d3] }
  | _ => none }
def ProductCellsWrongFalsely : Prop := productCellsRow.holds Try.pinned (OpenSpec.ofChange productCellsWrong)

/- THE SECOND FORM. 'bulk': how many values and letters a reading holds, each counted each time it is reached (what is shared counts as often as it is met; a slice's spare places count too). A statement '..UptoSaid' is the law's where the arguments, and the package variables that the reading takes, are together of bulk at most 1048576: NARROWER than '..Said'. Prove '..Said' where nothing that the law and all that it calls make is longer than what came in: it says more and counts as full. Else prove '..UptoSaid'. A law counts once. -/
mutual
def uptoBulk {H : Type} : DataW H → Nat
  | .lit (.string bytes) => bytes.length + 1
  | .lit _ => 1
  | .nil => 1
  | .ptr d => uptoBulk d + 1
  | .slice elems spare => uptoBulkAll elems + uptoBulkAll spare + 1
  | .agg parts => uptoBulkAll parts + 1
  | .iface _ d => uptoBulk d + 1
  | .map entries => uptoBulkEntries entries + 1
  | .held _ => 1
def uptoBulkAll {H : Type} : List (DataW H) → Nat
  | [] => 0
  | d :: r => uptoBulk d + uptoBulkAll r
def uptoBulkEntries {H : Type} : List (Lit × DataW H) → Nat
  | [] => 0
  | x :: r => uptoBulkEntry x + uptoBulkEntries r
def uptoBulkEntry {H : Type} : Lit × DataW H → Nat
  | (.string bytes, d) => bytes.length + uptoBulk d + 1
  | (_, d) => uptoBulk d + 1
 end
def uptoSmall : (H : Type) → List (DataW H) → Bool := fun _ ds => decide (uptoBulkAll ds ≤ 1048576)
def OpenSpec.upto (s : _root_.Go.ChangeSpec) : _root_.Go.OpenSpec := { _root_.Go.OpenSpec.ofChange s with cond := some uptoSmall }

/-- 'bridlewaylaw07.CsrRows', WHERE WHAT IT READS IS OF BULK AT MOST 1048576: true; the input reads as it did. -/
def csrRowsUptoRow : OpenClaim := { program := "ytgojieabeaalcaa", sum := "6fc5a98e0569dd257d064bc77a877760f2f76be05548da9dd0c77dfb8f5790db", func := "bridleway/bridlewaylaw07.CsrRows", spec := "csrRows", unfollowed := true, recurses := true, apart := false, narrowed := true }
def CsrRowsUptoSaid : Prop := csrRowsUptoRow.holds Try.pinned (OpenSpec.upto csrRowsSpec)

/-- 'bridlewaylaw07.CsrAll', WHERE WHAT IT READS IS OF BULK AT MOST 1048576: true; the input reads as it did. -/
def csrAllUptoRow : OpenClaim := { program := "ytgojieabeaalcaa", sum := "6fc5a98e0569dd257d064bc77a877760f2f76be05548da9dd0c77dfb8f5790db", func := "bridleway/bridlewaylaw07.CsrAll", spec := "csrAll", recurses := true, apart := false, narrowed := true }
def CsrAllUptoSaid : Prop := csrAllUptoRow.holds Try.pinned (OpenSpec.upto csrAllSpec)

/-- 'bridlewaylaw23.ProductCells', WHERE WHAT IT READS IS OF BULK AT MOST 1048576: true; the input reads as it did. -/
def productCellsUptoRow : OpenClaim := { program := "ytgojieabeaalcaa", sum := "6fc5a98e0569dd257d064bc77a877760f2f76be05548da9dd0c77dfb8f5790db", func := "bridleway/bridlewaylaw23.ProductCells", spec := "productCells", unfollowed := true, recurses := true, apart := false, narrowed := true }
def ProductCellsUptoSaid : Prop := productCellsUptoRow.holds Try.pinned (OpenSpec.upto productCellsSpec)

end Rows
end Go.Proofs.Ytgojieabeaalcaa
