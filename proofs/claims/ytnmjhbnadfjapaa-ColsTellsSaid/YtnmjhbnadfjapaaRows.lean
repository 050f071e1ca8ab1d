/-
  NARROWER THAN 'FOR EVERY INPUT', by the rows' own cells (each row's printed sentence says how): TestNodes: loops.
  DERIVED. THE GIVEN ROWS OF THIS SEAT. 4 by the template 'for every input the law returns true; each argument reads behind the call as it read before'; 0 by the template 'total and deterministic' (their statements: YtnmjhbnadfjapaaTotals.lean).
  GIVEN WITH THE SEED: the statements are not yours to turn. If you find one false, say at which input.
  Laid BY PROGRAM, IN A SANDBOX (cutbox-rows.mjs): the forced cells as the released guide's own fill.sh prints them over the translation f51fdc2e9e7cb7d3… (all of the seat's roots in one cut). By AI agents, Wed Nov 11 2026. No macro, syntax, notation, axiom, sorry.
-/
import Derived.Test.YtnmjhbnadfjapaaChecked
import GoSem.Claim
import GoSem.ClaimJoined
import GoSem.ClaimMapViews
import Derived.JoinedTies
import Derived.KernelRfl
namespace Go.Proofs.Ytnmjhbnadfjapaa
/- THE CELL 'sum', in the pinned program and in every row, IS THE sha256 OF THE DUMP (.gsa) THAT YtnmjhbnadfjapaaProg.lean LOADS. Nothing in Lean hashes anything: it is a label: what it is worth is what the hold of that sum in a sandbox is worth. -/
noncomputable def Try.pinned : Pinned := { name := "ytnmjhbnadfjapaa", sum := "f51fdc2e9e7cb7d32191bc26ceedee450ac5973fd0b1a18932155b4fbe6ec7c2", checked := Try.checked }
namespace Rows
def none {H : Type} : Left H := { results := [], args := [] }

/-- 'bridlewaylaw08.ColsTells': WHATEVER THE INPUT: true; the input reads as it did. -/
def colsTellsSpec : ChangeSpec := { name := "colsTells", fn := fun _ => fun
  | [d1, d2] => { results := [.lit (.bool true)], args := [d1, d2] }
  | _ => none }
def colsTellsRow : OpenClaim := { program := "ytnmjhbnadfjapaa", sum := "f51fdc2e9e7cb7d32191bc26ceedee450ac5973fd0b1a18932155b4fbe6ec7c2", func := "bridleway/bridlewaylaw08.ColsTells", spec := "colsTells", unfollowed := true, recurses := true, apart := false }
def ColsTellsSaid : Prop := colsTellsRow.holds Try.pinned (OpenSpec.ofChange colsTellsSpec)

/-- ITS FALSE NEIGHBOUR: 'it returns false'. Refute it at one input. -/
def colsTellsWrong : ChangeSpec := { name := "colsTells", fn := fun _ => fun
  | [d1, d2] => { results := [.lit (.bool false)], args := [d1, d2] }
  | _ => none }
def ColsTellsWrongFalsely : Prop := colsTellsRow.holds Try.pinned (OpenSpec.ofChange colsTellsWrong)

/-- 'bridlewaylaw08.ColsOwn': WHATEVER THE INPUT: true; the input reads as it did. -/
def colsOwnSpec : ChangeSpec := { name := "colsOwn", fn := fun _ => fun
  | [d1, d2] => { results := [.lit (.bool true)], args := [d1, d2] }
  | _ => none }
def colsOwnRow : OpenClaim := { program := "ytnmjhbnadfjapaa", sum := "f51fdc2e9e7cb7d32191bc26ceedee450ac5973fd0b1a18932155b4fbe6ec7c2", func := "bridleway/bridlewaylaw08.ColsOwn", spec := "colsOwn", unfollowed := true, recurses := true, apart := false }
def ColsOwnSaid : Prop := colsOwnRow.holds Try.pinned (OpenSpec.ofChange colsOwnSpec)

/-- ITS FALSE NEIGHBOUR: 'it returns false'. Refute it at one input. -/
def colsOwnWrong : ChangeSpec := { name := "colsOwn", fn := fun _ => fun
  | [d1, d2] => { results := [.lit (.bool false)], args := [d1, d2] }
  | _ => none }
def ColsOwnWrongFalsely : Prop := colsOwnRow.holds Try.pinned (OpenSpec.ofChange colsOwnWrong)

/-- 'bridlewaylaw21.TestEach': WHATEVER THE INPUT: true; the input reads as it did. -/
def testEachSpec : ChangeSpec := { name := "testEach", fn := fun _ => fun
  | [d1, d2, d3] => { results := [.lit (.bool true)], args := [d1, d2, d3] }
  | _ => none }
def testEachRow : OpenClaim := { program := "ytnmjhbnadfjapaa", sum := "f51fdc2e9e7cb7d32191bc26ceedee450ac5973fd0b1a18932155b4fbe6ec7c2", func := "bridleway/bridlewaylaw21.TestEach", spec := "testEach", apart := false }
def TestEachSaid : Prop := testEachRow.holds Try.pinned (OpenSpec.ofChange testEachSpec)

/-- ITS FALSE NEIGHBOUR: 'it returns false'. Refute it at one input. -/
def testEachWrong : ChangeSpec := { name := "testEach", fn := fun _ => fun
  | [d1, d2, d3] => { results := [.lit (.bool false)], args := [d1, d2, d3] }
  | _ => none }
def TestEachWrongFalsely : Prop := testEachRow.holds Try.pinned (OpenSpec.ofChange testEachWrong)

/-- 'bridlewaylaw21.TestNodes': WHATEVER THE INPUT: true; the input reads as it did. -/
def testNodesSpec : ChangeSpec := { name := "testNodes", fn := fun _ => fun
  | [d1, d2, d3] => { results := [.lit (.bool true)], args := [d1, d2, d3] }
  | _ => none }
def testNodesRow : OpenClaim := { program := "ytnmjhbnadfjapaa", sum := "f51fdc2e9e7cb7d32191bc26ceedee450ac5973fd0b1a18932155b4fbe6ec7c2", func := "bridleway/bridlewaylaw21.TestNodes", spec := "testNodes", recurses := true, loops := true, apart := false }
def TestNodesSaid : Prop := testNodesRow.holds Try.pinned (OpenSpec.ofChange testNodesSpec)

/-- ITS FALSE NEIGHBOUR: 'it returns false'. Refute it at one input. -/
def testNodesWrong : ChangeSpec := { name := "testNodes", fn := fun _ => fun
  | [d1, d2, d3] => { results := [.lit (.bool false)], args := [d1, d2, d3] }
  | _ => none }
def TestNodesWrongFalsely : Prop := testNodesRow.holds Try.pinned (OpenSpec.ofChange testNodesWrong)

/- THE SECOND FORM. 'bulk': how many values and letters a reading holds, each counted each time it is reached (what is shared counts as often as it is met; a slice's spare places count too). A statement '..UptoSaid' is the law's where the arguments, and the package variables that the reading takes, are together of bulk at most 1048576: NARROWER than '..Said'. Prove '..Said' where nothing that the law and all that it calls make is longer than what came in: it says more and counts as full. Else prove '..UptoSaid'. A law counts once. -/
mutual
def uptoBulk {H : Type} : DataW H → Nat
  | .lit (.string bytes) => bytes.length + 1
  | .lit _ => 1
  | .nil => 1
  | .ptr d => uptoBulk d + 1
  | .slice elems spare => uptoBulkAll elems + uptoBulkAll spare + 1
  | .agg parts => uptoBulkAll parts + 1
  | .iface _ d => uptoBulk d + 1
  | .map entries => uptoBulkEntries entries + 1
  | .held _ => 1
def uptoBulkAll {H : Type} : List (DataW H) → Nat
  | [] => 0
  | d :: r => uptoBulk d + uptoBulkAll r
def uptoBulkEntries {H : Type} : List (Lit × DataW H) → Nat
  | [] => 0
  | x :: r => uptoBulkEntry x + uptoBulkEntries r
def uptoBulkEntry {H : Type} : Lit × DataW H → Nat
  | (.string bytes, d) => bytes.length + uptoBulk d + 1
  | (_, d) => uptoBulk d + 1
 end
def uptoSmall : (H : Type) → List (DataW H) → Bool := fun _ ds => decide (uptoBulkAll ds ≤ 1048576)
def OpenSpec.upto (s : _root_.Go.ChangeSpec) : _root_.Go.OpenSpec := { _root_.Go.OpenSpec.ofChange s with cond := some uptoSmall }

/-- 'bridlewaylaw08.ColsTells', WHERE WHAT IT READS IS OF BULK AT MOST 1048576: true; the input reads as it did. -/
def colsTellsUptoRow : OpenClaim := { program := "ytnmjhbnadfjapaa", sum := "f51fdc2e9e7cb7d32191bc26ceedee450ac5973fd0b1a18932155b4fbe6ec7c2", func := "bridleway/bridlewaylaw08.ColsTells", spec := "colsTells", unfollowed := true, recurses := true, apart := false, narrowed := true }
def ColsTellsUptoSaid : Prop := colsTellsUptoRow.holds Try.pinned (OpenSpec.upto colsTellsSpec)

/-- 'bridlewaylaw08.ColsOwn', WHERE WHAT IT READS IS OF BULK AT MOST 1048576: true; the input reads as it did. -/
def colsOwnUptoRow : OpenClaim := { program := "ytnmjhbnadfjapaa", sum := "f51fdc2e9e7cb7d32191bc26ceedee450ac5973fd0b1a18932155b4fbe6ec7c2", func := "bridleway/bridlewaylaw08.ColsOwn", spec := "colsOwn", unfollowed := true, recurses := true, apart := false, narrowed := true }
def ColsOwnUptoSaid : Prop := colsOwnUptoRow.holds Try.pinned (OpenSpec.upto colsOwnSpec)

/-- 'bridlewaylaw21.TestEach', WHERE WHAT IT READS IS OF BULK AT MOST 1048576: true; the input reads as it did. -/
def testEachUptoRow : OpenClaim := { program := "ytnmjhbnadfjapaa", sum := "f51fdc2e9e7cb7d32191bc26ceedee450ac5973fd0b1a18932155b4fbe6ec7c2", func := "bridleway/bridlewaylaw21.TestEach", spec := "testEach", apart := false, narrowed := true }
def TestEachUptoSaid : Prop := testEachUptoRow.holds Try.pinned (OpenSpec.upto testEachSpec)

/-- 'bridlewaylaw21.TestNodes', WHERE WHAT IT READS IS OF BULK AT MOST 1048576: true; the input reads as it did. -/
def testNodesUptoRow : OpenClaim := { program := "ytnmjhbnadfjapaa", sum := "f51fdc2e9e7cb7d32191bc26ceedee450ac5973fd0b1a18932155b4fbe6ec7c2", func := "bridleway/bridlewaylaw21.TestNodes", spec := "testNodes", recurses := true, loops := true, apart := false, narrowed := true }
def TestNodesUptoSaid : Prop := testNodesUptoRow.holds Try.pinned (OpenSpec.upto testNodesSpec)

end Rows
end Go.Proofs.Ytnmjhbnadfjapaa
