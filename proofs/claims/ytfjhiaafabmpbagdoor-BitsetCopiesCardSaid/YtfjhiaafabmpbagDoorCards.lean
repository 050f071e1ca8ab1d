/-
  DERIVED. GIVEN WITH THE SEED: THE CARDS: each row of YtfjhiaafabmpbagDoorRows.lean that lists a variable, with what it lists TIED to the program's text (the seventh form; the later family's looks); each row that meets fmt, with fmt's text TOLD by the authors' own Lean function (tested against real Go, not proved from fmt's source: count such statements apart). THE CARD IS WHAT COUNTS. Prove the row's statement (the work); the ties are given (YtfjhiaafabmpbagDoorTie.lean); close each card by the builder's one call (the guide's Derived/Test/ToyasCard.lean, 'card_holds'). Laid BY PROGRAM, IN A SANDBOX (cutbox-door.mjs). By AI agents, Wed Nov 11 2026. No macro, syntax, notation, axiom, sorry.
-/
import Derived.Test.YtfjhiaafabmpbagDoorRows
import GoSem.ClaimSeven
namespace Go.Proofs.YtfjhiaafabmpbagDoor
namespace Rows

/-- THE TIED CARD OF 'bridlewaylaw03.BitsetCopies'. -/
def bitsetCopiesCard : Claim7 := { stood := { row := bitsetCopiesRow, standIns := [], harness := (true, "2ad76bb3d478d48710672ede4068e482cffa00284f2b8e82ee86aa4aa727c0aa"), looks := false }, kinds := [], alts := [], laidByText := true, laidKinds := [.data], laidTests := true, laidLooks := .later }
def BitsetCopiesCardSaid : Prop := Claim7.holds Tryd.pinned (.plain (OpenSpec.ofChange bitsetCopiesSpec)) bitsetCopiesCard

/-- THE SECOND FORM's CARD OF 'bridlewaylaw03.BitsetCopies'. -/
def bitsetCopiesUptoCard : Claim7 := { stood := { row := bitsetCopiesUptoRow, standIns := [], harness := (true, "2ad76bb3d478d48710672ede4068e482cffa00284f2b8e82ee86aa4aa727c0aa"), looks := false }, kinds := [], alts := [], laidByText := true, laidKinds := [.data], laidTests := true, laidLooks := .later }
def BitsetCopiesUptoCardSaid : Prop := Claim7.holds Tryd.pinned (.plain (OpenSpec.upto bitsetCopiesSpec)) bitsetCopiesUptoCard
end Rows
end Go.Proofs.YtfjhiaafabmpbagDoor
