/-
  DERIVED. GIVEN WITH THE SEED: THE CARDS: each row of YtfdbedeidcaonabDoorRows.lean that lists a variable, with what it lists TIED to the program's text (the seventh form; the later family's looks); each row that meets fmt, with fmt's text TOLD by the authors' own Lean function (tested against real Go, not proved from fmt's source: count such statements apart). THE CARD IS WHAT COUNTS. Prove the row's statement (the work); the ties are given (YtfdbedeidcaonabDoorTie.lean); close each card by the builder's one call (the guide's Derived/Test/ToyasCard.lean, 'card_holds'). Laid BY PROGRAM, IN A SANDBOX (cutbox-door.mjs). By AI agents, Wed Nov 11 2026. No macro, syntax, notation, axiom, sorry.
-/
import Derived.Test.YtfdbedeidcaonabDoorRows
import GoSem.ClaimSeven
namespace Go.Proofs.YtfdbedeidcaonabDoor
namespace Rows

/-- THE TIED CARD OF 'bridlewaylaw15.DfaSame'. -/
def dfaSameCard : Claim7 := { stood := { row := dfaSameRow, standIns := [], harness := (true, "a94bfdb34c616b51a439cd2ea54357699a9230c3c2fb4a29734ed31b8600f1ba"), looks := false }, kinds := [], alts := [], laidByText := true, laidKinds := [.data], laidTests := true, laidLooks := .later }
def DfaSameCardSaid : Prop := Claim7.holds Tryd.pinned (.plain (OpenSpec.ofChange dfaSameSpec)) dfaSameCard

/-- THE SECOND FORM's CARD OF 'bridlewaylaw15.DfaSame'. -/
def dfaSameUptoCard : Claim7 := { stood := { row := dfaSameUptoRow, standIns := [], harness := (true, "a94bfdb34c616b51a439cd2ea54357699a9230c3c2fb4a29734ed31b8600f1ba"), looks := false }, kinds := [], alts := [], laidByText := true, laidKinds := [.data], laidTests := true, laidLooks := .later }
def DfaSameUptoCardSaid : Prop := Claim7.holds Tryd.pinned (.plain (OpenSpec.upto dfaSameSpec)) dfaSameUptoCard
end Rows
end Go.Proofs.YtfdbedeidcaonabDoor
