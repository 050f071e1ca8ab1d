/-
  DERIVED. GIVEN WITH THE SEED: THE CARDS: each row of YtoijkbnjcnedjaaDoorRows.lean that lists a variable, with what it lists TIED to the program's text (the seventh form; the later family's looks); each row that meets fmt, with fmt's text TOLD by the authors' own Lean function (tested against real Go, not proved from fmt's source: count such statements apart). THE CARD IS WHAT COUNTS. Prove the row's statement (the work); the ties are given (YtoijkbnjcnedjaaDoorTie.lean); close each card by the builder's one call (the guide's Derived/Test/ToyasCard.lean, 'card_holds'). Laid BY PROGRAM, IN A SANDBOX (cutbox-door.mjs). By AI agents, Wed Nov 11 2026. No macro, syntax, notation, axiom, sorry.
-/
import Derived.Test.YtoijkbnjcnedjaaDoorRows
import GoSem.ClaimSeven
namespace Go.Proofs.YtoijkbnjcnedjaaDoor
namespace Rows

/-- THE TIED CARD OF 'bridlewaylaw38.MeterJoins'. -/
def meterJoinsCard : Claim7 := { stood := { row := meterJoinsRow, standIns := [], harness := (true, "b9e4a71feceb3c562ed1f6835b0c71085c4ce8b814fcf2fa5fd36e7cf34d9555"), looks := false }, kinds := [], alts := [], laidByText := true, laidKinds := [.data, .data, .data], laidTests := true, laidLooks := .later }
def MeterJoinsCardSaid : Prop := Claim7.holds Tryd.pinned (.plain (OpenSpec.ofChange meterJoinsSpec)) meterJoinsCard

/-- THE TIED CARD OF 'bridlewaylaw38.MeterPlays'. -/
def meterPlaysCard : Claim7 := { stood := { row := meterPlaysRow, standIns := [], harness := (true, "b9e4a71feceb3c562ed1f6835b0c71085c4ce8b814fcf2fa5fd36e7cf34d9555"), looks := false }, kinds := [], alts := [], laidByText := true, laidKinds := [.data, .data, .data], laidTests := true, laidLooks := .later }
def MeterPlaysCardSaid : Prop := Claim7.holds Tryd.pinned (.plain (OpenSpec.ofChange meterPlaysSpec)) meterPlaysCard

/-- THE SECOND FORM's CARD OF 'bridlewaylaw38.MeterJoins'. -/
def meterJoinsUptoCard : Claim7 := { stood := { row := meterJoinsUptoRow, standIns := [], harness := (true, "b9e4a71feceb3c562ed1f6835b0c71085c4ce8b814fcf2fa5fd36e7cf34d9555"), looks := false }, kinds := [], alts := [], laidByText := true, laidKinds := [.data, .data, .data], laidTests := true, laidLooks := .later }
def MeterJoinsUptoCardSaid : Prop := Claim7.holds Tryd.pinned (.plain (OpenSpec.upto meterJoinsSpec)) meterJoinsUptoCard

/-- THE SECOND FORM's CARD OF 'bridlewaylaw38.MeterPlays'. -/
def meterPlaysUptoCard : Claim7 := { stood := { row := meterPlaysUptoRow, standIns := [], harness := (true, "b9e4a71feceb3c562ed1f6835b0c71085c4ce8b814fcf2fa5fd36e7cf34d9555"), looks := false }, kinds := [], alts := [], laidByText := true, laidKinds := [.data, .data, .data], laidTests := true, laidLooks := .later }
def MeterPlaysUptoCardSaid : Prop := Claim7.holds Tryd.pinned (.plain (OpenSpec.upto meterPlaysSpec)) meterPlaysUptoCard
end Rows
end Go.Proofs.YtoijkbnjcnedjaaDoor
