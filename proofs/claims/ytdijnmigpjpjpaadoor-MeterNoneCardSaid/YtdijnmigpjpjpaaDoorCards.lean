/-
  DERIVED. GIVEN WITH THE SEED: THE CARDS: each row of YtdijnmigpjpjpaaDoorRows.lean that lists a variable, with what it lists TIED to the program's text (the seventh form; the later family's looks); each row that meets fmt, with fmt's text TOLD by the authors' own Lean function (tested against real Go, not proved from fmt's source: count such statements apart). THE CARD IS WHAT COUNTS. Prove the row's statement (the work); the ties are given (YtdijnmigpjpjpaaDoorTie.lean); close each card by the builder's one call (the guide's Derived/Test/ToyasCard.lean, 'card_holds'). Laid BY PROGRAM, IN A SANDBOX (cutbox-door.mjs). By AI agents, Wed Nov 11 2026. No macro, syntax, notation, axiom, sorry.
-/
import Derived.Test.YtdijnmigpjpjpaaDoorRows
import GoSem.ClaimSeven
namespace Go.Proofs.YtdijnmigpjpjpaaDoor
namespace Rows

/-- THE TIED CARD OF 'bridlewaylaw38.MeterNone'. -/
def meterNoneCard : Claim7 := { stood := { row := meterNoneRow, standIns := [], harness := (true, "95d356c2800381d8d59e1cd09d1de907fe31dde273ea6cf4a425b4dabb468a47"), looks := false }, kinds := [], alts := [], laidByText := true, laidKinds := [.data, .data, .data], laidTests := true, laidLooks := .later }
def MeterNoneCardSaid : Prop := Claim7.holds Tryd.pinned (.plain (OpenSpec.ofChange meterNoneSpec)) meterNoneCard

/-- THE SECOND FORM's CARD OF 'bridlewaylaw38.MeterNone'. -/
def meterNoneUptoCard : Claim7 := { stood := { row := meterNoneUptoRow, standIns := [], harness := (true, "95d356c2800381d8d59e1cd09d1de907fe31dde273ea6cf4a425b4dabb468a47"), looks := false }, kinds := [], alts := [], laidByText := true, laidKinds := [.data, .data, .data], laidTests := true, laidLooks := .later }
def MeterNoneUptoCardSaid : Prop := Claim7.holds Tryd.pinned (.plain (OpenSpec.upto meterNoneSpec)) meterNoneUptoCard
end Rows
end Go.Proofs.YtdijnmigpjpjpaaDoor
