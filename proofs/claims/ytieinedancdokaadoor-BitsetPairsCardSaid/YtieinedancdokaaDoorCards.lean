/-
  DERIVED. GIVEN WITH THE SEED: THE CARDS: each row of YtieinedancdokaaDoorRows.lean that lists a variable, with what it lists TIED to the program's text (the seventh form; the later family's looks); each row that meets fmt, with fmt's text TOLD by the authors' own Lean function (tested against real Go, not proved from fmt's source: count such statements apart). THE CARD IS WHAT COUNTS. Prove the row's statement (the work); the ties are given (YtieinedancdokaaDoorTie.lean); close each card by the builder's one call (the guide's Derived/Test/ToyasCard.lean, 'card_holds'). Laid BY PROGRAM, IN A SANDBOX (cutbox-door.mjs). By AI agents, Wed Nov 11 2026. No macro, syntax, notation, axiom, sorry.
-/
import Derived.Test.YtieinedancdokaaDoorRows
import GoSem.ClaimSeven
namespace Go.Proofs.YtieinedancdokaaDoor
namespace Rows

/-- THE TIED CARD OF 'bridlewaylaw03.BitsetPairs'. -/
def bitsetPairsCard : Claim7 := { stood := { row := bitsetPairsRow, standIns := [], harness := (true, "728d503441885c4c69ca9a2fecc3a0b117e342eab1c3ece51dce1c260bda7f49"), looks := false }, kinds := [], alts := [], laidByText := true, laidKinds := [.data], laidTests := true, laidLooks := .later }
def BitsetPairsCardSaid : Prop := Claim7.holds Tryd.pinned (.plain (OpenSpec.ofChange bitsetPairsSpec)) bitsetPairsCard

/-- THE SECOND FORM's CARD OF 'bridlewaylaw03.BitsetPairs'. -/
def bitsetPairsUptoCard : Claim7 := { stood := { row := bitsetPairsUptoRow, standIns := [], harness := (true, "728d503441885c4c69ca9a2fecc3a0b117e342eab1c3ece51dce1c260bda7f49"), looks := false }, kinds := [], alts := [], laidByText := true, laidKinds := [.data], laidTests := true, laidLooks := .later }
def BitsetPairsUptoCardSaid : Prop := Claim7.holds Tryd.pinned (.plain (OpenSpec.upto bitsetPairsSpec)) bitsetPairsUptoCard
end Rows
end Go.Proofs.YtieinedancdokaaDoor
