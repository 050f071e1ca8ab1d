/-
  DERIVED. GIVEN WITH THE SEED: THE CARDS: each row of YtfjhiaafabmpbaaDoorRows.lean that lists a variable, with what it lists TIED to the program's text (the seventh form; the later family's looks); each row that meets fmt, with fmt's text TOLD by the authors' own Lean function (tested against real Go, not proved from fmt's source: count such statements apart). THE CARD IS WHAT COUNTS. Prove the row's statement (the work); the ties are given (YtfjhiaafabmpbaaDoorTie.lean); close each card by the builder's one call (the guide's Derived/Test/ToyasCard.lean, 'card_holds'). Laid BY PROGRAM, IN A SANDBOX (cutbox-door.mjs). By AI agents, Wed Nov 11 2026. No macro, syntax, notation, axiom, sorry.
-/
import Derived.Test.YtfjhiaafabmpbaaDoorRows
import GoSem.ClaimSeven
namespace Go.Proofs.YtfjhiaafabmpbaaDoor
namespace Rows

/-- THE TIED CARD OF 'bridlewaylaw05.ValueTests'. -/
def valueTestsCard : Claim7 := { stood := { row := valueTestsRow, standIns := [], harness := (true, "338b30bfb2c8b43a4dee82bb9328077b56ffc7ad57a434deb946c8051f02f3ff"), looks := false }, kinds := [], alts := [], laidByText := true, laidKinds := [.data], laidTests := true, laidLooks := .later }
def ValueTestsCardSaid : Prop := Claim7.holds Tryd.pinned (.plain (OpenSpec.ofChange valueTestsSpec)) valueTestsCard

/-- THE SECOND FORM's CARD OF 'bridlewaylaw05.ValueTests'. -/
def valueTestsUptoCard : Claim7 := { stood := { row := valueTestsUptoRow, standIns := [], harness := (true, "338b30bfb2c8b43a4dee82bb9328077b56ffc7ad57a434deb946c8051f02f3ff"), looks := false }, kinds := [], alts := [], laidByText := true, laidKinds := [.data], laidTests := true, laidLooks := .later }
def ValueTestsUptoCardSaid : Prop := Claim7.holds Tryd.pinned (.plain (OpenSpec.upto valueTestsSpec)) valueTestsUptoCard
end Rows
end Go.Proofs.YtfjhiaafabmpbaaDoor
