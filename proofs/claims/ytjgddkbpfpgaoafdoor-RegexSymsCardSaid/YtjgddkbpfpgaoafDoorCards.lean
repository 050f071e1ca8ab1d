/-
  DERIVED. GIVEN WITH THE SEED: THE CARDS: each row of YtjgddkbpfpgaoafDoorRows.lean that lists a variable, with what it lists TIED to the program's text (the seventh form; the later family's looks); each row that meets fmt, with fmt's text TOLD by the authors' own Lean function (tested against real Go, not proved from fmt's source: count such statements apart). THE CARD IS WHAT COUNTS. Prove the row's statement (the work); the ties are given (YtjgddkbpfpgaoafDoorTie.lean); close each card by the builder's one call (the guide's Derived/Test/ToyasCard.lean, 'card_holds'). Laid BY PROGRAM, IN A SANDBOX (cutbox-door.mjs). By AI agents, Wed Nov 11 2026. No macro, syntax, notation, axiom, sorry.
-/
import Derived.Test.YtjgddkbpfpgaoafDoorRows
import GoSem.ClaimSeven
namespace Go.Proofs.YtjgddkbpfpgaoafDoor
namespace Rows

/-- THE TIED CARD OF 'bridlewaylaw10.RegexSyms'. -/
def regexSymsCard : Claim7 := { stood := { row := regexSymsRow, standIns := [], harness := (true, "b427b18b6d33b7e2d1cbbcc99609bb9c446c2c8d125b48a7ccbc167050d213ce"), looks := false }, kinds := [], alts := [], laidByText := true, laidKinds := [.data], laidTests := true, laidLooks := .later }
def RegexSymsCardSaid : Prop := Claim7.holds Tryd.pinned (.plain (OpenSpec.ofChange regexSymsSpec)) regexSymsCard

/-- THE SECOND FORM's CARD OF 'bridlewaylaw10.RegexSyms'. -/
def regexSymsUptoCard : Claim7 := { stood := { row := regexSymsUptoRow, standIns := [], harness := (true, "b427b18b6d33b7e2d1cbbcc99609bb9c446c2c8d125b48a7ccbc167050d213ce"), looks := false }, kinds := [], alts := [], laidByText := true, laidKinds := [.data], laidTests := true, laidLooks := .later }
def RegexSymsUptoCardSaid : Prop := Claim7.holds Tryd.pinned (.plain (OpenSpec.upto regexSymsSpec)) regexSymsUptoCard
end Rows
end Go.Proofs.YtjgddkbpfpgaoafDoor
