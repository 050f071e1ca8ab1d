/-
  DERIVED. GIVEN WITH THE SEED: THE CARDS: each row of YtacjbenpkblcmaaDoorRows.lean that lists a variable, with what it lists TIED to the program's text (the seventh form; the later family's looks); each row that meets fmt, with fmt's text TOLD by the authors' own Lean function (tested against real Go, not proved from fmt's source: count such statements apart). THE CARD IS WHAT COUNTS. Prove the row's statement (the work); the ties are given (YtacjbenpkblcmaaDoorTie.lean); close each card by the builder's one call (the guide's Derived/Test/ToyasCard.lean, 'card_holds'). Laid BY PROGRAM, IN A SANDBOX (cutbox-door.mjs). By AI agents, Wed Nov 11 2026. No macro, syntax, notation, axiom, sorry.
-/
import Derived.Test.YtacjbenpkblcmaaDoorRows
import GoSem.ClaimSeven
namespace Go.Proofs.YtacjbenpkblcmaaDoor
namespace Rows

/-- THE TIED CARD OF 'bridlewaylaw14.NfaNone'. -/
def nfaNoneCard : Claim7 := { stood := { row := nfaNoneRow, standIns := [], harness := (true, "80ef19d89b2e0bf0be92db8408a1ff6705e52210ec40ce2cafd144138c2b70e5"), looks := false }, kinds := [], alts := [], laidByText := true, laidKinds := [.data], laidTests := true, laidLooks := .later }
def NfaNoneCardSaid : Prop := Claim7.holds Tryd.pinned (.plain (OpenSpec.ofChange nfaNoneSpec)) nfaNoneCard

/-- THE SECOND FORM's CARD OF 'bridlewaylaw14.NfaNone'. -/
def nfaNoneUptoCard : Claim7 := { stood := { row := nfaNoneUptoRow, standIns := [], harness := (true, "80ef19d89b2e0bf0be92db8408a1ff6705e52210ec40ce2cafd144138c2b70e5"), looks := false }, kinds := [], alts := [], laidByText := true, laidKinds := [.data], laidTests := true, laidLooks := .later }
def NfaNoneUptoCardSaid : Prop := Claim7.holds Tryd.pinned (.plain (OpenSpec.upto nfaNoneSpec)) nfaNoneUptoCard
end Rows
end Go.Proofs.YtacjbenpkblcmaaDoor
