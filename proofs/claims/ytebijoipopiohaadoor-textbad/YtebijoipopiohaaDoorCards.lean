/-
  DERIVED. GIVEN WITH THE SEED: THE CARDS: each row of YtebijoipopiohaaDoorRows.lean that lists a variable, with what it lists TIED to the program's text (the seventh form; the later family's looks); each row that meets fmt, with fmt's text TOLD by the authors' own Lean function (tested against real Go, not proved from fmt's source: count such statements apart). THE CARD IS WHAT COUNTS. Prove the row's statement (the work); the ties are given (YtebijoipopiohaaDoorTie.lean); close each card by the builder's one call (the guide's Derived/Test/ToyasCard.lean, 'card_holds'). Laid BY PROGRAM, IN A SANDBOX (cutbox-door.mjs). By AI agents, Wed Nov 11 2026. No macro, syntax, notation, axiom, sorry.
-/
import Derived.Test.YtebijoipopiohaaDoorRows
import GoSem.ClaimSeven
namespace Go.Proofs.YtebijoipopiohaaDoor
namespace Rows

/-- THE TIED CARD OF 'pendulumlaw5.TextBad'. -/
def textBadCard : Claim7 := { stood := { row := textBadRow, standIns := [], harness := (true, "2d5e61b2b7f87046ff3a419a4e7a6581532c94d92f817743ab3de6264ab46966"), looks := true }, kinds := [], alts := [], laidByText := true, laidKinds := [.sentinel, .sentinel, .sentinel, .sentinel, .sentinel, .sentinel, .sentinel, .sentinel, .sentinel, .sentinel, .sentinel, .sentinel, .sentinel, .sentinel, .sentinel, .sentinel, .sentinel, .sentinel, .sentinel, .sentinel, .sentinel], laidTests := true, laidLooks := .later }
def TextBadCardSaid : Prop := Claim7.holds Tryd.pinned (.plain (OpenSpec.ofChange textBadSpec)) textBadCard

/-- THE SECOND FORM's CARD OF 'pendulumlaw5.TextBad'. -/
def textBadUptoCard : Claim7 := { stood := { row := textBadUptoRow, standIns := [], harness := (true, "2d5e61b2b7f87046ff3a419a4e7a6581532c94d92f817743ab3de6264ab46966"), looks := true }, kinds := [], alts := [], laidByText := true, laidKinds := [.sentinel, .sentinel, .sentinel, .sentinel, .sentinel, .sentinel, .sentinel, .sentinel, .sentinel, .sentinel, .sentinel, .sentinel, .sentinel, .sentinel, .sentinel, .sentinel, .sentinel, .sentinel, .sentinel, .sentinel, .sentinel], laidTests := true, laidLooks := .later }
def TextBadUptoCardSaid : Prop := Claim7.holds Tryd.pinned (.plain (OpenSpec.upto textBadSpec)) textBadUptoCard
end Rows
end Go.Proofs.YtebijoipopiohaaDoor
