/-
  DERIVED. GIVEN WITH THE SEED: THE CARDS: each row of YtakbeololabmhaaGreatDoorRows.lean that lists a variable, with what it lists TIED to the program's text (the seventh form; the later family's looks); each row that meets fmt, with fmt's text TOLD by the authors' own Lean function (tested against real Go, not proved from fmt's source: count such statements apart). THE CARD IS WHAT COUNTS. Prove the row's statement (the work); the ties are given (YtakbeololabmhaaGreatDoorTie.lean); close each card by the builder's one call (the guide's Derived/Test/ToyasCard.lean, 'card_holds'). Laid BY PROGRAM, IN A SANDBOX (cutbox-door.mjs). By AI agents, Wed Nov 11 2026. No macro, syntax, notation, axiom, sorry.
-/
import Derived.Test.YtakbeololabmhaaGreatDoorRows
import GoSem.ClaimSeven
namespace Go.Proofs.YtakbeololabmhaaGreatDoor
namespace Rows

/-- THE TIED CARD OF 'cortegelaw13.FoldTells'. -/
def foldTellsCard : Claim7 := { stood := { row := foldTellsRow, standIns := [], harness := (true, "dbc582f5db9339163178cb06d176f3974b397b76bd8ab46eb57f29654ae4e30b"), looks := false }, kinds := [], alts := [], laidByText := true, laidKinds := [.data, .pinned], laidTests := true, laidLooks := .later }
def FoldTellsCardSaid : Prop := Claim7.holds Tryz.pinned (.plain (OpenSpec.ofChange foldTellsSpec)) foldTellsCard

/-- THE TIED CARD OF 'cortegelaw13.FoldOnly'. -/
def foldOnlyCard : Claim7 := { stood := { row := foldOnlyRow, standIns := [], harness := (true, "dbc582f5db9339163178cb06d176f3974b397b76bd8ab46eb57f29654ae4e30b"), looks := false }, kinds := [], alts := [], laidByText := true, laidKinds := [.data, .pinned], laidTests := true, laidLooks := .later }
def FoldOnlyCardSaid : Prop := Claim7.holds Tryz.pinned (.plain (OpenSpec.ofChange foldOnlySpec)) foldOnlyCard

/-- THE TIED CARD OF 'cortegelaw13.FoldCross'. -/
def foldCrossCard : Claim7 := { stood := { row := foldCrossRow, standIns := [], harness := (true, "dbc582f5db9339163178cb06d176f3974b397b76bd8ab46eb57f29654ae4e30b"), looks := false }, kinds := [], alts := [], laidByText := true, laidKinds := [.data, .pinned], laidTests := true, laidLooks := .later }
def FoldCrossCardSaid : Prop := Claim7.holds Tryz.pinned (.plain (OpenSpec.ofChange foldCrossSpec)) foldCrossCard

/-- THE SECOND FORM's CARD OF 'cortegelaw13.FoldTells'. -/
def foldTellsUptoCard : Claim7 := { stood := { row := foldTellsUptoRow, standIns := [], harness := (true, "dbc582f5db9339163178cb06d176f3974b397b76bd8ab46eb57f29654ae4e30b"), looks := false }, kinds := [], alts := [], laidByText := true, laidKinds := [.data, .pinned], laidTests := true, laidLooks := .later }
def FoldTellsUptoCardSaid : Prop := Claim7.holds Tryz.pinned (.plain (OpenSpec.upto foldTellsSpec)) foldTellsUptoCard

/-- THE SECOND FORM's CARD OF 'cortegelaw13.FoldOnly'. -/
def foldOnlyUptoCard : Claim7 := { stood := { row := foldOnlyUptoRow, standIns := [], harness := (true, "dbc582f5db9339163178cb06d176f3974b397b76bd8ab46eb57f29654ae4e30b"), looks := false }, kinds := [], alts := [], laidByText := true, laidKinds := [.data, .pinned], laidTests := true, laidLooks := .later }
def FoldOnlyUptoCardSaid : Prop := Claim7.holds Tryz.pinned (.plain (OpenSpec.upto foldOnlySpec)) foldOnlyUptoCard

/-- THE SECOND FORM's CARD OF 'cortegelaw13.FoldCross'. -/
def foldCrossUptoCard : Claim7 := { stood := { row := foldCrossUptoRow, standIns := [], harness := (true, "dbc582f5db9339163178cb06d176f3974b397b76bd8ab46eb57f29654ae4e30b"), looks := false }, kinds := [], alts := [], laidByText := true, laidKinds := [.data, .pinned], laidTests := true, laidLooks := .later }
def FoldCrossUptoCardSaid : Prop := Claim7.holds Tryz.pinned (.plain (OpenSpec.upto foldCrossSpec)) foldCrossUptoCard
end Rows
end Go.Proofs.YtakbeololabmhaaGreatDoor
