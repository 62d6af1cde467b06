/-
  DERIVED. GIVEN WITH THE SEED: THE CARDS: each row of YtconingjdgmodaaDoorRows.lean that lists a variable, with what it lists TIED to the program's text (the seventh form; the later family's looks); each row that meets fmt, with fmt's text TOLD by the authors' own Lean function (tested against real Go, not proved from fmt's source: count such statements apart). THE CARD IS WHAT COUNTS. Prove the row's statement (the work); the ties are given (YtconingjdgmodaaDoorTie.lean); close each card by the builder's one call (the guide's Derived/Test/ToyasCard.lean, 'card_holds'). Laid BY PROGRAM, IN A SANDBOX (cutbox-door.mjs). By AI agents, Wed Nov 11 2026. No macro, syntax, notation, axiom, sorry.
-/
import Derived.Test.YtconingjdgmodaaDoorRows
import GoSem.ClaimSeven
namespace Go.Proofs.YtconingjdgmodaaDoor
namespace Rows

/-- THE TIED CARD OF 'cortegelaw10.RepoScript'. -/
def repoScriptCard : Claim7 := { stood := { row := repoScriptRow, standIns := [], harness := (true, "c6c6f31e1544014a4be3f809b03ac157e4aa4a4d61e4d9851295a4ca5233da34"), looks := false }, kinds := [], alts := [], laidByText := true, laidKinds := [.data, .pinned], laidTests := true, laidLooks := .later }
def RepoScriptCardSaid : Prop := Claim7.holds Tryd.pinned (.plain (OpenSpec.ofChange repoScriptSpec)) repoScriptCard

/-- THE TIED CARD OF 'cortegelaw10.RepoNumbers'. -/
def repoNumbersCard : Claim7 := { stood := { row := repoNumbersRow, standIns := [], harness := (true, "c6c6f31e1544014a4be3f809b03ac157e4aa4a4d61e4d9851295a4ca5233da34"), looks := false }, kinds := [], alts := [], laidByText := true, laidKinds := [.data, .pinned], laidTests := true, laidLooks := .later }
def RepoNumbersCardSaid : Prop := Claim7.holds Tryd.pinned (.plain (OpenSpec.ofChange repoNumbersSpec)) repoNumbersCard

/-- THE TIED CARD OF 'cortegelaw10.RepoRoom'. -/
def repoRoomCard : Claim7 := { stood := { row := repoRoomRow, standIns := [], harness := (true, "c6c6f31e1544014a4be3f809b03ac157e4aa4a4d61e4d9851295a4ca5233da34"), looks := false }, kinds := [], alts := [], laidByText := true, laidKinds := [.data, .pinned], laidTests := true, laidLooks := .later }
def RepoRoomCardSaid : Prop := Claim7.holds Tryd.pinned (.plain (OpenSpec.ofChange repoRoomSpec)) repoRoomCard

/-- THE TIED CARD OF 'cortegelaw10.RepoNone'. -/
def repoNoneCard : Claim7 := { stood := { row := repoNoneRow, standIns := [], harness := (true, "c6c6f31e1544014a4be3f809b03ac157e4aa4a4d61e4d9851295a4ca5233da34"), looks := false }, kinds := [], alts := [], laidByText := true, laidKinds := [.data, .pinned], laidTests := true, laidLooks := .later }
def RepoNoneCardSaid : Prop := Claim7.holds Tryd.pinned (.plain (OpenSpec.ofChange repoNoneSpec)) repoNoneCard

/-- THE SECOND FORM's CARD OF 'cortegelaw10.RepoScript'. -/
def repoScriptUptoCard : Claim7 := { stood := { row := repoScriptUptoRow, standIns := [], harness := (true, "c6c6f31e1544014a4be3f809b03ac157e4aa4a4d61e4d9851295a4ca5233da34"), looks := false }, kinds := [], alts := [], laidByText := true, laidKinds := [.data, .pinned], laidTests := true, laidLooks := .later }
def RepoScriptUptoCardSaid : Prop := Claim7.holds Tryd.pinned (.plain (OpenSpec.upto repoScriptSpec)) repoScriptUptoCard

/-- THE SECOND FORM's CARD OF 'cortegelaw10.RepoNumbers'. -/
def repoNumbersUptoCard : Claim7 := { stood := { row := repoNumbersUptoRow, standIns := [], harness := (true, "c6c6f31e1544014a4be3f809b03ac157e4aa4a4d61e4d9851295a4ca5233da34"), looks := false }, kinds := [], alts := [], laidByText := true, laidKinds := [.data, .pinned], laidTests := true, laidLooks := .later }
def RepoNumbersUptoCardSaid : Prop := Claim7.holds Tryd.pinned (.plain (OpenSpec.upto repoNumbersSpec)) repoNumbersUptoCard

/-- THE SECOND FORM's CARD OF 'cortegelaw10.RepoRoom'. -/
def repoRoomUptoCard : Claim7 := { stood := { row := repoRoomUptoRow, standIns := [], harness := (true, "c6c6f31e1544014a4be3f809b03ac157e4aa4a4d61e4d9851295a4ca5233da34"), looks := false }, kinds := [], alts := [], laidByText := true, laidKinds := [.data, .pinned], laidTests := true, laidLooks := .later }
def RepoRoomUptoCardSaid : Prop := Claim7.holds Tryd.pinned (.plain (OpenSpec.upto repoRoomSpec)) repoRoomUptoCard

/-- THE SECOND FORM's CARD OF 'cortegelaw10.RepoNone'. -/
def repoNoneUptoCard : Claim7 := { stood := { row := repoNoneUptoRow, standIns := [], harness := (true, "c6c6f31e1544014a4be3f809b03ac157e4aa4a4d61e4d9851295a4ca5233da34"), looks := false }, kinds := [], alts := [], laidByText := true, laidKinds := [.data, .pinned], laidTests := true, laidLooks := .later }
def RepoNoneUptoCardSaid : Prop := Claim7.holds Tryd.pinned (.plain (OpenSpec.upto repoNoneSpec)) repoNoneUptoCard
end Rows
end Go.Proofs.YtconingjdgmodaaDoor
