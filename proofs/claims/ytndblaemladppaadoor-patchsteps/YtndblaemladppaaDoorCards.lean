/-
  DERIVED. GIVEN WITH THE SEED: THE CARDS: each row of YtndblaemladppaaDoorRows.lean that lists a variable, with what it lists TIED to the program's text (the seventh form; the later family's looks); each row that meets fmt, with fmt's text TOLD by the authors' own Lean function (tested against real Go, not proved from fmt's source: count such statements apart). THE CARD IS WHAT COUNTS. Prove the row's statement (the work); the ties are given (YtndblaemladppaaDoorTie.lean); close each card by the builder's one call (the guide's Derived/Test/ToyasCard.lean, 'card_holds'). Laid BY PROGRAM, IN A SANDBOX (cutbox-door.mjs). By AI agents, Wed Nov 11 2026. No macro, syntax, notation, axiom, sorry.
-/
import Derived.Test.YtndblaemladppaaDoorRows
import GoSem.ClaimSeven
namespace Go.Proofs.YtndblaemladppaaDoor
namespace Rows

/-- THE TIED CARD OF 'cortegelaw8.PatchBack'. -/
def patchBackCard : Claim7 := { stood := { row := patchBackRow, standIns := [], harness := (true, "e299f0f2dbefce79d275bcdf0f7895b29d852ba5ac09a1c7ed2650ccb201bc44"), looks := false }, kinds := [], alts := [], laidByText := true, laidKinds := [.data, .pinned], laidTests := true, laidLooks := .later }
def PatchBackCardSaid : Prop := Claim7.holds Tryd.pinned (.plain (OpenSpec.ofChange patchBackSpec)) patchBackCard

/-- THE TIED CARD OF 'cortegelaw8.PatchSteps'. -/
def patchStepsCard : Claim7 := { stood := { row := patchStepsRow, standIns := [], harness := (true, "e299f0f2dbefce79d275bcdf0f7895b29d852ba5ac09a1c7ed2650ccb201bc44"), looks := false }, kinds := [], alts := [], laidByText := true, laidKinds := [.data, .pinned], laidTests := true, laidLooks := .later }
def PatchStepsCardSaid : Prop := Claim7.holds Tryd.pinned (.plain (OpenSpec.ofChange patchStepsSpec)) patchStepsCard

/-- THE TIED CARD OF 'cortegelaw8.PatchCounts'. -/
def patchCountsCard : Claim7 := { stood := { row := patchCountsRow, standIns := [], harness := (true, "e299f0f2dbefce79d275bcdf0f7895b29d852ba5ac09a1c7ed2650ccb201bc44"), looks := false }, kinds := [], alts := [], laidByText := true, laidKinds := [.data, .pinned], laidTests := true, laidLooks := .later }
def PatchCountsCardSaid : Prop := Claim7.holds Tryd.pinned (.plain (OpenSpec.ofChange patchCountsSpec)) patchCountsCard

/-- THE SECOND FORM's CARD OF 'cortegelaw8.PatchBack'. -/
def patchBackUptoCard : Claim7 := { stood := { row := patchBackUptoRow, standIns := [], harness := (true, "e299f0f2dbefce79d275bcdf0f7895b29d852ba5ac09a1c7ed2650ccb201bc44"), looks := false }, kinds := [], alts := [], laidByText := true, laidKinds := [.data, .pinned], laidTests := true, laidLooks := .later }
def PatchBackUptoCardSaid : Prop := Claim7.holds Tryd.pinned (.plain (OpenSpec.upto patchBackSpec)) patchBackUptoCard

/-- THE SECOND FORM's CARD OF 'cortegelaw8.PatchSteps'. -/
def patchStepsUptoCard : Claim7 := { stood := { row := patchStepsUptoRow, standIns := [], harness := (true, "e299f0f2dbefce79d275bcdf0f7895b29d852ba5ac09a1c7ed2650ccb201bc44"), looks := false }, kinds := [], alts := [], laidByText := true, laidKinds := [.data, .pinned], laidTests := true, laidLooks := .later }
def PatchStepsUptoCardSaid : Prop := Claim7.holds Tryd.pinned (.plain (OpenSpec.upto patchStepsSpec)) patchStepsUptoCard

/-- THE SECOND FORM's CARD OF 'cortegelaw8.PatchCounts'. -/
def patchCountsUptoCard : Claim7 := { stood := { row := patchCountsUptoRow, standIns := [], harness := (true, "e299f0f2dbefce79d275bcdf0f7895b29d852ba5ac09a1c7ed2650ccb201bc44"), looks := false }, kinds := [], alts := [], laidByText := true, laidKinds := [.data, .pinned], laidTests := true, laidLooks := .later }
def PatchCountsUptoCardSaid : Prop := Claim7.holds Tryd.pinned (.plain (OpenSpec.upto patchCountsSpec)) patchCountsUptoCard
end Rows
end Go.Proofs.YtndblaemladppaaDoor
