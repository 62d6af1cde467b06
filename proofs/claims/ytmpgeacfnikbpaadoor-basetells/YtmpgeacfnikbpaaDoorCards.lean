/-
  DERIVED. GIVEN WITH THE SEED: THE CARDS: each row of YtmpgeacfnikbpaaDoorRows.lean that lists a variable, with what it lists TIED to the program's text (the seventh form; the later family's looks); each row that meets fmt, with fmt's text TOLD by the authors' own Lean function (tested against real Go, not proved from fmt's source: count such statements apart). THE CARD IS WHAT COUNTS. Prove the row's statement (the work); the ties are given (YtmpgeacfnikbpaaDoorTie.lean); close each card by the builder's one call (the guide's Derived/Test/ToyasCard.lean, 'card_holds'). Laid BY PROGRAM, IN A SANDBOX (cutbox-door.mjs). By AI agents, Wed Nov 11 2026. No macro, syntax, notation, axiom, sorry.
-/
import Derived.Test.YtmpgeacfnikbpaaDoorRows
import GoSem.ClaimSeven
namespace Go.Proofs.YtmpgeacfnikbpaaDoor
namespace Rows

/-- THE TIED CARD OF 'cortegelaw12.BaseTells'. -/
def baseTellsCard : Claim7 := { stood := { row := baseTellsRow, standIns := [], harness := (true, "a6cf8c0e85310766a0e79aa9d11b286c7209832cf9749236bb92fc4fd197e6fa"), looks := false }, kinds := [], alts := [], laidByText := true, laidKinds := [.data, .pinned], laidTests := true, laidLooks := .later }
def BaseTellsCardSaid : Prop := Claim7.holds Tryd.pinned (.plain (OpenSpec.ofChange baseTellsSpec)) baseTellsCard

/-- THE TIED CARD OF 'cortegelaw12.BaseBest'. -/
def baseBestCard : Claim7 := { stood := { row := baseBestRow, standIns := [], harness := (true, "a6cf8c0e85310766a0e79aa9d11b286c7209832cf9749236bb92fc4fd197e6fa"), looks := false }, kinds := [], alts := [], laidByText := true, laidKinds := [.data, .pinned], laidTests := true, laidLooks := .later }
def BaseBestCardSaid : Prop := Claim7.holds Tryd.pinned (.plain (OpenSpec.ofChange baseBestSpec)) baseBestCard

/-- THE TIED CARD OF 'cortegelaw12.BaseAhead'. -/
def baseAheadCard : Claim7 := { stood := { row := baseAheadRow, standIns := [], harness := (true, "a6cf8c0e85310766a0e79aa9d11b286c7209832cf9749236bb92fc4fd197e6fa"), looks := false }, kinds := [], alts := [], laidByText := true, laidKinds := [.data, .pinned], laidTests := true, laidLooks := .later }
def BaseAheadCardSaid : Prop := Claim7.holds Tryd.pinned (.plain (OpenSpec.ofChange baseAheadSpec)) baseAheadCard

/-- THE TIED CARD OF 'cortegelaw12.BaseLine'. -/
def baseLineCard : Claim7 := { stood := { row := baseLineRow, standIns := [], harness := (true, "a6cf8c0e85310766a0e79aa9d11b286c7209832cf9749236bb92fc4fd197e6fa"), looks := false }, kinds := [], alts := [], laidByText := true, laidKinds := [.data, .pinned], laidTests := true, laidLooks := .later }
def BaseLineCardSaid : Prop := Claim7.holds Tryd.pinned (.plain (OpenSpec.ofChange baseLineSpec)) baseLineCard

/-- THE SECOND FORM's CARD OF 'cortegelaw12.BaseTells'. -/
def baseTellsUptoCard : Claim7 := { stood := { row := baseTellsUptoRow, standIns := [], harness := (true, "a6cf8c0e85310766a0e79aa9d11b286c7209832cf9749236bb92fc4fd197e6fa"), looks := false }, kinds := [], alts := [], laidByText := true, laidKinds := [.data, .pinned], laidTests := true, laidLooks := .later }
def BaseTellsUptoCardSaid : Prop := Claim7.holds Tryd.pinned (.plain (OpenSpec.upto baseTellsSpec)) baseTellsUptoCard

/-- THE SECOND FORM's CARD OF 'cortegelaw12.BaseBest'. -/
def baseBestUptoCard : Claim7 := { stood := { row := baseBestUptoRow, standIns := [], harness := (true, "a6cf8c0e85310766a0e79aa9d11b286c7209832cf9749236bb92fc4fd197e6fa"), looks := false }, kinds := [], alts := [], laidByText := true, laidKinds := [.data, .pinned], laidTests := true, laidLooks := .later }
def BaseBestUptoCardSaid : Prop := Claim7.holds Tryd.pinned (.plain (OpenSpec.upto baseBestSpec)) baseBestUptoCard

/-- THE SECOND FORM's CARD OF 'cortegelaw12.BaseAhead'. -/
def baseAheadUptoCard : Claim7 := { stood := { row := baseAheadUptoRow, standIns := [], harness := (true, "a6cf8c0e85310766a0e79aa9d11b286c7209832cf9749236bb92fc4fd197e6fa"), looks := false }, kinds := [], alts := [], laidByText := true, laidKinds := [.data, .pinned], laidTests := true, laidLooks := .later }
def BaseAheadUptoCardSaid : Prop := Claim7.holds Tryd.pinned (.plain (OpenSpec.upto baseAheadSpec)) baseAheadUptoCard

/-- THE SECOND FORM's CARD OF 'cortegelaw12.BaseLine'. -/
def baseLineUptoCard : Claim7 := { stood := { row := baseLineUptoRow, standIns := [], harness := (true, "a6cf8c0e85310766a0e79aa9d11b286c7209832cf9749236bb92fc4fd197e6fa"), looks := false }, kinds := [], alts := [], laidByText := true, laidKinds := [.data, .pinned], laidTests := true, laidLooks := .later }
def BaseLineUptoCardSaid : Prop := Claim7.holds Tryd.pinned (.plain (OpenSpec.upto baseLineSpec)) baseLineUptoCard
end Rows
end Go.Proofs.YtmpgeacfnikbpaaDoor
