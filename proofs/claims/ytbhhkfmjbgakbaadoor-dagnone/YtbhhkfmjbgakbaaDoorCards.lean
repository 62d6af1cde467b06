/-
  DERIVED. GIVEN WITH THE SEED: THE CARDS: each row of YtbhhkfmjbgakbaaDoorRows.lean that lists a variable, with what it lists TIED to the program's text (the seventh form; the later family's looks); each row that meets fmt, with fmt's text TOLD by the authors' own Lean function (tested against real Go, not proved from fmt's source: count such statements apart). THE CARD IS WHAT COUNTS. Prove the row's statement (the work); the ties are given (YtbhhkfmjbgakbaaDoorTie.lean); close each card by the builder's one call (the guide's Derived/Test/ToyasCard.lean, 'card_holds'). Laid BY PROGRAM, IN A SANDBOX (cutbox-door.mjs). By AI agents, Wed Nov 11 2026. No macro, syntax, notation, axiom, sorry.
-/
import Derived.Test.YtbhhkfmjbgakbaaDoorRows
import GoSem.ClaimSeven
namespace Go.Proofs.YtbhhkfmjbgakbaaDoor
namespace Rows

/-- THE TIED CARD OF 'cortegelaw11.DagTells'. -/
def dagTellsCard : Claim7 := { stood := { row := dagTellsRow, standIns := [], harness := (true, "63c60045e46a59a8fa0b9133f3921dcb9fc33d439c7f5baafcacbd7c75f2c5b4"), looks := false }, kinds := [], alts := [], laidByText := true, laidKinds := [.data, .pinned], laidTests := true, laidLooks := .later }
def DagTellsCardSaid : Prop := Claim7.holds Tryd.pinned (.plain (OpenSpec.ofChange dagTellsSpec)) dagTellsCard

/-- THE TIED CARD OF 'cortegelaw11.DagOrder'. -/
def dagOrderCard : Claim7 := { stood := { row := dagOrderRow, standIns := [], harness := (true, "63c60045e46a59a8fa0b9133f3921dcb9fc33d439c7f5baafcacbd7c75f2c5b4"), looks := false }, kinds := [], alts := [], laidByText := true, laidKinds := [.data, .pinned], laidTests := true, laidLooks := .later }
def DagOrderCardSaid : Prop := Claim7.holds Tryd.pinned (.plain (OpenSpec.ofChange dagOrderSpec)) dagOrderCard

/-- THE TIED CARD OF 'cortegelaw11.DagWalks'. -/
def dagWalksCard : Claim7 := { stood := { row := dagWalksRow, standIns := [], harness := (true, "63c60045e46a59a8fa0b9133f3921dcb9fc33d439c7f5baafcacbd7c75f2c5b4"), looks := false }, kinds := [], alts := [], laidByText := true, laidKinds := [.data, .pinned], laidTests := true, laidLooks := .later }
def DagWalksCardSaid : Prop := Claim7.holds Tryd.pinned (.plain (OpenSpec.ofChange dagWalksSpec)) dagWalksCard

/-- THE TIED CARD OF 'cortegelaw11.DagNone'. -/
def dagNoneCard : Claim7 := { stood := { row := dagNoneRow, standIns := [], harness := (true, "63c60045e46a59a8fa0b9133f3921dcb9fc33d439c7f5baafcacbd7c75f2c5b4"), looks := false }, kinds := [], alts := [], laidByText := true, laidKinds := [.data, .pinned], laidTests := true, laidLooks := .later }
def DagNoneCardSaid : Prop := Claim7.holds Tryd.pinned (.plain (OpenSpec.ofChange dagNoneSpec)) dagNoneCard

/-- THE TIED CARD OF 'cortegelaw11.DagDepths'. -/
def dagDepthsCard : Claim7 := { stood := { row := dagDepthsRow, standIns := [], harness := (true, "63c60045e46a59a8fa0b9133f3921dcb9fc33d439c7f5baafcacbd7c75f2c5b4"), looks := false }, kinds := [], alts := [], laidByText := true, laidKinds := [.data, .pinned], laidTests := true, laidLooks := .later }
def DagDepthsCardSaid : Prop := Claim7.holds Tryd.pinned (.plain (OpenSpec.ofChange dagDepthsSpec)) dagDepthsCard

/-- THE SECOND FORM's CARD OF 'cortegelaw11.DagTells'. -/
def dagTellsUptoCard : Claim7 := { stood := { row := dagTellsUptoRow, standIns := [], harness := (true, "63c60045e46a59a8fa0b9133f3921dcb9fc33d439c7f5baafcacbd7c75f2c5b4"), looks := false }, kinds := [], alts := [], laidByText := true, laidKinds := [.data, .pinned], laidTests := true, laidLooks := .later }
def DagTellsUptoCardSaid : Prop := Claim7.holds Tryd.pinned (.plain (OpenSpec.upto dagTellsSpec)) dagTellsUptoCard

/-- THE SECOND FORM's CARD OF 'cortegelaw11.DagOrder'. -/
def dagOrderUptoCard : Claim7 := { stood := { row := dagOrderUptoRow, standIns := [], harness := (true, "63c60045e46a59a8fa0b9133f3921dcb9fc33d439c7f5baafcacbd7c75f2c5b4"), looks := false }, kinds := [], alts := [], laidByText := true, laidKinds := [.data, .pinned], laidTests := true, laidLooks := .later }
def DagOrderUptoCardSaid : Prop := Claim7.holds Tryd.pinned (.plain (OpenSpec.upto dagOrderSpec)) dagOrderUptoCard

/-- THE SECOND FORM's CARD OF 'cortegelaw11.DagWalks'. -/
def dagWalksUptoCard : Claim7 := { stood := { row := dagWalksUptoRow, standIns := [], harness := (true, "63c60045e46a59a8fa0b9133f3921dcb9fc33d439c7f5baafcacbd7c75f2c5b4"), looks := false }, kinds := [], alts := [], laidByText := true, laidKinds := [.data, .pinned], laidTests := true, laidLooks := .later }
def DagWalksUptoCardSaid : Prop := Claim7.holds Tryd.pinned (.plain (OpenSpec.upto dagWalksSpec)) dagWalksUptoCard

/-- THE SECOND FORM's CARD OF 'cortegelaw11.DagNone'. -/
def dagNoneUptoCard : Claim7 := { stood := { row := dagNoneUptoRow, standIns := [], harness := (true, "63c60045e46a59a8fa0b9133f3921dcb9fc33d439c7f5baafcacbd7c75f2c5b4"), looks := false }, kinds := [], alts := [], laidByText := true, laidKinds := [.data, .pinned], laidTests := true, laidLooks := .later }
def DagNoneUptoCardSaid : Prop := Claim7.holds Tryd.pinned (.plain (OpenSpec.upto dagNoneSpec)) dagNoneUptoCard

/-- THE SECOND FORM's CARD OF 'cortegelaw11.DagDepths'. -/
def dagDepthsUptoCard : Claim7 := { stood := { row := dagDepthsUptoRow, standIns := [], harness := (true, "63c60045e46a59a8fa0b9133f3921dcb9fc33d439c7f5baafcacbd7c75f2c5b4"), looks := false }, kinds := [], alts := [], laidByText := true, laidKinds := [.data, .pinned], laidTests := true, laidLooks := .later }
def DagDepthsUptoCardSaid : Prop := Claim7.holds Tryd.pinned (.plain (OpenSpec.upto dagDepthsSpec)) dagDepthsUptoCard
end Rows
end Go.Proofs.YtbhhkfmjbgakbaaDoor
