/-
  No cell of these rows narrows 'for every input' (looked for: loops, veiled, ifaces, maps, wideKeys, modest, calm, conditions, laid).
  DERIVED. THE GIVEN ROWS OF THIS SEAT. 5 by the template 'for every input the law returns true; each argument reads behind the call as it read before'; 0 by the template 'total and deterministic' (their statements: YtaolebadamfodaaTotals.lean).
  GIVEN WITH THE SEED: the statements are not yours to turn. If you find one false, say at which input.
  Laid BY PROGRAM, IN A SANDBOX (cutbox-rows.mjs): the forced cells as the released guide's own fill.sh prints them over the translation c04edbbede68376d… (all of the seat's roots in one cut). By AI agents, Wed Nov 11 2026. No macro, syntax, notation, axiom, sorry.
-/
import Derived.Test.YtaolebadamfodaaChecked
import GoSem.Claim
import GoSem.ClaimJoined
import GoSem.ClaimMapViews
import Derived.JoinedTies
import Derived.KernelRfl
namespace Go.Proofs.Ytaolebadamfodaa
/- THE CELL 'sum', in the pinned program and in every row, IS THE sha256 OF THE DUMP (.gsa) THAT YtaolebadamfodaaProg.lean LOADS. Nothing in Lean hashes anything: it is a label: what it is worth is what the hold of that sum in a sandbox is worth. -/
noncomputable def Try.pinned : Pinned := { name := "ytaolebadamfodaa", sum := "c04edbbede68376d4877226f25f9a42505d9bb5118884bdc738c0e095edfa8ec", checked := Try.checked }
namespace Rows
def none {H : Type} : Left H := { results := [], args := [] }

/-- 'cortegelaw2.PileScript': WHATEVER THE INPUT: true; the input reads as it did. -/
def pileScriptSpec : ChangeSpec := { name := "pileScript", fn := fun _ => fun
  | [d] => { results := [.lit (.bool true)], args := [d] }
  | _ => none }
def pileScriptRow : OpenClaim := { program := "ytaolebadamfodaa", sum := "c04edbbede68376d4877226f25f9a42505d9bb5118884bdc738c0e095edfa8ec", func := "cortege/cortegelaw2.PileScript", spec := "pileScript", unfollowed := true, recurses := true, apart := false }
def PileScriptSaid : Prop := pileScriptRow.holds Try.pinned (OpenSpec.ofChange pileScriptSpec)

/-- ITS FALSE NEIGHBOUR: 'it returns false'. Refute it at one input. -/
def pileScriptWrong : ChangeSpec := { name := "pileScript", fn := fun _ => fun
  | [d] => { results := [.lit (.bool false)], args := [d] }
  | _ => none }
def PileScriptWrongFalsely : Prop := pileScriptRow.holds Try.pinned (OpenSpec.ofChange pileScriptWrong)

/-- 'cortegelaw2.PileSorts': WHATEVER THE INPUT: true; the input reads as it did. -/
def pileSortsSpec : ChangeSpec := { name := "pileSorts", fn := fun _ => fun
  | [d] => { results := [.lit (.bool true)], args := [d] }
  | _ => none }
def pileSortsRow : OpenClaim := { program := "ytaolebadamfodaa", sum := "c04edbbede68376d4877226f25f9a42505d9bb5118884bdc738c0e095edfa8ec", func := "cortege/cortegelaw2.PileSorts", spec := "pileSorts", unfollowed := true, recurses := true, apart := false }
def PileSortsSaid : Prop := pileSortsRow.holds Try.pinned (OpenSpec.ofChange pileSortsSpec)

/-- ITS FALSE NEIGHBOUR: 'it returns false'. Refute it at one input. -/
def pileSortsWrong : ChangeSpec := { name := "pileSorts", fn := fun _ => fun
  | [d] => { results := [.lit (.bool false)], args := [d] }
  | _ => none }
def PileSortsWrongFalsely : Prop := pileSortsRow.holds Try.pinned (OpenSpec.ofChange pileSortsWrong)

/-- 'cortegelaw2.PileLeft': WHATEVER THE INPUT: true; the input reads as it did. -/
def pileLeftSpec : ChangeSpec := { name := "pileLeft", fn := fun _ => fun
  | [d1, d2] => { results := [.lit (.bool true)], args := [d1, d2] }
  | _ => none }
def pileLeftRow : OpenClaim := { program := "ytaolebadamfodaa", sum := "c04edbbede68376d4877226f25f9a42505d9bb5118884bdc738c0e095edfa8ec", func := "cortege/cortegelaw2.PileLeft", spec := "pileLeft", unfollowed := true, recurses := true, apart := false }
def PileLeftSaid : Prop := pileLeftRow.holds Try.pinned (OpenSpec.ofChange pileLeftSpec)

/-- ITS FALSE NEIGHBOUR: 'it returns false'. Refute it at one input. -/
def pileLeftWrong : ChangeSpec := { name := "pileLeft", fn := fun _ => fun
  | [d1, d2] => { results := [.lit (.bool false)], args := [d1, d2] }
  | _ => none }
def PileLeftWrongFalsely : Prop := pileLeftRow.holds Try.pinned (OpenSpec.ofChange pileLeftWrong)

/-- 'cortegelaw2.PileNone': WHATEVER THE INPUT: true; the input reads as it did. -/
def pileNoneSpec : ChangeSpec := { name := "pileNone", fn := fun _ => fun
  | [d] => { results := [.lit (.bool true)], args := [d] }
  | _ => none }
def pileNoneRow : OpenClaim := { program := "ytaolebadamfodaa", sum := "c04edbbede68376d4877226f25f9a42505d9bb5118884bdc738c0e095edfa8ec", func := "cortege/cortegelaw2.PileNone", spec := "pileNone", unfollowed := true, recurses := true, apart := false }
def PileNoneSaid : Prop := pileNoneRow.holds Try.pinned (OpenSpec.ofChange pileNoneSpec)

/-- ITS FALSE NEIGHBOUR: 'it returns false'. Refute it at one input. -/
def pileNoneWrong : ChangeSpec := { name := "pileNone", fn := fun _ => fun
  | [d] => { results := [.lit (.bool false)], args := [d] }
  | _ => none }
def PileNoneWrongFalsely : Prop := pileNoneRow.holds Try.pinned (OpenSpec.ofChange pileNoneWrong)

/-- 'cortegelaw2.PileTurned': WHATEVER THE INPUT: true; the input reads as it did. -/
def pileTurnedSpec : ChangeSpec := { name := "pileTurned", fn := fun _ => fun
  | [d1, d2] => { results := [.lit (.bool true)], args := [d1, d2] }
  | _ => none }
def pileTurnedRow : OpenClaim := { program := "ytaolebadamfodaa", sum := "c04edbbede68376d4877226f25f9a42505d9bb5118884bdc738c0e095edfa8ec", func := "cortege/cortegelaw2.PileTurned", spec := "pileTurned", unfollowed := true, recurses := true, apart := false }
def PileTurnedSaid : Prop := pileTurnedRow.holds Try.pinned (OpenSpec.ofChange pileTurnedSpec)

/-- ITS FALSE NEIGHBOUR: 'it returns false'. Refute it at one input. -/
def pileTurnedWrong : ChangeSpec := { name := "pileTurned", fn := fun _ => fun
  | [d1, d2] => { results := [.lit (.bool false)], args := [d1, d2] }
  | _ => none }
def PileTurnedWrongFalsely : Prop := pileTurnedRow.holds Try.pinned (OpenSpec.ofChange pileTurnedWrong)

/- THE SECOND FORM. 'bulk': how many values and letters a reading holds, each counted each time it is reached (what is shared counts as often as it is met; a slice's spare places count too). A statement '..UptoSaid' is the law's where the arguments, and the package variables that the reading takes, are together of bulk at most 1048576: NARROWER than '..Said'. Prove '..Said' where nothing that the law and all that it calls make is longer than what came in: it says more and counts as full. Else prove '..UptoSaid'. A law counts once. -/
mutual
def uptoBulk {H : Type} : DataW H → Nat
  | .lit (.string bytes) => bytes.length + 1
  | .lit _ => 1
  | .nil => 1
  | .ptr d => uptoBulk d + 1
  | .slice elems spare => uptoBulkAll elems + uptoBulkAll spare + 1
  | .agg parts => uptoBulkAll parts + 1
  | .iface _ d => uptoBulk d + 1
  | .map entries => uptoBulkEntries entries + 1
  | .held _ => 1
def uptoBulkAll {H : Type} : List (DataW H) → Nat
  | [] => 0
  | d :: r => uptoBulk d + uptoBulkAll r
def uptoBulkEntries {H : Type} : List (Lit × DataW H) → Nat
  | [] => 0
  | x :: r => uptoBulkEntry x + uptoBulkEntries r
def uptoBulkEntry {H : Type} : Lit × DataW H → Nat
  | (.string bytes, d) => bytes.length + uptoBulk d + 1
  | (_, d) => uptoBulk d + 1
 end
def uptoSmall : (H : Type) → List (DataW H) → Bool := fun _ ds => decide (uptoBulkAll ds ≤ 1048576)
def OpenSpec.upto (s : _root_.Go.ChangeSpec) : _root_.Go.OpenSpec := { _root_.Go.OpenSpec.ofChange s with cond := some uptoSmall }

/-- 'cortegelaw2.PileScript', WHERE WHAT IT READS IS OF BULK AT MOST 1048576: true; the input reads as it did. -/
def pileScriptUptoRow : OpenClaim := { program := "ytaolebadamfodaa", sum := "c04edbbede68376d4877226f25f9a42505d9bb5118884bdc738c0e095edfa8ec", func := "cortege/cortegelaw2.PileScript", spec := "pileScript", unfollowed := true, recurses := true, apart := false, narrowed := true }
def PileScriptUptoSaid : Prop := pileScriptUptoRow.holds Try.pinned (OpenSpec.upto pileScriptSpec)

/-- 'cortegelaw2.PileSorts', WHERE WHAT IT READS IS OF BULK AT MOST 1048576: true; the input reads as it did. -/
def pileSortsUptoRow : OpenClaim := { program := "ytaolebadamfodaa", sum := "c04edbbede68376d4877226f25f9a42505d9bb5118884bdc738c0e095edfa8ec", func := "cortege/cortegelaw2.PileSorts", spec := "pileSorts", unfollowed := true, recurses := true, apart := false, narrowed := true }
def PileSortsUptoSaid : Prop := pileSortsUptoRow.holds Try.pinned (OpenSpec.upto pileSortsSpec)

/-- 'cortegelaw2.PileLeft', WHERE WHAT IT READS IS OF BULK AT MOST 1048576: true; the input reads as it did. -/
def pileLeftUptoRow : OpenClaim := { program := "ytaolebadamfodaa", sum := "c04edbbede68376d4877226f25f9a42505d9bb5118884bdc738c0e095edfa8ec", func := "cortege/cortegelaw2.PileLeft", spec := "pileLeft", unfollowed := true, recurses := true, apart := false, narrowed := true }
def PileLeftUptoSaid : Prop := pileLeftUptoRow.holds Try.pinned (OpenSpec.upto pileLeftSpec)

/-- 'cortegelaw2.PileNone', WHERE WHAT IT READS IS OF BULK AT MOST 1048576: true; the input reads as it did. -/
def pileNoneUptoRow : OpenClaim := { program := "ytaolebadamfodaa", sum := "c04edbbede68376d4877226f25f9a42505d9bb5118884bdc738c0e095edfa8ec", func := "cortege/cortegelaw2.PileNone", spec := "pileNone", unfollowed := true, recurses := true, apart := false, narrowed := true }
def PileNoneUptoSaid : Prop := pileNoneUptoRow.holds Try.pinned (OpenSpec.upto pileNoneSpec)

/-- 'cortegelaw2.PileTurned', WHERE WHAT IT READS IS OF BULK AT MOST 1048576: true; the input reads as it did. -/
def pileTurnedUptoRow : OpenClaim := { program := "ytaolebadamfodaa", sum := "c04edbbede68376d4877226f25f9a42505d9bb5118884bdc738c0e095edfa8ec", func := "cortege/cortegelaw2.PileTurned", spec := "pileTurned", unfollowed := true, recurses := true, apart := false, narrowed := true }
def PileTurnedUptoSaid : Prop := pileTurnedUptoRow.holds Try.pinned (OpenSpec.upto pileTurnedSpec)

end Rows
end Go.Proofs.Ytaolebadamfodaa
