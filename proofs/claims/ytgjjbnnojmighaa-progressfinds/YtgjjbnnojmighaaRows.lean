/-
  No cell of these rows narrows 'for every input' (looked for: loops, veiled, ifaces, maps, wideKeys, modest, calm, conditions, laid).
  DERIVED. THE GIVEN ROWS OF THIS SEAT. 4 by the template 'for every input the law returns true; each argument reads behind the call as it read before'; 0 by the template 'total and deterministic' (their statements: YtgjjbnnojmighaaTotals.lean).
  GIVEN WITH THE SEED: the statements are not yours to turn. If you find one false, say at which input.
  Laid BY PROGRAM, IN A SANDBOX (cutbox-rows.mjs): the forced cells as the released guide's own fill.sh prints them over the translation 9e0753ac7199adb6… (all of the seat's roots in one cut). By AI agents, Wed Nov 11 2026. No macro, syntax, notation, axiom, sorry.
-/
import Derived.Test.YtgjjbnnojmighaaChecked
import GoSem.Claim
import GoSem.ClaimJoined
import GoSem.ClaimMapViews
import Derived.JoinedTies
import Derived.KernelRfl
namespace Go.Proofs.Ytgjjbnnojmighaa
/- THE CELL 'sum', in the pinned program and in every row, IS THE sha256 OF THE DUMP (.gsa) THAT YtgjjbnnojmighaaProg.lean LOADS. Nothing in Lean hashes anything: it is a label: what it is worth is what the hold of that sum in a sandbox is worth. -/
noncomputable def Try.pinned : Pinned := { name := "ytgjjbnnojmighaa", sum := "9e0753ac7199adb6f69bbff768a03cf82bab6fccb62313185177f9443d9394eb", checked := Try.checked }
namespace Rows
def none {H : Type} : Left H := { results := [], args := [] }

/-- 'corbellaw16.ProgressRises': WHATEVER THE INPUT: true; the input reads as it did. -/
def progressRisesSpec : ChangeSpec := { name := "progressRises", fn := fun _ => fun
  | [d1, d2] => { results := [.lit (.bool true)], args := [d1, d2] }
  | _ => none }
def progressRisesRow : OpenClaim := { program := "ytgjjbnnojmighaa", sum := "9e0753ac7199adb6f69bbff768a03cf82bab6fccb62313185177f9443d9394eb", func := "corbel/corbellaw16.ProgressRises", spec := "progressRises", unfollowed := true, recurses := true, apart := false }
def ProgressRisesSaid : Prop := progressRisesRow.holds Try.pinned (OpenSpec.ofChange progressRisesSpec)

/-- ITS FALSE NEIGHBOUR: 'it returns false'. Refute it at one input. -/
def progressRisesWrong : ChangeSpec := { name := "progressRises", fn := fun _ => fun
  | [d1, d2] => { results := [.lit (.bool false)], args := [d1, d2] }
  | _ => none }
def ProgressRisesWrongFalsely : Prop := progressRisesRow.holds Try.pinned (OpenSpec.ofChange progressRisesWrong)

/-- 'corbellaw16.ProgressFinds': WHATEVER THE INPUT: true; the input reads as it did. -/
def progressFindsSpec : ChangeSpec := { name := "progressFinds", fn := fun _ => fun
  | [d1, d2] => { results := [.lit (.bool true)], args := [d1, d2] }
  | _ => none }
def progressFindsRow : OpenClaim := { program := "ytgjjbnnojmighaa", sum := "9e0753ac7199adb6f69bbff768a03cf82bab6fccb62313185177f9443d9394eb", func := "corbel/corbellaw16.ProgressFinds", spec := "progressFinds", unfollowed := true, recurses := true, apart := false }
def ProgressFindsSaid : Prop := progressFindsRow.holds Try.pinned (OpenSpec.ofChange progressFindsSpec)

/-- ITS FALSE NEIGHBOUR: 'it returns false'. Refute it at one input. -/
def progressFindsWrong : ChangeSpec := { name := "progressFinds", fn := fun _ => fun
  | [d1, d2] => { results := [.lit (.bool false)], args := [d1, d2] }
  | _ => none }
def ProgressFindsWrongFalsely : Prop := progressFindsRow.holds Try.pinned (OpenSpec.ofChange progressFindsWrong)

/-- 'corbellaw16.ProgressNone': WHATEVER THE INPUT: true; the input reads as it did. -/
def progressNoneSpec : ChangeSpec := { name := "progressNone", fn := fun _ => fun
  | [d1, d2] => { results := [.lit (.bool true)], args := [d1, d2] }
  | _ => none }
def progressNoneRow : OpenClaim := { program := "ytgjjbnnojmighaa", sum := "9e0753ac7199adb6f69bbff768a03cf82bab6fccb62313185177f9443d9394eb", func := "corbel/corbellaw16.ProgressNone", spec := "progressNone", unfollowed := true, recurses := true, apart := false }
def ProgressNoneSaid : Prop := progressNoneRow.holds Try.pinned (OpenSpec.ofChange progressNoneSpec)

/-- ITS FALSE NEIGHBOUR: 'it returns false'. Refute it at one input. -/
def progressNoneWrong : ChangeSpec := { name := "progressNone", fn := fun _ => fun
  | [d1, d2] => { results := [.lit (.bool false)], args := [d1, d2] }
  | _ => none }
def ProgressNoneWrongFalsely : Prop := progressNoneRow.holds Try.pinned (OpenSpec.ofChange progressNoneWrong)

/-- 'corbellaw16.ProgressStreams': WHATEVER THE INPUT: true; the input reads as it did. -/
def progressStreamsSpec : ChangeSpec := { name := "progressStreams", fn := fun _ => fun
  | [d1, d2] => { results := [.lit (.bool true)], args := [d1, d2] }
  | _ => none }
def progressStreamsRow : OpenClaim := { program := "ytgjjbnnojmighaa", sum := "9e0753ac7199adb6f69bbff768a03cf82bab6fccb62313185177f9443d9394eb", func := "corbel/corbellaw16.ProgressStreams", spec := "progressStreams", unfollowed := true, recurses := true, apart := false }
def ProgressStreamsSaid : Prop := progressStreamsRow.holds Try.pinned (OpenSpec.ofChange progressStreamsSpec)

/-- ITS FALSE NEIGHBOUR: 'it returns false'. Refute it at one input. -/
def progressStreamsWrong : ChangeSpec := { name := "progressStreams", fn := fun _ => fun
  | [d1, d2] => { results := [.lit (.bool false)], args := [d1, d2] }
  | _ => none }
def ProgressStreamsWrongFalsely : Prop := progressStreamsRow.holds Try.pinned (OpenSpec.ofChange progressStreamsWrong)

/- THE SECOND FORM. 'bulk': how many values and letters a reading holds, each counted each time it is reached (what is shared counts as often as it is met; a slice's spare places count too). A statement '..UptoSaid' is the law's where the arguments, and the package variables that the reading takes, are together of bulk at most 1048576: NARROWER than '..Said'. Prove '..Said' where nothing that the law and all that it calls make is longer than what came in: it says more and counts as full. Else prove '..UptoSaid'. A law counts once. -/
mutual
def uptoBulk {H : Type} : DataW H → Nat
  | .lit (.string bytes) => bytes.length + 1
  | .lit _ => 1
  | .nil => 1
  | .ptr d => uptoBulk d + 1
  | .slice elems spare => uptoBulkAll elems + uptoBulkAll spare + 1
  | .agg parts => uptoBulkAll parts + 1
  | .iface _ d => uptoBulk d + 1
  | .map entries => uptoBulkEntries entries + 1
  | .held _ => 1
def uptoBulkAll {H : Type} : List (DataW H) → Nat
  | [] => 0
  | d :: r => uptoBulk d + uptoBulkAll r
def uptoBulkEntries {H : Type} : List (Lit × DataW H) → Nat
  | [] => 0
  | x :: r => uptoBulkEntry x + uptoBulkEntries r
def uptoBulkEntry {H : Type} : Lit × DataW H → Nat
  | (.string bytes, d) => bytes.length + uptoBulk d + 1
  | (_, d) => uptoBulk d + 1
 end
def uptoSmall : (H : Type) → List (DataW H) → Bool := fun _ ds => decide (uptoBulkAll ds ≤ 1048576)
def OpenSpec.upto (s : _root_.Go.ChangeSpec) : _root_.Go.OpenSpec := { _root_.Go.OpenSpec.ofChange s with cond := some uptoSmall }

/-- 'corbellaw16.ProgressRises', WHERE WHAT IT READS IS OF BULK AT MOST 1048576: true; the input reads as it did. -/
def progressRisesUptoRow : OpenClaim := { program := "ytgjjbnnojmighaa", sum := "9e0753ac7199adb6f69bbff768a03cf82bab6fccb62313185177f9443d9394eb", func := "corbel/corbellaw16.ProgressRises", spec := "progressRises", unfollowed := true, recurses := true, apart := false, narrowed := true }
def ProgressRisesUptoSaid : Prop := progressRisesUptoRow.holds Try.pinned (OpenSpec.upto progressRisesSpec)

/-- 'corbellaw16.ProgressFinds', WHERE WHAT IT READS IS OF BULK AT MOST 1048576: true; the input reads as it did. -/
def progressFindsUptoRow : OpenClaim := { program := "ytgjjbnnojmighaa", sum := "9e0753ac7199adb6f69bbff768a03cf82bab6fccb62313185177f9443d9394eb", func := "corbel/corbellaw16.ProgressFinds", spec := "progressFinds", unfollowed := true, recurses := true, apart := false, narrowed := true }
def ProgressFindsUptoSaid : Prop := progressFindsUptoRow.holds Try.pinned (OpenSpec.upto progressFindsSpec)

/-- 'corbellaw16.ProgressNone', WHERE WHAT IT READS IS OF BULK AT MOST 1048576: true; the input reads as it did. -/
def progressNoneUptoRow : OpenClaim := { program := "ytgjjbnnojmighaa", sum := "9e0753ac7199adb6f69bbff768a03cf82bab6fccb62313185177f9443d9394eb", func := "corbel/corbellaw16.ProgressNone", spec := "progressNone", unfollowed := true, recurses := true, apart := false, narrowed := true }
def ProgressNoneUptoSaid : Prop := progressNoneUptoRow.holds Try.pinned (OpenSpec.upto progressNoneSpec)

/-- 'corbellaw16.ProgressStreams', WHERE WHAT IT READS IS OF BULK AT MOST 1048576: true; the input reads as it did. -/
def progressStreamsUptoRow : OpenClaim := { program := "ytgjjbnnojmighaa", sum := "9e0753ac7199adb6f69bbff768a03cf82bab6fccb62313185177f9443d9394eb", func := "corbel/corbellaw16.ProgressStreams", spec := "progressStreams", unfollowed := true, recurses := true, apart := false, narrowed := true }
def ProgressStreamsUptoSaid : Prop := progressStreamsUptoRow.holds Try.pinned (OpenSpec.upto progressStreamsSpec)

end Rows
end Go.Proofs.Ytgjjbnnojmighaa
