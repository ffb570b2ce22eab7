/-
  No cell of these rows narrows 'for every input' (looked for: loops, veiled, ifaces, maps, wideKeys, modest, calm, conditions, laid).
  DERIVED. THE GIVEN ROWS OF THIS SEAT. 4 by the template 'for every input the law returns true; each argument reads behind the call as it read before'; 0 by the template 'total and deterministic' (their statements: YtnbaoimjcaeeaaaTotals.lean).
  GIVEN WITH THE SEED: the statements are not yours to turn. If you find one false, say at which input.
  Laid BY PROGRAM, IN A SANDBOX (cutbox-rows.mjs): the forced cells as the released guide's own fill.sh prints them over the translation 60f83f1febc3f0ed… (all of the seat's roots in one cut). By AI agents, Wed Nov 11 2026. No macro, syntax, notation, axiom, sorry.
-/
import Derived.Test.YtnbaoimjcaeeaaaChecked
import GoSem.Claim
import GoSem.ClaimJoined
import GoSem.ClaimMapViews
import Derived.JoinedTies
import Derived.KernelRfl
namespace Go.Proofs.Ytnbaoimjcaeeaaa
/- THE CELL 'sum', in the pinned program and in every row, IS THE sha256 OF THE DUMP (.gsa) THAT YtnbaoimjcaeeaaaProg.lean LOADS. Nothing in Lean hashes anything: it is a label: what it is worth is what the hold of that sum in a sandbox is worth. -/
noncomputable def Try.pinned : Pinned := { name := "ytnbaoimjcaeeaaa", sum := "60f83f1febc3f0ed3d9d80d5d6d53126e11108c81eb0673005bee3f2672adf0b", checked := Try.checked }
namespace Rows
def none {H : Type} : Left H := { results := [], args := [] }

/-- 'corbellaw10.EntryTells': WHATEVER THE INPUT: true; the input reads as it did. -/
def entryTellsSpec : ChangeSpec := { name := "entryTells", fn := fun _ => fun
  | [d1, d2] => { results := [.lit (.bool true)], args := [d1, d2] }
  | _ => none }
def entryTellsRow : OpenClaim := { program := "ytnbaoimjcaeeaaa", sum := "60f83f1febc3f0ed3d9d80d5d6d53126e11108c81eb0673005bee3f2672adf0b", func := "corbel/corbellaw10.EntryTells", spec := "entryTells", unfollowed := true, recurses := true, apart := false }
def EntryTellsSaid : Prop := entryTellsRow.holds Try.pinned (OpenSpec.ofChange entryTellsSpec)

/-- ITS FALSE NEIGHBOUR: 'it returns false'. Refute it at one input. -/
def entryTellsWrong : ChangeSpec := { name := "entryTells", fn := fun _ => fun
  | [d1, d2] => { results := [.lit (.bool false)], args := [d1, d2] }
  | _ => none }
def EntryTellsWrongFalsely : Prop := entryTellsRow.holds Try.pinned (OpenSpec.ofChange entryTellsWrong)

/-- 'corbellaw10.EntrySnaps': WHATEVER THE INPUT: true; the input reads as it did. -/
def entrySnapsSpec : ChangeSpec := { name := "entrySnaps", fn := fun _ => fun
  | [d1, d2] => { results := [.lit (.bool true)], args := [d1, d2] }
  | _ => none }
def entrySnapsRow : OpenClaim := { program := "ytnbaoimjcaeeaaa", sum := "60f83f1febc3f0ed3d9d80d5d6d53126e11108c81eb0673005bee3f2672adf0b", func := "corbel/corbellaw10.EntrySnaps", spec := "entrySnaps", unfollowed := true, recurses := true, apart := false }
def EntrySnapsSaid : Prop := entrySnapsRow.holds Try.pinned (OpenSpec.ofChange entrySnapsSpec)

/-- ITS FALSE NEIGHBOUR: 'it returns false'. Refute it at one input. -/
def entrySnapsWrong : ChangeSpec := { name := "entrySnaps", fn := fun _ => fun
  | [d1, d2] => { results := [.lit (.bool false)], args := [d1, d2] }
  | _ => none }
def EntrySnapsWrongFalsely : Prop := entrySnapsRow.holds Try.pinned (OpenSpec.ofChange entrySnapsWrong)

/-- 'corbellaw10.EntryBack': WHATEVER THE INPUT: true; the input reads as it did. -/
def entryBackSpec : ChangeSpec := { name := "entryBack", fn := fun _ => fun
  | [d1, d2, d3] => { results := [.lit (.bool true)], args := [d1, d2, d3] }
  | _ => none }
def entryBackRow : OpenClaim := { program := "ytnbaoimjcaeeaaa", sum := "60f83f1febc3f0ed3d9d80d5d6d53126e11108c81eb0673005bee3f2672adf0b", func := "corbel/corbellaw10.EntryBack", spec := "entryBack", unfollowed := true, recurses := true, apart := false }
def EntryBackSaid : Prop := entryBackRow.holds Try.pinned (OpenSpec.ofChange entryBackSpec)

/-- ITS FALSE NEIGHBOUR: 'it returns false'. Refute it at one input. -/
def entryBackWrong : ChangeSpec := { name := "entryBack", fn := fun _ => fun
  | [d1, d2, d3] => { results := [.lit (.bool false)], args := [d1, d2, d3] }
  | _ => none }
def EntryBackWrongFalsely : Prop := entryBackRow.holds Try.pinned (OpenSpec.ofChange entryBackWrong)

/-- 'corbellaw10.EntrySends': WHATEVER THE INPUT: true; the input reads as it did. -/
def entrySendsSpec : ChangeSpec := { name := "entrySends", fn := fun _ => fun
  | [d1, d2] => { results := [.lit (.bool true)], args := [d1, d2] }
  | _ => none }
def entrySendsRow : OpenClaim := { program := "ytnbaoimjcaeeaaa", sum := "60f83f1febc3f0ed3d9d80d5d6d53126e11108c81eb0673005bee3f2672adf0b", func := "corbel/corbellaw10.EntrySends", spec := "entrySends", unfollowed := true, recurses := true, apart := false }
def EntrySendsSaid : Prop := entrySendsRow.holds Try.pinned (OpenSpec.ofChange entrySendsSpec)

/-- ITS FALSE NEIGHBOUR: 'it returns false'. Refute it at one input. -/
def entrySendsWrong : ChangeSpec := { name := "entrySends", fn := fun _ => fun
  | [d1, d2] => { results := [.lit (.bool false)], args := [d1, d2] }
  | _ => none }
def EntrySendsWrongFalsely : Prop := entrySendsRow.holds Try.pinned (OpenSpec.ofChange entrySendsWrong)

/- THE SECOND FORM. 'bulk': how many values and letters a reading holds, each counted each time it is reached (what is shared counts as often as it is met; a slice's spare places count too). A statement '..UptoSaid' is the law's where the arguments, and the package variables that the reading takes, are together of bulk at most 1048576: NARROWER than '..Said'. Prove '..Said' where nothing that the law and all that it calls make is longer than what came in: it says more and counts as full. Else prove '..UptoSaid'. A law counts once. -/
mutual
def uptoBulk {H : Type} : DataW H → Nat
  | .lit (.string bytes) => bytes.length + 1
  | .lit _ => 1
  | .nil => 1
  | .ptr d => uptoBulk d + 1
  | .slice elems spare => uptoBulkAll elems + uptoBulkAll spare + 1
  | .agg parts => uptoBulkAll parts + 1
  | .iface _ d => uptoBulk d + 1
  | .map entries => uptoBulkEntries entries + 1
  | .held _ => 1
def uptoBulkAll {H : Type} : List (DataW H) → Nat
  | [] => 0
  | d :: r => uptoBulk d + uptoBulkAll r
def uptoBulkEntries {H : Type} : List (Lit × DataW H) → Nat
  | [] => 0
  | x :: r => uptoBulkEntry x + uptoBulkEntries r
def uptoBulkEntry {H : Type} : Lit × DataW H → Nat
  | (.string bytes, d) => bytes.length + uptoBulk d + 1
  | (_, d) => uptoBulk d + 1
 end
def uptoSmall : (H : Type) → List (DataW H) → Bool := fun _ ds => decide (uptoBulkAll ds ≤ 1048576)
def OpenSpec.upto (s : _root_.Go.ChangeSpec) : _root_.Go.OpenSpec := { _root_.Go.OpenSpec.ofChange s with cond := some uptoSmall }

/-- 'corbellaw10.EntryTells', WHERE WHAT IT READS IS OF BULK AT MOST 1048576: true; the input reads as it did. -/
def entryTellsUptoRow : OpenClaim := { program := "ytnbaoimjcaeeaaa", sum := "60f83f1febc3f0ed3d9d80d5d6d53126e11108c81eb0673005bee3f2672adf0b", func := "corbel/corbellaw10.EntryTells", spec := "entryTells", unfollowed := true, recurses := true, apart := false, narrowed := true }
def EntryTellsUptoSaid : Prop := entryTellsUptoRow.holds Try.pinned (OpenSpec.upto entryTellsSpec)

/-- 'corbellaw10.EntrySnaps', WHERE WHAT IT READS IS OF BULK AT MOST 1048576: true; the input reads as it did. -/
def entrySnapsUptoRow : OpenClaim := { program := "ytnbaoimjcaeeaaa", sum := "60f83f1febc3f0ed3d9d80d5d6d53126e11108c81eb0673005bee3f2672adf0b", func := "corbel/corbellaw10.EntrySnaps", spec := "entrySnaps", unfollowed := true, recurses := true, apart := false, narrowed := true }
def EntrySnapsUptoSaid : Prop := entrySnapsUptoRow.holds Try.pinned (OpenSpec.upto entrySnapsSpec)

/-- 'corbellaw10.EntryBack', WHERE WHAT IT READS IS OF BULK AT MOST 1048576: true; the input reads as it did. -/
def entryBackUptoRow : OpenClaim := { program := "ytnbaoimjcaeeaaa", sum := "60f83f1febc3f0ed3d9d80d5d6d53126e11108c81eb0673005bee3f2672adf0b", func := "corbel/corbellaw10.EntryBack", spec := "entryBack", unfollowed := true, recurses := true, apart := false, narrowed := true }
def EntryBackUptoSaid : Prop := entryBackUptoRow.holds Try.pinned (OpenSpec.upto entryBackSpec)

/-- 'corbellaw10.EntrySends', WHERE WHAT IT READS IS OF BULK AT MOST 1048576: true; the input reads as it did. -/
def entrySendsUptoRow : OpenClaim := { program := "ytnbaoimjcaeeaaa", sum := "60f83f1febc3f0ed3d9d80d5d6d53126e11108c81eb0673005bee3f2672adf0b", func := "corbel/corbellaw10.EntrySends", spec := "entrySends", unfollowed := true, recurses := true, apart := false, narrowed := true }
def EntrySendsUptoSaid : Prop := entrySendsUptoRow.holds Try.pinned (OpenSpec.upto entrySendsSpec)

end Rows
end Go.Proofs.Ytnbaoimjcaeeaaa
