/-
  NARROWER THAN 'FOR EVERY INPUT', by the rows' own cells (each row's printed sentence says how): GroupBytes: laid · GroupMatches: laid · GroupSets: laid · GroupLays: laid · GroupParts: laid · GroupWalks: laid.
  DERIVED. THE GIVEN ROWS OF THIS SEAT. 6 by the template 'for every input the law returns true; each argument reads behind the call as it read before'; 0 by the template 'total and deterministic' (their statements: YtnnenapmmfmgcaaDoorTotals.lean).
  GIVEN WITH THE SEED: the statements are not yours to turn. If you find one false, say at which input.
  Laid BY PROGRAM, IN A SANDBOX (cutbox-rows.mjs): the forced cells as the released guide's own fill.sh prints them over the translation e16088008a9af4d1… (all of the seat's roots in one cut). By AI agents, Wed Nov 11 2026. No macro, syntax, notation, axiom, sorry.
-/
import Derived.Test.YtnnenapmmfmgcaaDoorChecked
import GoSem.Claim
import GoSem.ClaimJoined
import GoSem.ClaimMapViews
import Derived.JoinedTies
import Derived.KernelRfl
namespace Go.Proofs.YtnnenapmmfmgcaaDoor
/- THE CELL 'sum', in the pinned program and in every row, IS THE sha256 OF THE DUMP (.gsa) THAT YtnnenapmmfmgcaaDoorProg.lean LOADS. Nothing in Lean hashes anything: it is a label: what it is worth is what the hold of that sum in a sandbox is worth. -/
noncomputable def Tryd.pinned : Pinned := { name := "ytnnenapmmfmgcaadoor", sum := "e16088008a9af4d1da1e047e2c4a30ef3e9449d011aff8d4a26e16bbf8cad3a5", checked := Tryd.checked }
namespace Rows
def none {H : Type} : Left H := { results := [], args := [] }

/- WHAT THE LISTED PACKAGE-LEVEL VARIABLES READ AS WHEN THE CALL BEGINS. Each datum BY PROGRAM (the guide's laid-datum.mjs) off the statement by which the dump's own 'gosem.cut.vars' lays the variable. In a bare row this is a premise. The card (YtnnenapmmfmgcaaDoorCards.lean) ties it to the program's text. -/
def laid_corbel_group_lowest {H : Type} : DataW H := .agg [.lit (.int .i64 4), .lit (.int .i64 0), .lit (.int .i64 1), .lit (.int .i64 0), .lit (.int .i64 2), .lit (.int .i64 0), .lit (.int .i64 1), .lit (.int .i64 0), .lit (.int .i64 3), .lit (.int .i64 0), .lit (.int .i64 1), .lit (.int .i64 0), .lit (.int .i64 2), .lit (.int .i64 0), .lit (.int .i64 1), .lit (.int .i64 0)]

/-- 'corbellaw03.GroupBytes': WHATEVER THE INPUT: true; the input reads as it did. -/
def groupBytesSpec : ChangeSpec := { name := "groupBytes", fn := fun _ => fun
  | [d1, d2, d3] => { results := [.lit (.bool true)], args := [d1, d2, d3] }
  | _ => none }
def groupBytesRow : OpenClaim := { program := "ytnnenapmmfmgcaadoor", sum := "e16088008a9af4d1da1e047e2c4a30ef3e9449d011aff8d4a26e16bbf8cad3a5", func := "corbel/corbellaw03.GroupBytes", spec := "groupBytes", unfollowed := true, recurses := true, named := ["corbel/group.lowest"], apart := false, laid := [("corbel/group.lowest", laid_corbel_group_lowest)] }
def GroupBytesSaid : Prop := groupBytesRow.holds Tryd.pinned (OpenSpec.ofChange groupBytesSpec)

/-- ITS FALSE NEIGHBOUR: 'it returns false'. Refute it at one input. -/
def groupBytesWrong : ChangeSpec := { name := "groupBytes", fn := fun _ => fun
  | [d1, d2, d3] => { results := [.lit (.bool false)], args := [d1, d2, d3] }
  | _ => none }
def GroupBytesWrongFalsely : Prop := groupBytesRow.holds Tryd.pinned (OpenSpec.ofChange groupBytesWrong)

/-- 'corbellaw03.GroupMatches': WHATEVER THE INPUT: true; the input reads as it did. -/
def groupMatchesSpec : ChangeSpec := { name := "groupMatches", fn := fun _ => fun
  | [d1, d2] => { results := [.lit (.bool true)], args := [d1, d2] }
  | _ => none }
def groupMatchesRow : OpenClaim := { program := "ytnnenapmmfmgcaadoor", sum := "e16088008a9af4d1da1e047e2c4a30ef3e9449d011aff8d4a26e16bbf8cad3a5", func := "corbel/corbellaw03.GroupMatches", spec := "groupMatches", unfollowed := true, recurses := true, named := ["corbel/group.lowest"], apart := false, laid := [("corbel/group.lowest", laid_corbel_group_lowest)] }
def GroupMatchesSaid : Prop := groupMatchesRow.holds Tryd.pinned (OpenSpec.ofChange groupMatchesSpec)

/-- ITS FALSE NEIGHBOUR: 'it returns false'. Refute it at one input. -/
def groupMatchesWrong : ChangeSpec := { name := "groupMatches", fn := fun _ => fun
  | [d1, d2] => { results := [.lit (.bool false)], args := [d1, d2] }
  | _ => none }
def GroupMatchesWrongFalsely : Prop := groupMatchesRow.holds Tryd.pinned (OpenSpec.ofChange groupMatchesWrong)

/-- 'corbellaw03.GroupSets': WHATEVER THE INPUT: true; the input reads as it did. -/
def groupSetsSpec : ChangeSpec := { name := "groupSets", fn := fun _ => fun
  | [d] => { results := [.lit (.bool true)], args := [d] }
  | _ => none }
def groupSetsRow : OpenClaim := { program := "ytnnenapmmfmgcaadoor", sum := "e16088008a9af4d1da1e047e2c4a30ef3e9449d011aff8d4a26e16bbf8cad3a5", func := "corbel/corbellaw03.GroupSets", spec := "groupSets", unfollowed := true, recurses := true, named := ["corbel/group.lowest"], apart := false, laid := [("corbel/group.lowest", laid_corbel_group_lowest)] }
def GroupSetsSaid : Prop := groupSetsRow.holds Tryd.pinned (OpenSpec.ofChange groupSetsSpec)

/-- ITS FALSE NEIGHBOUR: 'it returns false'. Refute it at one input. -/
def groupSetsWrong : ChangeSpec := { name := "groupSets", fn := fun _ => fun
  | [d] => { results := [.lit (.bool false)], args := [d] }
  | _ => none }
def GroupSetsWrongFalsely : Prop := groupSetsRow.holds Tryd.pinned (OpenSpec.ofChange groupSetsWrong)

/-- 'corbellaw03.GroupLays': WHATEVER THE INPUT: true; the input reads as it did. -/
def groupLaysSpec : ChangeSpec := { name := "groupLays", fn := fun _ => fun
  | [d1, d2, d3] => { results := [.lit (.bool true)], args := [d1, d2, d3] }
  | _ => none }
def groupLaysRow : OpenClaim := { program := "ytnnenapmmfmgcaadoor", sum := "e16088008a9af4d1da1e047e2c4a30ef3e9449d011aff8d4a26e16bbf8cad3a5", func := "corbel/corbellaw03.GroupLays", spec := "groupLays", unfollowed := true, recurses := true, named := ["corbel/group.lowest"], apart := false, laid := [("corbel/group.lowest", laid_corbel_group_lowest)] }
def GroupLaysSaid : Prop := groupLaysRow.holds Tryd.pinned (OpenSpec.ofChange groupLaysSpec)

/-- ITS FALSE NEIGHBOUR: 'it returns false'. Refute it at one input. -/
def groupLaysWrong : ChangeSpec := { name := "groupLays", fn := fun _ => fun
  | [d1, d2, d3] => { results := [.lit (.bool false)], args := [d1, d2, d3] }
  | _ => none }
def GroupLaysWrongFalsely : Prop := groupLaysRow.holds Tryd.pinned (OpenSpec.ofChange groupLaysWrong)

/-- 'corbellaw03.GroupParts': WHATEVER THE INPUT: true; the input reads as it did. -/
def groupPartsSpec : ChangeSpec := { name := "groupParts", fn := fun _ => fun
  | [d] => { results := [.lit (.bool true)], args := [d] }
  | _ => none }
def groupPartsRow : OpenClaim := { program := "ytnnenapmmfmgcaadoor", sum := "e16088008a9af4d1da1e047e2c4a30ef3e9449d011aff8d4a26e16bbf8cad3a5", func := "corbel/corbellaw03.GroupParts", spec := "groupParts", unfollowed := true, recurses := true, named := ["corbel/group.lowest"], apart := false, laid := [("corbel/group.lowest", laid_corbel_group_lowest)] }
def GroupPartsSaid : Prop := groupPartsRow.holds Tryd.pinned (OpenSpec.ofChange groupPartsSpec)

/-- ITS FALSE NEIGHBOUR: 'it returns false'. Refute it at one input. -/
def groupPartsWrong : ChangeSpec := { name := "groupParts", fn := fun _ => fun
  | [d] => { results := [.lit (.bool false)], args := [d] }
  | _ => none }
def GroupPartsWrongFalsely : Prop := groupPartsRow.holds Tryd.pinned (OpenSpec.ofChange groupPartsWrong)

/-- 'corbellaw03.GroupWalks': WHATEVER THE INPUT: true; the input reads as it did. -/
def groupWalksSpec : ChangeSpec := { name := "groupWalks", fn := fun _ => fun
  | [d] => { results := [.lit (.bool true)], args := [d] }
  | _ => none }
def groupWalksRow : OpenClaim := { program := "ytnnenapmmfmgcaadoor", sum := "e16088008a9af4d1da1e047e2c4a30ef3e9449d011aff8d4a26e16bbf8cad3a5", func := "corbel/corbellaw03.GroupWalks", spec := "groupWalks", unfollowed := true, recurses := true, named := ["corbel/group.lowest"], apart := false, laid := [("corbel/group.lowest", laid_corbel_group_lowest)] }
def GroupWalksSaid : Prop := groupWalksRow.holds Tryd.pinned (OpenSpec.ofChange groupWalksSpec)

/-- ITS FALSE NEIGHBOUR: 'it returns false'. Refute it at one input. -/
def groupWalksWrong : ChangeSpec := { name := "groupWalks", fn := fun _ => fun
  | [d] => { results := [.lit (.bool false)], args := [d] }
  | _ => none }
def GroupWalksWrongFalsely : Prop := groupWalksRow.holds Tryd.pinned (OpenSpec.ofChange groupWalksWrong)

/- THE SECOND FORM. 'bulk': how many values and letters a reading holds, each counted each time it is reached (what is shared counts as often as it is met; a slice's spare places count too). A statement '..UptoSaid' is the law's where the arguments, and the package variables that the reading takes, are together of bulk at most 1048576: NARROWER than '..Said'. Prove '..Said' where nothing that the law and all that it calls make is longer than what came in: it says more and counts as full. Else prove '..UptoSaid'. A law counts once. -/
mutual
def uptoBulk {H : Type} : DataW H → Nat
  | .lit (.string bytes) => bytes.length + 1
  | .lit _ => 1
  | .nil => 1
  | .ptr d => uptoBulk d + 1
  | .slice elems spare => uptoBulkAll elems + uptoBulkAll spare + 1
  | .agg parts => uptoBulkAll parts + 1
  | .iface _ d => uptoBulk d + 1
  | .map entries => uptoBulkEntries entries + 1
  | .held _ => 1
def uptoBulkAll {H : Type} : List (DataW H) → Nat
  | [] => 0
  | d :: r => uptoBulk d + uptoBulkAll r
def uptoBulkEntries {H : Type} : List (Lit × DataW H) → Nat
  | [] => 0
  | x :: r => uptoBulkEntry x + uptoBulkEntries r
def uptoBulkEntry {H : Type} : Lit × DataW H → Nat
  | (.string bytes, d) => bytes.length + uptoBulk d + 1
  | (_, d) => uptoBulk d + 1
 end
def uptoSmall : (H : Type) → List (DataW H) → Bool := fun _ ds => decide (uptoBulkAll ds ≤ 1048576)
def OpenSpec.upto (s : _root_.Go.ChangeSpec) : _root_.Go.OpenSpec := { _root_.Go.OpenSpec.ofChange s with cond := some uptoSmall }

/-- 'corbellaw03.GroupBytes', WHERE WHAT IT READS IS OF BULK AT MOST 1048576: true; the input reads as it did. -/
def groupBytesUptoRow : OpenClaim := { program := "ytnnenapmmfmgcaadoor", sum := "e16088008a9af4d1da1e047e2c4a30ef3e9449d011aff8d4a26e16bbf8cad3a5", func := "corbel/corbellaw03.GroupBytes", spec := "groupBytes", unfollowed := true, recurses := true, named := ["corbel/group.lowest"], apart := false, laid := [("corbel/group.lowest", laid_corbel_group_lowest)], narrowed := true }
def GroupBytesUptoSaid : Prop := groupBytesUptoRow.holds Tryd.pinned (OpenSpec.upto groupBytesSpec)

/-- 'corbellaw03.GroupMatches', WHERE WHAT IT READS IS OF BULK AT MOST 1048576: true; the input reads as it did. -/
def groupMatchesUptoRow : OpenClaim := { program := "ytnnenapmmfmgcaadoor", sum := "e16088008a9af4d1da1e047e2c4a30ef3e9449d011aff8d4a26e16bbf8cad3a5", func := "corbel/corbellaw03.GroupMatches", spec := "groupMatches", unfollowed := true, recurses := true, named := ["corbel/group.lowest"], apart := false, laid := [("corbel/group.lowest", laid_corbel_group_lowest)], narrowed := true }
def GroupMatchesUptoSaid : Prop := groupMatchesUptoRow.holds Tryd.pinned (OpenSpec.upto groupMatchesSpec)

/-- 'corbellaw03.GroupSets', WHERE WHAT IT READS IS OF BULK AT MOST 1048576: true; the input reads as it did. -/
def groupSetsUptoRow : OpenClaim := { program := "ytnnenapmmfmgcaadoor", sum := "e16088008a9af4d1da1e047e2c4a30ef3e9449d011aff8d4a26e16bbf8cad3a5", func := "corbel/corbellaw03.GroupSets", spec := "groupSets", unfollowed := true, recurses := true, named := ["corbel/group.lowest"], apart := false, laid := [("corbel/group.lowest", laid_corbel_group_lowest)], narrowed := true }
def GroupSetsUptoSaid : Prop := groupSetsUptoRow.holds Tryd.pinned (OpenSpec.upto groupSetsSpec)

/-- 'corbellaw03.GroupLays', WHERE WHAT IT READS IS OF BULK AT MOST 1048576: true; the input reads as it did. -/
def groupLaysUptoRow : OpenClaim := { program := "ytnnenapmmfmgcaadoor", sum := "e16088008a9af4d1da1e047e2c4a30ef3e9449d011aff8d4a26e16bbf8cad3a5", func := "corbel/corbellaw03.GroupLays", spec := "groupLays", unfollowed := true, recurses := true, named := ["corbel/group.lowest"], apart := false, laid := [("corbel/group.lowest", laid_corbel_group_lowest)], narrowed := true }
def GroupLaysUptoSaid : Prop := groupLaysUptoRow.holds Tryd.pinned (OpenSpec.upto groupLaysSpec)

/-- 'corbellaw03.GroupParts', WHERE WHAT IT READS IS OF BULK AT MOST 1048576: true; the input reads as it did. -/
def groupPartsUptoRow : OpenClaim := { program := "ytnnenapmmfmgcaadoor", sum := "e16088008a9af4d1da1e047e2c4a30ef3e9449d011aff8d4a26e16bbf8cad3a5", func := "corbel/corbellaw03.GroupParts", spec := "groupParts", unfollowed := true, recurses := true, named := ["corbel/group.lowest"], apart := false, laid := [("corbel/group.lowest", laid_corbel_group_lowest)], narrowed := true }
def GroupPartsUptoSaid : Prop := groupPartsUptoRow.holds Tryd.pinned (OpenSpec.upto groupPartsSpec)

/-- 'corbellaw03.GroupWalks', WHERE WHAT IT READS IS OF BULK AT MOST 1048576: true; the input reads as it did. -/
def groupWalksUptoRow : OpenClaim := { program := "ytnnenapmmfmgcaadoor", sum := "e16088008a9af4d1da1e047e2c4a30ef3e9449d011aff8d4a26e16bbf8cad3a5", func := "corbel/corbellaw03.GroupWalks", spec := "groupWalks", unfollowed := true, recurses := true, named := ["corbel/group.lowest"], apart := false, laid := [("corbel/group.lowest", laid_corbel_group_lowest)], narrowed := true }
def GroupWalksUptoSaid : Prop := groupWalksUptoRow.holds Tryd.pinned (OpenSpec.upto groupWalksSpec)

end Rows
end Go.Proofs.YtnnenapmmfmgcaaDoor
