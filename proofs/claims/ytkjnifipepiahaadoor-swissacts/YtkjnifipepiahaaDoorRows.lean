/-
  NARROWER THAN 'FOR EVERY INPUT', by the rows' own cells (each row's printed sentence says how): SwissActs: laid · SwissMaps: laid · SwissBounds: laid · SwissCopies: laid · SwissNone: laid · SwissGrows: laid.
  DERIVED. THE GIVEN ROWS OF THIS SEAT. 6 by the template 'for every input the law returns true; each argument reads behind the call as it read before'; 0 by the template 'total and deterministic' (their statements: YtkjnifipepiahaaDoorTotals.lean).
  GIVEN WITH THE SEED: the statements are not yours to turn. If you find one false, say at which input.
  Laid BY PROGRAM, IN A SANDBOX (cutbox-rows.mjs): the forced cells as the released guide's own fill.sh prints them over the translation 1bd415b018282211… (all of the seat's roots in one cut). By AI agents, Wed Nov 11 2026. No macro, syntax, notation, axiom, sorry.
-/
import Derived.Test.YtkjnifipepiahaaDoorChecked
import GoSem.Claim
import GoSem.ClaimJoined
import GoSem.ClaimMapViews
import Derived.JoinedTies
import Derived.KernelRfl
namespace Go.Proofs.YtkjnifipepiahaaDoor
/- THE CELL 'sum', in the pinned program and in every row, IS THE sha256 OF THE DUMP (.gsa) THAT YtkjnifipepiahaaDoorProg.lean LOADS. Nothing in Lean hashes anything: it is a label: what it is worth is what the hold of that sum in a sandbox is worth. -/
noncomputable def Tryd.pinned : Pinned := { name := "ytkjnifipepiahaadoor", sum := "1bd415b018282211eeace1eebffe6ec15ca895606680452d8ba7c8bc1337eaa8", checked := Tryd.checked }
namespace Rows
def none {H : Type} : Left H := { results := [], args := [] }

/- WHAT THE LISTED PACKAGE-LEVEL VARIABLES READ AS WHEN THE CALL BEGINS. Each datum BY PROGRAM (the guide's laid-datum.mjs) off the statement by which the dump's own 'gosem.cut.vars' lays the variable. In a bare row this is a premise. The card (YtkjnifipepiahaaDoorCards.lean) ties it to the program's text. -/
def laid_corbel_group_lowest {H : Type} : DataW H := .agg [.lit (.int .i64 4), .lit (.int .i64 0), .lit (.int .i64 1), .lit (.int .i64 0), .lit (.int .i64 2), .lit (.int .i64 0), .lit (.int .i64 1), .lit (.int .i64 0), .lit (.int .i64 3), .lit (.int .i64 0), .lit (.int .i64 1), .lit (.int .i64 0), .lit (.int .i64 2), .lit (.int .i64 0), .lit (.int .i64 1), .lit (.int .i64 0)]

/-- 'corbellaw05.SwissActs': WHATEVER THE INPUT: true; the input reads as it did. -/
def swissActsSpec : ChangeSpec := { name := "swissActs", fn := fun _ => fun
  | [d1, d2, d3] => { results := [.lit (.bool true)], args := [d1, d2, d3] }
  | _ => none }
def swissActsRow : OpenClaim := { program := "ytkjnifipepiahaadoor", sum := "1bd415b018282211eeace1eebffe6ec15ca895606680452d8ba7c8bc1337eaa8", func := "corbel/corbellaw05.SwissActs", spec := "swissActs", unfollowed := true, recurses := true, named := ["corbel/group.lowest"], apart := false, laid := [("corbel/group.lowest", laid_corbel_group_lowest)] }
def SwissActsSaid : Prop := swissActsRow.holds Tryd.pinned (OpenSpec.ofChange swissActsSpec)

/-- ITS FALSE NEIGHBOUR: 'it returns false'. Refute it at one input. -/
def swissActsWrong : ChangeSpec := { name := "swissActs", fn := fun _ => fun
  | [d1, d2, d3] => { results := [.lit (.bool false)], args := [d1, d2, d3] }
  | _ => none }
def SwissActsWrongFalsely : Prop := swissActsRow.holds Tryd.pinned (OpenSpec.ofChange swissActsWrong)

/-- 'corbellaw05.SwissMaps': WHATEVER THE INPUT: true; the input reads as it did. -/
def swissMapsSpec : ChangeSpec := { name := "swissMaps", fn := fun _ => fun
  | [d1, d2, d3] => { results := [.lit (.bool true)], args := [d1, d2, d3] }
  | _ => none }
def swissMapsRow : OpenClaim := { program := "ytkjnifipepiahaadoor", sum := "1bd415b018282211eeace1eebffe6ec15ca895606680452d8ba7c8bc1337eaa8", func := "corbel/corbellaw05.SwissMaps", spec := "swissMaps", unfollowed := true, recurses := true, named := ["corbel/group.lowest"], apart := false, laid := [("corbel/group.lowest", laid_corbel_group_lowest)] }
def SwissMapsSaid : Prop := swissMapsRow.holds Tryd.pinned (OpenSpec.ofChange swissMapsSpec)

/-- ITS FALSE NEIGHBOUR: 'it returns false'. Refute it at one input. -/
def swissMapsWrong : ChangeSpec := { name := "swissMaps", fn := fun _ => fun
  | [d1, d2, d3] => { results := [.lit (.bool false)], args := [d1, d2, d3] }
  | _ => none }
def SwissMapsWrongFalsely : Prop := swissMapsRow.holds Tryd.pinned (OpenSpec.ofChange swissMapsWrong)

/-- 'corbellaw05.SwissBounds': WHATEVER THE INPUT: true; the input reads as it did. -/
def swissBoundsSpec : ChangeSpec := { name := "swissBounds", fn := fun _ => fun
  | [d1, d2] => { results := [.lit (.bool true)], args := [d1, d2] }
  | _ => none }
def swissBoundsRow : OpenClaim := { program := "ytkjnifipepiahaadoor", sum := "1bd415b018282211eeace1eebffe6ec15ca895606680452d8ba7c8bc1337eaa8", func := "corbel/corbellaw05.SwissBounds", spec := "swissBounds", unfollowed := true, recurses := true, named := ["corbel/group.lowest"], apart := false, laid := [("corbel/group.lowest", laid_corbel_group_lowest)] }
def SwissBoundsSaid : Prop := swissBoundsRow.holds Tryd.pinned (OpenSpec.ofChange swissBoundsSpec)

/-- ITS FALSE NEIGHBOUR: 'it returns false'. Refute it at one input. -/
def swissBoundsWrong : ChangeSpec := { name := "swissBounds", fn := fun _ => fun
  | [d1, d2] => { results := [.lit (.bool false)], args := [d1, d2] }
  | _ => none }
def SwissBoundsWrongFalsely : Prop := swissBoundsRow.holds Tryd.pinned (OpenSpec.ofChange swissBoundsWrong)

/-- 'corbellaw05.SwissCopies': WHATEVER THE INPUT: true; the input reads as it did. -/
def swissCopiesSpec : ChangeSpec := { name := "swissCopies", fn := fun _ => fun
  | [d1, d2, d3] => { results := [.lit (.bool true)], args := [d1, d2, d3] }
  | _ => none }
def swissCopiesRow : OpenClaim := { program := "ytkjnifipepiahaadoor", sum := "1bd415b018282211eeace1eebffe6ec15ca895606680452d8ba7c8bc1337eaa8", func := "corbel/corbellaw05.SwissCopies", spec := "swissCopies", unfollowed := true, recurses := true, named := ["corbel/group.lowest"], apart := false, laid := [("corbel/group.lowest", laid_corbel_group_lowest)] }
def SwissCopiesSaid : Prop := swissCopiesRow.holds Tryd.pinned (OpenSpec.ofChange swissCopiesSpec)

/-- ITS FALSE NEIGHBOUR: 'it returns false'. Refute it at one input. -/
def swissCopiesWrong : ChangeSpec := { name := "swissCopies", fn := fun _ => fun
  | [d1, d2, d3] => { results := [.lit (.bool false)], args := [d1, d2, d3] }
  | _ => none }
def SwissCopiesWrongFalsely : Prop := swissCopiesRow.holds Tryd.pinned (OpenSpec.ofChange swissCopiesWrong)

/-- 'corbellaw05.SwissNone': WHATEVER THE INPUT: true; the input reads as it did. -/
def swissNoneSpec : ChangeSpec := { name := "swissNone", fn := fun _ => fun
  | [d] => { results := [.lit (.bool true)], args := [d] }
  | _ => none }
def swissNoneRow : OpenClaim := { program := "ytkjnifipepiahaadoor", sum := "1bd415b018282211eeace1eebffe6ec15ca895606680452d8ba7c8bc1337eaa8", func := "corbel/corbellaw05.SwissNone", spec := "swissNone", unfollowed := true, recurses := true, named := ["corbel/group.lowest"], apart := false, laid := [("corbel/group.lowest", laid_corbel_group_lowest)] }
def SwissNoneSaid : Prop := swissNoneRow.holds Tryd.pinned (OpenSpec.ofChange swissNoneSpec)

/-- ITS FALSE NEIGHBOUR: 'it returns false'. Refute it at one input. -/
def swissNoneWrong : ChangeSpec := { name := "swissNone", fn := fun _ => fun
  | [d] => { results := [.lit (.bool false)], args := [d] }
  | _ => none }
def SwissNoneWrongFalsely : Prop := swissNoneRow.holds Tryd.pinned (OpenSpec.ofChange swissNoneWrong)

/-- 'corbellaw05.SwissGrows': WHATEVER THE INPUT: true; the input reads as it did. -/
def swissGrowsSpec : ChangeSpec := { name := "swissGrows", fn := fun _ => fun
  | [d1, d2] => { results := [.lit (.bool true)], args := [d1, d2] }
  | _ => none }
def swissGrowsRow : OpenClaim := { program := "ytkjnifipepiahaadoor", sum := "1bd415b018282211eeace1eebffe6ec15ca895606680452d8ba7c8bc1337eaa8", func := "corbel/corbellaw05.SwissGrows", spec := "swissGrows", unfollowed := true, recurses := true, named := ["corbel/group.lowest"], apart := false, laid := [("corbel/group.lowest", laid_corbel_group_lowest)] }
def SwissGrowsSaid : Prop := swissGrowsRow.holds Tryd.pinned (OpenSpec.ofChange swissGrowsSpec)

/-- ITS FALSE NEIGHBOUR: 'it returns false'. Refute it at one input. -/
def swissGrowsWrong : ChangeSpec := { name := "swissGrows", fn := fun _ => fun
  | [d1, d2] => { results := [.lit (.bool false)], args := [d1, d2] }
  | _ => none }
def SwissGrowsWrongFalsely : Prop := swissGrowsRow.holds Tryd.pinned (OpenSpec.ofChange swissGrowsWrong)

/- THE SECOND FORM. 'bulk': how many values and letters a reading holds, each counted each time it is reached (what is shared counts as often as it is met; a slice's spare places count too). A statement '..UptoSaid' is the law's where the arguments, and the package variables that the reading takes, are together of bulk at most 1048576: NARROWER than '..Said'. Prove '..Said' where nothing that the law and all that it calls make is longer than what came in: it says more and counts as full. Else prove '..UptoSaid'. A law counts once. -/
mutual
def uptoBulk {H : Type} : DataW H → Nat
  | .lit (.string bytes) => bytes.length + 1
  | .lit _ => 1
  | .nil => 1
  | .ptr d => uptoBulk d + 1
  | .slice elems spare => uptoBulkAll elems + uptoBulkAll spare + 1
  | .agg parts => uptoBulkAll parts + 1
  | .iface _ d => uptoBulk d + 1
  | .map entries => uptoBulkEntries entries + 1
  | .held _ => 1
def uptoBulkAll {H : Type} : List (DataW H) → Nat
  | [] => 0
  | d :: r => uptoBulk d + uptoBulkAll r
def uptoBulkEntries {H : Type} : List (Lit × DataW H) → Nat
  | [] => 0
  | x :: r => uptoBulkEntry x + uptoBulkEntries r
def uptoBulkEntry {H : Type} : Lit × DataW H → Nat
  | (.string bytes, d) => bytes.length + uptoBulk d + 1
  | (_, d) => uptoBulk d + 1
 end
def uptoSmall : (H : Type) → List (DataW H) → Bool := fun _ ds => decide (uptoBulkAll ds ≤ 1048576)
def OpenSpec.upto (s : _root_.Go.ChangeSpec) : _root_.Go.OpenSpec := { _root_.Go.OpenSpec.ofChange s with cond := some uptoSmall }

/-- 'corbellaw05.SwissActs', WHERE WHAT IT READS IS OF BULK AT MOST 1048576: true; the input reads as it did. -/
def swissActsUptoRow : OpenClaim := { program := "ytkjnifipepiahaadoor", sum := "1bd415b018282211eeace1eebffe6ec15ca895606680452d8ba7c8bc1337eaa8", func := "corbel/corbellaw05.SwissActs", spec := "swissActs", unfollowed := true, recurses := true, named := ["corbel/group.lowest"], apart := false, laid := [("corbel/group.lowest", laid_corbel_group_lowest)], narrowed := true }
def SwissActsUptoSaid : Prop := swissActsUptoRow.holds Tryd.pinned (OpenSpec.upto swissActsSpec)

/-- 'corbellaw05.SwissMaps', WHERE WHAT IT READS IS OF BULK AT MOST 1048576: true; the input reads as it did. -/
def swissMapsUptoRow : OpenClaim := { program := "ytkjnifipepiahaadoor", sum := "1bd415b018282211eeace1eebffe6ec15ca895606680452d8ba7c8bc1337eaa8", func := "corbel/corbellaw05.SwissMaps", spec := "swissMaps", unfollowed := true, recurses := true, named := ["corbel/group.lowest"], apart := false, laid := [("corbel/group.lowest", laid_corbel_group_lowest)], narrowed := true }
def SwissMapsUptoSaid : Prop := swissMapsUptoRow.holds Tryd.pinned (OpenSpec.upto swissMapsSpec)

/-- 'corbellaw05.SwissBounds', WHERE WHAT IT READS IS OF BULK AT MOST 1048576: true; the input reads as it did. -/
def swissBoundsUptoRow : OpenClaim := { program := "ytkjnifipepiahaadoor", sum := "1bd415b018282211eeace1eebffe6ec15ca895606680452d8ba7c8bc1337eaa8", func := "corbel/corbellaw05.SwissBounds", spec := "swissBounds", unfollowed := true, recurses := true, named := ["corbel/group.lowest"], apart := false, laid := [("corbel/group.lowest", laid_corbel_group_lowest)], narrowed := true }
def SwissBoundsUptoSaid : Prop := swissBoundsUptoRow.holds Tryd.pinned (OpenSpec.upto swissBoundsSpec)

/-- 'corbellaw05.SwissCopies', WHERE WHAT IT READS IS OF BULK AT MOST 1048576: true; the input reads as it did. -/
def swissCopiesUptoRow : OpenClaim := { program := "ytkjnifipepiahaadoor", sum := "1bd415b018282211eeace1eebffe6ec15ca895606680452d8ba7c8bc1337eaa8", func := "corbel/corbellaw05.SwissCopies", spec := "swissCopies", unfollowed := true, recurses := true, named := ["corbel/group.lowest"], apart := false, laid := [("corbel/group.lowest", laid_corbel_group_lowest)], narrowed := true }
def SwissCopiesUptoSaid : Prop := swissCopiesUptoRow.holds Tryd.pinned (OpenSpec.upto swissCopiesSpec)

/-- 'corbellaw05.SwissNone', WHERE WHAT IT READS IS OF BULK AT MOST 1048576: true; the input reads as it did. -/
def swissNoneUptoRow : OpenClaim := { program := "ytkjnifipepiahaadoor", sum := "1bd415b018282211eeace1eebffe6ec15ca895606680452d8ba7c8bc1337eaa8", func := "corbel/corbellaw05.SwissNone", spec := "swissNone", unfollowed := true, recurses := true, named := ["corbel/group.lowest"], apart := false, laid := [("corbel/group.lowest", laid_corbel_group_lowest)], narrowed := true }
def SwissNoneUptoSaid : Prop := swissNoneUptoRow.holds Tryd.pinned (OpenSpec.upto swissNoneSpec)

/-- 'corbellaw05.SwissGrows', WHERE WHAT IT READS IS OF BULK AT MOST 1048576: true; the input reads as it did. -/
def swissGrowsUptoRow : OpenClaim := { program := "ytkjnifipepiahaadoor", sum := "1bd415b018282211eeace1eebffe6ec15ca895606680452d8ba7c8bc1337eaa8", func := "corbel/corbellaw05.SwissGrows", spec := "swissGrows", unfollowed := true, recurses := true, named := ["corbel/group.lowest"], apart := false, laid := [("corbel/group.lowest", laid_corbel_group_lowest)], narrowed := true }
def SwissGrowsUptoSaid : Prop := swissGrowsUptoRow.holds Tryd.pinned (OpenSpec.upto swissGrowsSpec)

end Rows
end Go.Proofs.YtkjnifipepiahaaDoor
