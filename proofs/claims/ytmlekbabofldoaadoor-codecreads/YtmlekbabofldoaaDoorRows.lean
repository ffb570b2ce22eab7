/-
  NARROWER THAN 'FOR EVERY INPUT', by the rows' own cells (each row's printed sentence says how): CodecFrames: laid · CodecNumbers: laid · CodecTexts: laid · CodecReads: laid · CodecNone: laid · CodecBack: laid.
  DERIVED. THE GIVEN ROWS OF THIS SEAT. 6 by the template 'for every input the law returns true; each argument reads behind the call as it read before'; 0 by the template 'total and deterministic' (their statements: YtmlekbabofldoaaDoorTotals.lean).
  GIVEN WITH THE SEED: the statements are not yours to turn. If you find one false, say at which input.
  Laid BY PROGRAM, IN A SANDBOX (cutbox-rows.mjs): the forced cells as the released guide's own fill.sh prints them over the translation 426deb13d285b546… (all of the seat's roots in one cut). By AI agents, Wed Nov 11 2026. No macro, syntax, notation, axiom, sorry.
-/
import Derived.Test.YtmlekbabofldoaaDoorChecked
import GoSem.Claim
import GoSem.ClaimJoined
import GoSem.ClaimMapViews
import Derived.JoinedTies
import Derived.KernelRfl
namespace Go.Proofs.YtmlekbabofldoaaDoor
/- THE CELL 'sum', in the pinned program and in every row, IS THE sha256 OF THE DUMP (.gsa) THAT YtmlekbabofldoaaDoorProg.lean LOADS. Nothing in Lean hashes anything: it is a label: what it is worth is what the hold of that sum in a sandbox is worth. -/
noncomputable def Tryd.pinned : Pinned := { name := "ytmlekbabofldoaadoor", sum := "426deb13d285b546127df4458d85917344e04789bf7db7430c9e75be8e5630c7", checked := Tryd.checked }
namespace Rows
def none {H : Type} : Left H := { results := [], args := [] }

/- WHAT THE LISTED PACKAGE-LEVEL VARIABLES READ AS WHEN THE CALL BEGINS. Each datum BY PROGRAM (the guide's laid-datum.mjs) off the statement by which the dump's own 'gosem.cut.vars' lays the variable. In a bare row this is a premise. The card (YtmlekbabofldoaaDoorCards.lean) ties it to the program's text. -/
def laid_corbel_codec_nibbles {H : Type} : DataW H := .agg [.lit (.int .u32 0), .lit (.int .u32 274646895), .lit (.int .u32 549293790), .lit (.int .u32 820201905), .lit (.int .u32 1098587580), .lit (.int .u32 1361435347), .lit (.int .u32 1640403810), .lit (.int .u32 1905808397), .lit (.int .u32 2197175160), .lit (.int .u32 2460548119), .lit (.int .u32 2722870694), .lit (.int .u32 2987750089), .lit (.int .u32 3280807620), .lit (.int .u32 3553878443), .lit (.int .u32 3811616794), .lit (.int .u32 4084100981)]

/-- 'corbellaw01.CodecFrames': WHATEVER THE INPUT: true; the input reads as it did. -/
def codecFramesSpec : ChangeSpec := { name := "codecFrames", fn := fun _ => fun
  | [d] => { results := [.lit (.bool true)], args := [d] }
  | _ => none }
def codecFramesRow : OpenClaim := { program := "ytmlekbabofldoaadoor", sum := "426deb13d285b546127df4458d85917344e04789bf7db7430c9e75be8e5630c7", func := "corbel/corbellaw01.CodecFrames", spec := "codecFrames", named := ["corbel/codec.nibbles"], apart := false, laid := [("corbel/codec.nibbles", laid_corbel_codec_nibbles)] }
def CodecFramesSaid : Prop := codecFramesRow.holds Tryd.pinned (OpenSpec.ofChange codecFramesSpec)

/-- ITS FALSE NEIGHBOUR: 'it returns false'. Refute it at one input. -/
def codecFramesWrong : ChangeSpec := { name := "codecFrames", fn := fun _ => fun
  | [d] => { results := [.lit (.bool false)], args := [d] }
  | _ => none }
def CodecFramesWrongFalsely : Prop := codecFramesRow.holds Tryd.pinned (OpenSpec.ofChange codecFramesWrong)

/-- 'corbellaw01.CodecNumbers': WHATEVER THE INPUT: true; the input reads as it did. -/
def codecNumbersSpec : ChangeSpec := { name := "codecNumbers", fn := fun _ => fun
  | [d1, d2, d3] => { results := [.lit (.bool true)], args := [d1, d2, d3] }
  | _ => none }
def codecNumbersRow : OpenClaim := { program := "ytmlekbabofldoaadoor", sum := "426deb13d285b546127df4458d85917344e04789bf7db7430c9e75be8e5630c7", func := "corbel/corbellaw01.CodecNumbers", spec := "codecNumbers", named := ["corbel/codec.nibbles"], apart := false, laid := [("corbel/codec.nibbles", laid_corbel_codec_nibbles)] }
def CodecNumbersSaid : Prop := codecNumbersRow.holds Tryd.pinned (OpenSpec.ofChange codecNumbersSpec)

/-- ITS FALSE NEIGHBOUR: 'it returns false'. Refute it at one input. -/
def codecNumbersWrong : ChangeSpec := { name := "codecNumbers", fn := fun _ => fun
  | [d1, d2, d3] => { results := [.lit (.bool false)], args := [d1, d2, d3] }
  | _ => none }
def CodecNumbersWrongFalsely : Prop := codecNumbersRow.holds Tryd.pinned (OpenSpec.ofChange codecNumbersWrong)

/-- 'corbellaw01.CodecTexts': WHATEVER THE INPUT: true; the input reads as it did. -/
def codecTextsSpec : ChangeSpec := { name := "codecTexts", fn := fun _ => fun
  | [d1, d2, d3] => { results := [.lit (.bool true)], args := [d1, d2, d3] }
  | _ => none }
def codecTextsRow : OpenClaim := { program := "ytmlekbabofldoaadoor", sum := "426deb13d285b546127df4458d85917344e04789bf7db7430c9e75be8e5630c7", func := "corbel/corbellaw01.CodecTexts", spec := "codecTexts", named := ["corbel/codec.nibbles"], apart := false, laid := [("corbel/codec.nibbles", laid_corbel_codec_nibbles)] }
def CodecTextsSaid : Prop := codecTextsRow.holds Tryd.pinned (OpenSpec.ofChange codecTextsSpec)

/-- ITS FALSE NEIGHBOUR: 'it returns false'. Refute it at one input. -/
def codecTextsWrong : ChangeSpec := { name := "codecTexts", fn := fun _ => fun
  | [d1, d2, d3] => { results := [.lit (.bool false)], args := [d1, d2, d3] }
  | _ => none }
def CodecTextsWrongFalsely : Prop := codecTextsRow.holds Tryd.pinned (OpenSpec.ofChange codecTextsWrong)

/-- 'corbellaw01.CodecReads': WHATEVER THE INPUT: true; the input reads as it did. -/
def codecReadsSpec : ChangeSpec := { name := "codecReads", fn := fun _ => fun
  | [d1, d2] => { results := [.lit (.bool true)], args := [d1, d2] }
  | _ => none }
def codecReadsRow : OpenClaim := { program := "ytmlekbabofldoaadoor", sum := "426deb13d285b546127df4458d85917344e04789bf7db7430c9e75be8e5630c7", func := "corbel/corbellaw01.CodecReads", spec := "codecReads", unfollowed := true, recurses := true, named := ["corbel/codec.nibbles"], apart := false, laid := [("corbel/codec.nibbles", laid_corbel_codec_nibbles)] }
def CodecReadsSaid : Prop := codecReadsRow.holds Tryd.pinned (OpenSpec.ofChange codecReadsSpec)

/-- ITS FALSE NEIGHBOUR: 'it returns false'. Refute it at one input. -/
def codecReadsWrong : ChangeSpec := { name := "codecReads", fn := fun _ => fun
  | [d1, d2] => { results := [.lit (.bool false)], args := [d1, d2] }
  | _ => none }
def CodecReadsWrongFalsely : Prop := codecReadsRow.holds Tryd.pinned (OpenSpec.ofChange codecReadsWrong)

/-- 'corbellaw01.CodecNone': WHATEVER THE INPUT: true; the input reads as it did. -/
def codecNoneSpec : ChangeSpec := { name := "codecNone", fn := fun _ => fun
  | [d] => { results := [.lit (.bool true)], args := [d] }
  | _ => none }
def codecNoneRow : OpenClaim := { program := "ytmlekbabofldoaadoor", sum := "426deb13d285b546127df4458d85917344e04789bf7db7430c9e75be8e5630c7", func := "corbel/corbellaw01.CodecNone", spec := "codecNone", unfollowed := true, recurses := true, named := ["corbel/codec.nibbles"], apart := false, laid := [("corbel/codec.nibbles", laid_corbel_codec_nibbles)] }
def CodecNoneSaid : Prop := codecNoneRow.holds Tryd.pinned (OpenSpec.ofChange codecNoneSpec)

/-- ITS FALSE NEIGHBOUR: 'it returns false'. Refute it at one input. -/
def codecNoneWrong : ChangeSpec := { name := "codecNone", fn := fun _ => fun
  | [d] => { results := [.lit (.bool false)], args := [d] }
  | _ => none }
def CodecNoneWrongFalsely : Prop := codecNoneRow.holds Tryd.pinned (OpenSpec.ofChange codecNoneWrong)

/-- 'corbellaw01.CodecBack': WHATEVER THE INPUT: true; the input reads as it did. -/
def codecBackSpec : ChangeSpec := { name := "codecBack", fn := fun _ => fun
  | [d1, d2, d3] => { results := [.lit (.bool true)], args := [d1, d2, d3] }
  | _ => none }
def codecBackRow : OpenClaim := { program := "ytmlekbabofldoaadoor", sum := "426deb13d285b546127df4458d85917344e04789bf7db7430c9e75be8e5630c7", func := "corbel/corbellaw01.CodecBack", spec := "codecBack", unfollowed := true, recurses := true, named := ["corbel/codec.nibbles"], apart := false, laid := [("corbel/codec.nibbles", laid_corbel_codec_nibbles)] }
def CodecBackSaid : Prop := codecBackRow.holds Tryd.pinned (OpenSpec.ofChange codecBackSpec)

/-- ITS FALSE NEIGHBOUR: 'it returns false'. Refute it at one input. -/
def codecBackWrong : ChangeSpec := { name := "codecBack", fn := fun _ => fun
  | [d1, d2, d3] => { results := [.lit (.bool false)], args := [d1, d2, d3] }
  | _ => none }
def CodecBackWrongFalsely : Prop := codecBackRow.holds Tryd.pinned (OpenSpec.ofChange codecBackWrong)

/- THE SECOND FORM. 'bulk': how many values and letters a reading holds, each counted each time it is reached (what is shared counts as often as it is met; a slice's spare places count too). A statement '..UptoSaid' is the law's where the arguments, and the package variables that the reading takes, are together of bulk at most 1048576: NARROWER than '..Said'. Prove '..Said' where nothing that the law and all that it calls make is longer than what came in: it says more and counts as full. Else prove '..UptoSaid'. A law counts once. -/
mutual
def uptoBulk {H : Type} : DataW H → Nat
  | .lit (.string bytes) => bytes.length + 1
  | .lit _ => 1
  | .nil => 1
  | .ptr d => uptoBulk d + 1
  | .slice elems spare => uptoBulkAll elems + uptoBulkAll spare + 1
  | .agg parts => uptoBulkAll parts + 1
  | .iface _ d => uptoBulk d + 1
  | .map entries => uptoBulkEntries entries + 1
  | .held _ => 1
def uptoBulkAll {H : Type} : List (DataW H) → Nat
  | [] => 0
  | d :: r => uptoBulk d + uptoBulkAll r
def uptoBulkEntries {H : Type} : List (Lit × DataW H) → Nat
  | [] => 0
  | x :: r => uptoBulkEntry x + uptoBulkEntries r
def uptoBulkEntry {H : Type} : Lit × DataW H → Nat
  | (.string bytes, d) => bytes.length + uptoBulk d + 1
  | (_, d) => uptoBulk d + 1
 end
def uptoSmall : (H : Type) → List (DataW H) → Bool := fun _ ds => decide (uptoBulkAll ds ≤ 1048576)
def OpenSpec.upto (s : _root_.Go.ChangeSpec) : _root_.Go.OpenSpec := { _root_.Go.OpenSpec.ofChange s with cond := some uptoSmall }

/-- 'corbellaw01.CodecFrames', WHERE WHAT IT READS IS OF BULK AT MOST 1048576: true; the input reads as it did. -/
def codecFramesUptoRow : OpenClaim := { program := "ytmlekbabofldoaadoor", sum := "426deb13d285b546127df4458d85917344e04789bf7db7430c9e75be8e5630c7", func := "corbel/corbellaw01.CodecFrames", spec := "codecFrames", named := ["corbel/codec.nibbles"], apart := false, laid := [("corbel/codec.nibbles", laid_corbel_codec_nibbles)], narrowed := true }
def CodecFramesUptoSaid : Prop := codecFramesUptoRow.holds Tryd.pinned (OpenSpec.upto codecFramesSpec)

/-- 'corbellaw01.CodecNumbers', WHERE WHAT IT READS IS OF BULK AT MOST 1048576: true; the input reads as it did. -/
def codecNumbersUptoRow : OpenClaim := { program := "ytmlekbabofldoaadoor", sum := "426deb13d285b546127df4458d85917344e04789bf7db7430c9e75be8e5630c7", func := "corbel/corbellaw01.CodecNumbers", spec := "codecNumbers", named := ["corbel/codec.nibbles"], apart := false, laid := [("corbel/codec.nibbles", laid_corbel_codec_nibbles)], narrowed := true }
def CodecNumbersUptoSaid : Prop := codecNumbersUptoRow.holds Tryd.pinned (OpenSpec.upto codecNumbersSpec)

/-- 'corbellaw01.CodecTexts', WHERE WHAT IT READS IS OF BULK AT MOST 1048576: true; the input reads as it did. -/
def codecTextsUptoRow : OpenClaim := { program := "ytmlekbabofldoaadoor", sum := "426deb13d285b546127df4458d85917344e04789bf7db7430c9e75be8e5630c7", func := "corbel/corbellaw01.CodecTexts", spec := "codecTexts", named := ["corbel/codec.nibbles"], apart := false, laid := [("corbel/codec.nibbles", laid_corbel_codec_nibbles)], narrowed := true }
def CodecTextsUptoSaid : Prop := codecTextsUptoRow.holds Tryd.pinned (OpenSpec.upto codecTextsSpec)

/-- 'corbellaw01.CodecReads', WHERE WHAT IT READS IS OF BULK AT MOST 1048576: true; the input reads as it did. -/
def codecReadsUptoRow : OpenClaim := { program := "ytmlekbabofldoaadoor", sum := "426deb13d285b546127df4458d85917344e04789bf7db7430c9e75be8e5630c7", func := "corbel/corbellaw01.CodecReads", spec := "codecReads", unfollowed := true, recurses := true, named := ["corbel/codec.nibbles"], apart := false, laid := [("corbel/codec.nibbles", laid_corbel_codec_nibbles)], narrowed := true }
def CodecReadsUptoSaid : Prop := codecReadsUptoRow.holds Tryd.pinned (OpenSpec.upto codecReadsSpec)

/-- 'corbellaw01.CodecNone', WHERE WHAT IT READS IS OF BULK AT MOST 1048576: true; the input reads as it did. -/
def codecNoneUptoRow : OpenClaim := { program := "ytmlekbabofldoaadoor", sum := "426deb13d285b546127df4458d85917344e04789bf7db7430c9e75be8e5630c7", func := "corbel/corbellaw01.CodecNone", spec := "codecNone", unfollowed := true, recurses := true, named := ["corbel/codec.nibbles"], apart := false, laid := [("corbel/codec.nibbles", laid_corbel_codec_nibbles)], narrowed := true }
def CodecNoneUptoSaid : Prop := codecNoneUptoRow.holds Tryd.pinned (OpenSpec.upto codecNoneSpec)

/-- 'corbellaw01.CodecBack', WHERE WHAT IT READS IS OF BULK AT MOST 1048576: true; the input reads as it did. -/
def codecBackUptoRow : OpenClaim := { program := "ytmlekbabofldoaadoor", sum := "426deb13d285b546127df4458d85917344e04789bf7db7430c9e75be8e5630c7", func := "corbel/corbellaw01.CodecBack", spec := "codecBack", unfollowed := true, recurses := true, named := ["corbel/codec.nibbles"], apart := false, laid := [("corbel/codec.nibbles", laid_corbel_codec_nibbles)], narrowed := true }
def CodecBackUptoSaid : Prop := codecBackUptoRow.holds Tryd.pinned (OpenSpec.upto codecBackSpec)

end Rows
end Go.Proofs.YtmlekbabofldoaaDoor
