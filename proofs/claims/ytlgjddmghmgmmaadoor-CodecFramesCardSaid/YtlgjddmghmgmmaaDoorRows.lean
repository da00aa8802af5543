/-
  NARROWER THAN 'FOR EVERY INPUT', by the rows' own cells (each row's printed sentence says how): CodecNumbers: laid · CodecTexts: laid · CodecLists: laid · CodecSums: laid · CodecFrames: laid · CodecBack: laid · CodecForms: laid · CodecApart: laid.
  DERIVED. THE GIVEN ROWS OF THIS SEAT. 8 by the template 'for every input the law returns true; each argument reads behind the call as it read before'; 0 by the template 'total and deterministic' (their statements: YtlgjddmghmgmmaaDoorTotals.lean).
  GIVEN WITH THE SEED: the statements are not yours to turn. If you find one false, say at which input.
  Laid BY PROGRAM, IN A SANDBOX (cutbox-rows.mjs): the forced cells as the released guide's own fill.sh prints them over the translation d3412afe44f33273… (all of the seat's roots in one cut). By AI agents, Wed Nov 11 2026. No macro, syntax, notation, axiom, sorry.
-/
import Derived.Test.YtlgjddmghmgmmaaDoorChecked
import GoSem.Claim
import GoSem.ClaimJoined
import GoSem.ClaimMapViews
import Derived.JoinedTies
import Derived.KernelRfl
namespace Go.Proofs.YtlgjddmghmgmmaaDoor
/- THE CELL 'sum', in the pinned program and in every row, IS THE sha256 OF THE DUMP (.gsa) THAT YtlgjddmghmgmmaaDoorProg.lean LOADS. Nothing in Lean hashes anything: it is a label: what it is worth is what the hold of that sum in a sandbox is worth. -/
noncomputable def Tryd.pinned : Pinned := { name := "ytlgjddmghmgmmaadoor", sum := "d3412afe44f33273dc592015edb9c95b9d79e7e90dc61529aa9c848699187013", checked := Tryd.checked }
namespace Rows
def none {H : Type} : Left H := { results := [], args := [] }

/- WHAT THE LISTED PACKAGE-LEVEL VARIABLES READ AS WHEN THE CALL BEGINS. Each datum BY PROGRAM (the guide's laid-datum.mjs) off the statement by which the dump's own 'gosem.cut.vars' lays the variable. In a bare row this is a premise. The card (YtlgjddmghmgmmaaDoorCards.lean) ties it to the program's text. -/
def laid_skiarea_codec_sumSteps {H : Type} : DataW H := .agg [.lit (.int .u32 0), .lit (.int .u32 274646895), .lit (.int .u32 549293790), .lit (.int .u32 820201905), .lit (.int .u32 1098587580), .lit (.int .u32 1361435347), .lit (.int .u32 1640403810), .lit (.int .u32 1905808397), .lit (.int .u32 2197175160), .lit (.int .u32 2460548119), .lit (.int .u32 2722870694), .lit (.int .u32 2987750089), .lit (.int .u32 3280807620), .lit (.int .u32 3553878443), .lit (.int .u32 3811616794), .lit (.int .u32 4084100981)]

/-- 'skiarealaw03.CodecNumbers': WHATEVER THE INPUT: true; the input reads as it did. -/
def codecNumbersSpec : ChangeSpec := { name := "codecNumbers", fn := fun _ => fun
  | [d1, d2] => { results := [.lit (.bool true)], args := [d1, d2] }
  | _ => none }
def codecNumbersRow : OpenClaim := { program := "ytlgjddmghmgmmaadoor", sum := "d3412afe44f33273dc592015edb9c95b9d79e7e90dc61529aa9c848699187013", func := "skiarea/skiarealaw03.CodecNumbers", spec := "codecNumbers", named := ["skiarea/codec.sumSteps"], apart := false, laid := [("skiarea/codec.sumSteps", laid_skiarea_codec_sumSteps)] }
def CodecNumbersSaid : Prop := codecNumbersRow.holds Tryd.pinned (OpenSpec.ofChange codecNumbersSpec)

/-- ITS FALSE NEIGHBOUR: 'it returns false'. Refute it at one input. -/
def codecNumbersWrong : ChangeSpec := { name := "codecNumbers", fn := fun _ => fun
  | [d1, d2] => { results := [.lit (.bool false)], args := [d1, d2] }
  | _ => none }
def CodecNumbersWrongFalsely : Prop := codecNumbersRow.holds Tryd.pinned (OpenSpec.ofChange codecNumbersWrong)

/-- 'skiarealaw03.CodecTexts': WHATEVER THE INPUT: true; the input reads as it did. -/
def codecTextsSpec : ChangeSpec := { name := "codecTexts", fn := fun _ => fun
  | [d1, d2] => { results := [.lit (.bool true)], args := [d1, d2] }
  | _ => none }
def codecTextsRow : OpenClaim := { program := "ytlgjddmghmgmmaadoor", sum := "d3412afe44f33273dc592015edb9c95b9d79e7e90dc61529aa9c848699187013", func := "skiarea/skiarealaw03.CodecTexts", spec := "codecTexts", named := ["skiarea/codec.sumSteps"], apart := false, laid := [("skiarea/codec.sumSteps", laid_skiarea_codec_sumSteps)] }
def CodecTextsSaid : Prop := codecTextsRow.holds Tryd.pinned (OpenSpec.ofChange codecTextsSpec)

/-- ITS FALSE NEIGHBOUR: 'it returns false'. Refute it at one input. -/
def codecTextsWrong : ChangeSpec := { name := "codecTexts", fn := fun _ => fun
  | [d1, d2] => { results := [.lit (.bool false)], args := [d1, d2] }
  | _ => none }
def CodecTextsWrongFalsely : Prop := codecTextsRow.holds Tryd.pinned (OpenSpec.ofChange codecTextsWrong)

/-- 'skiarealaw03.CodecLists': WHATEVER THE INPUT: true; the input reads as it did. -/
def codecListsSpec : ChangeSpec := { name := "codecLists", fn := fun _ => fun
  | [d1, d2] => { results := [.lit (.bool true)], args := [d1, d2] }
  | _ => none }
def codecListsRow : OpenClaim := { program := "ytlgjddmghmgmmaadoor", sum := "d3412afe44f33273dc592015edb9c95b9d79e7e90dc61529aa9c848699187013", func := "skiarea/skiarealaw03.CodecLists", spec := "codecLists", named := ["skiarea/codec.sumSteps"], apart := false, laid := [("skiarea/codec.sumSteps", laid_skiarea_codec_sumSteps)] }
def CodecListsSaid : Prop := codecListsRow.holds Tryd.pinned (OpenSpec.ofChange codecListsSpec)

/-- ITS FALSE NEIGHBOUR: 'it returns false'. Refute it at one input. -/
def codecListsWrong : ChangeSpec := { name := "codecLists", fn := fun _ => fun
  | [d1, d2] => { results := [.lit (.bool false)], args := [d1, d2] }
  | _ => none }
def CodecListsWrongFalsely : Prop := codecListsRow.holds Tryd.pinned (OpenSpec.ofChange codecListsWrong)

/-- 'skiarealaw03.CodecSums': WHATEVER THE INPUT: true; the input reads as it did. -/
def codecSumsSpec : ChangeSpec := { name := "codecSums", fn := fun _ => fun
  | [d] => { results := [.lit (.bool true)], args := [d] }
  | _ => none }
def codecSumsRow : OpenClaim := { program := "ytlgjddmghmgmmaadoor", sum := "d3412afe44f33273dc592015edb9c95b9d79e7e90dc61529aa9c848699187013", func := "skiarea/skiarealaw03.CodecSums", spec := "codecSums", named := ["skiarea/codec.sumSteps"], apart := false, laid := [("skiarea/codec.sumSteps", laid_skiarea_codec_sumSteps)] }
def CodecSumsSaid : Prop := codecSumsRow.holds Tryd.pinned (OpenSpec.ofChange codecSumsSpec)

/-- ITS FALSE NEIGHBOUR: 'it returns false'. Refute it at one input. -/
def codecSumsWrong : ChangeSpec := { name := "codecSums", fn := fun _ => fun
  | [d] => { results := [.lit (.bool false)], args := [d] }
  | _ => none }
def CodecSumsWrongFalsely : Prop := codecSumsRow.holds Tryd.pinned (OpenSpec.ofChange codecSumsWrong)

/-- 'skiarealaw03.CodecFrames': WHATEVER THE INPUT: true; the input reads as it did. -/
def codecFramesSpec : ChangeSpec := { name := "codecFrames", fn := fun _ => fun
  | [d] => { results := [.lit (.bool true)], args := [d] }
  | _ => none }
def codecFramesRow : OpenClaim := { program := "ytlgjddmghmgmmaadoor", sum := "d3412afe44f33273dc592015edb9c95b9d79e7e90dc61529aa9c848699187013", func := "skiarea/skiarealaw03.CodecFrames", spec := "codecFrames", named := ["skiarea/codec.sumSteps"], apart := false, laid := [("skiarea/codec.sumSteps", laid_skiarea_codec_sumSteps)] }
def CodecFramesSaid : Prop := codecFramesRow.holds Tryd.pinned (OpenSpec.ofChange codecFramesSpec)

/-- ITS FALSE NEIGHBOUR: 'it returns false'. Refute it at one input. -/
def codecFramesWrong : ChangeSpec := { name := "codecFrames", fn := fun _ => fun
  | [d] => { results := [.lit (.bool false)], args := [d] }
  | _ => none }
def CodecFramesWrongFalsely : Prop := codecFramesRow.holds Tryd.pinned (OpenSpec.ofChange codecFramesWrong)

/-- 'skiarealaw03.CodecBack': WHATEVER THE INPUT: true; the input reads as it did. -/
def codecBackSpec : ChangeSpec := { name := "codecBack", fn := fun _ => fun
  | [d] => { results := [.lit (.bool true)], args := [d] }
  | _ => none }
def codecBackRow : OpenClaim := { program := "ytlgjddmghmgmmaadoor", sum := "d3412afe44f33273dc592015edb9c95b9d79e7e90dc61529aa9c848699187013", func := "skiarea/skiarealaw03.CodecBack", spec := "codecBack", named := ["skiarea/codec.sumSteps"], apart := false, laid := [("skiarea/codec.sumSteps", laid_skiarea_codec_sumSteps)] }
def CodecBackSaid : Prop := codecBackRow.holds Tryd.pinned (OpenSpec.ofChange codecBackSpec)

/-- ITS FALSE NEIGHBOUR: 'it returns false'. Refute it at one input. -/
def codecBackWrong : ChangeSpec := { name := "codecBack", fn := fun _ => fun
  | [d] => { results := [.lit (.bool false)], args := [d] }
  | _ => none }
def CodecBackWrongFalsely : Prop := codecBackRow.holds Tryd.pinned (OpenSpec.ofChange codecBackWrong)

/-- 'skiarealaw03.CodecForms': WHATEVER THE INPUT: true; the input reads as it did. -/
def codecFormsSpec : ChangeSpec := { name := "codecForms", fn := fun _ => fun
  | [d] => { results := [.lit (.bool true)], args := [d] }
  | _ => none }
def codecFormsRow : OpenClaim := { program := "ytlgjddmghmgmmaadoor", sum := "d3412afe44f33273dc592015edb9c95b9d79e7e90dc61529aa9c848699187013", func := "skiarea/skiarealaw03.CodecForms", spec := "codecForms", named := ["skiarea/codec.sumSteps"], apart := false, laid := [("skiarea/codec.sumSteps", laid_skiarea_codec_sumSteps)] }
def CodecFormsSaid : Prop := codecFormsRow.holds Tryd.pinned (OpenSpec.ofChange codecFormsSpec)

/-- ITS FALSE NEIGHBOUR: 'it returns false'. Refute it at one input. -/
def codecFormsWrong : ChangeSpec := { name := "codecForms", fn := fun _ => fun
  | [d] => { results := [.lit (.bool false)], args := [d] }
  | _ => none }
def CodecFormsWrongFalsely : Prop := codecFormsRow.holds Tryd.pinned (OpenSpec.ofChange codecFormsWrong)

/-- 'skiarealaw03.CodecApart': WHATEVER THE INPUT: true; the input reads as it did. -/
def codecApartSpec : ChangeSpec := { name := "codecApart", fn := fun _ => fun
  | [d1, d2, d3] => { results := [.lit (.bool true)], args := [d1, d2, d3] }
  | _ => none }
def codecApartRow : OpenClaim := { program := "ytlgjddmghmgmmaadoor", sum := "d3412afe44f33273dc592015edb9c95b9d79e7e90dc61529aa9c848699187013", func := "skiarea/skiarealaw03.CodecApart", spec := "codecApart", named := ["skiarea/codec.sumSteps"], apart := false, laid := [("skiarea/codec.sumSteps", laid_skiarea_codec_sumSteps)] }
def CodecApartSaid : Prop := codecApartRow.holds Tryd.pinned (OpenSpec.ofChange codecApartSpec)

/-- ITS FALSE NEIGHBOUR: 'it returns false'. Refute it at one input. -/
def codecApartWrong : ChangeSpec := { name := "codecApart", fn := fun _ => fun
  | [d1, d2, d3] => { results := [.lit (.bool false)], args := [d1, d2, d3] }
  | _ => none }
def CodecApartWrongFalsely : Prop := codecApartRow.holds Tryd.pinned (OpenSpec.ofChange codecApartWrong)

/- THE SECOND FORM. 'bulk': how many values and letters a reading holds, each counted each time it is reached (what is shared counts as often as it is met; a slice's spare places count too). A statement '..UptoSaid' is the law's where the arguments, and the package variables that the reading takes, are together of bulk at most 1048576: NARROWER than '..Said'. Prove '..Said' where nothing that the law and all that it calls make is longer than what came in: it says more and counts as full. Else prove '..UptoSaid'. A law counts once. -/
mutual
def uptoBulk {H : Type} : DataW H → Nat
  | .lit (.string bytes) => bytes.length + 1
  | .lit _ => 1
  | .nil => 1
  | .ptr d => uptoBulk d + 1
  | .slice elems spare => uptoBulkAll elems + uptoBulkAll spare + 1
  | .agg parts => uptoBulkAll parts + 1
  | .iface _ d => uptoBulk d + 1
  | .map entries => uptoBulkEntries entries + 1
  | .held _ => 1
def uptoBulkAll {H : Type} : List (DataW H) → Nat
  | [] => 0
  | d :: r => uptoBulk d + uptoBulkAll r
def uptoBulkEntries {H : Type} : List (Lit × DataW H) → Nat
  | [] => 0
  | x :: r => uptoBulkEntry x + uptoBulkEntries r
def uptoBulkEntry {H : Type} : Lit × DataW H → Nat
  | (.string bytes, d) => bytes.length + uptoBulk d + 1
  | (_, d) => uptoBulk d + 1
 end
def uptoSmall : (H : Type) → List (DataW H) → Bool := fun _ ds => decide (uptoBulkAll ds ≤ 1048576)
def OpenSpec.upto (s : _root_.Go.ChangeSpec) : _root_.Go.OpenSpec := { _root_.Go.OpenSpec.ofChange s with cond := some uptoSmall }

/-- 'skiarealaw03.CodecNumbers', WHERE WHAT IT READS IS OF BULK AT MOST 1048576: true; the input reads as it did. -/
def codecNumbersUptoRow : OpenClaim := { program := "ytlgjddmghmgmmaadoor", sum := "d3412afe44f33273dc592015edb9c95b9d79e7e90dc61529aa9c848699187013", func := "skiarea/skiarealaw03.CodecNumbers", spec := "codecNumbers", named := ["skiarea/codec.sumSteps"], apart := false, laid := [("skiarea/codec.sumSteps", laid_skiarea_codec_sumSteps)], narrowed := true }
def CodecNumbersUptoSaid : Prop := codecNumbersUptoRow.holds Tryd.pinned (OpenSpec.upto codecNumbersSpec)

/-- 'skiarealaw03.CodecTexts', WHERE WHAT IT READS IS OF BULK AT MOST 1048576: true; the input reads as it did. -/
def codecTextsUptoRow : OpenClaim := { program := "ytlgjddmghmgmmaadoor", sum := "d3412afe44f33273dc592015edb9c95b9d79e7e90dc61529aa9c848699187013", func := "skiarea/skiarealaw03.CodecTexts", spec := "codecTexts", named := ["skiarea/codec.sumSteps"], apart := false, laid := [("skiarea/codec.sumSteps", laid_skiarea_codec_sumSteps)], narrowed := true }
def CodecTextsUptoSaid : Prop := codecTextsUptoRow.holds Tryd.pinned (OpenSpec.upto codecTextsSpec)

/-- 'skiarealaw03.CodecLists', WHERE WHAT IT READS IS OF BULK AT MOST 1048576: true; the input reads as it did. -/
def codecListsUptoRow : OpenClaim := { program := "ytlgjddmghmgmmaadoor", sum := "d3412afe44f33273dc592015edb9c95b9d79e7e90dc61529aa9c848699187013", func := "skiarea/skiarealaw03.CodecLists", spec := "codecLists", named := ["skiarea/codec.sumSteps"], apart := false, laid := [("skiarea/codec.sumSteps", laid_skiarea_codec_sumSteps)], narrowed := true }
def CodecListsUptoSaid : Prop := codecListsUptoRow.holds Tryd.pinned (OpenSpec.upto codecListsSpec)

/-- 'skiarealaw03.CodecSums', WHERE WHAT IT READS IS OF BULK AT MOST 1048576: true; the input reads as it did. -/
def codecSumsUptoRow : OpenClaim := { program := "ytlgjddmghmgmmaadoor", sum := "d3412afe44f33273dc592015edb9c95b9d79e7e90dc61529aa9c848699187013", func := "skiarea/skiarealaw03.CodecSums", spec := "codecSums", named := ["skiarea/codec.sumSteps"], apart := false, laid := [("skiarea/codec.sumSteps", laid_skiarea_codec_sumSteps)], narrowed := true }
def CodecSumsUptoSaid : Prop := codecSumsUptoRow.holds Tryd.pinned (OpenSpec.upto codecSumsSpec)

/-- 'skiarealaw03.CodecFrames', WHERE WHAT IT READS IS OF BULK AT MOST 1048576: true; the input reads as it did. -/
def codecFramesUptoRow : OpenClaim := { program := "ytlgjddmghmgmmaadoor", sum := "d3412afe44f33273dc592015edb9c95b9d79e7e90dc61529aa9c848699187013", func := "skiarea/skiarealaw03.CodecFrames", spec := "codecFrames", named := ["skiarea/codec.sumSteps"], apart := false, laid := [("skiarea/codec.sumSteps", laid_skiarea_codec_sumSteps)], narrowed := true }
def CodecFramesUptoSaid : Prop := codecFramesUptoRow.holds Tryd.pinned (OpenSpec.upto codecFramesSpec)

/-- 'skiarealaw03.CodecBack', WHERE WHAT IT READS IS OF BULK AT MOST 1048576: true; the input reads as it did. -/
def codecBackUptoRow : OpenClaim := { program := "ytlgjddmghmgmmaadoor", sum := "d3412afe44f33273dc592015edb9c95b9d79e7e90dc61529aa9c848699187013", func := "skiarea/skiarealaw03.CodecBack", spec := "codecBack", named := ["skiarea/codec.sumSteps"], apart := false, laid := [("skiarea/codec.sumSteps", laid_skiarea_codec_sumSteps)], narrowed := true }
def CodecBackUptoSaid : Prop := codecBackUptoRow.holds Tryd.pinned (OpenSpec.upto codecBackSpec)

/-- 'skiarealaw03.CodecForms', WHERE WHAT IT READS IS OF BULK AT MOST 1048576: true; the input reads as it did. -/
def codecFormsUptoRow : OpenClaim := { program := "ytlgjddmghmgmmaadoor", sum := "d3412afe44f33273dc592015edb9c95b9d79e7e90dc61529aa9c848699187013", func := "skiarea/skiarealaw03.CodecForms", spec := "codecForms", named := ["skiarea/codec.sumSteps"], apart := false, laid := [("skiarea/codec.sumSteps", laid_skiarea_codec_sumSteps)], narrowed := true }
def CodecFormsUptoSaid : Prop := codecFormsUptoRow.holds Tryd.pinned (OpenSpec.upto codecFormsSpec)

/-- 'skiarealaw03.CodecApart', WHERE WHAT IT READS IS OF BULK AT MOST 1048576: true; the input reads as it did. -/
def codecApartUptoRow : OpenClaim := { program := "ytlgjddmghmgmmaadoor", sum := "d3412afe44f33273dc592015edb9c95b9d79e7e90dc61529aa9c848699187013", func := "skiarea/skiarealaw03.CodecApart", spec := "codecApart", named := ["skiarea/codec.sumSteps"], apart := false, laid := [("skiarea/codec.sumSteps", laid_skiarea_codec_sumSteps)], narrowed := true }
def CodecApartUptoSaid : Prop := codecApartUptoRow.holds Tryd.pinned (OpenSpec.upto codecApartSpec)

end Rows
end Go.Proofs.YtlgjddmghmgmmaaDoor
