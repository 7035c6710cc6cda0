/-
  NARROWER THAN 'FOR EVERY INPUT', by the rows' own cells (each row's printed sentence says how): InflateReads: laid · InflateCuts: laid · InflateLimits: laid · InflateBack: laid · InflateAlike: laid · DeflateBound: laid · DeflateNumbers: laid.
  DERIVED. THE GIVEN ROWS OF THIS SEAT. 7 by the template 'for every input the law returns true; each argument reads behind the call as it read before'; 0 by the template 'total and deterministic' (their statements: YteajjanjkhhgdaaDoorTotals.lean).
  GIVEN WITH THE SEED: the statements are not yours to turn. If you find one false, say at which input.
  Laid BY PROGRAM, IN A SANDBOX (cutbox-rows.mjs): the forced cells as the released guide's own fill.sh prints them over the translation a2f8cf850c9e7011… (all of the seat's roots in one cut). By AI agents, Wed Nov 11 2026. No macro, syntax, notation, axiom, sorry.
-/
import Derived.Test.YteajjanjkhhgdaaDoorChecked
import GoSem.Claim
import GoSem.ClaimJoined
import GoSem.ClaimMapViews
import Derived.JoinedTies
import Derived.KernelRfl
namespace Go.Proofs.YteajjanjkhhgdaaDoor
/- THE CELL 'sum', in the pinned program and in every row, IS THE sha256 OF THE DUMP (.gsa) THAT YteajjanjkhhgdaaDoorProg.lean LOADS. Nothing in Lean hashes anything: it is a label: what it is worth is what the hold of that sum in a sandbox is worth. -/
noncomputable def Tryd.pinned : Pinned := { name := "yteajjanjkhhgdaadoor", sum := "a2f8cf850c9e70113bee21ae6f4ec3ddcf053259197ba0c7d914d0a9871a0f19", checked := Tryd.checked }
namespace Rows
def none {H : Type} : Left H := { results := [], args := [] }

/- WHAT THE LISTED PACKAGE-LEVEL VARIABLES READ AS WHEN THE CALL BEGINS. Each datum BY PROGRAM (the guide's laid-datum.mjs) off the statement by which the dump's own 'gosem.cut.vars' lays the variable. In a bare row this is a premise. The card (YteajjanjkhhgdaaDoorCards.lean) ties it to the program's text. -/
def laid_peatbank_inflate_lengthBases {H : Type} : DataW H := .agg [.lit (.int .i64 3), .lit (.int .i64 4), .lit (.int .i64 5), .lit (.int .i64 6), .lit (.int .i64 7), .lit (.int .i64 8), .lit (.int .i64 9), .lit (.int .i64 10), .lit (.int .i64 11), .lit (.int .i64 13), .lit (.int .i64 15), .lit (.int .i64 17), .lit (.int .i64 19), .lit (.int .i64 23), .lit (.int .i64 27), .lit (.int .i64 31), .lit (.int .i64 35), .lit (.int .i64 43), .lit (.int .i64 51), .lit (.int .i64 59), .lit (.int .i64 67), .lit (.int .i64 83), .lit (.int .i64 99), .lit (.int .i64 115), .lit (.int .i64 131), .lit (.int .i64 163), .lit (.int .i64 195), .lit (.int .i64 227), .lit (.int .i64 258)]
def laid_peatbank_inflate_lengthBits {H : Type} : DataW H := .agg [.lit (.int .i64 0), .lit (.int .i64 0), .lit (.int .i64 0), .lit (.int .i64 0), .lit (.int .i64 0), .lit (.int .i64 0), .lit (.int .i64 0), .lit (.int .i64 0), .lit (.int .i64 1), .lit (.int .i64 1), .lit (.int .i64 1), .lit (.int .i64 1), .lit (.int .i64 2), .lit (.int .i64 2), .lit (.int .i64 2), .lit (.int .i64 2), .lit (.int .i64 3), .lit (.int .i64 3), .lit (.int .i64 3), .lit (.int .i64 3), .lit (.int .i64 4), .lit (.int .i64 4), .lit (.int .i64 4), .lit (.int .i64 4), .lit (.int .i64 5), .lit (.int .i64 5), .lit (.int .i64 5), .lit (.int .i64 5), .lit (.int .i64 0)]
def laid_peatbank_inflate_distanceBases {H : Type} : DataW H := .agg [.lit (.int .i64 1), .lit (.int .i64 2), .lit (.int .i64 3), .lit (.int .i64 4), .lit (.int .i64 5), .lit (.int .i64 7), .lit (.int .i64 9), .lit (.int .i64 13), .lit (.int .i64 17), .lit (.int .i64 25), .lit (.int .i64 33), .lit (.int .i64 49), .lit (.int .i64 65), .lit (.int .i64 97), .lit (.int .i64 129), .lit (.int .i64 193), .lit (.int .i64 257), .lit (.int .i64 385), .lit (.int .i64 513), .lit (.int .i64 769), .lit (.int .i64 1025), .lit (.int .i64 1537), .lit (.int .i64 2049), .lit (.int .i64 3073), .lit (.int .i64 4097), .lit (.int .i64 6145), .lit (.int .i64 8193), .lit (.int .i64 12289), .lit (.int .i64 16385), .lit (.int .i64 24577)]
def laid_peatbank_inflate_distanceBits {H : Type} : DataW H := .agg [.lit (.int .i64 0), .lit (.int .i64 0), .lit (.int .i64 0), .lit (.int .i64 0), .lit (.int .i64 1), .lit (.int .i64 1), .lit (.int .i64 2), .lit (.int .i64 2), .lit (.int .i64 3), .lit (.int .i64 3), .lit (.int .i64 4), .lit (.int .i64 4), .lit (.int .i64 5), .lit (.int .i64 5), .lit (.int .i64 6), .lit (.int .i64 6), .lit (.int .i64 7), .lit (.int .i64 7), .lit (.int .i64 8), .lit (.int .i64 8), .lit (.int .i64 9), .lit (.int .i64 9), .lit (.int .i64 10), .lit (.int .i64 10), .lit (.int .i64 11), .lit (.int .i64 11), .lit (.int .i64 12), .lit (.int .i64 12), .lit (.int .i64 13), .lit (.int .i64 13)]
def laid_peatbank_inflate_lengthOrder {H : Type} : DataW H := .agg [.lit (.int .i64 16), .lit (.int .i64 17), .lit (.int .i64 18), .lit (.int .i64 0), .lit (.int .i64 8), .lit (.int .i64 7), .lit (.int .i64 9), .lit (.int .i64 6), .lit (.int .i64 10), .lit (.int .i64 5), .lit (.int .i64 11), .lit (.int .i64 4), .lit (.int .i64 12), .lit (.int .i64 3), .lit (.int .i64 13), .lit (.int .i64 2), .lit (.int .i64 14), .lit (.int .i64 1), .lit (.int .i64 15)]
def laid_peatbank_deflate_lengthBases {H : Type} : DataW H := .agg [.lit (.int .i64 3), .lit (.int .i64 4), .lit (.int .i64 5), .lit (.int .i64 6), .lit (.int .i64 7), .lit (.int .i64 8), .lit (.int .i64 9), .lit (.int .i64 10), .lit (.int .i64 11), .lit (.int .i64 13), .lit (.int .i64 15), .lit (.int .i64 17), .lit (.int .i64 19), .lit (.int .i64 23), .lit (.int .i64 27), .lit (.int .i64 31), .lit (.int .i64 35), .lit (.int .i64 43), .lit (.int .i64 51), .lit (.int .i64 59), .lit (.int .i64 67), .lit (.int .i64 83), .lit (.int .i64 99), .lit (.int .i64 115), .lit (.int .i64 131), .lit (.int .i64 163), .lit (.int .i64 195), .lit (.int .i64 227), .lit (.int .i64 258)]
def laid_peatbank_deflate_lengthBits {H : Type} : DataW H := .agg [.lit (.int .i64 0), .lit (.int .i64 0), .lit (.int .i64 0), .lit (.int .i64 0), .lit (.int .i64 0), .lit (.int .i64 0), .lit (.int .i64 0), .lit (.int .i64 0), .lit (.int .i64 1), .lit (.int .i64 1), .lit (.int .i64 1), .lit (.int .i64 1), .lit (.int .i64 2), .lit (.int .i64 2), .lit (.int .i64 2), .lit (.int .i64 2), .lit (.int .i64 3), .lit (.int .i64 3), .lit (.int .i64 3), .lit (.int .i64 3), .lit (.int .i64 4), .lit (.int .i64 4), .lit (.int .i64 4), .lit (.int .i64 4), .lit (.int .i64 5), .lit (.int .i64 5), .lit (.int .i64 5), .lit (.int .i64 5), .lit (.int .i64 0)]
def laid_peatbank_deflate_distanceBases {H : Type} : DataW H := .agg [.lit (.int .i64 1), .lit (.int .i64 2), .lit (.int .i64 3), .lit (.int .i64 4), .lit (.int .i64 5), .lit (.int .i64 7), .lit (.int .i64 9), .lit (.int .i64 13), .lit (.int .i64 17), .lit (.int .i64 25), .lit (.int .i64 33), .lit (.int .i64 49), .lit (.int .i64 65), .lit (.int .i64 97), .lit (.int .i64 129), .lit (.int .i64 193), .lit (.int .i64 257), .lit (.int .i64 385), .lit (.int .i64 513), .lit (.int .i64 769), .lit (.int .i64 1025), .lit (.int .i64 1537), .lit (.int .i64 2049), .lit (.int .i64 3073), .lit (.int .i64 4097), .lit (.int .i64 6145), .lit (.int .i64 8193), .lit (.int .i64 12289), .lit (.int .i64 16385), .lit (.int .i64 24577)]
def laid_peatbank_deflate_distanceBits {H : Type} : DataW H := .agg [.lit (.int .i64 0), .lit (.int .i64 0), .lit (.int .i64 0), .lit (.int .i64 0), .lit (.int .i64 1), .lit (.int .i64 1), .lit (.int .i64 2), .lit (.int .i64 2), .lit (.int .i64 3), .lit (.int .i64 3), .lit (.int .i64 4), .lit (.int .i64 4), .lit (.int .i64 5), .lit (.int .i64 5), .lit (.int .i64 6), .lit (.int .i64 6), .lit (.int .i64 7), .lit (.int .i64 7), .lit (.int .i64 8), .lit (.int .i64 8), .lit (.int .i64 9), .lit (.int .i64 9), .lit (.int .i64 10), .lit (.int .i64 10), .lit (.int .i64 11), .lit (.int .i64 11), .lit (.int .i64 12), .lit (.int .i64 12), .lit (.int .i64 13), .lit (.int .i64 13)]
def laid_peatbank_deflate_lengthOrder {H : Type} : DataW H := .agg [.lit (.int .i64 16), .lit (.int .i64 17), .lit (.int .i64 18), .lit (.int .i64 0), .lit (.int .i64 8), .lit (.int .i64 7), .lit (.int .i64 9), .lit (.int .i64 6), .lit (.int .i64 10), .lit (.int .i64 5), .lit (.int .i64 11), .lit (.int .i64 4), .lit (.int .i64 12), .lit (.int .i64 3), .lit (.int .i64 13), .lit (.int .i64 2), .lit (.int .i64 14), .lit (.int .i64 1), .lit (.int .i64 15)]

/-- 'peatbanklaw06.InflateReads': WHATEVER THE INPUT: true; the input reads as it did. -/
def inflateReadsSpec : ChangeSpec := { name := "inflateReads", fn := fun _ => fun
  | [d1, d2] => { results := [.lit (.bool true)], args := [d1, d2] }
  | _ => none }
def inflateReadsRow : OpenClaim := { program := "yteajjanjkhhgdaadoor", sum := "a2f8cf850c9e70113bee21ae6f4ec3ddcf053259197ba0c7d914d0a9871a0f19", func := "peatbank/peatbanklaw06.InflateReads", spec := "inflateReads", named := ["peatbank/inflate.lengthBases", "peatbank/inflate.lengthBits", "peatbank/inflate.distanceBases", "peatbank/inflate.distanceBits", "peatbank/inflate.lengthOrder"], plainKeys := false, apart := false, laid := [("peatbank/inflate.lengthBases", laid_peatbank_inflate_lengthBases), ("peatbank/inflate.lengthBits", laid_peatbank_inflate_lengthBits), ("peatbank/inflate.distanceBases", laid_peatbank_inflate_distanceBases), ("peatbank/inflate.distanceBits", laid_peatbank_inflate_distanceBits), ("peatbank/inflate.lengthOrder", laid_peatbank_inflate_lengthOrder)] }
def InflateReadsSaid : Prop := inflateReadsRow.holds Tryd.pinned (OpenSpec.ofChange inflateReadsSpec)

/-- ITS FALSE NEIGHBOUR: 'it returns false'. Refute it at one input. -/
def inflateReadsWrong : ChangeSpec := { name := "inflateReads", fn := fun _ => fun
  | [d1, d2] => { results := [.lit (.bool false)], args := [d1, d2] }
  | _ => none }
def InflateReadsWrongFalsely : Prop := inflateReadsRow.holds Tryd.pinned (OpenSpec.ofChange inflateReadsWrong)

/-- 'peatbanklaw06.InflateCuts': WHATEVER THE INPUT: true; the input reads as it did. -/
def inflateCutsSpec : ChangeSpec := { name := "inflateCuts", fn := fun _ => fun
  | [d1, d2, d3] => { results := [.lit (.bool true)], args := [d1, d2, d3] }
  | _ => none }
def inflateCutsRow : OpenClaim := { program := "yteajjanjkhhgdaadoor", sum := "a2f8cf850c9e70113bee21ae6f4ec3ddcf053259197ba0c7d914d0a9871a0f19", func := "peatbank/peatbanklaw06.InflateCuts", spec := "inflateCuts", named := ["peatbank/inflate.lengthBases", "peatbank/inflate.lengthBits", "peatbank/inflate.distanceBases", "peatbank/inflate.distanceBits", "peatbank/inflate.lengthOrder"], plainKeys := false, apart := false, laid := [("peatbank/inflate.lengthBases", laid_peatbank_inflate_lengthBases), ("peatbank/inflate.lengthBits", laid_peatbank_inflate_lengthBits), ("peatbank/inflate.distanceBases", laid_peatbank_inflate_distanceBases), ("peatbank/inflate.distanceBits", laid_peatbank_inflate_distanceBits), ("peatbank/inflate.lengthOrder", laid_peatbank_inflate_lengthOrder)] }
def InflateCutsSaid : Prop := inflateCutsRow.holds Tryd.pinned (OpenSpec.ofChange inflateCutsSpec)

/-- ITS FALSE NEIGHBOUR: 'it returns false'. Refute it at one input. -/
def inflateCutsWrong : ChangeSpec := { name := "inflateCuts", fn := fun _ => fun
  | [d1, d2, d3] => { results := [.lit (.bool false)], args := [d1, d2, d3] }
  | _ => none }
def InflateCutsWrongFalsely : Prop := inflateCutsRow.holds Tryd.pinned (OpenSpec.ofChange inflateCutsWrong)

/-- 'peatbanklaw06.InflateLimits': WHATEVER THE INPUT: true; the input reads as it did. -/
def inflateLimitsSpec : ChangeSpec := { name := "inflateLimits", fn := fun _ => fun
  | [d1, d2] => { results := [.lit (.bool true)], args := [d1, d2] }
  | _ => none }
def inflateLimitsRow : OpenClaim := { program := "yteajjanjkhhgdaadoor", sum := "a2f8cf850c9e70113bee21ae6f4ec3ddcf053259197ba0c7d914d0a9871a0f19", func := "peatbank/peatbanklaw06.InflateLimits", spec := "inflateLimits", named := ["peatbank/inflate.lengthBases", "peatbank/inflate.lengthBits", "peatbank/inflate.distanceBases", "peatbank/inflate.distanceBits", "peatbank/inflate.lengthOrder"], plainKeys := false, apart := false, laid := [("peatbank/inflate.lengthBases", laid_peatbank_inflate_lengthBases), ("peatbank/inflate.lengthBits", laid_peatbank_inflate_lengthBits), ("peatbank/inflate.distanceBases", laid_peatbank_inflate_distanceBases), ("peatbank/inflate.distanceBits", laid_peatbank_inflate_distanceBits), ("peatbank/inflate.lengthOrder", laid_peatbank_inflate_lengthOrder)] }
def InflateLimitsSaid : Prop := inflateLimitsRow.holds Tryd.pinned (OpenSpec.ofChange inflateLimitsSpec)

/-- ITS FALSE NEIGHBOUR: 'it returns false'. Refute it at one input. -/
def inflateLimitsWrong : ChangeSpec := { name := "inflateLimits", fn := fun _ => fun
  | [d1, d2] => { results := [.lit (.bool false)], args := [d1, d2] }
  | _ => none }
def InflateLimitsWrongFalsely : Prop := inflateLimitsRow.holds Tryd.pinned (OpenSpec.ofChange inflateLimitsWrong)

/-- 'peatbanklaw06.InflateBack': WHATEVER THE INPUT: true; the input reads as it did. -/
def inflateBackSpec : ChangeSpec := { name := "inflateBack", fn := fun _ => fun
  | [d1, d2] => { results := [.lit (.bool true)], args := [d1, d2] }
  | _ => none }
def inflateBackRow : OpenClaim := { program := "yteajjanjkhhgdaadoor", sum := "a2f8cf850c9e70113bee21ae6f4ec3ddcf053259197ba0c7d914d0a9871a0f19", func := "peatbank/peatbanklaw06.InflateBack", spec := "inflateBack", unfollowed := true, recurses := true, named := ["peatbank/inflate.lengthBases", "peatbank/inflate.lengthBits", "peatbank/inflate.distanceBases", "peatbank/inflate.distanceBits", "peatbank/inflate.lengthOrder"], plainKeys := false, apart := false, laid := [("peatbank/inflate.lengthBases", laid_peatbank_inflate_lengthBases), ("peatbank/inflate.lengthBits", laid_peatbank_inflate_lengthBits), ("peatbank/inflate.distanceBases", laid_peatbank_inflate_distanceBases), ("peatbank/inflate.distanceBits", laid_peatbank_inflate_distanceBits), ("peatbank/inflate.lengthOrder", laid_peatbank_inflate_lengthOrder)] }
def InflateBackSaid : Prop := inflateBackRow.holds Tryd.pinned (OpenSpec.ofChange inflateBackSpec)

/-- ITS FALSE NEIGHBOUR: 'it returns false'. Refute it at one input. -/
def inflateBackWrong : ChangeSpec := { name := "inflateBack", fn := fun _ => fun
  | [d1, d2] => { results := [.lit (.bool false)], args := [d1, d2] }
  | _ => none }
def InflateBackWrongFalsely : Prop := inflateBackRow.holds Tryd.pinned (OpenSpec.ofChange inflateBackWrong)

/-- 'peatbanklaw06.InflateAlike': WHATEVER THE INPUT: true; the input reads as it did. -/
def inflateAlikeSpec : ChangeSpec := { name := "inflateAlike", fn := fun _ => fun
  | [d] => { results := [.lit (.bool true)], args := [d] }
  | _ => none }
def inflateAlikeRow : OpenClaim := { program := "yteajjanjkhhgdaadoor", sum := "a2f8cf850c9e70113bee21ae6f4ec3ddcf053259197ba0c7d914d0a9871a0f19", func := "peatbank/peatbanklaw06.InflateAlike", spec := "inflateAlike", named := ["peatbank/inflate.lengthBases", "peatbank/inflate.lengthBits", "peatbank/inflate.distanceBases", "peatbank/inflate.distanceBits", "peatbank/inflate.lengthOrder"], plainKeys := false, apart := false, laid := [("peatbank/inflate.lengthBases", laid_peatbank_inflate_lengthBases), ("peatbank/inflate.lengthBits", laid_peatbank_inflate_lengthBits), ("peatbank/inflate.distanceBases", laid_peatbank_inflate_distanceBases), ("peatbank/inflate.distanceBits", laid_peatbank_inflate_distanceBits), ("peatbank/inflate.lengthOrder", laid_peatbank_inflate_lengthOrder)] }
def InflateAlikeSaid : Prop := inflateAlikeRow.holds Tryd.pinned (OpenSpec.ofChange inflateAlikeSpec)

/-- ITS FALSE NEIGHBOUR: 'it returns false'. Refute it at one input. -/
def inflateAlikeWrong : ChangeSpec := { name := "inflateAlike", fn := fun _ => fun
  | [d] => { results := [.lit (.bool false)], args := [d] }
  | _ => none }
def InflateAlikeWrongFalsely : Prop := inflateAlikeRow.holds Tryd.pinned (OpenSpec.ofChange inflateAlikeWrong)

/-- 'peatbanklaw07.DeflateBound': WHATEVER THE INPUT: true; the input reads as it did. -/
def deflateBoundSpec : ChangeSpec := { name := "deflateBound", fn := fun _ => fun
  | [d] => { results := [.lit (.bool true)], args := [d] }
  | _ => none }
def deflateBoundRow : OpenClaim := { program := "yteajjanjkhhgdaadoor", sum := "a2f8cf850c9e70113bee21ae6f4ec3ddcf053259197ba0c7d914d0a9871a0f19", func := "peatbank/peatbanklaw07.DeflateBound", spec := "deflateBound", unfollowed := true, recurses := true, named := ["peatbank/deflate.lengthBases", "peatbank/deflate.lengthBits", "peatbank/deflate.distanceBases", "peatbank/deflate.distanceBits", "peatbank/deflate.lengthOrder"], plainKeys := false, apart := false, laid := [("peatbank/deflate.lengthBases", laid_peatbank_deflate_lengthBases), ("peatbank/deflate.lengthBits", laid_peatbank_deflate_lengthBits), ("peatbank/deflate.distanceBases", laid_peatbank_deflate_distanceBases), ("peatbank/deflate.distanceBits", laid_peatbank_deflate_distanceBits), ("peatbank/deflate.lengthOrder", laid_peatbank_deflate_lengthOrder)] }
def DeflateBoundSaid : Prop := deflateBoundRow.holds Tryd.pinned (OpenSpec.ofChange deflateBoundSpec)

/-- ITS FALSE NEIGHBOUR: 'it returns false'. Refute it at one input. -/
def deflateBoundWrong : ChangeSpec := { name := "deflateBound", fn := fun _ => fun
  | [d] => { results := [.lit (.bool false)], args := [d] }
  | _ => none }
def DeflateBoundWrongFalsely : Prop := deflateBoundRow.holds Tryd.pinned (OpenSpec.ofChange deflateBoundWrong)

/-- 'peatbanklaw07.DeflateNumbers': WHATEVER THE INPUT: true; the input reads as it did. -/
def deflateNumbersSpec : ChangeSpec := { name := "deflateNumbers", fn := fun _ => fun
  | [] => { results := [.lit (.bool true)], args := [] }
  | _ => none }
def deflateNumbersRow : OpenClaim := { program := "yteajjanjkhhgdaadoor", sum := "a2f8cf850c9e70113bee21ae6f4ec3ddcf053259197ba0c7d914d0a9871a0f19", func := "peatbank/peatbanklaw07.DeflateNumbers", spec := "deflateNumbers", unfollowed := true, recurses := true, named := ["peatbank/deflate.lengthBases", "peatbank/deflate.lengthBits", "peatbank/deflate.distanceBases", "peatbank/deflate.distanceBits", "peatbank/deflate.lengthOrder"], plainKeys := false, apart := false, laid := [("peatbank/deflate.lengthBases", laid_peatbank_deflate_lengthBases), ("peatbank/deflate.lengthBits", laid_peatbank_deflate_lengthBits), ("peatbank/deflate.distanceBases", laid_peatbank_deflate_distanceBases), ("peatbank/deflate.distanceBits", laid_peatbank_deflate_distanceBits), ("peatbank/deflate.lengthOrder", laid_peatbank_deflate_lengthOrder)] }
def DeflateNumbersSaid : Prop := deflateNumbersRow.holds Tryd.pinned (OpenSpec.ofChange deflateNumbersSpec)

/-- ITS FALSE NEIGHBOUR: 'it returns false'. Refute it at one input. -/
def deflateNumbersWrong : ChangeSpec := { name := "deflateNumbers", fn := fun _ => fun
  | [] => { results := [.lit (.bool false)], args := [] }
  | _ => none }
def DeflateNumbersWrongFalsely : Prop := deflateNumbersRow.holds Tryd.pinned (OpenSpec.ofChange deflateNumbersWrong)

/- THE SECOND FORM. 'bulk': how many values and letters a reading holds, each counted each time it is reached (what is shared counts as often as it is met; a slice's spare places count too). A statement '..UptoSaid' is the law's where the arguments, and the package variables that the reading takes, are together of bulk at most 1048576: NARROWER than '..Said'. Prove '..Said' where nothing that the law and all that it calls make is longer than what came in: it says more and counts as full. Else prove '..UptoSaid'. A law counts once. -/
mutual
def uptoBulk {H : Type} : DataW H → Nat
  | .lit (.string bytes) => bytes.length + 1
  | .lit _ => 1
  | .nil => 1
  | .ptr d => uptoBulk d + 1
  | .slice elems spare => uptoBulkAll elems + uptoBulkAll spare + 1
  | .agg parts => uptoBulkAll parts + 1
  | .iface _ d => uptoBulk d + 1
  | .map entries => uptoBulkEntries entries + 1
  | .held _ => 1
def uptoBulkAll {H : Type} : List (DataW H) → Nat
  | [] => 0
  | d :: r => uptoBulk d + uptoBulkAll r
def uptoBulkEntries {H : Type} : List (Lit × DataW H) → Nat
  | [] => 0
  | x :: r => uptoBulkEntry x + uptoBulkEntries r
def uptoBulkEntry {H : Type} : Lit × DataW H → Nat
  | (.string bytes, d) => bytes.length + uptoBulk d + 1
  | (_, d) => uptoBulk d + 1
 end
def uptoSmall : (H : Type) → List (DataW H) → Bool := fun _ ds => decide (uptoBulkAll ds ≤ 1048576)
def OpenSpec.upto (s : _root_.Go.ChangeSpec) : _root_.Go.OpenSpec := { _root_.Go.OpenSpec.ofChange s with cond := some uptoSmall }

/-- 'peatbanklaw06.InflateReads', WHERE WHAT IT READS IS OF BULK AT MOST 1048576: true; the input reads as it did. -/
def inflateReadsUptoRow : OpenClaim := { program := "yteajjanjkhhgdaadoor", sum := "a2f8cf850c9e70113bee21ae6f4ec3ddcf053259197ba0c7d914d0a9871a0f19", func := "peatbank/peatbanklaw06.InflateReads", spec := "inflateReads", named := ["peatbank/inflate.lengthBases", "peatbank/inflate.lengthBits", "peatbank/inflate.distanceBases", "peatbank/inflate.distanceBits", "peatbank/inflate.lengthOrder"], plainKeys := false, apart := false, laid := [("peatbank/inflate.lengthBases", laid_peatbank_inflate_lengthBases), ("peatbank/inflate.lengthBits", laid_peatbank_inflate_lengthBits), ("peatbank/inflate.distanceBases", laid_peatbank_inflate_distanceBases), ("peatbank/inflate.distanceBits", laid_peatbank_inflate_distanceBits), ("peatbank/inflate.lengthOrder", laid_peatbank_inflate_lengthOrder)], narrowed := true }
def InflateReadsUptoSaid : Prop := inflateReadsUptoRow.holds Tryd.pinned (OpenSpec.upto inflateReadsSpec)

/-- 'peatbanklaw06.InflateCuts', WHERE WHAT IT READS IS OF BULK AT MOST 1048576: true; the input reads as it did. -/
def inflateCutsUptoRow : OpenClaim := { program := "yteajjanjkhhgdaadoor", sum := "a2f8cf850c9e70113bee21ae6f4ec3ddcf053259197ba0c7d914d0a9871a0f19", func := "peatbank/peatbanklaw06.InflateCuts", spec := "inflateCuts", named := ["peatbank/inflate.lengthBases", "peatbank/inflate.lengthBits", "peatbank/inflate.distanceBases", "peatbank/inflate.distanceBits", "peatbank/inflate.lengthOrder"], plainKeys := false, apart := false, laid := [("peatbank/inflate.lengthBases", laid_peatbank_inflate_lengthBases), ("peatbank/inflate.lengthBits", laid_peatbank_inflate_lengthBits), ("peatbank/inflate.distanceBases", laid_peatbank_inflate_distanceBases), ("peatbank/inflate.distanceBits", laid_peatbank_inflate_distanceBits), ("peatbank/inflate.lengthOrder", laid_peatbank_inflate_lengthOrder)], narrowed := true }
def InflateCutsUptoSaid : Prop := inflateCutsUptoRow.holds Tryd.pinned (OpenSpec.upto inflateCutsSpec)

/-- 'peatbanklaw06.InflateLimits', WHERE WHAT IT READS IS OF BULK AT MOST 1048576: true; the input reads as it did. -/
def inflateLimitsUptoRow : OpenClaim := { program := "yteajjanjkhhgdaadoor", sum := "a2f8cf850c9e70113bee21ae6f4ec3ddcf053259197ba0c7d914d0a9871a0f19", func := "peatbank/peatbanklaw06.InflateLimits", spec := "inflateLimits", named := ["peatbank/inflate.lengthBases", "peatbank/inflate.lengthBits", "peatbank/inflate.distanceBases", "peatbank/inflate.distanceBits", "peatbank/inflate.lengthOrder"], plainKeys := false, apart := false, laid := [("peatbank/inflate.lengthBases", laid_peatbank_inflate_lengthBases), ("peatbank/inflate.lengthBits", laid_peatbank_inflate_lengthBits), ("peatbank/inflate.distanceBases", laid_peatbank_inflate_distanceBases), ("peatbank/inflate.distanceBits", laid_peatbank_inflate_distanceBits), ("peatbank/inflate.lengthOrder", laid_peatbank_inflate_lengthOrder)], narrowed := true }
def InflateLimitsUptoSaid : Prop := inflateLimitsUptoRow.holds Tryd.pinned (OpenSpec.upto inflateLimitsSpec)

/-- 'peatbanklaw06.InflateBack', WHERE WHAT IT READS IS OF BULK AT MOST 1048576: true; the input reads as it did. -/
def inflateBackUptoRow : OpenClaim := { program := "yteajjanjkhhgdaadoor", sum := "a2f8cf850c9e70113bee21ae6f4ec3ddcf053259197ba0c7d914d0a9871a0f19", func := "peatbank/peatbanklaw06.InflateBack", spec := "inflateBack", unfollowed := true, recurses := true, named := ["peatbank/inflate.lengthBases", "peatbank/inflate.lengthBits", "peatbank/inflate.distanceBases", "peatbank/inflate.distanceBits", "peatbank/inflate.lengthOrder"], plainKeys := false, apart := false, laid := [("peatbank/inflate.lengthBases", laid_peatbank_inflate_lengthBases), ("peatbank/inflate.lengthBits", laid_peatbank_inflate_lengthBits), ("peatbank/inflate.distanceBases", laid_peatbank_inflate_distanceBases), ("peatbank/inflate.distanceBits", laid_peatbank_inflate_distanceBits), ("peatbank/inflate.lengthOrder", laid_peatbank_inflate_lengthOrder)], narrowed := true }
def InflateBackUptoSaid : Prop := inflateBackUptoRow.holds Tryd.pinned (OpenSpec.upto inflateBackSpec)

/-- 'peatbanklaw06.InflateAlike', WHERE WHAT IT READS IS OF BULK AT MOST 1048576: true; the input reads as it did. -/
def inflateAlikeUptoRow : OpenClaim := { program := "yteajjanjkhhgdaadoor", sum := "a2f8cf850c9e70113bee21ae6f4ec3ddcf053259197ba0c7d914d0a9871a0f19", func := "peatbank/peatbanklaw06.InflateAlike", spec := "inflateAlike", named := ["peatbank/inflate.lengthBases", "peatbank/inflate.lengthBits", "peatbank/inflate.distanceBases", "peatbank/inflate.distanceBits", "peatbank/inflate.lengthOrder"], plainKeys := false, apart := false, laid := [("peatbank/inflate.lengthBases", laid_peatbank_inflate_lengthBases), ("peatbank/inflate.lengthBits", laid_peatbank_inflate_lengthBits), ("peatbank/inflate.distanceBases", laid_peatbank_inflate_distanceBases), ("peatbank/inflate.distanceBits", laid_peatbank_inflate_distanceBits), ("peatbank/inflate.lengthOrder", laid_peatbank_inflate_lengthOrder)], narrowed := true }
def InflateAlikeUptoSaid : Prop := inflateAlikeUptoRow.holds Tryd.pinned (OpenSpec.upto inflateAlikeSpec)

/-- 'peatbanklaw07.DeflateBound', WHERE WHAT IT READS IS OF BULK AT MOST 1048576: true; the input reads as it did. -/
def deflateBoundUptoRow : OpenClaim := { program := "yteajjanjkhhgdaadoor", sum := "a2f8cf850c9e70113bee21ae6f4ec3ddcf053259197ba0c7d914d0a9871a0f19", func := "peatbank/peatbanklaw07.DeflateBound", spec := "deflateBound", unfollowed := true, recurses := true, named := ["peatbank/deflate.lengthBases", "peatbank/deflate.lengthBits", "peatbank/deflate.distanceBases", "peatbank/deflate.distanceBits", "peatbank/deflate.lengthOrder"], plainKeys := false, apart := false, laid := [("peatbank/deflate.lengthBases", laid_peatbank_deflate_lengthBases), ("peatbank/deflate.lengthBits", laid_peatbank_deflate_lengthBits), ("peatbank/deflate.distanceBases", laid_peatbank_deflate_distanceBases), ("peatbank/deflate.distanceBits", laid_peatbank_deflate_distanceBits), ("peatbank/deflate.lengthOrder", laid_peatbank_deflate_lengthOrder)], narrowed := true }
def DeflateBoundUptoSaid : Prop := deflateBoundUptoRow.holds Tryd.pinned (OpenSpec.upto deflateBoundSpec)

/-- 'peatbanklaw07.DeflateNumbers', WHERE WHAT IT READS IS OF BULK AT MOST 1048576: true; the input reads as it did. -/
def deflateNumbersUptoRow : OpenClaim := { program := "yteajjanjkhhgdaadoor", sum := "a2f8cf850c9e70113bee21ae6f4ec3ddcf053259197ba0c7d914d0a9871a0f19", func := "peatbank/peatbanklaw07.DeflateNumbers", spec := "deflateNumbers", unfollowed := true, recurses := true, named := ["peatbank/deflate.lengthBases", "peatbank/deflate.lengthBits", "peatbank/deflate.distanceBases", "peatbank/deflate.distanceBits", "peatbank/deflate.lengthOrder"], plainKeys := false, apart := false, laid := [("peatbank/deflate.lengthBases", laid_peatbank_deflate_lengthBases), ("peatbank/deflate.lengthBits", laid_peatbank_deflate_lengthBits), ("peatbank/deflate.distanceBases", laid_peatbank_deflate_distanceBases), ("peatbank/deflate.distanceBits", laid_peatbank_deflate_distanceBits), ("peatbank/deflate.lengthOrder", laid_peatbank_deflate_lengthOrder)], narrowed := true }
def DeflateNumbersUptoSaid : Prop := deflateNumbersUptoRow.holds Tryd.pinned (OpenSpec.upto deflateNumbersSpec)

end Rows
end Go.Proofs.YteajjanjkhhgdaaDoor
