/-
  NARROWER THAN 'FOR EVERY INPUT', by the rows' own cells (each row's printed sentence says how): LexAll: laid · LexReads: laid · LexAgain: laid · GramMays: laid · GramSame: laid · GramStays: laid.
  DERIVED. THE GIVEN ROWS OF THIS SEAT. 6 by the template 'for every input the law returns true; each argument reads behind the call as it read before'; 0 by the template 'total and deterministic' (their statements: YteijndfacjgfbaaDoorTotals.lean).
  GIVEN WITH THE SEED: the statements are not yours to turn. If you find one false, say at which input.
  Laid BY PROGRAM, IN A SANDBOX (cutbox-rows.mjs): the forced cells as the released guide's own fill.sh prints them over the translation 69ccbd2e36ad7d5a… (all of the seat's roots in one cut). By AI agents, Wed Nov 11 2026. No macro, syntax, notation, axiom, sorry.
-/
import Derived.Test.YteijndfacjgfbaaDoorChecked
import GoSem.Claim
import GoSem.ClaimJoined
import GoSem.ClaimMapViews
import Derived.JoinedTies
import Derived.KernelRfl
namespace Go.Proofs.YteijndfacjgfbaaDoor
/- THE CELL 'sum', in the pinned program and in every row, IS THE sha256 OF THE DUMP (.gsa) THAT YteijndfacjgfbaaDoorProg.lean LOADS. Nothing in Lean hashes anything: it is a label: what it is worth is what the hold of that sum in a sandbox is worth. -/
noncomputable def Tryd.pinned : Pinned := { name := "yteijndfacjgfbaadoor", sum := "69ccbd2e36ad7d5a66cfd8e4d86932ee8f162e66d1dfdced27ebec526fcf8513", checked := Tryd.checked }
namespace Rows
def none {H : Type} : Left H := { results := [], args := [] }

/- WHAT THE LISTED PACKAGE-LEVEL VARIABLES READ AS WHEN THE CALL BEGINS. Each datum BY PROGRAM (the guide's laid-datum.mjs) off the statement by which the dump's own 'gosem.cut.vars' lays the variable. In a bare row this is a premise. The card (YteijndfacjgfbaaDoorCards.lean) ties it to the program's text. -/
def laid_math_bits_deBruijn32tab {H : Type} : DataW H := .agg [.lit (.int .u8 0), .lit (.int .u8 1), .lit (.int .u8 28), .lit (.int .u8 2), .lit (.int .u8 29), .lit (.int .u8 14), .lit (.int .u8 24), .lit (.int .u8 3), .lit (.int .u8 30), .lit (.int .u8 22), .lit (.int .u8 20), .lit (.int .u8 15), .lit (.int .u8 25), .lit (.int .u8 17), .lit (.int .u8 4), .lit (.int .u8 8), .lit (.int .u8 31), .lit (.int .u8 27), .lit (.int .u8 13), .lit (.int .u8 23), .lit (.int .u8 21), .lit (.int .u8 19), .lit (.int .u8 16), .lit (.int .u8 7), .lit (.int .u8 26), .lit (.int .u8 12), .lit (.int .u8 18), .lit (.int .u8 6), .lit (.int .u8 11), .lit (.int .u8 5), .lit (.int .u8 10), .lit (.int .u8 9)]
def laid_math_bits_deBruijn64tab {H : Type} : DataW H := .agg [.lit (.int .u8 0), .lit (.int .u8 1), .lit (.int .u8 56), .lit (.int .u8 2), .lit (.int .u8 57), .lit (.int .u8 49), .lit (.int .u8 28), .lit (.int .u8 3), .lit (.int .u8 61), .lit (.int .u8 58), .lit (.int .u8 42), .lit (.int .u8 50), .lit (.int .u8 38), .lit (.int .u8 29), .lit (.int .u8 17), .lit (.int .u8 4), .lit (.int .u8 62), .lit (.int .u8 47), .lit (.int .u8 59), .lit (.int .u8 36), .lit (.int .u8 45), .lit (.int .u8 43), .lit (.int .u8 51), .lit (.int .u8 22), .lit (.int .u8 53), .lit (.int .u8 39), .lit (.int .u8 33), .lit (.int .u8 30), .lit (.int .u8 24), .lit (.int .u8 18), .lit (.int .u8 12), .lit (.int .u8 5), .lit (.int .u8 63), .lit (.int .u8 55), .lit (.int .u8 48), .lit (.int .u8 27), .lit (.int .u8 60), .lit (.int .u8 41), .lit (.int .u8 37), .lit (.int .u8 16), .lit (.int .u8 46), .lit (.int .u8 35), .lit (.int .u8 44), .lit (.int .u8 21), .lit (.int .u8 52), .lit (.int .u8 32), .lit (.int .u8 23), .lit (.int .u8 11), .lit (.int .u8 54), .lit (.int .u8 26), .lit (.int .u8 40), .lit (.int .u8 15), .lit (.int .u8 34), .lit (.int .u8 20), .lit (.int .u8 31), .lit (.int .u8 10), .lit (.int .u8 25), .lit (.int .u8 14), .lit (.int .u8 19), .lit (.int .u8 9), .lit (.int .u8 13), .lit (.int .u8 8), .lit (.int .u8 7), .lit (.int .u8 6)]
def laid_internal_strconv_uint64pow10 {H : Type} : DataW H := .agg [.lit (.int .u64 1), .lit (.int .u64 10), .lit (.int .u64 100), .lit (.int .u64 1000), .lit (.int .u64 10000), .lit (.int .u64 100000), .lit (.int .u64 1000000), .lit (.int .u64 10000000), .lit (.int .u64 100000000), .lit (.int .u64 1000000000), .lit (.int .u64 10000000000), .lit (.int .u64 100000000000), .lit (.int .u64 1000000000000), .lit (.int .u64 10000000000000), .lit (.int .u64 100000000000000), .lit (.int .u64 1000000000000000), .lit (.int .u64 10000000000000000), .lit (.int .u64 100000000000000000), .lit (.int .u64 1000000000000000000), .lit (.int .u64 10000000000000000000)]
def laid_gramarye_name_keywords {H : Type} : DataW H := .agg [.lit (.string [103, 114, 97, 109, 109, 97, 114]), .lit (.string [108, 111, 111, 107]), .lit (.string [115, 121, 110, 99]), .lit (.string [116, 111, 107, 101, 110])]

/-- 'gramaryelaw04.LexAll': WHATEVER THE INPUT: true; the input reads as it did. -/
def lexAllSpec : ChangeSpec := { name := "lexAll", fn := fun _ => fun
  | [d] => { results := [.lit (.bool true)], args := [d] }
  | _ => none }
def lexAllRow : OpenClaim := { program := "yteijndfacjgfbaadoor", sum := "69ccbd2e36ad7d5a66cfd8e4d86932ee8f162e66d1dfdced27ebec526fcf8513", func := "gramarye/gramaryelaw04.LexAll", spec := "lexAll", inPlace := ["internal/bytealg.IndexByteString"], named := ["gramarye/name.keywords", "internal/strconv.uint64pow10", "math/bits.deBruijn32tab", "math/bits.deBruijn64tab"], apart := false, laid := [("math/bits.deBruijn32tab", laid_math_bits_deBruijn32tab), ("math/bits.deBruijn64tab", laid_math_bits_deBruijn64tab), ("internal/strconv.uint64pow10", laid_internal_strconv_uint64pow10), ("gramarye/name.keywords", laid_gramarye_name_keywords)] }
def LexAllSaid : Prop := lexAllRow.holds Tryd.pinned (OpenSpec.ofChange lexAllSpec)

/-- ITS FALSE NEIGHBOUR: 'it returns false'. Refute it at one input. -/
def lexAllWrong : ChangeSpec := { name := "lexAll", fn := fun _ => fun
  | [d] => { results := [.lit (.bool false)], args := [d] }
  | _ => none }
def LexAllWrongFalsely : Prop := lexAllRow.holds Tryd.pinned (OpenSpec.ofChange lexAllWrong)

/-- 'gramaryelaw04.LexReads': WHATEVER THE INPUT: true; the input reads as it did. -/
def lexReadsSpec : ChangeSpec := { name := "lexReads", fn := fun _ => fun
  | [d1, d2, d3] => { results := [.lit (.bool true)], args := [d1, d2, d3] }
  | _ => none }
def lexReadsRow : OpenClaim := { program := "yteijndfacjgfbaadoor", sum := "69ccbd2e36ad7d5a66cfd8e4d86932ee8f162e66d1dfdced27ebec526fcf8513", func := "gramarye/gramaryelaw04.LexReads", spec := "lexReads", inPlace := ["internal/bytealg.IndexByteString"], named := ["gramarye/name.keywords", "internal/strconv.uint64pow10", "math/bits.deBruijn32tab", "math/bits.deBruijn64tab"], apart := false, laid := [("math/bits.deBruijn32tab", laid_math_bits_deBruijn32tab), ("math/bits.deBruijn64tab", laid_math_bits_deBruijn64tab), ("internal/strconv.uint64pow10", laid_internal_strconv_uint64pow10), ("gramarye/name.keywords", laid_gramarye_name_keywords)] }
def LexReadsSaid : Prop := lexReadsRow.holds Tryd.pinned (OpenSpec.ofChange lexReadsSpec)

/-- ITS FALSE NEIGHBOUR: 'it returns false'. Refute it at one input. -/
def lexReadsWrong : ChangeSpec := { name := "lexReads", fn := fun _ => fun
  | [d1, d2, d3] => { results := [.lit (.bool false)], args := [d1, d2, d3] }
  | _ => none }
def LexReadsWrongFalsely : Prop := lexReadsRow.holds Tryd.pinned (OpenSpec.ofChange lexReadsWrong)

/-- 'gramaryelaw04.LexAgain': WHATEVER THE INPUT: true; the input reads as it did. -/
def lexAgainSpec : ChangeSpec := { name := "lexAgain", fn := fun _ => fun
  | [d] => { results := [.lit (.bool true)], args := [d] }
  | _ => none }
def lexAgainRow : OpenClaim := { program := "yteijndfacjgfbaadoor", sum := "69ccbd2e36ad7d5a66cfd8e4d86932ee8f162e66d1dfdced27ebec526fcf8513", func := "gramarye/gramaryelaw04.LexAgain", spec := "lexAgain", inPlace := ["internal/bytealg.IndexByteString"], named := ["gramarye/name.keywords", "internal/strconv.uint64pow10", "math/bits.deBruijn32tab", "math/bits.deBruijn64tab"], apart := false, laid := [("math/bits.deBruijn32tab", laid_math_bits_deBruijn32tab), ("math/bits.deBruijn64tab", laid_math_bits_deBruijn64tab), ("internal/strconv.uint64pow10", laid_internal_strconv_uint64pow10), ("gramarye/name.keywords", laid_gramarye_name_keywords)] }
def LexAgainSaid : Prop := lexAgainRow.holds Tryd.pinned (OpenSpec.ofChange lexAgainSpec)

/-- ITS FALSE NEIGHBOUR: 'it returns false'. Refute it at one input. -/
def lexAgainWrong : ChangeSpec := { name := "lexAgain", fn := fun _ => fun
  | [d] => { results := [.lit (.bool false)], args := [d] }
  | _ => none }
def LexAgainWrongFalsely : Prop := lexAgainRow.holds Tryd.pinned (OpenSpec.ofChange lexAgainWrong)

/-- 'gramaryelaw05.GramMays': WHATEVER THE INPUT: true; the input reads as it did. -/
def gramMaysSpec : ChangeSpec := { name := "gramMays", fn := fun _ => fun
  | [d1, d2] => { results := [.lit (.bool true)], args := [d1, d2] }
  | _ => none }
def gramMaysRow : OpenClaim := { program := "yteijndfacjgfbaadoor", sum := "69ccbd2e36ad7d5a66cfd8e4d86932ee8f162e66d1dfdced27ebec526fcf8513", func := "gramarye/gramaryelaw05.GramMays", spec := "gramMays", unfollowed := true, recurses := true, named := ["gramarye/name.keywords"], apart := false, laid := [("gramarye/name.keywords", laid_gramarye_name_keywords)] }
def GramMaysSaid : Prop := gramMaysRow.holds Tryd.pinned (OpenSpec.ofChange gramMaysSpec)

/-- ITS FALSE NEIGHBOUR: 'it returns false'. Refute it at one input. -/
def gramMaysWrong : ChangeSpec := { name := "gramMays", fn := fun _ => fun
  | [d1, d2] => { results := [.lit (.bool false)], args := [d1, d2] }
  | _ => none }
def GramMaysWrongFalsely : Prop := gramMaysRow.holds Tryd.pinned (OpenSpec.ofChange gramMaysWrong)

/-- 'gramaryelaw05.GramSame': WHATEVER THE INPUT: true; the input reads as it did. -/
def gramSameSpec : ChangeSpec := { name := "gramSame", fn := fun _ => fun
  | [d1, d2] => { results := [.lit (.bool true)], args := [d1, d2] }
  | _ => none }
def gramSameRow : OpenClaim := { program := "yteijndfacjgfbaadoor", sum := "69ccbd2e36ad7d5a66cfd8e4d86932ee8f162e66d1dfdced27ebec526fcf8513", func := "gramarye/gramaryelaw05.GramSame", spec := "gramSame", unfollowed := true, recurses := true, named := ["gramarye/name.keywords"], apart := false, laid := [("gramarye/name.keywords", laid_gramarye_name_keywords)] }
def GramSameSaid : Prop := gramSameRow.holds Tryd.pinned (OpenSpec.ofChange gramSameSpec)

/-- ITS FALSE NEIGHBOUR: 'it returns false'. Refute it at one input. -/
def gramSameWrong : ChangeSpec := { name := "gramSame", fn := fun _ => fun
  | [d1, d2] => { results := [.lit (.bool false)], args := [d1, d2] }
  | _ => none }
def GramSameWrongFalsely : Prop := gramSameRow.holds Tryd.pinned (OpenSpec.ofChange gramSameWrong)

/-- 'gramaryelaw05.GramStays': WHATEVER THE INPUT: true; the input reads as it did. -/
def gramStaysSpec : ChangeSpec := { name := "gramStays", fn := fun _ => fun
  | [d] => { results := [.lit (.bool true)], args := [d] }
  | _ => none }
def gramStaysRow : OpenClaim := { program := "yteijndfacjgfbaadoor", sum := "69ccbd2e36ad7d5a66cfd8e4d86932ee8f162e66d1dfdced27ebec526fcf8513", func := "gramarye/gramaryelaw05.GramStays", spec := "gramStays", unfollowed := true, recurses := true, named := ["gramarye/name.keywords"], apart := false, laid := [("gramarye/name.keywords", laid_gramarye_name_keywords)] }
def GramStaysSaid : Prop := gramStaysRow.holds Tryd.pinned (OpenSpec.ofChange gramStaysSpec)

/-- ITS FALSE NEIGHBOUR: 'it returns false'. Refute it at one input. -/
def gramStaysWrong : ChangeSpec := { name := "gramStays", fn := fun _ => fun
  | [d] => { results := [.lit (.bool false)], args := [d] }
  | _ => none }
def GramStaysWrongFalsely : Prop := gramStaysRow.holds Tryd.pinned (OpenSpec.ofChange gramStaysWrong)

/- THE SECOND FORM. 'bulk': how many values and letters a reading holds, each counted each time it is reached (what is shared counts as often as it is met; a slice's spare places count too). A statement '..UptoSaid' is the law's where the arguments, and the package variables that the reading takes, are together of bulk at most 1048576: NARROWER than '..Said'. Prove '..Said' where nothing that the law and all that it calls make is longer than what came in: it says more and counts as full. Else prove '..UptoSaid'. A law counts once. -/
mutual
def uptoBulk {H : Type} : DataW H → Nat
  | .lit (.string bytes) => bytes.length + 1
  | .lit _ => 1
  | .nil => 1
  | .ptr d => uptoBulk d + 1
  | .slice elems spare => uptoBulkAll elems + uptoBulkAll spare + 1
  | .agg parts => uptoBulkAll parts + 1
  | .iface _ d => uptoBulk d + 1
  | .map entries => uptoBulkEntries entries + 1
  | .held _ => 1
def uptoBulkAll {H : Type} : List (DataW H) → Nat
  | [] => 0
  | d :: r => uptoBulk d + uptoBulkAll r
def uptoBulkEntries {H : Type} : List (Lit × DataW H) → Nat
  | [] => 0
  | x :: r => uptoBulkEntry x + uptoBulkEntries r
def uptoBulkEntry {H : Type} : Lit × DataW H → Nat
  | (.string bytes, d) => bytes.length + uptoBulk d + 1
  | (_, d) => uptoBulk d + 1
 end
def uptoSmall : (H : Type) → List (DataW H) → Bool := fun _ ds => decide (uptoBulkAll ds ≤ 1048576)
def OpenSpec.upto (s : _root_.Go.ChangeSpec) : _root_.Go.OpenSpec := { _root_.Go.OpenSpec.ofChange s with cond := some uptoSmall }

/-- 'gramaryelaw04.LexAll', WHERE WHAT IT READS IS OF BULK AT MOST 1048576: true; the input reads as it did. -/
def lexAllUptoRow : OpenClaim := { program := "yteijndfacjgfbaadoor", sum := "69ccbd2e36ad7d5a66cfd8e4d86932ee8f162e66d1dfdced27ebec526fcf8513", func := "gramarye/gramaryelaw04.LexAll", spec := "lexAll", inPlace := ["internal/bytealg.IndexByteString"], named := ["gramarye/name.keywords", "internal/strconv.uint64pow10", "math/bits.deBruijn32tab", "math/bits.deBruijn64tab"], apart := false, laid := [("math/bits.deBruijn32tab", laid_math_bits_deBruijn32tab), ("math/bits.deBruijn64tab", laid_math_bits_deBruijn64tab), ("internal/strconv.uint64pow10", laid_internal_strconv_uint64pow10), ("gramarye/name.keywords", laid_gramarye_name_keywords)], narrowed := true }
def LexAllUptoSaid : Prop := lexAllUptoRow.holds Tryd.pinned (OpenSpec.upto lexAllSpec)

/-- 'gramaryelaw04.LexReads', WHERE WHAT IT READS IS OF BULK AT MOST 1048576: true; the input reads as it did. -/
def lexReadsUptoRow : OpenClaim := { program := "yteijndfacjgfbaadoor", sum := "69ccbd2e36ad7d5a66cfd8e4d86932ee8f162e66d1dfdced27ebec526fcf8513", func := "gramarye/gramaryelaw04.LexReads", spec := "lexReads", inPlace := ["internal/bytealg.IndexByteString"], named := ["gramarye/name.keywords", "internal/strconv.uint64pow10", "math/bits.deBruijn32tab", "math/bits.deBruijn64tab"], apart := false, laid := [("math/bits.deBruijn32tab", laid_math_bits_deBruijn32tab), ("math/bits.deBruijn64tab", laid_math_bits_deBruijn64tab), ("internal/strconv.uint64pow10", laid_internal_strconv_uint64pow10), ("gramarye/name.keywords", laid_gramarye_name_keywords)], narrowed := true }
def LexReadsUptoSaid : Prop := lexReadsUptoRow.holds Tryd.pinned (OpenSpec.upto lexReadsSpec)

/-- 'gramaryelaw04.LexAgain', WHERE WHAT IT READS IS OF BULK AT MOST 1048576: true; the input reads as it did. -/
def lexAgainUptoRow : OpenClaim := { program := "yteijndfacjgfbaadoor", sum := "69ccbd2e36ad7d5a66cfd8e4d86932ee8f162e66d1dfdced27ebec526fcf8513", func := "gramarye/gramaryelaw04.LexAgain", spec := "lexAgain", inPlace := ["internal/bytealg.IndexByteString"], named := ["gramarye/name.keywords", "internal/strconv.uint64pow10", "math/bits.deBruijn32tab", "math/bits.deBruijn64tab"], apart := false, laid := [("math/bits.deBruijn32tab", laid_math_bits_deBruijn32tab), ("math/bits.deBruijn64tab", laid_math_bits_deBruijn64tab), ("internal/strconv.uint64pow10", laid_internal_strconv_uint64pow10), ("gramarye/name.keywords", laid_gramarye_name_keywords)], narrowed := true }
def LexAgainUptoSaid : Prop := lexAgainUptoRow.holds Tryd.pinned (OpenSpec.upto lexAgainSpec)

/-- 'gramaryelaw05.GramMays', WHERE WHAT IT READS IS OF BULK AT MOST 1048576: true; the input reads as it did. -/
def gramMaysUptoRow : OpenClaim := { program := "yteijndfacjgfbaadoor", sum := "69ccbd2e36ad7d5a66cfd8e4d86932ee8f162e66d1dfdced27ebec526fcf8513", func := "gramarye/gramaryelaw05.GramMays", spec := "gramMays", unfollowed := true, recurses := true, named := ["gramarye/name.keywords"], apart := false, laid := [("gramarye/name.keywords", laid_gramarye_name_keywords)], narrowed := true }
def GramMaysUptoSaid : Prop := gramMaysUptoRow.holds Tryd.pinned (OpenSpec.upto gramMaysSpec)

/-- 'gramaryelaw05.GramSame', WHERE WHAT IT READS IS OF BULK AT MOST 1048576: true; the input reads as it did. -/
def gramSameUptoRow : OpenClaim := { program := "yteijndfacjgfbaadoor", sum := "69ccbd2e36ad7d5a66cfd8e4d86932ee8f162e66d1dfdced27ebec526fcf8513", func := "gramarye/gramaryelaw05.GramSame", spec := "gramSame", unfollowed := true, recurses := true, named := ["gramarye/name.keywords"], apart := false, laid := [("gramarye/name.keywords", laid_gramarye_name_keywords)], narrowed := true }
def GramSameUptoSaid : Prop := gramSameUptoRow.holds Tryd.pinned (OpenSpec.upto gramSameSpec)

/-- 'gramaryelaw05.GramStays', WHERE WHAT IT READS IS OF BULK AT MOST 1048576: true; the input reads as it did. -/
def gramStaysUptoRow : OpenClaim := { program := "yteijndfacjgfbaadoor", sum := "69ccbd2e36ad7d5a66cfd8e4d86932ee8f162e66d1dfdced27ebec526fcf8513", func := "gramarye/gramaryelaw05.GramStays", spec := "gramStays", unfollowed := true, recurses := true, named := ["gramarye/name.keywords"], apart := false, laid := [("gramarye/name.keywords", laid_gramarye_name_keywords)], narrowed := true }
def GramStaysUptoSaid : Prop := gramStaysUptoRow.holds Tryd.pinned (OpenSpec.upto gramStaysSpec)

end Rows
end Go.Proofs.YteijndfacjgfbaaDoor
