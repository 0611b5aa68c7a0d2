/-
  No cell of these rows narrows 'for every input' (looked for: loops, veiled, ifaces, maps, wideKeys, modest, calm, conditions, laid).
  DERIVED. THE GIVEN ROWS OF THIS SEAT. 6 by the template 'for every input the law returns true; each argument reads behind the call as it read before'; 0 by the template 'total and deterministic' (their statements: YtbmaappambmhoaaTotals.lean).
  GIVEN WITH THE SEED: the statements are not yours to turn. If you find one false, say at which input.
  Laid BY PROGRAM, IN A SANDBOX (cutbox-rows.mjs): the forced cells as the released guide's own fill.sh prints them over the translation fbf19cc7110715e5… (all of the seat's roots in one cut). By AI agents, Wed Nov 11 2026. No macro, syntax, notation, axiom, sorry.
-/
import Derived.Test.YtbmaappambmhoaaChecked
import GoSem.Claim
import GoSem.ClaimJoined
import GoSem.ClaimMapViews
import Derived.JoinedTies
import Derived.KernelRfl
namespace Go.Proofs.Ytbmaappambmhoaa
/- THE CELL 'sum', in the pinned program and in every row, IS THE sha256 OF THE DUMP (.gsa) THAT YtbmaappambmhoaaProg.lean LOADS. Nothing in Lean hashes anything: it is a label: what it is worth is what the hold of that sum in a sandbox is worth. -/
noncomputable def Try.pinned : Pinned := { name := "ytbmaappambmhoaa", sum := "fbf19cc7110715e52c49751be74ed80cee00e2a06ec5ed9d89b61971bdbd1b7f", checked := Try.checked }
namespace Rows
def none {H : Type} : Left H := { results := [], args := [] }

/-- 'gramaryelaw13.PackTells': WHATEVER THE INPUT: true; the input reads as it did. -/
def packTellsSpec : ChangeSpec := { name := "packTells", fn := fun _ => fun
  | [d1, d2, d3] => { results := [.lit (.bool true)], args := [d1, d2, d3] }
  | _ => none }
def packTellsRow : OpenClaim := { program := "ytbmaappambmhoaa", sum := "fbf19cc7110715e52c49751be74ed80cee00e2a06ec5ed9d89b61971bdbd1b7f", func := "gramarye/gramaryelaw13.PackTells", spec := "packTells", recurses := true, apart := false }
def PackTellsSaid : Prop := packTellsRow.holds Try.pinned (OpenSpec.ofChange packTellsSpec)

/-- ITS FALSE NEIGHBOUR: 'it returns false'. Refute it at one input. -/
def packTellsWrong : ChangeSpec := { name := "packTells", fn := fun _ => fun
  | [d1, d2, d3] => { results := [.lit (.bool false)], args := [d1, d2, d3] }
  | _ => none }
def PackTellsWrongFalsely : Prop := packTellsRow.holds Try.pinned (OpenSpec.ofChange packTellsWrong)

/-- 'gramaryelaw13.PackCats': WHATEVER THE INPUT: true; the input reads as it did. -/
def packCatsSpec : ChangeSpec := { name := "packCats", fn := fun _ => fun
  | [d1, d2, d3] => { results := [.lit (.bool true)], args := [d1, d2, d3] }
  | _ => none }
def packCatsRow : OpenClaim := { program := "ytbmaappambmhoaa", sum := "fbf19cc7110715e52c49751be74ed80cee00e2a06ec5ed9d89b61971bdbd1b7f", func := "gramarye/gramaryelaw13.PackCats", spec := "packCats", recurses := true, apart := false }
def PackCatsSaid : Prop := packCatsRow.holds Try.pinned (OpenSpec.ofChange packCatsSpec)

/-- ITS FALSE NEIGHBOUR: 'it returns false'. Refute it at one input. -/
def packCatsWrong : ChangeSpec := { name := "packCats", fn := fun _ => fun
  | [d1, d2, d3] => { results := [.lit (.bool false)], args := [d1, d2, d3] }
  | _ => none }
def PackCatsWrongFalsely : Prop := packCatsRow.holds Try.pinned (OpenSpec.ofChange packCatsWrong)

/-- 'gramaryelaw13.PackLaws': WHATEVER THE INPUT: true; the input reads as it did. -/
def packLawsSpec : ChangeSpec := { name := "packLaws", fn := fun _ => fun
  | [d1, d2, d3, d4] => { results := [.lit (.bool true)], args := [d1, d2, d3, d4] }
  | _ => none }
def packLawsRow : OpenClaim := { program := "ytbmaappambmhoaa", sum := "fbf19cc7110715e52c49751be74ed80cee00e2a06ec5ed9d89b61971bdbd1b7f", func := "gramarye/gramaryelaw13.PackLaws", spec := "packLaws", recurses := true, apart := false }
def PackLawsSaid : Prop := packLawsRow.holds Try.pinned (OpenSpec.ofChange packLawsSpec)

/-- ITS FALSE NEIGHBOUR: 'it returns false'. Refute it at one input. -/
def packLawsWrong : ChangeSpec := { name := "packLaws", fn := fun _ => fun
  | [d1, d2, d3, d4] => { results := [.lit (.bool false)], args := [d1, d2, d3, d4] }
  | _ => none }
def PackLawsWrongFalsely : Prop := packLawsRow.holds Try.pinned (OpenSpec.ofChange packLawsWrong)

/-- 'gramaryelaw18.TrieMakes': WHATEVER THE INPUT: true; the input reads as it did. -/
def trieMakesSpec : ChangeSpec := { name := "trieMakes", fn := fun _ => fun
  | [d1, d2] => { results := [.lit (.bool true)], args := [d1, d2] }
  | _ => none }
def trieMakesRow : OpenClaim := { program := "ytbmaappambmhoaa", sum := "fbf19cc7110715e52c49751be74ed80cee00e2a06ec5ed9d89b61971bdbd1b7f", func := "gramarye/gramaryelaw18.TrieMakes", spec := "trieMakes", unfollowed := true, recurses := true, apart := false }
def TrieMakesSaid : Prop := trieMakesRow.holds Try.pinned (OpenSpec.ofChange trieMakesSpec)

/-- ITS FALSE NEIGHBOUR: 'it returns false'. Refute it at one input. -/
def trieMakesWrong : ChangeSpec := { name := "trieMakes", fn := fun _ => fun
  | [d1, d2] => { results := [.lit (.bool false)], args := [d1, d2] }
  | _ => none }
def TrieMakesWrongFalsely : Prop := trieMakesRow.holds Try.pinned (OpenSpec.ofChange trieMakesWrong)

/-- 'gramaryelaw18.TrieChooses': WHATEVER THE INPUT: true; the input reads as it did. -/
def trieChoosesSpec : ChangeSpec := { name := "trieChooses", fn := fun _ => fun
  | [d1, d2, d3] => { results := [.lit (.bool true)], args := [d1, d2, d3] }
  | _ => none }
def trieChoosesRow : OpenClaim := { program := "ytbmaappambmhoaa", sum := "fbf19cc7110715e52c49751be74ed80cee00e2a06ec5ed9d89b61971bdbd1b7f", func := "gramarye/gramaryelaw18.TrieChooses", spec := "trieChooses", unfollowed := true, recurses := true, apart := false }
def TrieChoosesSaid : Prop := trieChoosesRow.holds Try.pinned (OpenSpec.ofChange trieChoosesSpec)

/-- ITS FALSE NEIGHBOUR: 'it returns false'. Refute it at one input. -/
def trieChoosesWrong : ChangeSpec := { name := "trieChooses", fn := fun _ => fun
  | [d1, d2, d3] => { results := [.lit (.bool false)], args := [d1, d2, d3] }
  | _ => none }
def TrieChoosesWrongFalsely : Prop := trieChoosesRow.holds Try.pinned (OpenSpec.ofChange trieChoosesWrong)

/-- 'gramaryelaw18.TrieMays': WHATEVER THE INPUT: true; the input reads as it did. -/
def trieMaysSpec : ChangeSpec := { name := "trieMays", fn := fun _ => fun
  | [d1, d2, d3] => { results := [.lit (.bool true)], args := [d1, d2, d3] }
  | _ => none }
def trieMaysRow : OpenClaim := { program := "ytbmaappambmhoaa", sum := "fbf19cc7110715e52c49751be74ed80cee00e2a06ec5ed9d89b61971bdbd1b7f", func := "gramarye/gramaryelaw18.TrieMays", spec := "trieMays", unfollowed := true, recurses := true, apart := false }
def TrieMaysSaid : Prop := trieMaysRow.holds Try.pinned (OpenSpec.ofChange trieMaysSpec)

/-- ITS FALSE NEIGHBOUR: 'it returns false'. Refute it at one input. -/
def trieMaysWrong : ChangeSpec := { name := "trieMays", fn := fun _ => fun
  | [d1, d2, d3] => { results := [.lit (.bool false)], args := [d1, d2, d3] }
  | _ => none }
def TrieMaysWrongFalsely : Prop := trieMaysRow.holds Try.pinned (OpenSpec.ofChange trieMaysWrong)

/- THE SECOND FORM. 'bulk': how many values and letters a reading holds, each counted each time it is reached (what is shared counts as often as it is met; a slice's spare places count too). A statement '..UptoSaid' is the law's where the arguments, and the package variables that the reading takes, are together of bulk at most 1048576: NARROWER than '..Said'. Prove '..Said' where nothing that the law and all that it calls make is longer than what came in: it says more and counts as full. Else prove '..UptoSaid'. A law counts once. -/
mutual
def uptoBulk {H : Type} : DataW H → Nat
  | .lit (.string bytes) => bytes.length + 1
  | .lit _ => 1
  | .nil => 1
  | .ptr d => uptoBulk d + 1
  | .slice elems spare => uptoBulkAll elems + uptoBulkAll spare + 1
  | .agg parts => uptoBulkAll parts + 1
  | .iface _ d => uptoBulk d + 1
  | .map entries => uptoBulkEntries entries + 1
  | .held _ => 1
def uptoBulkAll {H : Type} : List (DataW H) → Nat
  | [] => 0
  | d :: r => uptoBulk d + uptoBulkAll r
def uptoBulkEntries {H : Type} : List (Lit × DataW H) → Nat
  | [] => 0
  | x :: r => uptoBulkEntry x + uptoBulkEntries r
def uptoBulkEntry {H : Type} : Lit × DataW H → Nat
  | (.string bytes, d) => bytes.length + uptoBulk d + 1
  | (_, d) => uptoBulk d + 1
 end
def uptoSmall : (H : Type) → List (DataW H) → Bool := fun _ ds => decide (uptoBulkAll ds ≤ 1048576)
def OpenSpec.upto (s : _root_.Go.ChangeSpec) : _root_.Go.OpenSpec := { _root_.Go.OpenSpec.ofChange s with cond := some uptoSmall }

/-- 'gramaryelaw13.PackTells', WHERE WHAT IT READS IS OF BULK AT MOST 1048576: true; the input reads as it did. -/
def packTellsUptoRow : OpenClaim := { program := "ytbmaappambmhoaa", sum := "fbf19cc7110715e52c49751be74ed80cee00e2a06ec5ed9d89b61971bdbd1b7f", func := "gramarye/gramaryelaw13.PackTells", spec := "packTells", recurses := true, apart := false, narrowed := true }
def PackTellsUptoSaid : Prop := packTellsUptoRow.holds Try.pinned (OpenSpec.upto packTellsSpec)

/-- 'gramaryelaw13.PackCats', WHERE WHAT IT READS IS OF BULK AT MOST 1048576: true; the input reads as it did. -/
def packCatsUptoRow : OpenClaim := { program := "ytbmaappambmhoaa", sum := "fbf19cc7110715e52c49751be74ed80cee00e2a06ec5ed9d89b61971bdbd1b7f", func := "gramarye/gramaryelaw13.PackCats", spec := "packCats", recurses := true, apart := false, narrowed := true }
def PackCatsUptoSaid : Prop := packCatsUptoRow.holds Try.pinned (OpenSpec.upto packCatsSpec)

/-- 'gramaryelaw13.PackLaws', WHERE WHAT IT READS IS OF BULK AT MOST 1048576: true; the input reads as it did. -/
def packLawsUptoRow : OpenClaim := { program := "ytbmaappambmhoaa", sum := "fbf19cc7110715e52c49751be74ed80cee00e2a06ec5ed9d89b61971bdbd1b7f", func := "gramarye/gramaryelaw13.PackLaws", spec := "packLaws", recurses := true, apart := false, narrowed := true }
def PackLawsUptoSaid : Prop := packLawsUptoRow.holds Try.pinned (OpenSpec.upto packLawsSpec)

/-- 'gramaryelaw18.TrieMakes', WHERE WHAT IT READS IS OF BULK AT MOST 1048576: true; the input reads as it did. -/
def trieMakesUptoRow : OpenClaim := { program := "ytbmaappambmhoaa", sum := "fbf19cc7110715e52c49751be74ed80cee00e2a06ec5ed9d89b61971bdbd1b7f", func := "gramarye/gramaryelaw18.TrieMakes", spec := "trieMakes", unfollowed := true, recurses := true, apart := false, narrowed := true }
def TrieMakesUptoSaid : Prop := trieMakesUptoRow.holds Try.pinned (OpenSpec.upto trieMakesSpec)

/-- 'gramaryelaw18.TrieChooses', WHERE WHAT IT READS IS OF BULK AT MOST 1048576: true; the input reads as it did. -/
def trieChoosesUptoRow : OpenClaim := { program := "ytbmaappambmhoaa", sum := "fbf19cc7110715e52c49751be74ed80cee00e2a06ec5ed9d89b61971bdbd1b7f", func := "gramarye/gramaryelaw18.TrieChooses", spec := "trieChooses", unfollowed := true, recurses := true, apart := false, narrowed := true }
def TrieChoosesUptoSaid : Prop := trieChoosesUptoRow.holds Try.pinned (OpenSpec.upto trieChoosesSpec)

/-- 'gramaryelaw18.TrieMays', WHERE WHAT IT READS IS OF BULK AT MOST 1048576: true; the input reads as it did. -/
def trieMaysUptoRow : OpenClaim := { program := "ytbmaappambmhoaa", sum := "fbf19cc7110715e52c49751be74ed80cee00e2a06ec5ed9d89b61971bdbd1b7f", func := "gramarye/gramaryelaw18.TrieMays", spec := "trieMays", unfollowed := true, recurses := true, apart := false, narrowed := true }
def TrieMaysUptoSaid : Prop := trieMaysUptoRow.holds Try.pinned (OpenSpec.upto trieMaysSpec)

end Rows
end Go.Proofs.Ytbmaappambmhoaa
