/-
  No cell of these rows narrows 'for every input' (looked for: loops, veiled, ifaces, maps, wideKeys, modest, calm, conditions, laid).
  DERIVED. THE GIVEN ROWS OF THIS SEAT. 7 by the template 'for every input the law returns true; each argument reads behind the call as it read before'; 0 by the template 'total and deterministic' (their statements: YtimgnbacgdmiiaaTotals.lean).
  GIVEN WITH THE SEED: the statements are not yours to turn. If you find one false, say at which input.
  Laid BY PROGRAM, IN A SANDBOX (cutbox-rows.mjs): the forced cells as the released guide's own fill.sh prints them over the translation bd480eeabcd48f2a… (all of the seat's roots in one cut). By AI agents, Wed Nov 11 2026. No macro, syntax, notation, axiom, sorry.
-/
import Derived.Test.YtimgnbacgdmiiaaChecked
import GoSem.Claim
import GoSem.ClaimJoined
import GoSem.ClaimMapViews
import Derived.JoinedTies
import Derived.KernelRfl
namespace Go.Proofs.Ytimgnbacgdmiiaa
/- THE CELL 'sum', in the pinned program and in every row, IS THE sha256 OF THE DUMP (.gsa) THAT YtimgnbacgdmiiaaProg.lean LOADS. Nothing in Lean hashes anything: it is a label: what it is worth is what the hold of that sum in a sandbox is worth. -/
noncomputable def Try.pinned : Pinned := { name := "ytimgnbacgdmiiaa", sum := "bd480eeabcd48f2acd61b78694d0af4d64956485b79702597a4033f692662364", checked := Try.checked }
namespace Rows
def none {H : Type} : Left H := { results := [], args := [] }

/-- 'gramaryelaw14.FirstOf': WHATEVER THE INPUT: true; the input reads as it did. -/
def firstOfSpec : ChangeSpec := { name := "firstOf", fn := fun _ => fun
  | [d] => { results := [.lit (.bool true)], args := [d] }
  | _ => none }
def firstOfRow : OpenClaim := { program := "ytimgnbacgdmiiaa", sum := "bd480eeabcd48f2acd61b78694d0af4d64956485b79702597a4033f692662364", func := "gramarye/gramaryelaw14.FirstOf", spec := "firstOf", unfollowed := true, recurses := true, plainKeys := false, apart := false }
def FirstOfSaid : Prop := firstOfRow.holds Try.pinned (OpenSpec.ofChange firstOfSpec)

/-- ITS FALSE NEIGHBOUR: 'it returns false'. Refute it at one input. -/
def firstOfWrong : ChangeSpec := { name := "firstOf", fn := fun _ => fun
  | [d] => { results := [.lit (.bool false)], args := [d] }
  | _ => none }
def FirstOfWrongFalsely : Prop := firstOfRow.holds Try.pinned (OpenSpec.ofChange firstOfWrong)

/-- 'gramaryelaw14.FirstRows': WHATEVER THE INPUT: true; the input reads as it did. -/
def firstRowsSpec : ChangeSpec := { name := "firstRows", fn := fun _ => fun
  | [d1, d2] => { results := [.lit (.bool true)], args := [d1, d2] }
  | _ => none }
def firstRowsRow : OpenClaim := { program := "ytimgnbacgdmiiaa", sum := "bd480eeabcd48f2acd61b78694d0af4d64956485b79702597a4033f692662364", func := "gramarye/gramaryelaw14.FirstRows", spec := "firstRows", unfollowed := true, recurses := true, plainKeys := false, apart := false }
def FirstRowsSaid : Prop := firstRowsRow.holds Try.pinned (OpenSpec.ofChange firstRowsSpec)

/-- ITS FALSE NEIGHBOUR: 'it returns false'. Refute it at one input. -/
def firstRowsWrong : ChangeSpec := { name := "firstRows", fn := fun _ => fun
  | [d1, d2] => { results := [.lit (.bool false)], args := [d1, d2] }
  | _ => none }
def FirstRowsWrongFalsely : Prop := firstRowsRow.holds Try.pinned (OpenSpec.ofChange firstRowsWrong)

/-- 'gramaryelaw14.FirstWords': WHATEVER THE INPUT: true; the input reads as it did. -/
def firstWordsSpec : ChangeSpec := { name := "firstWords", fn := fun _ => fun
  | [d1, d2, d3] => { results := [.lit (.bool true)], args := [d1, d2, d3] }
  | _ => none }
def firstWordsRow : OpenClaim := { program := "ytimgnbacgdmiiaa", sum := "bd480eeabcd48f2acd61b78694d0af4d64956485b79702597a4033f692662364", func := "gramarye/gramaryelaw14.FirstWords", spec := "firstWords", unfollowed := true, recurses := true, plainKeys := false, apart := false }
def FirstWordsSaid : Prop := firstWordsRow.holds Try.pinned (OpenSpec.ofChange firstWordsSpec)

/-- ITS FALSE NEIGHBOUR: 'it returns false'. Refute it at one input. -/
def firstWordsWrong : ChangeSpec := { name := "firstWords", fn := fun _ => fun
  | [d1, d2, d3] => { results := [.lit (.bool false)], args := [d1, d2, d3] }
  | _ => none }
def FirstWordsWrongFalsely : Prop := firstWordsRow.holds Try.pinned (OpenSpec.ofChange firstWordsWrong)

/-- 'gramaryelaw14.FirstAll': WHATEVER THE INPUT: true; the input reads as it did. -/
def firstAllSpec : ChangeSpec := { name := "firstAll", fn := fun _ => fun
  | [d] => { results := [.lit (.bool true)], args := [d] }
  | _ => none }
def firstAllRow : OpenClaim := { program := "ytimgnbacgdmiiaa", sum := "bd480eeabcd48f2acd61b78694d0af4d64956485b79702597a4033f692662364", func := "gramarye/gramaryelaw14.FirstAll", spec := "firstAll", unfollowed := true, recurses := true, plainKeys := false, apart := false }
def FirstAllSaid : Prop := firstAllRow.holds Try.pinned (OpenSpec.ofChange firstAllSpec)

/-- ITS FALSE NEIGHBOUR: 'it returns false'. Refute it at one input. -/
def firstAllWrong : ChangeSpec := { name := "firstAll", fn := fun _ => fun
  | [d] => { results := [.lit (.bool false)], args := [d] }
  | _ => none }
def FirstAllWrongFalsely : Prop := firstAllRow.holds Try.pinned (OpenSpec.ofChange firstAllWrong)

/-- 'gramaryelaw15.FollowOf': WHATEVER THE INPUT: true; the input reads as it did. -/
def followOfSpec : ChangeSpec := { name := "followOf", fn := fun _ => fun
  | [d1, d2] => { results := [.lit (.bool true)], args := [d1, d2] }
  | _ => none }
def followOfRow : OpenClaim := { program := "ytimgnbacgdmiiaa", sum := "bd480eeabcd48f2acd61b78694d0af4d64956485b79702597a4033f692662364", func := "gramarye/gramaryelaw15.FollowOf", spec := "followOf", inPlace := ["internal/abi.NoEscape", "internal/bytealg.MakeNoZero"], unfollowed := true, recurses := true, plainKeys := false, apart := false }
def FollowOfSaid : Prop := followOfRow.holds Try.pinned (OpenSpec.ofChange followOfSpec)

/-- ITS FALSE NEIGHBOUR: 'it returns false'. Refute it at one input. -/
def followOfWrong : ChangeSpec := { name := "followOf", fn := fun _ => fun
  | [d1, d2] => { results := [.lit (.bool false)], args := [d1, d2] }
  | _ => none }
def FollowOfWrongFalsely : Prop := followOfRow.holds Try.pinned (OpenSpec.ofChange followOfWrong)

/-- 'gramaryelaw15.FollowWhole': WHATEVER THE INPUT: true; the input reads as it did. -/
def followWholeSpec : ChangeSpec := { name := "followWhole", fn := fun _ => fun
  | [d] => { results := [.lit (.bool true)], args := [d] }
  | _ => none }
def followWholeRow : OpenClaim := { program := "ytimgnbacgdmiiaa", sum := "bd480eeabcd48f2acd61b78694d0af4d64956485b79702597a4033f692662364", func := "gramarye/gramaryelaw15.FollowWhole", spec := "followWhole", inPlace := ["internal/abi.NoEscape", "internal/bytealg.MakeNoZero"], unfollowed := true, recurses := true, plainKeys := false, apart := false }
def FollowWholeSaid : Prop := followWholeRow.holds Try.pinned (OpenSpec.ofChange followWholeSpec)

/-- ITS FALSE NEIGHBOUR: 'it returns false'. Refute it at one input. -/
def followWholeWrong : ChangeSpec := { name := "followWhole", fn := fun _ => fun
  | [d] => { results := [.lit (.bool false)], args := [d] }
  | _ => none }
def FollowWholeWrongFalsely : Prop := followWholeRow.holds Try.pinned (OpenSpec.ofChange followWholeWrong)

/-- 'gramaryelaw16.GuessWords': WHATEVER THE INPUT: true; the input reads as it did. -/
def guessWordsSpec : ChangeSpec := { name := "guessWords", fn := fun _ => fun
  | [d] => { results := [.lit (.bool true)], args := [d] }
  | _ => none }
def guessWordsRow : OpenClaim := { program := "ytimgnbacgdmiiaa", sum := "bd480eeabcd48f2acd61b78694d0af4d64956485b79702597a4033f692662364", func := "gramarye/gramaryelaw16.GuessWords", spec := "guessWords", inPlace := ["internal/abi.NoEscape", "internal/bytealg.MakeNoZero"], unfollowed := true, recurses := true, plainKeys := false, apart := false }
def GuessWordsSaid : Prop := guessWordsRow.holds Try.pinned (OpenSpec.ofChange guessWordsSpec)

/-- ITS FALSE NEIGHBOUR: 'it returns false'. Refute it at one input. -/
def guessWordsWrong : ChangeSpec := { name := "guessWords", fn := fun _ => fun
  | [d] => { results := [.lit (.bool false)], args := [d] }
  | _ => none }
def GuessWordsWrongFalsely : Prop := guessWordsRow.holds Try.pinned (OpenSpec.ofChange guessWordsWrong)

/- THE SECOND FORM. 'bulk': how many values and letters a reading holds, each counted each time it is reached (what is shared counts as often as it is met; a slice's spare places count too). A statement '..UptoSaid' is the law's where the arguments, and the package variables that the reading takes, are together of bulk at most 1048576: NARROWER than '..Said'. Prove '..Said' where nothing that the law and all that it calls make is longer than what came in: it says more and counts as full. Else prove '..UptoSaid'. A law counts once. -/
mutual
def uptoBulk {H : Type} : DataW H → Nat
  | .lit (.string bytes) => bytes.length + 1
  | .lit _ => 1
  | .nil => 1
  | .ptr d => uptoBulk d + 1
  | .slice elems spare => uptoBulkAll elems + uptoBulkAll spare + 1
  | .agg parts => uptoBulkAll parts + 1
  | .iface _ d => uptoBulk d + 1
  | .map entries => uptoBulkEntries entries + 1
  | .held _ => 1
def uptoBulkAll {H : Type} : List (DataW H) → Nat
  | [] => 0
  | d :: r => uptoBulk d + uptoBulkAll r
def uptoBulkEntries {H : Type} : List (Lit × DataW H) → Nat
  | [] => 0
  | x :: r => uptoBulkEntry x + uptoBulkEntries r
def uptoBulkEntry {H : Type} : Lit × DataW H → Nat
  | (.string bytes, d) => bytes.length + uptoBulk d + 1
  | (_, d) => uptoBulk d + 1
 end
def uptoSmall : (H : Type) → List (DataW H) → Bool := fun _ ds => decide (uptoBulkAll ds ≤ 1048576)
def OpenSpec.upto (s : _root_.Go.ChangeSpec) : _root_.Go.OpenSpec := { _root_.Go.OpenSpec.ofChange s with cond := some uptoSmall }

/-- 'gramaryelaw14.FirstOf', WHERE WHAT IT READS IS OF BULK AT MOST 1048576: true; the input reads as it did. -/
def firstOfUptoRow : OpenClaim := { program := "ytimgnbacgdmiiaa", sum := "bd480eeabcd48f2acd61b78694d0af4d64956485b79702597a4033f692662364", func := "gramarye/gramaryelaw14.FirstOf", spec := "firstOf", unfollowed := true, recurses := true, plainKeys := false, apart := false, narrowed := true }
def FirstOfUptoSaid : Prop := firstOfUptoRow.holds Try.pinned (OpenSpec.upto firstOfSpec)

/-- 'gramaryelaw14.FirstRows', WHERE WHAT IT READS IS OF BULK AT MOST 1048576: true; the input reads as it did. -/
def firstRowsUptoRow : OpenClaim := { program := "ytimgnbacgdmiiaa", sum := "bd480eeabcd48f2acd61b78694d0af4d64956485b79702597a4033f692662364", func := "gramarye/gramaryelaw14.FirstRows", spec := "firstRows", unfollowed := true, recurses := true, plainKeys := false, apart := false, narrowed := true }
def FirstRowsUptoSaid : Prop := firstRowsUptoRow.holds Try.pinned (OpenSpec.upto firstRowsSpec)

/-- 'gramaryelaw14.FirstWords', WHERE WHAT IT READS IS OF BULK AT MOST 1048576: true; the input reads as it did. -/
def firstWordsUptoRow : OpenClaim := { program := "ytimgnbacgdmiiaa", sum := "bd480eeabcd48f2acd61b78694d0af4d64956485b79702597a4033f692662364", func := "gramarye/gramaryelaw14.FirstWords", spec := "firstWords", unfollowed := true, recurses := true, plainKeys := false, apart := false, narrowed := true }
def FirstWordsUptoSaid : Prop := firstWordsUptoRow.holds Try.pinned (OpenSpec.upto firstWordsSpec)

/-- 'gramaryelaw14.FirstAll', WHERE WHAT IT READS IS OF BULK AT MOST 1048576: true; the input reads as it did. -/
def firstAllUptoRow : OpenClaim := { program := "ytimgnbacgdmiiaa", sum := "bd480eeabcd48f2acd61b78694d0af4d64956485b79702597a4033f692662364", func := "gramarye/gramaryelaw14.FirstAll", spec := "firstAll", unfollowed := true, recurses := true, plainKeys := false, apart := false, narrowed := true }
def FirstAllUptoSaid : Prop := firstAllUptoRow.holds Try.pinned (OpenSpec.upto firstAllSpec)

/-- 'gramaryelaw15.FollowOf', WHERE WHAT IT READS IS OF BULK AT MOST 1048576: true; the input reads as it did. -/
def followOfUptoRow : OpenClaim := { program := "ytimgnbacgdmiiaa", sum := "bd480eeabcd48f2acd61b78694d0af4d64956485b79702597a4033f692662364", func := "gramarye/gramaryelaw15.FollowOf", spec := "followOf", inPlace := ["internal/abi.NoEscape", "internal/bytealg.MakeNoZero"], unfollowed := true, recurses := true, plainKeys := false, apart := false, narrowed := true }
def FollowOfUptoSaid : Prop := followOfUptoRow.holds Try.pinned (OpenSpec.upto followOfSpec)

/-- 'gramaryelaw15.FollowWhole', WHERE WHAT IT READS IS OF BULK AT MOST 1048576: true; the input reads as it did. -/
def followWholeUptoRow : OpenClaim := { program := "ytimgnbacgdmiiaa", sum := "bd480eeabcd48f2acd61b78694d0af4d64956485b79702597a4033f692662364", func := "gramarye/gramaryelaw15.FollowWhole", spec := "followWhole", inPlace := ["internal/abi.NoEscape", "internal/bytealg.MakeNoZero"], unfollowed := true, recurses := true, plainKeys := false, apart := false, narrowed := true }
def FollowWholeUptoSaid : Prop := followWholeUptoRow.holds Try.pinned (OpenSpec.upto followWholeSpec)

/-- 'gramaryelaw16.GuessWords', WHERE WHAT IT READS IS OF BULK AT MOST 1048576: true; the input reads as it did. -/
def guessWordsUptoRow : OpenClaim := { program := "ytimgnbacgdmiiaa", sum := "bd480eeabcd48f2acd61b78694d0af4d64956485b79702597a4033f692662364", func := "gramarye/gramaryelaw16.GuessWords", spec := "guessWords", inPlace := ["internal/abi.NoEscape", "internal/bytealg.MakeNoZero"], unfollowed := true, recurses := true, plainKeys := false, apart := false, narrowed := true }
def GuessWordsUptoSaid : Prop := guessWordsUptoRow.holds Try.pinned (OpenSpec.upto guessWordsSpec)

end Rows
end Go.Proofs.Ytimgnbacgdmiiaa
