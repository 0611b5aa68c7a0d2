/-
  No cell of these rows narrows 'for every input' (looked for: loops, veiled, ifaces, maps, wideKeys, modest, calm, conditions, laid).
  DERIVED. THE GIVEN ROWS OF THIS SEAT. 7 by the template 'for every input the law returns true; each argument reads behind the call as it read before'; 0 by the template 'total and deterministic' (their statements: YtfmcigodfihlcaaTotals.lean).
  GIVEN WITH THE SEED: the statements are not yours to turn. If you find one false, say at which input.
  Laid BY PROGRAM, IN A SANDBOX (cutbox-rows.mjs): the forced cells as the released guide's own fill.sh prints them over the translation 530773e90b4b2f51… (all of the seat's roots in one cut). By AI agents, Wed Nov 11 2026. No macro, syntax, notation, axiom, sorry.
-/
import Derived.Test.YtfmcigodfihlcaaChecked
import GoSem.Claim
import GoSem.ClaimJoined
import GoSem.ClaimMapViews
import Derived.JoinedTies
import Derived.KernelRfl
namespace Go.Proofs.Ytfmcigodfihlcaa
/- THE CELL 'sum', in the pinned program and in every row, IS THE sha256 OF THE DUMP (.gsa) THAT YtfmcigodfihlcaaProg.lean LOADS. Nothing in Lean hashes anything: it is a label: what it is worth is what the hold of that sum in a sandbox is worth. -/
noncomputable def Try.pinned : Pinned := { name := "ytfmcigodfihlcaa", sum := "530773e90b4b2f51e1adb70be2f906d47107321226a4dd7cd1eec7a9c785fe47", checked := Try.checked }
namespace Rows
def none {H : Type} : Left H := { results := [], args := [] }

/-- 'gramaryelaw10.EmptyTells': WHATEVER THE INPUT: true; the input reads as it did. -/
def emptyTellsSpec : ChangeSpec := { name := "emptyTells", fn := fun _ => fun
  | [d1, d2] => { results := [.lit (.bool true)], args := [d1, d2] }
  | _ => none }
def emptyTellsRow : OpenClaim := { program := "ytfmcigodfihlcaa", sum := "530773e90b4b2f51e1adb70be2f906d47107321226a4dd7cd1eec7a9c785fe47", func := "gramarye/gramaryelaw10.EmptyTells", spec := "emptyTells", unfollowed := true, recurses := true, apart := false }
def EmptyTellsSaid : Prop := emptyTellsRow.holds Try.pinned (OpenSpec.ofChange emptyTellsSpec)

/-- ITS FALSE NEIGHBOUR: 'it returns false'. Refute it at one input. -/
def emptyTellsWrong : ChangeSpec := { name := "emptyTells", fn := fun _ => fun
  | [d1, d2] => { results := [.lit (.bool false)], args := [d1, d2] }
  | _ => none }
def EmptyTellsWrongFalsely : Prop := emptyTellsRow.holds Try.pinned (OpenSpec.ofChange emptyTellsWrong)

/-- 'gramaryelaw10.EmptyLeast': WHATEVER THE INPUT: true; the input reads as it did. -/
def emptyLeastSpec : ChangeSpec := { name := "emptyLeast", fn := fun _ => fun
  | [d] => { results := [.lit (.bool true)], args := [d] }
  | _ => none }
def emptyLeastRow : OpenClaim := { program := "ytfmcigodfihlcaa", sum := "530773e90b4b2f51e1adb70be2f906d47107321226a4dd7cd1eec7a9c785fe47", func := "gramarye/gramaryelaw10.EmptyLeast", spec := "emptyLeast", unfollowed := true, recurses := true, apart := false }
def EmptyLeastSaid : Prop := emptyLeastRow.holds Try.pinned (OpenSpec.ofChange emptyLeastSpec)

/-- ITS FALSE NEIGHBOUR: 'it returns false'. Refute it at one input. -/
def emptyLeastWrong : ChangeSpec := { name := "emptyLeast", fn := fun _ => fun
  | [d] => { results := [.lit (.bool false)], args := [d] }
  | _ => none }
def EmptyLeastWrongFalsely : Prop := emptyLeastRow.holds Try.pinned (OpenSpec.ofChange emptyLeastWrong)

/-- 'gramaryelaw10.EmptyAgree': WHATEVER THE INPUT: true; the input reads as it did. -/
def emptyAgreeSpec : ChangeSpec := { name := "emptyAgree", fn := fun _ => fun
  | [d] => { results := [.lit (.bool true)], args := [d] }
  | _ => none }
def emptyAgreeRow : OpenClaim := { program := "ytfmcigodfihlcaa", sum := "530773e90b4b2f51e1adb70be2f906d47107321226a4dd7cd1eec7a9c785fe47", func := "gramarye/gramaryelaw10.EmptyAgree", spec := "emptyAgree", unfollowed := true, recurses := true, apart := false }
def EmptyAgreeSaid : Prop := emptyAgreeRow.holds Try.pinned (OpenSpec.ofChange emptyAgreeSpec)

/-- ITS FALSE NEIGHBOUR: 'it returns false'. Refute it at one input. -/
def emptyAgreeWrong : ChangeSpec := { name := "emptyAgree", fn := fun _ => fun
  | [d] => { results := [.lit (.bool false)], args := [d] }
  | _ => none }
def EmptyAgreeWrongFalsely : Prop := emptyAgreeRow.holds Try.pinned (OpenSpec.ofChange emptyAgreeWrong)

/-- 'gramaryelaw11.ReachTells': WHATEVER THE INPUT: true; the input reads as it did. -/
def reachTellsSpec : ChangeSpec := { name := "reachTells", fn := fun _ => fun
  | [d] => { results := [.lit (.bool true)], args := [d] }
  | _ => none }
def reachTellsRow : OpenClaim := { program := "ytfmcigodfihlcaa", sum := "530773e90b4b2f51e1adb70be2f906d47107321226a4dd7cd1eec7a9c785fe47", func := "gramarye/gramaryelaw11.ReachTells", spec := "reachTells", unfollowed := true, recurses := true, apart := false }
def ReachTellsSaid : Prop := reachTellsRow.holds Try.pinned (OpenSpec.ofChange reachTellsSpec)

/-- ITS FALSE NEIGHBOUR: 'it returns false'. Refute it at one input. -/
def reachTellsWrong : ChangeSpec := { name := "reachTells", fn := fun _ => fun
  | [d] => { results := [.lit (.bool false)], args := [d] }
  | _ => none }
def ReachTellsWrongFalsely : Prop := reachTellsRow.holds Try.pinned (OpenSpec.ofChange reachTellsWrong)

/-- 'gramaryelaw11.ReachLeft': WHATEVER THE INPUT: true; the input reads as it did. -/
def reachLeftSpec : ChangeSpec := { name := "reachLeft", fn := fun _ => fun
  | [d1, d2, d3] => { results := [.lit (.bool true)], args := [d1, d2, d3] }
  | _ => none }
def reachLeftRow : OpenClaim := { program := "ytfmcigodfihlcaa", sum := "530773e90b4b2f51e1adb70be2f906d47107321226a4dd7cd1eec7a9c785fe47", func := "gramarye/gramaryelaw11.ReachLeft", spec := "reachLeft", unfollowed := true, recurses := true, apart := false }
def ReachLeftSaid : Prop := reachLeftRow.holds Try.pinned (OpenSpec.ofChange reachLeftSpec)

/-- ITS FALSE NEIGHBOUR: 'it returns false'. Refute it at one input. -/
def reachLeftWrong : ChangeSpec := { name := "reachLeft", fn := fun _ => fun
  | [d1, d2, d3] => { results := [.lit (.bool false)], args := [d1, d2, d3] }
  | _ => none }
def ReachLeftWrongFalsely : Prop := reachLeftRow.holds Try.pinned (OpenSpec.ofChange reachLeftWrong)

/-- 'gramaryelaw11.ReachWays': WHATEVER THE INPUT: true; the input reads as it did. -/
def reachWaysSpec : ChangeSpec := { name := "reachWays", fn := fun _ => fun
  | [d1, d2] => { results := [.lit (.bool true)], args := [d1, d2] }
  | _ => none }
def reachWaysRow : OpenClaim := { program := "ytfmcigodfihlcaa", sum := "530773e90b4b2f51e1adb70be2f906d47107321226a4dd7cd1eec7a9c785fe47", func := "gramarye/gramaryelaw11.ReachWays", spec := "reachWays", unfollowed := true, recurses := true, apart := false }
def ReachWaysSaid : Prop := reachWaysRow.holds Try.pinned (OpenSpec.ofChange reachWaysSpec)

/-- ITS FALSE NEIGHBOUR: 'it returns false'. Refute it at one input. -/
def reachWaysWrong : ChangeSpec := { name := "reachWays", fn := fun _ => fun
  | [d1, d2] => { results := [.lit (.bool false)], args := [d1, d2] }
  | _ => none }
def ReachWaysWrongFalsely : Prop := reachWaysRow.holds Try.pinned (OpenSpec.ofChange reachWaysWrong)

/-- 'gramaryelaw11.ReachOver': WHATEVER THE INPUT: true; the input reads as it did. -/
def reachOverSpec : ChangeSpec := { name := "reachOver", fn := fun _ => fun
  | [d1, d2, d3, d4] => { results := [.lit (.bool true)], args := [d1, d2, d3, d4] }
  | _ => none }
def reachOverRow : OpenClaim := { program := "ytfmcigodfihlcaa", sum := "530773e90b4b2f51e1adb70be2f906d47107321226a4dd7cd1eec7a9c785fe47", func := "gramarye/gramaryelaw11.ReachOver", spec := "reachOver", unfollowed := true, recurses := true, apart := false }
def ReachOverSaid : Prop := reachOverRow.holds Try.pinned (OpenSpec.ofChange reachOverSpec)

/-- ITS FALSE NEIGHBOUR: 'it returns false'. Refute it at one input. -/
def reachOverWrong : ChangeSpec := { name := "reachOver", fn := fun _ => fun
  | [d1, d2, d3, d4] => { results := [.lit (.bool false)], args := [d1, d2, d3, d4] }
  | _ => none }
def ReachOverWrongFalsely : Prop := reachOverRow.holds Try.pinned (OpenSpec.ofChange reachOverWrong)

/- THE SECOND FORM. 'bulk': how many values and letters a reading holds, each counted each time it is reached (what is shared counts as often as it is met; a slice's spare places count too). A statement '..UptoSaid' is the law's where the arguments, and the package variables that the reading takes, are together of bulk at most 1048576: NARROWER than '..Said'. Prove '..Said' where nothing that the law and all that it calls make is longer than what came in: it says more and counts as full. Else prove '..UptoSaid'. A law counts once. -/
mutual
def uptoBulk {H : Type} : DataW H → Nat
  | .lit (.string bytes) => bytes.length + 1
  | .lit _ => 1
  | .nil => 1
  | .ptr d => uptoBulk d + 1
  | .slice elems spare => uptoBulkAll elems + uptoBulkAll spare + 1
  | .agg parts => uptoBulkAll parts + 1
  | .iface _ d => uptoBulk d + 1
  | .map entries => uptoBulkEntries entries + 1
  | .held _ => 1
def uptoBulkAll {H : Type} : List (DataW H) → Nat
  | [] => 0
  | d :: r => uptoBulk d + uptoBulkAll r
def uptoBulkEntries {H : Type} : List (Lit × DataW H) → Nat
  | [] => 0
  | x :: r => uptoBulkEntry x + uptoBulkEntries r
def uptoBulkEntry {H : Type} : Lit × DataW H → Nat
  | (.string bytes, d) => bytes.length + uptoBulk d + 1
  | (_, d) => uptoBulk d + 1
 end
def uptoSmall : (H : Type) → List (DataW H) → Bool := fun _ ds => decide (uptoBulkAll ds ≤ 1048576)
def OpenSpec.upto (s : _root_.Go.ChangeSpec) : _root_.Go.OpenSpec := { _root_.Go.OpenSpec.ofChange s with cond := some uptoSmall }

/-- 'gramaryelaw10.EmptyTells', WHERE WHAT IT READS IS OF BULK AT MOST 1048576: true; the input reads as it did. -/
def emptyTellsUptoRow : OpenClaim := { program := "ytfmcigodfihlcaa", sum := "530773e90b4b2f51e1adb70be2f906d47107321226a4dd7cd1eec7a9c785fe47", func := "gramarye/gramaryelaw10.EmptyTells", spec := "emptyTells", unfollowed := true, recurses := true, apart := false, narrowed := true }
def EmptyTellsUptoSaid : Prop := emptyTellsUptoRow.holds Try.pinned (OpenSpec.upto emptyTellsSpec)

/-- 'gramaryelaw10.EmptyLeast', WHERE WHAT IT READS IS OF BULK AT MOST 1048576: true; the input reads as it did. -/
def emptyLeastUptoRow : OpenClaim := { program := "ytfmcigodfihlcaa", sum := "530773e90b4b2f51e1adb70be2f906d47107321226a4dd7cd1eec7a9c785fe47", func := "gramarye/gramaryelaw10.EmptyLeast", spec := "emptyLeast", unfollowed := true, recurses := true, apart := false, narrowed := true }
def EmptyLeastUptoSaid : Prop := emptyLeastUptoRow.holds Try.pinned (OpenSpec.upto emptyLeastSpec)

/-- 'gramaryelaw10.EmptyAgree', WHERE WHAT IT READS IS OF BULK AT MOST 1048576: true; the input reads as it did. -/
def emptyAgreeUptoRow : OpenClaim := { program := "ytfmcigodfihlcaa", sum := "530773e90b4b2f51e1adb70be2f906d47107321226a4dd7cd1eec7a9c785fe47", func := "gramarye/gramaryelaw10.EmptyAgree", spec := "emptyAgree", unfollowed := true, recurses := true, apart := false, narrowed := true }
def EmptyAgreeUptoSaid : Prop := emptyAgreeUptoRow.holds Try.pinned (OpenSpec.upto emptyAgreeSpec)

/-- 'gramaryelaw11.ReachTells', WHERE WHAT IT READS IS OF BULK AT MOST 1048576: true; the input reads as it did. -/
def reachTellsUptoRow : OpenClaim := { program := "ytfmcigodfihlcaa", sum := "530773e90b4b2f51e1adb70be2f906d47107321226a4dd7cd1eec7a9c785fe47", func := "gramarye/gramaryelaw11.ReachTells", spec := "reachTells", unfollowed := true, recurses := true, apart := false, narrowed := true }
def ReachTellsUptoSaid : Prop := reachTellsUptoRow.holds Try.pinned (OpenSpec.upto reachTellsSpec)

/-- 'gramaryelaw11.ReachLeft', WHERE WHAT IT READS IS OF BULK AT MOST 1048576: true; the input reads as it did. -/
def reachLeftUptoRow : OpenClaim := { program := "ytfmcigodfihlcaa", sum := "530773e90b4b2f51e1adb70be2f906d47107321226a4dd7cd1eec7a9c785fe47", func := "gramarye/gramaryelaw11.ReachLeft", spec := "reachLeft", unfollowed := true, recurses := true, apart := false, narrowed := true }
def ReachLeftUptoSaid : Prop := reachLeftUptoRow.holds Try.pinned (OpenSpec.upto reachLeftSpec)

/-- 'gramaryelaw11.ReachWays', WHERE WHAT IT READS IS OF BULK AT MOST 1048576: true; the input reads as it did. -/
def reachWaysUptoRow : OpenClaim := { program := "ytfmcigodfihlcaa", sum := "530773e90b4b2f51e1adb70be2f906d47107321226a4dd7cd1eec7a9c785fe47", func := "gramarye/gramaryelaw11.ReachWays", spec := "reachWays", unfollowed := true, recurses := true, apart := false, narrowed := true }
def ReachWaysUptoSaid : Prop := reachWaysUptoRow.holds Try.pinned (OpenSpec.upto reachWaysSpec)

/-- 'gramaryelaw11.ReachOver', WHERE WHAT IT READS IS OF BULK AT MOST 1048576: true; the input reads as it did. -/
def reachOverUptoRow : OpenClaim := { program := "ytfmcigodfihlcaa", sum := "530773e90b4b2f51e1adb70be2f906d47107321226a4dd7cd1eec7a9c785fe47", func := "gramarye/gramaryelaw11.ReachOver", spec := "reachOver", unfollowed := true, recurses := true, apart := false, narrowed := true }
def ReachOverUptoSaid : Prop := reachOverUptoRow.holds Try.pinned (OpenSpec.upto reachOverSpec)

end Rows
end Go.Proofs.Ytfmcigodfihlcaa
