/-
  No cell of these rows narrows 'for every input' (looked for: loops, veiled, ifaces, maps, wideKeys, modest, calm, conditions, laid).
  DERIVED. THE GIVEN ROWS OF THIS SEAT. 5 by the template 'for every input the law returns true; each argument reads behind the call as it read before'; 0 by the template 'total and deterministic' (their statements: YtjfehnjkijecpaaTotals.lean).
  GIVEN WITH THE SEED: the statements are not yours to turn. If you find one false, say at which input.
  Laid BY PROGRAM, IN A SANDBOX (cutbox-rows.mjs): the forced cells as the released guide's own fill.sh prints them over the translation 1b1326952f7f6fe2… (all of the seat's roots in one cut). By AI agents, Wed Nov 11 2026. No macro, syntax, notation, axiom, sorry.
-/
import Derived.Test.YtjfehnjkijecpaaChecked
import GoSem.Claim
import GoSem.ClaimJoined
import GoSem.ClaimMapViews
import Derived.JoinedTies
import Derived.KernelRfl
namespace Go.Proofs.Ytjfehnjkijecpaa
/- THE CELL 'sum', in the pinned program and in every row, IS THE sha256 OF THE DUMP (.gsa) THAT YtjfehnjkijecpaaProg.lean LOADS. Nothing in Lean hashes anything: it is a label: what it is worth is what the hold of that sum in a sandbox is worth. -/
noncomputable def Try.pinned : Pinned := { name := "ytjfehnjkijecpaa", sum := "1b1326952f7f6fe27c04ae43bc13487fbf5c7888abea518dd0cb36814927098c", checked := Try.checked }
namespace Rows
def none {H : Type} : Left H := { results := [], args := [] }

/-- 'gramaryelaw01.PlaceOf': WHATEVER THE INPUT: true; the input reads as it did. -/
def placeOfSpec : ChangeSpec := { name := "placeOf", fn := fun _ => fun
  | [d1, d2] => { results := [.lit (.bool true)], args := [d1, d2] }
  | _ => none }
def placeOfRow : OpenClaim := { program := "ytjfehnjkijecpaa", sum := "1b1326952f7f6fe27c04ae43bc13487fbf5c7888abea518dd0cb36814927098c", func := "gramarye/gramaryelaw01.PlaceOf", spec := "placeOf", apart := false }
def PlaceOfSaid : Prop := placeOfRow.holds Try.pinned (OpenSpec.ofChange placeOfSpec)

/-- ITS FALSE NEIGHBOUR: 'it returns false'. Refute it at one input. -/
def placeOfWrong : ChangeSpec := { name := "placeOf", fn := fun _ => fun
  | [d1, d2] => { results := [.lit (.bool false)], args := [d1, d2] }
  | _ => none }
def PlaceOfWrongFalsely : Prop := placeOfRow.holds Try.pinned (OpenSpec.ofChange placeOfWrong)

/-- 'gramaryelaw01.PlaceAt': WHATEVER THE INPUT: true; the input reads as it did. -/
def placeAtSpec : ChangeSpec := { name := "placeAt", fn := fun _ => fun
  | [d1, d2, d3] => { results := [.lit (.bool true)], args := [d1, d2, d3] }
  | _ => none }
def placeAtRow : OpenClaim := { program := "ytjfehnjkijecpaa", sum := "1b1326952f7f6fe27c04ae43bc13487fbf5c7888abea518dd0cb36814927098c", func := "gramarye/gramaryelaw01.PlaceAt", spec := "placeAt", apart := false }
def PlaceAtSaid : Prop := placeAtRow.holds Try.pinned (OpenSpec.ofChange placeAtSpec)

/-- ITS FALSE NEIGHBOUR: 'it returns false'. Refute it at one input. -/
def placeAtWrong : ChangeSpec := { name := "placeAt", fn := fun _ => fun
  | [d1, d2, d3] => { results := [.lit (.bool false)], args := [d1, d2, d3] }
  | _ => none }
def PlaceAtWrongFalsely : Prop := placeAtRow.holds Try.pinned (OpenSpec.ofChange placeAtWrong)

/-- 'gramaryelaw12.TupleTells': WHATEVER THE INPUT: true; the input reads as it did. -/
def tupleTellsSpec : ChangeSpec := { name := "tupleTells", fn := fun _ => fun
  | [d1, d2, d3, d4] => { results := [.lit (.bool true)], args := [d1, d2, d3, d4] }
  | _ => none }
def tupleTellsRow : OpenClaim := { program := "ytjfehnjkijecpaa", sum := "1b1326952f7f6fe27c04ae43bc13487fbf5c7888abea518dd0cb36814927098c", func := "gramarye/gramaryelaw12.TupleTells", spec := "tupleTells", apart := false }
def TupleTellsSaid : Prop := tupleTellsRow.holds Try.pinned (OpenSpec.ofChange tupleTellsSpec)

/-- ITS FALSE NEIGHBOUR: 'it returns false'. Refute it at one input. -/
def tupleTellsWrong : ChangeSpec := { name := "tupleTells", fn := fun _ => fun
  | [d1, d2, d3, d4] => { results := [.lit (.bool false)], args := [d1, d2, d3, d4] }
  | _ => none }
def TupleTellsWrongFalsely : Prop := tupleTellsRow.holds Try.pinned (OpenSpec.ofChange tupleTellsWrong)

/-- 'gramaryelaw12.TupleAt': WHATEVER THE INPUT: true; the input reads as it did. -/
def tupleAtSpec : ChangeSpec := { name := "tupleAt", fn := fun _ => fun
  | [d1, d2, d3, d4, d5] => { results := [.lit (.bool true)], args := [d1, d2, d3, d4, d5] }
  | _ => none }
def tupleAtRow : OpenClaim := { program := "ytjfehnjkijecpaa", sum := "1b1326952f7f6fe27c04ae43bc13487fbf5c7888abea518dd0cb36814927098c", func := "gramarye/gramaryelaw12.TupleAt", spec := "tupleAt", inPlace := ["internal/abi.NoEscape", "internal/bytealg.MakeNoZero"], apart := false }
def TupleAtSaid : Prop := tupleAtRow.holds Try.pinned (OpenSpec.ofChange tupleAtSpec)

/-- ITS FALSE NEIGHBOUR: 'it returns false'. Refute it at one input. -/
def tupleAtWrong : ChangeSpec := { name := "tupleAt", fn := fun _ => fun
  | [d1, d2, d3, d4, d5] => { results := [.lit (.bool false)], args := [d1, d2, d3, d4, d5] }
  | _ => none }
def TupleAtWrongFalsely : Prop := tupleAtRow.holds Try.pinned (OpenSpec.ofChange tupleAtWrong)

/-- 'gramaryelaw12.TupleWhole': WHATEVER THE INPUT: true; the input reads as it did. -/
def tupleWholeSpec : ChangeSpec := { name := "tupleWhole", fn := fun _ => fun
  | [d1, d2, d3, d4, d5] => { results := [.lit (.bool true)], args := [d1, d2, d3, d4, d5] }
  | _ => none }
def tupleWholeRow : OpenClaim := { program := "ytjfehnjkijecpaa", sum := "1b1326952f7f6fe27c04ae43bc13487fbf5c7888abea518dd0cb36814927098c", func := "gramarye/gramaryelaw12.TupleWhole", spec := "tupleWhole", apart := false }
def TupleWholeSaid : Prop := tupleWholeRow.holds Try.pinned (OpenSpec.ofChange tupleWholeSpec)

/-- ITS FALSE NEIGHBOUR: 'it returns false'. Refute it at one input. -/
def tupleWholeWrong : ChangeSpec := { name := "tupleWhole", fn := fun _ => fun
  | [d1, d2, d3, d4, d5] => { results := [.lit (.bool false)], args := [d1, d2, d3, d4, d5] }
  | _ => none }
def TupleWholeWrongFalsely : Prop := tupleWholeRow.holds Try.pinned (OpenSpec.ofChange tupleWholeWrong)

/- THE SECOND FORM. 'bulk': how many values and letters a reading holds, each counted each time it is reached (what is shared counts as often as it is met; a slice's spare places count too). A statement '..UptoSaid' is the law's where the arguments, and the package variables that the reading takes, are together of bulk at most 1048576: NARROWER than '..Said'. Prove '..Said' where nothing that the law and all that it calls make is longer than what came in: it says more and counts as full. Else prove '..UptoSaid'. A law counts once. -/
mutual
def uptoBulk {H : Type} : DataW H → Nat
  | .lit (.string bytes) => bytes.length + 1
  | .lit _ => 1
  | .nil => 1
  | .ptr d => uptoBulk d + 1
  | .slice elems spare => uptoBulkAll elems + uptoBulkAll spare + 1
  | .agg parts => uptoBulkAll parts + 1
  | .iface _ d => uptoBulk d + 1
  | .map entries => uptoBulkEntries entries + 1
  | .held _ => 1
def uptoBulkAll {H : Type} : List (DataW H) → Nat
  | [] => 0
  | d :: r => uptoBulk d + uptoBulkAll r
def uptoBulkEntries {H : Type} : List (Lit × DataW H) → Nat
  | [] => 0
  | x :: r => uptoBulkEntry x + uptoBulkEntries r
def uptoBulkEntry {H : Type} : Lit × DataW H → Nat
  | (.string bytes, d) => bytes.length + uptoBulk d + 1
  | (_, d) => uptoBulk d + 1
 end
def uptoSmall : (H : Type) → List (DataW H) → Bool := fun _ ds => decide (uptoBulkAll ds ≤ 1048576)
def OpenSpec.upto (s : _root_.Go.ChangeSpec) : _root_.Go.OpenSpec := { _root_.Go.OpenSpec.ofChange s with cond := some uptoSmall }

/-- 'gramaryelaw01.PlaceOf', WHERE WHAT IT READS IS OF BULK AT MOST 1048576: true; the input reads as it did. -/
def placeOfUptoRow : OpenClaim := { program := "ytjfehnjkijecpaa", sum := "1b1326952f7f6fe27c04ae43bc13487fbf5c7888abea518dd0cb36814927098c", func := "gramarye/gramaryelaw01.PlaceOf", spec := "placeOf", apart := false, narrowed := true }
def PlaceOfUptoSaid : Prop := placeOfUptoRow.holds Try.pinned (OpenSpec.upto placeOfSpec)

/-- 'gramaryelaw01.PlaceAt', WHERE WHAT IT READS IS OF BULK AT MOST 1048576: true; the input reads as it did. -/
def placeAtUptoRow : OpenClaim := { program := "ytjfehnjkijecpaa", sum := "1b1326952f7f6fe27c04ae43bc13487fbf5c7888abea518dd0cb36814927098c", func := "gramarye/gramaryelaw01.PlaceAt", spec := "placeAt", apart := false, narrowed := true }
def PlaceAtUptoSaid : Prop := placeAtUptoRow.holds Try.pinned (OpenSpec.upto placeAtSpec)

/-- 'gramaryelaw12.TupleTells', WHERE WHAT IT READS IS OF BULK AT MOST 1048576: true; the input reads as it did. -/
def tupleTellsUptoRow : OpenClaim := { program := "ytjfehnjkijecpaa", sum := "1b1326952f7f6fe27c04ae43bc13487fbf5c7888abea518dd0cb36814927098c", func := "gramarye/gramaryelaw12.TupleTells", spec := "tupleTells", apart := false, narrowed := true }
def TupleTellsUptoSaid : Prop := tupleTellsUptoRow.holds Try.pinned (OpenSpec.upto tupleTellsSpec)

/-- 'gramaryelaw12.TupleAt', WHERE WHAT IT READS IS OF BULK AT MOST 1048576: true; the input reads as it did. -/
def tupleAtUptoRow : OpenClaim := { program := "ytjfehnjkijecpaa", sum := "1b1326952f7f6fe27c04ae43bc13487fbf5c7888abea518dd0cb36814927098c", func := "gramarye/gramaryelaw12.TupleAt", spec := "tupleAt", inPlace := ["internal/abi.NoEscape", "internal/bytealg.MakeNoZero"], apart := false, narrowed := true }
def TupleAtUptoSaid : Prop := tupleAtUptoRow.holds Try.pinned (OpenSpec.upto tupleAtSpec)

/-- 'gramaryelaw12.TupleWhole', WHERE WHAT IT READS IS OF BULK AT MOST 1048576: true; the input reads as it did. -/
def tupleWholeUptoRow : OpenClaim := { program := "ytjfehnjkijecpaa", sum := "1b1326952f7f6fe27c04ae43bc13487fbf5c7888abea518dd0cb36814927098c", func := "gramarye/gramaryelaw12.TupleWhole", spec := "tupleWhole", apart := false, narrowed := true }
def TupleWholeUptoSaid : Prop := tupleWholeUptoRow.holds Try.pinned (OpenSpec.upto tupleWholeSpec)

end Rows
end Go.Proofs.Ytjfehnjkijecpaa
