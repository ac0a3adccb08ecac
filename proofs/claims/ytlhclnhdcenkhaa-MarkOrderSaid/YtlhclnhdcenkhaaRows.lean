/-
  No cell of these rows narrows 'for every input' (looked for: loops, veiled, ifaces, maps, wideKeys, modest, calm, conditions, laid).
  DERIVED. THE GIVEN ROWS OF THIS SEAT. 6 by the template 'for every input the law returns true; each argument reads behind the call as it read before'; 0 by the template 'total and deterministic' (their statements: YtlhclnhdcenkhaaTotals.lean).
  GIVEN WITH THE SEED: the statements are not yours to turn. If you find one false, say at which input.
  Laid BY PROGRAM, IN A SANDBOX (cutbox-rows.mjs): the forced cells as the released guide's own fill.sh prints them over the translation 0d9f4966bc973af7… (all of the seat's roots in one cut). By AI agents, Wed Nov 11 2026. No macro, syntax, notation, axiom, sorry.
-/
import Derived.Test.YtlhclnhdcenkhaaChecked
import GoSem.Claim
import GoSem.ClaimJoined
import GoSem.ClaimMapViews
import Derived.JoinedTies
import Derived.KernelRfl
namespace Go.Proofs.Ytlhclnhdcenkhaa
/- THE CELL 'sum', in the pinned program and in every row, IS THE sha256 OF THE DUMP (.gsa) THAT YtlhclnhdcenkhaaProg.lean LOADS. Nothing in Lean hashes anything: it is a label: what it is worth is what the hold of that sum in a sandbox is worth. -/
noncomputable def Try.pinned : Pinned := { name := "ytlhclnhdcenkhaa", sum := "0d9f4966bc973af7404f2e18c860fd484701a594630520c003059ba5b53316c2", checked := Try.checked }
namespace Rows
def none {H : Type} : Left H := { results := [], args := [] }

/-- 'cameolaw10.MarkDoes': WHATEVER THE INPUT: true; the input reads as it did. -/
def markDoesSpec : ChangeSpec := { name := "markDoes", fn := fun _ => fun
  | [d1, d2, d3] => { results := [.lit (.bool true)], args := [d1, d2, d3] }
  | _ => none }
def markDoesRow : OpenClaim := { program := "ytlhclnhdcenkhaa", sum := "0d9f4966bc973af7404f2e18c860fd484701a594630520c003059ba5b53316c2", func := "cameo/cameolaw10.MarkDoes", spec := "markDoes", unfollowed := true, recurses := true, apart := false }
def MarkDoesSaid : Prop := markDoesRow.holds Try.pinned (OpenSpec.ofChange markDoesSpec)

/-- ITS FALSE NEIGHBOUR: 'it returns false'. Refute it at one input. -/
def markDoesWrong : ChangeSpec := { name := "markDoes", fn := fun _ => fun
  | [d1, d2, d3] => { results := [.lit (.bool false)], args := [d1, d2, d3] }
  | _ => none }
def MarkDoesWrongFalsely : Prop := markDoesRow.holds Try.pinned (OpenSpec.ofChange markDoesWrong)

/-- 'cameolaw10.MarkRecords': WHATEVER THE INPUT: true; the input reads as it did. -/
def markRecordsSpec : ChangeSpec := { name := "markRecords", fn := fun _ => fun
  | [d1, d2, d3] => { results := [.lit (.bool true)], args := [d1, d2, d3] }
  | _ => none }
def markRecordsRow : OpenClaim := { program := "ytlhclnhdcenkhaa", sum := "0d9f4966bc973af7404f2e18c860fd484701a594630520c003059ba5b53316c2", func := "cameo/cameolaw10.MarkRecords", spec := "markRecords", unfollowed := true, recurses := true, apart := false }
def MarkRecordsSaid : Prop := markRecordsRow.holds Try.pinned (OpenSpec.ofChange markRecordsSpec)

/-- ITS FALSE NEIGHBOUR: 'it returns false'. Refute it at one input. -/
def markRecordsWrong : ChangeSpec := { name := "markRecords", fn := fun _ => fun
  | [d1, d2, d3] => { results := [.lit (.bool false)], args := [d1, d2, d3] }
  | _ => none }
def MarkRecordsWrongFalsely : Prop := markRecordsRow.holds Try.pinned (OpenSpec.ofChange markRecordsWrong)

/-- 'cameolaw10.MarkEnds': WHATEVER THE INPUT: true; the input reads as it did. -/
def markEndsSpec : ChangeSpec := { name := "markEnds", fn := fun _ => fun
  | [d1, d2] => { results := [.lit (.bool true)], args := [d1, d2] }
  | _ => none }
def markEndsRow : OpenClaim := { program := "ytlhclnhdcenkhaa", sum := "0d9f4966bc973af7404f2e18c860fd484701a594630520c003059ba5b53316c2", func := "cameo/cameolaw10.MarkEnds", spec := "markEnds", unfollowed := true, recurses := true, apart := false }
def MarkEndsSaid : Prop := markEndsRow.holds Try.pinned (OpenSpec.ofChange markEndsSpec)

/-- ITS FALSE NEIGHBOUR: 'it returns false'. Refute it at one input. -/
def markEndsWrong : ChangeSpec := { name := "markEnds", fn := fun _ => fun
  | [d1, d2] => { results := [.lit (.bool false)], args := [d1, d2] }
  | _ => none }
def MarkEndsWrongFalsely : Prop := markEndsRow.holds Try.pinned (OpenSpec.ofChange markEndsWrong)

/-- 'cameolaw10.MarkOrder': WHATEVER THE INPUT: true; the input reads as it did. -/
def markOrderSpec : ChangeSpec := { name := "markOrder", fn := fun _ => fun
  | [d1, d2] => { results := [.lit (.bool true)], args := [d1, d2] }
  | _ => none }
def markOrderRow : OpenClaim := { program := "ytlhclnhdcenkhaa", sum := "0d9f4966bc973af7404f2e18c860fd484701a594630520c003059ba5b53316c2", func := "cameo/cameolaw10.MarkOrder", spec := "markOrder", unfollowed := true, recurses := true, apart := false }
def MarkOrderSaid : Prop := markOrderRow.holds Try.pinned (OpenSpec.ofChange markOrderSpec)

/-- ITS FALSE NEIGHBOUR: 'it returns false'. Refute it at one input. -/
def markOrderWrong : ChangeSpec := { name := "markOrder", fn := fun _ => fun
  | [d1, d2] => { results := [.lit (.bool false)], args := [d1, d2] }
  | _ => none }
def MarkOrderWrongFalsely : Prop := markOrderRow.holds Try.pinned (OpenSpec.ofChange markOrderWrong)

/-- 'cameolaw10.MarkOwn': WHATEVER THE INPUT: true; the input reads as it did. -/
def markOwnSpec : ChangeSpec := { name := "markOwn", fn := fun _ => fun
  | [d1, d2] => { results := [.lit (.bool true)], args := [d1, d2] }
  | _ => none }
def markOwnRow : OpenClaim := { program := "ytlhclnhdcenkhaa", sum := "0d9f4966bc973af7404f2e18c860fd484701a594630520c003059ba5b53316c2", func := "cameo/cameolaw10.MarkOwn", spec := "markOwn", unfollowed := true, recurses := true, apart := false }
def MarkOwnSaid : Prop := markOwnRow.holds Try.pinned (OpenSpec.ofChange markOwnSpec)

/-- ITS FALSE NEIGHBOUR: 'it returns false'. Refute it at one input. -/
def markOwnWrong : ChangeSpec := { name := "markOwn", fn := fun _ => fun
  | [d1, d2] => { results := [.lit (.bool false)], args := [d1, d2] }
  | _ => none }
def MarkOwnWrongFalsely : Prop := markOwnRow.holds Try.pinned (OpenSpec.ofChange markOwnWrong)

/-- 'cameolaw10.MarkAnew': WHATEVER THE INPUT: true; the input reads as it did. -/
def markAnewSpec : ChangeSpec := { name := "markAnew", fn := fun _ => fun
  | [d1, d2, d3] => { results := [.lit (.bool true)], args := [d1, d2, d3] }
  | _ => none }
def markAnewRow : OpenClaim := { program := "ytlhclnhdcenkhaa", sum := "0d9f4966bc973af7404f2e18c860fd484701a594630520c003059ba5b53316c2", func := "cameo/cameolaw10.MarkAnew", spec := "markAnew", unfollowed := true, recurses := true, apart := false }
def MarkAnewSaid : Prop := markAnewRow.holds Try.pinned (OpenSpec.ofChange markAnewSpec)

/-- ITS FALSE NEIGHBOUR: 'it returns false'. Refute it at one input. -/
def markAnewWrong : ChangeSpec := { name := "markAnew", fn := fun _ => fun
  | [d1, d2, d3] => { results := [.lit (.bool false)], args := [d1, d2, d3] }
  | _ => none }
def MarkAnewWrongFalsely : Prop := markAnewRow.holds Try.pinned (OpenSpec.ofChange markAnewWrong)

/- THE SECOND FORM. 'bulk': how many values and letters a reading holds, each counted each time it is reached (what is shared counts as often as it is met; a slice's spare places count too). A statement '..UptoSaid' is the law's where the arguments, and the package variables that the reading takes, are together of bulk at most 1048576: NARROWER than '..Said'. Prove '..Said' where nothing that the law and all that it calls make is longer than what came in: it says more and counts as full. Else prove '..UptoSaid'. A law counts once. -/
mutual
def uptoBulk {H : Type} : DataW H → Nat
  | .lit (.string bytes) => bytes.length + 1
  | .lit _ => 1
  | .nil => 1
  | .ptr d => uptoBulk d + 1
  | .slice elems spare => uptoBulkAll elems + uptoBulkAll spare + 1
  | .agg parts => uptoBulkAll parts + 1
  | .iface _ d => uptoBulk d + 1
  | .map entries => uptoBulkEntries entries + 1
  | .held _ => 1
def uptoBulkAll {H : Type} : List (DataW H) → Nat
  | [] => 0
  | d :: r => uptoBulk d + uptoBulkAll r
def uptoBulkEntries {H : Type} : List (Lit × DataW H) → Nat
  | [] => 0
  | x :: r => uptoBulkEntry x + uptoBulkEntries r
def uptoBulkEntry {H : Type} : Lit × DataW H → Nat
  | (.string bytes, d) => bytes.length + uptoBulk d + 1
  | (_, d) => uptoBulk d + 1
 end
def uptoSmall : (H : Type) → List (DataW H) → Bool := fun _ ds => decide (uptoBulkAll ds ≤ 1048576)
def OpenSpec.upto (s : _root_.Go.ChangeSpec) : _root_.Go.OpenSpec := { _root_.Go.OpenSpec.ofChange s with cond := some uptoSmall }

/-- 'cameolaw10.MarkDoes', WHERE WHAT IT READS IS OF BULK AT MOST 1048576: true; the input reads as it did. -/
def markDoesUptoRow : OpenClaim := { program := "ytlhclnhdcenkhaa", sum := "0d9f4966bc973af7404f2e18c860fd484701a594630520c003059ba5b53316c2", func := "cameo/cameolaw10.MarkDoes", spec := "markDoes", unfollowed := true, recurses := true, apart := false, narrowed := true }
def MarkDoesUptoSaid : Prop := markDoesUptoRow.holds Try.pinned (OpenSpec.upto markDoesSpec)

/-- 'cameolaw10.MarkRecords', WHERE WHAT IT READS IS OF BULK AT MOST 1048576: true; the input reads as it did. -/
def markRecordsUptoRow : OpenClaim := { program := "ytlhclnhdcenkhaa", sum := "0d9f4966bc973af7404f2e18c860fd484701a594630520c003059ba5b53316c2", func := "cameo/cameolaw10.MarkRecords", spec := "markRecords", unfollowed := true, recurses := true, apart := false, narrowed := true }
def MarkRecordsUptoSaid : Prop := markRecordsUptoRow.holds Try.pinned (OpenSpec.upto markRecordsSpec)

/-- 'cameolaw10.MarkEnds', WHERE WHAT IT READS IS OF BULK AT MOST 1048576: true; the input reads as it did. -/
def markEndsUptoRow : OpenClaim := { program := "ytlhclnhdcenkhaa", sum := "0d9f4966bc973af7404f2e18c860fd484701a594630520c003059ba5b53316c2", func := "cameo/cameolaw10.MarkEnds", spec := "markEnds", unfollowed := true, recurses := true, apart := false, narrowed := true }
def MarkEndsUptoSaid : Prop := markEndsUptoRow.holds Try.pinned (OpenSpec.upto markEndsSpec)

/-- 'cameolaw10.MarkOrder', WHERE WHAT IT READS IS OF BULK AT MOST 1048576: true; the input reads as it did. -/
def markOrderUptoRow : OpenClaim := { program := "ytlhclnhdcenkhaa", sum := "0d9f4966bc973af7404f2e18c860fd484701a594630520c003059ba5b53316c2", func := "cameo/cameolaw10.MarkOrder", spec := "markOrder", unfollowed := true, recurses := true, apart := false, narrowed := true }
def MarkOrderUptoSaid : Prop := markOrderUptoRow.holds Try.pinned (OpenSpec.upto markOrderSpec)

/-- 'cameolaw10.MarkOwn', WHERE WHAT IT READS IS OF BULK AT MOST 1048576: true; the input reads as it did. -/
def markOwnUptoRow : OpenClaim := { program := "ytlhclnhdcenkhaa", sum := "0d9f4966bc973af7404f2e18c860fd484701a594630520c003059ba5b53316c2", func := "cameo/cameolaw10.MarkOwn", spec := "markOwn", unfollowed := true, recurses := true, apart := false, narrowed := true }
def MarkOwnUptoSaid : Prop := markOwnUptoRow.holds Try.pinned (OpenSpec.upto markOwnSpec)

/-- 'cameolaw10.MarkAnew', WHERE WHAT IT READS IS OF BULK AT MOST 1048576: true; the input reads as it did. -/
def markAnewUptoRow : OpenClaim := { program := "ytlhclnhdcenkhaa", sum := "0d9f4966bc973af7404f2e18c860fd484701a594630520c003059ba5b53316c2", func := "cameo/cameolaw10.MarkAnew", spec := "markAnew", unfollowed := true, recurses := true, apart := false, narrowed := true }
def MarkAnewUptoSaid : Prop := markAnewUptoRow.holds Try.pinned (OpenSpec.upto markAnewSpec)

end Rows
end Go.Proofs.Ytlhclnhdcenkhaa
