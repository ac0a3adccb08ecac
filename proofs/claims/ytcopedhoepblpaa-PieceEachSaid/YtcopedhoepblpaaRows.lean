/-
  No cell of these rows narrows 'for every input' (looked for: loops, veiled, ifaces, maps, wideKeys, modest, calm, conditions, laid).
  DERIVED. THE GIVEN ROWS OF THIS SEAT. 6 by the template 'for every input the law returns true; each argument reads behind the call as it read before'; 0 by the template 'total and deterministic' (their statements: YtcopedhoepblpaaTotals.lean).
  GIVEN WITH THE SEED: the statements are not yours to turn. If you find one false, say at which input.
  Laid BY PROGRAM, IN A SANDBOX (cutbox-rows.mjs): the forced cells as the released guide's own fill.sh prints them over the translation 8bae2463e00be066… (all of the seat's roots in one cut). By AI agents, Wed Nov 11 2026. No macro, syntax, notation, axiom, sorry.
-/
import Derived.Test.YtcopedhoepblpaaChecked
import GoSem.Claim
import GoSem.ClaimJoined
import GoSem.ClaimMapViews
import Derived.JoinedTies
import Derived.KernelRfl
namespace Go.Proofs.Ytcopedhoepblpaa
/- THE CELL 'sum', in the pinned program and in every row, IS THE sha256 OF THE DUMP (.gsa) THAT YtcopedhoepblpaaProg.lean LOADS. Nothing in Lean hashes anything: it is a label: what it is worth is what the hold of that sum in a sandbox is worth. -/
noncomputable def Try.pinned : Pinned := { name := "ytcopedhoepblpaa", sum := "8bae2463e00be06638ffea0c03b6599e89856018f6cde1a3f9195e03b227229f", checked := Try.checked }
namespace Rows
def none {H : Type} : Left H := { results := [], args := [] }

/-- 'cameolaw06.PieceTells': WHATEVER THE INPUT: true; the input reads as it did. -/
def pieceTellsSpec : ChangeSpec := { name := "pieceTells", fn := fun _ => fun
  | [d1, d2, d3] => { results := [.lit (.bool true)], args := [d1, d2, d3] }
  | _ => none }
def pieceTellsRow : OpenClaim := { program := "ytcopedhoepblpaa", sum := "8bae2463e00be06638ffea0c03b6599e89856018f6cde1a3f9195e03b227229f", func := "cameo/cameolaw06.PieceTells", spec := "pieceTells", inPlace := ["internal/abi.NoEscape"], unfollowed := true, recurses := true, apart := false }
def PieceTellsSaid : Prop := pieceTellsRow.holds Try.pinned (OpenSpec.ofChange pieceTellsSpec)

/-- ITS FALSE NEIGHBOUR: 'it returns false'. Refute it at one input. -/
def pieceTellsWrong : ChangeSpec := { name := "pieceTells", fn := fun _ => fun
  | [d1, d2, d3] => { results := [.lit (.bool false)], args := [d1, d2, d3] }
  | _ => none }
def PieceTellsWrongFalsely : Prop := pieceTellsRow.holds Try.pinned (OpenSpec.ofChange pieceTellsWrong)

/-- 'cameolaw06.PieceBack': WHATEVER THE INPUT: true; the input reads as it did. -/
def pieceBackSpec : ChangeSpec := { name := "pieceBack", fn := fun _ => fun
  | [d1, d2] => { results := [.lit (.bool true)], args := [d1, d2] }
  | _ => none }
def pieceBackRow : OpenClaim := { program := "ytcopedhoepblpaa", sum := "8bae2463e00be06638ffea0c03b6599e89856018f6cde1a3f9195e03b227229f", func := "cameo/cameolaw06.PieceBack", spec := "pieceBack", inPlace := ["internal/abi.NoEscape"], unfollowed := true, recurses := true, apart := false }
def PieceBackSaid : Prop := pieceBackRow.holds Try.pinned (OpenSpec.ofChange pieceBackSpec)

/-- ITS FALSE NEIGHBOUR: 'it returns false'. Refute it at one input. -/
def pieceBackWrong : ChangeSpec := { name := "pieceBack", fn := fun _ => fun
  | [d1, d2] => { results := [.lit (.bool false)], args := [d1, d2] }
  | _ => none }
def PieceBackWrongFalsely : Prop := pieceBackRow.holds Try.pinned (OpenSpec.ofChange pieceBackWrong)

/-- 'cameolaw06.PieceSides': WHATEVER THE INPUT: true; the input reads as it did. -/
def pieceSidesSpec : ChangeSpec := { name := "pieceSides", fn := fun _ => fun
  | [d1, d2] => { results := [.lit (.bool true)], args := [d1, d2] }
  | _ => none }
def pieceSidesRow : OpenClaim := { program := "ytcopedhoepblpaa", sum := "8bae2463e00be06638ffea0c03b6599e89856018f6cde1a3f9195e03b227229f", func := "cameo/cameolaw06.PieceSides", spec := "pieceSides", inPlace := ["internal/abi.NoEscape"], unfollowed := true, recurses := true, apart := false }
def PieceSidesSaid : Prop := pieceSidesRow.holds Try.pinned (OpenSpec.ofChange pieceSidesSpec)

/-- ITS FALSE NEIGHBOUR: 'it returns false'. Refute it at one input. -/
def pieceSidesWrong : ChangeSpec := { name := "pieceSides", fn := fun _ => fun
  | [d1, d2] => { results := [.lit (.bool false)], args := [d1, d2] }
  | _ => none }
def PieceSidesWrongFalsely : Prop := pieceSidesRow.holds Try.pinned (OpenSpec.ofChange pieceSidesWrong)

/-- 'cameolaw06.PieceFields': WHATEVER THE INPUT: true; the input reads as it did. -/
def pieceFieldsSpec : ChangeSpec := { name := "pieceFields", fn := fun _ => fun
  | [d] => { results := [.lit (.bool true)], args := [d] }
  | _ => none }
def pieceFieldsRow : OpenClaim := { program := "ytcopedhoepblpaa", sum := "8bae2463e00be06638ffea0c03b6599e89856018f6cde1a3f9195e03b227229f", func := "cameo/cameolaw06.PieceFields", spec := "pieceFields", inPlace := ["internal/abi.NoEscape"], unfollowed := true, recurses := true, apart := false }
def PieceFieldsSaid : Prop := pieceFieldsRow.holds Try.pinned (OpenSpec.ofChange pieceFieldsSpec)

/-- ITS FALSE NEIGHBOUR: 'it returns false'. Refute it at one input. -/
def pieceFieldsWrong : ChangeSpec := { name := "pieceFields", fn := fun _ => fun
  | [d] => { results := [.lit (.bool false)], args := [d] }
  | _ => none }
def PieceFieldsWrongFalsely : Prop := pieceFieldsRow.holds Try.pinned (OpenSpec.ofChange pieceFieldsWrong)

/-- 'cameolaw06.PieceCut': WHATEVER THE INPUT: true; the input reads as it did. -/
def pieceCutSpec : ChangeSpec := { name := "pieceCut", fn := fun _ => fun
  | [d1, d2, d3] => { results := [.lit (.bool true)], args := [d1, d2, d3] }
  | _ => none }
def pieceCutRow : OpenClaim := { program := "ytcopedhoepblpaa", sum := "8bae2463e00be06638ffea0c03b6599e89856018f6cde1a3f9195e03b227229f", func := "cameo/cameolaw06.PieceCut", spec := "pieceCut", inPlace := ["internal/abi.NoEscape"], unfollowed := true, recurses := true, apart := false }
def PieceCutSaid : Prop := pieceCutRow.holds Try.pinned (OpenSpec.ofChange pieceCutSpec)

/-- ITS FALSE NEIGHBOUR: 'it returns false'. Refute it at one input. -/
def pieceCutWrong : ChangeSpec := { name := "pieceCut", fn := fun _ => fun
  | [d1, d2, d3] => { results := [.lit (.bool false)], args := [d1, d2, d3] }
  | _ => none }
def PieceCutWrongFalsely : Prop := pieceCutRow.holds Try.pinned (OpenSpec.ofChange pieceCutWrong)

/-- 'cameolaw06.PieceEach': WHATEVER THE INPUT: true; the input reads as it did. -/
def pieceEachSpec : ChangeSpec := { name := "pieceEach", fn := fun _ => fun
  | [d1, d2] => { results := [.lit (.bool true)], args := [d1, d2] }
  | _ => none }
def pieceEachRow : OpenClaim := { program := "ytcopedhoepblpaa", sum := "8bae2463e00be06638ffea0c03b6599e89856018f6cde1a3f9195e03b227229f", func := "cameo/cameolaw06.PieceEach", spec := "pieceEach", inPlace := ["internal/abi.NoEscape"], unfollowed := true, recurses := true, apart := false }
def PieceEachSaid : Prop := pieceEachRow.holds Try.pinned (OpenSpec.ofChange pieceEachSpec)

/-- ITS FALSE NEIGHBOUR: 'it returns false'. Refute it at one input. -/
def pieceEachWrong : ChangeSpec := { name := "pieceEach", fn := fun _ => fun
  | [d1, d2] => { results := [.lit (.bool false)], args := [d1, d2] }
  | _ => none }
def PieceEachWrongFalsely : Prop := pieceEachRow.holds Try.pinned (OpenSpec.ofChange pieceEachWrong)

/- THE SECOND FORM. 'bulk': how many values and letters a reading holds, each counted each time it is reached (what is shared counts as often as it is met; a slice's spare places count too). A statement '..UptoSaid' is the law's where the arguments, and the package variables that the reading takes, are together of bulk at most 1048576: NARROWER than '..Said'. Prove '..Said' where nothing that the law and all that it calls make is longer than what came in: it says more and counts as full. Else prove '..UptoSaid'. A law counts once. -/
mutual
def uptoBulk {H : Type} : DataW H → Nat
  | .lit (.string bytes) => bytes.length + 1
  | .lit _ => 1
  | .nil => 1
  | .ptr d => uptoBulk d + 1
  | .slice elems spare => uptoBulkAll elems + uptoBulkAll spare + 1
  | .agg parts => uptoBulkAll parts + 1
  | .iface _ d => uptoBulk d + 1
  | .map entries => uptoBulkEntries entries + 1
  | .held _ => 1
def uptoBulkAll {H : Type} : List (DataW H) → Nat
  | [] => 0
  | d :: r => uptoBulk d + uptoBulkAll r
def uptoBulkEntries {H : Type} : List (Lit × DataW H) → Nat
  | [] => 0
  | x :: r => uptoBulkEntry x + uptoBulkEntries r
def uptoBulkEntry {H : Type} : Lit × DataW H → Nat
  | (.string bytes, d) => bytes.length + uptoBulk d + 1
  | (_, d) => uptoBulk d + 1
 end
def uptoSmall : (H : Type) → List (DataW H) → Bool := fun _ ds => decide (uptoBulkAll ds ≤ 1048576)
def OpenSpec.upto (s : _root_.Go.ChangeSpec) : _root_.Go.OpenSpec := { _root_.Go.OpenSpec.ofChange s with cond := some uptoSmall }

/-- 'cameolaw06.PieceTells', WHERE WHAT IT READS IS OF BULK AT MOST 1048576: true; the input reads as it did. -/
def pieceTellsUptoRow : OpenClaim := { program := "ytcopedhoepblpaa", sum := "8bae2463e00be06638ffea0c03b6599e89856018f6cde1a3f9195e03b227229f", func := "cameo/cameolaw06.PieceTells", spec := "pieceTells", inPlace := ["internal/abi.NoEscape"], unfollowed := true, recurses := true, apart := false, narrowed := true }
def PieceTellsUptoSaid : Prop := pieceTellsUptoRow.holds Try.pinned (OpenSpec.upto pieceTellsSpec)

/-- 'cameolaw06.PieceBack', WHERE WHAT IT READS IS OF BULK AT MOST 1048576: true; the input reads as it did. -/
def pieceBackUptoRow : OpenClaim := { program := "ytcopedhoepblpaa", sum := "8bae2463e00be06638ffea0c03b6599e89856018f6cde1a3f9195e03b227229f", func := "cameo/cameolaw06.PieceBack", spec := "pieceBack", inPlace := ["internal/abi.NoEscape"], unfollowed := true, recurses := true, apart := false, narrowed := true }
def PieceBackUptoSaid : Prop := pieceBackUptoRow.holds Try.pinned (OpenSpec.upto pieceBackSpec)

/-- 'cameolaw06.PieceSides', WHERE WHAT IT READS IS OF BULK AT MOST 1048576: true; the input reads as it did. -/
def pieceSidesUptoRow : OpenClaim := { program := "ytcopedhoepblpaa", sum := "8bae2463e00be06638ffea0c03b6599e89856018f6cde1a3f9195e03b227229f", func := "cameo/cameolaw06.PieceSides", spec := "pieceSides", inPlace := ["internal/abi.NoEscape"], unfollowed := true, recurses := true, apart := false, narrowed := true }
def PieceSidesUptoSaid : Prop := pieceSidesUptoRow.holds Try.pinned (OpenSpec.upto pieceSidesSpec)

/-- 'cameolaw06.PieceFields', WHERE WHAT IT READS IS OF BULK AT MOST 1048576: true; the input reads as it did. -/
def pieceFieldsUptoRow : OpenClaim := { program := "ytcopedhoepblpaa", sum := "8bae2463e00be06638ffea0c03b6599e89856018f6cde1a3f9195e03b227229f", func := "cameo/cameolaw06.PieceFields", spec := "pieceFields", inPlace := ["internal/abi.NoEscape"], unfollowed := true, recurses := true, apart := false, narrowed := true }
def PieceFieldsUptoSaid : Prop := pieceFieldsUptoRow.holds Try.pinned (OpenSpec.upto pieceFieldsSpec)

/-- 'cameolaw06.PieceCut', WHERE WHAT IT READS IS OF BULK AT MOST 1048576: true; the input reads as it did. -/
def pieceCutUptoRow : OpenClaim := { program := "ytcopedhoepblpaa", sum := "8bae2463e00be06638ffea0c03b6599e89856018f6cde1a3f9195e03b227229f", func := "cameo/cameolaw06.PieceCut", spec := "pieceCut", inPlace := ["internal/abi.NoEscape"], unfollowed := true, recurses := true, apart := false, narrowed := true }
def PieceCutUptoSaid : Prop := pieceCutUptoRow.holds Try.pinned (OpenSpec.upto pieceCutSpec)

/-- 'cameolaw06.PieceEach', WHERE WHAT IT READS IS OF BULK AT MOST 1048576: true; the input reads as it did. -/
def pieceEachUptoRow : OpenClaim := { program := "ytcopedhoepblpaa", sum := "8bae2463e00be06638ffea0c03b6599e89856018f6cde1a3f9195e03b227229f", func := "cameo/cameolaw06.PieceEach", spec := "pieceEach", inPlace := ["internal/abi.NoEscape"], unfollowed := true, recurses := true, apart := false, narrowed := true }
def PieceEachUptoSaid : Prop := pieceEachUptoRow.holds Try.pinned (OpenSpec.upto pieceEachSpec)

end Rows
end Go.Proofs.Ytcopedhoepblpaa
