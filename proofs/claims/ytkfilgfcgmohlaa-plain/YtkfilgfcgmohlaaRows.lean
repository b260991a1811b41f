/-
  No cell of these rows narrows 'for every input' (looked for: loops, veiled, ifaces, maps, wideKeys, modest, calm, conditions, laid).
  DERIVED. THE GIVEN ROWS OF THIS SEAT. 4 by the template 'for every input the law returns true; each argument reads behind the call as it read before'; 0 by the template 'total and deterministic' (their statements: YtkfilgfcgmohlaaTotals.lean).
  GIVEN WITH THE SEED: the statements are not yours to turn. If you find one false, say at which input.
  Laid BY PROGRAM, IN A SANDBOX (cutbox-rows.mjs): the forced cells as the released guide's own fill.sh prints them over the translation 939e365b6991b42a… (all of the seat's roots in one cut). By AI agents, Wed Nov 11 2026. No macro, syntax, notation, axiom, sorry.
-/
import Derived.Test.YtkfilgfcgmohlaaChecked
import GoSem.Claim
import GoSem.ClaimJoined
import GoSem.ClaimMapViews
import Derived.JoinedTies
import Derived.KernelRfl
namespace Go.Proofs.Ytkfilgfcgmohlaa
/- THE CELL 'sum', in the pinned program and in every row, IS THE sha256 OF THE DUMP (.gsa) THAT YtkfilgfcgmohlaaProg.lean LOADS. Nothing in Lean hashes anything: it is a label: what it is worth is what the hold of that sum in a sandbox is worth. -/
noncomputable def Try.pinned : Pinned := { name := "ytkfilgfcgmohlaa", sum := "939e365b6991b42ab71bc7b1280abeb88b4a93f25d7800597289bbaf10ac4a41", checked := Try.checked }
namespace Rows
def none {H : Type} : Left H := { results := [], args := [] }

/-- 'frameslaw.Plain': WHATEVER THE INPUT: true; the input reads as it did. -/
def plainSpec : ChangeSpec := { name := "plain", fn := fun _ => fun
  | [d1, d2, d3] => { results := [.lit (.bool true)], args := [d1, d2, d3] }
  | _ => none }
def plainRow : OpenClaim := { program := "ytkfilgfcgmohlaa", sum := "939e365b6991b42ab71bc7b1280abeb88b4a93f25d7800597289bbaf10ac4a41", func := "frames/frameslaw.Plain", spec := "plain", apart := false }
def PlainSaid : Prop := plainRow.holds Try.pinned (OpenSpec.ofChange plainSpec)

/-- ITS FALSE NEIGHBOUR: 'it returns false'. Refute it at one input. -/
def plainWrong : ChangeSpec := { name := "plain", fn := fun _ => fun
  | [d1, d2, d3] => { results := [.lit (.bool false)], args := [d1, d2, d3] }
  | _ => none }
def PlainWrongFalsely : Prop := plainRow.holds Try.pinned (OpenSpec.ofChange plainWrong)

/-- 'frameslaw.Literals': WHATEVER THE INPUT: true; the input reads as it did. -/
def literalsSpec : ChangeSpec := { name := "literals", fn := fun _ => fun
  | [d1, d2, d3] => { results := [.lit (.bool true)], args := [d1, d2, d3] }
  | _ => none }
def literalsRow : OpenClaim := { program := "ytkfilgfcgmohlaa", sum := "939e365b6991b42ab71bc7b1280abeb88b4a93f25d7800597289bbaf10ac4a41", func := "frames/frameslaw.Literals", spec := "literals", apart := false }
def LiteralsSaid : Prop := literalsRow.holds Try.pinned (OpenSpec.ofChange literalsSpec)

/-- ITS FALSE NEIGHBOUR: 'it returns false'. Refute it at one input. -/
def literalsWrong : ChangeSpec := { name := "literals", fn := fun _ => fun
  | [d1, d2, d3] => { results := [.lit (.bool false)], args := [d1, d2, d3] }
  | _ => none }
def LiteralsWrongFalsely : Prop := literalsRow.holds Try.pinned (OpenSpec.ofChange literalsWrong)

/-- 'frameslaw.Decoded': WHATEVER THE INPUT: true; the input reads as it did. -/
def decodedSpec : ChangeSpec := { name := "decoded", fn := fun _ => fun
  | [d1, d2, d3, d4] => { results := [.lit (.bool true)], args := [d1, d2, d3, d4] }
  | _ => none }
def decodedRow : OpenClaim := { program := "ytkfilgfcgmohlaa", sum := "939e365b6991b42ab71bc7b1280abeb88b4a93f25d7800597289bbaf10ac4a41", func := "frames/frameslaw.Decoded", spec := "decoded", apart := false }
def DecodedSaid : Prop := decodedRow.holds Try.pinned (OpenSpec.ofChange decodedSpec)

/-- ITS FALSE NEIGHBOUR: 'it returns false'. Refute it at one input. -/
def decodedWrong : ChangeSpec := { name := "decoded", fn := fun _ => fun
  | [d1, d2, d3, d4] => { results := [.lit (.bool false)], args := [d1, d2, d3, d4] }
  | _ => none }
def DecodedWrongFalsely : Prop := decodedRow.holds Try.pinned (OpenSpec.ofChange decodedWrong)

/-- 'frameskeep.Pieces': WHATEVER THE INPUT: true; the input reads as it did. -/
def piecesSpec : ChangeSpec := { name := "pieces", fn := fun _ => fun
  | [d1, d2] => { results := [.lit (.bool true)], args := [d1, d2] }
  | _ => none }
def piecesRow : OpenClaim := { program := "ytkfilgfcgmohlaa", sum := "939e365b6991b42ab71bc7b1280abeb88b4a93f25d7800597289bbaf10ac4a41", func := "frames/frameskeep.Pieces", spec := "pieces", apart := false }
def PiecesSaid : Prop := piecesRow.holds Try.pinned (OpenSpec.ofChange piecesSpec)

/-- ITS FALSE NEIGHBOUR: 'it returns false'. Refute it at one input. -/
def piecesWrong : ChangeSpec := { name := "pieces", fn := fun _ => fun
  | [d1, d2] => { results := [.lit (.bool false)], args := [d1, d2] }
  | _ => none }
def PiecesWrongFalsely : Prop := piecesRow.holds Try.pinned (OpenSpec.ofChange piecesWrong)

/- THE SECOND FORM. 'bulk': how many values and letters a reading holds, each counted each time it is reached (what is shared counts as often as it is met; a slice's spare places count too). A statement '..UptoSaid' is the law's where the arguments, and the package variables that the reading takes, are together of bulk at most 1048576: NARROWER than '..Said'. Prove '..Said' where nothing that the law and all that it calls make is longer than what came in: it says more and counts as full. Else prove '..UptoSaid'. A law counts once. -/
mutual
def uptoBulk {H : Type} : DataW H → Nat
  | .lit (.string bytes) => bytes.length + 1
  | .lit _ => 1
  | .nil => 1
  | .ptr d => uptoBulk d + 1
  | .slice elems spare => uptoBulkAll elems + uptoBulkAll spare + 1
  | .agg parts => uptoBulkAll parts + 1
  | .iface _ d => uptoBulk d + 1
  | .map entries => uptoBulkEntries entries + 1
  | .held _ => 1
def uptoBulkAll {H : Type} : List (DataW H) → Nat
  | [] => 0
  | d :: r => uptoBulk d + uptoBulkAll r
def uptoBulkEntries {H : Type} : List (Lit × DataW H) → Nat
  | [] => 0
  | x :: r => uptoBulkEntry x + uptoBulkEntries r
def uptoBulkEntry {H : Type} : Lit × DataW H → Nat
  | (.string bytes, d) => bytes.length + uptoBulk d + 1
  | (_, d) => uptoBulk d + 1
 end
def uptoSmall : (H : Type) → List (DataW H) → Bool := fun _ ds => decide (uptoBulkAll ds ≤ 1048576)
def OpenSpec.upto (s : _root_.Go.ChangeSpec) : _root_.Go.OpenSpec := { _root_.Go.OpenSpec.ofChange s with cond := some uptoSmall }

/-- 'frameslaw.Plain', WHERE WHAT IT READS IS OF BULK AT MOST 1048576: true; the input reads as it did. -/
def plainUptoRow : OpenClaim := { program := "ytkfilgfcgmohlaa", sum := "939e365b6991b42ab71bc7b1280abeb88b4a93f25d7800597289bbaf10ac4a41", func := "frames/frameslaw.Plain", spec := "plain", apart := false, narrowed := true }
def PlainUptoSaid : Prop := plainUptoRow.holds Try.pinned (OpenSpec.upto plainSpec)

/-- 'frameslaw.Literals', WHERE WHAT IT READS IS OF BULK AT MOST 1048576: true; the input reads as it did. -/
def literalsUptoRow : OpenClaim := { program := "ytkfilgfcgmohlaa", sum := "939e365b6991b42ab71bc7b1280abeb88b4a93f25d7800597289bbaf10ac4a41", func := "frames/frameslaw.Literals", spec := "literals", apart := false, narrowed := true }
def LiteralsUptoSaid : Prop := literalsUptoRow.holds Try.pinned (OpenSpec.upto literalsSpec)

/-- 'frameslaw.Decoded', WHERE WHAT IT READS IS OF BULK AT MOST 1048576: true; the input reads as it did. -/
def decodedUptoRow : OpenClaim := { program := "ytkfilgfcgmohlaa", sum := "939e365b6991b42ab71bc7b1280abeb88b4a93f25d7800597289bbaf10ac4a41", func := "frames/frameslaw.Decoded", spec := "decoded", apart := false, narrowed := true }
def DecodedUptoSaid : Prop := decodedUptoRow.holds Try.pinned (OpenSpec.upto decodedSpec)

/-- 'frameskeep.Pieces', WHERE WHAT IT READS IS OF BULK AT MOST 1048576: true; the input reads as it did. -/
def piecesUptoRow : OpenClaim := { program := "ytkfilgfcgmohlaa", sum := "939e365b6991b42ab71bc7b1280abeb88b4a93f25d7800597289bbaf10ac4a41", func := "frames/frameskeep.Pieces", spec := "pieces", apart := false, narrowed := true }
def PiecesUptoSaid : Prop := piecesUptoRow.holds Try.pinned (OpenSpec.upto piecesSpec)

end Rows
end Go.Proofs.Ytkfilgfcgmohlaa
