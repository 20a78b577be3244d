/-
  No cell of these rows narrows 'for every input' (looked for: loops, veiled, ifaces, maps, wideKeys, modest, calm, conditions, laid).
  DERIVED. THE GIVEN ROWS OF THIS SEAT. 4 by the template 'for every input the law returns true; each argument reads behind the call as it read before'; 0 by the template 'total and deterministic' (their statements: YtgoaihpaajchaaaTotals.lean).
  GIVEN WITH THE SEED: the statements are not yours to turn. If you find one false, say at which input.
  Laid BY PROGRAM, IN A SANDBOX (cutbox-rows.mjs): the forced cells as the released guide's own fill.sh prints them over the translation a41b7a8cb69129ac… (all of the seat's roots in one cut). By AI agents, Wed Nov 11 2026. No macro, syntax, notation, axiom, sorry.
-/
import Derived.Test.YtgoaihpaajchaaaChecked
import GoSem.Claim
import GoSem.ClaimJoined
import GoSem.ClaimMapViews
import Derived.JoinedTies
import Derived.KernelRfl
namespace Go.Proofs.Ytgoaihpaajchaaa
/- THE CELL 'sum', in the pinned program and in every row, IS THE sha256 OF THE DUMP (.gsa) THAT YtgoaihpaajchaaaProg.lean LOADS. Nothing in Lean hashes anything: it is a label: what it is worth is what the hold of that sum in a sandbox is worth. -/
noncomputable def Try.pinned : Pinned := { name := "ytgoaihpaajchaaa", sum := "a41b7a8cb69129acd65ec41e7512cc97ab3363c902116817ff2d632a849ed525", checked := Try.checked }
namespace Rows
def none {H : Type} : Left H := { results := [], args := [] }

/-- 'quillkeep.Formed': WHATEVER THE INPUT: true; the input reads as it did. -/
def formedSpec : ChangeSpec := { name := "formed", fn := fun _ => fun
  | [d1, d2] => { results := [.lit (.bool true)], args := [d1, d2] }
  | _ => none }
def formedRow : OpenClaim := { program := "ytgoaihpaajchaaa", sum := "a41b7a8cb69129acd65ec41e7512cc97ab3363c902116817ff2d632a849ed525", func := "quill/quillkeep.Formed", spec := "formed", inPlace := ["internal/abi.NoEscape"], apart := false }
def FormedSaid : Prop := formedRow.holds Try.pinned (OpenSpec.ofChange formedSpec)

/-- ITS FALSE NEIGHBOUR: 'it returns false'. Refute it at one input. -/
def formedWrong : ChangeSpec := { name := "formed", fn := fun _ => fun
  | [d1, d2] => { results := [.lit (.bool false)], args := [d1, d2] }
  | _ => none }
def FormedWrongFalsely : Prop := formedRow.holds Try.pinned (OpenSpec.ofChange formedWrong)

/-- 'quillkeep.Composed': WHATEVER THE INPUT: true; the input reads as it did. -/
def composedSpec : ChangeSpec := { name := "composed", fn := fun _ => fun
  | [d1, d2, d3, d4] => { results := [.lit (.bool true)], args := [d1, d2, d3, d4] }
  | _ => none }
def composedRow : OpenClaim := { program := "ytgoaihpaajchaaa", sum := "a41b7a8cb69129acd65ec41e7512cc97ab3363c902116817ff2d632a849ed525", func := "quill/quillkeep.Composed", spec := "composed", inPlace := ["internal/abi.NoEscape"], apart := false }
def ComposedSaid : Prop := composedRow.holds Try.pinned (OpenSpec.ofChange composedSpec)

/-- ITS FALSE NEIGHBOUR: 'it returns false'. Refute it at one input. -/
def composedWrong : ChangeSpec := { name := "composed", fn := fun _ => fun
  | [d1, d2, d3, d4] => { results := [.lit (.bool false)], args := [d1, d2, d3, d4] }
  | _ => none }
def ComposedWrongFalsely : Prop := composedRow.holds Try.pinned (OpenSpec.ofChange composedWrong)

/-- 'quillkeep.Transformed': WHATEVER THE INPUT: true; the input reads as it did. -/
def transformedSpec : ChangeSpec := { name := "transformed", fn := fun _ => fun
  | [d1, d2, d3] => { results := [.lit (.bool true)], args := [d1, d2, d3] }
  | _ => none }
def transformedRow : OpenClaim := { program := "ytgoaihpaajchaaa", sum := "a41b7a8cb69129acd65ec41e7512cc97ab3363c902116817ff2d632a849ed525", func := "quill/quillkeep.Transformed", spec := "transformed", inPlace := ["internal/abi.NoEscape"], apart := false }
def TransformedSaid : Prop := transformedRow.holds Try.pinned (OpenSpec.ofChange transformedSpec)

/-- ITS FALSE NEIGHBOUR: 'it returns false'. Refute it at one input. -/
def transformedWrong : ChangeSpec := { name := "transformed", fn := fun _ => fun
  | [d1, d2, d3] => { results := [.lit (.bool false)], args := [d1, d2, d3] }
  | _ => none }
def TransformedWrongFalsely : Prop := transformedRow.holds Try.pinned (OpenSpec.ofChange transformedWrong)

/-- 'quillkeep.Inverted': WHATEVER THE INPUT: true; the input reads as it did. -/
def invertedSpec : ChangeSpec := { name := "inverted", fn := fun _ => fun
  | [d1, d2] => { results := [.lit (.bool true)], args := [d1, d2] }
  | _ => none }
def invertedRow : OpenClaim := { program := "ytgoaihpaajchaaa", sum := "a41b7a8cb69129acd65ec41e7512cc97ab3363c902116817ff2d632a849ed525", func := "quill/quillkeep.Inverted", spec := "inverted", inPlace := ["internal/abi.NoEscape"], apart := false }
def InvertedSaid : Prop := invertedRow.holds Try.pinned (OpenSpec.ofChange invertedSpec)

/-- ITS FALSE NEIGHBOUR: 'it returns false'. Refute it at one input. -/
def invertedWrong : ChangeSpec := { name := "inverted", fn := fun _ => fun
  | [d1, d2] => { results := [.lit (.bool false)], args := [d1, d2] }
  | _ => none }
def InvertedWrongFalsely : Prop := invertedRow.holds Try.pinned (OpenSpec.ofChange invertedWrong)

/- THE SECOND FORM. 'bulk': how many values and letters a reading holds, each counted each time it is reached (what is shared counts as often as it is met; a slice's spare places count too). A statement '..UptoSaid' is the law's where the arguments, and the package variables that the reading takes, are together of bulk at most 1048576: NARROWER than '..Said'. Prove '..Said' where nothing that the law and all that it calls make is longer than what came in: it says more and counts as full. Else prove '..UptoSaid'. A law counts once. -/
mutual
def uptoBulk {H : Type} : DataW H → Nat
  | .lit (.string bytes) => bytes.length + 1
  | .lit _ => 1
  | .nil => 1
  | .ptr d => uptoBulk d + 1
  | .slice elems spare => uptoBulkAll elems + uptoBulkAll spare + 1
  | .agg parts => uptoBulkAll parts + 1
  | .iface _ d => uptoBulk d + 1
  | .map entries => uptoBulkEntries entries + 1
  | .held _ => 1
def uptoBulkAll {H : Type} : List (DataW H) → Nat
  | [] => 0
  | d :: r => uptoBulk d + uptoBulkAll r
def uptoBulkEntries {H : Type} : List (Lit × DataW H) → Nat
  | [] => 0
  | x :: r => uptoBulkEntry x + uptoBulkEntries r
def uptoBulkEntry {H : Type} : Lit × DataW H → Nat
  | (.string bytes, d) => bytes.length + uptoBulk d + 1
  | (_, d) => uptoBulk d + 1
 end
def uptoSmall : (H : Type) → List (DataW H) → Bool := fun _ ds => decide (uptoBulkAll ds ≤ 1048576)
def OpenSpec.upto (s : _root_.Go.ChangeSpec) : _root_.Go.OpenSpec := { _root_.Go.OpenSpec.ofChange s with cond := some uptoSmall }

/-- 'quillkeep.Formed', WHERE WHAT IT READS IS OF BULK AT MOST 1048576: true; the input reads as it did. -/
def formedUptoRow : OpenClaim := { program := "ytgoaihpaajchaaa", sum := "a41b7a8cb69129acd65ec41e7512cc97ab3363c902116817ff2d632a849ed525", func := "quill/quillkeep.Formed", spec := "formed", inPlace := ["internal/abi.NoEscape"], apart := false, narrowed := true }
def FormedUptoSaid : Prop := formedUptoRow.holds Try.pinned (OpenSpec.upto formedSpec)

/-- 'quillkeep.Composed', WHERE WHAT IT READS IS OF BULK AT MOST 1048576: true; the input reads as it did. -/
def composedUptoRow : OpenClaim := { program := "ytgoaihpaajchaaa", sum := "a41b7a8cb69129acd65ec41e7512cc97ab3363c902116817ff2d632a849ed525", func := "quill/quillkeep.Composed", spec := "composed", inPlace := ["internal/abi.NoEscape"], apart := false, narrowed := true }
def ComposedUptoSaid : Prop := composedUptoRow.holds Try.pinned (OpenSpec.upto composedSpec)

/-- 'quillkeep.Transformed', WHERE WHAT IT READS IS OF BULK AT MOST 1048576: true; the input reads as it did. -/
def transformedUptoRow : OpenClaim := { program := "ytgoaihpaajchaaa", sum := "a41b7a8cb69129acd65ec41e7512cc97ab3363c902116817ff2d632a849ed525", func := "quill/quillkeep.Transformed", spec := "transformed", inPlace := ["internal/abi.NoEscape"], apart := false, narrowed := true }
def TransformedUptoSaid : Prop := transformedUptoRow.holds Try.pinned (OpenSpec.upto transformedSpec)

/-- 'quillkeep.Inverted', WHERE WHAT IT READS IS OF BULK AT MOST 1048576: true; the input reads as it did. -/
def invertedUptoRow : OpenClaim := { program := "ytgoaihpaajchaaa", sum := "a41b7a8cb69129acd65ec41e7512cc97ab3363c902116817ff2d632a849ed525", func := "quill/quillkeep.Inverted", spec := "inverted", inPlace := ["internal/abi.NoEscape"], apart := false, narrowed := true }
def InvertedUptoSaid : Prop := invertedUptoRow.holds Try.pinned (OpenSpec.upto invertedSpec)

end Rows
end Go.Proofs.Ytgoaihpaajchaaa
