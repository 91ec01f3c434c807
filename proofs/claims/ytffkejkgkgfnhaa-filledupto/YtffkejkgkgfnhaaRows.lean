/-
  NARROWER THAN 'FOR EVERY INPUT', by the rows' own cells (each row's printed sentence says how): Ways: loops · Ends: loops.
  DERIVED. THE GIVEN ROWS OF THIS SEAT. 7 by the template 'for every input the law returns true; each argument reads behind the call as it read before'; 0 by the template 'total and deterministic' (their statements: YtffkejkgkgfnhaaTotals.lean).
  GIVEN WITH THE SEED: the statements are not yours to turn. If you find one false, say at which input.
  Laid BY PROGRAM, IN A SANDBOX (cutbox-rows.mjs): the forced cells as the released guide's own fill.sh prints them over the translation cb7fad235810ac66… (all of the seat's roots in one cut). By AI agents, Wed Nov 11 2026. No macro, syntax, notation, axiom, sorry.
-/
import Derived.Test.YtffkejkgkgfnhaaChecked
import GoSem.Claim
import GoSem.ClaimJoined
import GoSem.ClaimMapViews
import Derived.JoinedTies
import Derived.KernelRfl
namespace Go.Proofs.Ytffkejkgkgfnhaa
/- THE CELL 'sum', in the pinned program and in every row, IS THE sha256 OF THE DUMP (.gsa) THAT YtffkejkgkgfnhaaProg.lean LOADS. Nothing in Lean hashes anything: it is a label: what it is worth is what the hold of that sum in a sandbox is worth. -/
noncomputable def Try.pinned : Pinned := { name := "ytffkejkgkgfnhaa", sum := "cb7fad235810ac66dc30c9571399e8f0663974be55cf72360fcffe240b7b81d4", checked := Try.checked }
namespace Rows
def none {H : Type} : Left H := { results := [], args := [] }

/-- 'quillkeep.Resumes': WHATEVER THE INPUT: true; the input reads as it did. -/
def resumesSpec : ChangeSpec := { name := "resumes", fn := fun _ => fun
  | [d1, d2, d3] => { results := [.lit (.bool true)], args := [d1, d2, d3] }
  | _ => none }
def resumesRow : OpenClaim := { program := "ytffkejkgkgfnhaa", sum := "cb7fad235810ac66dc30c9571399e8f0663974be55cf72360fcffe240b7b81d4", func := "quill/quillkeep.Resumes", spec := "resumes", apart := false }
def ResumesSaid : Prop := resumesRow.holds Try.pinned (OpenSpec.ofChange resumesSpec)

/-- ITS FALSE NEIGHBOUR: 'it returns false'. Refute it at one input. -/
def resumesWrong : ChangeSpec := { name := "resumes", fn := fun _ => fun
  | [d1, d2, d3] => { results := [.lit (.bool false)], args := [d1, d2, d3] }
  | _ => none }
def ResumesWrongFalsely : Prop := resumesRow.holds Try.pinned (OpenSpec.ofChange resumesWrong)

/-- 'quillkeep.Stays': WHATEVER THE INPUT: true; the input reads as it did. -/
def staysSpec : ChangeSpec := { name := "stays", fn := fun _ => fun
  | [d1, d2] => { results := [.lit (.bool true)], args := [d1, d2] }
  | _ => none }
def staysRow : OpenClaim := { program := "ytffkejkgkgfnhaa", sum := "cb7fad235810ac66dc30c9571399e8f0663974be55cf72360fcffe240b7b81d4", func := "quill/quillkeep.Stays", spec := "stays", apart := false }
def StaysSaid : Prop := staysRow.holds Try.pinned (OpenSpec.ofChange staysSpec)

/-- ITS FALSE NEIGHBOUR: 'it returns false'. Refute it at one input. -/
def staysWrong : ChangeSpec := { name := "stays", fn := fun _ => fun
  | [d1, d2] => { results := [.lit (.bool false)], args := [d1, d2] }
  | _ => none }
def StaysWrongFalsely : Prop := staysRow.holds Try.pinned (OpenSpec.ofChange staysWrong)

/-- 'quillkeep.Read': WHATEVER THE INPUT: true; the input reads as it did. -/
def readSpec : ChangeSpec := { name := "read", fn := fun _ => fun
  | [d1, d2] => { results := [.lit (.bool true)], args := [d1, d2] }
  | _ => none }
def readRow : OpenClaim := { program := "ytffkejkgkgfnhaa", sum := "cb7fad235810ac66dc30c9571399e8f0663974be55cf72360fcffe240b7b81d4", func := "quill/quillkeep.Read", spec := "read", apart := false }
def ReadSaid : Prop := readRow.holds Try.pinned (OpenSpec.ofChange readSpec)

/-- ITS FALSE NEIGHBOUR: 'it returns false'. Refute it at one input. -/
def readWrong : ChangeSpec := { name := "read", fn := fun _ => fun
  | [d1, d2] => { results := [.lit (.bool false)], args := [d1, d2] }
  | _ => none }
def ReadWrongFalsely : Prop := readRow.holds Try.pinned (OpenSpec.ofChange readWrong)

/-- 'quillkeep.Ways': WHATEVER THE INPUT: true; the input reads as it did. -/
def waysSpec : ChangeSpec := { name := "ways", fn := fun _ => fun
  | [d1, d2, d3] => { results := [.lit (.bool true)], args := [d1, d2, d3] }
  | _ => none }
def waysRow : OpenClaim := { program := "ytffkejkgkgfnhaa", sum := "cb7fad235810ac66dc30c9571399e8f0663974be55cf72360fcffe240b7b81d4", func := "quill/quillkeep.Ways", spec := "ways", recurses := true, loops := true, apart := false }
def WaysSaid : Prop := waysRow.holds Try.pinned (OpenSpec.ofChange waysSpec)

/-- ITS FALSE NEIGHBOUR: 'it returns false'. Refute it at one input. -/
def waysWrong : ChangeSpec := { name := "ways", fn := fun _ => fun
  | [d1, d2, d3] => { results := [.lit (.bool false)], args := [d1, d2, d3] }
  | _ => none }
def WaysWrongFalsely : Prop := waysRow.holds Try.pinned (OpenSpec.ofChange waysWrong)

/-- 'quillkeep.Ends': WHATEVER THE INPUT: true; the input reads as it did. -/
def endsSpec : ChangeSpec := { name := "ends", fn := fun _ => fun
  | [d1, d2, d3] => { results := [.lit (.bool true)], args := [d1, d2, d3] }
  | _ => none }
def endsRow : OpenClaim := { program := "ytffkejkgkgfnhaa", sum := "cb7fad235810ac66dc30c9571399e8f0663974be55cf72360fcffe240b7b81d4", func := "quill/quillkeep.Ends", spec := "ends", recurses := true, loops := true, apart := false }
def EndsSaid : Prop := endsRow.holds Try.pinned (OpenSpec.ofChange endsSpec)

/-- ITS FALSE NEIGHBOUR: 'it returns false'. Refute it at one input. -/
def endsWrong : ChangeSpec := { name := "ends", fn := fun _ => fun
  | [d1, d2, d3] => { results := [.lit (.bool false)], args := [d1, d2, d3] }
  | _ => none }
def EndsWrongFalsely : Prop := endsRow.holds Try.pinned (OpenSpec.ofChange endsWrong)

/-- 'quillkeep.Filled': WHATEVER THE INPUT: true; the input reads as it did. -/
def filledSpec : ChangeSpec := { name := "filled", fn := fun _ => fun
  | [d1, d2] => { results := [.lit (.bool true)], args := [d1, d2] }
  | _ => none }
def filledRow : OpenClaim := { program := "ytffkejkgkgfnhaa", sum := "cb7fad235810ac66dc30c9571399e8f0663974be55cf72360fcffe240b7b81d4", func := "quill/quillkeep.Filled", spec := "filled", recurses := true, apart := false }
def FilledSaid : Prop := filledRow.holds Try.pinned (OpenSpec.ofChange filledSpec)

/-- ITS FALSE NEIGHBOUR: 'it returns false'. Refute it at one input. -/
def filledWrong : ChangeSpec := { name := "filled", fn := fun _ => fun
  | [d1, d2] => { results := [.lit (.bool false)], args := [d1, d2] }
  | _ => none }
def FilledWrongFalsely : Prop := filledRow.holds Try.pinned (OpenSpec.ofChange filledWrong)

/-- 'quillkeep.Either': WHATEVER THE INPUT: true; the input reads as it did. -/
def eitherSpec : ChangeSpec := { name := "either", fn := fun _ => fun
  | [d1, d2] => { results := [.lit (.bool true)], args := [d1, d2] }
  | _ => none }
def eitherRow : OpenClaim := { program := "ytffkejkgkgfnhaa", sum := "cb7fad235810ac66dc30c9571399e8f0663974be55cf72360fcffe240b7b81d4", func := "quill/quillkeep.Either", spec := "either", recurses := true, apart := false }
def EitherSaid : Prop := eitherRow.holds Try.pinned (OpenSpec.ofChange eitherSpec)

/-- ITS FALSE NEIGHBOUR: 'it returns false'. Refute it at one input. -/
def eitherWrong : ChangeSpec := { name := "either", fn := fun _ => fun
  | [d1, d2] => { results := [.lit (.bool false)], args := [d1, d2] }
  | _ => none }
def EitherWrongFalsely : Prop := eitherRow.holds Try.pinned (OpenSpec.ofChange eitherWrong)

/- THE SECOND FORM. 'bulk': how many values and letters a reading holds, each counted each time it is reached (what is shared counts as often as it is met; a slice's spare places count too). A statement '..UptoSaid' is the law's where the arguments, and the package variables that the reading takes, are together of bulk at most 1048576: NARROWER than '..Said'. Prove '..Said' where nothing that the law and all that it calls make is longer than what came in: it says more and counts as full. Else prove '..UptoSaid'. A law counts once. -/
mutual
def uptoBulk {H : Type} : DataW H → Nat
  | .lit (.string bytes) => bytes.length + 1
  | .lit _ => 1
  | .nil => 1
  | .ptr d => uptoBulk d + 1
  | .slice elems spare => uptoBulkAll elems + uptoBulkAll spare + 1
  | .agg parts => uptoBulkAll parts + 1
  | .iface _ d => uptoBulk d + 1
  | .map entries => uptoBulkEntries entries + 1
  | .held _ => 1
def uptoBulkAll {H : Type} : List (DataW H) → Nat
  | [] => 0
  | d :: r => uptoBulk d + uptoBulkAll r
def uptoBulkEntries {H : Type} : List (Lit × DataW H) → Nat
  | [] => 0
  | x :: r => uptoBulkEntry x + uptoBulkEntries r
def uptoBulkEntry {H : Type} : Lit × DataW H → Nat
  | (.string bytes, d) => bytes.length + uptoBulk d + 1
  | (_, d) => uptoBulk d + 1
 end
def uptoSmall : (H : Type) → List (DataW H) → Bool := fun _ ds => decide (uptoBulkAll ds ≤ 1048576)
def OpenSpec.upto (s : _root_.Go.ChangeSpec) : _root_.Go.OpenSpec := { _root_.Go.OpenSpec.ofChange s with cond := some uptoSmall }

/-- 'quillkeep.Resumes', WHERE WHAT IT READS IS OF BULK AT MOST 1048576: true; the input reads as it did. -/
def resumesUptoRow : OpenClaim := { program := "ytffkejkgkgfnhaa", sum := "cb7fad235810ac66dc30c9571399e8f0663974be55cf72360fcffe240b7b81d4", func := "quill/quillkeep.Resumes", spec := "resumes", apart := false, narrowed := true }
def ResumesUptoSaid : Prop := resumesUptoRow.holds Try.pinned (OpenSpec.upto resumesSpec)

/-- 'quillkeep.Stays', WHERE WHAT IT READS IS OF BULK AT MOST 1048576: true; the input reads as it did. -/
def staysUptoRow : OpenClaim := { program := "ytffkejkgkgfnhaa", sum := "cb7fad235810ac66dc30c9571399e8f0663974be55cf72360fcffe240b7b81d4", func := "quill/quillkeep.Stays", spec := "stays", apart := false, narrowed := true }
def StaysUptoSaid : Prop := staysUptoRow.holds Try.pinned (OpenSpec.upto staysSpec)

/-- 'quillkeep.Read', WHERE WHAT IT READS IS OF BULK AT MOST 1048576: true; the input reads as it did. -/
def readUptoRow : OpenClaim := { program := "ytffkejkgkgfnhaa", sum := "cb7fad235810ac66dc30c9571399e8f0663974be55cf72360fcffe240b7b81d4", func := "quill/quillkeep.Read", spec := "read", apart := false, narrowed := true }
def ReadUptoSaid : Prop := readUptoRow.holds Try.pinned (OpenSpec.upto readSpec)

/-- 'quillkeep.Ways', WHERE WHAT IT READS IS OF BULK AT MOST 1048576: true; the input reads as it did. -/
def waysUptoRow : OpenClaim := { program := "ytffkejkgkgfnhaa", sum := "cb7fad235810ac66dc30c9571399e8f0663974be55cf72360fcffe240b7b81d4", func := "quill/quillkeep.Ways", spec := "ways", recurses := true, loops := true, apart := false, narrowed := true }
def WaysUptoSaid : Prop := waysUptoRow.holds Try.pinned (OpenSpec.upto waysSpec)

/-- 'quillkeep.Ends', WHERE WHAT IT READS IS OF BULK AT MOST 1048576: true; the input reads as it did. -/
def endsUptoRow : OpenClaim := { program := "ytffkejkgkgfnhaa", sum := "cb7fad235810ac66dc30c9571399e8f0663974be55cf72360fcffe240b7b81d4", func := "quill/quillkeep.Ends", spec := "ends", recurses := true, loops := true, apart := false, narrowed := true }
def EndsUptoSaid : Prop := endsUptoRow.holds Try.pinned (OpenSpec.upto endsSpec)

/-- 'quillkeep.Filled', WHERE WHAT IT READS IS OF BULK AT MOST 1048576: true; the input reads as it did. -/
def filledUptoRow : OpenClaim := { program := "ytffkejkgkgfnhaa", sum := "cb7fad235810ac66dc30c9571399e8f0663974be55cf72360fcffe240b7b81d4", func := "quill/quillkeep.Filled", spec := "filled", recurses := true, apart := false, narrowed := true }
def FilledUptoSaid : Prop := filledUptoRow.holds Try.pinned (OpenSpec.upto filledSpec)

/-- 'quillkeep.Either', WHERE WHAT IT READS IS OF BULK AT MOST 1048576: true; the input reads as it did. -/
def eitherUptoRow : OpenClaim := { program := "ytffkejkgkgfnhaa", sum := "cb7fad235810ac66dc30c9571399e8f0663974be55cf72360fcffe240b7b81d4", func := "quill/quillkeep.Either", spec := "either", recurses := true, apart := false, narrowed := true }
def EitherUptoSaid : Prop := eitherUptoRow.holds Try.pinned (OpenSpec.upto eitherSpec)

end Rows
end Go.Proofs.Ytffkejkgkgfnhaa
