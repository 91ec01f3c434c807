/-
  No cell of these rows narrows 'for every input' (looked for: loops, veiled, ifaces, maps, wideKeys, modest, calm, conditions, laid).
  DERIVED. THE GIVEN ROWS OF THIS SEAT. 4 by the template 'for every input the law returns true; each argument reads behind the call as it read before'; 0 by the template 'total and deterministic' (their statements: YtffkejkgkgfnhabTotals.lean).
  GIVEN WITH THE SEED: the statements are not yours to turn. If you find one false, say at which input.
  Laid BY PROGRAM, IN A SANDBOX (cutbox-rows.mjs): the forced cells as the released guide's own fill.sh prints them over the translation e839c764d098d3aa… (all of the seat's roots in one cut). By AI agents, Wed Nov 11 2026. No macro, syntax, notation, axiom, sorry.
-/
import Derived.Test.YtffkejkgkgfnhabChecked
import GoSem.Claim
import GoSem.ClaimJoined
import GoSem.ClaimMapViews
import Derived.JoinedTies
import Derived.KernelRfl
namespace Go.Proofs.Ytffkejkgkgfnhab
/- THE CELL 'sum', in the pinned program and in every row, IS THE sha256 OF THE DUMP (.gsa) THAT YtffkejkgkgfnhabProg.lean LOADS. Nothing in Lean hashes anything: it is a label: what it is worth is what the hold of that sum in a sandbox is worth. -/
noncomputable def Try.pinned : Pinned := { name := "ytffkejkgkgfnhab", sum := "e839c764d098d3aa4fbd3fa119970f7eaec560c8c458e5f56f1b3ac0d2ea6595", checked := Try.checked }
namespace Rows
def none {H : Type} : Left H := { results := [], args := [] }

/-- 'quillkeep.Looped': WHATEVER THE INPUT: true; the input reads as it did. -/
def loopedSpec : ChangeSpec := { name := "looped", fn := fun _ => fun
  | [d] => { results := [.lit (.bool true)], args := [d] }
  | _ => none }
def loopedRow : OpenClaim := { program := "ytffkejkgkgfnhab", sum := "e839c764d098d3aa4fbd3fa119970f7eaec560c8c458e5f56f1b3ac0d2ea6595", func := "quill/quillkeep.Looped", spec := "looped", recurses := true, apart := false }
def LoopedSaid : Prop := loopedRow.holds Try.pinned (OpenSpec.ofChange loopedSpec)

/-- ITS FALSE NEIGHBOUR: 'it returns false'. Refute it at one input. -/
def loopedWrong : ChangeSpec := { name := "looped", fn := fun _ => fun
  | [d] => { results := [.lit (.bool false)], args := [d] }
  | _ => none }
def LoopedWrongFalsely : Prop := loopedRow.holds Try.pinned (OpenSpec.ofChange loopedWrong)

/-- 'quillkeep.Fits': WHATEVER THE INPUT: true; the input reads as it did. -/
def fitsSpec : ChangeSpec := { name := "fits", fn := fun _ => fun
  | [d1, d2] => { results := [.lit (.bool true)], args := [d1, d2] }
  | _ => none }
def fitsRow : OpenClaim := { program := "ytffkejkgkgfnhab", sum := "e839c764d098d3aa4fbd3fa119970f7eaec560c8c458e5f56f1b3ac0d2ea6595", func := "quill/quillkeep.Fits", spec := "fits", recurses := true, apart := false }
def FitsSaid : Prop := fitsRow.holds Try.pinned (OpenSpec.ofChange fitsSpec)

/-- ITS FALSE NEIGHBOUR: 'it returns false'. Refute it at one input. -/
def fitsWrong : ChangeSpec := { name := "fits", fn := fun _ => fun
  | [d1, d2] => { results := [.lit (.bool false)], args := [d1, d2] }
  | _ => none }
def FitsWrongFalsely : Prop := fitsRow.holds Try.pinned (OpenSpec.ofChange fitsWrong)

/-- 'quillkeep.Scoped': WHATEVER THE INPUT: true; the input reads as it did. -/
def scopedSpec : ChangeSpec := { name := "scoped", fn := fun _ => fun
  | [d1, d2, d3] => { results := [.lit (.bool true)], args := [d1, d2, d3] }
  | _ => none }
def scopedRow : OpenClaim := { program := "ytffkejkgkgfnhab", sum := "e839c764d098d3aa4fbd3fa119970f7eaec560c8c458e5f56f1b3ac0d2ea6595", func := "quill/quillkeep.Scoped", spec := "scoped", recurses := true, apart := false }
def ScopedSaid : Prop := scopedRow.holds Try.pinned (OpenSpec.ofChange scopedSpec)

/-- ITS FALSE NEIGHBOUR: 'it returns false'. Refute it at one input. -/
def scopedWrong : ChangeSpec := { name := "scoped", fn := fun _ => fun
  | [d1, d2, d3] => { results := [.lit (.bool false)], args := [d1, d2, d3] }
  | _ => none }
def ScopedWrongFalsely : Prop := scopedRow.holds Try.pinned (OpenSpec.ofChange scopedWrong)

/-- 'quillkeep.Called': WHATEVER THE INPUT: true; the input reads as it did. -/
def calledSpec : ChangeSpec := { name := "called", fn := fun _ => fun
  | [d] => { results := [.lit (.bool true)], args := [d] }
  | _ => none }
def calledRow : OpenClaim := { program := "ytffkejkgkgfnhab", sum := "e839c764d098d3aa4fbd3fa119970f7eaec560c8c458e5f56f1b3ac0d2ea6595", func := "quill/quillkeep.Called", spec := "called", recurses := true, apart := false }
def CalledSaid : Prop := calledRow.holds Try.pinned (OpenSpec.ofChange calledSpec)

/-- ITS FALSE NEIGHBOUR: 'it returns false'. Refute it at one input. -/
def calledWrong : ChangeSpec := { name := "called", fn := fun _ => fun
  | [d] => { results := [.lit (.bool false)], args := [d] }
  | _ => none }
def CalledWrongFalsely : Prop := calledRow.holds Try.pinned (OpenSpec.ofChange calledWrong)

/- THE SECOND FORM. 'bulk': how many values and letters a reading holds, each counted each time it is reached (what is shared counts as often as it is met; a slice's spare places count too). A statement '..UptoSaid' is the law's where the arguments, and the package variables that the reading takes, are together of bulk at most 1048576: NARROWER than '..Said'. Prove '..Said' where nothing that the law and all that it calls make is longer than what came in: it says more and counts as full. Else prove '..UptoSaid'. A law counts once. -/
mutual
def uptoBulk {H : Type} : DataW H → Nat
  | .lit (.string bytes) => bytes.length + 1
  | .lit _ => 1
  | .nil => 1
  | .ptr d => uptoBulk d + 1
  | .slice elems spare => uptoBulkAll elems + uptoBulkAll spare + 1
  | .agg parts => uptoBulkAll parts + 1
  | .iface _ d => uptoBulk d + 1
  | .map entries => uptoBulkEntries entries + 1
  | .held _ => 1
def uptoBulkAll {H : Type} : List (DataW H) → Nat
  | [] => 0
  | d :: r => uptoBulk d + uptoBulkAll r
def uptoBulkEntries {H : Type} : List (Lit × DataW H) → Nat
  | [] => 0
  | x :: r => uptoBulkEntry x + uptoBulkEntries r
def uptoBulkEntry {H : Type} : Lit × DataW H → Nat
  | (.string bytes, d) => bytes.length + uptoBulk d + 1
  | (_, d) => uptoBulk d + 1
 end
def uptoSmall : (H : Type) → List (DataW H) → Bool := fun _ ds => decide (uptoBulkAll ds ≤ 1048576)
def OpenSpec.upto (s : _root_.Go.ChangeSpec) : _root_.Go.OpenSpec := { _root_.Go.OpenSpec.ofChange s with cond := some uptoSmall }

/-- 'quillkeep.Looped', WHERE WHAT IT READS IS OF BULK AT MOST 1048576: true; the input reads as it did. -/
def loopedUptoRow : OpenClaim := { program := "ytffkejkgkgfnhab", sum := "e839c764d098d3aa4fbd3fa119970f7eaec560c8c458e5f56f1b3ac0d2ea6595", func := "quill/quillkeep.Looped", spec := "looped", recurses := true, apart := false, narrowed := true }
def LoopedUptoSaid : Prop := loopedUptoRow.holds Try.pinned (OpenSpec.upto loopedSpec)

/-- 'quillkeep.Fits', WHERE WHAT IT READS IS OF BULK AT MOST 1048576: true; the input reads as it did. -/
def fitsUptoRow : OpenClaim := { program := "ytffkejkgkgfnhab", sum := "e839c764d098d3aa4fbd3fa119970f7eaec560c8c458e5f56f1b3ac0d2ea6595", func := "quill/quillkeep.Fits", spec := "fits", recurses := true, apart := false, narrowed := true }
def FitsUptoSaid : Prop := fitsUptoRow.holds Try.pinned (OpenSpec.upto fitsSpec)

/-- 'quillkeep.Scoped', WHERE WHAT IT READS IS OF BULK AT MOST 1048576: true; the input reads as it did. -/
def scopedUptoRow : OpenClaim := { program := "ytffkejkgkgfnhab", sum := "e839c764d098d3aa4fbd3fa119970f7eaec560c8c458e5f56f1b3ac0d2ea6595", func := "quill/quillkeep.Scoped", spec := "scoped", recurses := true, apart := false, narrowed := true }
def ScopedUptoSaid : Prop := scopedUptoRow.holds Try.pinned (OpenSpec.upto scopedSpec)

/-- 'quillkeep.Called', WHERE WHAT IT READS IS OF BULK AT MOST 1048576: true; the input reads as it did. -/
def calledUptoRow : OpenClaim := { program := "ytffkejkgkgfnhab", sum := "e839c764d098d3aa4fbd3fa119970f7eaec560c8c458e5f56f1b3ac0d2ea6595", func := "quill/quillkeep.Called", spec := "called", recurses := true, apart := false, narrowed := true }
def CalledUptoSaid : Prop := calledUptoRow.holds Try.pinned (OpenSpec.upto calledSpec)

end Rows
end Go.Proofs.Ytffkejkgkgfnhab
