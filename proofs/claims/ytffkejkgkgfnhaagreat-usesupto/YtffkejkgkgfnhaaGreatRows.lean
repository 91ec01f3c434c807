/-
  NARROWER THAN 'FOR EVERY INPUT', by the rows' own cells (each row's printed sentence says how): Checks: loops · Scans: loops · Escapes: loops · Uses: loops · Renders: loops.
  DERIVED. THE GIVEN ROWS OF THIS SEAT. 5 by the template 'for every input the law returns true; each argument reads behind the call as it read before'; 0 by the template 'total and deterministic' (their statements: YtffkejkgkgfnhaaGreatTotals.lean).
  GIVEN WITH THE SEED: the statements are not yours to turn. If you find one false, say at which input.
  Laid BY PROGRAM, IN A SANDBOX (cutbox-rows.mjs): the forced cells as the released guide's own fill.sh prints them over the translation 4b19a2e4ef221714… (all of the seat's roots in one cut). By AI agents, Wed Nov 11 2026. No macro, syntax, notation, axiom, sorry.
-/
import Derived.Test.YtffkejkgkgfnhaaGreatChecked
import GoSem.Claim
import GoSem.ClaimJoined
import GoSem.ClaimMapViews
import Derived.JoinedTies
import Derived.KernelRfl
namespace Go.Proofs.YtffkejkgkgfnhaaGreat
/- THE CELL 'sum', in the pinned program and in every row, IS THE sha256 OF THE DUMP (.gsa) THAT YtffkejkgkgfnhaaGreatProg.lean LOADS. Nothing in Lean hashes anything: it is a label: what it is worth is what the hold of that sum in a sandbox is worth. -/
noncomputable def Tryz.pinned : Pinned := { name := "ytffkejkgkgfnhaagreat", sum := "4b19a2e4ef221714364706a9fd5465e7a21c03fa201c892d7fa07752f2b52635", checked := Tryz.checked }
namespace Rows
def none {H : Type} : Left H := { results := [], args := [] }

/-- 'quilllaw.Checks': WHATEVER THE INPUT: true; the input reads as it did. -/
def checksSpec : ChangeSpec := { name := "checks", fn := fun _ => fun
  | [d] => { results := [.lit (.bool true)], args := [d] }
  | _ => none }
def checksRow : OpenClaim := { program := "ytffkejkgkgfnhaagreat", sum := "4b19a2e4ef221714364706a9fd5465e7a21c03fa201c892d7fa07752f2b52635", func := "quill/quilllaw.Checks", spec := "checks", recurses := true, loops := true, apart := false }
def ChecksSaid : Prop := checksRow.holds Tryz.pinned (OpenSpec.ofChange checksSpec)

/-- ITS FALSE NEIGHBOUR: 'it returns false'. Refute it at one input. -/
def checksWrong : ChangeSpec := { name := "checks", fn := fun _ => fun
  | [d] => { results := [.lit (.bool false)], args := [d] }
  | _ => none }
def ChecksWrongFalsely : Prop := checksRow.holds Tryz.pinned (OpenSpec.ofChange checksWrong)

/-- 'quilllaw.Scans': WHATEVER THE INPUT: true; the input reads as it did. -/
def scansSpec : ChangeSpec := { name := "scans", fn := fun _ => fun
  | [d] => { results := [.lit (.bool true)], args := [d] }
  | _ => none }
def scansRow : OpenClaim := { program := "ytffkejkgkgfnhaagreat", sum := "4b19a2e4ef221714364706a9fd5465e7a21c03fa201c892d7fa07752f2b52635", func := "quill/quilllaw.Scans", spec := "scans", recurses := true, loops := true, apart := false }
def ScansSaid : Prop := scansRow.holds Tryz.pinned (OpenSpec.ofChange scansSpec)

/-- ITS FALSE NEIGHBOUR: 'it returns false'. Refute it at one input. -/
def scansWrong : ChangeSpec := { name := "scans", fn := fun _ => fun
  | [d] => { results := [.lit (.bool false)], args := [d] }
  | _ => none }
def ScansWrongFalsely : Prop := scansRow.holds Tryz.pinned (OpenSpec.ofChange scansWrong)

/-- 'quilllaw.Escapes': WHATEVER THE INPUT: true; the input reads as it did. -/
def escapesSpec : ChangeSpec := { name := "escapes", fn := fun _ => fun
  | [d] => { results := [.lit (.bool true)], args := [d] }
  | _ => none }
def escapesRow : OpenClaim := { program := "ytffkejkgkgfnhaagreat", sum := "4b19a2e4ef221714364706a9fd5465e7a21c03fa201c892d7fa07752f2b52635", func := "quill/quilllaw.Escapes", spec := "escapes", recurses := true, loops := true, apart := false }
def EscapesSaid : Prop := escapesRow.holds Tryz.pinned (OpenSpec.ofChange escapesSpec)

/-- ITS FALSE NEIGHBOUR: 'it returns false'. Refute it at one input. -/
def escapesWrong : ChangeSpec := { name := "escapes", fn := fun _ => fun
  | [d] => { results := [.lit (.bool false)], args := [d] }
  | _ => none }
def EscapesWrongFalsely : Prop := escapesRow.holds Tryz.pinned (OpenSpec.ofChange escapesWrong)

/-- 'quilllaw.Uses': WHATEVER THE INPUT: true; the input reads as it did. -/
def usesSpec : ChangeSpec := { name := "uses", fn := fun _ => fun
  | [d] => { results := [.lit (.bool true)], args := [d] }
  | _ => none }
def usesRow : OpenClaim := { program := "ytffkejkgkgfnhaagreat", sum := "4b19a2e4ef221714364706a9fd5465e7a21c03fa201c892d7fa07752f2b52635", func := "quill/quilllaw.Uses", spec := "uses", recurses := true, loops := true, apart := false }
def UsesSaid : Prop := usesRow.holds Tryz.pinned (OpenSpec.ofChange usesSpec)

/-- ITS FALSE NEIGHBOUR: 'it returns false'. Refute it at one input. -/
def usesWrong : ChangeSpec := { name := "uses", fn := fun _ => fun
  | [d] => { results := [.lit (.bool false)], args := [d] }
  | _ => none }
def UsesWrongFalsely : Prop := usesRow.holds Tryz.pinned (OpenSpec.ofChange usesWrong)

/-- 'quilllaw.Renders': WHATEVER THE INPUT: true; the input reads as it did. -/
def rendersSpec : ChangeSpec := { name := "renders", fn := fun _ => fun
  | [d] => { results := [.lit (.bool true)], args := [d] }
  | _ => none }
def rendersRow : OpenClaim := { program := "ytffkejkgkgfnhaagreat", sum := "4b19a2e4ef221714364706a9fd5465e7a21c03fa201c892d7fa07752f2b52635", func := "quill/quilllaw.Renders", spec := "renders", recurses := true, loops := true, apart := false }
def RendersSaid : Prop := rendersRow.holds Tryz.pinned (OpenSpec.ofChange rendersSpec)

/-- ITS FALSE NEIGHBOUR: 'it returns false'. Refute it at one input. -/
def rendersWrong : ChangeSpec := { name := "renders", fn := fun _ => fun
  | [d] => { results := [.lit (.bool false)], args := [d] }
  | _ => none }
def RendersWrongFalsely : Prop := rendersRow.holds Tryz.pinned (OpenSpec.ofChange rendersWrong)

/- THE SECOND FORM. 'bulk': how many values and letters a reading holds, each counted each time it is reached (what is shared counts as often as it is met; a slice's spare places count too). A statement '..UptoSaid' is the law's where the arguments, and the package variables that the reading takes, are together of bulk at most 1048576: NARROWER than '..Said'. Prove '..Said' where nothing that the law and all that it calls make is longer than what came in: it says more and counts as full. Else prove '..UptoSaid'. A law counts once. -/
mutual
def uptoBulk {H : Type} : DataW H → Nat
  | .lit (.string bytes) => bytes.length + 1
  | .lit _ => 1
  | .nil => 1
  | .ptr d => uptoBulk d + 1
  | .slice elems spare => uptoBulkAll elems + uptoBulkAll spare + 1
  | .agg parts => uptoBulkAll parts + 1
  | .iface _ d => uptoBulk d + 1
  | .map entries => uptoBulkEntries entries + 1
  | .held _ => 1
def uptoBulkAll {H : Type} : List (DataW H) → Nat
  | [] => 0
  | d :: r => uptoBulk d + uptoBulkAll r
def uptoBulkEntries {H : Type} : List (Lit × DataW H) → Nat
  | [] => 0
  | x :: r => uptoBulkEntry x + uptoBulkEntries r
def uptoBulkEntry {H : Type} : Lit × DataW H → Nat
  | (.string bytes, d) => bytes.length + uptoBulk d + 1
  | (_, d) => uptoBulk d + 1
 end
def uptoSmall : (H : Type) → List (DataW H) → Bool := fun _ ds => decide (uptoBulkAll ds ≤ 1048576)
def OpenSpec.upto (s : _root_.Go.ChangeSpec) : _root_.Go.OpenSpec := { _root_.Go.OpenSpec.ofChange s with cond := some uptoSmall }

/-- 'quilllaw.Checks', WHERE WHAT IT READS IS OF BULK AT MOST 1048576: true; the input reads as it did. -/
def checksUptoRow : OpenClaim := { program := "ytffkejkgkgfnhaagreat", sum := "4b19a2e4ef221714364706a9fd5465e7a21c03fa201c892d7fa07752f2b52635", func := "quill/quilllaw.Checks", spec := "checks", recurses := true, loops := true, apart := false, narrowed := true }
def ChecksUptoSaid : Prop := checksUptoRow.holds Tryz.pinned (OpenSpec.upto checksSpec)

/-- 'quilllaw.Scans', WHERE WHAT IT READS IS OF BULK AT MOST 1048576: true; the input reads as it did. -/
def scansUptoRow : OpenClaim := { program := "ytffkejkgkgfnhaagreat", sum := "4b19a2e4ef221714364706a9fd5465e7a21c03fa201c892d7fa07752f2b52635", func := "quill/quilllaw.Scans", spec := "scans", recurses := true, loops := true, apart := false, narrowed := true }
def ScansUptoSaid : Prop := scansUptoRow.holds Tryz.pinned (OpenSpec.upto scansSpec)

/-- 'quilllaw.Escapes', WHERE WHAT IT READS IS OF BULK AT MOST 1048576: true; the input reads as it did. -/
def escapesUptoRow : OpenClaim := { program := "ytffkejkgkgfnhaagreat", sum := "4b19a2e4ef221714364706a9fd5465e7a21c03fa201c892d7fa07752f2b52635", func := "quill/quilllaw.Escapes", spec := "escapes", recurses := true, loops := true, apart := false, narrowed := true }
def EscapesUptoSaid : Prop := escapesUptoRow.holds Tryz.pinned (OpenSpec.upto escapesSpec)

/-- 'quilllaw.Uses', WHERE WHAT IT READS IS OF BULK AT MOST 1048576: true; the input reads as it did. -/
def usesUptoRow : OpenClaim := { program := "ytffkejkgkgfnhaagreat", sum := "4b19a2e4ef221714364706a9fd5465e7a21c03fa201c892d7fa07752f2b52635", func := "quill/quilllaw.Uses", spec := "uses", recurses := true, loops := true, apart := false, narrowed := true }
def UsesUptoSaid : Prop := usesUptoRow.holds Tryz.pinned (OpenSpec.upto usesSpec)

/-- 'quilllaw.Renders', WHERE WHAT IT READS IS OF BULK AT MOST 1048576: true; the input reads as it did. -/
def rendersUptoRow : OpenClaim := { program := "ytffkejkgkgfnhaagreat", sum := "4b19a2e4ef221714364706a9fd5465e7a21c03fa201c892d7fa07752f2b52635", func := "quill/quilllaw.Renders", spec := "renders", recurses := true, loops := true, apart := false, narrowed := true }
def RendersUptoSaid : Prop := rendersUptoRow.holds Tryz.pinned (OpenSpec.upto rendersSpec)

end Rows
end Go.Proofs.YtffkejkgkgfnhaaGreat
