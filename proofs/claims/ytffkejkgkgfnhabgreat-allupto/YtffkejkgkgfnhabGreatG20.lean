import Derived.Test.YtffkejkgkgfnhabGreatG15
import Derived.Test.YtffkejkgkgfnhabGreatG13
namespace Go.Proofs.YtffkejkgkgfnhabGreat
open Go.RowKit
set_option linter.unusedVariables false
def slF (x : Nat × Nat) : Value := .slice (some ⟨x.1, 0, none⟩) (x.2 + 1) (x.2 + 1)
def slR (x : Nat × Nat × Nat) : Value := .slice (some ⟨x.1, 0, none⟩) (x.2.1 + 1) (x.2.1 + 1)
def sprB : ByteArray := ⟨#[115, 112, 97, 114, 101]⟩
/-- the spare field -/
def SpF (w : World) (x : Nat × Nat) : Prop := w.cell? ⟨x.1, x.2 * 4, none⟩ = some (.string sprB) ∧ w.cell? ⟨x.1, x.2 * 4 + 1, none⟩ = some (.bool false) ∧ w.cell? ⟨x.1, x.2 * 4 + 2, none⟩ = some (.string ⟨#[]⟩) ∧ w.cell? ⟨x.1, x.2 * 4 + 3, none⟩ = some (.slice none 0 0) ∧ x.2 ≤ 1048576
/-- the spare row -/
def SpR (w : World) (x : Nat × Nat × Nat) : Prop := w.cell? ⟨x.1, x.2.1, none⟩ = some (.slice (some ⟨x.2.2, 0, none⟩) 1 1) ∧ w.cell? ⟨x.2.2, 0, none⟩ = some (.string sprB) ∧ x.2.1 ≤ 1048576
/-- a block that nothing of the copying writes into again -/
structure Frb (w : World) (ab : Nat) (fv rv : Value) (k : Nat) : Prop where
  lo : ab < k
  hi : k < w.heap.size
  nf : fv.ownBlock ≠ some k
  nr : rv.ownBlock ≠ some k
structure ChA (ab : Nat) (fv rv fv' rv' : Value) (w w' : World) : Prop where
  os : w'.os = w.os
  tape : w'.tape = w.tape
  output : w'.output = w.output
  size : w.heap.size ≤ w'.heap.size
  block : ∀ k, k < w.heap.size → k ≠ ab → fv.ownBlock ≠ some k → rv.ownBlock ≠ some k → w'.heap[k]? = w.heap[k]?
  ownF : ∀ g, fv'.ownBlock = some g → fv.ownBlock = some g ∨ w.heap.size ≤ g
  ownR : ∀ g, rv'.ownBlock = some g → rv.ownBlock = some g ∨ w.heap.size ≤ g
theorem ChA.refl (ab : Nat) (fv rv : Value) (w : World) : ChA ab fv rv fv rv w w := ⟨rfl, rfl, rfl, Nat.le_refl _, fun _ _ _ _ _ => rfl, fun _ h => .inl h, fun _ h => .inl h⟩
theorem ChA.trans {ab : Nat} {f1 r1 f2 r2 f3 r3 : Value} {a b c : World} (h : ChA ab f1 r1 f2 r2 a b) (k : ChA ab f2 r2 f3 r3 b c) : ChA ab f1 r1 f3 r3 a c := by
  refine ⟨k.os.trans h.os, k.tape.trans h.tape, k.output.trans h.output, Nat.le_trans h.size k.size, fun i h1 h2 h3 h4 => ?_, fun g hg => ?_, fun g hg => ?_⟩
  · refine (k.block i (Nat.lt_of_lt_of_le h1 h.size) h2 (fun e => ?_) (fun e => ?_)).trans (h.block i h1 h2 h3 h4)
    · rcases h.ownF i e with e' | e'
      · exact h3 e'
      · omega
    · rcases h.ownR i e with e' | e'
      · exact h4 e'
      · omega
  · rcases k.ownF g hg with e | e
    · exact h.ownF g e
    · exact .inr (Nat.le_trans h.size e)
  · rcases k.ownR g hg with e | e
    · exact h.ownR g e
    · exact .inr (Nat.le_trans h.size e)
theorem ChA.of_below {ab : Nat} {fv rv : Value} {w w' : World} (h : Below w.heap.size w w') : ChA ab fv rv fv rv w w' := ⟨h.os, h.tape, h.output, h.size, fun k h1 _ _ _ => h.block k h1, fun _ hg => .inl hg, fun _ hg => .inl hg⟩
theorem ChA.alloc {ab : Nat} {f1 r1 f2 r2 : Value} {w w' : World} (h : ChA ab f1 r1 f2 r2 w w') (o : Obj) : ChA ab f1 r1 f2 r2 w (w'.alloc o) := h.trans (ChA.of_below ((Below.refl _ _).alloc (Nat.le_refl _) _))
/-- a store into a block that is new -/
theorem ChA.setNew {ab : Nat} {f1 r1 f2 r2 : Value} {w w' : World} (h : ChA ab f1 r1 f2 r2 w w') (g j : Nat) (v : Value) (hg : w.heap.size ≤ g) : ChA ab f1 r1 f2 r2 w (w'.setCell ⟨g, j, none⟩ v) :=
  ⟨h.os, h.tape, h.output, by simpa using h.size, fun k h1 h2 h3 h4 => (set_far w' g j v k (by omega)).trans (h.block k h1 h2 h3 h4), h.ownF, h.ownR⟩
theorem Frb.step {w w' : World} {ab k : Nat} {fv rv fv' rv' : Value} (h : Frb w ab fv rv k) (c : ChA ab fv rv fv' rv' w w') : Frb w' ab fv' rv' k := by
  obtain ⟨h1, h2, h3, h4⟩ := h
  refine ⟨h1, Nat.lt_of_lt_of_le h2 c.size, fun e => ?_, fun e => ?_⟩
  · rcases c.ownF k e with q | q
    · exact h3 q
    · omega
  · rcases c.ownR k e with q | q
    · exact h4 q
    · omega
theorem Frb.same {w w' : World} {ab k : Nat} {fv rv fv' rv' : Value} (h : Frb w ab fv rv k) (c : ChA ab fv rv fv' rv' w w') : w'.heap[k]? = w.heap[k]? := c.block k h.hi (by have := h.lo; omega) h.nf h.nr
structure AgOK (w : World) (ab : Nat) (fv rv : Value) (Fs : List (Nat × Nat)) (Rs : List (Nat × Nat × Nat)) : Prop where
  c0 : w.cell? ⟨ab, 0, none⟩ = some fv
  c1 : w.cell? ⟨ab, 1, none⟩ = some rv
  z0 : w.frozen? ⟨ab, 0, none⟩ = false
  z1 : w.frozen? ⟨ab, 1, none⟩ = false
  o0 : w.ownsRow (ab + 1) 29 1 fv Fs.length (Fs.map slF)
  o1 : w.ownsRow (ab + 1) 86 1 rv Rs.length (Rs.map slR)
  ne : ∀ g, fv.ownBlock = some g → rv.ownBlock ≠ some g
  lt : ab < w.heap.size
  sF : ∀ x ∈ Fs, SpF w x ∧ Frb w ab fv rv x.1
  sR : ∀ x ∈ Rs, SpR w x ∧ Frb w ab fv rv x.1 ∧ Frb w ab fv rv x.2.2
theorem SpF.keep {w w' : World} {x : Nat × Nat} (h : SpF w x) (e : w'.heap[x.1]? = w.heap[x.1]?) : SpF w' x :=
  ⟨(World.cell?_of_block e).trans h.1, (World.cell?_of_block e).trans h.2.1, (World.cell?_of_block e).trans h.2.2.1, (World.cell?_of_block e).trans h.2.2.2.1, h.2.2.2.2⟩
theorem SpR.keep {w w' : World} {x : Nat × Nat × Nat} (h : SpR w x) (e : w'.heap[x.1]? = w.heap[x.1]?) (e' : w'.heap[x.2.2]? = w.heap[x.2.2]?) : SpR w' x :=
  ⟨(World.cell?_of_block e).trans h.1, (World.cell?_of_block e').trans h.2.1, h.2.2⟩
/-- what is below a world's size is as it was -/
theorem AgOK.below {w w' : World} {ab : Nat} {fv rv : Value} {Fs : List (Nat × Nat)} {Rs : List (Nat × Nat × Nat)} (h : AgOK w ab fv rv Fs Rs) (hb : ∀ k, k < w.heap.size → w'.heap[k]? = w.heap[k]?) (hs : w.heap.size ≤ w'.heap.size) : AgOK w' ab fv rv Fs Rs := by
  obtain ⟨c0, c1, z0, z1, o0, o1, ne, lt, sF, sR⟩ := h
  have e := hb ab lt
  have fr : ∀ k, Frb w ab fv rv k → Frb w' ab fv rv k := fun k q => ⟨q.lo, Nat.lt_of_lt_of_le q.hi hs, q.nf, q.nr⟩
  exact ⟨(World.cell?_of_block e).trans c0, (World.cell?_of_block e).trans c1, (World.frozen?_of_block e).trans z0, (World.frozen?_of_block e).trans z1,
    own_keep o0 (fun g hg => hb g (o0.lt g hg).2), own_keep o1 (fun g hg => hb g (o1.lt g hg).2), ne, by omega,
    fun x hx => ⟨(sF x hx).1.keep (hb _ (sF x hx).2.hi), fr _ (sF x hx).2⟩, fun x hx => ⟨(sR x hx).1.keep (hb _ (sR x hx).2.1.hi) (hb _ (sR x hx).2.2.hi), fr _ (sR x hx).2.1, fr _ (sR x hx).2.2⟩⟩
/-- a store into a block that is none of its own -/
theorem AgOK.setFar {w : World} {ab : Nat} {fv rv : Value} {Fs : List (Nat × Nat)} {Rs : List (Nat × Nat × Nat)} (h : AgOK w ab fv rv Fs Rs) (g j : Nat) (v : Value) (h0 : g ≠ ab) (h1 : fv.ownBlock ≠ some g) (h2 : rv.ownBlock ≠ some g) (h3 : ∀ x ∈ Fs, x.1 ≠ g) (h4 : ∀ x ∈ Rs, x.1 ≠ g ∧ x.2.2 ≠ g) : AgOK (w.setCell ⟨g, j, none⟩ v) ab fv rv Fs Rs := by
  obtain ⟨c0, c1, z0, z1, o0, o1, ne, lt, sF, sR⟩ := h
  have hb : ∀ k, k ≠ g → (w.setCell ⟨g, j, none⟩ v).heap[k]? = w.heap[k]? := fun k hk => set_far w g j v k hk
  have e := hb ab (Ne.symm h0)
  have fr : ∀ k, Frb w ab fv rv k → Frb (w.setCell ⟨g, j, none⟩ v) ab fv rv k := fun k q => ⟨q.lo, by simpa using q.hi, q.nf, q.nr⟩
  exact ⟨(World.cell?_of_block e).trans c0, (World.cell?_of_block e).trans c1, (World.frozen?_of_block e).trans z0, (World.frozen?_of_block e).trans z1,
    own_keep o0 (fun k hk => hb k (fun e => h1 (e ▸ hk))), own_keep o1 (fun k hk => hb k (fun e => h2 (e ▸ hk))), ne, by simpa using lt,
    fun x hx => ⟨(sF x hx).1.keep (hb _ (h3 x hx)), fr _ (sF x hx).2⟩, fun x hx => ⟨(sR x hx).1.keep (hb _ (h4 x hx).1) (hb _ (h4 x hx).2), fr _ (sR x hx).2.1, fr _ (sR x hx).2.2⟩⟩
/-- one list of fields more -/
theorem ag_pushF {w w1 : World} {ab g cap : Nat} {fv rv : Value} {Fs : List (Nat × Nat)} {Rs : List (Nat × Nat × Nat)} {x : Nat × Nat} (h : AgOK w ab fv rv Fs Rs) (hos : w1.os = w.os) (htp : w1.tape = w.tape) (hou : w1.output = w.output) (hsz : w.heap.size ≤ w1.heap.size)
    (hblk : ∀ k, k < w.heap.size → some k ≠ fv.ownBlock → w1.heap[k]? = w.heap[k]?) (hown : w1.ownsRow (ab + 1) 29 1 (.slice (some ⟨g, 0, none⟩) (Fs.length + 1) cap) (Fs.length + 1) (Fs.map slF ++ [slF x]))
    (hat : fv.ownBlock = some g ∨ w.heap.size ≤ g) (hS : SpF w x) (hF : Frb w ab fv rv x.1) :
    AgOK (w1.setCell ⟨ab, 0, none⟩ (.slice (some ⟨g, 0, none⟩) (Fs.length + 1) cap)) ab (.slice (some ⟨g, 0, none⟩) (Fs.length + 1) cap) rv (Fs ++ [x]) Rs ∧ ChA ab fv rv (.slice (some ⟨g, 0, none⟩) (Fs.length + 1) cap) rv w (w1.setCell ⟨ab, 0, none⟩ (.slice (some ⟨g, 0, none⟩) (Fs.length + 1) cap)) := by
  obtain ⟨c0, c1, z0, z1, o0, o1, ne, lt, sF, sR⟩ := h
  have hch : ChA ab fv rv (.slice (some ⟨g, 0, none⟩) (Fs.length + 1) cap) rv w (w1.setCell ⟨ab, 0, none⟩ (.slice (some ⟨g, 0, none⟩) (Fs.length + 1) cap)) := by
    refine ⟨hos, htp, hou, by simpa using hsz, fun k h1 h2 h3 h4 => (set_far w1 _ _ _ k h2).trans (hblk k h1 (Ne.symm h3)), fun k hk => ?_, fun k hk => .inl hk⟩
    simp [Value.ownBlock] at hk
    subst hk
    exact hat
  refine ⟨?_, hch⟩
  have eab : w1.heap[ab]? = w.heap[ab]? := hblk ab lt (fun e => by have := (o0.lt ab e.symm).1; omega)
  have ff : ∀ {j}, w.frozen? ⟨ab, j, none⟩ = false → (w1.setCell ⟨ab, 0, none⟩ (.slice (some ⟨g, 0, none⟩) (Fs.length + 1) cap)).frozen? ⟨ab, j, none⟩ = false := fun h => by
    have := (World.frozen?_of_block eab).trans h
    simpa using this
  have eL : (Fs ++ [x]).length = Fs.length + 1 := by simp
  refine ⟨cellS _ ((World.cell?_of_block eab).trans c0), (cellO w1 _ _ _ _ (by decide)).trans ((World.cell?_of_block eab).trans c1), ff z0, ff z1, ?_, ?_, fun k hk => ?_, by simp; omega, fun y hy => ?_, fun y hy => ?_⟩
  · rw [eL, List.map_append]; exact own_keep hown (fun k hk => set_far w1 _ _ _ k (by have := (hown.lt k hk).1; omega))
  · exact own_keep o1 (fun k hk => (set_far w1 _ _ _ k (by have := (o1.lt k hk).1; omega)).trans (hblk k (o1.lt k hk).2 (fun e => ne k e.symm hk)))
  · simp [Value.ownBlock] at hk
    subst hk
    intro e
    rcases hat with q | q
    · exact ne g q e
    · have := (o1.lt g e).2; omega
  · rcases List.mem_append.1 hy with q | q
    · exact ⟨(sF y q).1.keep ((sF y q).2.same hch), (sF y q).2.step hch⟩
    · simp at q
      subst q
      exact ⟨hS.keep (hF.same hch), hF.step hch⟩
  · exact ⟨(sR y hy).1.keep ((sR y hy).2.1.same hch) ((sR y hy).2.2.same hch), (sR y hy).2.1.step hch, (sR y hy).2.2.step hch⟩
/-- one list of rows more -/
theorem ag_pushR {w w1 : World} {ab g cap : Nat} {fv rv : Value} {Fs : List (Nat × Nat)} {Rs : List (Nat × Nat × Nat)} {x : Nat × Nat × Nat} (h : AgOK w ab fv rv Fs Rs) (hos : w1.os = w.os) (htp : w1.tape = w.tape) (hou : w1.output = w.output) (hsz : w.heap.size ≤ w1.heap.size)
    (hblk : ∀ k, k < w.heap.size → some k ≠ rv.ownBlock → w1.heap[k]? = w.heap[k]?) (hown : w1.ownsRow (ab + 1) 86 1 (.slice (some ⟨g, 0, none⟩) (Rs.length + 1) cap) (Rs.length + 1) (Rs.map slR ++ [slR x]))
    (hat : rv.ownBlock = some g ∨ w.heap.size ≤ g) (hS : SpR w x) (hF : Frb w ab fv rv x.1) (hF2 : Frb w ab fv rv x.2.2) :
    AgOK (w1.setCell ⟨ab, 1, none⟩ (.slice (some ⟨g, 0, none⟩) (Rs.length + 1) cap)) ab fv (.slice (some ⟨g, 0, none⟩) (Rs.length + 1) cap) Fs (Rs ++ [x]) ∧ ChA ab fv rv fv (.slice (some ⟨g, 0, none⟩) (Rs.length + 1) cap) w (w1.setCell ⟨ab, 1, none⟩ (.slice (some ⟨g, 0, none⟩) (Rs.length + 1) cap)) := by
  obtain ⟨c0, c1, z0, z1, o0, o1, ne, lt, sF, sR⟩ := h
  have hch : ChA ab fv rv fv (.slice (some ⟨g, 0, none⟩) (Rs.length + 1) cap) w (w1.setCell ⟨ab, 1, none⟩ (.slice (some ⟨g, 0, none⟩) (Rs.length + 1) cap)) := by
    refine ⟨hos, htp, hou, by simpa using hsz, fun k h1 h2 h3 h4 => (set_far w1 _ _ _ k h2).trans (hblk k h1 (Ne.symm h4)), fun k hk => .inl hk, fun k hk => ?_⟩
    simp [Value.ownBlock] at hk
    subst hk
    exact hat
  refine ⟨?_, hch⟩
  have eab : w1.heap[ab]? = w.heap[ab]? := hblk ab lt (fun e => by have := (o1.lt ab e.symm).1; omega)
  have ff : ∀ {j}, w.frozen? ⟨ab, j, none⟩ = false → (w1.setCell ⟨ab, 1, none⟩ (.slice (some ⟨g, 0, none⟩) (Rs.length + 1) cap)).frozen? ⟨ab, j, none⟩ = false := fun h => by
    have := (World.frozen?_of_block eab).trans h
    simpa using this
  have eL : (Rs ++ [x]).length = Rs.length + 1 := by simp
  refine ⟨(cellO w1 _ _ _ _ (by decide)).trans ((World.cell?_of_block eab).trans c0), cellS _ ((World.cell?_of_block eab).trans c1), ff z0, ff z1, ?_, ?_, fun k hk => ?_, by simp; omega, fun y hy => ?_, fun y hy => ?_⟩
  · exact own_keep o0 (fun k hk => (set_far w1 _ _ _ k (by have := (o0.lt k hk).1; omega)).trans (hblk k (o0.lt k hk).2 (fun e => ne k hk e.symm)))
  · rw [eL, List.map_append]; exact own_keep hown (fun k hk => set_far w1 _ _ _ k (by have := (hown.lt k hk).1; omega))
  · intro e
    simp [Value.ownBlock] at e
    subst e
    rcases hat with q | q
    · exact ne g hk q
    · have := (o0.lt g hk).2; omega
  · exact ⟨(sF y hy).1.keep ((sF y hy).2.same hch), (sF y hy).2.step hch⟩
  · rcases List.mem_append.1 hy with q | q
    · exact ⟨(sR y q).1.keep ((sR y q).2.1.same hch) ((sR y q).2.2.same hch), (sR y q).2.1.step hch, (sR y q).2.2.step hch⟩
    · simp at q
      subst q
      exact ⟨hS.keep (hF.same hch) (hF2.same hch), hF.step hch, hF2.step hch⟩
end Go.Proofs.YtffkejkgkgfnhabGreat
