import Derived.Test.YtffkejkgkgfnhabG06
import Derived.Test.YtffkejkgkgfnhabG05
import Derived.Deep.RegionLaw
namespace Go.Proofs.Ytffkejkgkgfnhab
open Go.RowKit
set_option linter.unusedVariables false
def slF (x : Nat × Nat) : Value := .slice (some ⟨x.1, 0, none⟩) (x.2 + 1) (x.2 + 1)
def slR (x : Nat × Nat × Nat) : Value := .slice (some ⟨x.1, 0, none⟩) (x.2.1 + 1) (x.2.1 + 1)
def sprB : ByteArray := ⟨#[115, 112, 97, 114, 101]⟩
/-- the spare field -/
def SpF (w : World) (x : Nat × Nat) : Prop := w.cell? ⟨x.1, x.2 * 4, none⟩ = some (.string sprB) ∧ w.cell? ⟨x.1, x.2 * 4 + 1, none⟩ = some (.bool false) ∧ w.cell? ⟨x.1, x.2 * 4 + 2, none⟩ = some (.string ⟨#[]⟩) ∧ w.cell? ⟨x.1, x.2 * 4 + 3, none⟩ = some (.slice none 0 0) ∧ x.2 ≤ 1048576
/-- the spare row -/
def SpR (w : World) (x : Nat × Nat × Nat) : Prop := w.cell? ⟨x.1, x.2.1, none⟩ = some (.slice (some ⟨x.2.2, 0, none⟩) 1 1) ∧ w.cell? ⟨x.2.2, 0, none⟩ = some (.string sprB) ∧ x.2.1 ≤ 1048576
/-- a block that nothing of the copying writes into again -/
structure Frb (w : World) (ab : Nat) (fv rv : Value) (k : Nat) : Prop where
  lo : ab < k
  hi : k < w.heap.size
  nf : fv.ownBlock ≠ some k
  nr : rv.ownBlock ≠ some k
structure ChA (ab : Nat) (fv rv fv' rv' : Value) (w w' : World) : Prop where
  os : w'.os = w.os
  tape : w'.tape = w.tape
  output : w'.output = w.output
  size : w.heap.size ≤ w'.heap.size
  block : ∀ k, k < w.heap.size → k ≠ ab → fv.ownBlock ≠ some k → rv.ownBlock ≠ some k → w'.heap[k]? = w.heap[k]?
  ownF : ∀ g, fv'.ownBlock = some g → fv.ownBlock = some g ∨ w.heap.size ≤ g
  ownR : ∀ g, rv'.ownBlock = some g → rv.ownBlock = some g ∨ w.heap.size ≤ g
theorem ChA.refl (ab : Nat) (fv rv : Value) (w : World) : ChA ab fv rv fv rv w w := ⟨rfl, rfl, rfl, Nat.le_refl _, fun _ _ _ _ _ => rfl, fun _ h => .inl h, fun _ h => .inl h⟩
theorem ChA.trans {ab : Nat} {f1 r1 f2 r2 f3 r3 : Value} {a b c : World} (h : ChA ab f1 r1 f2 r2 a b) (k : ChA ab f2 r2 f3 r3 b c) : ChA ab f1 r1 f3 r3 a c := by
  refine ⟨k.os.trans h.os, k.tape.trans h.tape, k.output.trans h.output, Nat.le_trans h.size k.size, fun i h1 h2 h3 h4 => ?_, fun g hg => ?_, fun g hg => ?_⟩
  · refine (k.block i (Nat.lt_of_lt_of_le h1 h.size) h2 (fun e => ?_) (fun e => ?_)).trans (h.block i h1 h2 h3 h4)
    · rcases h.ownF i e with e' | e'
      · exact h3 e'
      · omega
    · rcases h.ownR i e with e' | e'
      · exact h4 e'
      · omega
  · rcases k.ownF g hg with e | e
    · exact h.ownF g e
    · exact .inr (Nat.le_trans h.size e)
  · rcases k.ownR g hg with e | e
    · exact h.ownR g e
    · exact .inr (Nat.le_trans h.size e)
theorem ChA.of_below {ab : Nat} {fv rv : Value} {w w' : World} (h : Below w.heap.size w w') : ChA ab fv rv fv rv w w' := ⟨h.os, h.tape, h.output, h.size, fun k h1 _ _ _ => h.block k h1, fun _ hg => .inl hg, fun _ hg => .inl hg⟩
theorem ChA.alloc {ab : Nat} {f1 r1 f2 r2 : Value} {w w' : World} (h : ChA ab f1 r1 f2 r2 w w') (o : Obj) : ChA ab f1 r1 f2 r2 w (w'.alloc o) := h.trans (ChA.of_below ((Below.refl _ _).alloc (Nat.le_refl _) _))
/-- a store into a block that is new -/
theorem ChA.setNew {ab : Nat} {f1 r1 f2 r2 : Value} {w w' : World} (h : ChA ab f1 r1 f2 r2 w w') (g j : Nat) (v : Value) (hg : w.heap.size ≤ g) : ChA ab f1 r1 f2 r2 w (w'.setCell ⟨g, j, none⟩ v) :=
  ⟨h.os, h.tape, h.output, by simpa using h.size, fun k h1 h2 h3 h4 => (set_far w' g j v k (by omega)).trans (h.block k h1 h2 h3 h4), h.ownF, h.ownR⟩
theorem Frb.step {w w' : World} {ab k : Nat} {fv rv fv' rv' : Value} (h : Frb w ab fv rv k) (c : ChA ab fv rv fv' rv' w w') : Frb w' ab fv' rv' k := by
  obtain ⟨h1, h2, h3, h4⟩ := h
  refine ⟨h1, Nat.lt_of_lt_of_le h2 c.size, fun e => ?_, fun e => ?_⟩
  · rcases c.ownF k e with q | q
    · exact h3 q
    · omega
  · rcases c.ownR k e with q | q
    · exact h4 q
    · omega
theorem Frb.same {w w' : World} {ab k : Nat} {fv rv fv' rv' : Value} (h : Frb w ab fv rv k) (c : ChA ab fv rv fv' rv' w w') : w'.heap[k]? = w.heap[k]? := c.block k h.hi (by have := h.lo; omega) h.nf h.nr
structure AgOK (w : World) (ab : Nat) (fv rv : Value) (Fs : List (Nat × Nat)) (Rs : List (Nat × Nat × Nat)) : Prop where
  c0 : w.cell? ⟨ab, 0, none⟩ = some fv
  c1 : w.cell? ⟨ab, 1, none⟩ = some rv
  z0 : w.frozen? ⟨ab, 0, none⟩ = false
  z1 : w.frozen? ⟨ab, 1, none⟩ = false
  o0 : w.ownsRow (ab + 1) 24 1 fv Fs.length (Fs.map slF)
  o1 : w.ownsRow (ab + 1) 23 1 rv Rs.length (Rs.map slR)
  ne : ∀ g, fv.ownBlock = some g → rv.ownBlock ≠ some g
  lt : ab < w.heap.size
  sF : ∀ x ∈ Fs, SpF w x ∧ Frb w ab fv rv x.1
  sR : ∀ x ∈ Rs, SpR w x ∧ Frb w ab fv rv x.1 ∧ Frb w ab fv rv x.2.2
theorem SpF.keep {w w' : World} {x : Nat × Nat} (h : SpF w x) (e : w'.heap[x.1]? = w.heap[x.1]?) : SpF w' x :=
  ⟨(World.cell?_of_block e).trans h.1, (World.cell?_of_block e).trans h.2.1, (World.cell?_of_block e).trans h.2.2.1, (World.cell?_of_block e).trans h.2.2.2.1, h.2.2.2.2⟩
theorem SpR.keep {w w' : World} {x : Nat × Nat × Nat} (h : SpR w x) (e : w'.heap[x.1]? = w.heap[x.1]?) (e' : w'.heap[x.2.2]? = w.heap[x.2.2]?) : SpR w' x :=
  ⟨(World.cell?_of_block e).trans h.1, (World.cell?_of_block e').trans h.2.1, h.2.2⟩
/-- what is below a world's size is as it was -/
theorem AgOK.below {w w' : World} {ab : Nat} {fv rv : Value} {Fs : List (Nat × Nat)} {Rs : List (Nat × Nat × Nat)} (h : AgOK w ab fv rv Fs Rs) (hb : ∀ k, k < w.heap.size → w'.heap[k]? = w.heap[k]?) (hs : w.heap.size ≤ w'.heap.size) : AgOK w' ab fv rv Fs Rs := by
  obtain ⟨c0, c1, z0, z1, o0, o1, ne, lt, sF, sR⟩ := h
  have e := hb ab lt
  have fr : ∀ k, Frb w ab fv rv k → Frb w' ab fv rv k := fun k q => ⟨q.lo, Nat.lt_of_lt_of_le q.hi hs, q.nf, q.nr⟩
  exact ⟨(World.cell?_of_block e).trans c0, (World.cell?_of_block e).trans c1, (World.frozen?_of_block e).trans z0, (World.frozen?_of_block e).trans z1,
    own_keep o0 (fun g hg => hb g (o0.lt g hg).2), own_keep o1 (fun g hg => hb g (o1.lt g hg).2), ne, by omega,
    fun x hx => ⟨(sF x hx).1.keep (hb _ (sF x hx).2.hi), fr _ (sF x hx).2⟩, fun x hx => ⟨(sR x hx).1.keep (hb _ (sR x hx).2.1.hi) (hb _ (sR x hx).2.2.hi), fr _ (sR x hx).2.1, fr _ (sR x hx).2.2⟩⟩
/-- a store into a block that is none of its own -/
theorem AgOK.setFar {w : World} {ab : Nat} {fv rv : Value} {Fs : List (Nat × Nat)} {Rs : List (Nat × Nat × Nat)} (h : AgOK w ab fv rv Fs Rs) (g j : Nat) (v : Value) (h0 : g ≠ ab) (h1 : fv.ownBlock ≠ some g) (h2 : rv.ownBlock ≠ some g) (h3 : ∀ x ∈ Fs, x.1 ≠ g) (h4 : ∀ x ∈ Rs, x.1 ≠ g ∧ x.2.2 ≠ g) : AgOK (w.setCell ⟨g, j, none⟩ v) ab fv rv Fs Rs := by
  obtain ⟨c0, c1, z0, z1, o0, o1, ne, lt, sF, sR⟩ := h
  have hb : ∀ k, k ≠ g → (w.setCell ⟨g, j, none⟩ v).heap[k]? = w.heap[k]? := fun k hk => set_far w g j v k hk
  have e := hb ab (Ne.symm h0)
  have fr : ∀ k, Frb w ab fv rv k → Frb (w.setCell ⟨g, j, none⟩ v) ab fv rv k := fun k q => ⟨q.lo, by simpa using q.hi, q.nf, q.nr⟩
  exact ⟨(World.cell?_of_block e).trans c0, (World.cell?_of_block e).trans c1, (World.frozen?_of_block e).trans z0, (World.frozen?_of_block e).trans z1,
    own_keep o0 (fun k hk => hb k (fun e => h1 (e ▸ hk))), own_keep o1 (fun k hk => hb k (fun e => h2 (e ▸ hk))), ne, by simpa using lt,
    fun x hx => ⟨(sF x hx).1.keep (hb _ (h3 x hx)), fr _ (sF x hx).2⟩, fun x hx => ⟨(sR x hx).1.keep (hb _ (h4 x hx).1) (hb _ (h4 x hx).2), fr _ (sR x hx).2.1, fr _ (sR x hx).2.2⟩⟩
end Go.Proofs.Ytffkejkgkgfnhab
namespace Go.Proofs.Ytffkejkgkgfnhab
open Go.RowKit
set_option linter.unusedVariables false
theorem cellNew (w : World) (n j : Nat) (cs : Array Value) (ty : Nat) (h : n = w.heap.size) : (w.alloc (.cells cs ty)).cell? ⟨n, j, none⟩ = cs[j]? := by
  subst h; simp
/-- the copy of a list of fields -/
def FldC (w : World) (A : Nat → Prop) (d : Dat) (g j : Nat) : Prop :=
  ∃ nm li tx rows a c, d.drop j = .fld nm li tx rows (d.drop (j + 1)) ∧ w.cell? ⟨g, j * 4, none⟩ = some (.string nm) ∧ w.cell? ⟨g, j * 4 + 1, none⟩ = some (.bool li) ∧ w.cell? ⟨g, j * 4 + 2, none⟩ = some (.string tx) ∧
    w.cell? ⟨g, j * 4 + 3, none⟩ = some (.slice a rows.len c) ∧ rows.len ≤ c ∧ c ≤ maxLen ∧ DatW A a rows.len (DatAtA w A rows)
theorem FldC.keep {w w' : World} {A A' : Nat → Prop} {d : Dat} {g j : Nat} (h : FldC w A d g j) (hg : A g) (hA : ∀ k, A k → A' k) (hw : ∀ k, A k → w'.heap[k]? = w.heap[k]?) : FldC w' A' d g j := by
  obtain ⟨nm, li, tx, rows, a, c, e, h0, h1, h2, h3, h4, h5, h6⟩ := h
  have e' := hw g hg
  exact ⟨nm, li, tx, rows, a, c, e, (World.cell?_of_block e').trans h0, (World.cell?_of_block e').trans h1, (World.cell?_of_block e').trans h2, (World.cell?_of_block e').trans h3, h4, h5, DatVA.mono (a := a) (d := rows) h6 hA hw⟩
/-- a store into the list itself, at another field -/
theorem FldC.set {w : World} {A : Nat → Prop} {d : Dat} {g j m : Nat} {v : Value} (h : FldC w A d g j) {A' : Nat → Prop} (hA : ∀ k, A k → A' k) (hg : ∀ k, A k → k ≠ g) (hm : m ≠ j * 4 ∧ m ≠ j * 4 + 1 ∧ m ≠ j * 4 + 2 ∧ m ≠ j * 4 + 3) : FldC (w.setCell ⟨g, m, none⟩ v) A' d g j := by
  obtain ⟨nm, li, tx, rows, a, c, e, h0, h1, h2, h3, h4, h5, h6⟩ := h
  exact ⟨nm, li, tx, rows, a, c, e, (cellO w _ _ _ _ hm.1).trans h0, (cellO w _ _ _ _ hm.2.1).trans h1, (cellO w _ _ _ _ hm.2.2.1).trans h2, (cellO w _ _ _ _ hm.2.2.2).trans h3, h4, h5, DatVA.mono (a := a) (d := rows) h6 hA (fun k hk => set_far w _ _ _ k (hg k hk))⟩
def ZrF (w : World) (g j : Nat) : Prop := w.cell? ⟨g, j * 4, none⟩ = some (.string ⟨#[]⟩) ∧ w.cell? ⟨g, j * 4 + 1, none⟩ = some (.bool false) ∧ w.cell? ⟨g, j * 4 + 2, none⟩ = some (.string ⟨#[]⟩) ∧ w.cell? ⟨g, j * 4 + 3, none⟩ = some (.slice none 0 0)
def Nw (w : World) (ab : Nat) (fv rv : Value) (B k : Nat) : Prop := Frb w ab fv rv k ∧ B ≤ k
theorem Nw.step {w w' : World} {ab B k : Nat} {fv rv fv' rv' : Value} (h : Nw w ab fv rv B k) (c : ChA ab fv rv fv' rv' w w') : Nw w' ab fv' rv' B k := ⟨h.1.step c, h.2⟩
theorem Nw.same {w w' : World} {ab B k : Nat} {fv rv fv' rv' : Value} (h : Nw w ab fv rv B k) (c : ChA ab fv rv fv' rv' w w') : w'.heap[k]? = w.heap[k]? := h.1.same c
theorem Nw.mono {w : World} {ab B B' k : Nat} {fv rv : Value} (h : Nw w ab fv rv B k) (hB : B' ≤ B) : Nw w ab fv rv B' k := ⟨h.1, Nat.le_trans hB h.2⟩
def NwF (Fs Fs' : List (Nat × Nat)) (B : Nat) : Prop := ∀ x ∈ Fs', x ∈ Fs ∨ B ≤ x.1
def NwR (Rs Rs' : List (Nat × Nat × Nat)) (B : Nat) : Prop := ∀ x ∈ Rs', x ∈ Rs ∨ (B ≤ x.1 ∧ B ≤ x.2.2)
theorem NwF.trans {a b c : List (Nat × Nat)} {B B' : Nat} (h : NwF a b B) (k : NwF b c B') (hB : B ≤ B') : NwF a c B := fun x hx => by
  rcases k x hx with q | q
  · exact h x q
  · exact .inr (by omega)
theorem NwR.trans {a b c : List (Nat × Nat × Nat)} {B B' : Nat} (h : NwR a b B) (k : NwR b c B') (hB : B ≤ B') : NwR a c B := fun x hx => by
  rcases k x hx with q | q
  · exact h x q
  · exact .inr (by omega)
/-- what stands while a row is copied: k fields are done -/
structure RI (w wr : World) (ab : Nat) (fv rv : Value) (Fs : List (Nat × Nat)) (Rs : List (Nat × Nat × Nat)) (d : Dat) (da : Option Addr) (dc k : Nat) (fv1 rv1 : Value) (Fs1 : List (Nat × Nat)) (Rs1 : List (Nat × Nat × Nat)) : Prop where
  ag : AgOK wr ab fv1 rv1 Fs1 Rs1
  ch : ChA ab fv rv fv1 rv1 w wr
  cr : wr.cell? ⟨w.heap.size, 0, none⟩ = some (.slice da d.len dc)
  cq : wr.cell? ⟨w.heap.size + 1, 0, none⟩ = some (.slice none 0 0)
  fq : wr.frozen? ⟨w.heap.size + 1, 0, none⟩ = false
  b0 : Frb wr ab fv1 rv1 w.heap.size
  b1 : Frb wr ab fv1 rv1 (w.heap.size + 1)
  b2 : Frb wr ab fv1 rv1 (w.heap.size + 2)
  cp : ∀ j, j < k → FldC wr (Nw wr ab fv1 rv1 (w.heap.size + 3)) d (w.heap.size + 2) j
  zr : ∀ j, k < j → j ≤ d.len → ZrF wr (w.heap.size + 2) j
  fz : ∀ m, wr.frozen? ⟨w.heap.size + 2, m, none⟩ = false
  nF : NwF Fs Fs1 (w.heap.size + 3)
  nR : NwR Rs Rs1 (w.heap.size + 3)
  oF : ∀ x ∈ Fs, x.1 < w.heap.size
  oR : ∀ x ∈ Rs, x.1 < w.heap.size ∧ x.2.2 < w.heap.size
theorem RI.set {w wr : World} {ab : Nat} {fv rv fv1 rv1 : Value} {Fs Fs1 : List (Nat × Nat)} {Rs Rs1 : List (Nat × Nat × Nat)} {d : Dat} {da : Option Addr} {dc k : Nat} (h : RI w wr ab fv rv Fs Rs d da dc k fv1 rv1 Fs1 Rs1) (m : Nat) (v : Value) (h1 : k * 4 ≤ m) (h2 : m < k * 4 + 4) : RI w (wr.setCell ⟨w.heap.size + 2, m, none⟩ v) ab fv rv Fs Rs d da dc k fv1 rv1 Fs1 Rs1 := by
  obtain ⟨ag, ch, cr, cq, fq, b0, b1, b2, cp, zr, fz, nF, nR, oF, oR⟩ := h
  have fr : ∀ q, Frb wr ab fv1 rv1 q → Frb (wr.setCell ⟨w.heap.size + 2, m, none⟩ v) ab fv1 rv1 q := fun q hq => ⟨hq.lo, by simpa using hq.hi, hq.nf, hq.nr⟩
  refine ⟨ag.setFar _ _ _ (by have := b2.lo; omega) b2.nf b2.nr (fun x hx => ?_) (fun x hx => ?_), ch.setNew _ _ _ (by omega), (cellF wr _ _ _ _ _ (by omega)).trans cr, (cellF wr _ _ _ _ _ (by omega)).trans cq, by simpa using fq, fr _ b0, fr _ b1, fr _ b2,
    fun j hj => (cp j hj).set (fun q hq => ⟨fr _ hq.1, hq.2⟩) (fun q hq => by have := hq.2; omega) (by omega), fun j hj hl => ?_, fun q => by simpa using fz q, nF, nR, oF, oR⟩
  · rcases nF x hx with q | q
    · have := oF x q; omega
    · omega
  · rcases nR x hx with q | q
    · have := oR x q; omega
    · omega
  · obtain ⟨z0, z1, z2, z3⟩ := zr j hj hl
    exact ⟨(cellO wr _ _ _ _ (by omega)).trans z0, (cellO wr _ _ _ _ (by omega)).trans z1, (cellO wr _ _ _ _ (by omega)).trans z2, (cellO wr _ _ _ _ (by omega)).trans z3⟩
theorem ZrF.keep {w w' : World} {g j : Nat} (h : ZrF w g j) (e : w'.heap[g]? = w.heap[g]?) : ZrF w' g j :=
  ⟨(World.cell?_of_block e).trans h.1, (World.cell?_of_block e).trans h.2.1, (World.cell?_of_block e).trans h.2.2.1, (World.cell?_of_block e).trans h.2.2.2⟩
theorem RI.call {w wr w5 : World} {ab : Nat} {fv rv fv1 rv1 fv2 rv2 : Value} {Fs Fs1 Fs2 : List (Nat × Nat)} {Rs Rs1 Rs2 : List (Nat × Nat × Nat)} {d : Dat} {da : Option Addr} {dc k : Nat} (h : RI w wr ab fv rv Fs Rs d da dc k fv1 rv1 Fs1 Rs1)
    (c : ChA ab fv1 rv1 fv2 rv2 wr w5) (ag2 : AgOK w5 ab fv2 rv2 Fs2 Rs2) (nF2 : NwF Fs1 Fs2 wr.heap.size) (nR2 : NwR Rs1 Rs2 wr.heap.size) : RI w w5 ab fv rv Fs Rs d da dc k fv2 rv2 Fs2 Rs2 := by
  obtain ⟨ag, ch, cr, cq, fq, b0, b1, b2, cp, zr, fz, nF, nR, oF, oR⟩ := h
  have hz := b2.hi
  exact ⟨ag2, ch.trans c, (World.cell?_of_block (b0.same c)).trans cr, (World.cell?_of_block (b1.same c)).trans cq, (World.frozen?_of_block (b1.same c)).trans fq, b0.step c, b1.step c, b2.step c,
    fun j hj => by
      obtain ⟨nm, li, tx, rows, a, c', e, h0, h1, h2, h3, h4, h5, h6⟩ := cp j hj
      have e' := b2.same c
      exact ⟨nm, li, tx, rows, a, c', e, (World.cell?_of_block e').trans h0, (World.cell?_of_block e').trans h1, (World.cell?_of_block e').trans h2, (World.cell?_of_block e').trans h3, h4, h5, DatVA.mono (a := a) (d := rows) h6 (fun q hq => hq.step c) (fun q hq => hq.same c)⟩,
    fun j hj hl => (zr j hj hl).keep (b2.same c), fun m => (World.frozen?_of_block (b2.same c)).trans (fz m), nF.trans nF2 (by omega), nR.trans nR2 (by omega), oF, oR⟩
theorem RI.next {w wr : World} {ab : Nat} {fv rv fv1 rv1 : Value} {Fs Fs1 : List (Nat × Nat)} {Rs Rs1 : List (Nat × Nat × Nat)} {d : Dat} {da : Option Addr} {dc k : Nat} (h : RI w wr ab fv rv Fs Rs d da dc k fv1 rv1 Fs1 Rs1) (hf : FldC wr (Nw wr ab fv1 rv1 (w.heap.size + 3)) d (w.heap.size + 2) k) : RI w wr ab fv rv Fs Rs d da dc (k + 1) fv1 rv1 Fs1 Rs1 := by
  obtain ⟨ag, ch, cr, cq, fq, b0, b1, b2, cp, zr, fz, nF, nR, oF, oR⟩ := h
  refine ⟨ag, ch, cr, cq, fq, b0, b1, b2, fun j hj => ?_, fun j hj hl => zr j (by omega) hl, fz, nF, nR, oF, oR⟩
  by_cases e : j = k
  · subst e; exact hf
  · exact cp j (by omega)
end Go.Proofs.Ytffkejkgkgfnhab
namespace Go.Proofs.Ytffkejkgkgfnhab
open Go.RowKit
set_option linter.unusedVariables false
/-- the copy of a list of rows -/
def RwC (w : World) (A : Nat → Prop) (d : Dat) (g j : Nat) : Prop :=
  ∃ f a c, d.drop j = .row f (d.drop (j + 1)) ∧ w.cell? ⟨g, j, none⟩ = some (.slice a f.len c) ∧ f.len ≤ c ∧ c ≤ maxLen ∧ DatW A a f.len (DatAtA w A f)
theorem RwC.set {w : World} {A A' : Nat → Prop} {d : Dat} {g j m : Nat} {v : Value} (h : RwC w A d g j) (hA : ∀ k, A k → A' k) (hg : ∀ k, A k → k ≠ g) (hm : m ≠ j) : RwC (w.setCell ⟨g, m, none⟩ v) A' d g j := by
  obtain ⟨f, a, c, e, h3, h4, h5, h6⟩ := h
  exact ⟨f, a, c, e, (cellO w _ _ _ _ hm).trans h3, h4, h5, DatVA.mono (a := a) (d := f) h6 hA (fun k hk => set_far w _ _ _ k (hg k hk))⟩
/-- what stands while a list of rows is copied: k rows are done -/
structure LI (w wr : World) (ab : Nat) (fv rv : Value) (Fs : List (Nat × Nat)) (Rs : List (Nat × Nat × Nat)) (d : Dat) (k : Nat) (fv1 rv1 : Value) (Fs1 : List (Nat × Nat)) (Rs1 : List (Nat × Nat × Nat)) : Prop where
  ag : AgOK wr ab fv1 rv1 Fs1 Rs1
  ch : ChA ab fv rv fv1 rv1 w wr
  b0 : Frb wr ab fv1 rv1 w.heap.size
  cp : ∀ j, j < k → RwC wr (Nw wr ab fv1 rv1 (w.heap.size + 1)) d w.heap.size j
  zr : ∀ j, k ≤ j → j ≤ d.len → wr.cell? ⟨w.heap.size, j, none⟩ = some (.slice none 0 0)
  fz : ∀ m, wr.frozen? ⟨w.heap.size, m, none⟩ = false
  nF : NwF Fs Fs1 (w.heap.size + 1)
  nR : NwR Rs Rs1 (w.heap.size + 1)
  oF : ∀ x ∈ Fs, x.1 < w.heap.size
  oR : ∀ x ∈ Rs, x.1 < w.heap.size ∧ x.2.2 < w.heap.size
theorem LI.set {w wr : World} {ab : Nat} {fv rv fv1 rv1 : Value} {Fs Fs1 : List (Nat × Nat)} {Rs Rs1 : List (Nat × Nat × Nat)} {d : Dat} {k : Nat} (h : LI w wr ab fv rv Fs Rs d k fv1 rv1 Fs1 Rs1) (v : Value) (K : Nat) (hK : K = k ∨ K = k + 1) (hf : K = k + 1 → RwC (wr.setCell ⟨w.heap.size, k, none⟩ v) (Nw (wr.setCell ⟨w.heap.size, k, none⟩ v) ab fv1 rv1 (w.heap.size + 1)) d w.heap.size k) (hz : K = k → d.len ≤ k) :
    (K = k + 1 → LI w (wr.setCell ⟨w.heap.size, k, none⟩ v) ab fv rv Fs Rs d (k + 1) fv1 rv1 Fs1 Rs1) ∧ AgOK (wr.setCell ⟨w.heap.size, k, none⟩ v) ab fv1 rv1 Fs1 Rs1 ∧ ChA ab fv rv fv1 rv1 w (wr.setCell ⟨w.heap.size, k, none⟩ v) ∧ Frb (wr.setCell ⟨w.heap.size, k, none⟩ v) ab fv1 rv1 w.heap.size ∧ (∀ j, j < k → RwC (wr.setCell ⟨w.heap.size, k, none⟩ v) (Nw (wr.setCell ⟨w.heap.size, k, none⟩ v) ab fv1 rv1 (w.heap.size + 1)) d w.heap.size j) := by
  obtain ⟨ag, ch, b0, cp, zr, fz, nF, nR, oF, oR⟩ := h
  have fr : ∀ q, Frb wr ab fv1 rv1 q → Frb (wr.setCell ⟨w.heap.size, k, none⟩ v) ab fv1 rv1 q := fun q hq => ⟨hq.lo, by simpa using hq.hi, hq.nf, hq.nr⟩
  have hag : AgOK (wr.setCell ⟨w.heap.size, k, none⟩ v) ab fv1 rv1 Fs1 Rs1 := ag.setFar _ _ _ (by have := b0.lo; omega) b0.nf b0.nr (fun x hx => by
    rcases nF x hx with q | q
    · have := oF x q; omega
    · omega) (fun x hx => by
    rcases nR x hx with q | q
    · have := oR x q; omega
    · omega)
  have hcp : ∀ j, j < k → RwC (wr.setCell ⟨w.heap.size, k, none⟩ v) (Nw (wr.setCell ⟨w.heap.size, k, none⟩ v) ab fv1 rv1 (w.heap.size + 1)) d w.heap.size j := fun j hj => (cp j hj).set (fun q hq => ⟨fr _ hq.1, hq.2⟩) (fun q hq => by have := hq.2; omega) (by omega)
  refine ⟨fun e => ⟨hag, ch.setNew _ _ _ (Nat.le_refl _), fr _ b0, fun j hj => ?_, fun j hj hl => (cellO wr _ _ _ _ (by omega)).trans (zr j (by omega) hl), fun q => by simpa using fz q, nF, nR, oF, oR⟩, hag, ch.setNew _ _ _ (Nat.le_refl _), fr _ b0, hcp⟩
  by_cases e2 : j = k
  · subst e2; exact hf e
  · exact hcp j (by omega)
theorem LI.call {w wr w5 : World} {ab : Nat} {fv rv fv1 rv1 fv2 rv2 : Value} {Fs Fs1 Fs2 : List (Nat × Nat)} {Rs Rs1 Rs2 : List (Nat × Nat × Nat)} {d : Dat} {k : Nat} (h : LI w wr ab fv rv Fs Rs d k fv1 rv1 Fs1 Rs1)
    (c : ChA ab fv1 rv1 fv2 rv2 wr w5) (ag2 : AgOK w5 ab fv2 rv2 Fs2 Rs2) (nF2 : NwF Fs1 Fs2 wr.heap.size) (nR2 : NwR Rs1 Rs2 wr.heap.size) : LI w w5 ab fv rv Fs Rs d k fv2 rv2 Fs2 Rs2 := by
  obtain ⟨ag, ch, b0, cp, zr, fz, nF, nR, oF, oR⟩ := h
  have hz := b0.hi
  exact ⟨ag2, ch.trans c, b0.step c,
    fun j hj => by
      obtain ⟨f, a, c', e, h3, h4, h5, h6⟩ := cp j hj
      exact ⟨f, a, c', e, (World.cell?_of_block (b0.same c)).trans h3, h4, h5, DatVA.mono (a := a) (d := f) h6 (fun q hq => hq.step c) (fun q hq => hq.same c)⟩,
    fun j hj hl => (World.cell?_of_block (b0.same c)).trans (zr j hj hl), fun m => (World.frozen?_of_block (b0.same c)).trans (fz m), nF.trans nF2 (by omega), nR.trans nR2 (by omega), oF, oR⟩
end Go.Proofs.Ytffkejkgkgfnhab
namespace Go.Proofs.Ytffkejkgkgfnhab
open Go.RowKit
set_option linter.unusedVariables false
theorem own_elem {w : World} {B ty n i : Nat} {v u : Value} {xs : List Value} (h : w.ownsRow B ty 1 v n xs) (hi : xs[i]? = some u) (hn : i < n) : ∃ g c, v = .slice (some ⟨g, 0, none⟩) n c ∧ w.cell? ⟨g, i, none⟩ = some u ∧ g < w.heap.size := by
  have hlt := h.lt
  rcases h.2 with ⟨_, h0⟩ | ⟨g, cap, cur, hv, hb, hg, hn', hm, hs, ht⟩
  · omega
  · refine ⟨g, cap, hv, ?_, (hlt g (by rw [hv]; rfl)).2⟩
    rw [cell_of_heap hg, ← hi, ← ht, List.getElem?_take_of_lt (by omega)]
    simp
theorem AgOK.rowAt {w : World} {ab : Nat} {fv rv : Value} {Fs : List (Nat × Nat)} {Rs : List (Nat × Nat × Nat)} (h : AgOK w ab fv rv Fs Rs) (i : Nat) (hi : i < Rs.length) : ∃ g c x, rv = .slice (some ⟨g, 0, none⟩) Rs.length c ∧ w.cell? ⟨g, i, none⟩ = some (slR x) ∧ g < w.heap.size ∧ SpR w x ∧ x.1 < w.heap.size ∧ x.2.2 < w.heap.size := by
  obtain ⟨g, c, e1, e2, e3⟩ := own_elem h.o1 (u := slR Rs[i]) (by simp [List.getElem?_map, List.getElem?_eq_getElem hi]) hi
  have := h.sR Rs[i] (List.getElem_mem hi)
  exact ⟨g, c, Rs[i], e1, e2, e3, this.1, this.2.1.hi, this.2.2.hi⟩
end Go.Proofs.Ytffkejkgkgfnhab
namespace Go.Proofs.Ytffkejkgkgfnhab
open Go.RowKit
set_option linter.unusedVariables false
/-- what is asked of a Render -/
def PROK (f : Nat) : Prop := ∀ (s nm : ByteArray) (way : Int) (w : World) (da : Option Addr) (d : Dat) (dc : Nat), s.size ≤ maxLen → DatV w w.heap.size da d → d.ok false → d.bulk ≤ 1048576 → d.len ≤ dc → dc ≤ maxLen →
  Calls Try.prog f #[.int .i64 way, .string s, .string nm, .agg #[.slice da d.len dc]] w fun e w' => Below w.heap.size w w' ∧ RenPost s nm way d e
end Go.Proofs.Ytffkejkgkgfnhab
namespace Go.Proofs.Ytffkejkgkgfnhab
open Go.RowKit
set_option linter.unusedVariables false
/-- texts no longer than any can be -/
def Dat.fits : Dat → Prop
  | .nil => True
  | .fld nm li tx rows r => tx.size ≤ maxLen ∧ rows.fits ∧ r.fits
  | .row f r => f.fits ∧ r.fits
theorem Dat.fits_bulk : ∀ d : Dat, d.bulk ≤ maxLen → d.fits
  | .nil, _ => trivial
  | .fld nm li tx rows r, h => by
    simp only [Dat.bulk] at h
    exact ⟨by omega, Dat.fits_bulk rows (by omega), Dat.fits_bulk r (by omega)⟩
  | .row f r, h => by
    simp only [Dat.bulk] at h
    exact ⟨Dat.fits_bulk f (by omega), Dat.fits_bulk r (by omega)⟩
theorem Dat.fits_drop : ∀ (d : Dat) (i : Nat), d.fits → (d.drop i).fits
  | d, 0, h => by rw [Dat.drop_zero]; exact h
  | .nil, i + 1, h => trivial
  | .fld _ _ _ _ r, i + 1, h => Dat.fits_drop r i h.2.2
  | .row _ r, i + 1, h => Dat.fits_drop r i h.2
def EnvQ (w : World) (N : Nat) : List Dat → List Value → Prop
  | [], xs => xs = []
  | d :: R, xs => ∃ (a : Option Addr) (c : Nat) (ys : List Value), xs = .slice a d.len c :: ys ∧ DatV w N a d ∧ d.ok false ∧ d.fits ∧ d.len ≤ c ∧ c ≤ maxLen ∧ EnvQ w N R ys
theorem EnvQ.mono {w w' : World} {N : Nat} (hw : ∀ k, k < N → w'.heap[k]? = w.heap[k]?) : ∀ (R : List Dat) (xs : List Value), EnvQ w N R xs → EnvQ w' N R xs
  | [], xs, h => h
  | d :: R, xs, h => by
    obtain ⟨a, c, ys, h1, h2, h3, h4, h5, h6, h7⟩ := h
    exact ⟨a, c, ys, h1, h2.mono (Nat.le_refl _) hw, h3, h4, h5, h6, EnvQ.mono hw R ys h7⟩
theorem EnvQ.snoc {w : World} {N : Nat} {d : Dat} {a : Option Addr} {c : Nat} (h1 : DatV w N a d) (h2 : d.ok false) (h3 : d.fits) (h4 : d.len ≤ c) (h5 : c ≤ maxLen) : ∀ (R : List Dat) (xs : List Value), EnvQ w N R xs → EnvQ w N (R ++ [d]) (xs ++ [.slice a d.len c])
  | [], xs, h => by
    have h' : xs = [] := h
    subst h'
    exact ⟨a, c, [], rfl, h1, h2, h3, h4, h5, rfl⟩
  | e :: R, xs, h => by
    obtain ⟨a', c', ys, rfl, k2, k3, k4, k5, k6, k7⟩ := h
    exact ⟨a', c', ys ++ [.slice a d.len c], rfl, k2, k3, k4, k5, k6, EnvQ.snoc h1 h2 h3 h4 h5 R ys k7⟩
theorem EnvQ.length {w : World} {N : Nat} : ∀ (R : List Dat) (xs : List Value), EnvQ w N R xs → xs.length = R.length
  | [], xs, h => by
    have h' : xs = [] := h
    subst h'; rfl
  | d :: R, xs, h => by
    obtain ⟨a, c, ys, rfl, _, _, _, _, _, h7⟩ := h
    simp [EnvQ.length R ys h7]
theorem EnvQ.at {w : World} {N : Nat} : ∀ (R : List Dat) (xs : List Value) (i : Nat) (hi : i < R.length), EnvQ w N R xs → ∃ a c, xs[i]? = some (.slice a R[i].len c) ∧ DatV w N a R[i] ∧ R[i].ok false ∧ R[i].fits ∧ R[i].len ≤ c ∧ c ≤ maxLen
  | [], xs, i, hi, h => absurd hi (by simp)
  | d :: R, xs, 0, hi, h => by
    obtain ⟨a, c, ys, rfl, h2, h3, h4, h5, h6, h7⟩ := h
    exact ⟨a, c, rfl, h2, h3, h4, h5, h6⟩
  | d :: R, xs, i + 1, hi, h => by
    obtain ⟨a, c, ys, rfl, h2, h3, h4, h5, h6, h7⟩ := h
    exact EnvQ.at R ys i (by simpa using hi) h7
theorem EnvQ.front {w : World} {N : Nat} {f : Dat} : ∀ (R : List Dat) (xs : List Value), EnvQ w N (R ++ [f]) xs → EnvQ w N R (xs.take R.length)
  | [], xs, h => by simp [EnvQ]
  | d :: R, xs, h => by
    obtain ⟨a, c, ys, rfl, h2, h3, h4, h5, h6, h7⟩ := h
    exact ⟨a, c, ys.take R.length, by simp, h2, h3, h4, h5, h6, EnvQ.front R ys h7⟩
def FldQ (w : World) (N : Nat) (nm : ByteArray) (R : List Dat) (e : Ending) : Prop :=
  (lkp nm R = none ∧ e = .returned (.tuple #[.agg #[.string ⟨#[]⟩, .bool false, .string ⟨#[]⟩, .slice none 0 0], .bool false])) ∨
  (∃ n l t rows a c, lkp nm R = some (n, l, t, rows) ∧ e = .returned (.tuple #[.agg #[.string n, .bool l, .string t, .slice a rows.len c], .bool true]) ∧ DatV w N a rows ∧ rows.ok true ∧ (rows.fits ∧ t.size ≤ maxLen) ∧ rows.len ≤ c ∧ c ≤ maxLen)
/-- what is asked of a Render, whatever the data's bulk -/
def PROKW (f : Nat) : Prop := ∀ (s nm : ByteArray) (way : Int) (w : World) (da : Option Addr) (d : Dat) (dc : Nat), s.size ≤ maxLen → DatV w w.heap.size da d → d.ok false → d.fits → d.len ≤ dc → dc ≤ maxLen →
  Calls Try.prog f #[.int .i64 way, .string s, .string nm, .agg #[.slice da d.len dc]] w fun e w' => Below w.heap.size w w' ∧ RenPost s nm way d e
theorem PROKW.small {f : Nat} (h : PROKW f) : PROK f := fun s nm way w da d dc h1 h2 h3 h4 h5 h6 => h s nm way w da d dc h1 h2 h3 (Dat.fits_bulk d (by unfold maxLen; omega)) h5 h6
end Go.Proofs.Ytffkejkgkgfnhab
