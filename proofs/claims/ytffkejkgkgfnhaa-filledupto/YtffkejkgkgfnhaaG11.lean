import Derived.Test.YtffkejkgkgfnhaaG10
import Derived.Deep.RegionLaw
import Derived.Test.YtffkejkgkgfnhaaG07
namespace Go.Proofs.Ytffkejkgkgfnhaa
open Go.RowKit
set_option linter.unusedVariables false
theorem cellNew (w : World) (n j : Nat) (cs : Array Value) (ty : Nat) (h : n = w.heap.size) : (w.alloc (.cells cs ty)).cell? ⟨n, j, none⟩ = cs[j]? := by
  subst h; simp
/-- the copy of a list of fields -/
def FldC (w : World) (A : Nat → Prop) (d : Dat) (g j : Nat) : Prop :=
  ∃ nm li tx rows a c, d.drop j = .fld nm li tx rows (d.drop (j + 1)) ∧ w.cell? ⟨g, j * 4, none⟩ = some (.string nm) ∧ w.cell? ⟨g, j * 4 + 1, none⟩ = some (.bool li) ∧ w.cell? ⟨g, j * 4 + 2, none⟩ = some (.string tx) ∧
    w.cell? ⟨g, j * 4 + 3, none⟩ = some (.slice a rows.len c) ∧ rows.len ≤ c ∧ c ≤ maxLen ∧ DatW A a rows.len (DatAtA w A rows)
theorem FldC.keep {w w' : World} {A A' : Nat → Prop} {d : Dat} {g j : Nat} (h : FldC w A d g j) (hg : A g) (hA : ∀ k, A k → A' k) (hw : ∀ k, A k → w'.heap[k]? = w.heap[k]?) : FldC w' A' d g j := by
  obtain ⟨nm, li, tx, rows, a, c, e, h0, h1, h2, h3, h4, h5, h6⟩ := h
  have e' := hw g hg
  exact ⟨nm, li, tx, rows, a, c, e, (World.cell?_of_block e').trans h0, (World.cell?_of_block e').trans h1, (World.cell?_of_block e').trans h2, (World.cell?_of_block e').trans h3, h4, h5, DatVA.mono (a := a) (d := rows) h6 hA hw⟩
/-- a store into the list itself, at another field -/
theorem FldC.set {w : World} {A : Nat → Prop} {d : Dat} {g j m : Nat} {v : Value} (h : FldC w A d g j) {A' : Nat → Prop} (hA : ∀ k, A k → A' k) (hg : ∀ k, A k → k ≠ g) (hm : m ≠ j * 4 ∧ m ≠ j * 4 + 1 ∧ m ≠ j * 4 + 2 ∧ m ≠ j * 4 + 3) : FldC (w.setCell ⟨g, m, none⟩ v) A' d g j := by
  obtain ⟨nm, li, tx, rows, a, c, e, h0, h1, h2, h3, h4, h5, h6⟩ := h
  exact ⟨nm, li, tx, rows, a, c, e, (cellO w _ _ _ _ hm.1).trans h0, (cellO w _ _ _ _ hm.2.1).trans h1, (cellO w _ _ _ _ hm.2.2.1).trans h2, (cellO w _ _ _ _ hm.2.2.2).trans h3, h4, h5, DatVA.mono (a := a) (d := rows) h6 hA (fun k hk => set_far w _ _ _ k (hg k hk))⟩
def ZrF (w : World) (g j : Nat) : Prop := w.cell? ⟨g, j * 4, none⟩ = some (.string ⟨#[]⟩) ∧ w.cell? ⟨g, j * 4 + 1, none⟩ = some (.bool false) ∧ w.cell? ⟨g, j * 4 + 2, none⟩ = some (.string ⟨#[]⟩) ∧ w.cell? ⟨g, j * 4 + 3, none⟩ = some (.slice none 0 0)
def Nw (w : World) (ab : Nat) (fv rv : Value) (B k : Nat) : Prop := Frb w ab fv rv k ∧ B ≤ k
theorem Nw.step {w w' : World} {ab B k : Nat} {fv rv fv' rv' : Value} (h : Nw w ab fv rv B k) (c : ChA ab fv rv fv' rv' w w') : Nw w' ab fv' rv' B k := ⟨h.1.step c, h.2⟩
theorem Nw.same {w w' : World} {ab B k : Nat} {fv rv fv' rv' : Value} (h : Nw w ab fv rv B k) (c : ChA ab fv rv fv' rv' w w') : w'.heap[k]? = w.heap[k]? := h.1.same c
theorem Nw.mono {w : World} {ab B B' k : Nat} {fv rv : Value} (h : Nw w ab fv rv B k) (hB : B' ≤ B) : Nw w ab fv rv B' k := ⟨h.1, Nat.le_trans hB h.2⟩
def NwF (Fs Fs' : List (Nat × Nat)) (B : Nat) : Prop := ∀ x ∈ Fs', x ∈ Fs ∨ B ≤ x.1
def NwR (Rs Rs' : List (Nat × Nat × Nat)) (B : Nat) : Prop := ∀ x ∈ Rs', x ∈ Rs ∨ (B ≤ x.1 ∧ B ≤ x.2.2)
theorem NwF.trans {a b c : List (Nat × Nat)} {B B' : Nat} (h : NwF a b B) (k : NwF b c B') (hB : B ≤ B') : NwF a c B := fun x hx => by
  rcases k x hx with q | q
  · exact h x q
  · exact .inr (by omega)
theorem NwR.trans {a b c : List (Nat × Nat × Nat)} {B B' : Nat} (h : NwR a b B) (k : NwR b c B') (hB : B ≤ B') : NwR a c B := fun x hx => by
  rcases k x hx with q | q
  · exact h x q
  · exact .inr (by omega)
/-- what stands while a row is copied: k fields are done -/
structure RI (w wr : World) (ab : Nat) (fv rv : Value) (Fs : List (Nat × Nat)) (Rs : List (Nat × Nat × Nat)) (d : Dat) (da : Option Addr) (dc k : Nat) (fv1 rv1 : Value) (Fs1 : List (Nat × Nat)) (Rs1 : List (Nat × Nat × Nat)) : Prop where
  ag : AgOK wr ab fv1 rv1 Fs1 Rs1
  ch : ChA ab fv rv fv1 rv1 w wr
  cr : wr.cell? ⟨w.heap.size, 0, none⟩ = some (.slice da d.len dc)
  cq : wr.cell? ⟨w.heap.size + 1, 0, none⟩ = some (.slice none 0 0)
  fq : wr.frozen? ⟨w.heap.size + 1, 0, none⟩ = false
  b0 : Frb wr ab fv1 rv1 w.heap.size
  b1 : Frb wr ab fv1 rv1 (w.heap.size + 1)
  b2 : Frb wr ab fv1 rv1 (w.heap.size + 2)
  cp : ∀ j, j < k → FldC wr (Nw wr ab fv1 rv1 (w.heap.size + 3)) d (w.heap.size + 2) j
  zr : ∀ j, k < j → j ≤ d.len → ZrF wr (w.heap.size + 2) j
  fz : ∀ m, wr.frozen? ⟨w.heap.size + 2, m, none⟩ = false
  nF : NwF Fs Fs1 (w.heap.size + 3)
  nR : NwR Rs Rs1 (w.heap.size + 3)
  oF : ∀ x ∈ Fs, x.1 < w.heap.size
  oR : ∀ x ∈ Rs, x.1 < w.heap.size ∧ x.2.2 < w.heap.size
theorem RI.set {w wr : World} {ab : Nat} {fv rv fv1 rv1 : Value} {Fs Fs1 : List (Nat × Nat)} {Rs Rs1 : List (Nat × Nat × Nat)} {d : Dat} {da : Option Addr} {dc k : Nat} (h : RI w wr ab fv rv Fs Rs d da dc k fv1 rv1 Fs1 Rs1) (m : Nat) (v : Value) (h1 : k * 4 ≤ m) (h2 : m < k * 4 + 4) : RI w (wr.setCell ⟨w.heap.size + 2, m, none⟩ v) ab fv rv Fs Rs d da dc k fv1 rv1 Fs1 Rs1 := by
  obtain ⟨ag, ch, cr, cq, fq, b0, b1, b2, cp, zr, fz, nF, nR, oF, oR⟩ := h
  have fr : ∀ q, Frb wr ab fv1 rv1 q → Frb (wr.setCell ⟨w.heap.size + 2, m, none⟩ v) ab fv1 rv1 q := fun q hq => ⟨hq.lo, by simpa using hq.hi, hq.nf, hq.nr⟩
  refine ⟨ag.setFar _ _ _ (by have := b2.lo; omega) b2.nf b2.nr (fun x hx => ?_) (fun x hx => ?_), ch.setNew _ _ _ (by omega), (cellF wr _ _ _ _ _ (by omega)).trans cr, (cellF wr _ _ _ _ _ (by omega)).trans cq, by simpa using fq, fr _ b0, fr _ b1, fr _ b2,
    fun j hj => (cp j hj).set (fun q hq => ⟨fr _ hq.1, hq.2⟩) (fun q hq => by have := hq.2; omega) (by omega), fun j hj hl => ?_, fun q => by simpa using fz q, nF, nR, oF, oR⟩
  · rcases nF x hx with q | q
    · have := oF x q; omega
    · omega
  · rcases nR x hx with q | q
    · have := oR x q; omega
    · omega
  · obtain ⟨z0, z1, z2, z3⟩ := zr j hj hl
    exact ⟨(cellO wr _ _ _ _ (by omega)).trans z0, (cellO wr _ _ _ _ (by omega)).trans z1, (cellO wr _ _ _ _ (by omega)).trans z2, (cellO wr _ _ _ _ (by omega)).trans z3⟩
theorem ZrF.keep {w w' : World} {g j : Nat} (h : ZrF w g j) (e : w'.heap[g]? = w.heap[g]?) : ZrF w' g j :=
  ⟨(World.cell?_of_block e).trans h.1, (World.cell?_of_block e).trans h.2.1, (World.cell?_of_block e).trans h.2.2.1, (World.cell?_of_block e).trans h.2.2.2⟩
theorem RI.call {w wr w5 : World} {ab : Nat} {fv rv fv1 rv1 fv2 rv2 : Value} {Fs Fs1 Fs2 : List (Nat × Nat)} {Rs Rs1 Rs2 : List (Nat × Nat × Nat)} {d : Dat} {da : Option Addr} {dc k : Nat} (h : RI w wr ab fv rv Fs Rs d da dc k fv1 rv1 Fs1 Rs1)
    (c : ChA ab fv1 rv1 fv2 rv2 wr w5) (ag2 : AgOK w5 ab fv2 rv2 Fs2 Rs2) (nF2 : NwF Fs1 Fs2 wr.heap.size) (nR2 : NwR Rs1 Rs2 wr.heap.size) : RI w w5 ab fv rv Fs Rs d da dc k fv2 rv2 Fs2 Rs2 := by
  obtain ⟨ag, ch, cr, cq, fq, b0, b1, b2, cp, zr, fz, nF, nR, oF, oR⟩ := h
  have hz := b2.hi
  exact ⟨ag2, ch.trans c, (World.cell?_of_block (b0.same c)).trans cr, (World.cell?_of_block (b1.same c)).trans cq, (World.frozen?_of_block (b1.same c)).trans fq, b0.step c, b1.step c, b2.step c,
    fun j hj => by
      obtain ⟨nm, li, tx, rows, a, c', e, h0, h1, h2, h3, h4, h5, h6⟩ := cp j hj
      have e' := b2.same c
      exact ⟨nm, li, tx, rows, a, c', e, (World.cell?_of_block e').trans h0, (World.cell?_of_block e').trans h1, (World.cell?_of_block e').trans h2, (World.cell?_of_block e').trans h3, h4, h5, DatVA.mono (a := a) (d := rows) h6 (fun q hq => hq.step c) (fun q hq => hq.same c)⟩,
    fun j hj hl => (zr j hj hl).keep (b2.same c), fun m => (World.frozen?_of_block (b2.same c)).trans (fz m), nF.trans nF2 (by omega), nR.trans nR2 (by omega), oF, oR⟩
theorem RI.next {w wr : World} {ab : Nat} {fv rv fv1 rv1 : Value} {Fs Fs1 : List (Nat × Nat)} {Rs Rs1 : List (Nat × Nat × Nat)} {d : Dat} {da : Option Addr} {dc k : Nat} (h : RI w wr ab fv rv Fs Rs d da dc k fv1 rv1 Fs1 Rs1) (hf : FldC wr (Nw wr ab fv1 rv1 (w.heap.size + 3)) d (w.heap.size + 2) k) : RI w wr ab fv rv Fs Rs d da dc (k + 1) fv1 rv1 Fs1 Rs1 := by
  obtain ⟨ag, ch, cr, cq, fq, b0, b1, b2, cp, zr, fz, nF, nR, oF, oR⟩ := h
  refine ⟨ag, ch, cr, cq, fq, b0, b1, b2, fun j hj => ?_, fun j hj hl => zr j (by omega) hl, fz, nF, nR, oF, oR⟩
  by_cases e : j = k
  · subst e; exact hf
  · exact cp j (by omega)
end Go.Proofs.Ytffkejkgkgfnhaa
namespace Go.Proofs.Ytffkejkgkgfnhaa
open Go.RowKit
set_option linter.unusedVariables false
/-- the copy of a list of rows -/
def RwC (w : World) (A : Nat → Prop) (d : Dat) (g j : Nat) : Prop :=
  ∃ f a c, d.drop j = .row f (d.drop (j + 1)) ∧ w.cell? ⟨g, j, none⟩ = some (.slice a f.len c) ∧ f.len ≤ c ∧ c ≤ maxLen ∧ DatW A a f.len (DatAtA w A f)
theorem RwC.set {w : World} {A A' : Nat → Prop} {d : Dat} {g j m : Nat} {v : Value} (h : RwC w A d g j) (hA : ∀ k, A k → A' k) (hg : ∀ k, A k → k ≠ g) (hm : m ≠ j) : RwC (w.setCell ⟨g, m, none⟩ v) A' d g j := by
  obtain ⟨f, a, c, e, h3, h4, h5, h6⟩ := h
  exact ⟨f, a, c, e, (cellO w _ _ _ _ hm).trans h3, h4, h5, DatVA.mono (a := a) (d := f) h6 hA (fun k hk => set_far w _ _ _ k (hg k hk))⟩
/-- what stands while a list of rows is copied: k rows are done -/
structure LI (w wr : World) (ab : Nat) (fv rv : Value) (Fs : List (Nat × Nat)) (Rs : List (Nat × Nat × Nat)) (d : Dat) (k : Nat) (fv1 rv1 : Value) (Fs1 : List (Nat × Nat)) (Rs1 : List (Nat × Nat × Nat)) : Prop where
  ag : AgOK wr ab fv1 rv1 Fs1 Rs1
  ch : ChA ab fv rv fv1 rv1 w wr
  b0 : Frb wr ab fv1 rv1 w.heap.size
  cp : ∀ j, j < k → RwC wr (Nw wr ab fv1 rv1 (w.heap.size + 1)) d w.heap.size j
  zr : ∀ j, k ≤ j → j ≤ d.len → wr.cell? ⟨w.heap.size, j, none⟩ = some (.slice none 0 0)
  fz : ∀ m, wr.frozen? ⟨w.heap.size, m, none⟩ = false
  nF : NwF Fs Fs1 (w.heap.size + 1)
  nR : NwR Rs Rs1 (w.heap.size + 1)
  oF : ∀ x ∈ Fs, x.1 < w.heap.size
  oR : ∀ x ∈ Rs, x.1 < w.heap.size ∧ x.2.2 < w.heap.size
theorem LI.set {w wr : World} {ab : Nat} {fv rv fv1 rv1 : Value} {Fs Fs1 : List (Nat × Nat)} {Rs Rs1 : List (Nat × Nat × Nat)} {d : Dat} {k : Nat} (h : LI w wr ab fv rv Fs Rs d k fv1 rv1 Fs1 Rs1) (v : Value) (K : Nat) (hK : K = k ∨ K = k + 1) (hf : K = k + 1 → RwC (wr.setCell ⟨w.heap.size, k, none⟩ v) (Nw (wr.setCell ⟨w.heap.size, k, none⟩ v) ab fv1 rv1 (w.heap.size + 1)) d w.heap.size k) (hz : K = k → d.len ≤ k) :
    (K = k + 1 → LI w (wr.setCell ⟨w.heap.size, k, none⟩ v) ab fv rv Fs Rs d (k + 1) fv1 rv1 Fs1 Rs1) ∧ AgOK (wr.setCell ⟨w.heap.size, k, none⟩ v) ab fv1 rv1 Fs1 Rs1 ∧ ChA ab fv rv fv1 rv1 w (wr.setCell ⟨w.heap.size, k, none⟩ v) ∧ Frb (wr.setCell ⟨w.heap.size, k, none⟩ v) ab fv1 rv1 w.heap.size ∧ (∀ j, j < k → RwC (wr.setCell ⟨w.heap.size, k, none⟩ v) (Nw (wr.setCell ⟨w.heap.size, k, none⟩ v) ab fv1 rv1 (w.heap.size + 1)) d w.heap.size j) := by
  obtain ⟨ag, ch, b0, cp, zr, fz, nF, nR, oF, oR⟩ := h
  have fr : ∀ q, Frb wr ab fv1 rv1 q → Frb (wr.setCell ⟨w.heap.size, k, none⟩ v) ab fv1 rv1 q := fun q hq => ⟨hq.lo, by simpa using hq.hi, hq.nf, hq.nr⟩
  have hag : AgOK (wr.setCell ⟨w.heap.size, k, none⟩ v) ab fv1 rv1 Fs1 Rs1 := ag.setFar _ _ _ (by have := b0.lo; omega) b0.nf b0.nr (fun x hx => by
    rcases nF x hx with q | q
    · have := oF x q; omega
    · omega) (fun x hx => by
    rcases nR x hx with q | q
    · have := oR x q; omega
    · omega)
  have hcp : ∀ j, j < k → RwC (wr.setCell ⟨w.heap.size, k, none⟩ v) (Nw (wr.setCell ⟨w.heap.size, k, none⟩ v) ab fv1 rv1 (w.heap.size + 1)) d w.heap.size j := fun j hj => (cp j hj).set (fun q hq => ⟨fr _ hq.1, hq.2⟩) (fun q hq => by have := hq.2; omega) (by omega)
  refine ⟨fun e => ⟨hag, ch.setNew _ _ _ (Nat.le_refl _), fr _ b0, fun j hj => ?_, fun j hj hl => (cellO wr _ _ _ _ (by omega)).trans (zr j (by omega) hl), fun q => by simpa using fz q, nF, nR, oF, oR⟩, hag, ch.setNew _ _ _ (Nat.le_refl _), fr _ b0, hcp⟩
  by_cases e2 : j = k
  · subst e2; exact hf e
  · exact hcp j (by omega)
theorem LI.call {w wr w5 : World} {ab : Nat} {fv rv fv1 rv1 fv2 rv2 : Value} {Fs Fs1 Fs2 : List (Nat × Nat)} {Rs Rs1 Rs2 : List (Nat × Nat × Nat)} {d : Dat} {k : Nat} (h : LI w wr ab fv rv Fs Rs d k fv1 rv1 Fs1 Rs1)
    (c : ChA ab fv1 rv1 fv2 rv2 wr w5) (ag2 : AgOK w5 ab fv2 rv2 Fs2 Rs2) (nF2 : NwF Fs1 Fs2 wr.heap.size) (nR2 : NwR Rs1 Rs2 wr.heap.size) : LI w w5 ab fv rv Fs Rs d k fv2 rv2 Fs2 Rs2 := by
  obtain ⟨ag, ch, b0, cp, zr, fz, nF, nR, oF, oR⟩ := h
  have hz := b0.hi
  exact ⟨ag2, ch.trans c, b0.step c,
    fun j hj => by
      obtain ⟨f, a, c', e, h3, h4, h5, h6⟩ := cp j hj
      exact ⟨f, a, c', e, (World.cell?_of_block (b0.same c)).trans h3, h4, h5, DatVA.mono (a := a) (d := f) h6 (fun q hq => hq.step c) (fun q hq => hq.same c)⟩,
    fun j hj hl => (World.cell?_of_block (b0.same c)).trans (zr j hj hl), fun m => (World.frozen?_of_block (b0.same c)).trans (fz m), nF.trans nF2 (by omega), nR.trans nR2 (by omega), oF, oR⟩
end Go.Proofs.Ytffkejkgkgfnhaa
namespace Go.Proofs.Ytffkejkgkgfnhaa
open Go.RowKit
set_option linter.unusedVariables false
theorem own_elem {w : World} {B ty n i : Nat} {v u : Value} {xs : List Value} (h : w.ownsRow B ty 1 v n xs) (hi : xs[i]? = some u) (hn : i < n) : ∃ g c, v = .slice (some ⟨g, 0, none⟩) n c ∧ w.cell? ⟨g, i, none⟩ = some u ∧ g < w.heap.size := by
  have hlt := h.lt
  rcases h.2 with ⟨_, h0⟩ | ⟨g, cap, cur, hv, hb, hg, hn', hm, hs, ht⟩
  · omega
  · refine ⟨g, cap, hv, ?_, (hlt g (by rw [hv]; rfl)).2⟩
    rw [cell_of_heap hg, ← hi, ← ht, List.getElem?_take_of_lt (by omega)]
    simp
theorem AgOK.rowAt {w : World} {ab : Nat} {fv rv : Value} {Fs : List (Nat × Nat)} {Rs : List (Nat × Nat × Nat)} (h : AgOK w ab fv rv Fs Rs) (i : Nat) (hi : i < Rs.length) : ∃ g c x, rv = .slice (some ⟨g, 0, none⟩) Rs.length c ∧ w.cell? ⟨g, i, none⟩ = some (slR x) ∧ g < w.heap.size ∧ SpR w x ∧ x.1 < w.heap.size ∧ x.2.2 < w.heap.size := by
  obtain ⟨g, c, e1, e2, e3⟩ := own_elem h.o1 (u := slR Rs[i]) (by simp [List.getElem?_map, List.getElem?_eq_getElem hi]) hi
  have := h.sR Rs[i] (List.getElem_mem hi)
  exact ⟨g, c, Rs[i], e1, e2, e3, this.1, this.2.1.hi, this.2.2.hi⟩
end Go.Proofs.Ytffkejkgkgfnhaa
namespace Go.Proofs.Ytffkejkgkgfnhaa
open Go.RowKit
set_option linter.unusedVariables false
/-- what is asked of a Render -/
def PROK (f : Nat) : Prop := ∀ (s nm : ByteArray) (way : Int) (w : World) (da : Option Addr) (d : Dat) (dc : Nat), s.size ≤ maxLen → DatV w w.heap.size da d → d.ok false → d.bulk ≤ 1048576 → d.len ≤ dc → dc ≤ maxLen →
  Calls Try.prog f #[.int .i64 way, .string s, .string nm, .agg #[.slice da d.len dc]] w fun e w' => Below w.heap.size w w' ∧ RenPost s nm way d e
end Go.Proofs.Ytffkejkgkgfnhaa
namespace Go.Proofs.Ytffkejkgkgfnhaa
open Go.RowKit
set_option linter.unusedVariables false
/-- texts no longer than any can be -/
def Dat.fits : Dat → Prop
  | .nil => True
  | .fld nm li tx rows r => tx.size ≤ maxLen ∧ rows.fits ∧ r.fits
  | .row f r => f.fits ∧ r.fits
theorem Dat.fits_bulk : ∀ d : Dat, d.bulk ≤ maxLen → d.fits
  | .nil, _ => trivial
  | .fld nm li tx rows r, h => by
    simp only [Dat.bulk] at h
    exact ⟨by omega, Dat.fits_bulk rows (by omega), Dat.fits_bulk r (by omega)⟩
  | .row f r, h => by
    simp only [Dat.bulk] at h
    exact ⟨Dat.fits_bulk f (by omega), Dat.fits_bulk r (by omega)⟩
theorem Dat.fits_drop : ∀ (d : Dat) (i : Nat), d.fits → (d.drop i).fits
  | d, 0, h => by rw [Dat.drop_zero]; exact h
  | .nil, i + 1, h => trivial
  | .fld _ _ _ _ r, i + 1, h => Dat.fits_drop r i h.2.2
  | .row _ r, i + 1, h => Dat.fits_drop r i h.2
def EnvQ (w : World) (N : Nat) : List Dat → List Value → Prop
  | [], xs => xs = []
  | d :: R, xs => ∃ (a : Option Addr) (c : Nat) (ys : List Value), xs = .slice a d.len c :: ys ∧ DatV w N a d ∧ d.ok false ∧ d.fits ∧ d.len ≤ c ∧ c ≤ maxLen ∧ EnvQ w N R ys
theorem EnvQ.mono {w w' : World} {N : Nat} (hw : ∀ k, k < N → w'.heap[k]? = w.heap[k]?) : ∀ (R : List Dat) (xs : List Value), EnvQ w N R xs → EnvQ w' N R xs
  | [], xs, h => h
  | d :: R, xs, h => by
    obtain ⟨a, c, ys, h1, h2, h3, h4, h5, h6, h7⟩ := h
    exact ⟨a, c, ys, h1, h2.mono (Nat.le_refl _) hw, h3, h4, h5, h6, EnvQ.mono hw R ys h7⟩
theorem EnvQ.snoc {w : World} {N : Nat} {d : Dat} {a : Option Addr} {c : Nat} (h1 : DatV w N a d) (h2 : d.ok false) (h3 : d.fits) (h4 : d.len ≤ c) (h5 : c ≤ maxLen) : ∀ (R : List Dat) (xs : List Value), EnvQ w N R xs → EnvQ w N (R ++ [d]) (xs ++ [.slice a d.len c])
  | [], xs, h => by
    have h' : xs = [] := h
    subst h'
    exact ⟨a, c, [], rfl, h1, h2, h3, h4, h5, rfl⟩
  | e :: R, xs, h => by
    obtain ⟨a', c', ys, rfl, k2, k3, k4, k5, k6, k7⟩ := h
    exact ⟨a', c', ys ++ [.slice a d.len c], rfl, k2, k3, k4, k5, k6, EnvQ.snoc h1 h2 h3 h4 h5 R ys k7⟩
theorem EnvQ.length {w : World} {N : Nat} : ∀ (R : List Dat) (xs : List Value), EnvQ w N R xs → xs.length = R.length
  | [], xs, h => by
    have h' : xs = [] := h
    subst h'; rfl
  | d :: R, xs, h => by
    obtain ⟨a, c, ys, rfl, _, _, _, _, _, h7⟩ := h
    simp [EnvQ.length R ys h7]
theorem EnvQ.at {w : World} {N : Nat} : ∀ (R : List Dat) (xs : List Value) (i : Nat) (hi : i < R.length), EnvQ w N R xs → ∃ a c, xs[i]? = some (.slice a R[i].len c) ∧ DatV w N a R[i] ∧ R[i].ok false ∧ R[i].fits ∧ R[i].len ≤ c ∧ c ≤ maxLen
  | [], xs, i, hi, h => absurd hi (by simp)
  | d :: R, xs, 0, hi, h => by
    obtain ⟨a, c, ys, rfl, h2, h3, h4, h5, h6, h7⟩ := h
    exact ⟨a, c, rfl, h2, h3, h4, h5, h6⟩
  | d :: R, xs, i + 1, hi, h => by
    obtain ⟨a, c, ys, rfl, h2, h3, h4, h5, h6, h7⟩ := h
    exact EnvQ.at R ys i (by simpa using hi) h7
theorem EnvQ.front {w : World} {N : Nat} {f : Dat} : ∀ (R : List Dat) (xs : List Value), EnvQ w N (R ++ [f]) xs → EnvQ w N R (xs.take R.length)
  | [], xs, h => by simp [EnvQ]
  | d :: R, xs, h => by
    obtain ⟨a, c, ys, rfl, h2, h3, h4, h5, h6, h7⟩ := h
    exact ⟨a, c, ys.take R.length, by simp, h2, h3, h4, h5, h6, EnvQ.front R ys h7⟩
def FldQ (w : World) (N : Nat) (nm : ByteArray) (R : List Dat) (e : Ending) : Prop :=
  (lkp nm R = none ∧ e = .returned (.tuple #[.agg #[.string ⟨#[]⟩, .bool false, .string ⟨#[]⟩, .slice none 0 0], .bool false])) ∨
  (∃ n l t rows a c, lkp nm R = some (n, l, t, rows) ∧ e = .returned (.tuple #[.agg #[.string n, .bool l, .string t, .slice a rows.len c], .bool true]) ∧ DatV w N a rows ∧ rows.ok true ∧ (rows.fits ∧ t.size ≤ maxLen) ∧ rows.len ≤ c ∧ c ≤ maxLen)
/-- what is asked of a Render, whatever the data's bulk -/
def PROKW (f : Nat) : Prop := ∀ (s nm : ByteArray) (way : Int) (w : World) (da : Option Addr) (d : Dat) (dc : Nat), s.size ≤ maxLen → DatV w w.heap.size da d → d.ok false → d.fits → d.len ≤ dc → dc ≤ maxLen →
  Calls Try.prog f #[.int .i64 way, .string s, .string nm, .agg #[.slice da d.len dc]] w fun e w' => Below w.heap.size w w' ∧ RenPost s nm way d e
theorem PROKW.small {f : Nat} (h : PROKW f) : PROK f := fun s nm way w da d dc h1 h2 h3 h4 h5 h6 => h s nm way w da d dc h1 h2 h3 (Dat.fits_bulk d (by unfold maxLen; omega)) h5 h6
end Go.Proofs.Ytffkejkgkgfnhaa
namespace Go.Proofs.Ytffkejkgkgfnhaa
open Go.ChangeShapes Go.WideShapes Go.ChangeAt Go.RowKit Go.Deep
set_option linter.unusedVariables false
theorem open_fldQ {H : Type} {enc : TypeId × Value → H} {w : World} {base : Nat} {spare : Nat → Bool} {held : Bool} {fuel : Nat} {cs : List Value} {x : DataW H × List MemPlace}
    (h : DataW.trod enc Try.prog w base spare held fuel 50 cs = some x) :
    ∃ (nm : ByteArray) (li : Bool) (tx : ByteArray) (rv : Value) (m : Nat) (x3 : DataW H × List MemPlace), cs = [.string nm, .bool li, .string tx, rv] ∧ DataW.trod enc Try.prog w base spare held m 48 [rv] = some x3 ∧
      Rows.uptoBulk x.1 = nm.size + tx.size + Rows.uptoBulk x3.1 + 4 ∧ tx.size ≤ maxLen := by
  obtain ⟨xs, m, _, rfl, hl, hlen, hf⟩ := DataW.trod_struct Try.underlying50 h
  rw [cellsF] at hl
  obtain ⟨c0, c1, c2, c3, rfl⟩ := fourL cs hl
  obtain ⟨x0, x1, x2, x3, rfl⟩ := fourL xs hlen
  have f0 : DataW.trod enc Try.prog w base spare held m 9 (([c0, c1, c2, c3].drop 0).take (Try.prog.cellsOf 9)) = some x0 := hf 0 _ rfl
  have f1 : DataW.trod enc Try.prog w base spare held m 4 (([c0, c1, c2, c3].drop 1).take (Try.prog.cellsOf 4)) = some x1 := hf 1 _ rfl
  have f2 : DataW.trod enc Try.prog w base spare held m 9 (([c0, c1, c2, c3].drop 2).take (Try.prog.cellsOf 9)) = some x2 := hf 2 _ rfl
  have f3 : DataW.trod enc Try.prog w base spare held m 48 (([c0, c1, c2, c3].drop 3).take (Try.prog.cellsOf 48)) = some x3 := hf 3 _ rfl
  rw [cells9] at f0 f2
  rw [cellsB] at f1
  rw [cellsLR] at f3
  obtain ⟨nm, e0, rfl, hs0⟩ := DataW.trod_string Try.underlying9 f0
  obtain ⟨li, e1, rfl⟩ := DataW.trod_bool Try.underlying4 f1
  obtain ⟨tx, e2, rfl, hs2⟩ := DataW.trod_string Try.underlying9 f2
  simp at e0 e1 e2
  subst e0 e1 e2
  refine ⟨nm, li, tx, c3, m, x3, rfl, f3, ?_, hs2⟩
  simp [Rows.uptoBulk, Rows.uptoBulkAll]
  omega
theorem build_fldsQ {H : Type} {w : World} {N b off len : Nat} {D : Nat → DataW H} (h : ∀ i, i < len → ∃ nm li tx rows a c, w.cell? ⟨b, off + i * 4, none⟩ = some (.string nm) ∧ w.cell? ⟨b, off + i * 4 + 1, none⟩ = some (.bool li) ∧ w.cell? ⟨b, off + i * 4 + 2, none⟩ = some (.string tx) ∧
      w.cell? ⟨b, off + i * 4 + 3, none⟩ = some (.slice a rows.len c) ∧ rows.len ≤ c ∧ c ≤ maxLen ∧ DatV w N a rows ∧ rows.ok true ∧ nm.size + tx.size + rows.bulk + 5 ≤ Rows.uptoBulk (D i) ∧ tx.size ≤ maxLen ∧ rows.fits) :
    ∀ k i, i + k = len → ∃ d : Dat, d.len = k ∧ d.ok false ∧ DatAt w N d b (off + i * 4) ∧ d.bulk ≤ Rows.uptoBulkAll ((List.range' i k).map D) ∧ d.fits := by
  intro k
  induction k with
  | zero => intro i _; exact ⟨.nil, rfl, trivial, trivial, Nat.zero_le _, trivial⟩
  | succ k ih =>
    intro i hi
    obtain ⟨d, h1, h2, h3, h4, h5⟩ := ih (i + 1) (by omega)
    obtain ⟨nm, li, tx, rows, a, c, k0, k1, k2, k3, k4, k5, k6, k7, k8, k9, k10⟩ := h i (by omega)
    refine ⟨.fld nm li tx rows d, by simp [Dat.len, h1], ⟨k7, h2⟩, ⟨k0, k1, k2, ⟨a, c, k3, k4, k5, k6⟩, by rw [show off + i * 4 + 4 = off + (i + 1) * 4 by omega]; exact h3⟩, ?_, ⟨k9, k10, h5⟩⟩
    simp only [Dat.bulk, List.range'_succ, List.map_cons, Rows.uptoBulkAll]
    omega
theorem build_rowsQ {H : Type} {w : World} {N b off len : Nat} {D : Nat → DataW H} (h : ∀ i, i < len → ∃ (f : Dat) (a : Option Addr) (c : Nat), w.cell? ⟨b, off + i, none⟩ = some (.slice a f.len c) ∧ f.len ≤ c ∧ c ≤ maxLen ∧ DatV w N a f ∧ f.ok false ∧ f.bulk + 2 ≤ Rows.uptoBulk (D i) ∧ f.fits) :
    ∀ k i, i + k = len → ∃ d : Dat, d.len = k ∧ d.ok true ∧ DatAt w N d b (off + i) ∧ d.bulk ≤ Rows.uptoBulkAll ((List.range' i k).map D) ∧ d.fits := by
  intro k
  induction k with
  | zero => intro i _; exact ⟨.nil, rfl, trivial, trivial, Nat.zero_le _, trivial⟩
  | succ k ih =>
    intro i hi
    obtain ⟨d, h1, h2, h3, h4, h5⟩ := ih (i + 1) (by omega)
    obtain ⟨f, a, c, k3, k4, k5, k6, k7, k8, k9⟩ := h i (by omega)
    refine ⟨.row f d, by simp [Dat.len, h1], ⟨k7, h2⟩, ⟨⟨a, c, k3, k4, k5, k6⟩, h3⟩, ?_, ⟨k9, h5⟩⟩
    simp only [Dat.bulk, List.range'_succ, List.map_cons, Rows.uptoBulkAll]
    omega
def DatQ (w : World) (b : Bool) (v : Value) (B : Nat) : Prop := ∃ (a : Option Addr) (d : Dat) (c : Nat), v = .slice a d.len c ∧ d.ok b ∧ d.len ≤ c ∧ c ≤ maxLen ∧ DatV w w.heap.size a d ∧ d.bulk + 1 ≤ B ∧ d.fits
theorem open_datQ {H : Type} {enc : TypeId × Value → H} {w : World} (B : Nat) : ∀ (fuel : Nat) (v : Value) (x : DataW H × List MemPlace), Rows.uptoBulk x.1 ≤ B →
    (DataW.trod enc Try.prog w 0 (fun _ => true) true fuel 31 [v] = some x → DatQ w false v (Rows.uptoBulk x.1)) ∧ (DataW.trod enc Try.prog w 0 (fun _ => true) true fuel 48 [v] = some x → DatQ w true v (Rows.uptoBulk x.1)) := by
  induction B with
  | zero =>
    intro fuel v x hB
    have : 0 < Rows.uptoBulk x.1 := by cases x.1 <;> first | (rename_i l; cases l <;> simp [Rows.uptoBulk]) | simp [Rows.uptoBulk]
    omega
  | succ B ih =>
    intro fuel v x hB
    constructor
    · intro h
      rcases open_slice Try.underlying31 h with ⟨hcs, hx⟩ | ⟨a', len, cap, m, n, D, Pl, hcs, _, hl, hm, hmm, hx, hall⟩
      · simp at hcs; subst hcs
        exact ⟨none, .nil, 0, rfl, trivial, Nat.zero_le _, Nat.zero_le _, .inl rfl, by rw [hx]; simp [Rows.uptoBulk, Dat.bulk], trivial⟩
      · simp at hcs; subst hcs
        simp at hmm
        subst hmm
        rw [cellsF] at hall
        rw [hx] at hB ⊢
        simp only [Rows.uptoBulk] at hB ⊢
        by_cases h0 : len = 0
        · subst h0
          exact ⟨some a', .nil, m, rfl, trivial, Nat.zero_le _, hm, .inl rfl, by simp [Dat.bulk], trivial⟩
        · obtain ⟨b, off, spot⟩ := a'
          have key : spot = none ∧ b < w.heap.size := by
            obtain ⟨cs', hc, ht⟩ := hall 0 (by omega)
            obtain ⟨nm, li, tx, rv, m', x3, rfl, _, _, _⟩ := open_fldQ ht
            have h1 := (World.cells?_some hc).2.2 0 (by omega)
            have h2 := World.cells?_block hc (by omega)
            simp [Addr.add] at h1 h2
            exact ⟨by simpa using World.cell?_spot h1, h2⟩
          obtain ⟨rfl, hb⟩ := key
          have hel : ∀ i, i < len → ∃ nm li tx rows a c, w.cell? ⟨b, off + i * 4, none⟩ = some (.string nm) ∧ w.cell? ⟨b, off + i * 4 + 1, none⟩ = some (.bool li) ∧ w.cell? ⟨b, off + i * 4 + 2, none⟩ = some (.string tx) ∧
              w.cell? ⟨b, off + i * 4 + 3, none⟩ = some (.slice a rows.len c) ∧ rows.len ≤ c ∧ c ≤ maxLen ∧ DatV w w.heap.size a rows ∧ rows.ok true ∧ nm.size + tx.size + rows.bulk + 5 ≤ Rows.uptoBulk (D i) ∧ tx.size ≤ maxLen ∧ rows.fits := by
            intro i hi
            obtain ⟨cs', hc, ht⟩ := hall i (by omega)
            obtain ⟨nm, li, tx, rv, m', x3, rfl, h3, hbk, htx⟩ := open_fldQ ht
            have hcc := at_cellsN (World.cells?_some hc).2.2
            have hDi : Rows.uptoBulk (D i) ≤ Rows.uptoBulkAll ((List.range len).map D) := bulk_mem _ _ (List.mem_map.2 ⟨i, List.mem_range.2 hi, rfl⟩)
            simp only at hbk
            obtain ⟨a, d, c, rfl, h4, h5, h6, h7, h8, h9⟩ := (ih m' rv x3 (by omega)).2 h3
            exact ⟨nm, li, tx, d, a, c, hcc 0 (by omega), hcc 1 (by omega), hcc 2 (by omega), hcc 3 (by omega), h5, h6, h7, h4, by omega, htx, h9⟩
          obtain ⟨d, e1, e2, e3, e4, e5⟩ := build_fldsQ hel len 0 (by omega)
          subst e1
          refine ⟨some ⟨b, off, none⟩, d, m, rfl, e2, hl, hm, .inr ⟨b, off, rfl, hb, by simpa using e3⟩, ?_, e5⟩
          rw [List.range_eq_range']
          omega
    · intro h
      rcases open_slice Try.underlying48 h with ⟨hcs, hx⟩ | ⟨a', len, cap, m, n, D, Pl, hcs, _, hl, hm, hmm, hx, hall⟩
      · simp at hcs; subst hcs
        exact ⟨none, .nil, 0, rfl, trivial, Nat.zero_le _, Nat.zero_le _, .inl rfl, by rw [hx]; simp [Rows.uptoBulk, Dat.bulk], trivial⟩
      · simp at hcs; subst hcs
        simp at hmm
        subst hmm
        rw [cellsR] at hall
        rw [hx] at hB ⊢
        simp only [Rows.uptoBulk] at hB ⊢
        by_cases h0 : len = 0
        · subst h0
          exact ⟨some a', .nil, m, rfl, trivial, Nat.zero_le _, hm, .inl rfl, by simp [Dat.bulk], trivial⟩
        · obtain ⟨b, off, spot⟩ := a'
          have key : spot = none ∧ b < w.heap.size := by
            obtain ⟨cs', hc, ht⟩ := hall 0 (by omega)
            obtain ⟨fv, m', x3, rfl, _, _⟩ := open_rw ht
            have h1 := (World.cells?_some hc).2.2 0 (by omega)
            have h2 := World.cells?_block hc (by omega)
            simp [Addr.add] at h1 h2
            exact ⟨by simpa using World.cell?_spot h1, h2⟩
          obtain ⟨rfl, hb⟩ := key
          have hel : ∀ i, i < len → ∃ (f : Dat) (a : Option Addr) (c : Nat), w.cell? ⟨b, off + i, none⟩ = some (.slice a f.len c) ∧ f.len ≤ c ∧ c ≤ maxLen ∧ DatV w w.heap.size a f ∧ f.ok false ∧ f.bulk + 2 ≤ Rows.uptoBulk (D i) ∧ f.fits := by
            intro i hi
            obtain ⟨cs', hc, ht⟩ := hall i (by omega)
            obtain ⟨fv, m', x3, rfl, h3, hbk⟩ := open_rw ht
            have hcc := at_cellsN (World.cells?_some hc).2.2
            have hDi : Rows.uptoBulk (D i) ≤ Rows.uptoBulkAll ((List.range len).map D) := bulk_mem _ _ (List.mem_map.2 ⟨i, List.mem_range.2 hi, rfl⟩)
            simp only at hbk
            obtain ⟨a, d, c, rfl, h4, h5, h6, h7, h8, h9⟩ := (ih m' fv x3 (by omega)).1 h3
            exact ⟨d, a, c, by simpa using hcc 0 (by omega), h5, h6, h7, h4, by omega, h9⟩
          obtain ⟨d, e1, e2, e3, e4, e5⟩ := build_rowsQ hel len 0 (by omega)
          subst e1
          refine ⟨some ⟨b, off, none⟩, d, m, rfl, e2, hl, hm, .inr ⟨b, off, rfl, hb, by simpa using e3⟩, ?_, e5⟩
          rw [List.range_eq_range']
          omega
end Go.Proofs.Ytffkejkgkgfnhaa
