import Derived.Test.YtffkejkgkgfnhabGreatG20
import Derived.Deep.RegionLaw
namespace Go.Proofs.YtffkejkgkgfnhabGreat
open Go.RowKit
set_option linter.unusedVariables false
def zF (n : Nat) : Array Value := madeCells (Value.agg #[.string ⟨#[]⟩, .bool false, .string ⟨#[]⟩, .slice none 0 0]).cells (n * 4)
def zR (n : Nat) : Array Value := madeCells (Value.agg #[.slice none 0 0]).cells n
theorem infoFld : (Tryz.prog.info? 88).map (fun i => (i.zero, i.size, i.bytes)) = some (some (.agg #[.string ⟨#[]⟩, .bool false, .string ⟨#[]⟩, .slice none 0 0]), 4, 64) := by kernel_rfl
theorem infoRw : (Tryz.prog.info? 31).map (fun i => (i.zero, i.size, i.bytes)) = some (some (.agg #[.slice none 0 0]), 1, 24) := by kernel_rfl
theorem infoLF : (Tryz.prog.info? 29).map (fun i => (i.zero, i.size, i.bytes)) = some (some (.slice none 0 0), 1, 24) := by kernel_rfl
theorem infoLR : (Tryz.prog.info? 86).map (fun i => (i.zero, i.size, i.bytes)) = some (some (.slice none 0 0), 1, 24) := by kernel_rfl
theorem make29 (w : World) (n : Nat) (hn : n ≤ 2000000) : (Instr.makeSlice 29 (.int .i64 n) (.int .i64 n)).run Tryz.prog w = .ok (.slice (some ⟨w.heap.size, 0, none⟩) n n) (w.alloc (.cells (zF n) 88)) := by
  obtain ⟨i0, hi, hz0, hz1, hz2⟩ := info_parts infoFld
  have := run_make (P := Tryz.prog) w 29 88 i0 _ Tryz.underlying29 hi hz0 .i64 .i64 n n (by omega) (by omega) (by rw [hz2]; omega) (by omega)
  rw [hz1] at this
  simpa [zF] using this
theorem make86 (w : World) (n : Nat) (hn : n ≤ 2000000) : (Instr.makeSlice 86 (.int .i64 n) (.int .i64 n)).run Tryz.prog w = .ok (.slice (some ⟨w.heap.size, 0, none⟩) n n) (w.alloc (.cells (zR n) 31)) := by
  obtain ⟨i0, hi, hz0, hz1, hz2⟩ := info_parts infoRw
  have := run_make (P := Tryz.prog) w 86 31 i0 _ Tryz.underlying86 hi hz0 .i64 .i64 n n (by omega) (by omega) (by rw [hz2]; omega) (by omega)
  rw [hz1] at this
  simpa [zR] using this
theorem zF_at (n k : Nat) (h : k < n) : (zF n)[k * 4]? = some (.string ⟨#[]⟩) ∧ (zF n)[k * 4 + 1]? = some (.bool false) ∧ (zF n)[k * 4 + 2]? = some (.string ⟨#[]⟩) ∧ (zF n)[k * 4 + 3]? = some (.slice none 0 0) := by
  have e : (Value.agg #[.string ⟨#[]⟩, .bool false, .string ⟨#[]⟩, .slice none 0 0]).cells = #[.string ⟨#[]⟩, .bool false, .string ⟨#[]⟩, .slice none 0 0] := by rfl
  have m1 : (k * 4) % 4 = 0 := by omega
  have m2 : (k * 4 + 1) % 4 = 1 := by omega
  have m3 : (k * 4 + 2) % 4 = 2 := by omega
  have m4 : (k * 4 + 3) % 4 = 3 := by omega
  refine ⟨?_, ?_, ?_, ?_⟩
  · simp [zF, madeCells, e, m1, show k * 4 < n * 4 by omega]
  · simp [zF, madeCells, e, m2, show k * 4 + 1 < n * 4 by omega]
  · simp [zF, madeCells, e, m3, show k * 4 + 2 < n * 4 by omega]
  · simp [zF, madeCells, e, m4, show k * 4 + 3 < n * 4 by omega]
theorem zR_at (n k : Nat) (h : k < n) : (zR n)[k]? = some (.slice none 0 0) := by
  have e : (Value.agg #[.slice none 0 0]).cells = #[.slice none 0 0] := by rfl
  simp [zR, madeCells, e, h, Nat.mod_one]

theorem cellNew (w : World) (n j : Nat) (cs : Array Value) (ty : Nat) (h : n = w.heap.size) : (w.alloc (.cells cs ty)).cell? ⟨n, j, none⟩ = cs[j]? := by
  subst h; simp
theorem lst_cells (w : World) (a : Option Addr) (n c : Nat) {ty : Nat} {sz : Nat} (hs : sz = w.heap.size) : ∀ (j : Nat) (u : Value), [Value.slice a n c][j]? = some u → (w.alloc (.cells #[.slice a n c] ty)).cell? ((⟨sz, 0, none⟩ : Addr).add j) = some u := by
  intro j u hj
  subst hs
  match j, hj with
  | 0, hj => simp at hj; subst hj; simp [Addr.add]
  | j + 1, hj => simp at hj
theorem row_oneL (a : Option Addr) (n c : Nat) : ∀ u ∈ [Value.slice a n c], u.oneCell' = true := by
  intro u hu; simp at hu; subst hu; rfl
theorem frNew (w : World) (n j : Nat) (cs : Array Value) (ty : Nat) (h : n = w.heap.size) : (w.alloc (.cells cs ty)).frozen? ⟨n, j, none⟩ = false := by
  subst h
  have e : (w.alloc (.cells cs ty)).heap[w.heap.size]? = some (.cells cs ty (0, 0)) := heap_new w _
  generalize w.alloc (.cells cs ty) = W at e ⊢
  simp [World.frozen?, e]
/-- the copy of a list of fields -/
def FldC (w : World) (A : Nat → Prop) (d : Dat) (g j : Nat) : Prop :=
  ∃ nm li tx rows a c, d.drop j = .fld nm li tx rows (d.drop (j + 1)) ∧ w.cell? ⟨g, j * 4, none⟩ = some (.string nm) ∧ w.cell? ⟨g, j * 4 + 1, none⟩ = some (.bool li) ∧ w.cell? ⟨g, j * 4 + 2, none⟩ = some (.string tx) ∧
    w.cell? ⟨g, j * 4 + 3, none⟩ = some (.slice a rows.len c) ∧ rows.len ≤ c ∧ c ≤ maxLen ∧ DatW A a rows.len (DatAtA w A rows)
theorem FldC.keep {w w' : World} {A A' : Nat → Prop} {d : Dat} {g j : Nat} (h : FldC w A d g j) (hg : A g) (hA : ∀ k, A k → A' k) (hw : ∀ k, A k → w'.heap[k]? = w.heap[k]?) : FldC w' A' d g j := by
  obtain ⟨nm, li, tx, rows, a, c, e, h0, h1, h2, h3, h4, h5, h6⟩ := h
  have e' := hw g hg
  exact ⟨nm, li, tx, rows, a, c, e, (World.cell?_of_block e').trans h0, (World.cell?_of_block e').trans h1, (World.cell?_of_block e').trans h2, (World.cell?_of_block e').trans h3, h4, h5, DatVA.mono (a := a) (d := rows) h6 hA hw⟩
/-- a store into the list itself, at another field -/
theorem FldC.set {w : World} {A : Nat → Prop} {d : Dat} {g j m : Nat} {v : Value} (h : FldC w A d g j) {A' : Nat → Prop} (hA : ∀ k, A k → A' k) (hg : ∀ k, A k → k ≠ g) (hm : m ≠ j * 4 ∧ m ≠ j * 4 + 1 ∧ m ≠ j * 4 + 2 ∧ m ≠ j * 4 + 3) : FldC (w.setCell ⟨g, m, none⟩ v) A' d g j := by
  obtain ⟨nm, li, tx, rows, a, c, e, h0, h1, h2, h3, h4, h5, h6⟩ := h
  exact ⟨nm, li, tx, rows, a, c, e, (cellO w _ _ _ _ hm.1).trans h0, (cellO w _ _ _ _ hm.2.1).trans h1, (cellO w _ _ _ _ hm.2.2.1).trans h2, (cellO w _ _ _ _ hm.2.2.2).trans h3, h4, h5, DatVA.mono (a := a) (d := rows) h6 hA (fun k hk => set_far w _ _ _ k (hg k hk))⟩
theorem flds_at {w : World} {A : Nat → Prop} {d : Dat} {g : Nat} (h : ∀ j, j < d.len → FldC w A d g j) : ∀ k i, i + k = d.len → DatAtA w A (d.drop i) g (i * 4) := by
  intro k
  induction k with
  | zero => intro i hi; rw [Dat.drop_end d i (by omega)]; trivial
  | succ k ih =>
    intro i hi
    obtain ⟨nm, li, tx, rows, a, c, e, h0, h1, h2, h3, h4, h5, h6⟩ := h i (by omega)
    have r := ih (i + 1) (by omega)
    rw [e]
    exact ⟨h0, h1, h2, ⟨a, c, h3, h4, h5, h6⟩, by rw [show i * 4 + 4 = (i + 1) * 4 by omega]; exact r⟩
theorem flds_all {w : World} {A : Nat → Prop} {d : Dat} {g : Nat} (h : ∀ j, j < d.len → FldC w A d g j) : DatAtA w A d g 0 := by
  have := flds_at h d.len 0 (by omega)
  rwa [Dat.drop_zero, Nat.zero_mul] at this
def ZrF (w : World) (g j : Nat) : Prop := w.cell? ⟨g, j * 4, none⟩ = some (.string ⟨#[]⟩) ∧ w.cell? ⟨g, j * 4 + 1, none⟩ = some (.bool false) ∧ w.cell? ⟨g, j * 4 + 2, none⟩ = some (.string ⟨#[]⟩) ∧ w.cell? ⟨g, j * 4 + 3, none⟩ = some (.slice none 0 0)
def Nw (w : World) (ab : Nat) (fv rv : Value) (B k : Nat) : Prop := Frb w ab fv rv k ∧ B ≤ k
theorem Nw.step {w w' : World} {ab B k : Nat} {fv rv fv' rv' : Value} (h : Nw w ab fv rv B k) (c : ChA ab fv rv fv' rv' w w') : Nw w' ab fv' rv' B k := ⟨h.1.step c, h.2⟩
theorem Nw.same {w w' : World} {ab B k : Nat} {fv rv fv' rv' : Value} (h : Nw w ab fv rv B k) (c : ChA ab fv rv fv' rv' w w') : w'.heap[k]? = w.heap[k]? := h.1.same c
theorem Nw.mono {w : World} {ab B B' k : Nat} {fv rv : Value} (h : Nw w ab fv rv B k) (hB : B' ≤ B) : Nw w ab fv rv B' k := ⟨h.1, Nat.le_trans hB h.2⟩
def NwF (Fs Fs' : List (Nat × Nat)) (B : Nat) : Prop := ∀ x ∈ Fs', x ∈ Fs ∨ B ≤ x.1
def NwR (Rs Rs' : List (Nat × Nat × Nat)) (B : Nat) : Prop := ∀ x ∈ Rs', x ∈ Rs ∨ (B ≤ x.1 ∧ B ≤ x.2.2)
theorem NwF.trans {a b c : List (Nat × Nat)} {B B' : Nat} (h : NwF a b B) (k : NwF b c B') (hB : B ≤ B') : NwF a c B := fun x hx => by
  rcases k x hx with q | q
  · exact h x q
  · exact .inr (by omega)
theorem NwR.trans {a b c : List (Nat × Nat × Nat)} {B B' : Nat} (h : NwR a b B) (k : NwR b c B') (hB : B ≤ B') : NwR a c B := fun x hx => by
  rcases k x hx with q | q
  · exact h x q
  · exact .inr (by omega)
def CpRow (w : World) (ab : Nat) (fv rv : Value) (Fs : List (Nat × Nat)) (Rs : List (Nat × Nat × Nat)) (d : Dat) (g : Nat) (w' : World) : Prop :=
  ∃ fv' rv' Fs' Rs', AgOK w' ab fv' rv' Fs' Rs' ∧ ChA ab fv rv fv' rv' w w' ∧ Fs'.length + Rs'.length ≤ Fs.length + Rs.length + d.bulk + 1 ∧ Nw w' ab fv' rv' w.heap.size g ∧ DatAtA w' (Nw w' ab fv' rv' w.heap.size) d g 0 ∧ NwF Fs Fs' w.heap.size ∧ NwR Rs Rs' w.heap.size
def RowC (n : Nat) : Prop := ∀ (d : Dat), d.bulk < n → d.ok false → ∀ (w : World) (ab : Nat) (fv rv : Value) (Fs : List (Nat × Nat)) (Rs : List (Nat × Nat × Nat)) (da : Option Addr) (dc : Nat), AgOK w ab fv rv Fs Rs → DatV w ab da d → Fs.length + Rs.length + d.bulk ≤ 2000000 → d.bulk ≤ 1048576 → 
  Calls Tryz.prog 25 #[.pointer (some ⟨ab, 0, none⟩), .agg #[.slice da d.len dc]] w fun e w' => ∃ g, e = .returned (.agg #[.slice (some ⟨g, 0, none⟩) d.len (d.len + 1)]) ∧ CpRow w ab fv rv Fs Rs d g w'
def LstC (n : Nat) : Prop := ∀ (d : Dat), d.bulk < n → d.ok true → ∀ (w : World) (ab : Nat) (fv rv : Value) (Fs : List (Nat × Nat)) (Rs : List (Nat × Nat × Nat)) (da : Option Addr) (dc : Nat), AgOK w ab fv rv Fs Rs → DatV w ab da d → Fs.length + Rs.length + d.bulk ≤ 2000000 → d.bulk ≤ 1048576 →
  Calls Tryz.prog 47 #[.pointer (some ⟨ab, 0, none⟩), .slice da d.len dc] w fun e w' => ∃ g, e = .returned (.slice (some ⟨g, 0, none⟩) d.len (d.len + 1)) ∧ CpRow w ab fv rv Fs Rs d g w'
/-- what stands while a row is copied: k fields are done -/
structure RI (w wr : World) (ab : Nat) (fv rv : Value) (Fs : List (Nat × Nat)) (Rs : List (Nat × Nat × Nat)) (d : Dat) (da : Option Addr) (dc k : Nat) (fv1 rv1 : Value) (Fs1 : List (Nat × Nat)) (Rs1 : List (Nat × Nat × Nat)) : Prop where
  ag : AgOK wr ab fv1 rv1 Fs1 Rs1
  ch : ChA ab fv rv fv1 rv1 w wr
  cr : wr.cell? ⟨w.heap.size, 0, none⟩ = some (.slice da d.len dc)
  cq : wr.cell? ⟨w.heap.size + 1, 0, none⟩ = some (.slice none 0 0)
  fq : wr.frozen? ⟨w.heap.size + 1, 0, none⟩ = false
  b0 : Frb wr ab fv1 rv1 w.heap.size
  b1 : Frb wr ab fv1 rv1 (w.heap.size + 1)
  b2 : Frb wr ab fv1 rv1 (w.heap.size + 2)
  cp : ∀ j, j < k → FldC wr (Nw wr ab fv1 rv1 (w.heap.size + 3)) d (w.heap.size + 2) j
  zr : ∀ j, k < j → j ≤ d.len → ZrF wr (w.heap.size + 2) j
  fz : ∀ m, wr.frozen? ⟨w.heap.size + 2, m, none⟩ = false
  nF : NwF Fs Fs1 (w.heap.size + 3)
  nR : NwR Rs Rs1 (w.heap.size + 3)
  oF : ∀ x ∈ Fs, x.1 < w.heap.size
  oR : ∀ x ∈ Rs, x.1 < w.heap.size ∧ x.2.2 < w.heap.size
theorem RI.set {w wr : World} {ab : Nat} {fv rv fv1 rv1 : Value} {Fs Fs1 : List (Nat × Nat)} {Rs Rs1 : List (Nat × Nat × Nat)} {d : Dat} {da : Option Addr} {dc k : Nat} (h : RI w wr ab fv rv Fs Rs d da dc k fv1 rv1 Fs1 Rs1) (m : Nat) (v : Value) (h1 : k * 4 ≤ m) (h2 : m < k * 4 + 4) : RI w (wr.setCell ⟨w.heap.size + 2, m, none⟩ v) ab fv rv Fs Rs d da dc k fv1 rv1 Fs1 Rs1 := by
  obtain ⟨ag, ch, cr, cq, fq, b0, b1, b2, cp, zr, fz, nF, nR, oF, oR⟩ := h
  have fr : ∀ q, Frb wr ab fv1 rv1 q → Frb (wr.setCell ⟨w.heap.size + 2, m, none⟩ v) ab fv1 rv1 q := fun q hq => ⟨hq.lo, by simpa using hq.hi, hq.nf, hq.nr⟩
  refine ⟨ag.setFar _ _ _ (by have := b2.lo; omega) b2.nf b2.nr (fun x hx => ?_) (fun x hx => ?_), ch.setNew _ _ _ (by omega), (cellF wr _ _ _ _ _ (by omega)).trans cr, (cellF wr _ _ _ _ _ (by omega)).trans cq, by simpa using fq, fr _ b0, fr _ b1, fr _ b2,
    fun j hj => (cp j hj).set (fun q hq => ⟨fr _ hq.1, hq.2⟩) (fun q hq => by have := hq.2; omega) (by omega), fun j hj hl => ?_, fun q => by simpa using fz q, nF, nR, oF, oR⟩
  · rcases nF x hx with q | q
    · have := oF x q; omega
    · omega
  · rcases nR x hx with q | q
    · have := oR x q; omega
    · omega
  · obtain ⟨z0, z1, z2, z3⟩ := zr j hj hl
    exact ⟨(cellO wr _ _ _ _ (by omega)).trans z0, (cellO wr _ _ _ _ (by omega)).trans z1, (cellO wr _ _ _ _ (by omega)).trans z2, (cellO wr _ _ _ _ (by omega)).trans z3⟩
theorem ZrF.keep {w w' : World} {g j : Nat} (h : ZrF w g j) (e : w'.heap[g]? = w.heap[g]?) : ZrF w' g j :=
  ⟨(World.cell?_of_block e).trans h.1, (World.cell?_of_block e).trans h.2.1, (World.cell?_of_block e).trans h.2.2.1, (World.cell?_of_block e).trans h.2.2.2⟩
theorem RI.call {w wr w5 : World} {ab : Nat} {fv rv fv1 rv1 fv2 rv2 : Value} {Fs Fs1 Fs2 : List (Nat × Nat)} {Rs Rs1 Rs2 : List (Nat × Nat × Nat)} {d : Dat} {da : Option Addr} {dc k : Nat} (h : RI w wr ab fv rv Fs Rs d da dc k fv1 rv1 Fs1 Rs1)
    (c : ChA ab fv1 rv1 fv2 rv2 wr w5) (ag2 : AgOK w5 ab fv2 rv2 Fs2 Rs2) (nF2 : NwF Fs1 Fs2 wr.heap.size) (nR2 : NwR Rs1 Rs2 wr.heap.size) : RI w w5 ab fv rv Fs Rs d da dc k fv2 rv2 Fs2 Rs2 := by
  obtain ⟨ag, ch, cr, cq, fq, b0, b1, b2, cp, zr, fz, nF, nR, oF, oR⟩ := h
  have hz := b2.hi
  exact ⟨ag2, ch.trans c, (World.cell?_of_block (b0.same c)).trans cr, (World.cell?_of_block (b1.same c)).trans cq, (World.frozen?_of_block (b1.same c)).trans fq, b0.step c, b1.step c, b2.step c,
    fun j hj => by
      obtain ⟨nm, li, tx, rows, a, c', e, h0, h1, h2, h3, h4, h5, h6⟩ := cp j hj
      have e' := b2.same c
      exact ⟨nm, li, tx, rows, a, c', e, (World.cell?_of_block e').trans h0, (World.cell?_of_block e').trans h1, (World.cell?_of_block e').trans h2, (World.cell?_of_block e').trans h3, h4, h5, DatVA.mono (a := a) (d := rows) h6 (fun q hq => hq.step c) (fun q hq => hq.same c)⟩,
    fun j hj hl => (zr j hj hl).keep (b2.same c), fun m => (World.frozen?_of_block (b2.same c)).trans (fz m), nF.trans nF2 (by omega), nR.trans nR2 (by omega), oF, oR⟩
theorem RI.next {w wr : World} {ab : Nat} {fv rv fv1 rv1 : Value} {Fs Fs1 : List (Nat × Nat)} {Rs Rs1 : List (Nat × Nat × Nat)} {d : Dat} {da : Option Addr} {dc k : Nat} (h : RI w wr ab fv rv Fs Rs d da dc k fv1 rv1 Fs1 Rs1) (hf : FldC wr (Nw wr ab fv1 rv1 (w.heap.size + 3)) d (w.heap.size + 2) k) : RI w wr ab fv rv Fs Rs d da dc (k + 1) fv1 rv1 Fs1 Rs1 := by
  obtain ⟨ag, ch, cr, cq, fq, b0, b1, b2, cp, zr, fz, nF, nR, oF, oR⟩ := h
  refine ⟨ag, ch, cr, cq, fq, b0, b1, b2, fun j hj => ?_, fun j hj hl => zr j (by omega) hl, fz, nF, nR, oF, oR⟩
  by_cases e : j = k
  · subst e; exact hf
  · exact cp j (by omega)
theorem ri_start {w : World} {ab : Nat} {fv rv : Value} {Fs : List (Nat × Nat)} {Rs : List (Nat × Nat × Nat)} (d : Dat) (da : Option Addr) (dc : Nat) (h : AgOK w ab fv rv Fs Rs) :
    RI w (((w.alloc (.cells #[.slice da d.len dc] 31)).alloc (.cells #[.slice none 0 0] 31)).alloc (.cells (zF (d.len + 1)) 88)) ab fv rv Fs Rs d da dc 0 fv rv Fs Rs ∧ ZrF (((w.alloc (.cells #[.slice da d.len dc] 31)).alloc (.cells #[.slice none 0 0] 31)).alloc (.cells (zF (d.len + 1)) 88)) (w.heap.size + 2) 0 := by
  have hb : Below w.heap.size w (((w.alloc (.cells #[.slice da d.len dc] 31)).alloc (.cells #[.slice none 0 0] 31)).alloc (.cells (zF (d.len + 1)) 88)) := (((Below.refl _ _).alloc (Nat.le_refl _) _).alloc (by simp) _).alloc (by simp; omega) _
  have hz : (((w.alloc (.cells #[.slice da d.len dc] 31)).alloc (.cells #[.slice none 0 0] 31)).alloc (.cells (zF (d.len + 1)) 88)).heap.size = w.heap.size + 3 := by simp
  have hn : ∀ q, w.heap.size ≤ q → fv.ownBlock ≠ some q ∧ rv.ownBlock ≠ some q := fun q hq => ⟨fun e => by have := (h.o0.lt q e).2; omega, fun e => by have := (h.o1.lt q e).2; omega⟩
  have hlt := h.lt
  have fr : ∀ q, w.heap.size ≤ q → q < w.heap.size + 3 → Frb (((w.alloc (.cells #[.slice da d.len dc] 31)).alloc (.cells #[.slice none 0 0] 31)).alloc (.cells (zF (d.len + 1)) 88)) ab fv rv q := fun q h1 h2 => ⟨by omega, by omega, (hn q h1).1, (hn q h1).2⟩
  have hnew : ∀ m, (((w.alloc (.cells #[.slice da d.len dc] 31)).alloc (.cells #[.slice none 0 0] 31)).alloc (.cells (zF (d.len + 1)) 88)).cell? ⟨w.heap.size + 2, m, none⟩ = (zF (d.len + 1))[m]? := fun m => cellNew _ _ m _ _ (by simp)
  have hz' : ∀ j, j ≤ d.len → ZrF (((w.alloc (.cells #[.slice da d.len dc] 31)).alloc (.cells #[.slice none 0 0] 31)).alloc (.cells (zF (d.len + 1)) 88)) (w.heap.size + 2) j := fun j hj => by
    obtain ⟨z0, z1, z2, z3⟩ := zF_at (d.len + 1) j (by omega)
    exact ⟨(hnew _).trans z0, (hnew _).trans z1, (hnew _).trans z2, (hnew _).trans z3⟩
  refine ⟨⟨h.below hb.block hb.size, ChA.of_below hb, ?_, ?_, ?_, fr _ (by omega) (by omega), fr _ (by omega) (by omega), fr _ (by omega) (by omega), fun j hj => by omega, fun j _ hl => hz' j hl, fun m => ?_, fun x hx => .inl hx, fun x hx => .inl hx, fun x hx => (h.sF x hx).2.hi, fun x hx => ⟨(h.sR x hx).2.1.hi, (h.sR x hx).2.2.hi⟩⟩, hz' 0 (by omega)⟩
  · rw [World.cell?_alloc_lt _ _ _ (by simp; omega), World.cell?_alloc_lt _ _ _ (by simp)]; simp
  · rw [World.cell?_alloc_lt _ _ _ (by simp)]; exact cellNew _ _ 0 _ _ (by simp)
  · exact (World.frozen?_of_block (Below.heap_alloc _ _ _ (by simp))).trans (frNew _ _ 0 _ _ (by simp))
  · exact frNew _ _ m _ _ (by simp)
theorem FldC.wid {w : World} {A A' : Nat → Prop} {d : Dat} {g j : Nat} (h : FldC w A d g j) (hA : ∀ k, A k → A' k) : FldC w A' d g j := by
  obtain ⟨nm, li, tx, rows, a, c, e, h0, h1, h2, h3, h4, h5, h6⟩ := h
  exact ⟨nm, li, tx, rows, a, c, e, h0, h1, h2, h3, h4, h5, DatVA.mono (a := a) (d := rows) h6 hA (fun _ _ => rfl)⟩
/-- a row is copied: its answer is stored -/
theorem cp_row {w w1 w4 : World} {ab : Nat} {fv rv fv1 rv1 fv4 : Value} {Fs Fs1 : List (Nat × Nat)} {Rs Rs1 : List (Nat × Nat × Nat)} {d : Dat} {da : Option Addr} {dc : Nat} (h : RI w w1 ab fv rv Fs Rs d da dc d.len fv1 rv1 Fs1 Rs1)
    (hA : AgOK w4 ab fv4 rv1 (Fs1 ++ [(w.heap.size + 2, d.len)]) Rs1) (hC : ChA ab fv1 rv1 fv4 rv1 w1 w4) (hcnt : Fs1.length + Rs1.length + (d.drop d.len).bulk ≤ Fs.length + Rs.length + d.bulk) (v : Value) :
    CpRow w ab fv rv Fs Rs d (w.heap.size + 2) (w4.setCell ⟨w.heap.size + 1, 0, none⟩ v) := by
  obtain ⟨ag, ch, cr, cq, fq, b0, b1, b2, cp, zr, fz, nF, nR, oF, oR⟩ := h
  have fr : ∀ {B : Nat} q, Nw w4 ab fv4 rv1 B q → Nw (w4.setCell ⟨w.heap.size + 1, 0, none⟩ v) ab fv4 rv1 B q := fun q hq => ⟨⟨hq.1.lo, by simpa using hq.1.hi, hq.1.nf, hq.1.nr⟩, hq.2⟩
  have b1' := b1.step hC
  have hdat : DatAtA w1 (Nw w1 ab fv1 rv1 (w.heap.size + 2)) d (w.heap.size + 2) 0 := flds_all (fun j hj => (cp j hj).wid (fun q hq => hq.mono (by omega)))
  have hdat4 : DatAtA w4 (Nw w4 ab fv4 rv1 (w.heap.size + 2)) d (w.heap.size + 2) 0 := DatAtA.mono (fun q hq => hq.step hC) (fun q hq => hq.same hC) d _ 0 ⟨b2, Nat.le_refl _⟩ hdat
  refine ⟨fv4, rv1, Fs1 ++ [(w.heap.size + 2, d.len)], Rs1, hA.setFar _ _ _ (by have := b1.lo; omega) b1'.nf b1'.nr (fun x hx => ?_) (fun x hx => ?_), (ch.trans hC).setNew _ _ _ (by omega), by simp; omega, (fr _ ⟨b2.step hC, by omega⟩), ?_, fun x hx => ?_, fun x hx => ?_⟩
  · rcases List.mem_append.1 hx with q | q
    · rcases nF x q with q | q
      · have := oF x q; omega
      · omega
    · simp at q; subst q; simp
  · rcases nR x hx with q | q
    · have := oR x q; omega
    · omega
  · exact DatAtA.mono (A := Nw w4 ab fv4 rv1 (w.heap.size + 2)) (fun q hq => (fr q hq).mono (by omega)) (fun q hq => set_far w4 _ _ _ q (by have := hq.2; omega)) d _ 0 ⟨b2.step hC, Nat.le_refl _⟩ hdat4
  · rcases List.mem_append.1 hx with q | q
    · rcases nF x q with q | q
      · exact .inl q
      · right; omega
    · simp at q; subst q; right; simp
  · rcases nR x hx with q | q
    · exact .inl q
    · right; omega
set_option maxRecDepth 100000 in
set_option maxHeartbeats 4000000 in
theorem l28 (n : Nat) (hL : LstC n) : RowC (n + 1) := by
  intro d hdn hok w ab fv rv Fs Rs da dc hA hV hsum hbk
  obtain ⟨i0, hi, hz0, hz1, hz2⟩ := info_parts infoLF
  have hl : d.len ≤ 1048576 := Nat.le_trans (Dat.len_bulk _) hbk
  have M := fun wx : World => make29 wx (d.len + 1) (by omega)
  have hab := hA.lt
  have HL := hidS hL
  have HA := hidS hA
  have HV := hidS hV
  have HO := hidS hok
  clear hL hA hV hok
  have M' : ∀ wx : World, (Instr.makeSlice 29 (.int .i64 ((d.len : Int) + 1)) (.int .i64 ((d.len : Int) + 1))).run Tryz.prog wx = .ok (.slice (some ⟨wx.heap.size, 0, none⟩) (d.len + 1) (d.len + 1)) (wx.alloc (.cells (zF (d.len + 1)) 88)) := fun wx => by have := M wx; simpa using this
  clear M
  go_enter Tryz.func25, Tryz.ntmps25
  go_wp2
  obtain ⟨hRI, hZ⟩ := ri_start d da dc HA.out
  generalize hw3 : ((w.alloc (.cells #[.slice da d.len dc] 31)).alloc (.cells #[.slice none 0 0] 31)).alloc (.cells (zF (d.len + 1)) 88) = w3 at *
  have HRI := hidS hRI
  have HZ := hidS hZ
  clear hw3 hRI hZ M'
  go_loopw [7, 8] (fun iv _ wr => ∃ (k : Nat) (fv1 rv1 : Value) (Fs1 : List (Nat × Nat)) (Rs1 : List (Nat × Nat × Nat)), k ≤ d.len ∧ iv = .int .i64 k ∧ Fs1.length + Rs1.length + (d.drop k).bulk ≤ Fs.length + Rs.length + d.bulk ∧ Hid (RI w wr ab fv rv Fs Rs d da dc k fv1 rv1 Fs1 Rs1) ∧ Hid (ZrF wr (w.heap.size + 2) k)) (fun iv _ _ => d.len - (intOf iv).toNat)
  case atStart => exact ⟨0, fv, rv, Fs, Rs, Nat.zero_le _, rfl, by rw [Dat.drop_zero]; exact Nat.le_refl _, HRI.out, HZ.out⟩
  case round =>
    clear HRI HZ
    obtain ⟨k, fv1, rv1, Fs1, Rs1, hk, rfl, hcnt, HI, HZ⟩ := hrel
    by_cases hlt : k < d.len
    · have hV1 : DatV wr ab da d := DatV.mono HV.out (Nat.le_refl _) (fun q hq => HI.out.ch.block q (by omega) (by omega) (fun e => by have := (HA.out.o0.lt q e).1; omega) (fun e => by have := (HA.out.o1.lt q e).1; omega))
      rcases hV1 with h0 | ⟨b, off, hda, hbl, hat⟩
      · omega
      obtain ⟨nm, li, tx, rows, e1, ho1, hb1, s0, s1, s2, ra, rc, s3, l1, l2, hVr⟩ := DatAt.field d b off k HO.out hlt hat
      have cr := HI.out.cr
      subst hda
      obtain ⟨z0, z1, z2, z3⟩ := HZ.out
      have fz := HI.out.fz
      have q0 := fz (k * 4)
      have q1 := fz (k * 4 + 1)
      have q2 := fz (k * 4 + 2)
      have q3 := fz (k * 4 + 3)
      have hg := HI.out.b2.hi
      have hbne : b ≠ w.heap.size + 2 := by omega
      clear fz hat
      generalize hrl : rows.len = rl at *
      have HRL := hidS hrl
      clear hrl
      have hI4 := (((HI.out.set (k * 4) (.string nm) (by omega) (by omega)).set (k * 4 + 1) (.bool li) (by omega) (by omega)).set (k * 4 + 2) (.string tx) (by omega) (by omega)).set (k * 4 + 3) (.slice ra rl rc) (by omega) (by omega)
      have t0 : ((((wr.setCell ⟨w.heap.size + 2, k * 4, none⟩ (.string nm)).setCell ⟨w.heap.size + 2, k * 4 + 1, none⟩ (.bool li)).setCell ⟨w.heap.size + 2, k * 4 + 2, none⟩ (.string tx)).setCell ⟨w.heap.size + 2, k * 4 + 3, none⟩ (.slice ra rl rc)).cell? ⟨w.heap.size + 2, k * 4, none⟩ = some (.string nm) := (cellO _ _ _ _ _ (by omega)).trans ((cellO _ _ _ _ _ (by omega)).trans ((cellO _ _ _ _ _ (by omega)).trans (cellS _ z0)))
      have t1 : ((((wr.setCell ⟨w.heap.size + 2, k * 4, none⟩ (.string nm)).setCell ⟨w.heap.size + 2, k * 4 + 1, none⟩ (.bool li)).setCell ⟨w.heap.size + 2, k * 4 + 2, none⟩ (.string tx)).setCell ⟨w.heap.size + 2, k * 4 + 3, none⟩ (.slice ra rl rc)).cell? ⟨w.heap.size + 2, k * 4 + 1, none⟩ = some (.bool li) := (cellO _ _ _ _ _ (by omega)).trans ((cellO _ _ _ _ _ (by omega)).trans (cellS _ ((cellO _ _ _ _ _ (by omega)).trans z1)))
      have t2 : ((((wr.setCell ⟨w.heap.size + 2, k * 4, none⟩ (.string nm)).setCell ⟨w.heap.size + 2, k * 4 + 1, none⟩ (.bool li)).setCell ⟨w.heap.size + 2, k * 4 + 2, none⟩ (.string tx)).setCell ⟨w.heap.size + 2, k * 4 + 3, none⟩ (.slice ra rl rc)).cell? ⟨w.heap.size + 2, k * 4 + 2, none⟩ = some (.string tx) := (cellO _ _ _ _ _ (by omega)).trans (cellS _ ((cellO _ _ _ _ _ (by omega)).trans ((cellO _ _ _ _ _ (by omega)).trans z2)))
      have t3 : ((((wr.setCell ⟨w.heap.size + 2, k * 4, none⟩ (.string nm)).setCell ⟨w.heap.size + 2, k * 4 + 1, none⟩ (.bool li)).setCell ⟨w.heap.size + 2, k * 4 + 2, none⟩ (.string tx)).setCell ⟨w.heap.size + 2, k * 4 + 3, none⟩ (.slice ra rl rc)).cell? ⟨w.heap.size + 2, k * 4 + 3, none⟩ = some (.slice ra rl rc) := cellS _ ((cellO _ _ _ _ _ (by omega)).trans ((cellO _ _ _ _ _ (by omega)).trans ((cellO _ _ _ _ _ (by omega)).trans z3)))
      have hVr4 : DatV ((((wr.setCell ⟨w.heap.size + 2, k * 4, none⟩ (.string nm)).setCell ⟨w.heap.size + 2, k * 4 + 1, none⟩ (.bool li)).setCell ⟨w.heap.size + 2, k * 4 + 2, none⟩ (.string tx)).setCell ⟨w.heap.size + 2, k * 4 + 3, none⟩ (.slice ra rl rc)) ab ra rows := DatV.mono hVr (Nat.le_refl _) (fun q hq => by rw [set_far _ _ _ _ _ (by omega), set_far _ _ _ _ _ (by omega), set_far _ _ _ _ _ (by omega), set_far _ _ _ _ _ (by omega)])
      have hbd : (d.drop k).bulk = nm.size + tx.size + rows.bulk + (d.drop (k + 1)).bulk + 5 := by rw [e1]; rfl
      have hcall := HL.out rows (by omega) ho1 _ ab fv1 rv1 Fs1 Rs1 ra rc hI4.ag hVr4 (by omega) (by omega)
      rw [HRL.out] at hcall
      have Hcall := hidS hcall
      have HI4 := hidS hI4
      have HT0 := hidS t0
      have HT1 := hidS t1
      have HT2 := hidS t2
      have HT3 := hidS t3
      have HE1 := hidS e1
      clear hcall hI4 t0 t1 t2 t3 hVr4 hVr e1
      go_wp2_with fail
      refine Hcall.out.mono ?_
      clear Hcall
      rintro e w5 ⟨g5, rfl, fv5, rv5, Fs5, Rs5, hag5, hch5, hcn5, hnw5, hdt5, hnF5, hnR5⟩
      have hI5 := HI4.out.call hch5 hag5 hnF5 hnR5
      have HI5 := hidS hI5
      have hblk := HI4.out.b2.same hch5
      have u0 := (World.cell?_of_block (a := ⟨w.heap.size + 2, k * 4, none⟩) hblk).trans HT0.out
      have u1 := (World.cell?_of_block (a := ⟨w.heap.size + 2, k * 4 + 1, none⟩) hblk).trans HT1.out
      have u2 := (World.cell?_of_block (a := ⟨w.heap.size + 2, k * 4 + 2, none⟩) hblk).trans HT2.out
      have u3 := (World.cell?_of_block (a := ⟨w.heap.size + 2, k * 4 + 3, none⟩) hblk).trans HT3.out
      have y3 := hI5.fz (k * 4 + 3)
      have hsz4 : w.heap.size + 3 ≤ ((((wr.setCell ⟨w.heap.size + 2, k * 4, none⟩ (.string nm)).setCell ⟨w.heap.size + 2, k * 4 + 1, none⟩ (.bool li)).setCell ⟨w.heap.size + 2, k * 4 + 2, none⟩ (.string tx)).setCell ⟨w.heap.size + 2, k * 4 + 3, none⟩ (.slice ra rl rc)).heap.size := by simp; omega
      have hrl5 : rl ≤ 1048576 := by rw [← HRL.out]; exact Nat.le_trans (Dat.len_bulk _) (by omega)
      have hI6 := hI5.set (k * 4 + 3) (.slice (some ⟨g5, 0, none⟩) rl (rl + 1)) (by omega) (by omega)
      have hfld : FldC (w5.setCell ⟨w.heap.size + 2, k * 4 + 3, none⟩ (.slice (some ⟨g5, 0, none⟩) rl (rl + 1))) (Nw (w5.setCell ⟨w.heap.size + 2, k * 4 + 3, none⟩ (.slice (some ⟨g5, 0, none⟩) rl (rl + 1))) ab fv5 rv5 (w.heap.size + 3)) d (w.heap.size + 2) k := by
        refine ⟨nm, li, tx, rows, some ⟨g5, 0, none⟩, rl + 1, HE1.out, (cellO _ _ _ _ _ (by omega)).trans u0, (cellO _ _ _ _ _ (by omega)).trans u1, (cellO _ _ _ _ _ (by omega)).trans u2, by rw [HRL.out]; exact cellS _ u3, by rw [HRL.out]; omega, by unfold maxLen; omega, ?_⟩
        have fr : ∀ q, Nw w5 ab fv5 rv5 ((((wr.setCell ⟨w.heap.size + 2, k * 4, none⟩ (.string nm)).setCell ⟨w.heap.size + 2, k * 4 + 1, none⟩ (.bool li)).setCell ⟨w.heap.size + 2, k * 4 + 2, none⟩ (.string tx)).setCell ⟨w.heap.size + 2, k * 4 + 3, none⟩ (.slice ra rl rc)).heap.size q → Nw (w5.setCell ⟨w.heap.size + 2, k * 4 + 3, none⟩ (.slice (some ⟨g5, 0, none⟩) rl (rl + 1))) ab fv5 rv5 (w.heap.size + 3) q :=
          fun q hq => ⟨⟨hq.1.lo, by simpa using hq.1.hi, hq.1.nf, hq.1.nr⟩, Nat.le_trans hsz4 hq.2⟩
        exact .inr ⟨g5, 0, rfl, fr _ hnw5, DatAtA.mono fr (fun q hq => set_far w5 _ _ _ q (by have := Nat.le_trans hsz4 hq.2; omega)) rows g5 0 hnw5 hdt5⟩
      have HI7 := hidS (hI6.next hfld)
      have HZ7 := hidS (hI6.zr (k + 1) (by omega) (by omega))
      have hz5 := hI5.b2.hi
      clear hI5 hI6 hfld hag5 hch5 hnw5 hdt5 hnF5 hnR5 hblk u0 u1 u2 hsz4 z0 z1 z2 z3 q0 q1 q2 q3 s0 s1 s2 s3 cr
      go_wp2
      exact ⟨⟨k + 1, fv5, rv5, Fs5, Rs5, by omega, by go_num, by omega, HI7.out, HZ7.out⟩, by simp [intOf]; omega⟩
    · obtain rfl : k = d.len := by omega
      obtain ⟨z0, z1, z2, z3⟩ := HZ.out
      have q0 := HI.out.fz (d.len * 4)
      have hI1 := HI.out.set (d.len * 4) (.string sprB) (by omega) (by omega)
      have hSp : SpF (wr.setCell ⟨w.heap.size + 2, d.len * 4, none⟩ (.string sprB)) (w.heap.size + 2, d.len) := ⟨cellS _ z0, (cellO _ _ _ _ _ (by omega)).trans z1, (cellO _ _ _ _ _ (by omega)).trans z2, (cellO _ _ _ _ _ (by omega)).trans z3, hl⟩
      have hg := HI.out.b2.hi
      have hg1 := HI.out.b1.hi
      obtain ⟨fa, fc, rfl⟩ := ownT_form hI1.ag.o0
      have c0 := HI.out.ag.c0
      have y0 := HI.out.ag.z0
      have o0 : (wr.setCell ⟨w.heap.size + 1 + 1, d.len * 4, none⟩ (.string ⟨#[115, 112, 97, 114, 101]⟩)).ownsRow (ab + 1) 29 1 (.slice fa Fs1.length fc) Fs1.length (Fs1.map slF) := hI1.ag.o0
      have hpl := HI.out.ag.lt
      have HI1 := hidS hI1
      have HSp := hidS hSp
      have hneA : some ab ≠ (Value.slice fa Fs1.length fc).ownBlock := fun e => by have := (o0.lt _ e.symm).1; omega
      have hneQ : some (w.heap.size + 1) ≠ (Value.slice fa Fs1.length fc).ownBlock := fun e => HI1.out.b1.nf e.symm
      have hgab : ab < w.heap.size + 2 := by omega
      clear hI1 hSp z1 z2 z3
      have hFl : Fs1.length ≤ 2000000 := by omega
      go_wp2_with (at_builtin; refine wpList_append_lies _ rfl _ _ 57 rfl (ab + 1) 29 i0 (.slice none 0 0) 1 24 Tryz.underlying57 hi hz0 hz1 hz2 rfl (by decide) _ _ _ rfl (own_keep (o0.alloc _) (fun _ _ => rfl)) ⟨wr.heap.size, 0, none⟩ 1 1 [.slice (some ⟨w.heap.size + 1 + 1, 0, none⟩) (d.len + 1) (d.len + 1)] rfl rfl ?c1 ?c2 (by decide) ?c3 ?c4 ?c5 _ rfl ?_)
      case c1 => exact lst_cells (wr.setCell ⟨w.heap.size + 1 + 1, d.len * 4, none⟩ (.string ⟨#[115, 112, 97, 114, 101]⟩)) _ _ _ (by simp)
      case c2 => exact row_oneL _ _ _
      case c3 => unfold maxLen; omega
      case c4 => omega
      case c5 => simp; omega
      intro g cap w3 hown3 hg3 hat3 hlt3
      have hsz3 : (wr.setCell ⟨w.heap.size + 2, d.len * 4, none⟩ (.string sprB)).heap.size ≤ w3.heap.size := by have := hg3.size; simp at this ⊢; omega
      have hblk3 : ∀ q, q < (wr.setCell ⟨w.heap.size + 2, d.len * 4, none⟩ (.string sprB)).heap.size → some q ≠ (Value.slice fa Fs1.length fc).ownBlock → w3.heap[q]? = (wr.setCell ⟨w.heap.size + 2, d.len * 4, none⟩ (.string sprB)).heap[q]? := fun q h1 h2 => (hg3.block q (by simp at h1 ⊢; omega) h2).trans (Below.heap_alloc _ _ _ h1)
      obtain ⟨hA4, hC4⟩ := ag_pushF (w := wr.setCell ⟨w.heap.size + 2, d.len * 4, none⟩ (.string sprB)) (w1 := w3) (x := (w.heap.size + 2, d.len)) HI1.out.ag hg3.os hg3.tape hg3.output hsz3 hblk3 hown3 (by rcases hat3 with h1 | h1; exact .inl h1; right; simp; omega) HSp.out HI1.out.b2
      have hab3 := hblk3 ab (by simp; omega) hneA
      have hq3 := hblk3 (w.heap.size + 1) (by simp; omega) hneQ
      have v1 : w3.cell? ⟨ab, 0, none⟩ = some (.slice fa Fs1.length fc) := (World.cell?_of_block hab3).trans HI1.out.ag.c0
      have v2 : w3.frozen? ⟨ab, 0, none⟩ = false := (World.frozen?_of_block hab3).trans HI1.out.ag.z0
      have v3 : w3.cell? ⟨w.heap.size + 1, 0, none⟩ = some (.slice none 0 0) := (World.cell?_of_block hq3).trans HI1.out.cq
      have v4 : w3.frozen? ⟨w.heap.size + 1, 0, none⟩ = false := (World.frozen?_of_block hq3).trans HI1.out.fq
      have HA4 := hidS hA4
      have HC4 := hidS hC4
      clear hown3 hg3 hat3 hA4 hC4 hblk3 hab3 hq3 o0 c0 y0 q0 z0 hneA hneQ
      go_wp2
      refine bodyPost_ret (v := .agg #[.slice (some ⟨w.heap.size + 1 + 1, 0, none⟩) d.len (d.len + 1)]) (by simp [results, Tryz.results25, go_sem, v3]) rfl ⟨w.heap.size + 2, rfl, ?_⟩
      exact cp_row HI1.out HA4.out HC4.out hcnt _
end Go.Proofs.YtffkejkgkgfnhabGreat
