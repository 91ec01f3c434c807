import Derived.Test.YtffkejkgkgfnhaaGreatG01
import Derived.Test.YtffkejkgkgfnhaaGreatG09
import Derived.Test.YtffkejkgkgfnhaaGreatG15
import Derived.Test.YtffkejkgkgfnhaaGreatG03
import Derived.Test.YtffkejkgkgfnhaaGreatG02
import Derived.Test.YtffkejkgkgfnhaaGreatG17
import Derived.Test.YtffkejkgkgfnhaaGreatG20
namespace Go.Proofs.YtffkejkgkgfnhaaGreat
open Go.ChangeShapes Go.WideShapes Go.ChangeAt Go.RowKit Go.Deep
set_option linter.unusedVariables false
/-! ### Data: first child, next sibling -/
inductive Dat where
  | nil
  | fld (nm : ByteArray) (li : Bool) (tx : ByteArray) (rows next : Dat)
  | row (fields next : Dat)
def Dat.len : Dat → Nat
  | .nil => 0
  | .fld _ _ _ _ r => r.len + 1
  | .row _ r => r.len + 1
/-- true: rows; false: fields -/
def Dat.ok : Bool → Dat → Prop
  | _, .nil => True
  | false, .fld _ _ _ rows r => Dat.ok true rows ∧ Dat.ok false r
  | true, .row f r => Dat.ok false f ∧ Dat.ok true r
  | true, .fld _ _ _ _ _ => False
  | false, .row _ _ => False
def Dat.bulk : Dat → Nat
  | .nil => 0
  | .fld nm _ tx rows r => nm.size + tx.size + rows.bulk + r.bulk + 5
  | .row f r => f.bulk + r.bulk + 2
def Dat.cells : Dat → Nat
  | .nil => 0
  | .fld _ _ _ _ _ => 4
  | .row _ _ => 1
def DatW (A : Nat → Prop) (a : Option Addr) (n : Nat) (R : Nat → Nat → Prop) : Prop := n = 0 ∨ ∃ b off, a = some ⟨b, off, none⟩ ∧ A b ∧ R b off
/-- a list from a place of a block on; A: the blocks that it leads to -/
def DatAtA (w : World) (A : Nat → Prop) : Dat → Nat → Nat → Prop
  | .nil => fun _ _ => True
  | .fld nm li tx rows r => fun b off => w.cell? ⟨b, off, none⟩ = some (.string nm) ∧ w.cell? ⟨b, off + 1, none⟩ = some (.bool li) ∧ w.cell? ⟨b, off + 2, none⟩ = some (.string tx) ∧
      (∃ a c, w.cell? ⟨b, off + 3, none⟩ = some (.slice a rows.len c) ∧ rows.len ≤ c ∧ c ≤ maxLen ∧ DatW A a rows.len (DatAtA w A rows)) ∧ DatAtA w A r b (off + 4)
  | .row f r => fun b off => (∃ a c, w.cell? ⟨b, off, none⟩ = some (.slice a f.len c) ∧ f.len ≤ c ∧ c ≤ maxLen ∧ DatW A a f.len (DatAtA w A f)) ∧ DatAtA w A r b (off + 1)
abbrev DatAt (w : World) (N : Nat) : Dat → Nat → Nat → Prop := DatAtA w (fun k => k < N)
/-- what a list's address leads to -/
def DatVA (w : World) (A : Nat → Prop) (a : Option Addr) (d : Dat) : Prop := DatW A a d.len (DatAtA w A d)
abbrev DatV (w : World) (N : Nat) (a : Option Addr) (d : Dat) : Prop := DatVA w (fun k => k < N) a d
theorem DatAtA.mono {w w' : World} {A A' : Nat → Prop} (hA : ∀ k, A k → A' k) (hw : ∀ k, A k → w'.heap[k]? = w.heap[k]?) : ∀ (d : Dat) (b off : Nat), A b → DatAtA w A d b off → DatAtA w' A' d b off
  | .nil, b, off, hb, h => trivial
  | .fld nm li tx rows r, b, off, hb, h => by
    obtain ⟨h0, h1, h2, ⟨a, c, h3, hl, hc, hd⟩, h4⟩ := h
    have e := hw b hb
    refine ⟨(World.cell?_of_block e).trans h0, (World.cell?_of_block e).trans h1, (World.cell?_of_block e).trans h2, ⟨a, c, (World.cell?_of_block e).trans h3, hl, hc, ?_⟩, DatAtA.mono hA hw r b (off + 4) hb h4⟩
    rcases hd with h | ⟨b', off', ha, hb', hd⟩
    · exact .inl h
    · exact .inr ⟨b', off', ha, hA _ hb', DatAtA.mono hA hw rows b' off' hb' hd⟩
  | .row f r, b, off, hb, h => by
    obtain ⟨⟨a, c, h3, hl, hc, hd⟩, h4⟩ := h
    have e := hw b hb
    refine ⟨⟨a, c, (World.cell?_of_block e).trans h3, hl, hc, ?_⟩, DatAtA.mono hA hw r b (off + 1) hb h4⟩
    rcases hd with h | ⟨b', off', ha, hb', hd⟩
    · exact .inl h
    · exact .inr ⟨b', off', ha, hA _ hb', DatAtA.mono hA hw f b' off' hb' hd⟩
theorem DatVA.mono {w w' : World} {A A' : Nat → Prop} {a : Option Addr} {d : Dat} (h : DatVA w A a d) (hA : ∀ k, A k → A' k) (hw : ∀ k, A k → w'.heap[k]? = w.heap[k]?) : DatVA w' A' a d := by
  rcases h with h | ⟨b', off', ha, hb', hd⟩
  · exact .inl h
  · exact .inr ⟨b', off', ha, hA _ hb', DatAtA.mono hA hw d b' off' hb' hd⟩
theorem DatV.mono {w w' : World} {N N' : Nat} {a : Option Addr} {d : Dat} (h : DatV w N a d) (hN : N ≤ N') (hw : ∀ k, k < N → w'.heap[k]? = w.heap[k]?) : DatV w' N' a d :=
  DatVA.mono (A' := fun k => k < N') h (fun k hk => Nat.lt_of_lt_of_le hk hN) hw
theorem DatV.below {w w' : World} {N : Nat} {a : Option Addr} {d : Dat} (h : DatV w N a d) (hb : Below N w w') : DatV w' N a d := DatV.mono h (Nat.le_refl _) (fun k hk => hb.block k hk)
def Dat.drop : Dat → Nat → Dat
  | d, 0 => d
  | .nil, _ + 1 => .nil
  | .fld _ _ _ _ r, i + 1 => r.drop i
  | .row _ r, i + 1 => r.drop i
theorem Dat.drop_zero (d : Dat) : d.drop 0 = d := by cases d <;> rfl
theorem Dat.len_zero {d : Dat} (h : d.len = 0) : d = .nil := by cases d <;> simp_all [Dat.len]
theorem Dat.drop_end : ∀ (d : Dat) (i : Nat), d.len ≤ i → d.drop i = .nil
  | d, 0, h => by rw [Dat.drop_zero]; exact Dat.len_zero (by omega)
  | .nil, i + 1, _ => rfl
  | .fld _ _ _ _ r, i + 1, h => Dat.drop_end r i (by simp [Dat.len] at h; omega)
  | .row _ r, i + 1, h => Dat.drop_end r i (by simp [Dat.len] at h; omega)
/-- the i-th field of a list of fields -/
theorem DatAt.field {w : World} {A : Nat → Prop} : ∀ (d : Dat) (b off i : Nat), d.ok false → i < d.len → DatAtA w A d b off →
    ∃ nm li tx rows, d.drop i = .fld nm li tx rows (d.drop (i + 1)) ∧ rows.ok true ∧ (rows.bulk + nm.size + tx.size < d.bulk) ∧ w.cell? ⟨b, off + i * 4, none⟩ = some (.string nm) ∧ w.cell? ⟨b, off + i * 4 + 1, none⟩ = some (.bool li) ∧ w.cell? ⟨b, off + i * 4 + 2, none⟩ = some (.string tx) ∧
      ∃ a c, w.cell? ⟨b, off + i * 4 + 3, none⟩ = some (.slice a rows.len c) ∧ rows.len ≤ c ∧ c ≤ maxLen ∧ DatVA w A a rows
  | .nil, b, off, i, _, hi, _ => absurd hi (by simp [Dat.len])
  | .row _ _, b, off, i, ho, _, _ => ho.elim
  | .fld nm li tx rows r, b, off, 0, ho, hi, h => by
    obtain ⟨h0, h1, h2, h3, h4⟩ := h
    exact ⟨nm, li, tx, rows, by simp [Dat.drop, Dat.drop_zero], ho.1, by simp only [Dat.bulk]; omega, by simpa using h0, by simpa using h1, by simpa using h2, by rw [Nat.zero_mul, Nat.add_zero]; exact h3⟩
  | .fld nm li tx rows r, b, off, i + 1, ho, hi, h => by
    obtain ⟨h0, h1, h2, h3, h4⟩ := h
    obtain ⟨nm', li', tx', rows', e, k1, kb, k2, k3, k4, k5⟩ := DatAt.field r b (off + 4) i ho.2 (by simp [Dat.len] at hi; omega) h4
    have ee : off + 4 + i * 4 = off + (i + 1) * 4 := by omega
    rw [ee] at k2 k3 k4 k5
    exact ⟨nm', li', tx', rows', e, k1, by simp only [Dat.bulk]; omega, k2, k3, k4, k5⟩
theorem DatAt.rowAt {w : World} {A : Nat → Prop} : ∀ (d : Dat) (b off i : Nat), d.ok true → i < d.len → DatAtA w A d b off →
    ∃ f, d.drop i = .row f (d.drop (i + 1)) ∧ f.ok false ∧ f.bulk < d.bulk ∧ ∃ a c, w.cell? ⟨b, off + i, none⟩ = some (.slice a f.len c) ∧ f.len ≤ c ∧ c ≤ maxLen ∧ DatVA w A a f
  | .nil, b, off, i, _, hi, _ => absurd hi (by simp [Dat.len])
  | .fld _ _ _ _ _, b, off, i, ho, _, _ => ho.elim
  | .row f r, b, off, 0, ho, hi, h => by
    obtain ⟨h3, h4⟩ := h
    exact ⟨f, by simp [Dat.drop, Dat.drop_zero], ho.1, by simp only [Dat.bulk]; omega, by rw [Nat.add_zero]; exact h3⟩
  | .row f r, b, off, i + 1, ho, hi, h => by
    obtain ⟨h3, h4⟩ := h
    obtain ⟨f', e, k1, kb, k2⟩ := DatAt.rowAt r b (off + 1) i ho.2 (by simp [Dat.len] at hi; omega) h4
    have ee : off + 1 + i = off + (i + 1) := by omega
    rw [ee] at k2
    exact ⟨f', e, k1, by simp only [Dat.bulk]; omega, k2⟩
theorem Dat.len_bulk : ∀ d : Dat, d.len ≤ d.bulk
  | .nil => Nat.le_refl _
  | .fld _ _ _ _ r => by have := Dat.len_bulk r; simp only [Dat.len, Dat.bulk]; omega
  | .row _ r => by have := Dat.len_bulk r; simp only [Dat.len, Dat.bulk]; omega
end Go.Proofs.YtffkejkgkgfnhaaGreat
/-
  THE PLAIN MATHEMATICS OF PAGES: what a page is, by its pieces and its data. No Go.
-/
namespace Go.Proofs.YtffkejkgkgfnhaaGreat
open Go.RowKit
set_option linter.unusedVariables false
structure Pst where
  out : ByteArray
  steps : Nat
  err : Int
def ctxO (o : ByteArray) : Int := scn 0 o.data.toList
def byt (b : UInt8) : ByteArray := ⟨#[b]⟩
def txtF (tr : Bool) : List UInt8 → Pst → Pst
  | [], st => st
  | b :: r, st => if 2000 ≤ st.out.size then { st with err := 13 } else if tr = true ∧ ctxO (st.out ++ byt b) = -1 then { st with out := st.out ++ byt b, err := 9 } else txtF tr r { st with out := st.out ++ byt b }
def escB (x : Int) (t : ByteArray) : ByteArray := strOfNums (escL x t.data.toList)
def holF (t : ByteArray) (st : Pst) : Pst :=
  if opB (ctxO st.out) = true then (if 2000 < st.out.size + (escB (ctxO st.out) t).size then { st with err := 13 } else { st with out := st.out ++ escB (ctxO st.out) t }) else { st with err := 10 }
def Dat.fnd (nm : ByteArray) : Dat → Option (ByteArray × Bool × ByteArray × Dat)
  | .fld n l t rows r => if nmEq n nm = true then some (n, l, t, rows) else r.fnd nm
  | _ => none
/-- the rows one is in, the innermost last -/
def lkp (nm : ByteArray) (R : List Dat) : Option (ByteArray × Bool × ByteArray × Dat) := R.reverse.findSome? (Dat.fnd nm)
def lopF (B : Nds → List Dat → Pst → Pst) (th : Nds) (R : List Dat) : Dat → Pst → Pst
  | .row f r, st => if st.err ≠ 0 then st else if 500 ≤ st.steps then { st with err := 12 } else lopF B th R r (B th (R ++ [f]) { st with steps := st.steps + 1 })
  | _, st => st
def yesF (l : Bool) (t : ByteArray) (rows : Dat) : Bool := if l = true then decide (0 < rows.len) else decide (0 < t.size)
def fldF (B : Nds → List Dat → Pst → Pst) (R : List Dat) (k : Int) (th el : Nds) (x : ByteArray × Bool × ByteArray × Dat) (st : Pst) : Pst :=
  if k = 2 then (if x.2.1 = true then { st with err := 8 } else holF x.2.2.1 st)
  else if k = 3 then (if yesF x.2.1 x.2.2.1 x.2.2.2 = true then B th R st else B el R st)
  else if k = 4 then (if x.2.1 = true then lopF B th R x.2.2.2 st else { st with err := 8 })
  else st
def insF (B : Nds → List Dat → Pst → Pst) (ts : List Tm) (R : List Dat) (k : Int) (nm : ByteArray) (th el : Nds) (st : Pst) : Pst :=
  if k = 5 then B (bod ts (tno ts nm)) R st else match lkp nm R with
    | none => { st with err := 7 }
    | some x => fldF B R k th el x st
def pceF (B : Nds → List Dat → Pst → Pst) (ts : List Tm) (R : List Dat) (k : Int) (nm : ByteArray) (th el : Nds) (st : Pst) : Pst :=
  if 500 ≤ st.steps then { st with err := 12 } else insF B ts R k nm th el { st with steps := st.steps + 1 }
def bdyF (B : Nds → List Dat → Pst → Pst) (ts : List Tm) (tr : Bool) (R : List Dat) : Nds → Pst → Pst
  | .nil, st => st
  | .cons k _ nm th el _ r, st => if st.err ≠ 0 then st else bdyF B ts tr R r (if k = 1 then txtF tr nm.data.toList st else pceF B ts R k nm th el st)
/-- n: no fewer than the steps that are left -/
def pagF (ts : List Tm) (tr : Bool) : Nat → Nds → List Dat → Pst → Pst
  | 0 => fun b R st => bdyF (fun _ _ s => s) ts tr R b st
  | n + 1 => fun b R st => bdyF (pagF ts tr n) ts tr R b st
def subF (ts : List Tm) (tr : Bool) : Nat → Nds → List Dat → Pst → Pst
  | 0 => fun _ _ s => s
  | n + 1 => pagF ts tr n
theorem pagF_eq (ts : List Tm) (tr : Bool) (n : Nat) (b : Nds) (R : List Dat) (st : Pst) : pagF ts tr n b R st = bdyF (subF ts tr n) ts tr R b st := by cases n <;> rfl
def RisB (B : Nds → List Dat → Pst → Pst) : Prop := ∀ b R st, st.steps ≤ (B b R st).steps
theorem txtF_steps (tr : Bool) (l : List UInt8) (st : Pst) : (txtF tr l st).steps = st.steps := by
  induction l generalizing st with
  | nil => rfl
  | cons b r ih =>
    simp only [txtF]
    (repeat' split) <;> simp [ih]
theorem holF_steps (t : ByteArray) (st : Pst) : (holF t st).steps = st.steps := by
  unfold holF
  (repeat' split) <;> rfl
theorem lopF_steps (B : Nds → List Dat → Pst → Pst) (th : Nds) (R : List Dat) (hB : RisB B) : ∀ (d : Dat) (st : Pst), st.steps ≤ (lopF B th R d st).steps
  | .nil, st => Nat.le_refl _
  | .fld _ _ _ _ _, st => Nat.le_refl _
  | .row f r, st => by
    simp only [lopF]
    split
    · exact Nat.le_refl _
    · split
      · exact Nat.le_refl _
      · have h1 := lopF_steps B th R hB r (B th (R ++ [f]) { st with steps := st.steps + 1 })
        have h2 := hB th (R ++ [f]) { st with steps := st.steps + 1 }
        simp only at h2
        omega
theorem pceF_steps (B : Nds → List Dat → Pst → Pst) (ts : List Tm) (R : List Dat) (hB : RisB B) (k : Int) (nm : ByteArray) (th el : Nds) (st : Pst) : st.steps ≤ (pceF B ts R k nm th el st).steps := by
  unfold pceF
  split
  · exact Nat.le_refl _
  · unfold insF
    split
    · have := hB (bod ts (tno ts nm)) R { st with steps := st.steps + 1 }
      simp only at this; omega
    · split
      · simp
      · unfold fldF
        have h1 := hB th R { st with steps := st.steps + 1 }
        have h2 := hB el R { st with steps := st.steps + 1 }
        rename_i x _
        have h3 := lopF_steps B th R hB x.2.2.2 { st with steps := st.steps + 1 }
        have h4 := holF_steps x.2.2.1 { st with steps := st.steps + 1 }
        simp only at h1 h2 h3 h4
        (repeat' split) <;> first | omega | (simp only; omega)
theorem bdyF_steps (B : Nds → List Dat → Pst → Pst) (ts : List Tm) (tr : Bool) (R : List Dat) (hB : RisB B) : ∀ (b : Nds) (st : Pst), st.steps ≤ (bdyF B ts tr R b st).steps
  | .nil, st => Nat.le_refl _
  | .cons k a nm th el tw r, st => by
    simp only [bdyF]
    split
    · exact Nat.le_refl _
    · refine Nat.le_trans ?_ (bdyF_steps B ts tr R hB r _)
      split
      · rw [txtF_steps]; exact Nat.le_refl _
      · exact pceF_steps B ts R hB k nm th el st
theorem pagF_steps (ts : List Tm) (tr : Bool) (n : Nat) : RisB (pagF ts tr n) := by
  induction n with
  | zero => intro b R st; exact bdyF_steps _ ts tr R (fun _ _ _ => Nat.le_refl _) b st
  | succ n ih => intro b R st; exact bdyF_steps _ ts tr R ih b st
theorem subF_steps (ts : List Tm) (tr : Bool) (n : Nat) : RisB (subF ts tr n) := by
  cases n with
  | zero => intro b R st; exact Nat.le_refl _
  | succ n => exact pagF_steps ts tr n
/-- no more than may be -/
def Fit (st : Pst) : Prop := st.out.size ≤ 2000 ∧ st.steps ≤ 500
theorem byt_size (b : UInt8) : (byt b).size = 1 := rfl
theorem txtF_fit (tr : Bool) (l : List UInt8) (st : Pst) (h : Fit st) : Fit (txtF tr l st) := by
  induction l generalizing st with
  | nil => exact h
  | cons b r ih =>
    simp only [txtF]
    obtain ⟨h1, h2⟩ := h
    split
    · exact ⟨h1, h2⟩
    · have e : (st.out ++ byt b).size ≤ 2000 := by rw [ByteArray.size_append, byt_size]; omega
      split
      · exact ⟨e, h2⟩
      · exact ih _ ⟨e, h2⟩
theorem holF_fit (t : ByteArray) (st : Pst) (h : Fit st) : Fit (holF t st) := by
  obtain ⟨h1, h2⟩ := h
  unfold holF
  split
  · split
    · exact ⟨h1, h2⟩
    · refine ⟨?_, h2⟩
      simp only [ByteArray.size_append]; omega
  · exact ⟨h1, h2⟩
def FitB (B : Nds → List Dat → Pst → Pst) : Prop := ∀ b R st, Fit st → Fit (B b R st)
theorem lopF_fit (B : Nds → List Dat → Pst → Pst) (th : Nds) (R : List Dat) (hB : FitB B) : ∀ (d : Dat) (st : Pst), Fit st → Fit (lopF B th R d st)
  | .nil, st, h => h
  | .fld _ _ _ _ _, st, h => h
  | .row f r, st, h => by
    simp only [lopF]
    split
    · exact h
    · split
      · exact h
      · exact lopF_fit B th R hB r _ (hB _ _ _ ⟨h.1, by simp only; omega⟩)
theorem pceF_fit (B : Nds → List Dat → Pst → Pst) (ts : List Tm) (R : List Dat) (hB : FitB B) (k : Int) (nm : ByteArray) (th el : Nds) (st : Pst) (h : Fit st) : Fit (pceF B ts R k nm th el st) := by
  unfold pceF
  split
  · exact h
  · have h' : Fit { st with steps := st.steps + 1 } := ⟨h.1, by simp only; omega⟩
    unfold insF
    split
    · exact hB _ _ _ h'
    · split
      · exact h'
      · unfold fldF
        split
        · split
          · exact h'
          · exact holF_fit _ _ h'
        · split
          · split
            · exact hB _ _ _ h'
            · exact hB _ _ _ h'
          · split
            · split
              · exact lopF_fit B th R hB _ _ h'
              · exact h'
            · exact h'
theorem bdyF_fit (B : Nds → List Dat → Pst → Pst) (ts : List Tm) (tr : Bool) (R : List Dat) (hB : FitB B) : ∀ (b : Nds) (st : Pst), Fit st → Fit (bdyF B ts tr R b st)
  | .nil, st, h => h
  | .cons k a nm th el tw r, st, h => by
    simp only [bdyF]
    split
    · exact h
    · refine bdyF_fit B ts tr R hB r _ ?_
      split
      · exact txtF_fit _ _ _ h
      · exact pceF_fit B ts R hB k nm th el st h
theorem pagF_fit (ts : List Tm) (tr : Bool) (n : Nat) : FitB (pagF ts tr n) := by
  induction n with
  | zero => intro b R st h; exact bdyF_fit _ ts tr R (fun _ _ _ h => h) b st h
  | succ n ih => intro b R st h; exact bdyF_fit _ ts tr R ih b st h
theorem subF_fit (ts : List Tm) (tr : Bool) (n : Nat) : FitB (subF ts tr n) := by
  cases n with
  | zero => intro b R st h; exact h
  | succ n => exact pagF_fit ts tr n
end Go.Proofs.YtffkejkgkgfnhaaGreat
namespace Go.Proofs.YtffkejkgkgfnhaaGreat
open Go.RowKit
set_option linter.unusedVariables false
def EnvOK (w : World) (N : Nat) : List Dat → List Value → Prop
  | [], xs => xs = []
  | d :: R, xs => ∃ (a : Option Addr) (c : Nat) (ys : List Value), xs = .slice a d.len c :: ys ∧ DatV w N a d ∧ d.ok false ∧ d.bulk ≤ 1048576 ∧ d.len ≤ c ∧ c ≤ maxLen ∧ EnvOK w N R ys
theorem EnvOK.mono {w w' : World} {N : Nat} (hw : ∀ k, k < N → w'.heap[k]? = w.heap[k]?) : ∀ (R : List Dat) (xs : List Value), EnvOK w N R xs → EnvOK w' N R xs
  | [], xs, h => h
  | d :: R, xs, h => by
    obtain ⟨a, c, ys, h1, h2, h3, h4, h5, h6, h7⟩ := h
    exact ⟨a, c, ys, h1, h2.mono (Nat.le_refl _) hw, h3, h4, h5, h6, EnvOK.mono hw R ys h7⟩
theorem EnvOK.snoc {w : World} {N : Nat} {d : Dat} {a : Option Addr} {c : Nat} (h1 : DatV w N a d) (h2 : d.ok false) (h3 : d.bulk ≤ 1048576) (h4 : d.len ≤ c) (h5 : c ≤ maxLen) : ∀ (R : List Dat) (xs : List Value), EnvOK w N R xs → EnvOK w N (R ++ [d]) (xs ++ [.slice a d.len c])
  | [], xs, h => by
    have h' : xs = [] := h
    subst h'
    exact ⟨a, c, [], rfl, h1, h2, h3, h4, h5, rfl⟩
  | e :: R, xs, h => by
    obtain ⟨a', c', ys, rfl, k2, k3, k4, k5, k6, k7⟩ := h
    exact ⟨a', c', ys ++ [.slice a d.len c], rfl, k2, k3, k4, k5, k6, EnvOK.snoc h1 h2 h3 h4 h5 R ys k7⟩
theorem EnvOK.length {w : World} {N : Nat} : ∀ (R : List Dat) (xs : List Value), EnvOK w N R xs → xs.length = R.length
  | [], xs, h => by
    have h' : xs = [] := h
    subst h'; rfl
  | d :: R, xs, h => by
    obtain ⟨a, c, ys, rfl, _, _, _, _, _, h7⟩ := h
    simp [EnvOK.length R ys h7]
theorem EnvOK.at {w : World} {N : Nat} : ∀ (R : List Dat) (xs : List Value) (i : Nat) (hi : i < R.length), EnvOK w N R xs → ∃ a c, xs[i]? = some (.slice a R[i].len c) ∧ DatV w N a R[i] ∧ R[i].ok false ∧ R[i].bulk ≤ 1048576 ∧ R[i].len ≤ c ∧ c ≤ maxLen
  | [], xs, i, hi, h => absurd hi (by simp)
  | d :: R, xs, 0, hi, h => by
    obtain ⟨a, c, ys, rfl, h2, h3, h4, h5, h6, h7⟩ := h
    exact ⟨a, c, rfl, h2, h3, h4, h5, h6⟩
  | d :: R, xs, i + 1, hi, h => by
    obtain ⟨a, c, ys, rfl, h2, h3, h4, h5, h6, h7⟩ := h
    exact EnvOK.at R ys i (by simpa using hi) h7
structure PgP where
  (pb N : Nat)
  la : Option Addr
  lc : Nat
  ts : List Tm
  tr : Bool
structure PgOK (w : World) (p : PgP) (ra : Option Addr) (rc : Nat) (R : List Dat) (st : Pst) : Prop where
  c0 : w.cell? ⟨p.pb, 0, none⟩ = some (.slice p.la p.ts.length p.lc)
  c1 : w.cell? ⟨p.pb, 1, none⟩ = some (.bool p.tr)
  c2 : w.cell? ⟨p.pb, 2, none⟩ = some (.slice ra R.length rc)
  c3 : w.cell? ⟨p.pb, 3, none⟩ = some (.string st.out)
  c4 : w.cell? ⟨p.pb, 4, none⟩ = some (.int .i64 st.steps)
  c5 : w.cell? ⟨p.pb, 5, none⟩ = some (.int .i64 st.err)
  f2 : w.frozen? ⟨p.pb, 2, none⟩ = false
  f3 : w.frozen? ⟨p.pb, 3, none⟩ = false
  f4 : w.frozen? ⟨p.pb, 4, none⟩ = false
  f5 : w.frozen? ⟨p.pb, 5, none⟩ = false
  own : ∃ xs, w.ownsRow (p.pb + 1) 31 1 (.slice ra R.length rc) R.length xs ∧ EnvOK w p.N R xs
  lt : p.pb < w.heap.size
  le : p.N ≤ p.pb
  fit : Fit st
/-- what a call on the page may change: the page, the rows' list -/
structure ChP (pb : Nat) (rv rv' : Value) (w w' : World) : Prop where
  os : w'.os = w.os
  tape : w'.tape = w.tape
  output : w'.output = w.output
  size : w.heap.size ≤ w'.heap.size
  block : ∀ k, k < w.heap.size → k ≠ pb → rv.ownBlock ≠ some k → w'.heap[k]? = w.heap[k]?
  own : ∀ g, rv'.ownBlock = some g → rv.ownBlock = some g ∨ w.heap.size ≤ g
theorem ChP.refl (pb : Nat) (rv : Value) (w : World) : ChP pb rv rv w w := ⟨rfl, rfl, rfl, Nat.le_refl _, fun _ _ _ _ => rfl, fun g h => .inl h⟩
theorem ChP.trans {pb : Nat} {r1 r2 r3 : Value} {a b c : World} (h : ChP pb r1 r2 a b) (k : ChP pb r2 r3 b c) : ChP pb r1 r3 a c := by
  refine ⟨k.os.trans h.os, k.tape.trans h.tape, k.output.trans h.output, Nat.le_trans h.size k.size, fun i h1 h2 h3 => ?_, fun g hg => ?_⟩
  · refine (k.block i (Nat.lt_of_lt_of_le h1 h.size) h2 ?_).trans (h.block i h1 h2 h3)
    intro e
    rcases h.own i e with e' | e'
    · exact h3 e'
    · omega
  · rcases k.own g hg with e | e
    · exact h.own g e
    · exact .inr (Nat.le_trans h.size e)
theorem ChP.of_below {pb : Nat} {rv : Value} {w w' : World} (h : Below w.heap.size w w') : ChP pb rv rv w w' := ⟨h.os, h.tape, h.output, h.size, fun k h1 _ _ => h.block k h1, fun g hg => .inl hg⟩
theorem ChP.alloc {pb : Nat} {r1 r2 : Value} {w w' : World} (h : ChP pb r1 r2 w w') (o : Obj) : ChP pb r1 r2 w (w'.alloc o) := h.trans (ChP.of_below ((Below.refl _ _).alloc (Nat.le_refl _) _))
theorem ChP.set {pb : Nat} {r1 r2 : Value} {w w' : World} (h : ChP pb r1 r2 w w') (j : Nat) (v : Value) : ChP pb r1 r2 w (w'.setCell ⟨pb, j, none⟩ v) :=
  h.trans ⟨rfl, rfl, rfl, by simp, fun k h1 h2 h3 => set_far w' pb j v k h2, fun g hg => .inl hg⟩
theorem PgOK.own_lt {w : World} {p : PgP} {ra : Option Addr} {rc : Nat} {R : List Dat} {st : Pst} (h : PgOK w p ra rc R st) : ∀ g, (Value.slice ra R.length rc).ownBlock = some g → p.pb + 1 ≤ g ∧ g < w.heap.size := by
  obtain ⟨xs, h1, _⟩ := h.own
  intro g hg
  exact h1.lt g hg
/-- the page's own blocks are as they were -/
theorem PgOK.far {w w' : World} {p : PgP} {ra : Option Addr} {rc : Nat} {R : List Dat} {st : Pst} (h : PgOK w p ra rc R st) (hs : w.heap.size ≤ w'.heap.size) (hb : ∀ k, k ≤ p.pb ∨ (Value.slice ra R.length rc).ownBlock = some k → w'.heap[k]? = w.heap[k]?) : PgOK w' p ra rc R st := by
  have e0 := hb p.pb (.inl (Nat.le_refl _))
  obtain ⟨c0, c1, c2, c3, c4, c5, f2, f3, f4, f5, ⟨xs, o1, o2⟩, lt, le, fit⟩ := h
  exact ⟨(World.cell?_of_block e0).trans c0, (World.cell?_of_block e0).trans c1, (World.cell?_of_block e0).trans c2, (World.cell?_of_block e0).trans c3, (World.cell?_of_block e0).trans c4, (World.cell?_of_block e0).trans c5,
    (World.frozen?_of_block e0).trans f2, (World.frozen?_of_block e0).trans f3, (World.frozen?_of_block e0).trans f4, (World.frozen?_of_block e0).trans f5,
    ⟨xs, own_keep o1 (fun g hg => hb g (.inr hg)), EnvOK.mono (fun k hk => hb k (.inl (by omega))) R xs o2⟩, by omega, le, fit⟩
theorem PgOK.below {w w' : World} {p : PgP} {ra : Option Addr} {rc : Nat} {R : List Dat} {st : Pst} (h : PgOK w p ra rc R st) (hb : Below w.heap.size w w') : PgOK w' p ra rc R st := by
  have hl := h.own_lt
  have hp := h.lt
  refine h.far hb.size (fun k hk => hb.block k ?_)
  rcases hk with hk | hk
  · omega
  · exact (hl k hk).2
theorem PgOK.alloc {w : World} {p : PgP} {ra : Option Addr} {rc : Nat} {R : List Dat} {st : Pst} (h : PgOK w p ra rc R st) (o : Obj) : PgOK (w.alloc o) p ra rc R st := h.below ((Below.refl _ _).alloc (Nat.le_refl _) _)
theorem PgOK.set {w : World} {p : PgP} {ra : Option Addr} {rc : Nat} {R : List Dat} {st : Pst} (h : PgOK w p ra rc R st) (st' : Pst) (j : Nat) (v : Value) (hj : (j = 3 ∧ v = .string st'.out ∧ st'.steps = st.steps ∧ st'.err = st.err) ∨ (j = 4 ∧ v = .int .i64 st'.steps ∧ st'.out = st.out ∧ st'.err = st.err) ∨ (j = 5 ∧ v = .int .i64 st'.err ∧ st'.out = st.out ∧ st'.steps = st.steps)) (hf : Fit st') :
    PgOK (w.setCell ⟨p.pb, j, none⟩ v) p ra rc R st' := by
  have hl := h.own_lt
  obtain ⟨c0, c1, c2, c3, c4, c5, f2, f3, f4, f5, ⟨xs, o1, o2⟩, lt, le, fit⟩ := h
  have oth : ∀ i, j ≠ i → (w.setCell ⟨p.pb, j, none⟩ v).cell? ⟨p.pb, i, none⟩ = w.cell? ⟨p.pb, i, none⟩ := fun i hi => cellO w _ _ _ _ hi
  have own' : ∃ xs, (w.setCell ⟨p.pb, j, none⟩ v).ownsRow (p.pb + 1) 31 1 (.slice ra R.length rc) R.length xs ∧ EnvOK (w.setCell ⟨p.pb, j, none⟩ v) p.N R xs :=
    ⟨xs, own_keep o1 (fun g hg => set_far w _ _ _ g (by have := (hl g hg).1; omega)), EnvOK.mono (fun k hk => set_far w _ _ _ k (by omega)) R xs o2⟩
  rcases hj with ⟨rfl, rfl, e1, e2⟩ | ⟨rfl, rfl, e1, e2⟩ | ⟨rfl, rfl, e1, e2⟩
  · exact ⟨(oth 0 (by decide)).trans c0, (oth 1 (by decide)).trans c1, (oth 2 (by decide)).trans c2, cellS _ c3, (oth 4 (by decide)).trans (by rw [e1]; exact c4), (oth 5 (by decide)).trans (by rw [e2]; exact c5), by simpa using f2, by simpa using f3, by simpa using f4, by simpa using f5, own', by simpa using lt, le, hf⟩
  · exact ⟨(oth 0 (by decide)).trans c0, (oth 1 (by decide)).trans c1, (oth 2 (by decide)).trans c2, (oth 3 (by decide)).trans (by rw [e1]; exact c3), cellS _ c4, (oth 5 (by decide)).trans (by rw [e2]; exact c5), by simpa using f2, by simpa using f3, by simpa using f4, by simpa using f5, own', by simpa using lt, le, hf⟩
  · exact ⟨(oth 0 (by decide)).trans c0, (oth 1 (by decide)).trans c1, (oth 2 (by decide)).trans c2, (oth 3 (by decide)).trans (by rw [e1]; exact c3), (oth 4 (by decide)).trans (by rw [e2]; exact c4), cellS _ c5, by simpa using f2, by simpa using f3, by simpa using f4, by simpa using f5, own', by simpa using lt, le, hf⟩
theorem PgOK.rowAt {w : World} {p : PgP} {ra : Option Addr} {rc : Nat} {R : List Dat} {st : Pst} (h : PgOK w p ra rc R st) (i : Nat) (hi : i < R.length) : ∃ g, ra = some ⟨g, 0, none⟩ ∧ ∃ a c, w.cell? ⟨g, i, none⟩ = some (.slice a R[i].len c) ∧ DatV w p.N a R[i] ∧ R[i].ok false ∧ R[i].bulk ≤ 1048576 ∧ R[i].len ≤ c ∧ c ≤ maxLen := by
  obtain ⟨xs, o1, o2⟩ := h.own
  obtain ⟨a, c, k1, k2⟩ := EnvOK.at R xs i hi o2
  rcases o1.2 with ⟨_, h0⟩ | ⟨g, cap, cur, hv, hb, hg, hn, hm, hs, ht⟩
  · omega
  · simp at hv
    refine ⟨g, hv.1, a, c, ?_, k2⟩
    rw [cell_of_heap hg, ← k1, ← ht, List.getElem?_take_of_lt (by omega)]
    simp
end Go.Proofs.YtffkejkgkgfnhaaGreat
