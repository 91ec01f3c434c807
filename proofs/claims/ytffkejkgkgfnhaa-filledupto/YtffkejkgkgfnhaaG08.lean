import Derived.Test.YtffkejkgkgfnhaaG07
import Derived.Test.YtffkejkgkgfnhaaG02
import Derived.Test.YtffkejkgkgfnhaaG06
import Derived.Test.YtffkejkgkgfnhaaG01
import Derived.Deep.RegionHeld3
/-
  THE PLAIN MATHEMATICS OF PAGES: what a page is, by its pieces and its data. No Go.
-/
namespace Go.Proofs.Ytffkejkgkgfnhaa
open Go.RowKit
set_option linter.unusedVariables false
structure Pst where
  out : ByteArray
  steps : Nat
  err : Int
def ctxO (o : ByteArray) : Int := scn 0 o.data.toList
def byt (b : UInt8) : ByteArray := ⟨#[b]⟩
def txtF (tr : Bool) : List UInt8 → Pst → Pst
  | [], st => st
  | b :: r, st => if 2000 ≤ st.out.size then { st with err := 13 } else if tr = true ∧ ctxO (st.out ++ byt b) = -1 then { st with out := st.out ++ byt b, err := 9 } else txtF tr r { st with out := st.out ++ byt b }
def escB (x : Int) (t : ByteArray) : ByteArray := strOfNums (escL x t.data.toList)
def holF (t : ByteArray) (st : Pst) : Pst :=
  if opB (ctxO st.out) = true then (if 2000 < st.out.size + (escB (ctxO st.out) t).size then { st with err := 13 } else { st with out := st.out ++ escB (ctxO st.out) t }) else { st with err := 10 }
def Dat.fnd (nm : ByteArray) : Dat → Option (ByteArray × Bool × ByteArray × Dat)
  | .fld n l t rows r => if nmEq n nm = true then some (n, l, t, rows) else r.fnd nm
  | _ => none
/-- the rows one is in, the innermost last -/
def lkp (nm : ByteArray) (R : List Dat) : Option (ByteArray × Bool × ByteArray × Dat) := R.reverse.findSome? (Dat.fnd nm)
def lopF (B : Nds → List Dat → Pst → Pst) (th : Nds) (R : List Dat) : Dat → Pst → Pst
  | .row f r, st => if st.err ≠ 0 then st else if 500 ≤ st.steps then { st with err := 12 } else lopF B th R r (B th (R ++ [f]) { st with steps := st.steps + 1 })
  | _, st => st
def yesF (l : Bool) (t : ByteArray) (rows : Dat) : Bool := if l = true then decide (0 < rows.len) else decide (0 < t.size)
def fldF (B : Nds → List Dat → Pst → Pst) (R : List Dat) (k : Int) (th el : Nds) (x : ByteArray × Bool × ByteArray × Dat) (st : Pst) : Pst :=
  if k = 2 then (if x.2.1 = true then { st with err := 8 } else holF x.2.2.1 st)
  else if k = 3 then (if yesF x.2.1 x.2.2.1 x.2.2.2 = true then B th R st else B el R st)
  else if k = 4 then (if x.2.1 = true then lopF B th R x.2.2.2 st else { st with err := 8 })
  else st
def insF (B : Nds → List Dat → Pst → Pst) (ts : List Tm) (R : List Dat) (k : Int) (nm : ByteArray) (th el : Nds) (st : Pst) : Pst :=
  if k = 5 then B (bod ts (tno ts nm)) R st else match lkp nm R with
    | none => { st with err := 7 }
    | some x => fldF B R k th el x st
def pceF (B : Nds → List Dat → Pst → Pst) (ts : List Tm) (R : List Dat) (k : Int) (nm : ByteArray) (th el : Nds) (st : Pst) : Pst :=
  if 500 ≤ st.steps then { st with err := 12 } else insF B ts R k nm th el { st with steps := st.steps + 1 }
def bdyF (B : Nds → List Dat → Pst → Pst) (ts : List Tm) (tr : Bool) (R : List Dat) : Nds → Pst → Pst
  | .nil, st => st
  | .cons k _ nm th el _ r, st => if st.err ≠ 0 then st else bdyF B ts tr R r (if k = 1 then txtF tr nm.data.toList st else pceF B ts R k nm th el st)
/-- n: no fewer than the steps that are left -/
def pagF (ts : List Tm) (tr : Bool) : Nat → Nds → List Dat → Pst → Pst
  | 0 => fun b R st => bdyF (fun _ _ s => s) ts tr R b st
  | n + 1 => fun b R st => bdyF (pagF ts tr n) ts tr R b st
def subF (ts : List Tm) (tr : Bool) : Nat → Nds → List Dat → Pst → Pst
  | 0 => fun _ _ s => s
  | n + 1 => pagF ts tr n
theorem pagF_eq (ts : List Tm) (tr : Bool) (n : Nat) (b : Nds) (R : List Dat) (st : Pst) : pagF ts tr n b R st = bdyF (subF ts tr n) ts tr R b st := by cases n <;> rfl
def RisB (B : Nds → List Dat → Pst → Pst) : Prop := ∀ b R st, st.steps ≤ (B b R st).steps
theorem txtF_steps (tr : Bool) (l : List UInt8) (st : Pst) : (txtF tr l st).steps = st.steps := by
  induction l generalizing st with
  | nil => rfl
  | cons b r ih =>
    simp only [txtF]
    (repeat' split) <;> simp [ih]
theorem holF_steps (t : ByteArray) (st : Pst) : (holF t st).steps = st.steps := by
  unfold holF
  (repeat' split) <;> rfl
theorem lopF_steps (B : Nds → List Dat → Pst → Pst) (th : Nds) (R : List Dat) (hB : RisB B) : ∀ (d : Dat) (st : Pst), st.steps ≤ (lopF B th R d st).steps
  | .nil, st => Nat.le_refl _
  | .fld _ _ _ _ _, st => Nat.le_refl _
  | .row f r, st => by
    simp only [lopF]
    split
    · exact Nat.le_refl _
    · split
      · exact Nat.le_refl _
      · have h1 := lopF_steps B th R hB r (B th (R ++ [f]) { st with steps := st.steps + 1 })
        have h2 := hB th (R ++ [f]) { st with steps := st.steps + 1 }
        simp only at h2
        omega
theorem pceF_steps (B : Nds → List Dat → Pst → Pst) (ts : List Tm) (R : List Dat) (hB : RisB B) (k : Int) (nm : ByteArray) (th el : Nds) (st : Pst) : st.steps ≤ (pceF B ts R k nm th el st).steps := by
  unfold pceF
  split
  · exact Nat.le_refl _
  · unfold insF
    split
    · have := hB (bod ts (tno ts nm)) R { st with steps := st.steps + 1 }
      simp only at this; omega
    · split
      · simp
      · unfold fldF
        have h1 := hB th R { st with steps := st.steps + 1 }
        have h2 := hB el R { st with steps := st.steps + 1 }
        rename_i x _
        have h3 := lopF_steps B th R hB x.2.2.2 { st with steps := st.steps + 1 }
        have h4 := holF_steps x.2.2.1 { st with steps := st.steps + 1 }
        simp only at h1 h2 h3 h4
        (repeat' split) <;> first | omega | (simp only; omega)
theorem bdyF_steps (B : Nds → List Dat → Pst → Pst) (ts : List Tm) (tr : Bool) (R : List Dat) (hB : RisB B) : ∀ (b : Nds) (st : Pst), st.steps ≤ (bdyF B ts tr R b st).steps
  | .nil, st => Nat.le_refl _
  | .cons k a nm th el tw r, st => by
    simp only [bdyF]
    split
    · exact Nat.le_refl _
    · refine Nat.le_trans ?_ (bdyF_steps B ts tr R hB r _)
      split
      · rw [txtF_steps]; exact Nat.le_refl _
      · exact pceF_steps B ts R hB k nm th el st
theorem pagF_steps (ts : List Tm) (tr : Bool) (n : Nat) : RisB (pagF ts tr n) := by
  induction n with
  | zero => intro b R st; exact bdyF_steps _ ts tr R (fun _ _ _ => Nat.le_refl _) b st
  | succ n ih => intro b R st; exact bdyF_steps _ ts tr R ih b st
theorem subF_steps (ts : List Tm) (tr : Bool) (n : Nat) : RisB (subF ts tr n) := by
  cases n with
  | zero => intro b R st; exact Nat.le_refl _
  | succ n => exact pagF_steps ts tr n
/-- no more than may be -/
def Fit (st : Pst) : Prop := st.out.size ≤ 2000 ∧ st.steps ≤ 500
theorem byt_size (b : UInt8) : (byt b).size = 1 := rfl
theorem txtF_fit (tr : Bool) (l : List UInt8) (st : Pst) (h : Fit st) : Fit (txtF tr l st) := by
  induction l generalizing st with
  | nil => exact h
  | cons b r ih =>
    simp only [txtF]
    obtain ⟨h1, h2⟩ := h
    split
    · exact ⟨h1, h2⟩
    · have e : (st.out ++ byt b).size ≤ 2000 := by rw [ByteArray.size_append, byt_size]; omega
      split
      · exact ⟨e, h2⟩
      · exact ih _ ⟨e, h2⟩
theorem holF_fit (t : ByteArray) (st : Pst) (h : Fit st) : Fit (holF t st) := by
  obtain ⟨h1, h2⟩ := h
  unfold holF
  split
  · split
    · exact ⟨h1, h2⟩
    · refine ⟨?_, h2⟩
      simp only [ByteArray.size_append]; omega
  · exact ⟨h1, h2⟩
def FitB (B : Nds → List Dat → Pst → Pst) : Prop := ∀ b R st, Fit st → Fit (B b R st)
theorem lopF_fit (B : Nds → List Dat → Pst → Pst) (th : Nds) (R : List Dat) (hB : FitB B) : ∀ (d : Dat) (st : Pst), Fit st → Fit (lopF B th R d st)
  | .nil, st, h => h
  | .fld _ _ _ _ _, st, h => h
  | .row f r, st, h => by
    simp only [lopF]
    split
    · exact h
    · split
      · exact h
      · exact lopF_fit B th R hB r _ (hB _ _ _ ⟨h.1, by simp only; omega⟩)
theorem pceF_fit (B : Nds → List Dat → Pst → Pst) (ts : List Tm) (R : List Dat) (hB : FitB B) (k : Int) (nm : ByteArray) (th el : Nds) (st : Pst) (h : Fit st) : Fit (pceF B ts R k nm th el st) := by
  unfold pceF
  split
  · exact h
  · have h' : Fit { st with steps := st.steps + 1 } := ⟨h.1, by simp only; omega⟩
    unfold insF
    split
    · exact hB _ _ _ h'
    · split
      · exact h'
      · unfold fldF
        split
        · split
          · exact h'
          · exact holF_fit _ _ h'
        · split
          · split
            · exact hB _ _ _ h'
            · exact hB _ _ _ h'
          · split
            · split
              · exact lopF_fit B th R hB _ _ h'
              · exact h'
            · exact h'
theorem bdyF_fit (B : Nds → List Dat → Pst → Pst) (ts : List Tm) (tr : Bool) (R : List Dat) (hB : FitB B) : ∀ (b : Nds) (st : Pst), Fit st → Fit (bdyF B ts tr R b st)
  | .nil, st, h => h
  | .cons k a nm th el tw r, st, h => by
    simp only [bdyF]
    split
    · exact h
    · refine bdyF_fit B ts tr R hB r _ ?_
      split
      · exact txtF_fit _ _ _ h
      · exact pceF_fit B ts R hB k nm th el st h
theorem pagF_fit (ts : List Tm) (tr : Bool) (n : Nat) : FitB (pagF ts tr n) := by
  induction n with
  | zero => intro b R st h; exact bdyF_fit _ ts tr R (fun _ _ _ h => h) b st h
  | succ n ih => intro b R st h; exact bdyF_fit _ ts tr R ih b st h
theorem subF_fit (ts : List Tm) (tr : Bool) (n : Nat) : FitB (subF ts tr n) := by
  cases n with
  | zero => intro b R st h; exact h
  | succ n => exact pagF_fit ts tr n
end Go.Proofs.Ytffkejkgkgfnhaa
namespace Go.Proofs.Ytffkejkgkgfnhaa
set_option linter.unusedVariables false
def bt (m : Nat) : Cs := fun y => m.testBit y = true
structure RS where
  beg : Nat → Bool
  en : Nat → Nat
  used : Nat → Bool
  wrong : Bool
  new : Bool
end Go.Proofs.Ytffkejkgkgfnhaa
namespace Go.Proofs.Ytffkejkgkgfnhaa
set_option linter.unusedVariables false
def Rec (st : RS) : Ev → Prop
  | .bad => False
  | .use a x => x < 24 ∧ st.used (a * 24 + x) = true
  | .call t x => x < 24 ∧ st.beg (t * 24 + x) = true
theorem Rec.mono {st st' : RS} (h1 : ∀ k, st.used k = true → st'.used k = true) (h2 : ∀ k, st.beg k = true → st'.beg k = true) (e : Ev) (h : Rec st e) : Rec st' e := by
  cases e with
  | bad => exact h
  | use a x => exact ⟨h.1, h1 _ h.2⟩
  | call t x => exact ⟨h.1, h2 _ h.2⟩
end Go.Proofs.Ytffkejkgkgfnhaa
namespace Go.Proofs.Ytffkejkgkgfnhaa
set_option linter.unusedVariables false
structure Grw (st st' : RS) : Prop where
  beg : ∀ k, st.beg k = true → st'.beg k = true
  en : ∀ k y, bt (st.en k) y → bt (st'.en k) y
theorem Grw.refl (st : RS) : Grw st st := ⟨fun _ h => h, fun _ _ h => h⟩
theorem Grw.trans {a b c : RS} (h : Grw a b) (k : Grw b c) : Grw a c := ⟨fun i q => k.beg i (h.beg i q), fun i y q => k.en i y (h.en i y q)⟩
def Str (n : Nat) (st st' : RS) : Prop := (∃ k, k < n ∧ st.beg k = false ∧ st'.beg k = true) ∨ ∃ k y, k < n ∧ y < 24 ∧ ¬ bt (st.en k) y ∧ bt (st'.en k) y
theorem Str.right {n : Nat} {a b c : RS} (h : Str n a b) (k : Grw b c) : Str n a c := by
  rcases h with ⟨i, h1, h2, h3⟩ | ⟨i, y, h1, h2, h3, h4⟩
  · exact .inl ⟨i, h1, h2, k.beg i h3⟩
  · exact .inr ⟨i, y, h1, h2, h3, k.en i y h4⟩
theorem Str.left {n : Nat} {a b c : RS} (h : Grw a b) (k : Str n b c) : Str n a c := by
  rcases k with ⟨i, h1, h2, h3⟩ | ⟨i, y, h1, h2, h3, h4⟩
  · refine .inl ⟨i, h1, ?_, h3⟩
    cases hb : a.beg i
    · rfl
    · rw [h.beg i hb] at h2; cases h2
  · exact .inr ⟨i, y, h1, h2, fun q => h3 (h.en i y q), h4⟩
end Go.Proofs.Ytffkejkgkgfnhaa
namespace Go.Proofs.Ytffkejkgkgfnhaa
open Go.RowKit
set_option linter.unusedVariables false
def Nds.drop : Nat → Nds → Nds
  | 0, ns => ns
  | _ + 1, .nil => .nil
  | n + 1, .cons _ _ _ _ _ _ r => Nds.drop n r
def Nds.sz : Nds → Nat
  | .nil => 0
  | .cons _ _ _ th el _ r => th.sz + el.sz + r.sz + 1
theorem slc_form {w : World} {A : Nat → Prop} {ty : Nat} {v : Value} {ns : Nds} (h : Slc w A ty v ns) : ∃ a c, v = .slice a ns.len c := by
  rcases h with ⟨rfl, h0, _⟩ | ⟨g, cap, cur, rfl, _⟩
  · exact ⟨none, 0, by rw [h0]⟩
  · exact ⟨_, _, rfl⟩
theorem RowOK.at {w : World} {A : Nat → Prop} : ∀ (ns : Nds) (xs : List Value) (i : Nat) (hi : i < ns.len), RowOK w A 102 ns xs →
    ∃ (k a : Int) (nm : ByteArray) (th el : Nds) (two : Bool) (r : Nds) (ta ea : Option Addr) (tc ec : Nat), ns.drop i = .cons k a nm th el two r ∧ ns.drop (i + 1) = r ∧
    xs[i * 6]? = some (.int .i64 k) ∧ xs[i * 6 + 1]? = some (.int .i64 a) ∧ xs[i * 6 + 2]? = some (.string nm) ∧ xs[i * 6 + 3]? = some (.slice ta th.len tc) ∧ xs[i * 6 + 4]? = some (.slice ea el.len ec) ∧
    Slc w A 102 (.slice ta th.len tc) th ∧ Slc w A 102 (.slice ea el.len ec) el ∧ th.sz < ns.sz ∧ el.sz < ns.sz ∧ xs[i * 6 + 5]? = some (.bool two)
  | .nil, xs, i, hi, h => absurd hi (by simp [Nds.len])
  | .cons k a nm th el two r, xs, 0, hi, h => by
    obtain ⟨tv, ev, ys, rfl, h2, h3, h4⟩ := h
    obtain ⟨ta, tc, rfl⟩ := slc_form (ns := th) h2
    obtain ⟨ea, ec, rfl⟩ := slc_form (ns := el) h3
    exact ⟨k, a, nm, th, el, two, r, ta, ea, tc, ec, rfl, rfl, rfl, rfl, rfl, rfl, rfl, h2, h3, by simp only [Nds.sz]; omega, by simp only [Nds.sz]; omega, rfl⟩
  | .cons k0 a0 nm0 th0 el0 two0 r0, xs, i + 1, hi, h => by
    obtain ⟨tv, ev, ys, rfl, h2, h3, h4⟩ := h
    have hi' : i < r0.len := by simpa [Nds.len] using hi
    obtain ⟨k, a, nm, th, el, two, r, ta, ea, tc, ec, e1, e2, c0, c1, c2, c3, c4, s1, s2, z1, z2, c5⟩ := RowOK.at r0 ys i hi' h4
    have sh : ∀ j, (ndC k0 a0 nm0 tv ev two0 ++ ys)[(i + 1) * 6 + j]? = ys[i * 6 + j]? := by
      intro j
      rw [List.getElem?_append_right (by simp [ndC]; omega)]
      congr 1
      simp [ndC]; omega
    have sh0 := sh 0
    simp only [Nat.add_zero] at sh0
    exact ⟨k, a, nm, th, el, two, r, ta, ea, tc, ec, e1, e2, by rw [sh0]; exact c0, by rw [sh]; exact c1, by rw [sh]; exact c2, by rw [sh]; exact c3, by rw [sh]; exact c4, s1, s2, by simp only [Nds.sz]; omega, by simp only [Nds.sz]; omega, by rw [sh]; exact c5⟩
/-- the place of the first call of a name that no template has, or -1 -/
def unk (ts : List Tm) : Nds → Int
  | .nil => -1
  | .cons k a nm th el two r => if k = 5 ∧ fndF nm ts 0 < 0 then a else if 0 ≤ unk ts th then unk ts th else if 0 ≤ unk ts el then unk ts el else unk ts r
end Go.Proofs.Ytffkejkgkgfnhaa
namespace Go.Proofs.Ytffkejkgkgfnhaa
open Go.RowKit
set_option linter.unusedVariables false
theorem Flat.szle {s : ByteArray} {d p e : Nat} {a : Nds} {A : List Ak} (h : Flat s d a p A e) : a.sz + p ≤ e := by
  induction h with
  | nil d p => simp [Nds.sz]
  | text h _ ih => simp only [Nds.sz]; omega
  | @hole d p e r A h _ ih => have := act_next s p (by omega); simp only [Nds.sz]; omega
  | @call d p e r A h _ ih => have := act_next s p (by omega); simp only [Nds.sz]; omega
  | @loop d p e e1 th r A1 A hd h k1 h1 k2 ih1 ih => have := act_next s p (by omega); have := act_next s e1 (by omega); simp only [Nds.sz]; omega
  | @one d p e e1 th r A1 A hd h k1 h1 k2 ih1 ih => have := act_next s p (by omega); have := act_next s e1 (by omega); simp only [Nds.sz]; omega
  | @two d p e e1 e2 th el r A1 A2 A hd h k1 h1 k2 h2 k3 ih1 ih2 ih => have := act_next s p (by omega); have := act_next s e1 (by omega); have := act_next s e2 (by omega); simp only [Nds.sz]; omega
def twF (ts : List Tm) : List Tm → Nat → Int
  | [], _ => -1
  | t :: r, i => if fndF t.name ts 0 < i then t.at' else twF ts r (i + 1)
def unF (ts : List Tm) : List Tm → Int
  | [] => -1
  | t :: r => if 0 ≤ unk ts t.body then unk ts t.body else unF ts r
end Go.Proofs.Ytffkejkgkgfnhaa
namespace Go.Proofs.Ytffkejkgkgfnhaa
open Go.RowKit
set_option linter.unusedVariables false
theorem cellF (w : World) (g j k i : Nat) (v : Value) (h : k ≠ g) : (w.setCell ⟨g, j, none⟩ v).cell? ⟨k, i, none⟩ = w.cell? ⟨k, i, none⟩ := World.cell?_of_block (set_far w g j v k h)
theorem cellO (w : World) (g j i : Nat) (v : Value) (h : j ≠ i) : (w.setCell ⟨g, j, none⟩ v).cell? ⟨g, i, none⟩ = w.cell? ⟨g, i, none⟩ := by
  apply World.cell?_setCell_other
  intro e
  injection e with e1 e2
  exact h e2
theorem cellS {w : World} {a : Addr} {u : Value} (v : Value) (h : w.cell? a = some u) : (w.setCell a v).cell? a = some v := World.cell?_setCell_same w a v h
structure Wp where
  (b gb ge gu n nc ec uc : Nat)
  la : Option Addr
  (tl lc : Nat)
structure WkOK (w : World) (p : Wp) (st : RS) : Prop where
  c0 : w.cell? ⟨p.b, 0, none⟩ = some (.slice p.la p.tl p.lc)
  c1 : w.cell? ⟨p.b, 1, none⟩ = some (.slice (some ⟨p.gb, 0, none⟩) p.n p.nc)
  c2 : w.cell? ⟨p.b, 2, none⟩ = some (.slice (some ⟨p.ge, 0, none⟩) p.n p.ec)
  c3 : w.cell? ⟨p.b, 3, none⟩ = some (.slice (some ⟨p.gu, 0, none⟩) 9624 p.uc)
  c4 : w.cell? ⟨p.b, 4, none⟩ = some (.bool st.wrong)
  c5 : w.cell? ⟨p.b, 5, none⟩ = some (.bool st.new)
  f4 : w.frozen? ⟨p.b, 4, none⟩ = false
  f5 : w.frozen? ⟨p.b, 5, none⟩ = false
  beg : ∀ k, k < p.n → w.cell? ⟨p.gb, k, none⟩ = some (.bool (st.beg k)) ∧ w.frozen? ⟨p.gb, k, none⟩ = false
  en : ∀ k, k < p.n → w.cell? ⟨p.ge, k, none⟩ = some (.int .i64 (st.en k)) ∧ w.frozen? ⟨p.ge, k, none⟩ = false
  used : ∀ k, k < 9624 → w.cell? ⟨p.gu, k, none⟩ = some (.bool (st.used k)) ∧ w.frozen? ⟨p.gu, k, none⟩ = false
  n1 : p.b ≠ p.gb
  n2 : p.b ≠ p.ge
  n3 : p.b ≠ p.gu
  n4 : p.gb ≠ p.ge
  n5 : p.gb ≠ p.gu
  n6 : p.ge ≠ p.gu
  l0 : p.b < w.heap.size
  l1 : p.gb < w.heap.size
  l2 : p.ge < w.heap.size
  l3 : p.gu < w.heap.size
  n24 : p.n ≤ 144
structure Chg (p : Wp) (w w' : World) : Prop where
  os : w'.os = w.os
  tape : w'.tape = w.tape
  output : w'.output = w.output
  size : w.heap.size ≤ w'.heap.size
  block : ∀ k, k < w.heap.size → k ≠ p.b → k ≠ p.gb → k ≠ p.ge → k ≠ p.gu → w'.heap[k]? = w.heap[k]?
theorem Chg.refl (p : Wp) (w : World) : Chg p w w := ⟨rfl, rfl, rfl, Nat.le_refl _, fun _ _ _ _ _ _ => rfl⟩
theorem Chg.trans {p : Wp} {a b c : World} (h : Chg p a b) (k : Chg p b c) : Chg p a c :=
  ⟨k.os.trans h.os, k.tape.trans h.tape, k.output.trans h.output, Nat.le_trans h.size k.size, fun i h1 h2 h3 h4 h5 => (k.block i (Nat.lt_of_lt_of_le h1 h.size) h2 h3 h4 h5).trans (h.block i h1 h2 h3 h4 h5)⟩
theorem Chg.of_below {p : Wp} {w w' : World} (h : Below w.heap.size w w') : Chg p w w' := ⟨h.os, h.tape, h.output, h.size, fun k h1 _ _ _ _ => h.block k h1⟩
theorem Chg.alloc {p : Wp} {w w' : World} (h : Chg p w w') (o : Obj) : Chg p w (w'.alloc o) := h.trans (Chg.of_below ((Below.refl _ _).alloc (Nat.le_refl _) _))
theorem WkOK.far {w w' : World} {p : Wp} {st : RS} (h : WkOK w p st) (hs : w.heap.size ≤ w'.heap.size) (hb : ∀ k, k = p.b ∨ k = p.gb ∨ k = p.ge ∨ k = p.gu → w'.heap[k]? = w.heap[k]?) : WkOK w' p st := by
  have e0 := hb p.b (.inl rfl)
  have e1 := hb p.gb (.inr (.inl rfl))
  have e2 := hb p.ge (.inr (.inr (.inl rfl)))
  have e3 := hb p.gu (.inr (.inr (.inr rfl)))
  obtain ⟨c0, c1, c2, c3, c4, c5, f4, f5, beg, en, used, n1, n2, n3, n4, n5, n6, l0, l1, l2, l3, n24⟩ := h
  exact ⟨(World.cell?_of_block e0).trans c0, (World.cell?_of_block e0).trans c1, (World.cell?_of_block e0).trans c2, (World.cell?_of_block e0).trans c3, (World.cell?_of_block e0).trans c4, (World.cell?_of_block e0).trans c5, (World.frozen?_of_block e0).trans f4, (World.frozen?_of_block e0).trans f5,
    fun k hk => ⟨(World.cell?_of_block e1).trans (beg k hk).1, (World.frozen?_of_block e1).trans (beg k hk).2⟩, fun k hk => ⟨(World.cell?_of_block e2).trans (en k hk).1, (World.frozen?_of_block e2).trans (en k hk).2⟩, fun k hk => ⟨(World.cell?_of_block e3).trans (used k hk).1, (World.frozen?_of_block e3).trans (used k hk).2⟩,
    n1, n2, n3, n4, n5, n6, by omega, by omega, by omega, by omega, n24⟩
theorem WkOK.below {w w' : World} {p : Wp} {st : RS} (h : WkOK w p st) (hb : Below w.heap.size w w') : WkOK w' p st :=
  h.far hb.size (fun k hk => hb.block k (by have := h.l0; have := h.l1; have := h.l2; have := h.l3; rcases hk with rfl | rfl | rfl | rfl <;> assumption))
theorem WkOK.alloc {w : World} {p : Wp} {st : RS} (h : WkOK w p st) (o : Obj) : WkOK (w.alloc o) p st := h.below ((Below.refl _ _).alloc (Nat.le_refl _) _)
theorem WkOK.setNew {w : World} {p : Wp} {st : RS} (h : WkOK w p st) (v : Bool) : WkOK (w.setCell ⟨p.b, 5, none⟩ (.bool v)) p { st with new := v } := by
  have far : ∀ g j, p.b ≠ g → (w.setCell ⟨p.b, 5, none⟩ (.bool v)).cell? ⟨g, j, none⟩ = w.cell? ⟨g, j, none⟩ := fun g j hg => cellF w _ _ _ _ _ (Ne.symm hg)
  have oth : ∀ j, 5 ≠ j → (w.setCell ⟨p.b, 5, none⟩ (.bool v)).cell? ⟨p.b, j, none⟩ = w.cell? ⟨p.b, j, none⟩ := fun j hj => cellO w _ _ _ _ hj
  obtain ⟨c0, c1, c2, c3, c4, c5, f4, f5, beg, en, used, n1, n2, n3, n4, n5, n6, l0, l1, l2, l3, n24⟩ := h
  refine ⟨(oth 0 (by decide)).trans c0, (oth 1 (by decide)).trans c1, (oth 2 (by decide)).trans c2, (oth 3 (by decide)).trans c3, (oth 4 (by decide)).trans c4, cellS _ c5, by simpa using f4, by simpa using f5,
    fun k hk => ⟨(far _ k n1).trans (beg k hk).1, by simpa using (beg k hk).2⟩, fun k hk => ⟨(far _ k n2).trans (en k hk).1, by simpa using (en k hk).2⟩, fun k hk => ⟨(far _ k n3).trans (used k hk).1, by simpa using (used k hk).2⟩,
    n1, n2, n3, n4, n5, n6, by simpa using l0, by simpa using l1, by simpa using l2, by simpa using l3, n24⟩
theorem Chg.set {p : Wp} {w w' : World} (h : Chg p w w') (g j : Nat) (v : Value) (hg : g = p.b ∨ g = p.gb ∨ g = p.ge ∨ g = p.gu) : Chg p w (w'.setCell ⟨g, j, none⟩ v) :=
  h.trans ⟨rfl, rfl, rfl, by simp, fun k h1 h2 h3 h4 h5 => set_far w' g j v k (by rcases hg with rfl | rfl | rfl | rfl <;> assumption)⟩
theorem opS_opB (x : Nat) : opB (x : Int) = opS x := by
  unfold opB opS
  rw [Bool.eq_iff_iff]; simp; omega
end Go.Proofs.Ytffkejkgkgfnhaa
namespace Go.Proofs.Ytffkejkgkgfnhaa
open Go.RowKit
set_option linter.unusedVariables false
theorem IsOps.mono {w : World} {a : Option Addr} {len : Nat} {Q G : Int → ByteArray → ByteArray → Prop} (h : IsOps w a len Q) (k : ∀ n s t, Q n s t → G n s t) : IsOps w a len G := by
  rcases h with rfl | ⟨b, off, Kd, Nn, Ss, Ts, Ds, rfl, hb, h0, h1, h2, h3, h4, hG⟩
  · exact .inl rfl
  · exact .inr ⟨b, off, Kd, Nn, Ss, Ts, Ds, rfl, hb, h0, h1, h2, h3, h4, fun i hi => k _ _ _ (hG i hi)⟩
end Go.Proofs.Ytffkejkgkgfnhaa
namespace Go.Proofs.Ytffkejkgkgfnhaa
open Go.RowKit
set_option linter.unusedVariables false
def WfN (ts : List Tm) : Nds → Prop
  | .nil => True
  | .cons k a nm th el _ r => (k = 1 ∨ k = 2 ∨ k = 3 ∨ k = 4 ∨ k = 5) ∧ (0 ≤ a ∧ a ≤ 400) ∧ nm.size ≤ 400 ∧ (k = 5 → 0 ≤ fndF nm ts 0) ∧ WfN ts th ∧ WfN ts el ∧ WfN ts r
theorem WfN.drop {ts : List Tm} : ∀ (b : Nds) (i : Nat), WfN ts b → WfN ts (b.drop i)
  | b, 0, h => by cases b <;> exact h
  | .nil, i + 1, h => h
  | .cons _ _ _ _ _ _ r, i + 1, h => WfN.drop r i h.2.2.2.2.2.2
structure Evn (w : World) (p : Wp) (A : Nat → Prop) (ts : List Tm) : Prop where
  dis : ∀ k, A k → k < w.heap.size ∧ k ≠ p.b ∧ k ≠ p.gb ∧ k ≠ p.ge ∧ k ≠ p.gu
  tm : SlcX w A 72 3 (.slice p.la ts.length p.lc) ts.length (RowT w A ts)
  tl : p.tl = ts.length
  n : p.n = ts.length * 24
  six : ts.length ≤ 6
  pos : 0 < ts.length
theorem Evn.keep {w w' : World} {p : Wp} {A : Nat → Prop} {ts : List Tm} (h : Evn w p A ts) (hc : Chg p w w') (k : Nat) (hk : A k) : w'.heap[k]? = w.heap[k]? := by
  obtain ⟨h1, h2, h3, h4, h5⟩ := h.dis k hk
  exact hc.block k h1 h2 h3 h4 h5
theorem Evn.mono {w w' : World} {p : Wp} {A : Nat → Prop} {ts : List Tm} (h : Evn w p A ts) (hc : Chg p w w') : Evn w' p A ts :=
  ⟨fun k hk => ⟨Nat.lt_of_lt_of_le (h.dis k hk).1 hc.size, (h.dis k hk).2⟩, SlcX.mono h.tm (h.keep hc) (fun _ q => q) (fun xs => RowT.mono (h.keep hc) (fun _ q => q) ts xs), h.tl, h.n, h.six, h.pos⟩
theorem bod_at {ts : List Tm} (i : Nat) (hi : i < ts.length) : bod ts i = ts[i].body := by simp [bod, List.getElem?_eq_getElem hi]
end Go.Proofs.Ytffkejkgkgfnhaa
namespace Go.Proofs.Ytffkejkgkgfnhaa
open Go.RowKit
set_option linter.unusedVariables false
theorem below_drew (w : World) : Below w.heap.size w w.drew := below_drewN (Below.refl _ _) 1
end Go.Proofs.Ytffkejkgkgfnhaa
namespace Go.Proofs.Ytffkejkgkgfnhaa
open Go.RowKit
set_option linter.unusedVariables false
theorem heap_new (w : World) (o : Obj) : (w.alloc o).heap[w.heap.size]? = some o := by
  show (w.heap.push o)[w.heap.size]? = some o
  simp
theorem Chg.below {p : Wp} {w W w' : World} (h : Chg p W w') (hb : Below w.heap.size w W) (l0 : w.heap.size ≤ p.b) (l1 : w.heap.size ≤ p.gb) (l2 : w.heap.size ≤ p.ge) (l3 : w.heap.size ≤ p.gu) : Below w.heap.size w w' :=
  hb.trans ⟨h.os, h.tape, h.output, h.size, fun k hk => h.block k (by have := hb.size; omega) (by omega) (by omega) (by omega) (by omega)⟩
end Go.Proofs.Ytffkejkgkgfnhaa
