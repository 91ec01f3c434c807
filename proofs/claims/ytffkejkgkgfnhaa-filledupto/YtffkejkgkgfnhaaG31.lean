import Derived.Test.YtffkejkgkgfnhaaG12
import Derived.Test.YtffkejkgkgfnhaaG30
import Derived.Test.YtffkejkgkgfnhaaG09
/-
  PAGES IN WHICH NOTHING GOES WRONG BUT THE BOUNDS. No Go.
-/
namespace Go.Proofs.Ytffkejkgkgfnhaa
open Go.RowKit
set_option linter.unusedVariables false
/-- what is written, in how many steps, the context behind it -/
structure Pg1 where
  w : List UInt8
  k : Nat
  x : Int
def seqP (a : Option Pg1) (f : Int → Option Pg1) : Option Pg1 := match a with
  | none => none
  | some v => match f v.x with
    | none => none
    | some u => some ⟨v.w ++ u.w, v.k + u.k, u.x⟩
def addK (a : Option Pg1) : Option Pg1 := match a with
  | none => none
  | some v => some ⟨v.w, v.k + 1, v.x⟩
def lopP (B : Nds → List Dat → Int → Option Pg1) (th : Nds) (R : List Dat) : Dat → Int → Option Pg1
  | .row f r, x => seqP (addK (B th (R ++ [f]) x)) (lopP B th R r)
  | _, x => some ⟨[], 0, x⟩
def fldP (B : Nds → List Dat → Int → Option Pg1) (R : List Dat) (k : Int) (th el : Nds) (v : ByteArray × Bool × ByteArray × Dat) (x : Int) : Option Pg1 :=
  if k = 2 then (if v.2.1 = true then none else if opB x = true then some ⟨btsW (escL x v.2.2.1.data.toList), 0, x⟩ else none)
  else if k = 3 then (if yesF v.2.1 v.2.2.1 v.2.2.2 = true then B th R x else B el R x)
  else if k = 4 then (if v.2.1 = true then lopP B th R v.2.2.2 x else none)
  else none
def insP (B : Nds → List Dat → Int → Option Pg1) (ts : List Tm) (R : List Dat) (k : Int) (nm : ByteArray) (th el : Nds) (x : Int) : Option Pg1 :=
  if k = 5 then B (bod ts (tno ts nm)) R x else match lkp nm R with
    | none => none
    | some v => fldP B R k th el v x
def txtP (nm : ByteArray) (x : Int) : Option Pg1 := if scl x nm.data.toList = -1 then none else some ⟨nm.data.toList, 0, scl x nm.data.toList⟩
def bdyP (B : Nds → List Dat → Int → Option Pg1) (ts : List Tm) (R : List Dat) : Nds → Int → Option Pg1
  | .nil, x => some ⟨[], 0, x⟩
  | .cons k _ nm th el _ r, x => seqP (if k = 1 then txtP nm x else addK (insP B ts R k nm th el x)) (bdyP B ts R r)
def ppg (ts : List Tm) : Nat → Nds → List Dat → Int → Option Pg1
  | 0 => fun b R x => bdyP (fun _ _ _ => none) ts R b x
  | m + 1 => fun b R x => bdyP (ppg ts m) ts R b x
/-- behind a piece -/
structure PP (st st' : Pst) (v : Pg1) : Prop where
  fits : st.steps + v.k ≤ 500 → st.out.size + v.w.length ≤ 2000 → st' = ⟨st.out ++ mkB v.w, st.steps + v.k, 0⟩ ∧ ctxO (st.out ++ mkB v.w) = v.x
  out : st.steps + v.k ≤ 500 → 2000 < st.out.size + v.w.length → st'.err = 13
  steps : 500 < st.steps + v.k → st.out.size + v.w.length ≤ 2000 → st'.err = 12
theorem mkB_app (a b : List UInt8) : mkB (a ++ b) = mkB a ++ mkB b := by
  apply ByteArray.ext
  apply Array.ext'
  simp [mkB]
theorem mkB_nil (o : ByteArray) : o ++ mkB [] = o := by
  apply ByteArray.ext
  apply Array.ext'
  simp [mkB]
theorem app_assoc (a b c : ByteArray) : a ++ b ++ c = a ++ (b ++ c) := by
  apply ByteArray.ext
  apply Array.ext'
  simp
theorem PP.seq {st s1 s2 : Pst} {v u : Pg1} (h : PP st s1 v) (hp : s1.err ≠ 0 → s2 = s1) (hn : s1.err = 0 → ctxO s1.out = v.x → PP s1 s2 u) : PP st s2 ⟨v.w ++ u.w, v.k + u.k, u.x⟩ := by
  refine ⟨fun h1 h2 => ?_, fun h1 h2 => ?_, fun h1 h2 => ?_⟩
  · simp only [List.length_append] at h1 h2
    obtain ⟨e1, e2⟩ := h.fits (by omega) (by omega)
    have hq := hn (by rw [e1]) (by rw [e1]; exact e2)
    rw [e1] at hq
    obtain ⟨f1, f2⟩ := hq.fits (by simp only; omega) (by simp only [ByteArray.size_append, mkB_size]; omega)
    simp only at f1 f2
    rw [f1]
    rw [app_assoc, ← mkB_app] at f2
    exact ⟨by rw [app_assoc, ← mkB_app]; simp [Nat.add_assoc], f2⟩
  · simp only [List.length_append] at h1 h2
    by_cases hv : st.out.size + v.w.length ≤ 2000
    · obtain ⟨e1, e2⟩ := h.fits (by omega) hv
      have hq := hn (by rw [e1]) (by rw [e1]; exact e2)
      rw [e1] at hq
      exact hq.out (by simp only; omega) (by simp only [ByteArray.size_append, mkB_size]; omega)
    · have := h.out (by omega) (by omega)
      rw [hp (by rw [this]; decide)]; exact this
  · simp only [List.length_append] at h1 h2
    by_cases hv : st.steps + v.k ≤ 500
    · obtain ⟨e1, e2⟩ := h.fits hv (by omega)
      have hq := hn (by rw [e1]) (by rw [e1]; exact e2)
      rw [e1] at hq
      exact hq.steps (by simp only; omega) (by simp only [ByteArray.size_append, mkB_size]; omega)
    · have := h.steps (by omega) (by omega)
      rw [hp (by rw [this]; decide)]; exact this
theorem PP.none (st : Pst) (he : st.err = 0) (hs : st.steps ≤ 500) (ho : st.out.size ≤ 2000) : PP st st ⟨[], 0, ctxO st.out⟩ := by
  refine ⟨fun _ _ => ⟨?_, ?_⟩, fun _ h => ?_, fun h _ => ?_⟩
  · simp only [mkB_nil, Nat.add_zero]; rw [← he]
  · simp only [mkB_nil]
  · simp at h; omega
  · simp at h; omega
theorem txt_err (tr : Bool) (l : List UInt8) : ∀ (st : Pst), st.err = 0 → (tr = true → scl (ctxO st.out) l ≠ -1) → st.out.size ≤ 2000 →
    (st.out.size + l.length ≤ 2000 → txtF tr l st = { st with out := st.out ++ mkB l }) ∧ (2000 < st.out.size + l.length → (txtF tr l st).err = 13) := by
  induction l with
  | nil => intro st he h ho; exact ⟨fun _ => by simp [txtF, mkB_nil], fun q => by simp at q; omega⟩
  | cons b r ih =>
    intro st he h ho
    have hb : ctxO (st.out ++ byt b) = stp (ctxO st.out) b.toNat := ctxO_byt _ _
    have hsz : (st.out ++ byt b).size = st.out.size + 1 := by rw [ByteArray.size_append, byt_size]
    have hm : st.out ++ byt b ++ mkB r = st.out ++ mkB (b :: r) := by
      rw [app_assoc]; congr 1
    simp only [txtF, List.length_cons]
    by_cases hf : 2000 ≤ st.out.size
    · rw [if_pos hf]
      exact ⟨fun q => by omega, fun _ => rfl⟩
    · have hc : ¬ (tr = true ∧ ctxO (st.out ++ byt b) = -1) := by
        rintro ⟨q1, q2⟩
        refine h q1 ?_
        show scl (stp (ctxO st.out) b.toNat) r = -1
        rw [← hb, q2]; exact scl_lost r
      rw [if_neg hf, if_neg hc]
      obtain ⟨k1, k2⟩ := ih { st with out := st.out ++ byt b } he (fun q => by show scl (ctxO (st.out ++ byt b)) r ≠ -1; rw [hb]; exact h q) (by simp only; omega)
      refine ⟨fun q => ?_, fun q => k2 (by simp only; omega)⟩
      rw [k1 (by simp only; omega)]
      simp only [hm]
theorem txt_pp (tr : Bool) (nm : ByteArray) (st : Pst) (v : Pg1) (he : st.err = 0) (hs : st.steps ≤ 500) (ho : st.out.size ≤ 2000) (h : txtP nm (ctxO st.out) = some v) : PP st (txtF tr nm.data.toList st) v := by
  unfold txtP at h
  split at h
  · cases h
  · rename_i hn
    cases h
    obtain ⟨k1, k2⟩ := txt_err tr nm.data.toList st he (fun _ => hn) ho
    refine ⟨fun _ h2 => ⟨?_, ?_⟩, fun _ h2 => k2 h2, fun h1 _ => by simp at h1; omega⟩
    · rw [k1 h2, ← he]; simp
    · rw [ctxO_app, mkB_list]
/-- a step ahead of it -/
theorem PP.step {st s' : Pst} {v : Pg1} (h : PP { st with steps := st.steps + 1 } s' v) : PP st s' ⟨v.w, v.k + 1, v.x⟩ := by
  obtain ⟨a, b, c⟩ := h
  simp only at a b c
  refine ⟨fun h1 h2 => ?_, fun h1 h2 => b (by simp only at h1; omega) h2, fun h1 h2 => c (by simp only at h1; omega) h2⟩
  simp only at h1 h2
  obtain ⟨e1, e2⟩ := a (by omega) h2
  exact ⟨by rw [e1]; simp only [Nat.add_assoc, Nat.add_comm 1], e2⟩
theorem PP.late {st s' : Pst} {v : Pg1} (hs : 500 ≤ st.steps) (hk : 1 ≤ v.k) (he : s'.err = 12) : PP st s' v := ⟨fun h1 _ => by omega, fun h1 _ => by omega, fun _ _ => he⟩
def PlnOK (ts : List Tm) (tr : Bool) (B : Nds → List Dat → Int → Option Pg1) (n : Nat) : Prop := ∀ (b : Nds) (R : List Dat) (st : Pst) (v : Pg1), 500 ≤ st.steps + n → Fit st → st.err = 0 → B b R (ctxO st.out) = some v → PP st (pagF ts tr n b R st) v
theorem PP.fit {st s' : Pst} {v : Pg1} (h : PP st s' v) (hs : s'.err = 0) (hf : Fit st) (hb : st.out.size + v.w.length ≤ 2000 ∨ st.steps + v.k ≤ 500) : s' = ⟨st.out ++ mkB v.w, st.steps + v.k, 0⟩ ∧ ctxO s'.out = v.x := by
  by_cases h1 : st.steps + v.k ≤ 500
  · by_cases h2 : st.out.size + v.w.length ≤ 2000
    · obtain ⟨e1, e2⟩ := h.fits h1 h2
      exact ⟨e1, by rw [e1]; exact e2⟩
    · have := h.out h1 (by omega); rw [hs] at this; cases this
  · by_cases h2 : st.out.size + v.w.length ≤ 2000
    · have := h.steps (by omega) h2; rw [hs] at this; cases this
    · omega
theorem seqP_some {a : Option Pg1} {f : Int → Option Pg1} {v : Pg1} (h : seqP a f = some v) : ∃ u1 u2, a = some u1 ∧ f u1.x = some u2 ∧ v = ⟨u1.w ++ u2.w, u1.k + u2.k, u2.x⟩ := by
  unfold seqP at h
  split at h
  · cases h
  · rename_i u1
    split at h
    · cases h
    · rename_i u2 hu2
      cases h
      exact ⟨u1, u2, rfl, hu2, rfl⟩
theorem addK_some {a : Option Pg1} {v : Pg1} (h : addK a = some v) : ∃ u, a = some u ∧ v = ⟨u.w, u.k + 1, u.x⟩ := by
  unfold addK at h
  split at h
  · cases h
  · rename_i u
    cases h
    exact ⟨u, rfl, rfl⟩
theorem lop_pp {ts : List Tm} {tr : Bool} {B : Nds → List Dat → Int → Option Pg1} {m : Nat} (hm : PlnOK ts tr B m) (th : Nds) (R : List Dat) : ∀ (d : Dat) (st : Pst) (v : Pg1), 500 ≤ st.steps + m → Fit st → st.err = 0 → lopP B th R d (ctxO st.out) = some v → PP st (lopF (pagF ts tr m) th R d st) v
  | .nil, st, v, hs, hf, he, h => by
    simp only [lopP, Option.some.injEq] at h
    subst h; exact PP.none st he hf.2 hf.1
  | .fld _ _ _ _ _, st, v, hs, hf, he, h => by
    simp only [lopP, Option.some.injEq] at h
    subst h; exact PP.none st he hf.2 hf.1
  | .row f r, st, v, hs, hf, he, h => by
    simp only [lopP] at h
    obtain ⟨u1, u2, h1, h2, rfl⟩ := seqP_some h
    obtain ⟨u0, h0, rfl⟩ := addK_some h1
    simp only [lopF]
    have c1 : ¬ (st.err ≠ 0) := by simpa using he
    rw [if_neg c1]
    by_cases h5 : 500 ≤ st.steps
    · rw [if_pos h5]; exact PP.late h5 (by simp only; omega) rfl
    · rw [if_neg h5]
      have p1 := (hm th (R ++ [f]) { st with steps := st.steps + 1 } u0 (by simp only; omega) ⟨hf.1, by simp only; omega⟩ he h0).step
      have hst := pagF_steps ts tr m th (R ++ [f]) { st with steps := st.steps + 1 }
      have hft := pagF_fit ts tr m th (R ++ [f]) { st with steps := st.steps + 1 } ⟨hf.1, by simp only; omega⟩
      simp only at hst
      refine p1.seq (fun q => ?_) (fun q1 q2 => lop_pp hm th R r _ u2 (by omega) hft q1 (by rw [q2]; exact h2))
      cases r <;> simp [lopF, q]
theorem ins_pp {ts : List Tm} {tr : Bool} {B : Nds → List Dat → Int → Option Pg1} {m : Nat} (hm : PlnOK ts tr B m) (k : Int) (nm : ByteArray) (th el : Nds) (R : List Dat) (st : Pst) (v : Pg1) (hs : 500 ≤ st.steps + m) (hf : Fit st) (he : st.err = 0) (h : insP B ts R k nm th el (ctxO st.out) = some v) :
    PP st (insF (pagF ts tr m) ts R k nm th el st) v := by
  unfold insP at h
  unfold insF
  by_cases h5 : k = 5
  · rw [if_pos h5] at h ⊢; exact hm _ R st v hs hf he h
  · rw [if_neg h5] at h ⊢
    cases hl : lkp nm R with
    | none => rw [hl] at h; cases h
    | some x =>
      rw [hl] at h
      simp only at h ⊢
      unfold fldP at h
      unfold fldF
      by_cases h2 : k = 2
      · rw [if_pos h2] at h ⊢
        by_cases hx : x.2.1 = true
        · rw [if_pos hx] at h; cases h
        · rw [if_neg hx] at h ⊢
          by_cases ho : opB (ctxO st.out) = true
          · rw [if_pos ho] at h
            cases h
            have e : escB (ctxO st.out) x.2.2.1 = mkB (btsW (escL (ctxO st.out) x.2.2.1.data.toList)) := by
              apply ByteArray.ext
              apply Array.ext'
              show (strOfNums (escL (ctxO st.out) x.2.2.1.data.toList)).data.toList = _
              rw [numsW]; simp [mkB]
            have hc := ctxO_esc st.out x.2.2.1 ho
            unfold holF
            rw [if_pos ho, e]
            rw [e] at hc
            refine ⟨fun q1 q2 => ⟨?_, hc⟩, fun q1 q2 => ?_, fun q1 q2 => ?_⟩
            · simp only at q2
              rw [if_neg (by rw [mkB_size]; omega)]
              simp [he]
            · simp only at q2
              rw [if_pos (by rw [mkB_size]; omega)]
            · simp only at q1; have := hf.2; omega
          · rw [if_neg ho] at h; cases h
      · rw [if_neg h2] at h ⊢
        by_cases h3 : k = 3
        · rw [if_pos h3] at h ⊢
          by_cases hy : yesF x.2.1 x.2.2.1 x.2.2.2 = true
          · rw [if_pos hy] at h ⊢; exact hm _ R st v hs hf he h
          · rw [if_neg hy] at h ⊢; exact hm _ R st v hs hf he h
        · rw [if_neg h3] at h ⊢
          by_cases h4 : k = 4
          · rw [if_pos h4] at h ⊢
            by_cases hx : x.2.1 = true
            · rw [if_pos hx] at h ⊢; exact lop_pp hm th R _ st v hs hf he h
            · rw [if_neg hx] at h; cases h
          · rw [if_neg h4] at h; cases h
theorem bdy_pp {ts : List Tm} {tr : Bool} {B : Nds → List Dat → Int → Option Pg1} {n : Nat} (hm : ∀ m, n = m + 1 → PlnOK ts tr B m) (R : List Dat) : ∀ (b : Nds) (st : Pst) (v : Pg1), 500 ≤ st.steps + n → Fit st → st.err = 0 → bdyP B ts R b (ctxO st.out) = some v → PP st (bdyF (subF ts tr n) ts tr R b st) v
  | .nil, st, v, hs, hf, he, h => by
    simp only [bdyP, Option.some.injEq] at h
    subst h; exact PP.none st he hf.2 hf.1
  | .cons k a nm th el tw r, st, v, hs, hf, he, h => by
    simp only [bdyP] at h
    obtain ⟨u1, u2, h1, h2, rfl⟩ := seqP_some h
    simp only [bdyF]
    have c1 : ¬ (st.err ≠ 0) := by simpa using he
    rw [if_neg c1]
    by_cases hk : k = 1
    · rw [if_pos hk] at h1 ⊢
      have p1 := txt_pp tr nm st u1 he hf.2 hf.1 h1
      have hst := txtF_steps tr nm.data.toList st
      have hft := txtF_fit tr nm.data.toList st hf
      refine p1.seq (fun q => ?_) (fun q1 q2 => bdy_pp hm R r _ u2 (by omega) hft q1 (by rw [q2]; exact h2))
      cases r <;> simp [bdyF, q]
    · rw [if_neg hk] at h1 ⊢
      obtain ⟨u0, h0, rfl⟩ := addK_some h1
      have hst := pceF_steps (subF ts tr n) ts R (subF_steps ts tr n) k nm th el st
      have hft := pceF_fit (subF ts tr n) ts R (subF_fit ts tr n) k nm th el st hf
      have p1 : PP st (pceF (subF ts tr n) ts R k nm th el st) ⟨u0.w, u0.k + 1, u0.x⟩ := by
        unfold pceF
        by_cases h5 : 500 ≤ st.steps
        · rw [if_pos h5]; exact PP.late h5 (by simp only; omega) rfl
        · rw [if_neg h5]
          obtain ⟨m, rfl⟩ : ∃ m, n = m + 1 := ⟨n - 1, by omega⟩
          exact (ins_pp (hm m rfl) k nm th el R { st with steps := st.steps + 1 } u0 (by simp only; omega) ⟨hf.1, by simp only; omega⟩ he h0).step
      refine p1.seq (fun q => ?_) (fun q1 q2 => bdy_pp hm R r _ u2 (by omega) hft q1 (by rw [q2]; exact h2))
      cases r <;> simp [bdyF, q]
theorem pln_all (ts : List Tm) (tr : Bool) (m : Nat) : ∀ n, PlnOK ts tr (ppg ts m) n := by
  induction m with
  | zero =>
    intro n b R st v hs hf he h
    rw [pagF_eq]
    refine bdy_pp (B := fun _ _ _ => none) (fun m _ b R st v _ _ _ h => by cases h) R b st v hs hf he h
  | succ m ih =>
    intro n b R st v hs hf he h
    rw [pagF_eq]
    exact bdy_pp (fun k _ => ih k) R b st v hs hf he h
end Go.Proofs.Ytffkejkgkgfnhaa
/-
  WALKS OF ONE CONTEXT A PLACE. No Go.
-/
namespace Go.Proofs.Ytffkejkgkgfnhaa
open Go.RowKit
set_option linter.unusedVariables false
/-- where a walk ends, the holes it comes to, the calls -/
structure Wk where
  fin : Nat
  uses : List (Nat × Nat)
  calls : List (Nat × Nat)
def seqW (a : Option Wk) (f : Nat → Option Wk) : Option Wk := match a with
  | none => none
  | some v => match f v.fin with
    | none => none
    | some u => some ⟨u.fin, v.uses ++ u.uses, v.calls ++ u.calls⟩
def pieceW (C : Nat → Nat → Option Nat) (ts : List Tm) (k a : Int) (nm : ByteArray) (ft fe : Option Wk) (tw : Bool) (x : Nat) : Option Wk :=
  if k = 1 then (if scn x nm.data.toList = -1 then none else some ⟨(scn x nm.data.toList).toNat, [], []⟩)
  else if k = 2 then (if opS x = true then some ⟨x, [(a.toNat, x)], []⟩ else none)
  else if k = 3 then match ft with
    | none => none
    | some v => if tw = true then (match fe with
        | none => none
        | some u => if v.fin = u.fin then some ⟨v.fin, v.uses ++ u.uses, v.calls ++ u.calls⟩ else none) else if v.fin = x then some v else none
  else if k = 4 then match ft with
    | none => none
    | some v => if v.fin = x then some v else none
  else match C (tno ts nm) x with
    | none => none
    | some y => some ⟨y, [], [(tno ts nm, x)]⟩
def walkF (C : Nat → Nat → Option Nat) (ts : List Tm) : Nds → Nat → Option Wk
  | .nil, x => some ⟨x, [], []⟩
  | .cons k a nm th el tw r, x => seqW (pieceW C ts k a nm (walkF C ts th x) (walkF C ts el x) tw x) (walkF C ts r)
def EnC (C : Nat → Nat → Option Nat) : En := fun t x y => C t x = some y
structure WalkOK (ts : List Tm) (E : En) (ss : Cs → Cs) (ev : Cs → Ev → Prop) (x : Nat) (v : Wk) : Prop where
  sem : ss (one x) = one v.fin
  bad : ¬ ev (one x) .bad
  use : ∀ a c, ev (one x) (.use a c) ↔ (a, c) ∈ v.uses
  call : ∀ t c, ev (one x) (.call t c) ↔ (t, c) ∈ v.calls
theorem not_two (x : Nat) : ¬ two (one x) := by
  rintro ⟨a, b, h1, h2, h3⟩
  exact h3 (h1.trans h2.symm)
theorem cs_eq {S : Cs} {y : Nat} (h : ∀ z, S z ↔ z = y) : S = one y := funext fun z => propext (h z)
theorem lfp_one (f : Cs → Cs) (x : Nat) (h : f (one x) = one x) : lfp f (one x) = one x := by
  refine cs_eq fun z => ⟨fun hz => ?_, fun hz => ?_⟩
  · exact hz (one x) (fun _ q => q) (fun w hw => by rw [h] at hw; exact hw)
  · exact lfp_in _ _ _ hz
theorem piece_ok (C : Nat → Nat → Option Nat) (ts : List Tm) (k a : Int) (nm : ByteArray) (th el : Nds) (tw : Bool) (x : Nat) (v : Wk)
    (iht : ∀ u, walkF C ts th x = some u → WalkOK ts (EnC C) (sem ts (EnC C) th) (evt ts (EnC C) th) x u) (ihe : ∀ u, walkF C ts el x = some u → WalkOK ts (EnC C) (sem ts (EnC C) el) (evt ts (EnC C) el) x u)
    (h : pieceW C ts k a nm (walkF C ts th x) (walkF C ts el x) tw x = some v) :
    WalkOK ts (EnC C) (psem ts (EnC C) k nm (sem ts (EnC C) th) (sem ts (EnC C) el) tw) (pevt ts (EnC C) k a nm (sem ts (EnC C) th) (evt ts (EnC C) th) (evt ts (EnC C) el) tw) x v := by
  unfold pieceW at h
  by_cases h1 : k = 1
  · rw [if_pos h1] at h
    split at h
    · cases h
    · rename_i hn
      cases h
      have hr := scn_range x nm.data.toList
      refine ⟨cs_eq fun z => ?_, ?_, fun b c => ?_, fun t c => ?_⟩
      · unfold psem; rw [if_pos h1]
        constructor
        · rintro ⟨q, rfl, hq⟩; show z = (scn _ _).toNat; omega
        · intro e; exact ⟨x, rfl, by have : z = (scn x nm.data.toList).toNat := e; omega⟩
      · unfold pevt; rw [if_pos h1]; rintro ⟨_, q, rfl, hq⟩; exact hn hq
      · unfold pevt; rw [if_pos h1]; simp
      · unfold pevt; rw [if_pos h1]; simp
  · rw [if_neg h1] at h
    by_cases h2 : k = 2
    · rw [if_pos h2] at h
      split at h
      · rename_i ho
        cases h
        refine ⟨?_, ?_, fun b c => ?_, fun t c => ?_⟩
        · unfold psem; rw [if_neg h1, if_pos h2]
        · unfold pevt; rw [if_neg h1, if_pos h2]; rintro ⟨q, rfl, hq⟩; rw [if_pos ho] at hq; cases hq
        · unfold pevt; rw [if_neg h1, if_pos h2]
          constructor
          · rintro ⟨q, rfl, hq⟩; rw [if_pos ho] at hq; cases hq; simp
          · intro hq; simp at hq; exact ⟨x, rfl, by rw [if_pos ho, hq.1, hq.2]⟩
        · unfold pevt; rw [if_neg h1, if_pos h2]
          simp only [List.not_mem_nil, iff_false]
          rintro ⟨q, rfl, hq⟩; rw [if_pos ho] at hq; cases hq
      · cases h
    · rw [if_neg h2] at h
      by_cases h3 : k = 3
      · rw [if_pos h3] at h
        split at h
        · cases h
        · rename_i v1 hv1
          have o1 := iht v1 hv1
          split at h
          · rename_i htw
            split at h
            · cases h
            · rename_i u1 hu1
              have o2 := ihe u1 hu1
              split at h
              · rename_i he
                cases h
                refine ⟨cs_eq fun z => ?_, ?_, fun b c => ?_, fun t c => ?_⟩
                · unfold psem; rw [if_neg h1, if_neg h2, if_pos h3]
                  simp only [htw, if_true]
                  rw [o1.sem, o2.sem, ← he]
                  exact or_self_iff
                · unfold pevt; rw [if_neg h1, if_neg h2, if_pos h3]
                  rintro (q | ⟨_, q⟩)
                  · exact o1.bad q
                  · exact o2.bad q
                · unfold pevt; rw [if_neg h1, if_neg h2, if_pos h3, o1.use, o2.use]; simp [htw]
                · unfold pevt; rw [if_neg h1, if_neg h2, if_pos h3, o1.call, o2.call]; simp [htw]
              · cases h
          · rename_i htw
            split at h
            · rename_i he
              cases h
              have htw' : tw = false := by simpa using htw
              refine ⟨cs_eq fun z => ?_, ?_, fun b c => ?_, fun t c => ?_⟩
              · unfold psem; rw [if_neg h1, if_neg h2, if_pos h3, if_neg htw, o1.sem, he]
                exact or_self_iff
              · unfold pevt; rw [if_neg h1, if_neg h2, if_pos h3]
                rintro (q | ⟨q, _⟩)
                · exact o1.bad q
                · exact htw q
              · unfold pevt; rw [if_neg h1, if_neg h2, if_pos h3, o1.use]; simp [htw']
              · unfold pevt; rw [if_neg h1, if_neg h2, if_pos h3, o1.call]; simp [htw']
            · cases h
      · rw [if_neg h3] at h
        by_cases h4 : k = 4
        · rw [if_pos h4] at h
          split at h
          · cases h
          · rename_i v1 hv1
            have o1 := iht v1 hv1
            split at h
            · rename_i he
              cases h
              have hl : lfp (sem ts (EnC C) th) (one x) = one x := lfp_one _ _ (by rw [o1.sem, he])
              refine ⟨?_, ?_, fun b c => ?_, fun t c => ?_⟩
              · unfold psem; rw [if_neg h1, if_neg h2, if_neg h3, if_pos h4, hl, he]
              · unfold pevt; rw [if_neg h1, if_neg h2, if_neg h3, if_pos h4, hl]; exact o1.bad
              · unfold pevt; rw [if_neg h1, if_neg h2, if_neg h3, if_pos h4, hl]; exact o1.use b c
              · unfold pevt; rw [if_neg h1, if_neg h2, if_neg h3, if_pos h4, hl]; exact o1.call t c
            · cases h
        · rw [if_neg h4] at h
          split at h
          · cases h
          · rename_i y hy
            cases h
            refine ⟨cs_eq fun z => ?_, ?_, fun b c => ?_, fun t c => ?_⟩
            · unfold psem; rw [if_neg h1, if_neg h2, if_neg h3, if_neg h4]
              constructor
              · rintro ⟨q, rfl, hq⟩
                have hq' : C (tno ts nm) q = some z := hq
                rw [hy] at hq'; cases hq'; rfl
              · intro e
                have e' : z = y := e
                subst e'
                exact ⟨x, rfl, hy⟩
            · unfold pevt; rw [if_neg h1, if_neg h2, if_neg h3, if_neg h4]; rintro ⟨q, _, hq⟩; cases hq
            · unfold pevt; rw [if_neg h1, if_neg h2, if_neg h3, if_neg h4]; simp
            · unfold pevt; rw [if_neg h1, if_neg h2, if_neg h3, if_neg h4]
              constructor
              · rintro ⟨q, rfl, hq⟩; cases hq; simp
              · intro hq; simp at hq; exact ⟨x, rfl, by rw [hq.1, hq.2]⟩
theorem walk_ok (C : Nat → Nat → Option Nat) (ts : List Tm) : ∀ (b : Nds) (x : Nat) (v : Wk), walkF C ts b x = some v → WalkOK ts (EnC C) (sem ts (EnC C) b) (evt ts (EnC C) b) x v
  | .nil, x, v, h => by
    simp only [walkF, Option.some.injEq] at h
    subst h
    exact ⟨rfl, fun q => not_two x q.2, fun a c => by simp [evt], fun t c => by simp [evt]⟩
  | .cons k a nm th el tw r, x, v, h => by
    simp only [walkF, seqW] at h
    split at h
    · cases h
    · rename_i v1 hv1
      split at h
      · cases h
      · rename_i u1 hu1
        cases h
        have o1 := piece_ok C ts k a nm th el tw x v1 (fun u hu => walk_ok C ts th x u hu) (fun u hu => walk_ok C ts el x u hu) hv1
        have o2 := walk_ok C ts r v1.fin u1 hu1
        refine ⟨?_, ?_, fun b c => ?_, fun t c => ?_⟩
        · show sem ts (EnC C) r (psem ts (EnC C) k nm (sem ts (EnC C) th) (sem ts (EnC C) el) tw (one x)) = _
          rw [o1.sem, o2.sem]
        · rintro (⟨_, q⟩ | q | q)
          · exact not_two x q
          · exact o1.bad q
          · rw [o1.sem] at q; exact o2.bad q
        · show (_ ∨ _ ∨ evt ts (EnC C) r (psem ts (EnC C) k nm (sem ts (EnC C) th) (sem ts (EnC C) el) tw (one x)) _) ↔ _
          rw [o1.sem, o1.use, o2.use]; simp
        · show (_ ∨ _ ∨ evt ts (EnC C) r (psem ts (EnC C) k nm (sem ts (EnC C) th) (sem ts (EnC C) el) tw (one x)) _) ↔ _
          rw [o1.sem, o1.call, o2.call]; simp
/-- the walks, all of them known: nothing is wrong -/
theorem not_bad (C : Nat → Nat → Option Nat) (ts : List Tm) (t0 : Nat) (h0 : C t0 0 = some 0) (hC : ∀ t x y, C t x = some y → ∃ v, walkF C ts (bod ts t) x = some v ∧ v.fin = y ∧ ∀ q ∈ v.calls, ∃ z, C q.1 q.2 = some z) :
    Closed ts t0 (fun t x => ∃ y, C t x = some y) (EnC C) ∧ ¬ TBad ts t0 := by
  have cl : Closed ts t0 (fun t x => ∃ y, C t x = some y) (EnC C) := by
    refine ⟨⟨0, h0⟩, fun t x y hB hs => ?_, fun t x t' x' hB he => ?_⟩
    · obtain ⟨z, hz⟩ := hB
      obtain ⟨v, h1, h2, _⟩ := hC t x z hz
      have o := walk_ok C ts _ x v h1
      rw [o.sem] at hs
      have : y = v.fin := hs
      show C t x = some y
      rw [this, h2]; exact hz
    · obtain ⟨z, hz⟩ := hB
      obtain ⟨v, h1, _, h3⟩ := hC t x z hz
      have o := walk_ok C ts _ x v h1
      exact h3 _ ((o.call t' x').1 he)
  refine ⟨cl, ?_⟩
  rintro (⟨t, x, hB, he⟩ | ⟨y, hy, hE⟩)
  · obtain ⟨z, hz⟩ := hB _ _ cl
    obtain ⟨v, h1, _, _⟩ := hC t x z hz
    exact (walk_ok C ts _ x v h1).bad (evt_mono (fun t x y k => Es_le cl t x y k) _ _ _ _ (fun _ q => q) he)
  · have : C t0 0 = some y := hE _ _ cl
    rw [h0] at this
    cases this
    exact hy rfl
def C0 : Nat → Nat → Option Nat := fun _ _ => none
theorem piece_mono (C : Nat → Nat → Option Nat) (ts : List Tm) (k a : Int) (nm : ByteArray) (ft fe gt ge : Option Wk) (tw : Bool) (x : Nat) (v : Wk) (ht : ∀ u, ft = some u → gt = some u ∧ u.calls = []) (he : ∀ u, fe = some u → ge = some u ∧ u.calls = []) (h : pieceW C0 ts k a nm ft fe tw x = some v) : pieceW C ts k a nm gt ge tw x = some v ∧ v.calls = [] := by
  unfold pieceW at *
  by_cases h1 : k = 1
  · rw [if_pos h1] at h ⊢
    split at h
    · cases h
    · rename_i hn; cases h; rw [if_neg hn]; exact ⟨rfl, rfl⟩
  · rw [if_neg h1] at h ⊢
    by_cases h2 : k = 2
    · rw [if_pos h2] at h ⊢
      split at h
      · rename_i ho; cases h; rw [if_pos ho]; exact ⟨rfl, rfl⟩
      · cases h
    · rw [if_neg h2] at h ⊢
      by_cases h3 : k = 3
      · rw [if_pos h3] at h ⊢
        cases hft : ft with
        | none => rw [hft] at h; cases h
        | some v1 =>
          rw [hft] at h
          obtain ⟨e1, e2⟩ := ht v1 hft
          rw [e1]
          simp only at h ⊢
          by_cases htw : tw = true
          · rw [if_pos htw] at h ⊢
            cases hfe : fe with
            | none => rw [hfe] at h; cases h
            | some u1 =>
              rw [hfe] at h
              obtain ⟨f1, f2⟩ := he u1 hfe
              rw [f1]
              simp only at h ⊢
              by_cases hq : v1.fin = u1.fin
              · rw [if_pos hq] at h ⊢; cases h; exact ⟨rfl, by simp [e2, f2]⟩
              · rw [if_neg hq] at h; cases h
          · rw [if_neg htw] at h ⊢
            by_cases hq : v1.fin = x
            · rw [if_pos hq] at h ⊢; cases h; exact ⟨rfl, e2⟩
            · rw [if_neg hq] at h; cases h
      · rw [if_neg h3] at h ⊢
        by_cases h4 : k = 4
        · rw [if_pos h4] at h ⊢
          cases hft : ft with
          | none => rw [hft] at h; cases h
          | some v1 =>
            rw [hft] at h
            obtain ⟨e1, e2⟩ := ht v1 hft
            rw [e1]
            simp only at h ⊢
            by_cases hq : v1.fin = x
            · rw [if_pos hq] at h ⊢; cases h; exact ⟨rfl, e2⟩
            · rw [if_neg hq] at h; cases h
        · rw [if_neg h4] at h
          simp [C0] at h
theorem walk_mono (C : Nat → Nat → Option Nat) (ts : List Tm) : ∀ (b : Nds) (x : Nat) (v : Wk), walkF C0 ts b x = some v → walkF C ts b x = some v ∧ v.calls = []
  | .nil, x, v, h => by
    simp only [walkF, Option.some.injEq] at h ⊢
    subst h; exact ⟨rfl, rfl⟩
  | .cons k a nm th el tw r, x, v, h => by
    simp only [walkF, seqW] at h ⊢
    cases hp : pieceW C0 ts k a nm (walkF C0 ts th x) (walkF C0 ts el x) tw x with
    | none => rw [hp] at h; cases h
    | some v1 =>
      rw [hp] at h
      obtain ⟨e1, e2⟩ := piece_mono C ts k a nm _ _ (walkF C ts th x) (walkF C ts el x) tw x v1 (fun u hu => walk_mono C ts th x u hu) (fun u hu => walk_mono C ts el x u hu) hp
      rw [e1]
      simp only at h ⊢
      cases hr : walkF C0 ts r v1.fin with
      | none => rw [hr] at h; cases h
      | some u1 =>
        rw [hr] at h
        obtain ⟨f1, f2⟩ := walk_mono C ts r v1.fin u1 hr
        rw [f1]
        simp only [Option.some.injEq] at h ⊢
        subst h
        exact ⟨rfl, by simp [e2, f2]⟩
def C1 (t0 : Nat) : Nat → Nat → Option Nat := fun t x => if t = t0 ∧ x = 0 then some 0 else none
/-- no calls: what Walks answers -/
theorem wspec_one (ts : List Tm) (nm : ByteArray) (v : Wk) (hf : 0 ≤ fndF nm ts 0) (hw : walkF C0 ts (bod ts (tno ts nm)) 0 = some v) (hv : v.fin = 0) (hs : Srt v.uses) (hr : ∀ p ∈ v.uses, p.2 < 24) : WSpec ts nm 0 v.uses := by
  obtain ⟨hw1, hc⟩ := walk_mono (C1 (tno ts nm)) ts _ 0 v hw
  have hC : ∀ t x y, C1 (tno ts nm) t x = some y → ∃ v, walkF (C1 (tno ts nm)) ts (bod ts t) x = some v ∧ v.fin = y ∧ ∀ q ∈ v.calls, ∃ z, C1 (tno ts nm) q.1 q.2 = some z := by
    intro t x y h
    unfold C1 at h
    split at h
    · rename_i e
      cases h
      obtain ⟨rfl, rfl⟩ := e
      exact ⟨v, hw1, hv, fun q hq => by rw [hc] at hq; cases hq⟩
    · cases h
  obtain ⟨cl, hb⟩ := not_bad _ ts (tno ts nm) (by simp [C1]) hC
  refine .inr ⟨hf, .inr ⟨hb, rfl, hs, fun p => ⟨fun hp => ⟨hr p hp, ?_⟩, fun ⟨_, t, x, hB, he⟩ => ?_⟩⟩⟩
  · have o := walk_ok C0 ts _ 0 v hw
    exact ⟨tno ts nm, 0, (true_closed ts (tno ts nm)).start, evt_mono (fun t x y k => by cases k) _ _ _ _ (fun _ q => q) ((o.use p.1 p.2).2 hp)⟩
  · obtain ⟨y, hy⟩ := hB _ _ cl
    unfold C1 at hy
    split at hy
    · rename_i e
      obtain ⟨rfl, rfl⟩ := e
      have o := walk_ok _ ts _ 0 v hw1
      exact (o.use p.1 p.2).1 (evt_mono (fun t x y k => Es_le cl t x y k) _ _ _ _ (fun _ q => q) he)
    · cases hy
end Go.Proofs.Ytffkejkgkgfnhaa
