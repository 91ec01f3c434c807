import Derived.Test.YtffkejkgkgfnhabGreatG29
import Derived.Test.YtffkejkgkgfnhabGreatG31
import Derived.Test.YtffkejkgkgfnhabGreatG18
import Derived.Test.YtffkejkgkgfnhabGreatG30
import Derived.Test.YtffkejkgkgfnhabGreatG06
import Derived.Deep.RegionLaw
/-
  THE PROGRAM's WAY THROUGH A BODY, as plain mathematics. No Go.
-/
namespace Go.Proofs.YtffkejkgkgfnhabGreat
set_option linter.unusedVariables false
def ebK (k : Int) : Bool := decide (k = 5 ∨ k = 7 ∨ k = 2)
/-- where a body ends; k: how deep one is in it -/
def bendF : List Ak → Nat → Nat → Nat
  | [], _, i => i
  | a :: r, k, i => if k = 0 ∧ ebK a.kind = true then i else bendF r (if a.kind = 4 ∨ a.kind = 6 then k + 1 else if a.kind = 7 then k - 1 else k) (i + 1)
theorem bend_ge (A : List Ak) : ∀ (k i : Nat), i ≤ bendF A k i := by
  induction A with
  | nil => intro k i; exact Nat.le_refl _
  | cons a r ih =>
    intro k i
    simp only [bendF]
    split
    · exact Nat.le_refl _
    · have := ih (if a.kind = 4 ∨ a.kind = 6 then k + 1 else if a.kind = 7 then k - 1 else k) (i + 1)
      omega
theorem bend_le (A : List Ak) : ∀ (k i : Nat), bendF A k i ≤ i + A.length := by
  induction A with
  | nil => intro k i; exact Nat.le_refl _
  | cons a r ih =>
    intro k i
    simp only [bendF]
    split
    · omega
    · have := ih (if a.kind = 4 ∨ a.kind = 6 then k + 1 else if a.kind = 7 then k - 1 else k) (i + 1)
      simp only [List.length_cons]; omega
theorem bend_stop (t : Ak) (rest : List Ak) (i : Nat) (h : ebK t.kind = true) : bendF (t :: rest) 0 i = i := by simp [bendF, h]
theorem Flat.bend {s : ByteArray} {d p e : Nat} {b : Nds} {B : List Ak} (h : Flat s d b p B e) : ∀ (rest : List Ak) (k i : Nat), bendF (B ++ rest) k i = bendF rest k (i + B.length) := by
  induction h with
  | nil d p => intro rest k i; rfl
  | text h _ ih => exact ih
  | @hole d p e r A h _ ih =>
    intro rest k i
    have e0 : ebK 3 = false := by decide
    have := ih rest k (i + 1)
    simp [bendF, e0, this]
    congr 1; omega
  | @call d p e r A h _ ih =>
    intro rest k i
    have e0 : ebK 8 = false := by decide
    have := ih rest k (i + 1)
    simp [bendF, e0, this]
    congr 1; omega
  | @loop d p e e1 th r A1 A hd h k1 h1 _ ih1 ih =>
    intro rest k i
    have e0 : ebK 6 = false := by decide
    have q1 := ih1 (⟨7, (act s e1).name, e1⟩ :: (A ++ rest)) (k + 1) (i + 1)
    have q2 := ih rest k (i + 1 + A1.length + 1)
    simp [bendF, e0, q1, q2]
    congr 1; omega
  | @one d p e e1 th r A1 A hd h k1 h1 _ ih1 ih =>
    intro rest k i
    have e0 : ebK 4 = false := by decide
    have q1 := ih1 (⟨7, (act s e1).name, e1⟩ :: (A ++ rest)) (k + 1) (i + 1)
    have q2 := ih rest k (i + 1 + A1.length + 1)
    simp [bendF, e0, q1, q2]
    congr 1; omega
  | @two d p e e1 e2 th el r A1 A2 A hd h k1 h1 k2 h2 _ ih1 ih2 ih =>
    intro rest k i
    have e0 : ebK 4 = false := by decide
    have q1 := ih1 (⟨5, (act s e1).name, e1⟩ :: (A2 ++ ⟨7, (act s e2).name, e2⟩ :: (A ++ rest))) (k + 1) (i + 1)
    have q2 := ih2 (⟨7, (act s e2).name, e2⟩ :: (A ++ rest)) (k + 1) (i + 1 + A1.length + 1)
    have q3 := ih rest k (i + 1 + A1.length + 1 + A2.length + 1)
    simp [bendF, e0, q1, q2, q3]
    congr 1; omega
def kAt (A : List Ak) (i : Nat) : Int := match A[i]? with
  | some a => a.kind
  | none => 0
theorem kAt_in (A : List Ak) (i : Nat) (h : i < A.length) : kAt A i = A[i].kind := by simp [kAt, h]
theorem kAt_mid (pre rest : List Ak) (a : Ak) : kAt (pre ++ a :: rest) pre.length = a.kind := by simp [kAt]
def endI (A : List Ak) (i : Nat) : Nat := bendF (A.drop i) 0 i
/-- behind a piece -/
def behF (A : List Ak) (i : Nat) : Nat :=
  if kAt A i ≠ 4 ∧ kAt A i ≠ 6 then i + 1 else if kAt A (endI A (i + 1)) = 5 then endI A (endI A (i + 1) + 1) + 1 else endI A (i + 1) + 1
theorem behF_gt (A : List Ak) (i : Nat) : i < behF A i := by
  have h1 := bend_ge (A.drop (i + 1)) 0 (i + 1)
  have h2 := bend_ge (A.drop (endI A (i + 1) + 1)) 0 (endI A (i + 1) + 1)
  unfold behF
  unfold endI at *
  (repeat' split) <;> omega
/-- the body that begins at an action -/
def BodAt (s : ByteArray) (A : List Ak) (i : Nat) (b : Nds) : Prop :=
  ∃ (pre B rest : List Ak) (t : Ak) (d e : Nat), A = pre ++ (B ++ t :: rest) ∧ pre.length = i ∧ Flat s d b (lastN s 0 pre) B e ∧ t.at' = e ∧ ebK t.kind = true ∧ e ≤ s.size
inductive HdQ (s : ByteArray) (A : List Ak) (i : Nat) (a : Ak) : Nds → Prop where
  | stop (h : ebK a.kind = true) : HdQ s A i a .nil
  | hole (h : a.kind = 3) (at' : Int) (r : Nds) (k : BodAt s A (behF A i) r) : HdQ s A i a (.cons 2 at' a.name .nil .nil false r)
  | call (h : a.kind = 8) (at' : Int) (r : Nds) (k : BodAt s A (behF A i) r) : HdQ s A i a (.cons 5 at' a.name .nil .nil false r)
  | loop (h : a.kind = 6) (at' : Int) (th r : Nds) (k1 : BodAt s A (i + 1) th) (k : BodAt s A (behF A i) r) : HdQ s A i a (.cons 4 at' a.name th .nil false r)
  | choice (h : a.kind = 4) (at' : Int) (th el r : Nds) (tw : Bool) (k1 : BodAt s A (i + 1) th) (k : BodAt s A (behF A i) r) (hj : endI A (i + 1) < A.length) (ho : (kAt A (endI A (i + 1)) = 5 ∧ BodAt s A (endI A (i + 1) + 1) el) ∨ (kAt A (endI A (i + 1)) ≠ 5 ∧ el = .nil)) : HdQ s A i a (.cons 3 at' a.name th el tw r)
theorem end_at {s : ByteArray} {d p e : Nat} {b : Nds} {A pre B rest : List Ak} {t : Ak} (h : Flat s d b p B e) (hA : A = pre ++ (B ++ t :: rest)) (ht : ebK t.kind = true) : endI A pre.length = pre.length + B.length := by
  unfold endI
  rw [hA, List.drop_left, h.bend, bend_stop t rest _ ht]
theorem beh_one (A : List Ak) (i : Nat) (h : kAt A i ≠ 4) (h' : kAt A i ≠ 6) : behF A i = i + 1 := by rw [behF, if_pos ⟨h, h'⟩]
theorem head_case {s : ByteArray} {d p e : Nat} {b : Nds} {B : List Ak} (h : Flat s d b p B e) (A pre rest : List Ak) (t : Ak) (hA : A = pre ++ (B ++ t :: rest)) (ht : t.at' = e) (hk : ebK t.kind = true) (he : e ≤ s.size) (hn : ¬ p < skp s txB p) :
    ∃ (a : Ak) (post : List Ak), A = pre ++ a :: post ∧ a.at' = p ∧ p ≤ s.size ∧ HdQ s A pre.length a b := by
  cases h with
  | nil => exact ⟨t, rest, by simpa using hA, ht, he, .stop hk⟩
  | text h k => exact absurd h hn
  | @hole _ _ _ r B h k =>
    have hx := act_next s p (by omega)
    have kk : kAt A pre.length = 3 := by rw [hA]; exact kAt_mid pre _ _
    refine ⟨⟨3, (act s p).name, p⟩, B ++ t :: rest, by simpa using hA, rfl, by omega, .hole rfl p r ?_⟩
    rw [beh_one A _ (by omega) (by omega)]
    exact ⟨pre ++ [⟨3, (act s p).name, p⟩], B, rest, t, d, e, by rw [hA]; simp, by simp, by rw [lastN_snoc]; exact k, ht, hk, he⟩
  | @call _ _ _ r B h k =>
    have hx := act_next s p (by omega)
    have kk : kAt A pre.length = 8 := by rw [hA]; exact kAt_mid pre _ _
    refine ⟨⟨8, (act s p).name, p⟩, B ++ t :: rest, by simpa using hA, rfl, by omega, .call rfl p r ?_⟩
    rw [beh_one A _ (by omega) (by omega)]
    exact ⟨pre ++ [⟨8, (act s p).name, p⟩], B, rest, t, d, e, by rw [hA]; simp, by simp, by rw [lastN_snoc]; exact k, ht, hk, he⟩
  | @loop _ _ _ e1 th r A1 B hd h k1 h1 k =>
    have hx := act_next s p (by omega)
    have hx1 := act_next s e1 (by omega)
    have kk : kAt A pre.length = 6 := by rw [hA]; exact kAt_mid pre _ _
    have hA1 : A = (pre ++ [⟨6, (act s p).name, p⟩]) ++ (A1 ++ ⟨7, (act s e1).name, e1⟩ :: (B ++ t :: rest)) := by rw [hA]; simp
    have hA2 : A = (pre ++ [⟨6, (act s p).name, p⟩] ++ A1) ++ ⟨7, (act s e1).name, e1⟩ :: (B ++ t :: rest) := by rw [hA]; simp
    have e7 : ebK 7 = true := by decide
    have hen := end_at k1 hA1 e7
    have hl1 : (pre ++ [(⟨6, (act s p).name, p⟩ : Ak)]).length = pre.length + 1 := by simp
    rw [hl1] at hen
    have hl2 : (pre ++ [(⟨6, (act s p).name, p⟩ : Ak)] ++ A1).length = pre.length + 1 + A1.length := by simp; omega
    have k7 : kAt A (pre.length + 1 + A1.length) = 7 := by rw [hA2, ← hl2]; exact kAt_mid _ _ _
    have hb : behF A pre.length = pre.length + 1 + A1.length + 1 := by rw [behF, if_neg (by omega), hen, if_neg (by omega)]
    refine ⟨⟨6, (act s p).name, p⟩, _, by rw [hA]; simp; rfl, rfl, by omega, .loop rfl p th r ?_ ?_⟩
    · exact ⟨_, A1, _, _, _, e1, hA1, hl1, by rw [lastN_snoc]; exact k1, rfl, e7, by omega⟩
    · rw [hb]
      exact ⟨pre ++ [⟨6, (act s p).name, p⟩] ++ A1 ++ [⟨7, (act s e1).name, e1⟩], B, rest, t, d, e, by rw [hA]; simp, by simp; omega, by rw [lastN_snoc]; exact k, ht, hk, he⟩
  | @one _ _ _ e1 th r A1 B hd h k1 h1 k =>
    have hx := act_next s p (by omega)
    have hx1 := act_next s e1 (by omega)
    have kk : kAt A pre.length = 4 := by rw [hA]; exact kAt_mid pre _ _
    have hA1 : A = (pre ++ [⟨4, (act s p).name, p⟩]) ++ (A1 ++ ⟨7, (act s e1).name, e1⟩ :: (B ++ t :: rest)) := by rw [hA]; simp
    have hA2 : A = (pre ++ [⟨4, (act s p).name, p⟩] ++ A1) ++ ⟨7, (act s e1).name, e1⟩ :: (B ++ t :: rest) := by rw [hA]; simp
    have e7 : ebK 7 = true := by decide
    have hen := end_at k1 hA1 e7
    have hl1 : (pre ++ [(⟨4, (act s p).name, p⟩ : Ak)]).length = pre.length + 1 := by simp
    rw [hl1] at hen
    have hl2 : (pre ++ [(⟨4, (act s p).name, p⟩ : Ak)] ++ A1).length = pre.length + 1 + A1.length := by simp; omega
    have k7 : kAt A (pre.length + 1 + A1.length) = 7 := by rw [hA2, ← hl2]; exact kAt_mid _ _ _
    have hb : behF A pre.length = pre.length + 1 + A1.length + 1 := by rw [behF, if_neg (by omega), hen, if_neg (by omega)]
    have hAl : pre.length + 1 + A1.length < A.length := by rw [hA2, List.length_append, hl2]; simp
    refine ⟨⟨4, (act s p).name, p⟩, _, by rw [hA]; simp; rfl, rfl, by omega, .choice rfl p th .nil r false ?_ ?_ (by rw [hen]; exact hAl) (.inr ⟨by rw [hen]; omega, rfl⟩)⟩
    · exact ⟨_, A1, _, _, _, e1, hA1, hl1, by rw [lastN_snoc]; exact k1, rfl, e7, by omega⟩
    · rw [hb]
      exact ⟨pre ++ [⟨4, (act s p).name, p⟩] ++ A1 ++ [⟨7, (act s e1).name, e1⟩], B, rest, t, d, e, by rw [hA]; simp, by simp; omega, by rw [lastN_snoc]; exact k, ht, hk, he⟩
  | @two _ _ _ e1 e2 th el r A1 A2 B hd h k1 h1 k2 h2 k =>
    have hx := act_next s p (by omega)
    have hx1 := act_next s e1 (by omega)
    have hx2 := act_next s e2 (by omega)
    have kk : kAt A pre.length = 4 := by rw [hA]; exact kAt_mid pre _ _
    have hA1 : A = (pre ++ [⟨4, (act s p).name, p⟩]) ++ (A1 ++ ⟨5, (act s e1).name, e1⟩ :: (A2 ++ ⟨7, (act s e2).name, e2⟩ :: (B ++ t :: rest))) := by rw [hA]; simp
    have hA2 : A = (pre ++ [⟨4, (act s p).name, p⟩] ++ A1) ++ ⟨5, (act s e1).name, e1⟩ :: (A2 ++ ⟨7, (act s e2).name, e2⟩ :: (B ++ t :: rest)) := by rw [hA]; simp
    have hA3 : A = (pre ++ [⟨4, (act s p).name, p⟩] ++ A1 ++ [⟨5, (act s e1).name, e1⟩]) ++ (A2 ++ ⟨7, (act s e2).name, e2⟩ :: (B ++ t :: rest)) := by rw [hA]; simp
    have e7 : ebK 7 = true := by decide
    have e5 : ebK 5 = true := by decide
    have hen := end_at k1 hA1 e5
    have hl1 : (pre ++ [(⟨4, (act s p).name, p⟩ : Ak)]).length = pre.length + 1 := by simp
    rw [hl1] at hen
    have hl2 : (pre ++ [(⟨4, (act s p).name, p⟩ : Ak)] ++ A1).length = pre.length + 1 + A1.length := by simp; omega
    have k5 : kAt A (pre.length + 1 + A1.length) = 5 := by rw [hA2, ← hl2]; exact kAt_mid _ _ _
    have hl3 : (pre ++ [(⟨4, (act s p).name, p⟩ : Ak)] ++ A1 ++ [(⟨5, (act s e1).name, e1⟩ : Ak)]).length = pre.length + 1 + A1.length + 1 := by simp; omega
    have hen2 := end_at k2 hA3 e7
    rw [hl3] at hen2
    have hb : behF A pre.length = pre.length + 1 + A1.length + 1 + A2.length + 1 := by rw [behF, if_neg (by omega), hen, if_pos (by omega), hen2]
    have hAl : pre.length + 1 + A1.length < A.length := by rw [hA2, List.length_append, hl2]; simp
    refine ⟨⟨4, (act s p).name, p⟩, _, by rw [hA]; simp; rfl, rfl, by omega, .choice rfl p th el r true ?_ ?_ (by rw [hen]; exact hAl) (.inl ⟨by rw [hen]; exact k5, ?_⟩)⟩
    · exact ⟨_, A1, _, _, _, e1, hA1, hl1, by rw [lastN_snoc]; exact k1, rfl, e5, by omega⟩
    · rw [hb]
      exact ⟨pre ++ [⟨4, (act s p).name, p⟩] ++ A1 ++ [⟨5, (act s e1).name, e1⟩] ++ A2 ++ [⟨7, (act s e2).name, e2⟩], B, rest, t, d, e, by rw [hA]; simp, by simp; omega, by rw [lastN_snoc]; exact k, ht, hk, he⟩
    · rw [hen]
      exact ⟨_, A2, _, _, _, e2, hA3, hl3, by rw [lastN_snoc]; exact k2, rfl, e7, by omega⟩
theorem skp_twice (s : ByteArray) (p : Nat) : ¬ skp s txB p < skp s txB (skp s txB p) := by
  by_cases h : skp s txB p < s.size
  · rw [skp_stop s txB _ h (skp_at s txB p h)]; omega
  · rw [skp_end s txB _ h]; omega
theorem hdA_mid (s : ByteArray) (pre rest : List Ak) (a : Ak) : hdA s (pre ++ a :: rest) pre.length = s.extract (lastN s 0 pre) a.at' := by
  simp [hdA]
theorem ext_none (s : ByteArray) (a : Nat) : (s.extract a a).data.toList = [] := by rw [Lib.extract_data]; simp
/-- one turn of the program's way: the text ahead of an action, then what begins there -/
theorem body_step {s : ByteArray} {A : List Ak} {i : Nat} {b : Nds} (h : BodAt s A i b) :
    ∃ (hi : i < A.length) (r0 : Nds), HdQ s A i A[i] r0 ∧ (hdA s A i).size ≤ s.size ∧ ∀ (B : Nds → List Dat → Pst → Pst) (ts : List Tm) (R : List Dat) (st : Pst), st.err = 0 → bdyF B ts true R b st = bdyF B ts true R r0 (txtF true (hdA s A i).data.toList st) := by
  obtain ⟨pre, B, rest, t, d, e, hA, rfl, hf, ht, hk, he⟩ := h
  have fin : ∀ {r0 : Nds} {p : Nat}, (∃ (a : Ak) (post : List Ak), A = pre ++ a :: post ∧ a.at' = p ∧ p ≤ s.size ∧ HdQ s A pre.length a r0) → ∃ (hi : pre.length < A.length), HdQ s A pre.length A[pre.length] r0 ∧ hdA s A pre.length = s.extract (lastN s 0 pre) p ∧ (hdA s A pre.length).size ≤ s.size := by
    rintro r0 p ⟨a, post, q1, q2, q3, q4⟩
    have hi : pre.length < A.length := by rw [q1]; simp
    have ha : A[pre.length] = a := by
      have : A[pre.length]? = some a := by rw [q1]; simp
      rw [List.getElem?_eq_getElem hi] at this
      simpa using this
    have hh : hdA s A pre.length = s.extract (lastN s 0 pre) p := by rw [q1, hdA_mid, q2]
    exact ⟨hi, by rw [ha]; exact q4, hh, by rw [hh, ext_size s _ _ q3]; omega⟩
  by_cases hn : lastN s 0 pre < skp s txB (lastN s 0 pre)
  · cases hf with
    | nil =>
      obtain ⟨hi, q1, q2, q3⟩ := fin ⟨t, rest, by simpa using hA, ht, he, .stop hk⟩
      refine ⟨hi, .nil, q1, q3, fun B ts R st hst => ?_⟩
      rw [q2, ext_none]; rfl
    | @text _ _ _ r _ h k =>
      obtain ⟨hi, q1, q2, q3⟩ := fin (head_case k A pre rest t hA ht hk he (skp_twice s _))
      refine ⟨hi, r, q1, q3, fun B ts R st hst => ?_⟩
      rw [q2]
      simp [bdyF, hst]
    | hole h k => have := text_no s _ hn; omega
    | call h k => have := text_no s _ hn; omega
    | loop hd h k1 h1 k => have := text_no s _ hn; omega
    | one hd h k1 h1 k => have := text_no s _ hn; omega
    | two hd h k1 h1 k2 h2 k => have := text_no s _ hn; omega
  · obtain ⟨hi, q1, q2, q3⟩ := fin (head_case hf A pre rest t hA ht hk he hn)
    refine ⟨hi, b, q1, q3, fun B ts R st hst => ?_⟩
    rw [q2, ext_none]; rfl
theorem body_err (B : Nds → List Dat → Pst → Pst) (ts : List Tm) (R : List Dat) (r : Nds) (st : Pst) (h : st.err ≠ 0) : bdyF B ts true R r st = st := by
  cases r <;> simp [bdyF, h]
theorem body_go (B : Nds → List Dat → Pst → Pst) (ts : List Tm) (R : List Dat) (k at' : Int) (nm : ByteArray) (th el r : Nds) (tw : Bool) (st : Pst) (h : st.err = 0) (hk : k ≠ 1) : bdyF B ts true R (.cons k at' nm th el tw r) st = bdyF B ts true R r (pceF B ts R k nm th el st) := by
  simp [bdyF, h, hk]
theorem un_all (has : ByteArray → Bool) : ∀ (A : List Ak), unA has A < 0 → ∀ (i : Nat) (hi : i < A.length), A[i].kind = 8 → has A[i].name = true
  | [], _, i, hi, _ => absurd hi (by simp)
  | a :: r, h, i, hi, hk => by
    have e : unA has (a :: r) = if a.kind = 8 ∧ has a.name = false then (a.at' : Int) else unA has r := rfl
    rw [e] at h
    split at h
    · omega
    · rename_i hh
      cases i with
      | zero =>
        cases hq : has a.name
        · exact absurd ⟨hk, hq⟩ hh
        · exact hq
      | succ i => exact un_all has r h i (by simpa using hi) hk
/-- the body of a template begins behind its first action -/
theorem Plc.body {s : ByteArray} {ts : List Tm} {A : List Ak} {β : Nat → Nat} (h : Plc s ts A β) (t : Nat) (ht : t < ts.length) : BodAt s A (β t + 1) (bod ts t) := by
  obtain ⟨pre, B, post, nmE, e, hA, hpl, hfl, he⟩ := h.at' t ht
  rw [bod_at t ht]
  exact ⟨pre ++ [⟨1, ts[t].name, ts[t].at'⟩], B, post, ⟨2, nmE, e⟩, 0, e, by rw [hA]; simp, by simp [hpl], by rw [lastN_snoc]; exact hfl, rfl, by show ebK 2 = true; decide, he⟩
theorem pc_pos (c : Int) (u : UInt8) : 1 ≤ (pc c u.toNat).length := by
  unfold pc pV pL pQ pT
  (repeat' split) <;> simp
theorem mid_ge (c : Int) (l : List UInt8) : l.length ≤ (mid c l).length := by
  induction l with
  | nil => simp
  | cons u r ih =>
    have e : mid c (u :: r) = pc c u.toNat ++ mid c r := by simp [mid]
    have := pc_pos c u
    rw [e, List.length_append, List.length_cons]; omega
theorem escB_ge (c : Int) (t : ByteArray) : t.size ≤ (escB c t).size := by
  have h := mid_ge c t.data.toList
  unfold escB
  rw [strOfNums_size, escL, acc, List.length_append, List.length_append]
  have : t.data.toList.length = t.size := rfl
  omega
end Go.Proofs.YtffkejkgkgfnhabGreat
namespace Go.Proofs.YtffkejkgkgfnhabGreat
open Go.RowKit
set_option linter.unusedVariables false
def opC (l : List (Int × Int)) : List Value := l.flatMap fun p => [.int .i64 p.1, .int .i64 p.2]
structure PkOK (w : World) (P B : Nat) (oa : Option Addr) (oc : Nat) (ps : PS) : Prop where
  c0 : w.cell? ⟨P, 0, none⟩ = some (.int .i64 ps.now)
  c1 : w.cell? ⟨P, 1, none⟩ = some (.slice oa ps.op.length oc)
  f0 : w.frozen? ⟨P, 0, none⟩ = false
  f1 : w.frozen? ⟨P, 1, none⟩ = false
  own : w.ownsRow B 158 2 (.slice oa ps.op.length oc) ps.op.length (opC ps.op)
  lt : P < B
  le : B ≤ w.heap.size
  len : ps.op.length ≤ 1000
  ran : -1 ≤ ps.now ∧ ps.now ≤ 23
theorem PkOK.setNow {w : World} {P B : Nat} {oa : Option Addr} {oc : Nat} {ps : PS} (h : PkOK w P B oa oc ps) (x : Int) (hx : -1 ≤ x ∧ x ≤ 23) : PkOK (w.setCell ⟨P, 0, none⟩ (.int .i64 x)) P B oa oc { ps with now := x } := by
  obtain ⟨c0, c1, f0, f1, own, lt, le, len, ran⟩ := h
  refine ⟨cellS _ c0, (cellO w _ _ _ _ (by decide)).trans c1, by simpa using f0, by simpa using f1, own_far own (fun g hg => set_far w P 0 _ g (by have := (own.lt g hg).1; omega)), lt, by simpa using le, len, hx⟩
set_option maxHeartbeats 1000000 in
theorem p105 (w : World) (P B : Nat) (oa : Option Addr) (oc : Nat) (ps : PS) (t : ByteArray) (ht : t.size ≤ maxLen) (h : PkOK w P B oa oc ps) :
    Calls Tryz.prog 108 #[.pointer (some ⟨P, 0, none⟩), .string t] w fun e w' => e = .returned (.bool (decide (ps.now = -1 ∨ rdF ps.now t ≠ -1))) ∧ ChgB w w' P (.slice none 0 0) ∧ PkOK w' P B oa oc { ps with now := rdF ps.now t } := by
  have H := hidS h
  have Hs := hidS (fun wx => c16 ps.now t wx ht)
  obtain ⟨c0, c1, f0, f1, _⟩ := h
  have hr := rd_range ps.now t
  by_cases hn : ps.now = -1
  · have e1 : (ps.now == -1) = true := by simp [hn]
    have HR : Hid (rdF ps.now t = ps.now) := by show _ = _; rw [hn]; exact rd_none t
    go_enter Tryz.func108, Tryz.ntmps108
    go_wp2
    go_ret
    refine ⟨retS_bool (by simp [hn]), ChgB.refl _ _ _, ?_⟩
    rw [HR.out]; exact H.out
  · have e1 : (ps.now == -1) = false := by simp [hn]
    have e2 : scn ps.now t.data.toList = rdF ps.now t := by unfold rdF; rw [if_neg hn]
    rw [e2] at Hs
    have HW : Hid (PkOK (w.setCell ⟨P, 0, none⟩ (.int .i64 (rdF ps.now t))) P B oa oc { ps with now := rdF ps.now t }) := H.out.setNow _ hr
    have c0' : (w.setCell ⟨P, 0, none⟩ (.int .i64 (rdF ps.now t))).cell? ⟨P, 0, none⟩ = some (.int .i64 (rdF ps.now t)) := cellS _ c0
    clear e2
    generalize rdF ps.now t = R at *
    generalize ps.now = N at *
    go_enter Tryz.func108, Tryz.ntmps108
    go_wp2_with fail
    refine (Hs.out _).mono ?_
    rintro e w1 ⟨rfl, hw⟩
    obtain rfl := hw.symm
    go_wp2
    go_ret
    refine ⟨retS_bool ?_, (ChgB.refl _ _ _).set 0 _, HW.out⟩
    by_cases q : R = -1 <;> simp [q, hn]
theorem infoFork : (Tryz.prog.info? 158).map (fun i => (i.zero, i.size, i.bytes)) = some (some (.agg #[.int .i64 0, .int .i64 0]), 2, 16) := by kernel_rfl
theorem fork_cells (w : World) (a b : Int) : ∀ (j : Nat) (u : Value), [Value.int .i64 a, .int .i64 b][j]? = some u → (w.alloc (.cells #[.int .i64 a, .int .i64 b] 158)).cell? ((⟨w.heap.size, 0, none⟩ : Addr).add j) = some u := by
  intro j u hj
  match j, hj with
  | 0, hj => simp at hj; subst hj; simp [Addr.add]
  | 1, hj => simp at hj; subst hj; simp [Addr.add]
  | j + 2, hj => simp at hj
theorem fork_one (a b : Int) : ∀ u ∈ [Value.int .i64 a, .int .i64 b], u.oneCell' = true := by
  intro u hu; simp at hu; rcases hu with rfl | rfl <;> rfl
def POut (w w' : World) (P B : Nat) (oa : Option Addr) (oc n : Nat) (ps' : PS) : Prop :=
  ChgB w w' P (.slice oa n oc) ∧ ∃ oa' oc', PkOK w' P B oa' oc' ps' ∧ ((Value.slice oa' ps'.op.length oc').ownBlock = (Value.slice oa n oc).ownBlock ∨ ∃ g, w.heap.size ≤ g ∧ (Value.slice oa' ps'.op.length oc').ownBlock = some g)
set_option maxRecDepth 100000 in
set_option maxHeartbeats 1000000 in
theorem p113 (w : World) (P B : Nat) (oa : Option Addr) (oc : Nat) (ps : PS) (hl : ps.op.length < 1000) (h : PkOK w P B oa oc ps) :
    Calls Tryz.prog 123 #[.pointer (some ⟨P, 0, none⟩)] w fun e w' => e = .returned (.tuple #[]) ∧ POut w w' P B oa oc ps.op.length (enterF ps) := by
  obtain ⟨i0, hi, hz0, hz1, hz2⟩ := info_parts infoFork
  have H := hidS h
  obtain ⟨c0, c1, f0, f1, hown, hlt, hle, hlen, hran⟩ := h
  have hbw : P < w.heap.size := by omega
  go_enter Tryz.func123, Tryz.ntmps123
  have hneP : some P ≠ (Value.slice oa ps.op.length oc).ownBlock := fun e => by have := (hown.lt P e.symm).1; omega
  go_wp2
  go_region_law (refine step_append_lies _ rfl _ _ 144 rfl B 158 i0 (.agg #[.int .i64 0, .int .i64 0]) 2 16 Tryz.underlying144 hi hz0 hz1 hz2 rfl (by decide) _ _ _ rfl (by first | exact own_far (hown.alloc _) (fun _ _ => rfl) | exact own_far hown (fun _ _ => rfl)) ⟨w.heap.size, 0, none⟩ 1 1 [.int .i64 ps.now, .int .i64 ps.now] rfl rfl (by exact fork_cells w _ _) (fork_one _ _) (by decide) (by unfold maxLen; omega) (by omega) (by simp; omega) _ rfl ?_; intro g cap w1 hown1 hg1 hat1 hlt1; have hbk : w1.heap[P]? = w.heap[P]? := (hg1.block P (by simp; omega) hneP).trans (Below.heap_alloc _ _ _ hbw); have q1 : w1.cell? ⟨P, 1, none⟩ = some (.slice oa ps.op.length oc) := (World.cell?_of_block hbk).trans c1; have p1 : w1.frozen? ⟨P, 1, none⟩ = false := (World.frozen?_of_block hbk).trans f1)
  all_goals
    have q0 : w1.cell? ⟨P, 0, none⟩ = some (.int .i64 ps.now) := (World.cell?_of_block hbk).trans c0
    have p0 : w1.frozen? ⟨P, 0, none⟩ = false := (World.frozen?_of_block hbk).trans f0
    have hsz : w.heap.size ≤ w1.heap.size := by have := hg1.size; simp at this; omega
    have HC : Hid (ChgB w w1 P (.slice oa ps.op.length oc)) := by
      refine ⟨hg1.os, hg1.tape, hg1.output, hsz, fun j h1 h2 h3 => ?_⟩
      exact (hg1.block j (by simp; omega) h3).trans (Below.heap_alloc _ _ _ h1)
    have HST : Hid (PkOK (w1.setCell ⟨P, 1, none⟩ (.slice (some ⟨g, 0, none⟩) (ps.op.length + 1) cap)) P B (some ⟨g, 0, none⟩) cap (enterF ps)) := by
      have e : (enterF ps).op.length = ps.op.length + 1 := by simp [enterF]
      refine ⟨(cellO w1 _ _ _ _ (by decide)).trans q0, ?_, by simpa using p0, by simpa using p1, ?_, hlt, by simp; omega, by rw [e]; omega, hran⟩
      · rw [e]; exact cellS _ q1
      · rw [e]
        have e2 : opC (enterF ps).op = opC ps.op ++ [.int .i64 ps.now, .int .i64 ps.now] := by simp [opC, enterF]
        rw [e2]
        exact own_far hown1 (fun k hk => set_far w1 P 1 _ k (by have := (hown1.lt k hk).1; omega))
    have HO := hidS hat1
    clear hown1 hg1 hbk hown c0 c1 f0 f1 hat1
    go_wp2
    go_end0
    refine ⟨rfl, HC.out.set 1 _, some ⟨g, 0, none⟩, cap, HST.out, ?_⟩
    rcases HO.out with h1 | h1
    · exact .inl h1.symm
    · exact .inr ⟨g, by simp at h1; omega, rfl⟩
end Go.Proofs.YtffkejkgkgfnhabGreat
