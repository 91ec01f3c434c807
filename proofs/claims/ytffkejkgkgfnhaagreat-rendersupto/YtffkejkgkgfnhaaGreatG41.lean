import Derived.Test.YtffkejkgkgfnhaaGreatG40
import Derived.Test.YtffkejkgkgfnhaaGreatG24
import Derived.Test.YtffkejkgkgfnhaaGreatG22
import Derived.Test.YtffkejkgkgfnhaaGreatG31
import Derived.Test.YtffkejkgkgfnhaaGreatG39
import Derived.Test.YtffkejkgkgfnhaaGreatG30
import Derived.Test.YtffkejkgkgfnhaaGreatG26
/-
  THE PROGRAM's WAY THROUGH A BODY, as plain mathematics. No Go.
-/
namespace Go.Proofs.YtffkejkgkgfnhaaGreat
set_option linter.unusedVariables false
def ebK (k : Int) : Bool := decide (k = 5 ∨ k = 7 ∨ k = 2)
/-- where a body ends; k: how deep one is in it -/
def bendF : List Ak → Nat → Nat → Nat
  | [], _, i => i
  | a :: r, k, i => if k = 0 ∧ ebK a.kind = true then i else bendF r (if a.kind = 4 ∨ a.kind = 6 then k + 1 else if a.kind = 7 then k - 1 else k) (i + 1)
theorem bend_ge (A : List Ak) : ∀ (k i : Nat), i ≤ bendF A k i := by
  induction A with
  | nil => intro k i; exact Nat.le_refl _
  | cons a r ih =>
    intro k i
    simp only [bendF]
    split
    · exact Nat.le_refl _
    · have := ih (if a.kind = 4 ∨ a.kind = 6 then k + 1 else if a.kind = 7 then k - 1 else k) (i + 1)
      omega
theorem bend_le (A : List Ak) : ∀ (k i : Nat), bendF A k i ≤ i + A.length := by
  induction A with
  | nil => intro k i; exact Nat.le_refl _
  | cons a r ih =>
    intro k i
    simp only [bendF]
    split
    · omega
    · have := ih (if a.kind = 4 ∨ a.kind = 6 then k + 1 else if a.kind = 7 then k - 1 else k) (i + 1)
      simp only [List.length_cons]; omega
theorem bend_stop (t : Ak) (rest : List Ak) (i : Nat) (h : ebK t.kind = true) : bendF (t :: rest) 0 i = i := by simp [bendF, h]
theorem Flat.bend {s : ByteArray} {d p e : Nat} {b : Nds} {B : List Ak} (h : Flat s d b p B e) : ∀ (rest : List Ak) (k i : Nat), bendF (B ++ rest) k i = bendF rest k (i + B.length) := by
  induction h with
  | nil d p => intro rest k i; rfl
  | text h _ ih => exact ih
  | @hole d p e r A h _ ih =>
    intro rest k i
    have e0 : ebK 3 = false := by decide
    have := ih rest k (i + 1)
    simp [bendF, e0, this]
    congr 1; omega
  | @call d p e r A h _ ih =>
    intro rest k i
    have e0 : ebK 8 = false := by decide
    have := ih rest k (i + 1)
    simp [bendF, e0, this]
    congr 1; omega
  | @loop d p e e1 th r A1 A hd h k1 h1 _ ih1 ih =>
    intro rest k i
    have e0 : ebK 6 = false := by decide
    have q1 := ih1 (⟨7, (act s e1).name, e1⟩ :: (A ++ rest)) (k + 1) (i + 1)
    have q2 := ih rest k (i + 1 + A1.length + 1)
    simp [bendF, e0, q1, q2]
    congr 1; omega
  | @one d p e e1 th r A1 A hd h k1 h1 _ ih1 ih =>
    intro rest k i
    have e0 : ebK 4 = false := by decide
    have q1 := ih1 (⟨7, (act s e1).name, e1⟩ :: (A ++ rest)) (k + 1) (i + 1)
    have q2 := ih rest k (i + 1 + A1.length + 1)
    simp [bendF, e0, q1, q2]
    congr 1; omega
  | @two d p e e1 e2 th el r A1 A2 A hd h k1 h1 k2 h2 _ ih1 ih2 ih =>
    intro rest k i
    have e0 : ebK 4 = false := by decide
    have q1 := ih1 (⟨5, (act s e1).name, e1⟩ :: (A2 ++ ⟨7, (act s e2).name, e2⟩ :: (A ++ rest))) (k + 1) (i + 1)
    have q2 := ih2 (⟨7, (act s e2).name, e2⟩ :: (A ++ rest)) (k + 1) (i + 1 + A1.length + 1)
    have q3 := ih rest k (i + 1 + A1.length + 1 + A2.length + 1)
    simp [bendF, e0, q1, q2, q3]
    congr 1; omega
def kAt (A : List Ak) (i : Nat) : Int := match A[i]? with
  | some a => a.kind
  | none => 0
theorem kAt_in (A : List Ak) (i : Nat) (h : i < A.length) : kAt A i = A[i].kind := by simp [kAt, h]
theorem kAt_mid (pre rest : List Ak) (a : Ak) : kAt (pre ++ a :: rest) pre.length = a.kind := by simp [kAt]
def endI (A : List Ak) (i : Nat) : Nat := bendF (A.drop i) 0 i
/-- behind a piece -/
def behF (A : List Ak) (i : Nat) : Nat :=
  if kAt A i ≠ 4 ∧ kAt A i ≠ 6 then i + 1 else if kAt A (endI A (i + 1)) = 5 then endI A (endI A (i + 1) + 1) + 1 else endI A (i + 1) + 1
theorem behF_gt (A : List Ak) (i : Nat) : i < behF A i := by
  have h1 := bend_ge (A.drop (i + 1)) 0 (i + 1)
  have h2 := bend_ge (A.drop (endI A (i + 1) + 1)) 0 (endI A (i + 1) + 1)
  unfold behF
  unfold endI at *
  (repeat' split) <;> omega
/-- the body that begins at an action -/
def BodAt (s : ByteArray) (A : List Ak) (i : Nat) (b : Nds) : Prop :=
  ∃ (pre B rest : List Ak) (t : Ak) (d e : Nat), A = pre ++ (B ++ t :: rest) ∧ pre.length = i ∧ Flat s d b (lastN s 0 pre) B e ∧ t.at' = e ∧ ebK t.kind = true ∧ e ≤ s.size
inductive HdQ (s : ByteArray) (A : List Ak) (i : Nat) (a : Ak) : Nds → Prop where
  | stop (h : ebK a.kind = true) : HdQ s A i a .nil
  | hole (h : a.kind = 3) (at' : Int) (r : Nds) (k : BodAt s A (behF A i) r) : HdQ s A i a (.cons 2 at' a.name .nil .nil false r)
  | call (h : a.kind = 8) (at' : Int) (r : Nds) (k : BodAt s A (behF A i) r) : HdQ s A i a (.cons 5 at' a.name .nil .nil false r)
  | loop (h : a.kind = 6) (at' : Int) (th r : Nds) (k1 : BodAt s A (i + 1) th) (k : BodAt s A (behF A i) r) : HdQ s A i a (.cons 4 at' a.name th .nil false r)
  | choice (h : a.kind = 4) (at' : Int) (th el r : Nds) (tw : Bool) (k1 : BodAt s A (i + 1) th) (k : BodAt s A (behF A i) r) (hj : endI A (i + 1) < A.length) (ho : (kAt A (endI A (i + 1)) = 5 ∧ BodAt s A (endI A (i + 1) + 1) el) ∨ (kAt A (endI A (i + 1)) ≠ 5 ∧ el = .nil)) : HdQ s A i a (.cons 3 at' a.name th el tw r)
theorem end_at {s : ByteArray} {d p e : Nat} {b : Nds} {A pre B rest : List Ak} {t : Ak} (h : Flat s d b p B e) (hA : A = pre ++ (B ++ t :: rest)) (ht : ebK t.kind = true) : endI A pre.length = pre.length + B.length := by
  unfold endI
  rw [hA, List.drop_left, h.bend, bend_stop t rest _ ht]
theorem beh_one (A : List Ak) (i : Nat) (h : kAt A i ≠ 4) (h' : kAt A i ≠ 6) : behF A i = i + 1 := by rw [behF, if_pos ⟨h, h'⟩]
theorem head_case {s : ByteArray} {d p e : Nat} {b : Nds} {B : List Ak} (h : Flat s d b p B e) (A pre rest : List Ak) (t : Ak) (hA : A = pre ++ (B ++ t :: rest)) (ht : t.at' = e) (hk : ebK t.kind = true) (he : e ≤ s.size) (hn : ¬ p < skp s txB p) :
    ∃ (a : Ak) (post : List Ak), A = pre ++ a :: post ∧ a.at' = p ∧ p ≤ s.size ∧ HdQ s A pre.length a b := by
  cases h with
  | nil => exact ⟨t, rest, by simpa using hA, ht, he, .stop hk⟩
  | text h k => exact absurd h hn
  | @hole _ _ _ r B h k =>
    have hx := act_next s p (by omega)
    have kk : kAt A pre.length = 3 := by rw [hA]; exact kAt_mid pre _ _
    refine ⟨⟨3, (act s p).name, p⟩, B ++ t :: rest, by simpa using hA, rfl, by omega, .hole rfl p r ?_⟩
    rw [beh_one A _ (by omega) (by omega)]
    exact ⟨pre ++ [⟨3, (act s p).name, p⟩], B, rest, t, d, e, by rw [hA]; simp, by simp, by rw [lastN_snoc]; exact k, ht, hk, he⟩
  | @call _ _ _ r B h k =>
    have hx := act_next s p (by omega)
    have kk : kAt A pre.length = 8 := by rw [hA]; exact kAt_mid pre _ _
    refine ⟨⟨8, (act s p).name, p⟩, B ++ t :: rest, by simpa using hA, rfl, by omega, .call rfl p r ?_⟩
    rw [beh_one A _ (by omega) (by omega)]
    exact ⟨pre ++ [⟨8, (act s p).name, p⟩], B, rest, t, d, e, by rw [hA]; simp, by simp, by rw [lastN_snoc]; exact k, ht, hk, he⟩
  | @loop _ _ _ e1 th r A1 B hd h k1 h1 k =>
    have hx := act_next s p (by omega)
    have hx1 := act_next s e1 (by omega)
    have kk : kAt A pre.length = 6 := by rw [hA]; exact kAt_mid pre _ _
    have hA1 : A = (pre ++ [⟨6, (act s p).name, p⟩]) ++ (A1 ++ ⟨7, (act s e1).name, e1⟩ :: (B ++ t :: rest)) := by rw [hA]; simp
    have hA2 : A = (pre ++ [⟨6, (act s p).name, p⟩] ++ A1) ++ ⟨7, (act s e1).name, e1⟩ :: (B ++ t :: rest) := by rw [hA]; simp
    have e7 : ebK 7 = true := by decide
    have hen := end_at k1 hA1 e7
    have hl1 : (pre ++ [(⟨6, (act s p).name, p⟩ : Ak)]).length = pre.length + 1 := by simp
    rw [hl1] at hen
    have hl2 : (pre ++ [(⟨6, (act s p).name, p⟩ : Ak)] ++ A1).length = pre.length + 1 + A1.length := by simp; omega
    have k7 : kAt A (pre.length + 1 + A1.length) = 7 := by rw [hA2, ← hl2]; exact kAt_mid _ _ _
    have hb : behF A pre.length = pre.length + 1 + A1.length + 1 := by rw [behF, if_neg (by omega), hen, if_neg (by omega)]
    refine ⟨⟨6, (act s p).name, p⟩, _, by rw [hA]; simp; rfl, rfl, by omega, .loop rfl p th r ?_ ?_⟩
    · exact ⟨_, A1, _, _, _, e1, hA1, hl1, by rw [lastN_snoc]; exact k1, rfl, e7, by omega⟩
    · rw [hb]
      exact ⟨pre ++ [⟨6, (act s p).name, p⟩] ++ A1 ++ [⟨7, (act s e1).name, e1⟩], B, rest, t, d, e, by rw [hA]; simp, by simp; omega, by rw [lastN_snoc]; exact k, ht, hk, he⟩
  | @one _ _ _ e1 th r A1 B hd h k1 h1 k =>
    have hx := act_next s p (by omega)
    have hx1 := act_next s e1 (by omega)
    have kk : kAt A pre.length = 4 := by rw [hA]; exact kAt_mid pre _ _
    have hA1 : A = (pre ++ [⟨4, (act s p).name, p⟩]) ++ (A1 ++ ⟨7, (act s e1).name, e1⟩ :: (B ++ t :: rest)) := by rw [hA]; simp
    have hA2 : A = (pre ++ [⟨4, (act s p).name, p⟩] ++ A1) ++ ⟨7, (act s e1).name, e1⟩ :: (B ++ t :: rest) := by rw [hA]; simp
    have e7 : ebK 7 = true := by decide
    have hen := end_at k1 hA1 e7
    have hl1 : (pre ++ [(⟨4, (act s p).name, p⟩ : Ak)]).length = pre.length + 1 := by simp
    rw [hl1] at hen
    have hl2 : (pre ++ [(⟨4, (act s p).name, p⟩ : Ak)] ++ A1).length = pre.length + 1 + A1.length := by simp; omega
    have k7 : kAt A (pre.length + 1 + A1.length) = 7 := by rw [hA2, ← hl2]; exact kAt_mid _ _ _
    have hb : behF A pre.length = pre.length + 1 + A1.length + 1 := by rw [behF, if_neg (by omega), hen, if_neg (by omega)]
    have hAl : pre.length + 1 + A1.length < A.length := by rw [hA2, List.length_append, hl2]; simp
    refine ⟨⟨4, (act s p).name, p⟩, _, by rw [hA]; simp; rfl, rfl, by omega, .choice rfl p th .nil r false ?_ ?_ (by rw [hen]; exact hAl) (.inr ⟨by rw [hen]; omega, rfl⟩)⟩
    · exact ⟨_, A1, _, _, _, e1, hA1, hl1, by rw [lastN_snoc]; exact k1, rfl, e7, by omega⟩
    · rw [hb]
      exact ⟨pre ++ [⟨4, (act s p).name, p⟩] ++ A1 ++ [⟨7, (act s e1).name, e1⟩], B, rest, t, d, e, by rw [hA]; simp, by simp; omega, by rw [lastN_snoc]; exact k, ht, hk, he⟩
  | @two _ _ _ e1 e2 th el r A1 A2 B hd h k1 h1 k2 h2 k =>
    have hx := act_next s p (by omega)
    have hx1 := act_next s e1 (by omega)
    have hx2 := act_next s e2 (by omega)
    have kk : kAt A pre.length = 4 := by rw [hA]; exact kAt_mid pre _ _
    have hA1 : A = (pre ++ [⟨4, (act s p).name, p⟩]) ++ (A1 ++ ⟨5, (act s e1).name, e1⟩ :: (A2 ++ ⟨7, (act s e2).name, e2⟩ :: (B ++ t :: rest))) := by rw [hA]; simp
    have hA2 : A = (pre ++ [⟨4, (act s p).name, p⟩] ++ A1) ++ ⟨5, (act s e1).name, e1⟩ :: (A2 ++ ⟨7, (act s e2).name, e2⟩ :: (B ++ t :: rest)) := by rw [hA]; simp
    have hA3 : A = (pre ++ [⟨4, (act s p).name, p⟩] ++ A1 ++ [⟨5, (act s e1).name, e1⟩]) ++ (A2 ++ ⟨7, (act s e2).name, e2⟩ :: (B ++ t :: rest)) := by rw [hA]; simp
    have e7 : ebK 7 = true := by decide
    have e5 : ebK 5 = true := by decide
    have hen := end_at k1 hA1 e5
    have hl1 : (pre ++ [(⟨4, (act s p).name, p⟩ : Ak)]).length = pre.length + 1 := by simp
    rw [hl1] at hen
    have hl2 : (pre ++ [(⟨4, (act s p).name, p⟩ : Ak)] ++ A1).length = pre.length + 1 + A1.length := by simp; omega
    have k5 : kAt A (pre.length + 1 + A1.length) = 5 := by rw [hA2, ← hl2]; exact kAt_mid _ _ _
    have hl3 : (pre ++ [(⟨4, (act s p).name, p⟩ : Ak)] ++ A1 ++ [(⟨5, (act s e1).name, e1⟩ : Ak)]).length = pre.length + 1 + A1.length + 1 := by simp; omega
    have hen2 := end_at k2 hA3 e7
    rw [hl3] at hen2
    have hb : behF A pre.length = pre.length + 1 + A1.length + 1 + A2.length + 1 := by rw [behF, if_neg (by omega), hen, if_pos (by omega), hen2]
    have hAl : pre.length + 1 + A1.length < A.length := by rw [hA2, List.length_append, hl2]; simp
    refine ⟨⟨4, (act s p).name, p⟩, _, by rw [hA]; simp; rfl, rfl, by omega, .choice rfl p th el r true ?_ ?_ (by rw [hen]; exact hAl) (.inl ⟨by rw [hen]; exact k5, ?_⟩)⟩
    · exact ⟨_, A1, _, _, _, e1, hA1, hl1, by rw [lastN_snoc]; exact k1, rfl, e5, by omega⟩
    · rw [hb]
      exact ⟨pre ++ [⟨4, (act s p).name, p⟩] ++ A1 ++ [⟨5, (act s e1).name, e1⟩] ++ A2 ++ [⟨7, (act s e2).name, e2⟩], B, rest, t, d, e, by rw [hA]; simp, by simp; omega, by rw [lastN_snoc]; exact k, ht, hk, he⟩
    · rw [hen]
      exact ⟨_, A2, _, _, _, e2, hA3, hl3, by rw [lastN_snoc]; exact k2, rfl, e7, by omega⟩
theorem skp_twice (s : ByteArray) (p : Nat) : ¬ skp s txB p < skp s txB (skp s txB p) := by
  by_cases h : skp s txB p < s.size
  · rw [skp_stop s txB _ h (skp_at s txB p h)]; omega
  · rw [skp_end s txB _ h]; omega
theorem hdA_mid (s : ByteArray) (pre rest : List Ak) (a : Ak) : hdA s (pre ++ a :: rest) pre.length = s.extract (lastN s 0 pre) a.at' := by
  simp [hdA]
theorem ext_none (s : ByteArray) (a : Nat) : (s.extract a a).data.toList = [] := by rw [Lib.extract_data]; simp
/-- one turn of the program's way: the text ahead of an action, then what begins there -/
theorem body_step {s : ByteArray} {A : List Ak} {i : Nat} {b : Nds} (h : BodAt s A i b) :
    ∃ (hi : i < A.length) (r0 : Nds), HdQ s A i A[i] r0 ∧ (hdA s A i).size ≤ s.size ∧ ∀ (B : Nds → List Dat → Pst → Pst) (ts : List Tm) (R : List Dat) (st : Pst), st.err = 0 → bdyF B ts true R b st = bdyF B ts true R r0 (txtF true (hdA s A i).data.toList st) := by
  obtain ⟨pre, B, rest, t, d, e, hA, rfl, hf, ht, hk, he⟩ := h
  have fin : ∀ {r0 : Nds} {p : Nat}, (∃ (a : Ak) (post : List Ak), A = pre ++ a :: post ∧ a.at' = p ∧ p ≤ s.size ∧ HdQ s A pre.length a r0) → ∃ (hi : pre.length < A.length), HdQ s A pre.length A[pre.length] r0 ∧ hdA s A pre.length = s.extract (lastN s 0 pre) p ∧ (hdA s A pre.length).size ≤ s.size := by
    rintro r0 p ⟨a, post, q1, q2, q3, q4⟩
    have hi : pre.length < A.length := by rw [q1]; simp
    have ha : A[pre.length] = a := by
      have : A[pre.length]? = some a := by rw [q1]; simp
      rw [List.getElem?_eq_getElem hi] at this
      simpa using this
    have hh : hdA s A pre.length = s.extract (lastN s 0 pre) p := by rw [q1, hdA_mid, q2]
    exact ⟨hi, by rw [ha]; exact q4, hh, by rw [hh, ext_size s _ _ q3]; omega⟩
  by_cases hn : lastN s 0 pre < skp s txB (lastN s 0 pre)
  · cases hf with
    | nil =>
      obtain ⟨hi, q1, q2, q3⟩ := fin ⟨t, rest, by simpa using hA, ht, he, .stop hk⟩
      refine ⟨hi, .nil, q1, q3, fun B ts R st hst => ?_⟩
      rw [q2, ext_none]; rfl
    | @text _ _ _ r _ h k =>
      obtain ⟨hi, q1, q2, q3⟩ := fin (head_case k A pre rest t hA ht hk he (skp_twice s _))
      refine ⟨hi, r, q1, q3, fun B ts R st hst => ?_⟩
      rw [q2]
      simp [bdyF, hst]
    | hole h k => have := text_no s _ hn; omega
    | call h k => have := text_no s _ hn; omega
    | loop hd h k1 h1 k => have := text_no s _ hn; omega
    | one hd h k1 h1 k => have := text_no s _ hn; omega
    | two hd h k1 h1 k2 h2 k => have := text_no s _ hn; omega
  · obtain ⟨hi, q1, q2, q3⟩ := fin (head_case hf A pre rest t hA ht hk he hn)
    refine ⟨hi, b, q1, q3, fun B ts R st hst => ?_⟩
    rw [q2, ext_none]; rfl
theorem body_err (B : Nds → List Dat → Pst → Pst) (ts : List Tm) (R : List Dat) (r : Nds) (st : Pst) (h : st.err ≠ 0) : bdyF B ts true R r st = st := by
  cases r <;> simp [bdyF, h]
theorem body_go (B : Nds → List Dat → Pst → Pst) (ts : List Tm) (R : List Dat) (k at' : Int) (nm : ByteArray) (th el r : Nds) (tw : Bool) (st : Pst) (h : st.err = 0) (hk : k ≠ 1) : bdyF B ts true R (.cons k at' nm th el tw r) st = bdyF B ts true R r (pceF B ts R k nm th el st) := by
  simp [bdyF, h, hk]
theorem un_all (has : ByteArray → Bool) : ∀ (A : List Ak), unA has A < 0 → ∀ (i : Nat) (hi : i < A.length), A[i].kind = 8 → has A[i].name = true
  | [], _, i, hi, _ => absurd hi (by simp)
  | a :: r, h, i, hi, hk => by
    have e : unA has (a :: r) = if a.kind = 8 ∧ has a.name = false then (a.at' : Int) else unA has r := rfl
    rw [e] at h
    split at h
    · omega
    · rename_i hh
      cases i with
      | zero =>
        cases hq : has a.name
        · exact absurd ⟨hk, hq⟩ hh
        · exact hq
      | succ i => exact un_all has r h i (by simpa using hi) hk
/-- the body of a template begins behind its first action -/
theorem Plc.body {s : ByteArray} {ts : List Tm} {A : List Ak} {β : Nat → Nat} (h : Plc s ts A β) (t : Nat) (ht : t < ts.length) : BodAt s A (β t + 1) (bod ts t) := by
  obtain ⟨pre, B, post, nmE, e, hA, hpl, hfl, he⟩ := h.at' t ht
  rw [bod_at t ht]
  exact ⟨pre ++ [⟨1, ts[t].name, ts[t].at'⟩], B, post, ⟨2, nmE, e⟩, 0, e, by rw [hA]; simp, by simp [hpl], by rw [lastN_snoc]; exact hfl, rfl, by show ebK 2 = true; decide, he⟩
theorem pc_pos (c : Int) (u : UInt8) : 1 ≤ (pc c u.toNat).length := by
  unfold pc pV pL pQ pT
  (repeat' split) <;> simp
theorem mid_ge (c : Int) (l : List UInt8) : l.length ≤ (mid c l).length := by
  induction l with
  | nil => simp
  | cons u r ih =>
    have e : mid c (u :: r) = pc c u.toNat ++ mid c r := by simp [mid]
    have := pc_pos c u
    rw [e, List.length_append, List.length_cons]; omega
theorem escB_ge (c : Int) (t : ByteArray) : t.size ≤ (escB c t).size := by
  have h := mid_ge c t.data.toList
  unfold escB
  rw [strOfNums_size, escL, acc, List.length_append, List.length_append]
  have : t.data.toList.length = t.size := rfl
  omega
end Go.Proofs.YtffkejkgkgfnhaaGreat
namespace Go.Proofs.YtffkejkgkgfnhaaGreat
open Go.RowKit
set_option linter.unusedVariables false
/-- texts no longer than any can be -/
def Dat.fits : Dat → Prop
  | .nil => True
  | .fld nm li tx rows r => tx.size ≤ maxLen ∧ rows.fits ∧ r.fits
  | .row f r => f.fits ∧ r.fits
theorem Dat.fits_bulk : ∀ d : Dat, d.bulk ≤ maxLen → d.fits
  | .nil, _ => trivial
  | .fld nm li tx rows r, h => by
    simp only [Dat.bulk] at h
    exact ⟨by omega, Dat.fits_bulk rows (by omega), Dat.fits_bulk r (by omega)⟩
  | .row f r, h => by
    simp only [Dat.bulk] at h
    exact ⟨Dat.fits_bulk f (by omega), Dat.fits_bulk r (by omega)⟩
theorem Dat.fits_drop : ∀ (d : Dat) (i : Nat), d.fits → (d.drop i).fits
  | d, 0, h => by rw [Dat.drop_zero]; exact h
  | .nil, i + 1, h => trivial
  | .fld _ _ _ _ r, i + 1, h => Dat.fits_drop r i h.2.2
  | .row _ r, i + 1, h => Dat.fits_drop r i h.2
def EnvQ (w : World) (N : Nat) : List Dat → List Value → Prop
  | [], xs => xs = []
  | d :: R, xs => ∃ (a : Option Addr) (c : Nat) (ys : List Value), xs = .slice a d.len c :: ys ∧ DatV w N a d ∧ d.ok false ∧ d.fits ∧ d.len ≤ c ∧ c ≤ maxLen ∧ EnvQ w N R ys
theorem EnvQ.mono {w w' : World} {N : Nat} (hw : ∀ k, k < N → w'.heap[k]? = w.heap[k]?) : ∀ (R : List Dat) (xs : List Value), EnvQ w N R xs → EnvQ w' N R xs
  | [], xs, h => h
  | d :: R, xs, h => by
    obtain ⟨a, c, ys, h1, h2, h3, h4, h5, h6, h7⟩ := h
    exact ⟨a, c, ys, h1, h2.mono (Nat.le_refl _) hw, h3, h4, h5, h6, EnvQ.mono hw R ys h7⟩
theorem EnvQ.snoc {w : World} {N : Nat} {d : Dat} {a : Option Addr} {c : Nat} (h1 : DatV w N a d) (h2 : d.ok false) (h3 : d.fits) (h4 : d.len ≤ c) (h5 : c ≤ maxLen) : ∀ (R : List Dat) (xs : List Value), EnvQ w N R xs → EnvQ w N (R ++ [d]) (xs ++ [.slice a d.len c])
  | [], xs, h => by
    have h' : xs = [] := h
    subst h'
    exact ⟨a, c, [], rfl, h1, h2, h3, h4, h5, rfl⟩
  | e :: R, xs, h => by
    obtain ⟨a', c', ys, rfl, k2, k3, k4, k5, k6, k7⟩ := h
    exact ⟨a', c', ys ++ [.slice a d.len c], rfl, k2, k3, k4, k5, k6, EnvQ.snoc h1 h2 h3 h4 h5 R ys k7⟩
theorem EnvQ.length {w : World} {N : Nat} : ∀ (R : List Dat) (xs : List Value), EnvQ w N R xs → xs.length = R.length
  | [], xs, h => by
    have h' : xs = [] := h
    subst h'; rfl
  | d :: R, xs, h => by
    obtain ⟨a, c, ys, rfl, _, _, _, _, _, h7⟩ := h
    simp [EnvQ.length R ys h7]
theorem EnvQ.at {w : World} {N : Nat} : ∀ (R : List Dat) (xs : List Value) (i : Nat) (hi : i < R.length), EnvQ w N R xs → ∃ a c, xs[i]? = some (.slice a R[i].len c) ∧ DatV w N a R[i] ∧ R[i].ok false ∧ R[i].fits ∧ R[i].len ≤ c ∧ c ≤ maxLen
  | [], xs, i, hi, h => absurd hi (by simp)
  | d :: R, xs, 0, hi, h => by
    obtain ⟨a, c, ys, rfl, h2, h3, h4, h5, h6, h7⟩ := h
    exact ⟨a, c, rfl, h2, h3, h4, h5, h6⟩
  | d :: R, xs, i + 1, hi, h => by
    obtain ⟨a, c, ys, rfl, h2, h3, h4, h5, h6, h7⟩ := h
    exact EnvQ.at R ys i (by simpa using hi) h7
theorem EnvQ.front {w : World} {N : Nat} {f : Dat} : ∀ (R : List Dat) (xs : List Value), EnvQ w N (R ++ [f]) xs → EnvQ w N R (xs.take R.length)
  | [], xs, h => by simp [EnvQ]
  | d :: R, xs, h => by
    obtain ⟨a, c, ys, rfl, h2, h3, h4, h5, h6, h7⟩ := h
    exact ⟨a, c, ys.take R.length, by simp, h2, h3, h4, h5, h6, EnvQ.front R ys h7⟩
def FldQ (w : World) (N : Nat) (nm : ByteArray) (R : List Dat) (e : Ending) : Prop :=
  (lkp nm R = none ∧ e = .returned (.tuple #[.agg #[.string ⟨#[]⟩, .bool false, .string ⟨#[]⟩, .slice none 0 0], .bool false])) ∨
  (∃ n l t rows a c, lkp nm R = some (n, l, t, rows) ∧ e = .returned (.tuple #[.agg #[.string n, .bool l, .string t, .slice a rows.len c], .bool true]) ∧ DatV w N a rows ∧ rows.ok true ∧ (rows.fits ∧ t.size ≤ maxLen) ∧ rows.len ≤ c ∧ c ≤ maxLen)
/-- what is asked of a Render, whatever the data's bulk -/
def PROKW (f : Nat) : Prop := ∀ (s nm : ByteArray) (way : Int) (w : World) (da : Option Addr) (d : Dat) (dc : Nat), s.size ≤ maxLen → DatV w w.heap.size da d → d.ok false → d.fits → d.len ≤ dc → dc ≤ maxLen →
  Calls Tryz.prog f #[.int .i64 way, .string s, .string nm, .agg #[.slice da d.len dc]] w fun e w' => Below w.heap.size w w' ∧ RenPost s nm way d e
theorem PROKW.small {f : Nat} (h : PROKW f) : PROK f := fun s nm way w da d dc h1 h2 h3 h4 h5 h6 => h s nm way w da d dc h1 h2 h3 (Dat.fits_bulk d (by unfold maxLen; omega)) h5 h6
end Go.Proofs.YtffkejkgkgfnhaaGreat
namespace Go.Proofs.YtffkejkgkgfnhaaGreat
open Go.RowKit
set_option linter.unusedVariables false
structure WrP where
  (pb N g ac : Nat)
  s : ByteArray
  A : List Ak
structure WrC (w : World) (p : WrP) (ra : Option Addr) (rc : Nat) (oa : Option Addr) (oc : Nat) (R : List Dat) (st : Pst) : Prop where
  c0 : w.cell? ⟨p.pb, 0, none⟩ = some (.slice (some ⟨p.g, 0, none⟩) p.A.length p.ac)
  c1 : w.cell? ⟨p.pb, 1, none⟩ = some (.slice ra R.length rc)
  c2 : w.cell? ⟨p.pb, 2, none⟩ = some (.slice oa st.out.size oc)
  c3 : w.cell? ⟨p.pb, 3, none⟩ = some (.int .i64 (ctxO st.out))
  c4 : w.cell? ⟨p.pb, 4, none⟩ = some (.int .i64 st.steps)
  f1 : w.frozen? ⟨p.pb, 1, none⟩ = false
  f2 : w.frozen? ⟨p.pb, 2, none⟩ = false
  f3 : w.frozen? ⟨p.pb, 3, none⟩ = false
  f4 : w.frozen? ⟨p.pb, 4, none⟩ = false
  ownR : ∃ xs, w.ownsRow p.N 31 1 (.slice ra R.length rc) R.length xs ∧ EnvQ w p.N R xs
  neR : (Value.slice ra R.length rc).ownBlock ≠ some p.pb
  ownO : w.ownsRow (p.pb + 1) 5 1 (.slice oa st.out.size oc) st.out.size (Lib.strCells st.out)
  lt : p.pb < w.heap.size
  acts : AkAt p.s w p.g p.A
  glt : p.g < p.N
  le : p.N ≤ p.pb
  alen : p.A.length ≤ 1000
  ale : p.A.length ≤ p.ac
  acm : p.ac ≤ maxLen
  fit : Fit st
  ctx : 0 ≤ ctxO st.out
def WrOK (w : World) (p : WrP) (R : List Dat) (st : Pst) : Prop := ∃ ra rc oa oc, WrC w p ra rc oa oc R st
/-- a block of rows or of bytes -/
def tyIn (o : Option Obj) : Prop := ∃ cur fr, o = some (.cells cur 31 fr) ∨ o = some (.cells cur 5 fr)
/-- what a call on the writer may change -/
structure ChW (p : WrP) (w w' : World) : Prop where
  os : w'.os = w.os
  tape : w'.tape = w.tape
  output : w'.output = w.output
  size : w.heap.size ≤ w'.heap.size
  block : ∀ k, k < w.heap.size → k ≠ p.pb → (k < p.N ∨ ¬ tyIn w.heap[k]?) → w'.heap[k]? = w.heap[k]?
theorem ChW.refl (p : WrP) (w : World) : ChW p w w := ⟨rfl, rfl, rfl, Nat.le_refl _, fun _ _ _ _ => rfl⟩
theorem ChW.trans {p : WrP} {a b c : World} (h : ChW p a b) (k : ChW p b c) : ChW p a c := by
  refine ⟨k.os.trans h.os, k.tape.trans h.tape, k.output.trans h.output, Nat.le_trans h.size k.size, fun i h1 h2 h3 => ?_⟩
  have e := h.block i h1 h2 h3
  exact (k.block i (Nat.lt_of_lt_of_le h1 h.size) h2 (by rw [e]; exact h3)).trans e
theorem ChW.of_below {p : WrP} {w w' : World} (h : Below w.heap.size w w') : ChW p w w' := ⟨h.os, h.tape, h.output, h.size, fun k h1 _ _ => h.block k h1⟩
theorem ChW.alloc {p : WrP} {w w' : World} (h : ChW p w w') (o : Obj) : ChW p w (w'.alloc o) := h.trans (ChW.of_below ((Below.refl _ _).alloc (Nat.le_refl _) _))
theorem ChW.set {p : WrP} {w w' : World} (h : ChW p w w') (j : Nat) (v : Value) : ChW p w (w'.setCell ⟨p.pb, j, none⟩ v) :=
  h.trans ⟨rfl, rfl, rfl, by simp, fun k h1 h2 h3 => set_far w' p.pb j v k h2⟩
theorem ChW.low {p : WrP} {w w' : World} (h : ChW p w w') (hl : p.pb < w.heap.size) (hN : p.N ≤ p.pb) : ∀ k, k < p.N → w'.heap[k]? = w.heap[k]? := fun k hk => h.block k (by omega) (by omega) (.inl hk)
theorem ChW.below {p : WrP} {w w' : World} (h : ChW p w w') (hl : p.pb < w.heap.size) (hN : p.N ≤ p.pb) (n : Nat) (hn : n ≤ p.N) : Below n w w' :=
  ⟨h.os, h.tape, h.output, h.size, fun k hk => h.low hl hN k (by omega)⟩
theorem ownO_ty {w : World} {base ty : Nat} {v : Value} {n : Nat} {xs : List Value} {g : Nat} (h : w.ownsRow base ty 1 v n xs) (hg : v.ownBlock = some g) : ∃ cur, w.heap[g]? = some (.cells cur ty (0, 0)) := by
  rcases h.2 with ⟨rfl, _⟩ | ⟨g', cap, cur, rfl, _, hh, _⟩
  · cases hg
  · simp [Value.ownBlock] at hg; subst hg; exact ⟨cur, hh⟩
/-- rows and bytes never share a block -/
theorem own_apart {w : World} {b1 b2 : Nat} {v1 v2 : Value} {n1 n2 : Nat} {x1 x2 : List Value} (h1 : w.ownsRow b1 31 1 v1 n1 x1) (h2 : w.ownsRow b2 5 1 v2 n2 x2) (g : Nat) (e1 : v1.ownBlock = some g) (e2 : v2.ownBlock = some g) : False := by
  obtain ⟨c1, k1⟩ := ownO_ty h1 e1
  obtain ⟨c2, k2⟩ := ownO_ty h2 e2
  rw [k1] at k2
  simp at k2
theorem WrC.far {w w' : World} {p : WrP} {ra oa : Option Addr} {rc oc : Nat} {R : List Dat} {st : Pst} (h : WrC w p ra rc oa oc R st) (hs : w.heap.size ≤ w'.heap.size) (hb : ∀ k, k < w.heap.size → w'.heap[k]? = w.heap[k]?) : WrC w' p ra rc oa oc R st := by
  obtain ⟨c0, c1, c2, c3, c4, f1, f2, f3, f4, ⟨xs, o1, o2⟩, neR, oO, lt, acts, glt, le, alen, ale, acm, fit, ctx⟩ := h
  have e0 := hb p.pb lt
  have eg := hb p.g (by omega)
  exact ⟨(World.cell?_of_block e0).trans c0, (World.cell?_of_block e0).trans c1, (World.cell?_of_block e0).trans c2, (World.cell?_of_block e0).trans c3, (World.cell?_of_block e0).trans c4,
    (World.frozen?_of_block e0).trans f1, (World.frozen?_of_block e0).trans f2, (World.frozen?_of_block e0).trans f3, (World.frozen?_of_block e0).trans f4,
    ⟨xs, own_keep o1 (fun g hg => hb g (o1.lt g hg).2), EnvQ.mono (fun k hk => hb k (by omega)) R xs o2⟩, neR, own_keep oO (fun g hg => hb g (oO.lt g hg).2), by omega, acts.far eg, glt, le, alen, ale, acm, fit, ctx⟩
theorem WrC.below {w w' : World} {p : WrP} {ra oa : Option Addr} {rc oc : Nat} {R : List Dat} {st : Pst} (h : WrC w p ra rc oa oc R st) (hb : Below w.heap.size w w') : WrC w' p ra rc oa oc R st := h.far hb.size hb.block
theorem WrC.alloc {w : World} {p : WrP} {ra oa : Option Addr} {rc oc : Nat} {R : List Dat} {st : Pst} (h : WrC w p ra rc oa oc R st) (o : Obj) : WrC (w.alloc o) p ra rc oa oc R st := h.below ((Below.refl _ _).alloc (Nat.le_refl _) _)
/-- a step is done -/
theorem WrC.step {w : World} {p : WrP} {ra oa : Option Addr} {rc oc : Nat} {R : List Dat} {st : Pst} (h : WrC w p ra rc oa oc R st) (hs : st.steps < 500) : WrC (w.setCell ⟨p.pb, 4, none⟩ (.int .i64 (st.steps + 1))) p ra rc oa oc R { st with steps := st.steps + 1 } := by
  obtain ⟨c0, c1, c2, c3, c4, f1, f2, f3, f4, ⟨xs, o1, o2⟩, neR, oO, lt, acts, glt, le, alen, ale, acm, fit, ctx⟩ := h
  have oth : ∀ i, 4 ≠ i → (w.setCell ⟨p.pb, 4, none⟩ (.int .i64 (st.steps + 1))).cell? ⟨p.pb, i, none⟩ = w.cell? ⟨p.pb, i, none⟩ := fun i hi => cellO w _ _ _ _ hi
  have fr : ∀ k, k ≠ p.pb → (w.setCell ⟨p.pb, 4, none⟩ (.int .i64 (st.steps + 1))).heap[k]? = w.heap[k]? := fun k hk => set_far w _ _ _ k hk
  exact ⟨(oth 0 (by decide)).trans c0, (oth 1 (by decide)).trans c1, (oth 2 (by decide)).trans c2, (oth 3 (by decide)).trans c3, cellS _ c4, by simpa using f1, by simpa using f2, by simpa using f3, by simpa using f4,
    ⟨xs, own_keep o1 (fun g hg => fr g (fun e => neR (e ▸ hg))), EnvQ.mono (fun k hk => fr k (by omega)) R xs o2⟩, neR, own_keep oO (fun g hg => fr g (by have := (oO.lt g hg).1; omega)), by simpa using lt, acts.far (fr p.g (by omega)), glt, le, alen, ale, acm, ⟨fit.1, by simp only; omega⟩, ctx⟩
/-- the bytes are other ones -/
theorem WrC.put {w w' : World} {p : WrP} {ra oa oa' : Option Addr} {rc oc oc' : Nat} {R : List Dat} {st : Pst} {O : ByteArray} (h : WrC w p ra rc oa oc R st) (hos : w'.os = w.os) (htp : w'.tape = w.tape) (hou : w'.output = w.output) (hs : w.heap.size ≤ w'.heap.size)
    (hb : ∀ k, k < w.heap.size → k ≠ p.pb → (Value.slice oa st.out.size oc).ownBlock ≠ some k → w'.heap[k]? = w.heap[k]?)
    (c0 : w'.cell? ⟨p.pb, 0, none⟩ = w.cell? ⟨p.pb, 0, none⟩) (c1 : w'.cell? ⟨p.pb, 1, none⟩ = w.cell? ⟨p.pb, 1, none⟩) (c2 : w'.cell? ⟨p.pb, 2, none⟩ = some (.slice oa' O.size oc')) (c3 : w'.cell? ⟨p.pb, 3, none⟩ = some (.int .i64 (ctxO O))) (c4 : w'.cell? ⟨p.pb, 4, none⟩ = w.cell? ⟨p.pb, 4, none⟩)
    (hf : ∀ j, w.frozen? ⟨p.pb, j, none⟩ = false → w'.frozen? ⟨p.pb, j, none⟩ = false) (hO : w'.ownsRow (p.pb + 1) 5 1 (.slice oa' O.size oc') O.size (Lib.strCells O)) (hfit : O.size ≤ 2000) (hctx : 0 ≤ ctxO O) :
    WrC w' p ra rc oa' oc' R { st with out := O } ∧ ChW p w w' := by
  obtain ⟨d0, d1, d2, d3, d4, f1, f2, f3, f4, ⟨xs, o1, o2⟩, neR, oO, lt, acts, glt, le, alen, ale, acm, fit, ctx⟩ := h
  have low : ∀ k, k < p.N → w'.heap[k]? = w.heap[k]? := fun k hk => hb k (by omega) (by omega) (fun e => by have := (oO.lt k e).1; omega)
  refine ⟨⟨c0.trans d0, c1.trans d1, c2, c3, c4.trans d4, hf 1 f1, hf 2 f2, hf 3 f3, hf 4 f4, ⟨xs, own_keep o1 (fun g hg => hb g (o1.lt g hg).2 (fun e => neR (e ▸ hg)) (fun e => own_apart o1 oO g hg e)), EnvQ.mono low R xs o2⟩, neR, hO, by omega, acts.far (low p.g glt), glt, le, alen, ale, acm, ⟨hfit, fit.2⟩, hctx⟩, ⟨hos, htp, hou, hs, fun k h1 h2 h3 => hb k h1 h2 (fun e => ?_)⟩⟩
  rcases h3 with h3 | h3
  · have := (oO.lt k e).1; omega
  · obtain ⟨cur, q⟩ := ownO_ty oO e
    exact h3 ⟨cur, _, .inr q⟩
theorem WrC.rowAt {w : World} {p : WrP} {ra oa : Option Addr} {rc oc : Nat} {R : List Dat} {st : Pst} (h : WrC w p ra rc oa oc R st) (i : Nat) (hi : i < R.length) : ∃ g, ra = some ⟨g, 0, none⟩ ∧ R.length ≤ rc ∧ ∃ a c, w.cell? ⟨g, i, none⟩ = some (.slice a R[i].len c) ∧ DatV w p.N a R[i] ∧ R[i].ok false ∧ R[i].fits ∧ R[i].len ≤ c ∧ c ≤ maxLen := by
  obtain ⟨xs, o1, o2⟩ := h.ownR
  obtain ⟨a, c, k1, k2⟩ := EnvQ.at R xs i hi o2
  rcases o1.2 with ⟨_, h0⟩ | ⟨g, cap, cur, hv, hb, hg, hn, hm, hs, ht⟩
  · omega
  · simp at hv
    refine ⟨g, hv.1, by omega, a, c, ?_, k2⟩
    rw [cell_of_heap hg, ← k1, ← ht, List.getElem?_take_of_lt (by omega)]
    simp
end Go.Proofs.YtffkejkgkgfnhaaGreat
