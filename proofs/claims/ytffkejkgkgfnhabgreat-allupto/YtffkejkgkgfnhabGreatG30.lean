import Derived.Test.YtffkejkgkgfnhabGreatG14
import Derived.Test.YtffkejkgkgfnhabGreatG28
/-
  THE PROGRAM's WAY THROUGH THE ACTIONS, as plain mathematics: one context a place. No Go.
-/
namespace Go.Proofs.YtffkejkgkgfnhabGreat
set_option linter.unusedVariables false
structure Gp where
  (b f : Nat)
  en : Int
structure FS where
  gs : List Gp
  cm : Nat → Nat → Bool
  grew : Bool
structure PS where
  now : Int
  op : List (Int × Int)
def upd2 (f : Nat → Nat → Bool) (i c : Nat) : Nat → Nat → Bool := fun j d => if j = i ∧ d = c then true else f j d
def hasG (gs : List Gp) (b f : Nat) : Option Gp := gs.find? fun g => decide (g.b = b ∧ g.f = f)
def meetF (fs : FS) (b f : Nat) : Int × FS := match hasG fs.gs b f with
  | some g => (g.en, fs)
  | none => (-1, { fs with gs := fs.gs ++ [⟨b, f, -1⟩], grew := true })
def enterF (ps : PS) : PS := { ps with op := ps.op ++ [(ps.now, ps.now)] }
def turnF (ps : PS) : PS := match ps.op.getLast? with
  | some l => ⟨l.1, ps.op.dropLast ++ [(l.1, ps.now)]⟩
  | none => ps
def leaveF (ps : PS) : PS × Bool := match ps.op.getLast? with
  | some l => (⟨if ps.now = -1 then l.2 else ps.now, ps.op.dropLast⟩, decide (l.2 = -1 ∨ l.2 = (if ps.now = -1 then l.2 else ps.now)))
  | none => (ps, true)
def callF (A : List Ak) (nm : ByteArray) (x : Int) (fs : FS) : Int × FS := if hitB nm A = true ∧ x ≠ -1 then meetF fs (idxA nm A 0) x.toNat else (-1, fs)
def takeF (A : List Ak) (i : Nat) (k : Int) (nm : ByteArray) (ps : PS) (fs : FS) : Option (PS × FS) :=
  if k = 3 then (if ps.now = -1 then some (ps, fs) else if opS ps.now.toNat = true then some (ps, { fs with cm := upd2 fs.cm i ps.now.toNat }) else none)
  else if k = 8 then some ({ ps with now := (callF A nm ps.now fs).1 }, (callF A nm ps.now fs).2)
  else if k = 4 ∨ k = 6 then some (enterF ps, fs)
  else if k = 5 then some (turnF ps, fs)
  else if k = 7 then (if (leaveF ps).2 = true then some ((leaveF ps).1, fs) else none)
  else some (ps, fs)
/-- behind a text -/
def rdF (x : Int) (t : ByteArray) : Int := if x = -1 then -1 else scn x t.data.toList
def runF (s : ByteArray) (A : List Ak) : List Ak → Nat → PS → FS → Option (Int × FS)
  | [], _, ps, fs => some (-1, fs)
  | a :: r, i, ps, fs =>
    if ps.now ≠ -1 ∧ rdF ps.now (hdA s A i) = -1 then none
    else if a.kind = 2 then some (rdF ps.now (hdA s A i), fs)
    else match takeF A i a.kind a.name { ps with now := rdF ps.now (hdA s A i) } fs with
      | none => none
      | some (ps', fs') => runF s A r (i + 1) ps' fs'
def opt (x : Int) : Cs := fun y => x = (y : Int)
theorem opt_none (y : Nat) : ¬ opt (-1) y := by unfold opt; omega
theorem opt_two (x : Int) : ¬ two (opt x) := by
  rintro ⟨a, b, h1, h2, h3⟩
  unfold opt at h1 h2; omega
theorem opt_nat (n : Nat) (y : Nat) : opt n y ↔ y = n := by unfold opt; omega
theorem ext_cat (s : ByteArray) (a b c : Nat) (h1 : a ≤ b) (h2 : b ≤ c) (h3 : c ≤ s.size) : (s.extract a c).data.toList = (s.extract a b).data.toList ++ (s.extract b c).data.toList := by
  have e2 : s.data.toList.length = s.size := rfl
  rw [Lib.extract_data, Lib.extract_data, Lib.extract_data]
  have : c - a = (b - a) + (c - b) := by omega
  rw [this, List.take_add, List.drop_drop]
  congr 3
  omega
theorem rd_cat (s : ByteArray) (x : Int) (a b c : Nat) (h1 : a ≤ b) (h2 : b ≤ c) (h3 : c ≤ s.size) (hx : -1 ≤ x ∧ x ≤ 23) : rdF x (s.extract a c) = rdF (rdF x (s.extract a b)) (s.extract b c) := by
  unfold rdF
  by_cases h : x = -1
  · simp [h]
  · rw [if_neg h, if_neg h, ext_cat s a b c h1 h2 h3, scn_in x _ (by omega) (by omega), scn_in x _ (by omega) (by omega), scl_append]
    have hr := scl_range x (s.extract a b).data.toList (by omega)
    by_cases e : scl x (s.extract a b).data.toList = -1
    · rw [if_pos e, e, scl_lost]
    · rw [if_neg e, scn_in _ _ (by omega) (by omega)]
theorem rd_range (x : Int) (t : ByteArray) : -1 ≤ rdF x t ∧ rdF x t ≤ 23 := by
  unfold rdF; split
  · omega
  · exact scn_range _ _
theorem rd_none (t : ByteArray) : rdF (-1) t = -1 := by simp [rdF]
theorem rd_empty (s : ByteArray) (x : Int) (a : Nat) (hx : -1 ≤ x ∧ x ≤ 23) : rdF x (s.extract a a) = x := by
  unfold rdF
  by_cases h : x = -1
  · simp [h]
  · rw [if_neg h, Lib.extract_data, scn_in _ _ (by omega) (by omega)]
    simp [scl]
end Go.Proofs.YtffkejkgkgfnhabGreat
namespace Go.Proofs.YtffkejkgkgfnhabGreat
set_option linter.unusedVariables false
def enG (β : Nat → Nat) (gs : List Gp) : En := fun t x y => ∃ g, hasG gs (β t) x = some g ∧ g.en = (y : Int)
theorem hasG_app (gs l : List Gp) (b f : Nat) : hasG (gs ++ l) b f = match hasG gs b f with
    | some g => some g
    | none => hasG l b f := by
  unfold hasG
  rw [List.find?_append]
  cases gs.find? fun g => decide (g.b = b ∧ g.f = f) <;> rfl
theorem hasG_mem {gs : List Gp} {b f : Nat} {g : Gp} (h : hasG gs b f = some g) : g ∈ gs ∧ g.b = b ∧ g.f = f := by
  have h1 := List.mem_of_find?_eq_some h
  have h2 := List.find?_some h
  simp at h2
  exact ⟨h1, h2.1, h2.2⟩
theorem hasG_some {gs : List Gp} {g : Gp} (h : g ∈ gs) : (hasG gs g.b g.f).isSome = true := by
  unfold hasG
  rw [List.find?_isSome]
  exact ⟨g, h, by simp⟩
theorem enG_app (β : Nat → Nat) (gs l : List Gp) (h : ∀ g ∈ l, g.en = -1) (t x y : Nat) : enG β (gs ++ l) t x y ↔ enG β gs t x y := by
  unfold enG
  rw [hasG_app]
  cases hg : hasG gs (β t) x with
  | some g => simp
  | none =>
    simp only
    constructor
    · rintro ⟨g, h1, h2⟩
      have := h g (hasG_mem h1).1
      omega
    · rintro ⟨g, h1, _⟩; cases h1
def NodG (gs : List Gp) : Prop := gs.Pairwise fun g h => ¬ (g.b = h.b ∧ g.f = h.f)
structure Rcd (A : List Ak) (β : Nat → Nat) (V : Ev → Prop) (fs fs' : FS) : Prop where
  cmM : ∀ j c, fs.cm j c = true → fs'.cm j c = true
  cmS : ∀ j c, fs'.cm j c = true → fs.cm j c = true ∨ ∃ a, A[j]? = some a ∧ V (.use a.at' c)
  cmC : ∀ n c, V (.use n c) → ∃ j a, A[j]? = some a ∧ a.at' = n ∧ fs'.cm j c = true
  gsP : ∃ l, fs'.gs = fs.gs ++ l ∧ ∀ g ∈ l, g.en = -1 ∧ ∃ t, V (.call t g.f) ∧ g.b = β t
  gsC : ∀ t x, V (.call t x) → (hasG fs'.gs (β t) x).isSome = true
  grw : fs'.grew = false → fs.grew = false ∧ fs'.gs = fs.gs
  grM : fs.grew = true → fs'.grew = true
  nod : NodG fs.gs → NodG fs'.gs
  grT : fs'.grew = true → fs.grew = true ∨ fs.gs.length < fs'.gs.length
theorem Rcd.refl (A : List Ak) (β : Nat → Nat) (V : Ev → Prop) (fs : FS) (h1 : ∀ n c, ¬ V (.use n c)) (h2 : ∀ t x, ¬ V (.call t x)) : Rcd A β V fs fs :=
  ⟨fun _ _ h => h, fun _ _ h => .inl h, fun n c h => absurd h (h1 n c), ⟨[], by simp, fun g hg => absurd hg (by simp)⟩, fun t x h => absurd h (h2 t x), fun h => ⟨h, rfl⟩, fun h => h, fun h => h, fun h => .inl h⟩
theorem hasG_pre {gs l : List Gp} {b f : Nat} (h : (hasG gs b f).isSome = true) : (hasG (gs ++ l) b f).isSome = true := by
  rw [hasG_app]
  cases hg : hasG gs b f with
  | some g => rfl
  | none => rw [hg] at h; cases h
theorem Rcd.trans {A : List Ak} {β : Nat → Nat} {V1 V2 V : Ev → Prop} {a b c : FS} (h : Rcd A β V1 a b) (k : Rcd A β V2 b c) (hV : ∀ e, e ≠ .bad → (V e ↔ V1 e ∨ V2 e)) : Rcd A β V a c := by
  obtain ⟨l1, e1, p1⟩ := h.gsP
  obtain ⟨l2, e2, p2⟩ := k.gsP
  refine ⟨fun j x q => k.cmM j x (h.cmM j x q), fun j x q => ?_, fun n x q => ?_, ⟨l1 ++ l2, by rw [e2, e1, List.append_assoc], fun g hg => ?_⟩, fun t x q => ?_, fun q => ?_, fun q => k.grM (h.grM q), fun q => k.nod (h.nod q), fun q => ?_⟩
  · rcases k.cmS j x q with q | ⟨y, q1, q2⟩
    · rcases h.cmS j x q with q | ⟨y, q1, q2⟩
      · exact .inl q
      · exact .inr ⟨y, q1, (hV _ (by simp)).2 (.inl q2)⟩
    · exact .inr ⟨y, q1, (hV _ (by simp)).2 (.inr q2)⟩
  · rcases (hV _ (by simp)).1 q with q | q
    · obtain ⟨j, y, q1, q2, q3⟩ := h.cmC n x q
      exact ⟨j, y, q1, q2, k.cmM j x q3⟩
    · exact k.cmC n x q
  · rcases List.mem_append.1 hg with hg | hg
    · obtain ⟨q1, t, q2, q3⟩ := p1 g hg
      exact ⟨q1, t, (hV _ (by simp)).2 (.inl q2), q3⟩
    · obtain ⟨q1, t, q2, q3⟩ := p2 g hg
      exact ⟨q1, t, (hV _ (by simp)).2 (.inr q2), q3⟩
  · rcases (hV _ (by simp)).1 q with q | q
    · rw [e2]; exact hasG_pre (h.gsC t x q)
    · exact k.gsC t x q
  · obtain ⟨q1, q2⟩ := k.grw q
    obtain ⟨q3, q4⟩ := h.grw q1
    exact ⟨q3, q2.trans q4⟩
  · have n1 : a.gs.length ≤ b.gs.length := by rw [e1]; simp
    have n2 : b.gs.length ≤ c.gs.length := by rw [e2]; simp
    rcases k.grT q with q | q
    · rcases h.grT q with q | q
      · exact .inl q
      · right; omega
    · right; omega
theorem Rcd.en {A : List Ak} {β : Nat → Nat} {V : Ev → Prop} {a b : FS} (h : Rcd A β V a b) (E : En) (hE : ∀ t x y, enG β a.gs t x y ↔ E t x y) : ∀ t x y, enG β b.gs t x y ↔ E t x y := by
  obtain ⟨l, e, p⟩ := h.gsP
  intro t x y
  rw [e, enG_app β a.gs l (fun g hg => (p g hg).1)]
  exact hE t x y
/-- how a part of the way comes out -/
def Outc (s : ByteArray) (A : List Ak) (ts : List Tm) (β : Nat → Nat) (E : En) (b : Nds) (x0 : Int) (q e : Nat) (run : Option (Int × FS)) (kont : PS → FS → Option (Int × FS)) (op : List (Int × Int)) (fs : FS) : Prop :=
  (run = none ∧ evt ts E b (opt x0) .bad) ∨ ∃ (y : Int) (fs' : FS), run = kont ⟨y, op⟩ fs' ∧ (-1 ≤ y ∧ y ≤ 23) ∧ (y ≠ -1 → rdF y (s.extract q e) ≠ -1) ∧ (∀ z, sem ts E b (opt x0) z ↔ opt (rdF y (s.extract q e)) z) ∧ ¬ evt ts E b (opt x0) .bad ∧ Rcd A β (evt ts E b (opt x0)) fs fs'
theorem good_cons {s : ByteArray} {A : List Ak} {ts : List Tm} {β : Nat → Nat} {E : En} {k a : Int} {nm : ByteArray} {th el r : Nds} {tw : Bool} {x0 xm : Int} {q e : Nat} {run : Option (Int × FS)} {kont : PS → FS → Option (Int × FS)} {op : List (Int × Int)} {fs fsm : FS}
    (hps : ∀ z, psem ts E k nm (sem ts E th) (sem ts E el) tw (opt x0) z ↔ opt xm z) (hpb : ¬ pevt ts E k a nm (sem ts E th) (evt ts E th) (evt ts E el) tw (opt x0) .bad) (R1 : Rcd A β (pevt ts E k a nm (sem ts E th) (evt ts E th) (evt ts E el) tw (opt x0)) fs fsm)
    (h : Outc s A ts β E r xm q e run kont op fsm) : Outc s A ts β E (.cons k a nm th el tw r) x0 q e run kont op fs := by
  have hps' : psem ts E k nm (sem ts E th) (sem ts E el) tw (opt x0) = opt xm := funext fun z => propext (hps z)
  rcases h with ⟨h1, h2⟩ | ⟨y, fs', h1, h2, h3, h4, h5, h6⟩
  · refine .inl ⟨h1, .inr (.inr ?_)⟩
    rw [hps']; exact h2
  · refine .inr ⟨y, fs', h1, h2, h3, fun z => ?_, ?_, R1.trans h6 (fun ev hev => ?_)⟩
    · show sem ts E r (psem ts E k nm (sem ts E th) (sem ts E el) tw (opt x0)) z ↔ _
      rw [hps']; exact h4 z
    · rintro (⟨_, q⟩ | q | q)
      · exact opt_two x0 q
      · exact hpb q
      · rw [hps'] at q; exact h5 q
    · constructor
      · rintro (⟨q, _⟩ | q | q)
        · exact absurd q hev
        · exact .inl q
        · rw [hps'] at q; exact .inr q
      · rintro (q | q)
        · exact .inr (.inl q)
        · refine .inr (.inr ?_); rw [hps']; exact q
theorem bad_piece {s : ByteArray} {A : List Ak} {ts : List Tm} {β : Nat → Nat} {E : En} {k a : Int} {nm : ByteArray} {th el r : Nds} {tw : Bool} {x0 : Int} {q e : Nat} {run : Option (Int × FS)} {kont : PS → FS → Option (Int × FS)} {op : List (Int × Int)} {fs : FS}
    (h : run = none) (hb : pevt ts E k a nm (sem ts E th) (evt ts E th) (evt ts E el) tw (opt x0) .bad) : Outc s A ts β E (.cons k a nm th el tw r) x0 q e run kont op fs := .inl ⟨h, .inr (.inl hb)⟩
theorem hdA_at (s : ByteArray) (pre rest : List Ak) (a : Ak) : hdA s (pre ++ a :: rest) pre.length = s.extract (lastN s 0 pre) a.at' := by
  unfold hdA
  have e1 : (pre ++ a :: rest)[pre.length]? = some a := by rw [List.getElem?_append_right (Nat.le_refl _)]; simp
  rw [e1, List.take_left]
theorem runF_at (s : ByteArray) (A pre rest : List Ak) (a : Ak) (hA : A = pre ++ a :: rest) (ps : PS) (fs : FS) : runF s A (a :: rest) pre.length ps fs =
    if ps.now ≠ -1 ∧ rdF ps.now (s.extract (lastN s 0 pre) a.at') = -1 then none
    else if a.kind = 2 then some (rdF ps.now (s.extract (lastN s 0 pre) a.at'), fs)
    else match takeF A pre.length a.kind a.name { ps with now := rdF ps.now (s.extract (lastN s 0 pre) a.at') } fs with
      | none => none
      | some (ps', fs') => runF s A rest (pre.length + 1) ps' fs' := by
  have h := hdA_at s pre rest a
  rw [← hA] at h
  simp only [runF]
  rw [h]
  all_goals rfl
theorem runF_go (s : ByteArray) (A pre rest : List Ak) (a : Ak) (hA : A = pre ++ a :: rest) (ps : PS) (fs : FS) (h1 : ps.now ≠ -1 → rdF ps.now (s.extract (lastN s 0 pre) a.at') ≠ -1) (h2 : a.kind ≠ 2) : runF s A (a :: rest) pre.length ps fs =
    match takeF A pre.length a.kind a.name { ps with now := rdF ps.now (s.extract (lastN s 0 pre) a.at') } fs with
      | none => none
      | some (ps', fs') => runF s A rest (pre ++ [a]).length ps' fs' := by
  rw [runF_at s A pre rest a hA, if_neg (fun q => h1 q.1 q.2), if_neg h2]
  simp
theorem runF_lost (s : ByteArray) (A pre rest : List Ak) (a : Ak) (hA : A = pre ++ a :: rest) (ps : PS) (fs : FS) (p : Nat) (h1 : ps.now ≠ -1) (hx : -1 ≤ ps.now ∧ ps.now ≤ 23) (hp : lastN s 0 pre ≤ p) (hpa : p ≤ a.at') (ha : a.at' ≤ s.size) (hl : rdF ps.now (s.extract (lastN s 0 pre) p) = -1) : runF s A (a :: rest) pre.length ps fs = none := by
  rw [runF_at s A pre rest a hA, if_pos]
  exact ⟨h1, by rw [rd_cat s ps.now _ p _ hp hpa ha hx, hl, rd_none]⟩
theorem Flat.head {s : ByteArray} {d p e : Nat} {b : Nds} {A : List Ak} (h : Flat s d b p A e) : A = [] ∨ ∃ c rest, A = c :: rest ∧ p ≤ c.at' ∧ c.at' ≤ s.size := by
  induction h with
  | nil d p => exact .inl rfl
  | @text d p e r A h k ih =>
    rcases ih with ih | ⟨c, rest, h1, h2, h3⟩
    · exact .inl ih
    · exact .inr ⟨c, rest, h1, by omega, h3⟩
  | @hole d p e r A h k ih => right; have := act_next s p (by omega); exact ⟨_, _, rfl, Nat.le_refl _, by show p ≤ _; omega⟩
  | @call d p e r A h k ih => right; have := act_next s p (by omega); exact ⟨_, _, rfl, Nat.le_refl _, by show p ≤ _; omega⟩
  | @loop d p e e1 th r A1 A hd h k1 h1 k2 ih1 ih => right; have := act_next s p (by omega); exact ⟨_, _, rfl, Nat.le_refl _, by show p ≤ _; omega⟩
  | @one d p e e1 th r A1 A hd h k1 h1 k2 ih1 ih => right; have := act_next s p (by omega); exact ⟨_, _, rfl, Nat.le_refl _, by show p ≤ _; omega⟩
  | @two d p e e1 e2 th el r A1 A2 A hd h k1 h1 k2 h2 k3 ih1 ih2 ih => right; have := act_next s p (by omega); exact ⟨_, _, rfl, Nat.le_refl _, by show p ≤ _; omega⟩
theorem lastN_snoc (s : ByteArray) (pre : List Ak) (a : Ak) : lastN s 0 (pre ++ [a]) = (act s a.at').next := by rw [lastN_app]; rfl
end Go.Proofs.YtffkejkgkgfnhabGreat
namespace Go.Proofs.YtffkejkgkgfnhabGreat
set_option linter.unusedVariables false
theorem leave_at (x a o : Int) (op : List (Int × Int)) : leaveF ⟨x, op ++ [(a, o)]⟩ = (⟨if x = -1 then o else x, op⟩, decide (o = -1 ∨ o = (if x = -1 then o else x))) := by
  simp [leaveF, List.getLast?_append]
theorem turn_at (x a o : Int) (op : List (Int × Int)) : turnF ⟨x, op ++ [(a, o)]⟩ = ⟨a, op ++ [(a, x)]⟩ := by
  simp [turnF, List.getLast?_append]
theorem opt_eq {x : Int} (h : -1 ≤ x) : x = -1 ∨ ∃ n : Nat, x = n := by
  by_cases e : x = -1
  · exact .inl e
  · exact .inr ⟨x.toNat, by omega⟩
theorem call_rcd {A : List Ak} {β : Nat → Nat} {nm : ByteArray} {t : Nat} {x0 : Int} {fs : FS} (hx : -1 ≤ x0) (hh : hitB nm A = true) (hi : idxA nm A 0 = β t) : Rcd A β (fun ev => ∃ x, opt x0 x ∧ ev = .call t x) fs (callF A nm x0 fs).2 := by
  rcases opt_eq hx with rfl | ⟨n, rfl⟩
  · have : callF A nm (-1) fs = (-1, fs) := by simp [callF]
    rw [this]
    exact Rcd.refl _ _ _ _ (fun n c ⟨x, h, _⟩ => opt_none x h) (fun t x ⟨y, h, _⟩ => opt_none y h)
  · have e : callF A nm n fs = meetF fs (β t) n := by
      unfold callF
      rw [if_pos ⟨hh, by omega⟩, hi]
      simp
    rw [e]
    unfold meetF
    cases hg : hasG fs.gs (β t) n with
    | some g =>
      refine ⟨fun _ _ h => h, fun _ _ h => .inl h, fun n c ⟨x, _, h⟩ => (by cases h), ⟨[], by simp, fun g hg => absurd hg (by simp)⟩, fun t' x ⟨y, h1, h2⟩ => ?_, fun h => ⟨h, rfl⟩, fun h => h, fun h => h, fun h => .inl h⟩
      cases h2
      rw [opt_nat] at h1
      subst h1
      simp [hg]
    | none =>
      refine ⟨fun _ _ h => h, fun _ _ h => .inl h, fun n c ⟨x, _, h⟩ => (by cases h), ⟨[⟨β t, n, -1⟩], rfl, fun g hg => ?_⟩, fun t' x ⟨y, h1, h2⟩ => ?_, fun h => (by cases h), fun _ => rfl, fun h => ?_, fun _ => .inr (by simp)⟩
      · simp at hg; subst hg
        exact ⟨rfl, t, ⟨n, (opt_nat n n).2 rfl, rfl⟩, rfl⟩
      · cases h2
        rw [opt_nat] at h1
        subst h1
        exact hasG_some (gs := fs.gs ++ [⟨β t, x, -1⟩]) (g := ⟨β t, x, -1⟩) (by simp)
      · show NodG (fs.gs ++ [⟨β t, n, -1⟩])
        unfold NodG
        rw [List.pairwise_append]
        refine ⟨h, by simp, fun g hg' g2 hg2 => ?_⟩
        simp at hg2
        subst hg2
        rintro ⟨q1, q2⟩
        have := hasG_some hg'
        rw [q1, q2, hg] at this
        cases this
theorem call_sem {A : List Ak} {β : Nat → Nat} {E : En} {nm : ByteArray} {t : Nat} {x0 : Int} {fs : FS} (hx : -1 ≤ x0) (hh : hitB nm A = true) (hi : idxA nm A 0 = β t) (hE : ∀ t x y, enG β fs.gs t x y ↔ E t x y) (z : Nat) : (∃ x, opt x0 x ∧ E t x z) ↔ opt (callF A nm x0 fs).1 z := by
  rcases opt_eq hx with rfl | ⟨n, rfl⟩
  · have : callF A nm (-1) fs = (-1, fs) := by simp [callF]
    rw [this]
    exact ⟨fun ⟨x, h, _⟩ => absurd h (opt_none x), fun h => absurd h (opt_none z)⟩
  · have e : callF A nm n fs = meetF fs (β t) n := by
      unfold callF
      rw [if_pos ⟨hh, by omega⟩, hi]
      simp
    rw [e]
    unfold meetF
    constructor
    · rintro ⟨x, h1, h2⟩
      rw [opt_nat] at h1
      subst h1
      obtain ⟨g, h3, h4⟩ := (hE _ _ _).2 h2
      rw [h3]; exact h4
    · intro h
      refine ⟨n, (opt_nat n n).2 rfl, (hE _ _ _).1 ?_⟩
      cases hg : hasG fs.gs (β t) n with
      | some g => rw [hg] at h; exact ⟨g, hg, h⟩
      | none => rw [hg] at h; exact absurd h (opt_none z)
theorem call_range {A : List Ak} {nm : ByteArray} {x0 : Int} {fs : FS} (hg : ∀ g ∈ fs.gs, -1 ≤ g.en ∧ g.en ≤ 23) : -1 ≤ (callF A nm x0 fs).1 ∧ (callF A nm x0 fs).1 ≤ 23 := by
  unfold callF
  split
  · unfold meetF
    split
    · rename_i g h; exact hg g (hasG_mem h).1
    · simp
  · simp
theorem hole_rcd {A : List Ak} {β : Nat → Nat} {x0 : Int} {fs : FS} {i p : Nat} {a : Ak} (hx : -1 ≤ x0) (ha : A[i]? = some a) (hp : a.at' = p) (ho : x0 ≠ -1 → opS x0.toNat = true) :
    Rcd A β (fun ev => ∃ x, opt x0 x ∧ (if opS x = true then ev = .use p x else ev = .bad)) fs (if x0 = -1 then fs else { fs with cm := upd2 fs.cm i x0.toNat }) := by
  rcases opt_eq hx with rfl | ⟨n, rfl⟩
  · rw [if_pos rfl]
    exact Rcd.refl _ _ _ _ (fun n c ⟨x, h, _⟩ => opt_none x h) (fun t x ⟨y, h, _⟩ => opt_none y h)
  · have hn : (n : Int) ≠ -1 := by omega
    have ho' := ho hn
    rw [if_neg hn]
    simp only [Int.toNat_natCast] at *
    refine ⟨fun j c h => ?_, fun j c h => ?_, fun m c ⟨x, h1, h2⟩ => ?_, ⟨[], by simp, fun g hg => absurd hg (by simp)⟩, fun t x ⟨y, _, h⟩ => ?_, fun h => ⟨h, rfl⟩, fun h => h, fun h => h, fun h => .inl h⟩
    · show upd2 fs.cm i n j c = true
      unfold upd2; split <;> simp_all
    · have h' : upd2 fs.cm i n j c = true := h
      unfold upd2 at h'
      split at h'
      · rename_i e
        refine .inr ⟨a, by rw [e.1]; exact ha, n, (opt_nat n n).2 rfl, ?_⟩
        rw [if_pos ho', hp, e.2]
      · exact .inl h'
    · rw [opt_nat] at h1
      subst h1
      rw [if_pos ho'] at h2
      cases h2
      exact ⟨i, a, ha, hp, by show upd2 _ _ _ _ _ = true; simp [upd2]⟩
    · split at h <;> cases h
theorem hole_bad {x0 : Int} {p : Nat} (hx : -1 ≤ x0) (ho : x0 ≠ -1 → opS x0.toNat = true) : ¬ ∃ x, opt x0 x ∧ (if opS x = true then Ev.bad = .use p x else Ev.bad = .bad) := by
  rintro ⟨x, h1, h2⟩
  have e : x0 = x := h1
  have := ho (by omega)
  rw [e] at this
  simp only [Int.toNat_natCast] at this
  rw [if_pos this] at h2
  cases h2
theorem lfp_opt {f : Cs → Cs} {x0 x2 xm : Int} (hf : ∀ z, f (opt x0) z ↔ opt x2 z) (h1 : x2 = -1 ∨ x2 = x0) (hm : xm = if x2 = -1 then x0 else x2) (z : Nat) : lfp f (opt x0) z ↔ opt xm z := by
  have e : xm = x0 := by rcases h1 with h | h <;> simp [hm, h]
  rw [e]
  constructor
  · intro h
    refine h (opt x0) (fun _ q => q) (fun y hy => ?_)
    have := (hf y).1 hy
    rcases h1 with h | h
    · rw [h] at this; exact absurd this (opt_none y)
    · rw [h] at this; exact this
  · exact lfp_in f _ z
theorem or_opt {x2 o xm : Int} (hx : -1 ≤ x2) (ho : -1 ≤ o) (hm : xm = if x2 = -1 then o else x2) (hk : o = -1 ∨ o = xm) (z : Nat) : (opt x2 z ∨ opt o z) ↔ opt xm z := by
  by_cases e : x2 = -1
  · rw [if_pos e] at hm
    rw [e, hm]
    exact ⟨fun h => h.elim (fun h => absurd h (opt_none z)) (fun h => h), .inr⟩
  · rw [if_neg e] at hm
    rw [hm]
    rcases hk with h | h
    · rw [h]; exact ⟨fun q => q.elim (fun q => q) (fun q => absurd q (opt_none z)), .inl⟩
    · rw [h, hm]; exact ⟨fun q => q.elim (fun q => q) (fun q => q), .inl⟩
theorem or_two {x2 o xm : Int} {S : Cs} (hx : -1 ≤ x2) (ho : -1 ≤ o) (hm : xm = if x2 = -1 then o else x2) (hk : ¬ (o = -1 ∨ o = xm)) (h1 : ∀ z, opt x2 z → S z) (h2 : ∀ z, opt o z → S z) : two S := by
  have e : x2 ≠ -1 := fun e => hk (.inr (by rw [hm, if_pos e]))
  rw [if_neg e] at hm
  subst hm
  obtain ⟨n, rfl⟩ : ∃ n : Nat, o = n := ⟨o.toNat, by omega⟩
  obtain ⟨m, rfl⟩ : ∃ m : Nat, xm = m := ⟨xm.toNat, by omega⟩
  exact ⟨n, m, h2 n ((opt_nat n n).2 rfl), h1 m ((opt_nat m m).2 rfl), fun e => hk (.inr (by rw [e]))⟩
theorem evt_two {ts : List Tm} {E : En} (b : Nds) {S : Cs} (h : two S) : evt ts E b S .bad := by
  cases b with
  | nil => exact ⟨rfl, h⟩
  | cons => exact .inl ⟨rfl, h⟩
end Go.Proofs.YtffkejkgkgfnhabGreat
