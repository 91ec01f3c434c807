import Derived.Test.YtponicaflcbbeaaGreatJ02
import Derived.Below
namespace Go.Proofs.YtponicaflcbbeaaGreat
open Go.RowKit
set_option linter.unusedVariables false
/-! ### Pieces: first child, next sibling -/
inductive Nds where
  | nil
  | cons (k at' : Int) (nm : ByteArray) (th el : Nds) (two : Bool) (r : Nds)
def Nds.len : Nds → Nat
  | .nil => 0
  | .cons _ _ _ _ _ _ r => r.len + 1
def Nds.app : Nds → Nds → Nds
  | .nil, b => b
  | .cons k a n t e w r, b => .cons k a n t e w (r.app b)
theorem Nds.len_app (a b : Nds) : (a.app b).len = a.len + b.len := by
  induction a with
  | nil => simp [Nds.app, Nds.len]
  | cons k a n t e w r iht ihe ih => simp [Nds.app, Nds.len, ih]; omega
/-- a source from place p to place e, as pieces and as actions, with d things open around it -/
inductive Flat (s : ByteArray) : Nat → Nds → Nat → List Ak → Nat → Prop where
  | nil (d p : Nat) : Flat s d .nil p [] p
  | text {d p e : Nat} {r : Nds} {A : List Ak} (h : p < skp s txB p) (k : Flat s d r (skp s txB p) A e) : Flat s d (.cons 1 p (s.extract p (skp s txB p)) .nil .nil false r) p A e
  | hole {d p e : Nat} {r : Nds} {A : List Ak} (h : (act s p).kind = 3) (k : Flat s d r (act s p).next A e) : Flat s d (.cons 2 p (act s p).name .nil .nil false r) p (⟨3, (act s p).name, p⟩ :: A) e
  | call {d p e : Nat} {r : Nds} {A : List Ak} (h : (act s p).kind = 8) (k : Flat s d r (act s p).next A e) : Flat s d (.cons 5 p (act s p).name .nil .nil false r) p (⟨8, (act s p).name, p⟩ :: A) e
  | loop {d p e e1 : Nat} {th r : Nds} {A1 A : List Ak} (hd : d < 8) (h : (act s p).kind = 6) (k1 : Flat s (d + 1) th (act s p).next A1 e1) (h1 : (act s e1).kind = 7) (k : Flat s d r (act s e1).next A e) :
      Flat s d (.cons 4 p (act s p).name th .nil false r) p (⟨6, (act s p).name, p⟩ :: (A1 ++ ⟨7, (act s e1).name, e1⟩ :: A)) e
  | one {d p e e1 : Nat} {th r : Nds} {A1 A : List Ak} (hd : d < 8) (h : (act s p).kind = 4) (k1 : Flat s (d + 1) th (act s p).next A1 e1) (h1 : (act s e1).kind = 7) (k : Flat s d r (act s e1).next A e) :
      Flat s d (.cons 3 p (act s p).name th .nil false r) p (⟨4, (act s p).name, p⟩ :: (A1 ++ ⟨7, (act s e1).name, e1⟩ :: A)) e
  | two {d p e e1 e2 : Nat} {th el r : Nds} {A1 A2 A : List Ak} (hd : d < 8) (h : (act s p).kind = 4) (k1 : Flat s (d + 1) th (act s p).next A1 e1) (h1 : (act s e1).kind = 5) (k2 : Flat s (d + 1) el (act s e1).next A2 e2) (h2 : (act s e2).kind = 7)
      (k : Flat s d r (act s e2).next A e) :
      Flat s d (.cons 3 p (act s p).name th el true r) p (⟨4, (act s p).name, p⟩ :: (A1 ++ ⟨5, (act s e1).name, e1⟩ :: (A2 ++ ⟨7, (act s e2).name, e2⟩ :: A))) e
theorem Flat.app {s : ByteArray} {d p q e : Nat} {a b : Nds} {A B : List Ak} (h : Flat s d a p A q) (k : Flat s d b q B e) : Flat s d (a.app b) p (A ++ B) e := by
  induction h with
  | nil d p => exact k
  | text h _ ih => exact .text h (ih k)
  | hole h _ ih => exact .hole h (ih k)
  | call h _ ih => exact .call h (ih k)
  | loop hd h k1 h1 _ _ ih => have := Flat.loop hd h k1 h1 (ih k); simpa [Nds.app] using this
  | one hd h k1 h1 _ _ ih => have := Flat.one hd h k1 h1 (ih k); simpa [Nds.app] using this
  | two hd h k1 h1 k2 h2 _ _ _ ih => have := Flat.two hd h k1 h1 k2 h2 (ih k); simpa [Nds.app] using this
/-! ### What the machine does with them -/
theorem step_text (s : ByteArray) (p nt : Nat) (op : List Int) (acts : List Ak) (h : p < s.size) (ht : txB (gb s p) = true) : stepC s ⟨p, true, nt, op, acts⟩ = .go ⟨p + 1, true, nt, op, acts⟩ := by
  simp only [txB, decide_eq_true_eq] at ht
  simp [stepC, h, ht]
theorem reach_text (s : ByteArray) (p nt : Nat) (op : List Int) (acts : List Ak) : Reach s ⟨p, true, nt, op, acts⟩ ⟨skp s txB p, true, nt, op, acts⟩ := by
  induction hn : s.size - p generalizing p with
  | zero => rw [skp_end s txB p (by omega)]; exact .refl _
  | succ n ih =>
    have h : p < s.size := by omega
    cases ha : txB (gb s p)
    · rw [skp_stop s txB p h ha]; exact .refl _
    · rw [skp_go s txB p h ha]; exact .step (step_text s p nt op acts h ha) (ih (p + 1) (by omega))
theorem step_act (s : ByteArray) (p nt : Nat) (op : List Int) (acts : List Ak) (i : Bool) (n : Nat) (o : List Int) (inb : Bool) (h : (act s p).kind ≠ 0) (ht : takeS inb nt op (act s p).kind = some (i, n, o)) :
    stepC s ⟨p, inb, nt, op, acts⟩ = .go ⟨(act s p).next, i, n, o, acts ++ [⟨(act s p).kind, (act s p).name, p⟩]⟩ := by
  obtain ⟨_, _, h1, h2⟩ := act_next s p h
  simp [stepC, show p < s.size by omega, h2, ht]
theorem step_err (s : ByteArray) (p nt : Nat) (op : List Int) (acts : List Ak) (inb : Bool) (h : p < s.size) (hb : inb = true → txB (gb s p) = false) (ht : takeS inb nt op (act s p).kind = none) :
    stepC s ⟨p, inb, nt, op, acts⟩ = .err p := by
  have : ¬ (inb = true ∧ gb s p ≠ 123 ∧ gb s p ≠ 125) := by
    rintro ⟨h1, h2⟩
    have := hb h1
    simp [txB] at this
    omega
  simp only [stepC, h, if_true]
  rw [if_neg this]
  simp [ht]
theorem ends_err {s : ByteArray} {c : Cfg} {w : Nat} (h : stepC s c = .err w) : Ends s c (.err w) := ⟨c, .refl _, h, trivial⟩
theorem Flat.reach {s : ByteArray} {d p e : Nat} {a : Nds} {A : List Ak} (h : Flat s d a p A e) (nt : Nat) (op : List Int) (acts : List Ak) (ho : op.length = d) :
    Reach s ⟨p, true, nt, op, acts⟩ ⟨e, true, nt, op, acts ++ A⟩ := by
  induction h generalizing op acts with
  | nil d p => simpa using Reach.refl _
  | text h _ ih => exact (reach_text s _ nt op acts).trans (ih op acts ho)
  | @hole d p e r A h _ ih =>
    have s1 := step_act s p nt op acts true nt op true (by omega) (by rw [h]; simp [takeS])
    rw [h] at s1
    have k := ih op (acts ++ [⟨3, (act s p).name, p⟩]) ho
    rw [List.append_assoc] at k
    exact .step s1 k
  | @call d p e r A h _ ih =>
    have s1 := step_act s p nt op acts true nt op true (by omega) (by rw [h]; simp [takeS])
    rw [h] at s1
    have k := ih op (acts ++ [⟨8, (act s p).name, p⟩]) ho
    rw [List.append_assoc] at k
    exact .step s1 k
  | @loop d p e e1 th r A1 A hd h k1 h1 _ ih1 ih =>
    have s1 := step_act s p nt op acts true nt (op ++ [6]) true (by omega) (by rw [h]; simp [takeS]; omega)
    rw [h] at s1
    have r1 := ih1 (op ++ [6]) (acts ++ [⟨6, (act s p).name, p⟩]) (by simp [ho])
    have s2 := step_act s e1 nt (op ++ [6]) (acts ++ [⟨6, (act s p).name, p⟩] ++ A1) true nt op true (by omega) (by rw [h1]; simp [takeS])
    rw [h1] at s2
    have r2 := ih op (acts ++ [⟨6, (act s p).name, p⟩] ++ A1 ++ [⟨7, (act s e1).name, e1⟩]) ho
    have := Reach.step s1 (r1.trans (.step s2 r2))
    simpa [List.append_assoc] using this
  | @one d p e e1 th r A1 A hd h k1 h1 _ ih1 ih =>
    have s1 := step_act s p nt op acts true nt (op ++ [4]) true (by omega) (by rw [h]; simp [takeS]; omega)
    rw [h] at s1
    have r1 := ih1 (op ++ [4]) (acts ++ [⟨4, (act s p).name, p⟩]) (by simp [ho])
    have s2 := step_act s e1 nt (op ++ [4]) (acts ++ [⟨4, (act s p).name, p⟩] ++ A1) true nt op true (by omega) (by rw [h1]; simp [takeS])
    rw [h1] at s2
    have r2 := ih op (acts ++ [⟨4, (act s p).name, p⟩] ++ A1 ++ [⟨7, (act s e1).name, e1⟩]) ho
    have := Reach.step s1 (r1.trans (.step s2 r2))
    simpa [List.append_assoc] using this
  | @two d p e e1 e2 th el r A1 A2 A hd h k1 h1 k2 h2 _ ih1 ih2 ih =>
    have s1 := step_act s p nt op acts true nt (op ++ [4]) true (by omega) (by rw [h]; simp [takeS]; omega)
    rw [h] at s1
    have r1 := ih1 (op ++ [4]) (acts ++ [⟨4, (act s p).name, p⟩]) (by simp [ho])
    have s2 := step_act s e1 nt (op ++ [4]) (acts ++ [⟨4, (act s p).name, p⟩] ++ A1) true nt (op ++ [5]) true (by omega) (by rw [h1]; simp [takeS])
    rw [h1] at s2
    have r2 := ih2 (op ++ [5]) (acts ++ [⟨4, (act s p).name, p⟩] ++ A1 ++ [⟨5, (act s e1).name, e1⟩]) (by simp [ho])
    have s3 := step_act s e2 nt (op ++ [5]) (acts ++ [⟨4, (act s p).name, p⟩] ++ A1 ++ [⟨5, (act s e1).name, e1⟩] ++ A2) true nt op true (by omega) (by rw [h2]; simp [takeS])
    rw [h2] at s3
    have r3 := ih op (acts ++ [⟨4, (act s p).name, p⟩] ++ A1 ++ [⟨5, (act s e1).name, e1⟩] ++ A2 ++ [⟨7, (act s e2).name, e2⟩]) ho
    have := Reach.step s1 (r1.trans (.step s2 (r2.trans (.step s3 r3))))
    simpa [List.append_assoc] using this
/-! ### Pieces in memory -/
def ndC (k a : Int) (nm : ByteArray) (tv ev : Value) (two : Bool) : List Value := [.int .i64 k, .int .i64 a, .string nm, tv, ev, .bool two]
def SlcX (w : World) (A : Nat → Prop) (ty sz : Nat) (v : Value) (n : Nat) (R : List Value → Prop) : Prop :=
  (v = .slice none 0 0 ∧ n = 0 ∧ R []) ∨ ∃ g cap cur, v = .slice (some ⟨g, 0, none⟩) n cap ∧ A g ∧ w.heap[g]? = some (.cells cur ty (0, 0)) ∧ n ≤ cap ∧ cap ≤ maxLen ∧ cur.size = cap * sz ∧ R (cur.toList.take (n * sz))
def RowOK (w : World) (A : Nat → Prop) (ty : Nat) : Nds → List Value → Prop
  | .nil => fun xs => xs = []
  | .cons k a nm th el two r => fun xs => ∃ tv ev ys, xs = ndC k a nm tv ev two ++ ys ∧ SlcX w A ty 6 tv th.len (RowOK w A ty th) ∧ SlcX w A ty 6 ev el.len (RowOK w A ty el) ∧ RowOK w A ty r ys
def Slc (w : World) (A : Nat → Prop) (ty : Nat) (v : Value) (ns : Nds) : Prop := SlcX w A ty 6 v ns.len (RowOK w A ty ns)
theorem SlcX.mono {w w' : World} {A A' : Nat → Prop} {ty sz : Nat} {v : Value} {n : Nat} {R R' : List Value → Prop} (h : SlcX w A ty sz v n R) (hw : ∀ k, A k → w'.heap[k]? = w.heap[k]?) (hA : ∀ k, A k → A' k) (hR : ∀ xs, R xs → R' xs) : SlcX w' A' ty sz v n R' := by
  rcases h with ⟨h1, h2, h3⟩ | ⟨g, cap, cur, h1, h2, h3, h4, h5, h6, h7⟩
  · exact .inl ⟨h1, h2, hR _ h3⟩
  · exact .inr ⟨g, cap, cur, h1, hA g h2, (hw g h2).trans h3, h4, h5, h6, hR _ h7⟩
theorem RowOK.mono {w w' : World} {A A' : Nat → Prop} {ty : Nat} (hw : ∀ k, A k → w'.heap[k]? = w.heap[k]?) (hA : ∀ k, A k → A' k) : ∀ (ns : Nds) (xs : List Value), RowOK w A ty ns xs → RowOK w' A' ty ns xs
  | .nil, xs, h => h
  | .cons k a nm th el two r, xs, h => by
    obtain ⟨tv, ev, ys, h1, h2, h3, h4⟩ := h
    exact ⟨tv, ev, ys, h1, h2.mono hw hA (RowOK.mono hw hA th), h3.mono hw hA (RowOK.mono hw hA el), RowOK.mono hw hA r ys h4⟩
theorem Slc.mono {w w' : World} {A A' : Nat → Prop} {ty : Nat} {v : Value} {ns : Nds} (h : Slc w A ty v ns) (hw : ∀ k, A k → w'.heap[k]? = w.heap[k]?) (hA : ∀ k, A k → A' k) : Slc w' A' ty v ns :=
  SlcX.mono h hw hA (RowOK.mono hw hA ns)
theorem RowOK.len {w : World} {A : Nat → Prop} {ty : Nat} : ∀ (ns : Nds) (xs : List Value), RowOK w A ty ns xs → xs.length = ns.len * 6
  | .nil, xs, h => by
    have h' : xs = [] := h
    subst h'; rfl
  | .cons k a nm th el two r, xs, h => by
    obtain ⟨tv, ev, ys, rfl, h2, h3, h4⟩ := h
    have := RowOK.len r ys h4
    simp [ndC, Nds.len, this]; omega
theorem RowOK.app {w : World} {A : Nat → Prop} {ty : Nat} : ∀ (a b : Nds) (xs ys : List Value), RowOK w A ty a xs → RowOK w A ty b ys → RowOK w A ty (a.app b) (xs ++ ys)
  | .nil, b, xs, ys, h, k => by
    have h' : xs = [] := h
    subst h'; simpa [Nds.app] using k
  | .cons q a nm th el two r, b, xs, ys, h, k => by
    obtain ⟨tv, ev, zs, rfl, h2, h3, h4⟩ := h
    exact ⟨tv, ev, zs ++ ys, by simp, h2, h3, RowOK.app r b zs ys h4 k⟩
theorem Slc.nil (w : World) (A : Nat → Prop) (ty : Nat) : Slc w A ty (.slice none 0 0) .nil := .inl ⟨rfl, rfl, rfl⟩
/-- a row that the call owns, as pieces -/
theorem Slc.ofOwn {w : World} {A : Nat → Prop} {base ty : Nat} {v : Value} {ns : Nds} {xs : List Value} (h : w.ownsRow base ty 6 v ns.len xs) (hA : ∀ g, v.ownBlock = some g → A g) (hr : RowOK w A ty ns xs) : Slc w A ty v ns := by
  rcases h.2 with ⟨rfl, h0⟩ | ⟨g, cap, cur, rfl, hb, hg, hn, hm, hs, ht⟩
  · have hx : xs = [] := List.length_eq_zero_iff.1 (by rw [h.1, h0])
    subst hx
    exact .inl ⟨rfl, h0, hr⟩
  · exact .inr ⟨g, cap, cur, rfl, hA g rfl, hg, hn, hm, hs, by rw [ht]; exact hr⟩
end Go.Proofs.YtponicaflcbbeaaGreat
