import Derived.Test.YtffkejkgkgfnhaaRows
import Derived.WalkKit
import Derived.ProofKit
import Derived.OpenShut
import Derived.ShutString
import Derived.ChangeOld
import Derived.Deep.Slices
import Derived.Lib.Strings
import Derived.Test.YtffkejkgkgfnhaaProg
import Derived.WalkSpells
import Derived.WalkLawsBesides
import Derived.Deep.QuietTactic
import Derived.BigQuiet
import Derived.Below
import Derived.Deep.AppendLies
namespace Go.Proofs.Ytffkejkgkgfnhaa
open Go.ChangeShapes Go.WideShapes Go.ChangeAt Go.RowKit Go.Deep
set_option linter.unusedVariables false
theorem five {α : Type} (l : List α) (h : l.length = 5) : ∃ a b c d e, l = [a, b, c, d, e] := by
  match l, h with
  | [a, b, c, d, e], _ => exact ⟨a, b, c, d, e, rfl⟩
theorem cells9 : Try.prog.cellsOf 9 = 1 := by kernel_rfl
/-- WHAT THE WALK IS TOLD OF A SCRIPT: it is empty, or its steps lie in five cells each. -/
def IsOps (w : World) (a : Option Addr) (len : Nat) (Q : Int → ByteArray → ByteArray → Prop) : Prop :=
  len = 0 ∨ ∃ (b off : Nat) (Kd Nn : Nat → Int) (Ss Ts : Nat → ByteArray) (Ds : Nat → Value), a = some ⟨b, off, none⟩ ∧ b < w.heap.size ∧
    (∀ i, i < len → w.cell? ⟨b, off + i * 5, none⟩ = some (.int .i64 (Kd i))) ∧
    (∀ i, i < len → w.cell? ⟨b, off + i * 5 + 1, none⟩ = some (.int .i64 (Nn i))) ∧
    (∀ i, i < len → w.cell? ⟨b, off + i * 5 + 2, none⟩ = some (.string (Ss i))) ∧
    (∀ i, i < len → w.cell? ⟨b, off + i * 5 + 3, none⟩ = some (.string (Ts i))) ∧
    (∀ i, i < len → w.cell? ⟨b, off + i * 5 + 4, none⟩ = some (Ds i)) ∧ (∀ i, i < len → Q (Nn i) (Ss i) (Ts i))
end Go.Proofs.Ytffkejkgkgfnhaa
/-
  THE PLAIN MATHEMATICS OF SOURCES: no Go, no program.
-/
namespace Go.Proofs.Ytffkejkgkgfnhaa
set_option linter.unusedVariables false
/-- the byte at a place; -1 behind the end -/
def gb (s : ByteArray) (k : Nat) : Int := if h : k < s.size then ((s[k]'h).toNat : Int) else -1
theorem gb_in (s : ByteArray) (k : Nat) (h : k < s.size) : gb s k = ((s[k]'h).toNat : Int) := by simp [gb, h]
def az (b : Int) : Bool := decide (97 ≤ b ∧ b ≤ 122)
/-- the first place from k on that is behind the end, or whose byte is not of the kind -/
def skp (s : ByteArray) (a : Int → Bool) (k : Nat) : Nat :=
  if h : k < s.size then if a (gb s k) then skp s a (k + 1) else k else k
  termination_by s.size - k
theorem skp_go (s : ByteArray) (a : Int → Bool) (k : Nat) (h : k < s.size) (ha : a (gb s k) = true) : skp s a k = skp s a (k + 1) := by
  conv => lhs; rw [skp]
  simp [h, ha]
theorem skp_stop (s : ByteArray) (a : Int → Bool) (k : Nat) (h : k < s.size) (ha : a (gb s k) = false) : skp s a k = k := by
  rw [skp]; simp [h, ha]
theorem skp_end (s : ByteArray) (a : Int → Bool) (k : Nat) (h : ¬ k < s.size) : skp s a k = k := by
  rw [skp]; simp [h]
theorem skp_ge (s : ByteArray) (a : Int → Bool) (k : Nat) : k ≤ skp s a k := by
  induction hn : s.size - k generalizing k with
  | zero => rw [skp_end s a k (by omega)]; omega
  | succ n ih =>
    have h : k < s.size := by omega
    cases ha : a (gb s k)
    · rw [skp_stop s a k h ha]; omega
    · rw [skp_go s a k h ha]; have := ih (k + 1) (by omega); omega
theorem skp_le (s : ByteArray) (a : Int → Bool) (k : Nat) (hk : k ≤ s.size) : skp s a k ≤ s.size := by
  induction hn : s.size - k generalizing k with
  | zero => rw [skp_end s a k (by omega)]; omega
  | succ n ih =>
    have h : k < s.size := by omega
    cases ha : a (gb s k)
    · rw [skp_stop s a k h ha]; omega
    · rw [skp_go s a k h ha]; exact ih (k + 1) (by omega) (by omega)
theorem skp_all (s : ByteArray) (a : Int → Bool) (k : Nat) : ∀ j, k ≤ j → j < skp s a k → j < s.size ∧ a (gb s j) = true := by
  induction hn : s.size - k generalizing k with
  | zero => intro j h1 h2; rw [skp_end s a k (by omega)] at h2; omega
  | succ n ih =>
    have h : k < s.size := by omega
    intro j h1 h2
    cases ha : a (gb s k)
    · rw [skp_stop s a k h ha] at h2; omega
    · rw [skp_go s a k h ha] at h2
      by_cases e : j = k
      · subst e; exact ⟨h, ha⟩
      · exact ih (k + 1) (by omega) j (by omega) h2
theorem skp_at (s : ByteArray) (a : Int → Bool) (k : Nat) (h : skp s a k < s.size) : a (gb s (skp s a k)) = false := by
  induction hn : s.size - k generalizing k with
  | zero => rw [skp_end s a k (by omega)] at h; omega
  | succ n ih =>
    have hk : k < s.size := by omega
    cases ha : a (gb s k)
    · rw [skp_stop s a k hk ha]; exact ha
    · rw [skp_go s a k hk ha] at h ⊢; exact ih (k + 1) h (by omega)
/-- it is the one place with these two marks -/
theorem skp_eq (s : ByteArray) (a : Int → Bool) (k m : Nat) (h0 : k ≤ m) (h1 : ∀ j, k ≤ j → j < m → j < s.size ∧ a (gb s j) = true) (h2 : m < s.size → a (gb s m) = false) : skp s a k = m := by
  rcases Nat.lt_trichotomy (skp s a k) m with h | h | h
  · have hg := skp_ge s a k
    have h3 := h1 _ hg h
    have := skp_at s a k h3.1
    rw [h3.2] at this; cases this
  · exact h
  · have h3 := skp_all s a k m h0 h
    rw [h2 h3.1] at h3; cases h3.2
structure Ac where
  kind : Int
  name : ByteArray
  next : Nat
def kindO (m : Int) : Int := if m = 43 then 1 else if m = 45 then 2 else if m = 63 then 4 else if m = 58 then 5 else if m = 42 then 6 else if m = 47 then 7 else if m = 62 then 8 else if az m then 3 else 0
def fitsK (k : Int) (n : Nat) : Bool := if k = 0 then false else if k = 2 ∨ k = 5 ∨ k = 7 then decide (n = 0) else decide (1 ≤ n ∧ n ≤ 8)
def noAc (p : Nat) : Ac := ⟨0, ⟨#[]⟩, p⟩
def frm (s : ByteArray) (p : Nat) : Nat := if kindO (gb s (p + 1)) = 3 then p + 1 else p + 2
def nend (s : ByteArray) (p : Nat) : Nat := skp s az (frm s p)
def isAc (s : ByteArray) (p : Nat) : Bool := decide (p + 1 < s.size ∧ gb s p = 123) && fitsK (kindO (gb s (p + 1))) (nend s p - frm s p) && decide (nend s p < s.size ∧ gb s (nend s p) = 125)
def act (s : ByteArray) (p : Nat) : Ac := if isAc s p then ⟨kindO (gb s (p + 1)), s.extract (frm s p) (nend s p), nend s p + 1⟩ else noAc p
theorem kindO_range (m : Int) : 0 ≤ kindO m ∧ kindO m ≤ 8 := by unfold kindO; (repeat' split) <;> omega
theorem act_range (s : ByteArray) (p : Nat) : 0 ≤ (act s p).kind ∧ (act s p).kind ≤ 8 := by
  unfold act; split
  · exact kindO_range _
  · simp [noAc]
theorem frm_range (s : ByteArray) (p : Nat) (h : p + 1 < s.size) : p + 1 ≤ frm s p ∧ frm s p ≤ s.size := by unfold frm; split <;> omega
theorem act_next (s : ByteArray) (p : Nat) (h : (act s p).kind ≠ 0) : p + 3 ≤ (act s p).next ∧ (act s p).next ≤ s.size ∧ p + 1 < s.size ∧ gb s p = 123 := by
  unfold act at *
  split at h
  · rename_i hi
    rw [if_pos hi]
    simp only [isAc, Bool.and_eq_true, decide_eq_true_eq] at hi
    obtain ⟨⟨h1, h2⟩, h3⟩ := hi
    have h4 := frm_range s p h1.1
    have h5 := skp_ge s az (frm s p)
    show p + 3 ≤ nend s p + 1 ∧ nend s p + 1 ≤ s.size ∧ _ ∧ _
    refine ⟨?_, by omega, h1.1, h1.2⟩
    unfold nend at *
    by_cases hk : kindO (gb s (p + 1)) = 3
    · rw [hk] at h2
      have : frm s p = p + 1 := by unfold frm; rw [if_pos hk]
      simp [fitsK] at h2
      omega
    · have : frm s p = p + 2 := by unfold frm; rw [if_neg hk]
      omega
  · simp [noAc] at h
structure Ak where
  kind : Int
  name : ByteArray
  at' : Nat
structure Cfg where
  p : Nat
  inb : Bool
  nt : Nat
  op : List Int
  acts : List Ak
inductive Res where
  | go (c : Cfg)
  | err (w : Nat)
  | fin (acts : List Ak)
/-- behind an action of a kind: within a body?, how many templates, what is open (the innermost last) -/
def takeS (inb : Bool) (nt : Nat) (op : List Int) (k : Int) : Option (Bool × Nat × List Int) :=
  if inb = false then (if k = 1 ∧ nt < 6 then some (true, nt + 1, op) else none)
  else if k = 3 ∨ k = 8 then some (true, nt, op)
  else if k = 4 ∨ k = 6 then (if op.length < 8 then some (true, nt, op ++ [k]) else none)
  else if k = 5 then (if op.getLast? = some 4 then some (true, nt, op.dropLast ++ [5]) else none)
  else if k = 7 then (if op = [] then none else some (true, nt, op.dropLast))
  else if k = 2 then (if op = [] then some (false, nt, op) else none)
  else none
def stepC (s : ByteArray) (c : Cfg) : Res :=
  if c.p < s.size then
    if c.inb = true ∧ gb s c.p ≠ 123 ∧ gb s c.p ≠ 125 then .go { c with p := c.p + 1 }
    else match takeS c.inb c.nt c.op (act s c.p).kind with
      | none => .err c.p
      | some (i, n, o) => .go ⟨(act s c.p).next, i, n, o, c.acts ++ [⟨(act s c.p).kind, (act s c.p).name, c.p⟩]⟩
  else if c.inb = true ∨ c.nt = 0 then .err s.size else .fin c.acts
inductive Reach (s : ByteArray) : Cfg → Cfg → Prop where
  | refl (c : Cfg) : Reach s c c
  | step {c d e : Cfg} (h : stepC s c = .go d) (r : Reach s d e) : Reach s c e
theorem Reach.trans {s : ByteArray} {c d e : Cfg} (h : Reach s c d) (k : Reach s d e) : Reach s c e := by
  induction h with
  | refl c => exact k
  | step h r ih => exact .step h (ih k)
theorem Reach.one {s : ByteArray} {c d : Cfg} (h : stepC s c = .go d) : Reach s c d := .step h (.refl _)
def Res.last : Res → Prop
  | .go _ => False
  | _ => True
def Ends (s : ByteArray) (c : Cfg) (r : Res) : Prop := ∃ d, Reach s c d ∧ stepC s d = r ∧ r.last
theorem ends_unique {s : ByteArray} {c : Cfg} {r r' : Res} (h : Ends s c r) (h' : Ends s c r') : r = r' := by
  obtain ⟨d, hr, hs, hl⟩ := h
  obtain ⟨d', hr', hs', hl'⟩ := h'
  induction hr with
  | refl c =>
    cases hr' with
    | refl => rw [← hs, ← hs']
    | step h r => rw [h] at hs; rw [← hs] at hl; exact hl.elim
  | step h r ih =>
    cases hr' with
    | refl => rw [h] at hs'; rw [← hs'] at hl'; exact hl'.elim
    | step h2 r2 => rw [h] at h2; cases h2; exact ih hs r2
theorem Ends.of {s : ByteArray} {c d : Cfg} {r : Res} (h : Reach s c d) (k : Ends s d r) : Ends s c r := by
  obtain ⟨e, h1, h2, h3⟩ := k
  exact ⟨e, h.trans h1, h2, h3⟩
def init : Cfg := ⟨0, false, 0, [], []⟩
end Go.Proofs.Ytffkejkgkgfnhaa
namespace Go.Proofs.Ytffkejkgkgfnhaa
set_option linter.unusedVariables false
def txB (b : Int) : Bool := decide (b ≠ 123 ∧ b ≠ 125)
theorem ext_size (s : ByteArray) (a b : Nat) (h : b ≤ s.size) : (s.extract a b).size = b - a := by
  have e : (s.extract a b).data.toList.length = (s.extract a b).size := rfl
  rw [← e, Lib.extract_data, List.length_take, List.length_drop]
  have e2 : s.data.toList.length = s.size := rfl
  omega
theorem gb_list (s : ByteArray) (k : Nat) (h : k < s.size) : s.data.toList[k]? = some (s[k]'h) := by
  have e2 : s.data.toList.length = s.size := rfl
  rw [List.getElem?_eq_getElem (by omega)]; rfl
end Go.Proofs.Ytffkejkgkgfnhaa
namespace Go.Proofs.Ytffkejkgkgfnhaa
open Go.RowKit
set_option linter.unusedVariables false
theorem hidS {p : Prop} (h : p) : Hid p := h
theorem retS_bool {a b : Bool} (h : a = b) : Ending.returned (.bool a) = .returned (.bool b) := by rw [h]
theorem retS_int {k : IntKind} {a b : Int} (h : a = b) : Ending.returned (.int k a) = .returned (.int k b) := by rw [h]
theorem act_no (s : ByteArray) (p : Nat) (h : ¬ (p < s.size ∧ gb s p = 123)) : (act s p).kind = 0 := by
  by_cases e : (act s p).kind = 0
  · exact e
  · have := act_next s p e; omega
end Go.Proofs.Ytffkejkgkgfnhaa
namespace Go.Proofs.Ytffkejkgkgfnhaa
open Go.RowKit
set_option linter.unusedVariables false
inductive Nds where
  | nil
  | cons (k at' : Int) (nm : ByteArray) (th el : Nds) (two : Bool) (r : Nds)
def Nds.len : Nds → Nat
  | .nil => 0
  | .cons _ _ _ _ _ _ r => r.len + 1
/-- a source from place p to place e, as pieces and as actions, with d things open around it -/
inductive Flat (s : ByteArray) : Nat → Nds → Nat → List Ak → Nat → Prop where
  | nil (d p : Nat) : Flat s d .nil p [] p
  | text {d p e : Nat} {r : Nds} {A : List Ak} (h : p < skp s txB p) (k : Flat s d r (skp s txB p) A e) : Flat s d (.cons 1 p (s.extract p (skp s txB p)) .nil .nil false r) p A e
  | hole {d p e : Nat} {r : Nds} {A : List Ak} (h : (act s p).kind = 3) (k : Flat s d r (act s p).next A e) : Flat s d (.cons 2 p (act s p).name .nil .nil false r) p (⟨3, (act s p).name, p⟩ :: A) e
  | call {d p e : Nat} {r : Nds} {A : List Ak} (h : (act s p).kind = 8) (k : Flat s d r (act s p).next A e) : Flat s d (.cons 5 p (act s p).name .nil .nil false r) p (⟨8, (act s p).name, p⟩ :: A) e
  | loop {d p e e1 : Nat} {th r : Nds} {A1 A : List Ak} (hd : d < 8) (h : (act s p).kind = 6) (k1 : Flat s (d + 1) th (act s p).next A1 e1) (h1 : (act s e1).kind = 7) (k : Flat s d r (act s e1).next A e) :
      Flat s d (.cons 4 p (act s p).name th .nil false r) p (⟨6, (act s p).name, p⟩ :: (A1 ++ ⟨7, (act s e1).name, e1⟩ :: A)) e
  | one {d p e e1 : Nat} {th r : Nds} {A1 A : List Ak} (hd : d < 8) (h : (act s p).kind = 4) (k1 : Flat s (d + 1) th (act s p).next A1 e1) (h1 : (act s e1).kind = 7) (k : Flat s d r (act s e1).next A e) :
      Flat s d (.cons 3 p (act s p).name th .nil false r) p (⟨4, (act s p).name, p⟩ :: (A1 ++ ⟨7, (act s e1).name, e1⟩ :: A)) e
  | two {d p e e1 e2 : Nat} {th el r : Nds} {A1 A2 A : List Ak} (hd : d < 8) (h : (act s p).kind = 4) (k1 : Flat s (d + 1) th (act s p).next A1 e1) (h1 : (act s e1).kind = 5) (k2 : Flat s (d + 1) el (act s e1).next A2 e2) (h2 : (act s e2).kind = 7)
      (k : Flat s d r (act s e2).next A e) :
      Flat s d (.cons 3 p (act s p).name th el true r) p (⟨4, (act s p).name, p⟩ :: (A1 ++ ⟨5, (act s e1).name, e1⟩ :: (A2 ++ ⟨7, (act s e2).name, e2⟩ :: A))) e
theorem step_text (s : ByteArray) (p nt : Nat) (op : List Int) (acts : List Ak) (h : p < s.size) (ht : txB (gb s p) = true) : stepC s ⟨p, true, nt, op, acts⟩ = .go ⟨p + 1, true, nt, op, acts⟩ := by
  simp only [txB, decide_eq_true_eq] at ht
  simp [stepC, h, ht]
theorem reach_text (s : ByteArray) (p nt : Nat) (op : List Int) (acts : List Ak) : Reach s ⟨p, true, nt, op, acts⟩ ⟨skp s txB p, true, nt, op, acts⟩ := by
  induction hn : s.size - p generalizing p with
  | zero => rw [skp_end s txB p (by omega)]; exact .refl _
  | succ n ih =>
    have h : p < s.size := by omega
    cases ha : txB (gb s p)
    · rw [skp_stop s txB p h ha]; exact .refl _
    · rw [skp_go s txB p h ha]; exact .step (step_text s p nt op acts h ha) (ih (p + 1) (by omega))
theorem step_act (s : ByteArray) (p nt : Nat) (op : List Int) (acts : List Ak) (i : Bool) (n : Nat) (o : List Int) (inb : Bool) (h : (act s p).kind ≠ 0) (ht : takeS inb nt op (act s p).kind = some (i, n, o)) :
    stepC s ⟨p, inb, nt, op, acts⟩ = .go ⟨(act s p).next, i, n, o, acts ++ [⟨(act s p).kind, (act s p).name, p⟩]⟩ := by
  obtain ⟨_, _, h1, h2⟩ := act_next s p h
  simp [stepC, show p < s.size by omega, h2, ht]
theorem step_err (s : ByteArray) (p nt : Nat) (op : List Int) (acts : List Ak) (inb : Bool) (h : p < s.size) (hb : inb = true → txB (gb s p) = false) (ht : takeS inb nt op (act s p).kind = none) :
    stepC s ⟨p, inb, nt, op, acts⟩ = .err p := by
  have : ¬ (inb = true ∧ gb s p ≠ 123 ∧ gb s p ≠ 125) := by
    rintro ⟨h1, h2⟩
    have := hb h1
    simp [txB] at this
    omega
  simp only [stepC, h, if_true]
  rw [if_neg this]
  simp [ht]
theorem ends_err {s : ByteArray} {c : Cfg} {w : Nat} (h : stepC s c = .err w) : Ends s c (.err w) := ⟨c, .refl _, h, trivial⟩
theorem Flat.reach {s : ByteArray} {d p e : Nat} {a : Nds} {A : List Ak} (h : Flat s d a p A e) (nt : Nat) (op : List Int) (acts : List Ak) (ho : op.length = d) :
    Reach s ⟨p, true, nt, op, acts⟩ ⟨e, true, nt, op, acts ++ A⟩ := by
  induction h generalizing op acts with
  | nil d p => simpa using Reach.refl _
  | text h _ ih => exact (reach_text s _ nt op acts).trans (ih op acts ho)
  | @hole d p e r A h _ ih =>
    have s1 := step_act s p nt op acts true nt op true (by omega) (by rw [h]; simp [takeS])
    rw [h] at s1
    have k := ih op (acts ++ [⟨3, (act s p).name, p⟩]) ho
    rw [List.append_assoc] at k
    exact .step s1 k
  | @call d p e r A h _ ih =>
    have s1 := step_act s p nt op acts true nt op true (by omega) (by rw [h]; simp [takeS])
    rw [h] at s1
    have k := ih op (acts ++ [⟨8, (act s p).name, p⟩]) ho
    rw [List.append_assoc] at k
    exact .step s1 k
  | @loop d p e e1 th r A1 A hd h k1 h1 _ ih1 ih =>
    have s1 := step_act s p nt op acts true nt (op ++ [6]) true (by omega) (by rw [h]; simp [takeS]; omega)
    rw [h] at s1
    have r1 := ih1 (op ++ [6]) (acts ++ [⟨6, (act s p).name, p⟩]) (by simp [ho])
    have s2 := step_act s e1 nt (op ++ [6]) (acts ++ [⟨6, (act s p).name, p⟩] ++ A1) true nt op true (by omega) (by rw [h1]; simp [takeS])
    rw [h1] at s2
    have r2 := ih op (acts ++ [⟨6, (act s p).name, p⟩] ++ A1 ++ [⟨7, (act s e1).name, e1⟩]) ho
    have := Reach.step s1 (r1.trans (.step s2 r2))
    simpa [List.append_assoc] using this
  | @one d p e e1 th r A1 A hd h k1 h1 _ ih1 ih =>
    have s1 := step_act s p nt op acts true nt (op ++ [4]) true (by omega) (by rw [h]; simp [takeS]; omega)
    rw [h] at s1
    have r1 := ih1 (op ++ [4]) (acts ++ [⟨4, (act s p).name, p⟩]) (by simp [ho])
    have s2 := step_act s e1 nt (op ++ [4]) (acts ++ [⟨4, (act s p).name, p⟩] ++ A1) true nt op true (by omega) (by rw [h1]; simp [takeS])
    rw [h1] at s2
    have r2 := ih op (acts ++ [⟨4, (act s p).name, p⟩] ++ A1 ++ [⟨7, (act s e1).name, e1⟩]) ho
    have := Reach.step s1 (r1.trans (.step s2 r2))
    simpa [List.append_assoc] using this
  | @two d p e e1 e2 th el r A1 A2 A hd h k1 h1 k2 h2 _ ih1 ih2 ih =>
    have s1 := step_act s p nt op acts true nt (op ++ [4]) true (by omega) (by rw [h]; simp [takeS]; omega)
    rw [h] at s1
    have r1 := ih1 (op ++ [4]) (acts ++ [⟨4, (act s p).name, p⟩]) (by simp [ho])
    have s2 := step_act s e1 nt (op ++ [4]) (acts ++ [⟨4, (act s p).name, p⟩] ++ A1) true nt (op ++ [5]) true (by omega) (by rw [h1]; simp [takeS])
    rw [h1] at s2
    have r2 := ih2 (op ++ [5]) (acts ++ [⟨4, (act s p).name, p⟩] ++ A1 ++ [⟨5, (act s e1).name, e1⟩]) (by simp [ho])
    have s3 := step_act s e2 nt (op ++ [5]) (acts ++ [⟨4, (act s p).name, p⟩] ++ A1 ++ [⟨5, (act s e1).name, e1⟩] ++ A2) true nt op true (by omega) (by rw [h2]; simp [takeS])
    rw [h2] at s3
    have r3 := ih op (acts ++ [⟨4, (act s p).name, p⟩] ++ A1 ++ [⟨5, (act s e1).name, e1⟩] ++ A2 ++ [⟨7, (act s e2).name, e2⟩]) ho
    have := Reach.step s1 (r1.trans (.step s2 (r2.trans (.step s3 r3))))
    simpa [List.append_assoc] using this
def ndC (k a : Int) (nm : ByteArray) (tv ev : Value) (two : Bool) : List Value := [.int .i64 k, .int .i64 a, .string nm, tv, ev, .bool two]
def SlcX (w : World) (A : Nat → Prop) (ty sz : Nat) (v : Value) (n : Nat) (R : List Value → Prop) : Prop :=
  (v = .slice none 0 0 ∧ n = 0 ∧ R []) ∨ ∃ g cap cur, v = .slice (some ⟨g, 0, none⟩) n cap ∧ A g ∧ w.heap[g]? = some (.cells cur ty (0, 0)) ∧ n ≤ cap ∧ cap ≤ maxLen ∧ cur.size = cap * sz ∧ R (cur.toList.take (n * sz))
def RowOK (w : World) (A : Nat → Prop) (ty : Nat) : Nds → List Value → Prop
  | .nil => fun xs => xs = []
  | .cons k a nm th el two r => fun xs => ∃ tv ev ys, xs = ndC k a nm tv ev two ++ ys ∧ SlcX w A ty 6 tv th.len (RowOK w A ty th) ∧ SlcX w A ty 6 ev el.len (RowOK w A ty el) ∧ RowOK w A ty r ys
def Slc (w : World) (A : Nat → Prop) (ty : Nat) (v : Value) (ns : Nds) : Prop := SlcX w A ty 6 v ns.len (RowOK w A ty ns)
theorem SlcX.mono {w w' : World} {A A' : Nat → Prop} {ty sz : Nat} {v : Value} {n : Nat} {R R' : List Value → Prop} (h : SlcX w A ty sz v n R) (hw : ∀ k, A k → w'.heap[k]? = w.heap[k]?) (hA : ∀ k, A k → A' k) (hR : ∀ xs, R xs → R' xs) : SlcX w' A' ty sz v n R' := by
  rcases h with ⟨h1, h2, h3⟩ | ⟨g, cap, cur, h1, h2, h3, h4, h5, h6, h7⟩
  · exact .inl ⟨h1, h2, hR _ h3⟩
  · exact .inr ⟨g, cap, cur, h1, hA g h2, (hw g h2).trans h3, h4, h5, h6, hR _ h7⟩
theorem RowOK.mono {w w' : World} {A A' : Nat → Prop} {ty : Nat} (hw : ∀ k, A k → w'.heap[k]? = w.heap[k]?) (hA : ∀ k, A k → A' k) : ∀ (ns : Nds) (xs : List Value), RowOK w A ty ns xs → RowOK w' A' ty ns xs
  | .nil, xs, h => h
  | .cons k a nm th el two r, xs, h => by
    obtain ⟨tv, ev, ys, h1, h2, h3, h4⟩ := h
    exact ⟨tv, ev, ys, h1, h2.mono hw hA (RowOK.mono hw hA th), h3.mono hw hA (RowOK.mono hw hA el), RowOK.mono hw hA r ys h4⟩
theorem Slc.mono {w w' : World} {A A' : Nat → Prop} {ty : Nat} {v : Value} {ns : Nds} (h : Slc w A ty v ns) (hw : ∀ k, A k → w'.heap[k]? = w.heap[k]?) (hA : ∀ k, A k → A' k) : Slc w' A' ty v ns :=
  SlcX.mono h hw hA (RowOK.mono hw hA ns)
theorem RowOK.len {w : World} {A : Nat → Prop} {ty : Nat} : ∀ (ns : Nds) (xs : List Value), RowOK w A ty ns xs → xs.length = ns.len * 6
  | .nil, xs, h => by
    have h' : xs = [] := h
    subst h'; rfl
  | .cons k a nm th el two r, xs, h => by
    obtain ⟨tv, ev, ys, rfl, h2, h3, h4⟩ := h
    have := RowOK.len r ys h4
    simp [ndC, Nds.len, this]; omega
theorem Slc.nil (w : World) (A : Nat → Prop) (ty : Nat) : Slc w A ty (.slice none 0 0) .nil := .inl ⟨rfl, rfl, rfl⟩
end Go.Proofs.Ytffkejkgkgfnhaa
namespace Go.Proofs.Ytffkejkgkgfnhaa
open Go.RowKit
set_option linter.unusedVariables false
theorem Flat.le {s : ByteArray} {d p e : Nat} {a : Nds} {A : List Ak} (h : Flat s d a p A e) : p ≤ e := by
  induction h with
  | nil d p => omega
  | text h _ ih => omega
  | @hole d p e r A h _ ih => have := act_next s p (by omega); omega
  | @call d p e r A h _ ih => have := act_next s p (by omega); omega
  | @loop d p e e1 th r A1 A hd h k1 h1 _ ih1 ih => have := act_next s p (by omega); have := act_next s e1 (by omega); omega
  | @one d p e e1 th r A1 A hd h k1 h1 _ ih1 ih => have := act_next s p (by omega); have := act_next s e1 (by omega); omega
  | @two d p e e1 e2 th el r A1 A2 A hd h k1 h1 k2 h2 _ ih1 ih2 ih => have := act_next s p (by omega); have := act_next s e1 (by omega); have := act_next s e2 (by omega); omega
theorem take_open (nt : Nat) (op : List Int) (k : Int) (hk : k = 4 ∨ k = 6) (h : op.length < 8) : takeS true nt op k = some (true, nt, op ++ [k]) := by
  rcases hk with rfl | rfl <;> simp [takeS, h]
theorem set_far (w : World) (b j : Nat) (v : Value) (k : Nat) (h : k ≠ b) : (w.setCell ⟨b, j, none⟩ v).heap[k]? = w.heap[k]? := Below.heap_setCell w ⟨b, j, none⟩ v k h
end Go.Proofs.Ytffkejkgkgfnhaa
namespace Go.Proofs.Ytffkejkgkgfnhaa
open Go.RowKit
set_option linter.unusedVariables false
theorem Flat.len {s : ByteArray} {d p e : Nat} {a : Nds} {A : List Ak} (h : Flat s d a p A e) : a.len + p ≤ e := by
  induction h with
  | nil d p => simp [Nds.len]
  | text h _ ih => simp only [Nds.len]; omega
  | @hole d p e r A h _ ih => have := act_next s p (by omega); simp only [Nds.len]; omega
  | @call d p e r A h _ ih => have := act_next s p (by omega); simp only [Nds.len]; omega
  | @loop d p e e1 th r A1 A hd h k1 h1 k2 ih1 ih => have := act_next s p (by omega); have := act_next s e1 (by omega); simp only [Nds.len]; omega
  | @one d p e e1 th r A1 A hd h k1 h1 k2 ih1 ih => have := act_next s p (by omega); have := act_next s e1 (by omega); simp only [Nds.len]; omega
  | @two d p e e1 e2 th el r A1 A2 A hd h k1 h1 k2 h2 k3 ih1 ih2 ih => have := act_next s p (by omega); have := act_next s e1 (by omega); have := act_next s e2 (by omega); simp only [Nds.len]; omega
theorem own_below {w w' : World} {base : Nat} {e : TypeId} {size : Nat} {v : Value} {n : Nat} {xs : List Value} (h : w.ownsRow base e size v n xs) (hb : Below w.heap.size w w') : w'.ownsRow base e size v n xs :=
  h.kept (row := none) ⟨hb.os, hb.tape, hb.output, hb.size, fun k hk _ => hb.block k hk⟩ (Classical.em _)
end Go.Proofs.Ytffkejkgkgfnhaa
namespace Go.Proofs.Ytffkejkgkgfnhaa
open Go.RowKit
set_option linter.unusedVariables false
structure Tm where
  name : ByteArray
  at' : Nat
  body : Nds
def RowT (w : World) (A : Nat → Prop) : List Tm → List Value → Prop
  | [] => fun xs => xs = []
  | t :: r => fun xs => ∃ (a : Option Addr) (n c : Nat) (ys : List Value), xs = [Value.string t.name, .int .i64 t.at', .slice a n c] ++ ys ∧ Slc w A 102 (.slice a n c) t.body ∧ RowT w A r ys
theorem RowT.mono {w w' : World} {A A' : Nat → Prop} (hw : ∀ k, A k → w'.heap[k]? = w.heap[k]?) (hA : ∀ k, A k → A' k) : ∀ (ts : List Tm) (xs : List Value), RowT w A ts xs → RowT w' A' ts xs
  | [], xs, h => h
  | t :: r, xs, h => by
    obtain ⟨a, n, c, ys, h1, h2, h3⟩ := h
    exact ⟨a, n, c, ys, h1, h2.mono hw hA, RowT.mono hw hA r ys h3⟩
theorem RowT.len {w : World} {A : Nat → Prop} : ∀ (ts : List Tm) (xs : List Value), RowT w A ts xs → xs.length = ts.length * 3
  | [], xs, h => by
    have h' : xs = [] := h
    subst h'; rfl
  | t :: r, xs, h => by
    obtain ⟨a, n, c, ys, rfl, _, h3⟩ := h
    have := RowT.len r ys h3
    simp [this]; omega
inductive TFlat (s : ByteArray) : List Tm → List Ak → Nat → Prop where
  | nil : TFlat s [] [] 0
  | snoc {ts : List Tm} {A B : List Ak} {p e : Nat} {b : Nds} (h : TFlat s ts A p) (hl : ts.length < 6) (hk : (act s p).kind = 1) (hb : Flat s 0 b (act s p).next B e) (he : (act s e).kind = 2) :
      TFlat s (ts ++ [⟨(act s p).name, p, b⟩]) (A ++ ⟨1, (act s p).name, p⟩ :: (B ++ [⟨2, (act s e).name, e⟩])) (act s e).next
theorem TFlat.zero {s : ByteArray} {ts : List Tm} {A : List Ak} {p : Nat} (h : TFlat s ts A p) : (p = 0 ∧ ts = [] ∧ A = []) ∨ (0 < p ∧ ts ≠ []) := by
  cases h with
  | nil => exact .inl ⟨rfl, rfl, rfl⟩
  | @snoc ts A B p e b h hl hk hb he => right; have := act_next s e (by omega); exact ⟨by omega, by simp⟩
theorem TFlat.reach {s : ByteArray} {ts : List Tm} {A : List Ak} {p : Nat} (h : TFlat s ts A p) : Reach s init ⟨p, false, ts.length, [], A⟩ := by
  induction h with
  | nil => exact .refl _
  | @snoc ts A B p e b h hl hk hb he ih =>
    have s1 := step_act s p ts.length [] A true (ts.length + 1) [] false (by omega) (by rw [hk]; simp [takeS, hl])
    rw [hk] at s1
    have r1 := hb.reach (ts.length + 1) [] (A ++ [⟨1, (act s p).name, p⟩]) rfl
    have s2 := step_act s e (ts.length + 1) [] (A ++ [⟨1, (act s p).name, p⟩] ++ B) false (ts.length + 1) [] true (by omega) (by rw [he]; simp [takeS])
    rw [he] at s2
    have := ih.trans (.step s1 (r1.trans (.step s2 (.refl _))))
    simpa [List.append_assoc] using this
theorem tfin (s : ByteArray) (ts : List Tm) (A : List Ak) (q : Nat) (h : TFlat s ts A q) (hq : ¬ q < s.size) (h0 : q ≠ 0) : Ends s init (.fin A) := by
  refine ⟨_, h.reach, ?_, trivial⟩
  rcases h.zero with ⟨h1, _⟩ | ⟨_, h1⟩
  · omega
  · have : ts.length ≠ 0 := by intro e; exact h1 (List.length_eq_zero_iff.1 e)
    simp [stepC, hq]
    intro e; exact absurd e h1
end Go.Proofs.Ytffkejkgkgfnhaa
namespace Go.Proofs.Ytffkejkgkgfnhaa
open Go.RowKit
set_option linter.unusedVariables false
theorem cell_of_heap {w : World} {g j : Nat} {cur : Array Value} {ty : Nat} (h : w.heap[g]? = some (.cells cur ty (0, 0))) : w.cell? ⟨g, j, none⟩ = cur[j]? := by
  simp [World.cell?, h]
theorem RowT.at {w : World} {A : Nat → Prop} : ∀ (ts : List Tm) (xs : List Value) (i : Nat) (hi : i < ts.length), RowT w A ts xs →
    ∃ (a : Option Addr) (n c : Nat), xs[i * 3]? = some (.string ts[i].name) ∧ xs[i * 3 + 1]? = some (.int .i64 ts[i].at') ∧ xs[i * 3 + 2]? = some (.slice a n c) ∧ Slc w A 102 (.slice a n c) ts[i].body
  | [], xs, i, hi, h => absurd hi (by simp)
  | t :: r, xs, 0, hi, h => by
    obtain ⟨a, n, c, ys, rfl, h2, h3⟩ := h
    exact ⟨a, n, c, rfl, rfl, rfl, h2⟩
  | t :: r, xs, i + 1, hi, h => by
    obtain ⟨a, n, c, ys, rfl, h2, h3⟩ := h
    have hi' : i < r.length := by simpa using hi
    obtain ⟨a', n', c', k1, k2, k3, k4⟩ := RowT.at r ys i hi' h3
    refine ⟨a', n', c', ?_, ?_, ?_, k4⟩
    · rw [List.getElem?_append_right (by simp; omega)]; simpa [show (i + 1) * 3 - 3 = i * 3 by omega] using k1
    · rw [List.getElem?_append_right (by simp; omega)]; simpa [show (i + 1) * 3 + 1 - 3 = i * 3 + 1 by omega] using k2
    · rw [List.getElem?_append_right (by simp; omega)]; simpa [show (i + 1) * 3 + 2 - 3 = i * 3 + 2 by omega] using k3
def nmEq (a b : ByteArray) : Bool := a.toList == b.toList
def fndF (nm : ByteArray) : List Tm → Nat → Int
  | [], _ => -1
  | t :: r, i => if nmEq t.name nm then i else fndF nm r (i + 1)
theorem fndF_range (nm : ByteArray) (ts : List Tm) (i : Nat) : -1 ≤ fndF nm ts i ∧ fndF nm ts i < i + ts.length := by
  induction ts generalizing i with
  | nil => simp [fndF]; omega
  | cons t r ih =>
    simp only [fndF]
    split
    · simp; omega
    · have := ih (i + 1); simp; omega
end Go.Proofs.Ytffkejkgkgfnhaa
