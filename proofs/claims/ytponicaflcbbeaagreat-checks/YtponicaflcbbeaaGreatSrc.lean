/-
  THE PLAIN MATHEMATICS OF SOURCES: no Go, no program.
-/
import Derived.WalkKit
import Derived.Lib.Strings
namespace Go.Proofs.YtponicaflcbbeaaGreat
set_option linter.unusedVariables false
/-- the byte at a place; -1 behind the end -/
def gb (s : ByteArray) (k : Nat) : Int := if h : k < s.size then ((s[k]'h).toNat : Int) else -1
theorem gb_in (s : ByteArray) (k : Nat) (h : k < s.size) : gb s k = ((s[k]'h).toNat : Int) := by simp [gb, h]
theorem gb_range (s : ByteArray) (k : Nat) (h : k < s.size) : 0 ≤ gb s k ∧ gb s k ≤ 255 := by
  rw [gb_in s k h]; have := UInt8.toNat_lt (s[k]'h); omega
def az (b : Int) : Bool := decide (97 ≤ b ∧ b ≤ 122)
/-- the first place from k on that is behind the end, or whose byte is not of the kind -/
def skp (s : ByteArray) (a : Int → Bool) (k : Nat) : Nat :=
  if h : k < s.size then if a (gb s k) then skp s a (k + 1) else k else k
  termination_by s.size - k
theorem skp_go (s : ByteArray) (a : Int → Bool) (k : Nat) (h : k < s.size) (ha : a (gb s k) = true) : skp s a k = skp s a (k + 1) := by
  conv => lhs; rw [skp]
  simp [h, ha]
theorem skp_stop (s : ByteArray) (a : Int → Bool) (k : Nat) (h : k < s.size) (ha : a (gb s k) = false) : skp s a k = k := by
  rw [skp]; simp [h, ha]
theorem skp_end (s : ByteArray) (a : Int → Bool) (k : Nat) (h : ¬ k < s.size) : skp s a k = k := by
  rw [skp]; simp [h]
theorem skp_ge (s : ByteArray) (a : Int → Bool) (k : Nat) : k ≤ skp s a k := by
  induction hn : s.size - k generalizing k with
  | zero => rw [skp_end s a k (by omega)]; omega
  | succ n ih =>
    have h : k < s.size := by omega
    cases ha : a (gb s k)
    · rw [skp_stop s a k h ha]; omega
    · rw [skp_go s a k h ha]; have := ih (k + 1) (by omega); omega
theorem skp_le (s : ByteArray) (a : Int → Bool) (k : Nat) (hk : k ≤ s.size) : skp s a k ≤ s.size := by
  induction hn : s.size - k generalizing k with
  | zero => rw [skp_end s a k (by omega)]; omega
  | succ n ih =>
    have h : k < s.size := by omega
    cases ha : a (gb s k)
    · rw [skp_stop s a k h ha]; omega
    · rw [skp_go s a k h ha]; exact ih (k + 1) (by omega) (by omega)
theorem skp_all (s : ByteArray) (a : Int → Bool) (k : Nat) : ∀ j, k ≤ j → j < skp s a k → j < s.size ∧ a (gb s j) = true := by
  induction hn : s.size - k generalizing k with
  | zero => intro j h1 h2; rw [skp_end s a k (by omega)] at h2; omega
  | succ n ih =>
    have h : k < s.size := by omega
    intro j h1 h2
    cases ha : a (gb s k)
    · rw [skp_stop s a k h ha] at h2; omega
    · rw [skp_go s a k h ha] at h2
      by_cases e : j = k
      · subst e; exact ⟨h, ha⟩
      · exact ih (k + 1) (by omega) j (by omega) h2
theorem skp_at (s : ByteArray) (a : Int → Bool) (k : Nat) (h : skp s a k < s.size) : a (gb s (skp s a k)) = false := by
  induction hn : s.size - k generalizing k with
  | zero => rw [skp_end s a k (by omega)] at h; omega
  | succ n ih =>
    have hk : k < s.size := by omega
    cases ha : a (gb s k)
    · rw [skp_stop s a k hk ha]; exact ha
    · rw [skp_go s a k hk ha] at h ⊢; exact ih (k + 1) h (by omega)
/-- it is the one place with these two marks -/
theorem skp_eq (s : ByteArray) (a : Int → Bool) (k m : Nat) (h0 : k ≤ m) (h1 : ∀ j, k ≤ j → j < m → j < s.size ∧ a (gb s j) = true) (h2 : m < s.size → a (gb s m) = false) : skp s a k = m := by
  rcases Nat.lt_trichotomy (skp s a k) m with h | h | h
  · have hg := skp_ge s a k
    have h3 := h1 _ hg h
    have := skp_at s a k h3.1
    rw [h3.2] at this; cases this
  · exact h
  · have h3 := skp_all s a k m h0 h
    rw [h2 h3.1] at h3; cases h3.2
/-! ### Actions -/
structure Ac where
  kind : Int
  name : ByteArray
  next : Nat
def kindO (m : Int) : Int := if m = 43 then 1 else if m = 45 then 2 else if m = 63 then 4 else if m = 58 then 5 else if m = 42 then 6 else if m = 47 then 7 else if m = 62 then 8 else if az m then 3 else 0
def fitsK (k : Int) (n : Nat) : Bool := if k = 0 then false else if k = 2 ∨ k = 5 ∨ k = 7 then decide (n = 0) else decide (1 ≤ n ∧ n ≤ 8)
def noAc (p : Nat) : Ac := ⟨0, ⟨#[]⟩, p⟩
def frm (s : ByteArray) (p : Nat) : Nat := if kindO (gb s (p + 1)) = 3 then p + 1 else p + 2
def nend (s : ByteArray) (p : Nat) : Nat := skp s az (frm s p)
def isAc (s : ByteArray) (p : Nat) : Bool := decide (p + 1 < s.size ∧ gb s p = 123) && fitsK (kindO (gb s (p + 1))) (nend s p - frm s p) && decide (nend s p < s.size ∧ gb s (nend s p) = 125)
def act (s : ByteArray) (p : Nat) : Ac := if isAc s p then ⟨kindO (gb s (p + 1)), s.extract (frm s p) (nend s p), nend s p + 1⟩ else noAc p
theorem kindO_range (m : Int) : 0 ≤ kindO m ∧ kindO m ≤ 8 := by unfold kindO; (repeat' split) <;> omega
theorem act_range (s : ByteArray) (p : Nat) : 0 ≤ (act s p).kind ∧ (act s p).kind ≤ 8 := by
  unfold act; split
  · exact kindO_range _
  · simp [noAc]
theorem frm_range (s : ByteArray) (p : Nat) (h : p + 1 < s.size) : p + 1 ≤ frm s p ∧ frm s p ≤ s.size := by unfold frm; split <;> omega
theorem act_next (s : ByteArray) (p : Nat) (h : (act s p).kind ≠ 0) : p + 3 ≤ (act s p).next ∧ (act s p).next ≤ s.size ∧ p + 1 < s.size ∧ gb s p = 123 := by
  unfold act at *
  split at h
  · rename_i hi
    rw [if_pos hi]
    simp only [isAc, Bool.and_eq_true, decide_eq_true_eq] at hi
    obtain ⟨⟨h1, h2⟩, h3⟩ := hi
    have h4 := frm_range s p h1.1
    have h5 := skp_ge s az (frm s p)
    show p + 3 ≤ nend s p + 1 ∧ nend s p + 1 ≤ s.size ∧ _ ∧ _
    refine ⟨?_, by omega, h1.1, h1.2⟩
    unfold nend at *
    by_cases hk : kindO (gb s (p + 1)) = 3
    · rw [hk] at h2
      have : frm s p = p + 1 := by unfold frm; rw [if_pos hk]
      simp [fitsK] at h2
      omega
    · have : frm s p = p + 2 := by unfold frm; rw [if_neg hk]
      omega
  · simp [noAc] at h
theorem act_none (s : ByteArray) (p : Nat) (h : (act s p).kind = 0) : act s p = noAc p := by
  unfold act at *
  split at h
  · rename_i hi
    simp only [isAc, Bool.and_eq_true, decide_eq_true_eq] at hi
    have h' : kindO (gb s (p + 1)) = 0 := h
    rw [h'] at hi
    simp [fitsK] at hi
  · rename_i hi; rw [if_neg hi]
/-! ### The machine -/
structure Ak where
  kind : Int
  name : ByteArray
  at' : Nat
structure Cfg where
  p : Nat
  inb : Bool
  nt : Nat
  op : List Int
  acts : List Ak
inductive Res where
  | go (c : Cfg)
  | err (w : Nat)
  | fin (acts : List Ak)
/-- behind an action of a kind: within a body?, how many templates, what is open (the innermost last) -/
def takeS (inb : Bool) (nt : Nat) (op : List Int) (k : Int) : Option (Bool × Nat × List Int) :=
  if inb = false then (if k = 1 ∧ nt < 6 then some (true, nt + 1, op) else none)
  else if k = 3 ∨ k = 8 then some (true, nt, op)
  else if k = 4 ∨ k = 6 then (if op.length < 8 then some (true, nt, op ++ [k]) else none)
  else if k = 5 then (if op.getLast? = some 4 then some (true, nt, op.dropLast ++ [5]) else none)
  else if k = 7 then (if op = [] then none else some (true, nt, op.dropLast))
  else if k = 2 then (if op = [] then some (false, nt, op) else none)
  else none
def stepC (s : ByteArray) (c : Cfg) : Res :=
  if c.p < s.size then
    if c.inb = true ∧ gb s c.p ≠ 123 ∧ gb s c.p ≠ 125 then .go { c with p := c.p + 1 }
    else match takeS c.inb c.nt c.op (act s c.p).kind with
      | none => .err c.p
      | some (i, n, o) => .go ⟨(act s c.p).next, i, n, o, c.acts ++ [⟨(act s c.p).kind, (act s c.p).name, c.p⟩]⟩
  else if c.inb = true ∨ c.nt = 0 then .err s.size else .fin c.acts
inductive Reach (s : ByteArray) : Cfg → Cfg → Prop where
  | refl (c : Cfg) : Reach s c c
  | step {c d e : Cfg} (h : stepC s c = .go d) (r : Reach s d e) : Reach s c e
theorem Reach.trans {s : ByteArray} {c d e : Cfg} (h : Reach s c d) (k : Reach s d e) : Reach s c e := by
  induction h with
  | refl c => exact k
  | step h r ih => exact .step h (ih k)
theorem Reach.one {s : ByteArray} {c d : Cfg} (h : stepC s c = .go d) : Reach s c d := .step h (.refl _)
def Res.last : Res → Prop
  | .go _ => False
  | _ => True
def Ends (s : ByteArray) (c : Cfg) (r : Res) : Prop := ∃ d, Reach s c d ∧ stepC s d = r ∧ r.last
theorem ends_unique {s : ByteArray} {c : Cfg} {r r' : Res} (h : Ends s c r) (h' : Ends s c r') : r = r' := by
  obtain ⟨d, hr, hs, hl⟩ := h
  obtain ⟨d', hr', hs', hl'⟩ := h'
  induction hr with
  | refl c =>
    cases hr' with
    | refl => rw [← hs, ← hs']
    | step h r => rw [h] at hs; rw [← hs] at hl; exact hl.elim
  | step h r ih =>
    cases hr' with
    | refl => rw [h] at hs'; rw [← hs'] at hl'; exact hl'.elim
    | step h2 r2 => rw [h] at h2; cases h2; exact ih hs r2
theorem Ends.of {s : ByteArray} {c d : Cfg} {r : Res} (h : Reach s c d) (k : Ends s d r) : Ends s c r := by
  obtain ⟨e, h1, h2, h3⟩ := k
  exact ⟨e, h.trans h1, h2, h3⟩
def init : Cfg := ⟨0, false, 0, [], []⟩
end Go.Proofs.YtponicaflcbbeaaGreat
