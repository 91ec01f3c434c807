import Derived.WalkKit
import Derived.Lib.Strings
import Derived.Test.YtponicaflcbbeaaGreatProg
import Derived.WalkSpells
import Derived.WalkLawsBesides
import Derived.Deep.QuietTactic
import Derived.BigQuiet
/-
  THE PLAIN MATHEMATICS OF SOURCES: no Go, no program.
-/
namespace Go.Proofs.YtponicaflcbbeaaGreat
set_option linter.unusedVariables false
/-- the byte at a place; -1 behind the end -/
def gb (s : ByteArray) (k : Nat) : Int := if h : k < s.size then ((s[k]'h).toNat : Int) else -1
theorem gb_in (s : ByteArray) (k : Nat) (h : k < s.size) : gb s k = ((s[k]'h).toNat : Int) := by simp [gb, h]
theorem gb_range (s : ByteArray) (k : Nat) (h : k < s.size) : 0 ≤ gb s k ∧ gb s k ≤ 255 := by
  rw [gb_in s k h]; have := UInt8.toNat_lt (s[k]'h); omega
def az (b : Int) : Bool := decide (97 ≤ b ∧ b ≤ 122)
/-- the first place from k on that is behind the end, or whose byte is not of the kind -/
def skp (s : ByteArray) (a : Int → Bool) (k : Nat) : Nat :=
  if h : k < s.size then if a (gb s k) then skp s a (k + 1) else k else k
  termination_by s.size - k
theorem skp_go (s : ByteArray) (a : Int → Bool) (k : Nat) (h : k < s.size) (ha : a (gb s k) = true) : skp s a k = skp s a (k + 1) := by
  conv => lhs; rw [skp]
  simp [h, ha]
theorem skp_stop (s : ByteArray) (a : Int → Bool) (k : Nat) (h : k < s.size) (ha : a (gb s k) = false) : skp s a k = k := by
  rw [skp]; simp [h, ha]
theorem skp_end (s : ByteArray) (a : Int → Bool) (k : Nat) (h : ¬ k < s.size) : skp s a k = k := by
  rw [skp]; simp [h]
theorem skp_ge (s : ByteArray) (a : Int → Bool) (k : Nat) : k ≤ skp s a k := by
  induction hn : s.size - k generalizing k with
  | zero => rw [skp_end s a k (by omega)]; omega
  | succ n ih =>
    have h : k < s.size := by omega
    cases ha : a (gb s k)
    · rw [skp_stop s a k h ha]; omega
    · rw [skp_go s a k h ha]; have := ih (k + 1) (by omega); omega
theorem skp_le (s : ByteArray) (a : Int → Bool) (k : Nat) (hk : k ≤ s.size) : skp s a k ≤ s.size := by
  induction hn : s.size - k generalizing k with
  | zero => rw [skp_end s a k (by omega)]; omega
  | succ n ih =>
    have h : k < s.size := by omega
    cases ha : a (gb s k)
    · rw [skp_stop s a k h ha]; omega
    · rw [skp_go s a k h ha]; exact ih (k + 1) (by omega) (by omega)
theorem skp_all (s : ByteArray) (a : Int → Bool) (k : Nat) : ∀ j, k ≤ j → j < skp s a k → j < s.size ∧ a (gb s j) = true := by
  induction hn : s.size - k generalizing k with
  | zero => intro j h1 h2; rw [skp_end s a k (by omega)] at h2; omega
  | succ n ih =>
    have h : k < s.size := by omega
    intro j h1 h2
    cases ha : a (gb s k)
    · rw [skp_stop s a k h ha] at h2; omega
    · rw [skp_go s a k h ha] at h2
      by_cases e : j = k
      · subst e; exact ⟨h, ha⟩
      · exact ih (k + 1) (by omega) j (by omega) h2
theorem skp_at (s : ByteArray) (a : Int → Bool) (k : Nat) (h : skp s a k < s.size) : a (gb s (skp s a k)) = false := by
  induction hn : s.size - k generalizing k with
  | zero => rw [skp_end s a k (by omega)] at h; omega
  | succ n ih =>
    have hk : k < s.size := by omega
    cases ha : a (gb s k)
    · rw [skp_stop s a k hk ha]; exact ha
    · rw [skp_go s a k hk ha] at h ⊢; exact ih (k + 1) h (by omega)
/-- it is the one place with these two marks -/
theorem skp_eq (s : ByteArray) (a : Int → Bool) (k m : Nat) (h0 : k ≤ m) (h1 : ∀ j, k ≤ j → j < m → j < s.size ∧ a (gb s j) = true) (h2 : m < s.size → a (gb s m) = false) : skp s a k = m := by
  rcases Nat.lt_trichotomy (skp s a k) m with h | h | h
  · have hg := skp_ge s a k
    have h3 := h1 _ hg h
    have := skp_at s a k h3.1
    rw [h3.2] at this; cases this
  · exact h
  · have h3 := skp_all s a k m h0 h
    rw [h2 h3.1] at h3; cases h3.2
/-! ### Actions -/
structure Ac where
  kind : Int
  name : ByteArray
  next : Nat
def kindO (m : Int) : Int := if m = 43 then 1 else if m = 45 then 2 else if m = 63 then 4 else if m = 58 then 5 else if m = 42 then 6 else if m = 47 then 7 else if m = 62 then 8 else if az m then 3 else 0
def fitsK (k : Int) (n : Nat) : Bool := if k = 0 then false else if k = 2 ∨ k = 5 ∨ k = 7 then decide (n = 0) else decide (1 ≤ n ∧ n ≤ 8)
def noAc (p : Nat) : Ac := ⟨0, ⟨#[]⟩, p⟩
def frm (s : ByteArray) (p : Nat) : Nat := if kindO (gb s (p + 1)) = 3 then p + 1 else p + 2
def nend (s : ByteArray) (p : Nat) : Nat := skp s az (frm s p)
def isAc (s : ByteArray) (p : Nat) : Bool := decide (p + 1 < s.size ∧ gb s p = 123) && fitsK (kindO (gb s (p + 1))) (nend s p - frm s p) && decide (nend s p < s.size ∧ gb s (nend s p) = 125)
def act (s : ByteArray) (p : Nat) : Ac := if isAc s p then ⟨kindO (gb s (p + 1)), s.extract (frm s p) (nend s p), nend s p + 1⟩ else noAc p
theorem kindO_range (m : Int) : 0 ≤ kindO m ∧ kindO m ≤ 8 := by unfold kindO; (repeat' split) <;> omega
theorem act_range (s : ByteArray) (p : Nat) : 0 ≤ (act s p).kind ∧ (act s p).kind ≤ 8 := by
  unfold act; split
  · exact kindO_range _
  · simp [noAc]
theorem frm_range (s : ByteArray) (p : Nat) (h : p + 1 < s.size) : p + 1 ≤ frm s p ∧ frm s p ≤ s.size := by unfold frm; split <;> omega
theorem act_next (s : ByteArray) (p : Nat) (h : (act s p).kind ≠ 0) : p + 3 ≤ (act s p).next ∧ (act s p).next ≤ s.size ∧ p + 1 < s.size ∧ gb s p = 123 := by
  unfold act at *
  split at h
  · rename_i hi
    rw [if_pos hi]
    simp only [isAc, Bool.and_eq_true, decide_eq_true_eq] at hi
    obtain ⟨⟨h1, h2⟩, h3⟩ := hi
    have h4 := frm_range s p h1.1
    have h5 := skp_ge s az (frm s p)
    show p + 3 ≤ nend s p + 1 ∧ nend s p + 1 ≤ s.size ∧ _ ∧ _
    refine ⟨?_, by omega, h1.1, h1.2⟩
    unfold nend at *
    by_cases hk : kindO (gb s (p + 1)) = 3
    · rw [hk] at h2
      have : frm s p = p + 1 := by unfold frm; rw [if_pos hk]
      simp [fitsK] at h2
      omega
    · have : frm s p = p + 2 := by unfold frm; rw [if_neg hk]
      omega
  · simp [noAc] at h
theorem act_none (s : ByteArray) (p : Nat) (h : (act s p).kind = 0) : act s p = noAc p := by
  unfold act at *
  split at h
  · rename_i hi
    simp only [isAc, Bool.and_eq_true, decide_eq_true_eq] at hi
    have h' : kindO (gb s (p + 1)) = 0 := h
    rw [h'] at hi
    simp [fitsK] at hi
  · rename_i hi; rw [if_neg hi]
/-! ### The machine -/
structure Ak where
  kind : Int
  name : ByteArray
  at' : Nat
structure Cfg where
  p : Nat
  inb : Bool
  nt : Nat
  op : List Int
  acts : List Ak
inductive Res where
  | go (c : Cfg)
  | err (w : Nat)
  | fin (acts : List Ak)
/-- behind an action of a kind: within a body?, how many templates, what is open (the innermost last) -/
def takeS (inb : Bool) (nt : Nat) (op : List Int) (k : Int) : Option (Bool × Nat × List Int) :=
  if inb = false then (if k = 1 ∧ nt < 6 then some (true, nt + 1, op) else none)
  else if k = 3 ∨ k = 8 then some (true, nt, op)
  else if k = 4 ∨ k = 6 then (if op.length < 8 then some (true, nt, op ++ [k]) else none)
  else if k = 5 then (if op.getLast? = some 4 then some (true, nt, op.dropLast ++ [5]) else none)
  else if k = 7 then (if op = [] then none else some (true, nt, op.dropLast))
  else if k = 2 then (if op = [] then some (false, nt, op) else none)
  else none
def stepC (s : ByteArray) (c : Cfg) : Res :=
  if c.p < s.size then
    if c.inb = true ∧ gb s c.p ≠ 123 ∧ gb s c.p ≠ 125 then .go { c with p := c.p + 1 }
    else match takeS c.inb c.nt c.op (act s c.p).kind with
      | none => .err c.p
      | some (i, n, o) => .go ⟨(act s c.p).next, i, n, o, c.acts ++ [⟨(act s c.p).kind, (act s c.p).name, c.p⟩]⟩
  else if c.inb = true ∨ c.nt = 0 then .err s.size else .fin c.acts
inductive Reach (s : ByteArray) : Cfg → Cfg → Prop where
  | refl (c : Cfg) : Reach s c c
  | step {c d e : Cfg} (h : stepC s c = .go d) (r : Reach s d e) : Reach s c e
theorem Reach.trans {s : ByteArray} {c d e : Cfg} (h : Reach s c d) (k : Reach s d e) : Reach s c e := by
  induction h with
  | refl c => exact k
  | step h r ih => exact .step h (ih k)
theorem Reach.one {s : ByteArray} {c d : Cfg} (h : stepC s c = .go d) : Reach s c d := .step h (.refl _)
def Res.last : Res → Prop
  | .go _ => False
  | _ => True
def Ends (s : ByteArray) (c : Cfg) (r : Res) : Prop := ∃ d, Reach s c d ∧ stepC s d = r ∧ r.last
theorem ends_unique {s : ByteArray} {c : Cfg} {r r' : Res} (h : Ends s c r) (h' : Ends s c r') : r = r' := by
  obtain ⟨d, hr, hs, hl⟩ := h
  obtain ⟨d', hr', hs', hl'⟩ := h'
  induction hr with
  | refl c =>
    cases hr' with
    | refl => rw [← hs, ← hs']
    | step h r => rw [h] at hs; rw [← hs] at hl; exact hl.elim
  | step h r ih =>
    cases hr' with
    | refl => rw [h] at hs'; rw [← hs'] at hl'; exact hl'.elim
    | step h2 r2 => rw [h] at h2; cases h2; exact ih hs r2
theorem Ends.of {s : ByteArray} {c d : Cfg} {r : Res} (h : Reach s c d) (k : Ends s d r) : Ends s c r := by
  obtain ⟨e, h1, h2, h3⟩ := k
  exact ⟨e, h.trans h1, h2, h3⟩
def init : Cfg := ⟨0, false, 0, [], []⟩
end Go.Proofs.YtponicaflcbbeaaGreat
namespace Go.Proofs.YtponicaflcbbeaaGreat
set_option linter.unusedVariables false
def nmd (b : ByteArray) : Bool := decide (1 ≤ b.size ∧ b.size ≤ 8) && decide (skp b az 0 = b.size)
def txB (b : Int) : Bool := decide (b ≠ 123 ∧ b ≠ 125)
def nbB (b : Int) : Bool := decide (b ≠ 125)
theorem ext_size (s : ByteArray) (a b : Nat) (h : b ≤ s.size) : (s.extract a b).size = b - a := by
  have e : (s.extract a b).data.toList.length = (s.extract a b).size := rfl
  rw [← e, Lib.extract_data, List.length_take, List.length_drop]
  have e2 : s.data.toList.length = s.size := rfl
  omega
theorem gb_list (s : ByteArray) (k : Nat) (h : k < s.size) : s.data.toList[k]? = some (s[k]'h) := by
  have e2 : s.data.toList.length = s.size := rfl
  rw [List.getElem?_eq_getElem (by omega)]; rfl
theorem gb_ext (s : ByteArray) (a b k : Nat) (h : b ≤ s.size) (hk : k < b - a) : gb (s.extract a b) k = gb s (a + k) := by
  have h1 : k < (s.extract a b).size := by rw [ext_size s a b h]; exact hk
  have h2 : a + k < s.size := by omega
  rw [gb_in _ k h1, gb_in s (a + k) h2]
  have e1 := gb_list (s.extract a b) k h1
  have e2 := gb_list s (a + k) h2
  rw [Lib.extract_data, List.getElem?_take_of_lt hk, List.getElem?_drop, e2] at e1
  simp only [Option.some.injEq] at e1
  rw [e1]
theorem nmd_iff (b : ByteArray) : nmd b = true ↔ (1 ≤ b.size ∧ b.size ≤ 8) ∧ ∀ j, j < b.size → az (gb b j) = true := by
  simp only [nmd, Bool.and_eq_true, decide_eq_true_eq]
  constructor
  · rintro ⟨h1, h2⟩
    exact ⟨h1, fun j hj => (skp_all b az 0 j (Nat.zero_le _) (by omega)).2⟩
  · rintro ⟨h1, h2⟩
    exact ⟨h1, skp_eq b az 0 b.size (Nat.zero_le _) (fun j _ hj => ⟨hj, h2 j hj⟩) (fun h => by omega)⟩
theorem nmd_ext (s : ByteArray) (a b : Nat) (h : b ≤ s.size) : nmd (s.extract a b) = true ↔ (1 ≤ b - a ∧ b - a ≤ 8) ∧ ∀ j, a ≤ j → j < b → az (gb s j) = true := by
  rw [nmd_iff, ext_size s a b h]
  constructor
  · rintro ⟨h1, h2⟩
    refine ⟨h1, fun j h3 h4 => ?_⟩
    have := h2 (j - a) (by omega)
    rw [gb_ext s a b (j - a) h (by omega), show a + (j - a) = j by omega] at this
    exact this
  · rintro ⟨h1, h2⟩
    refine ⟨h1, fun j hj => ?_⟩
    rw [gb_ext s a b j h hj]
    exact h2 (a + j) (by omega) (by omega)
/-- the sign of a kind -/
def sg (k : Int) : Int := if k = 1 then 43 else if k = 2 then 45 else if k = 3 then 32 else if k = 4 then 63 else if k = 5 then 58 else if k = 6 then 42 else if k = 7 then 47 else if k = 8 then 62 else 0
def isMark (m : Int) : Prop := m = 63 ∨ m = 42 ∨ m = 62 ∨ m = 43
theorem sg_one (m : Int) (h : m = 58 ∨ m = 47 ∨ m = 45) : sg (kindO m) = m ∧ (kindO m = 5 ∨ kindO m = 7 ∨ kindO m = 2) := by
  rcases h with rfl | rfl | rfl <;> decide
theorem sg_mark (m : Int) (h : isMark m) : sg (kindO m) = m ∧ (kindO m = 1 ∨ kindO m = 4 ∨ kindO m = 6 ∨ kindO m = 8) := by
  rcases h with rfl | rfl | rfl | rfl <;> decide
theorem kindO_az (m : Int) (h : az m = true) : kindO m = 3 := by
  have h' := h
  simp only [az, decide_eq_true_eq] at h'
  unfold kindO
  rw [if_neg (by omega), if_neg (by omega), if_neg (by omega), if_neg (by omega), if_neg (by omega), if_neg (by omega), if_neg (by omega), if_pos h]
theorem kindO_cases (m : Int) (h : kindO m ≠ 0) : (az m = true ∧ kindO m = 3) ∨ isMark m ∨ (m = 58 ∨ m = 47 ∨ m = 45) := by
  by_cases ha : az m = true
  · exact .inl ⟨ha, kindO_az m ha⟩
  · right
    unfold kindO at h
    unfold isMark
    simp only [ha] at h
    grind
/-- the ref's way: q, the first brace that closes -/
def rq (s : ByteArray) (p : Nat) : Nat := skp s nbB (p + 1)
/-- ground facts for the ways of an action at p, where q is the first closing brace -/
theorem way_one (s : ByteArray) (p : Nat) (hp : gb s p = 123) (hq : rq s p < s.size) (h2 : rq s p = p + 2) (hm : gb s (p + 1) = 58 ∨ gb s (p + 1) = 47 ∨ gb s (p + 1) = 45) :
    act s p = ⟨kindO (gb s (p + 1)), ⟨#[]⟩, rq s p + 1⟩ ∧ sg (kindO (gb s (p + 1))) = gb s (p + 1) ∧ (act s p).kind ≠ 0 := by
  obtain ⟨hs, hk⟩ := sg_one _ hm
  have hb : gb s (rq s p) = 125 := by have := skp_at s nbB (p + 1) hq; simpa [nbB, rq] using this
  have hf : frm s p = p + 2 := by unfold frm; rw [if_neg (by omega)]
  have he : nend s p = p + 2 := by
    unfold nend; rw [hf]
    exact skp_stop s az (p + 2) (by omega) (by rw [← h2, hb]; decide)
  have hi : isAc s p = true := by
    simp only [isAc, Bool.and_eq_true, decide_eq_true_eq, he, hf]
    refine ⟨⟨⟨by omega, hp⟩, ?_⟩, by omega, by rw [← h2]; exact hb⟩
    rcases hk with e | e | e <;> simp [fitsK, e]
  refine ⟨?_, hs, ?_⟩
  · rw [act, if_pos hi, he, hf, h2]
    congr 1
    rw [Lib.extract_eq]; simp
  · rw [act, if_pos hi]; show kindO _ ≠ 0; omega
theorem way_hole (s : ByteArray) (p : Nat) (hp : gb s p = 123) (hq : rq s p < s.size) (hn : nmd (s.extract (p + 1) (rq s p)) = true) :
    act s p = ⟨3, s.extract (p + 1) (rq s p), rq s p + 1⟩ := by
  obtain ⟨h1, h2⟩ := (nmd_ext s (p + 1) (rq s p) (by omega)).1 hn
  have hb : gb s (rq s p) = 125 := by have := skp_at s nbB (p + 1) hq; simpa [nbB, rq] using this
  have hk := kindO_az _ (h2 (p + 1) (by omega) (by omega))
  have hf : frm s p = p + 1 := by unfold frm; rw [if_pos hk]
  have he : nend s p = rq s p := by
    unfold nend; rw [hf]
    exact skp_eq s az (p + 1) (rq s p) (by omega) (fun j a b => ⟨by omega, h2 j a b⟩) (fun _ => by rw [hb]; decide)
  have hi : isAc s p = true := by
    simp only [isAc, Bool.and_eq_true, decide_eq_true_eq, he, hf, hk]
    exact ⟨⟨⟨by omega, hp⟩, by simp [fitsK]; omega⟩, by omega, hb⟩
  rw [act, if_pos hi, he, hf, hk]
theorem way_mark (s : ByteArray) (p : Nat) (hp : gb s p = 123) (hq : rq s p < s.size) (hm : isMark (gb s (p + 1))) (hn : nmd (s.extract (p + 2) (rq s p)) = true) :
    act s p = ⟨kindO (gb s (p + 1)), s.extract (p + 2) (rq s p), rq s p + 1⟩ ∧ sg (kindO (gb s (p + 1))) = gb s (p + 1) ∧ (act s p).kind ≠ 0 := by
  obtain ⟨hs, hk⟩ := sg_mark _ hm
  obtain ⟨h1, h2⟩ := (nmd_ext s (p + 2) (rq s p) (by omega)).1 hn
  have hb : gb s (rq s p) = 125 := by have := skp_at s nbB (p + 1) hq; simpa [nbB, rq] using this
  have hf : frm s p = p + 2 := by unfold frm; rw [if_neg (by omega)]
  have he : nend s p = rq s p := by
    unfold nend; rw [hf]
    exact skp_eq s az (p + 2) (rq s p) (by omega) (fun j a b => ⟨by omega, h2 j a b⟩) (fun _ => by rw [hb]; decide)
  have hi : isAc s p = true := by
    simp only [isAc, Bool.and_eq_true, decide_eq_true_eq, he, hf]
    refine ⟨⟨⟨by omega, hp⟩, ?_⟩, by omega, hb⟩
    rcases hk with e | e | e | e <;> simp [fitsK, e] <;> omega
  refine ⟨by rw [act, if_pos hi, he, hf], hs, ?_⟩
  rw [act, if_pos hi]; show kindO _ ≠ 0; omega
/-- where there is an action, the ref's way finds it -/
theorem way_back (s : ByteArray) (p : Nat) (h : (act s p).kind ≠ 0) :
    gb s p = 123 ∧ p + 1 < s.size ∧ rq s p < s.size ∧ p + 2 ≤ rq s p ∧
      ((rq s p = p + 2 ∧ (gb s (p + 1) = 58 ∨ gb s (p + 1) = 47 ∨ gb s (p + 1) = 45)) ∨ nmd (s.extract (p + 1) (rq s p)) = true ∨ (isMark (gb s (p + 1)) ∧ nmd (s.extract (p + 2) (rq s p)) = true)) := by
  have hi : isAc s p = true := by
    unfold act at h; split at h
    · assumption
    · simp [noAc] at h
  have hi' := hi
  simp only [isAc, Bool.and_eq_true, decide_eq_true_eq] at hi
  obtain ⟨⟨⟨h1, h2⟩, h3⟩, h4, h5⟩ := hi
  have hk : kindO (gb s (p + 1)) ≠ 0 := by intro e; rw [e] at h3; simp [fitsK] at h3
  have hge : frm s p ≤ nend s p := skp_ge s az (frm s p)
  have hall : ∀ j, frm s p ≤ j → j < nend s p → j < s.size ∧ az (gb s j) = true := skp_all s az (frm s p)
  have key : rq s p = nend s p ∧ p + 2 ≤ nend s p := by
    have hq : p + 1 ≤ nend s p ∧ (∀ j, p + 1 ≤ j → j < nend s p → gb s j ≠ 125) ∧ p + 2 ≤ nend s p := by
      by_cases e3 : kindO (gb s (p + 1)) = 3
      · have hf : frm s p = p + 1 := by unfold frm; rw [if_pos e3]
        rw [e3] at h3
        simp [fitsK] at h3
        refine ⟨by omega, fun j a b => ?_, by omega⟩
        have := (hall j (by omega) b).2
        simp [az] at this; omega
      · have hf : frm s p = p + 2 := by unfold frm; rw [if_neg e3]
        refine ⟨by omega, fun j a b => ?_, by omega⟩
        by_cases ej : j = p + 1
        · subst ej
          intro e
          rw [e] at hk
          exact hk (by decide)
        · have := (hall j (by omega) b).2
          simp [az] at this; omega
    refine ⟨?_, hq.2.2⟩
    exact skp_eq s nbB (p + 1) (nend s p) hq.1 (fun j a b => ⟨by omega, by simpa [nbB] using hq.2.1 j a b⟩) (fun _ => by rw [h5]; decide)
  obtain ⟨k1, k2⟩ := key
  rw [k1]
  refine ⟨h2, h1, h4, k2, ?_⟩
  rcases kindO_cases _ hk with ⟨ha, e3⟩ | hm | hm
  · right; left
    have hf : frm s p = p + 1 := by unfold frm; rw [if_pos e3]
    rw [e3, hf] at h3
    simp [fitsK] at h3
    refine (nmd_ext s (p + 1) (nend s p) (by omega)).2 ⟨by omega, fun j a b => ?_⟩
    exact (hall j (by omega) b).2
  · right; right
    obtain ⟨_, hkk⟩ := sg_mark _ hm
    have hf : frm s p = p + 2 := by unfold frm; rw [if_neg (by omega)]
    refine ⟨hm, (nmd_ext s (p + 2) (nend s p) (by omega)).2 ⟨?_, fun j a b => (hall j (by omega) b).2⟩⟩
    rw [hf] at h3
    rcases hkk with e | e | e | e <;> rw [e] at h3 <;> simp [fitsK] at h3 <;> omega
  · left
    obtain ⟨_, hkk⟩ := sg_one _ hm
    have hf : frm s p = p + 2 := by unfold frm; rw [if_neg (by omega)]
    rw [hf] at h3
    refine ⟨?_, hm⟩
    rcases hkk with e | e | e <;> rw [e] at h3 <;> simp [fitsK] at h3 <;> omega
theorem ext_one (s : ByteArray) (a b : Nat) (x : UInt8) (h : b ≤ s.size) (ha : a < b) : ((s.extract a b).toList == [x]) = decide (b = a + 1 ∧ gb s a = (x.toNat : Int)) := by
  rw [Bool.eq_iff_iff, beq_iff_eq, decide_eq_true_eq, Lib.extract_toList]
  have e2 : s.data.toList.length = s.size := rfl
  have hl : ((s.data.toList.drop a).take (b - a)).length = b - a := by rw [List.length_take, List.length_drop]; omega
  have hh : ((s.data.toList.drop a).take (b - a))[0]? = some (s[a]'(by omega)) := by
    rw [List.getElem?_take_of_lt (by omega), List.getElem?_drop]; exact gb_list s a (by omega)
  have hg := gb_in s a (by omega)
  constructor
  · intro e
    rw [e] at hl hh
    simp at hl hh
    refine ⟨by omega, ?_⟩
    rw [hg, ← hh]
  · rintro ⟨h1, h2⟩
    rw [hg] at h2
    have h3 : (s[a]'(by omega)) = x := UInt8.toNat_inj.1 (by omega)
    rw [h3] at hh
    have h4 : ((s.data.toList.drop a).take (b - a)).length = 1 := by omega
    obtain ⟨y, hy⟩ := List.length_eq_one_iff.1 h4
    rw [hy] at hh ⊢
    simpa using hh
theorem ext_head (s : ByteArray) (a b : Nat) (h : b ≤ s.size) (ha : a < b) (hz : 0 < (s.extract a b).size) : (((s.extract a b)[0]'hz).toNat : Int) = gb s a := by
  rw [← gb_in _ 0 hz, gb_ext s a b 0 h (by omega)]; rfl
theorem ext_tail (s : ByteArray) (a b : Nat) (h : b ≤ s.size) (ha : a < b) : (s.extract a b).extract 1 (s.extract a b).size = s.extract (a + 1) b := by
  rw [ext_size s a b h]
  apply ByteArray.ext
  apply Array.ext'
  rw [Lib.extract_data, Lib.extract_data, Lib.extract_data, List.drop_take, List.drop_drop]
  rw [List.take_take]
  congr 1
  omega
end Go.Proofs.YtponicaflcbbeaaGreat
namespace Go.Proofs.YtponicaflcbbeaaGreat
open Go.RowKit
set_option linter.unusedVariables false
theorem hidS {p : Prop} (h : p) : Hid p := h
theorem retS_bool {a b : Bool} (h : a = b) : Ending.returned (.bool a) = .returned (.bool b) := by rw [h]
theorem retS_int {k : IntKind} {a b : Int} (h : a = b) : Ending.returned (.int k a) = .returned (.int k b) := by rw [h]
set_option maxHeartbeats 1000000 in
theorem c98 (s : ByteArray) (w : World) (hs : s.size ≤ 1000) :
    Calls Tryz.prog 80 #[.string s] w fun e w' => e = .returned (.bool (nmd s)) ∧ w' = w := by
  by_cases hn : 1 ≤ s.size ∧ s.size ≤ 8
  · obtain ⟨n1, n2⟩ := hn
    have HN : Hid (nmd s = decide (skp s az 0 = s.size)) := by show _ = _; simp [nmd, n1, n2]
    go_enter Tryz.func80, Tryz.ntmps80
    go_wp2
    go_loop [3] (fun i => ∃ k : Nat, k ≤ s.size ∧ i = .int .i64 k ∧ Hid (skp s az 0 = skp s az k)) (fun i => s.size - (intOf i).toNat)
    case atStart => exact ⟨0, Nat.zero_le _, rfl, rfl⟩
    case round =>
      obtain ⟨k, hk, rfl, H⟩ := hrel
      by_cases hlt : k < s.size
      · have hg := gb_in s k hlt
        cases ha : az (gb s k)
        · have HS := hidS (skp_stop s az k hlt ha)
          have HF : Hid (nmd s = false) := by show _ = _; rw [HN.out, H.out, HS.out]; simp; omega
          rw [hg] at ha
          have ht : (s[k].toNat : Int) < 97 ∨ 122 < (s[k].toNat : Int) := by simp [az] at ha; omega
          clear ha hg
          go_wp2
          all_goals go_ret
          all_goals exact ⟨retS_bool HF.out.symm, rfl⟩
        · have HS := hidS (skp_go s az k hlt ha)
          rw [hg] at ha
          have ht : 97 ≤ (s[k].toNat : Int) := by simp [az] at ha; omega
          have ht2 : (s[k].toNat : Int) ≤ 122 := by simp [az] at ha; omega
          clear ha hg
          go_wp2
          go_round
          case rel => exact ⟨k + 1, by omega, by go_num, H.out.trans HS.out⟩
          case measure => simp [intOf]; omega
      · have HF : Hid (nmd s = true) := by show _ = _; rw [HN.out, H.out, skp_end s az k hlt]; simp; omega
        go_wp2
        go_ret
        exact ⟨retS_bool HF.out.symm, rfl⟩
  · have HF : Hid (nmd s = false) := by show _ = _; simp [nmd, hn]
    go_enter Tryz.func80, Tryz.ntmps80
    go_wp2
    all_goals go_ret
    all_goals exact ⟨retS_bool HF.out.symm, rfl⟩
set_option maxHeartbeats 1000000 in
theorem c99 (s : ByteArray) (p : Nat) (w : World) (hs : s.size ≤ 1000) (hp : p ≤ s.size) :
    Calls Tryz.prog 81 #[.string s, .int .i64 p] w fun e w' => e = .returned (.int .i64 (skp s txB p)) ∧ w' = w := by
  go_enter Tryz.func81, Tryz.ntmps81
  go_wp2
  go_loop [1] (fun i => ∃ k : Nat, k ≤ s.size ∧ i = .int .i64 k ∧ Hid (skp s txB p = skp s txB k)) (fun i => s.size - (intOf i).toNat)
  case atStart => exact ⟨p, hp, rfl, rfl⟩
  case round =>
    obtain ⟨k, hk, rfl, H⟩ := hrel
    by_cases hlt : k < s.size
    · have hg := gb_in s k hlt
      cases ha : txB (gb s k)
      · have HS := hidS (skp_stop s txB k hlt ha)
        rw [hg] at ha
        have ht : ((s[k].toNat : Int) != 123) = false ∨ ((s[k].toNat : Int) != 125) = false := by simp [txB] at ha; simp; omega
        clear ha hg
        have HF := hidS (H.out.trans HS.out)
        rcases ht with ht | ht
        · go_wp2
          all_goals go_ret
          all_goals exact ⟨retS_int (by rw [HF.out]), rfl⟩
        · go_wp2
          all_goals go_ret
          all_goals exact ⟨retS_int (by rw [HF.out]), rfl⟩
      · have HS := hidS (skp_go s txB k hlt ha)
        rw [hg] at ha
        have ht : ((s[k].toNat : Int) != 123) = true := by simp [txB] at ha; simp; omega
        have ht2 : ((s[k].toNat : Int) != 125) = true := by simp [txB] at ha; simp; omega
        clear ha hg
        go_wp2
        go_round
        case rel => exact ⟨k + 1, by omega, by go_num, H.out.trans HS.out⟩
        case measure => simp [intOf]; omega
    · have HF : Hid (skp s txB p = k) := H.out.trans (skp_end s txB k hlt)
      go_wp2
      go_ret
      exact ⟨retS_int (by rw [HF.out]), rfl⟩
/-- what the ref's action answers -/
def raOf (s : ByteArray) (p : Nat) : Ending := .returned (.tuple #[.int .u8 (sg (act s p).kind), .string (act s p).name, .int .i64 ((act s p).next : Int)])
theorem raOf_none (s : ByteArray) (p : Nat) (h : (act s p).kind = 0) : raOf s p = .returned (.tuple #[.int .u8 0, .string ⟨#[]⟩, .int .i64 (p : Int)]) := by
  rw [raOf, act_none s p h]; rfl
theorem act_no (s : ByteArray) (p : Nat) (h : ¬ (p < s.size ∧ gb s p = 123)) : (act s p).kind = 0 := by
  by_cases e : (act s p).kind = 0
  · exact e
  · have := act_next s p e; omega
set_option maxHeartbeats 1000000 in
theorem c83no (s : ByteArray) (p : Nat) (w : World) (hs : s.size ≤ 1000) (hp : p ≤ s.size) (h : ¬ (p < s.size ∧ gb s p = 123)) :
    Calls Tryz.prog 55 #[.string s, .int .i64 p] w fun e w' => e = raOf s p ∧ ∃ n, w' = w.drewN n := by
  have HE := hidS (raOf_none s p (act_no s p h))
  by_cases hlt : p < s.size
  · have hg := gb_in s p hlt
    have ht : ((s[p].toNat : Int) != 123) = true := by rw [← hg]; simp; omega
    clear h hg
    go_enter Tryz.func55, Tryz.ntmps55
    go_wp2
    go_ret3
    exact ⟨HE.out.symm, 0, rfl⟩
  · clear h
    go_enter Tryz.func55, Tryz.ntmps55
    go_wp2
    go_ret3
    exact ⟨HE.out.symm, 0, rfl⟩
def raV (m : Int) (nm : ByteArray) (k : Nat) : Ending := .returned (.tuple #[.int .u8 m, .string nm, .int .i64 ((k : Int) + 1)])
def ex (s : ByteArray) (p k : Nat) (x : UInt8) (v : Bool) : Prop := ((s.extract (p + 1) k).toList == [x]) = v
theorem ra_ways (s : ByteArray) (p k : Nat) (hb : gb s p = 123) (hk : rq s p = k) (hlt : k < s.size) (h1 : p + 2 ≤ k) :
    (ex s p k 58 true ∧ gb s (p + 1) = 58 ∧ raOf s p = raV 58 ⟨#[]⟩ k) ∨
    (ex s p k 58 false ∧ ex s p k 47 true ∧ gb s (p + 1) = 47 ∧ raOf s p = raV 47 ⟨#[]⟩ k) ∨
    (ex s p k 58 false ∧ ex s p k 47 false ∧ ex s p k 45 true ∧ gb s (p + 1) = 45 ∧ raOf s p = raV 45 ⟨#[]⟩ k) ∨
    (ex s p k 58 false ∧ ex s p k 47 false ∧ ex s p k 45 false ∧
      ((nmd (s.extract (p + 1) k) = true ∧ raOf s p = raV 32 (s.extract (p + 1) k) k) ∨
       (nmd (s.extract (p + 1) k) = false ∧ nmd (s.extract (p + 2) k) = true ∧ isMark (gb s (p + 1)) ∧ raOf s p = raV (gb s (p + 1)) (s.extract (p + 2) k) k) ∨
       (nmd (s.extract (p + 1) k) = false ∧ nmd (s.extract (p + 2) k) = true ∧ ¬ isMark (gb s (p + 1)) ∧ raOf s p = .returned (.tuple #[.int .u8 0, .string ⟨#[]⟩, .int .i64 (p : Int)])) ∨
       (nmd (s.extract (p + 1) k) = false ∧ nmd (s.extract (p + 2) k) = false ∧ raOf s p = .returned (.tuple #[.int .u8 0, .string ⟨#[]⟩, .int .i64 (p : Int)])))) := by
  have o := fun x => ext_one s (p + 1) k x (by omega) (by omega)
  have o58 := o 58
  have o47 := o 47
  have o45 := o 45
  have e58 : ((58 : UInt8).toNat : Int) = 58 := rfl
  have e47 : ((47 : UInt8).toNat : Int) = 47 := rfl
  have e45 : ((45 : UInt8).toNat : Int) = 45 := rfl
  rw [e58] at o58
  rw [e47] at o47
  rw [e45] at o45
  unfold ex
  rw [o58, o47, o45]
  clear o o58 o47 o45 e58 e47 e45
  have back := fun h => way_back s p h
  have val : ∀ (a : Int) (n : ByteArray) (x : Int), act s p = ⟨a, n, k + 1⟩ → sg a = x → raOf s p = raV x n k := by
    intro a n x e1 e2
    rw [raOf, e1, raV, ← e2]; rfl
  by_cases h2 : k = p + 2
  · by_cases hm : gb s (p + 1) = 58 ∨ gb s (p + 1) = 47 ∨ gb s (p + 1) = 45
    · obtain ⟨v1, v2, _⟩ := way_one s p hb (by omega) (by omega) hm
      rw [hk] at v1
      have v3 := val _ _ _ v1 v2
      rcases hm with hm | hm | hm <;> rw [hm] at v3 ⊢ <;> simp [h2] <;> rw [← h2] <;> exact v3
    · right; right; right
      refine ⟨by simp; omega, by simp; omega, by simp; omega, ?_⟩
      cases hn : nmd (s.extract (p + 1) k)
      · right
        cases hn2 : nmd (s.extract (p + 2) k)
        · right; right
          refine ⟨rfl, rfl, raOf_none s p ?_⟩
          by_cases e : (act s p).kind = 0
          · exact e
          · obtain ⟨_, _, _, _, h⟩ := back e
            rw [hk] at h
            rcases h with h | h | h
            · exact absurd h.2 hm
            · rw [hn] at h; cases h
            · rw [hn2] at h; cases h.2
        · exfalso
          have := ((nmd_ext s (p + 2) k (by omega)).1 hn2).1
          omega
      · left
        refine ⟨rfl, ?_⟩
        have := way_hole s p hb (by omega) (by rw [hk]; exact hn)
        rw [hk] at this
        exact val _ _ _ this rfl
  · right; right; right
    refine ⟨by simp; omega, by simp; omega, by simp; omega, ?_⟩
    cases hn : nmd (s.extract (p + 1) k)
    · right
      cases hn2 : nmd (s.extract (p + 2) k)
      · right; right
        refine ⟨rfl, rfl, raOf_none s p ?_⟩
        by_cases e : (act s p).kind = 0
        · exact e
        · obtain ⟨_, _, _, _, h⟩ := back e
          rw [hk] at h
          rcases h with h | h | h
          · omega
          · rw [hn] at h; cases h
          · rw [hn2] at h; cases h.2
      · by_cases hm : isMark (gb s (p + 1))
        · left
          obtain ⟨v1, v2, _⟩ := way_mark s p hb (by omega) hm (by rw [hk]; exact hn2)
          rw [hk] at v1
          exact ⟨rfl, rfl, hm, val _ _ _ v1 v2⟩
        · right; left
          refine ⟨rfl, rfl, hm, raOf_none s p ?_⟩
          by_cases e : (act s p).kind = 0
          · exact e
          · obtain ⟨_, _, _, _, h⟩ := back e
            rw [hk] at h
            rcases h with h | h | h
            · omega
            · rw [hn] at h; cases h
            · exact absurd h.1 hm
    · left
      refine ⟨rfl, ?_⟩
      have := way_hole s p hb (by omega) (by rw [hk]; exact hn)
      rw [hk] at this
      exact val _ _ _ this rfl
theorem ra_out (s : ByteArray) (p k : Nat) (hk : rq s p = k) (h : ¬ k < s.size ∨ k = p + 1) : raOf s p = .returned (.tuple #[.int .u8 0, .string ⟨#[]⟩, .int .i64 (p : Int)]) := by
  apply raOf_none
  by_cases e : (act s p).kind = 0
  · exact e
  · obtain ⟨_, _, h1, h2, _⟩ := way_back s p e
    omega
theorem ra_fin {a b : Ending} {w : World} (h : b = a) : a = b ∧ ∃ n, w = w.drewN n := ⟨h.symm, 0, rfl⟩
set_option maxHeartbeats 4000000 in
theorem c83yes (s : ByteArray) (p : Nat) (w : World) (hs : s.size ≤ 1000) (hp : p < s.size) (hb : gb s p = 123) :
    Calls Tryz.prog 55 #[.string s, .int .i64 p] w fun e w' => e = raOf s p ∧ ∃ n, w' = w.drewN n := by
  have hg := gb_in s p hp
  have ht : ((s[p].toNat : Int) != 123) = false := by rw [← hg, hb]; decide
  have HB := hidS hb
  clear hg hb
  go_enter Tryz.func55, Tryz.ntmps55
  go_wp2
  go_loop [7] (fun i => ∃ k : Nat, p + 1 ≤ k ∧ k ≤ s.size ∧ i = .int .i64 k ∧ Hid (rq s p = skp s nbB k)) (fun i => s.size - (intOf i).toNat)
  case atStart => exact ⟨p + 1, by omega, by omega, by go_num, rfl⟩
  case round =>
    obtain ⟨k, hk0, hk, rfl, H⟩ := hrel
    by_cases hlt : k < s.size
    · have hg := gb_in s k hlt
      cases ha : nbB (gb s k)
      · have HS : Hid (rq s p = k) := H.out.trans (skp_stop s nbB k hlt ha)
        clear H
        have hq : ((s[k].toNat : Int) != 125) = false := by rw [← hg]; simpa [nbB] using ha
        clear ha hg
        by_cases hk1 : k = p + 1
        · have HE := hidS (ra_out s p k HS.out (.inr hk1))
          have e1 : ((k : Int) == (p : Int) + 1) = true := by simp; omega
          clear hk1
          go_wp2
          all_goals go_ret3
          all_goals exact ra_fin HE.out
        · have e1 : ((k : Int) == (p : Int) + 1) = false := by simp; omega
          have e2 : p + 2 ≤ k := by omega
          have e3 : 0 < k - (p + 1) := by omega
          have hz : 0 < (s.extract (p + 1) k).size := by rw [ext_size s _ _ (by omega)]; omega
          have hh := ext_head s (p + 1) k (by omega) (by omega) hz
          have htl : (s.extract (p + 1) k).extract 1 (k - (p + 1)) = s.extract (p + 2) k := by
            have := ext_tail s (p + 1) k (by omega) (by omega)
            rw [ext_size s _ _ (by omega)] at this
            exact this
          have hz1 : (s.extract (p + 1) k).size ≤ 1000 := by rw [ext_size s _ _ (by omega)]; omega
          have hz2 : (s.extract (p + 2) k).size ≤ 1000 := by rw [ext_size s _ _ (by omega)]; omega
          clear hk1
          rcases ra_ways s p k HB.out HS.out hlt e2 with ⟨f1, hm, he⟩ | ⟨f1, f2, hm, he⟩ | ⟨f1, f2, f3, hm, he⟩ | ⟨f1, f2, f3, hw⟩
          · unfold ex at f1
            rw [hm] at hh
            have HE := hidS he
            clear he hm htl hz1 hz2
            go_wp2
            go_ret3
            exact ra_fin HE.out
          · unfold ex at f1 f2
            rw [hm] at hh
            have HE := hidS he
            clear he hm htl hz1 hz2
            go_wp2
            go_ret3
            exact ra_fin HE.out
          · unfold ex at f1 f2 f3
            rw [hm] at hh
            have HE := hidS he
            clear he hm htl hz1 hz2
            go_wp2
            go_ret3
            exact ra_fin HE.out
          · unfold ex at f1 f2 f3
            rcases hw with ⟨n1, he⟩ | ⟨n1, n2, hm, he⟩ | ⟨n1, n2, hm, he⟩ | ⟨n1, n2, he⟩
            · have HE := hidS he
              clear he htl hz2 hh
              go_wp2_with (go_at_call 80; refine (c98 _ _ hz1).mono ?_; rintro e w' ⟨rfl, rfl⟩)
              go_ret3
              exact ra_fin HE.out
            · have HE := hidS he
              clear he
              rcases hm with hm | hm | hm | hm
              all_goals
                rw [hm] at hh HE
                clear hm
                go_wp2_with fail
                refine (c98 _ _ hz1).mono ?_
                rintro e w1 ⟨rfl, rfl⟩
                go_wp2_with fail
                refine (c98 _ _ hz2).mono ?_
                rintro e w2 ⟨rfl, rfl⟩
                go_wp2
                go_quiet (fail)
                go_wp2
                go_ret3
                exact ⟨HE.out.symm, _, rfl⟩
            · have HE := hidS he
              have m1 : (gb s (p + 1) == 63) = false := by simp; intro e; exact hm (by unfold isMark; omega)
              have m2 : (gb s (p + 1) == 42) = false := by simp; intro e; exact hm (by unfold isMark; omega)
              have m3 : (gb s (p + 1) == 62) = false := by simp; intro e; exact hm (by unfold isMark; omega)
              have m4 : (gb s (p + 1) == 43) = false := by simp; intro e; exact hm (by unfold isMark; omega)
              clear he hm
              go_wp2_with fail
              refine (c98 _ _ hz1).mono ?_
              rintro e w1 ⟨rfl, rfl⟩
              go_wp2_with fail
              refine (c98 _ _ hz2).mono ?_
              rintro e w2 ⟨rfl, rfl⟩
              go_wp2
              go_ret3
              exact ra_fin HE.out
            · have HE := hidS he
              clear he hh
              go_wp2_with fail
              refine (c98 _ _ hz1).mono ?_
              rintro e w1 ⟨rfl, rfl⟩
              go_wp2_with fail
              refine (c98 _ _ hz2).mono ?_
              rintro e w2 ⟨rfl, rfl⟩
              go_wp2
              go_ret3
              exact ra_fin HE.out
      · have HS := hidS (skp_go s nbB k hlt ha)
        rw [hg] at ha
        have ht : ((s[k].toNat : Int) != 125) = true := by simpa [nbB] using ha
        clear ha hg
        go_wp2
        go_round
        case rel => exact ⟨k + 1, by omega, by omega, by go_num, H.out.trans HS.out⟩
        case measure => simp [intOf]; omega
    · have HS : Hid (rq s p = k) := H.out.trans (skp_end s nbB k hlt)
      have HE := hidS (ra_out s p k HS.out (.inl hlt))
      go_wp2
      all_goals go_ret3
      all_goals exact ra_fin HE.out
theorem c83 (s : ByteArray) (p : Nat) (w : World) (hs : s.size ≤ 1000) (hp : p ≤ s.size) :
    Calls Tryz.prog 55 #[.string s, .int .i64 p] w fun e w' => e = raOf s p ∧ ∃ n, w' = w.drewN n := by
  by_cases h : p < s.size ∧ gb s p = 123
  · exact c83yes s p w hs h.1 h.2
  · exact c83no s p w hs hp h
end Go.Proofs.YtponicaflcbbeaaGreat
