import Derived.Test.YtffkejkgkgfnhabGreatRows
import Derived.WalkKit
import Derived.ProofKit
import Derived.OpenShut
import Derived.ShutString
import Derived.ChangeOld
import Derived.Deep.Slices
import Derived.Lib.Strings
namespace Go.Proofs.YtffkejkgkgfnhabGreat
open Go.ChangeShapes Go.WideShapes Go.ChangeAt Go.RowKit Go.Deep
set_option linter.unusedVariables false
theorem five {α : Type} (l : List α) (h : l.length = 5) : ∃ a b c d e, l = [a, b, c, d, e] := by
  match l, h with
  | [a, b, c, d, e], _ => exact ⟨a, b, c, d, e, rfl⟩
theorem cells42 : Tryz.prog.cellsOf 33 = 5 := by kernel_rfl
theorem cells3 : Tryz.prog.cellsOf 3 = 1 := by kernel_rfl
theorem cells9 : Tryz.prog.cellsOf 9 = 1 := by kernel_rfl
/-- WHAT THE WALK IS TOLD OF A SCRIPT: it is empty, or its steps lie in five cells each. -/
def IsOps (w : World) (a : Option Addr) (len : Nat) (Q : Int → ByteArray → ByteArray → Prop) : Prop :=
  len = 0 ∨ ∃ (b off : Nat) (Kd Nn : Nat → Int) (Ss Ts : Nat → ByteArray) (Ds : Nat → Value), a = some ⟨b, off, none⟩ ∧ b < w.heap.size ∧
    (∀ i, i < len → w.cell? ⟨b, off + i * 5, none⟩ = some (.int .i64 (Kd i))) ∧
    (∀ i, i < len → w.cell? ⟨b, off + i * 5 + 1, none⟩ = some (.int .i64 (Nn i))) ∧
    (∀ i, i < len → w.cell? ⟨b, off + i * 5 + 2, none⟩ = some (.string (Ss i))) ∧
    (∀ i, i < len → w.cell? ⟨b, off + i * 5 + 3, none⟩ = some (.string (Ts i))) ∧
    (∀ i, i < len → w.cell? ⟨b, off + i * 5 + 4, none⟩ = some (Ds i)) ∧ (∀ i, i < len → Q (Nn i) (Ss i) (Ts i))
theorem at_cells {w : World} {b off i : Nat} {cs : List Value} (h : ∀ j, j < 5 → w.cell? ((Addr.add ⟨b, off, none⟩ (i * 5)).add j) = cs[j]?) : ∀ j, j < 5 → w.cell? ⟨b, off + i * 5 + j, none⟩ = cs[j]? := by
  intro j hj
  rw [← h j hj, add_add]
  by_cases e : i * 5 + j = 0
  · have e1 : i * 5 = 0 := by omega
    have e2 : j = 0 := by omega
    simp [Addr.add, e1, e2]
  · rw [Addr.add, if_neg e, Nat.add_assoc]
end Go.Proofs.YtffkejkgkgfnhabGreat
/-
  THE PLAIN MATHEMATICS OF SOURCES: no Go, no program.
-/
namespace Go.Proofs.YtffkejkgkgfnhabGreat
set_option linter.unusedVariables false
/-- the byte at a place; -1 behind the end -/
def gb (s : ByteArray) (k : Nat) : Int := if h : k < s.size then ((s[k]'h).toNat : Int) else -1
theorem gb_in (s : ByteArray) (k : Nat) (h : k < s.size) : gb s k = ((s[k]'h).toNat : Int) := by simp [gb, h]
def az (b : Int) : Bool := decide (97 ≤ b ∧ b ≤ 122)
/-- the first place from k on that is behind the end, or whose byte is not of the kind -/
def skp (s : ByteArray) (a : Int → Bool) (k : Nat) : Nat :=
  if h : k < s.size then if a (gb s k) then skp s a (k + 1) else k else k
  termination_by s.size - k
theorem skp_go (s : ByteArray) (a : Int → Bool) (k : Nat) (h : k < s.size) (ha : a (gb s k) = true) : skp s a k = skp s a (k + 1) := by
  conv => lhs; rw [skp]
  simp [h, ha]
theorem skp_stop (s : ByteArray) (a : Int → Bool) (k : Nat) (h : k < s.size) (ha : a (gb s k) = false) : skp s a k = k := by
  rw [skp]; simp [h, ha]
theorem skp_end (s : ByteArray) (a : Int → Bool) (k : Nat) (h : ¬ k < s.size) : skp s a k = k := by
  rw [skp]; simp [h]
theorem skp_ge (s : ByteArray) (a : Int → Bool) (k : Nat) : k ≤ skp s a k := by
  induction hn : s.size - k generalizing k with
  | zero => rw [skp_end s a k (by omega)]; omega
  | succ n ih =>
    have h : k < s.size := by omega
    cases ha : a (gb s k)
    · rw [skp_stop s a k h ha]; omega
    · rw [skp_go s a k h ha]; have := ih (k + 1) (by omega); omega
theorem skp_le (s : ByteArray) (a : Int → Bool) (k : Nat) (hk : k ≤ s.size) : skp s a k ≤ s.size := by
  induction hn : s.size - k generalizing k with
  | zero => rw [skp_end s a k (by omega)]; omega
  | succ n ih =>
    have h : k < s.size := by omega
    cases ha : a (gb s k)
    · rw [skp_stop s a k h ha]; omega
    · rw [skp_go s a k h ha]; exact ih (k + 1) (by omega) (by omega)
theorem skp_all (s : ByteArray) (a : Int → Bool) (k : Nat) : ∀ j, k ≤ j → j < skp s a k → j < s.size ∧ a (gb s j) = true := by
  induction hn : s.size - k generalizing k with
  | zero => intro j h1 h2; rw [skp_end s a k (by omega)] at h2; omega
  | succ n ih =>
    have h : k < s.size := by omega
    intro j h1 h2
    cases ha : a (gb s k)
    · rw [skp_stop s a k h ha] at h2; omega
    · rw [skp_go s a k h ha] at h2
      by_cases e : j = k
      · subst e; exact ⟨h, ha⟩
      · exact ih (k + 1) (by omega) j (by omega) h2
theorem skp_at (s : ByteArray) (a : Int → Bool) (k : Nat) (h : skp s a k < s.size) : a (gb s (skp s a k)) = false := by
  induction hn : s.size - k generalizing k with
  | zero => rw [skp_end s a k (by omega)] at h; omega
  | succ n ih =>
    have hk : k < s.size := by omega
    cases ha : a (gb s k)
    · rw [skp_stop s a k hk ha]; exact ha
    · rw [skp_go s a k hk ha] at h ⊢; exact ih (k + 1) h (by omega)
/-- it is the one place with these two marks -/
theorem skp_eq (s : ByteArray) (a : Int → Bool) (k m : Nat) (h0 : k ≤ m) (h1 : ∀ j, k ≤ j → j < m → j < s.size ∧ a (gb s j) = true) (h2 : m < s.size → a (gb s m) = false) : skp s a k = m := by
  rcases Nat.lt_trichotomy (skp s a k) m with h | h | h
  · have hg := skp_ge s a k
    have h3 := h1 _ hg h
    have := skp_at s a k h3.1
    rw [h3.2] at this; cases this
  · exact h
  · have h3 := skp_all s a k m h0 h
    rw [h2 h3.1] at h3; cases h3.2
structure Ac where
  kind : Int
  name : ByteArray
  next : Nat
def kindO (m : Int) : Int := if m = 43 then 1 else if m = 45 then 2 else if m = 63 then 4 else if m = 58 then 5 else if m = 42 then 6 else if m = 47 then 7 else if m = 62 then 8 else if az m then 3 else 0
def fitsK (k : Int) (n : Nat) : Bool := if k = 0 then false else if k = 2 ∨ k = 5 ∨ k = 7 then decide (n = 0) else decide (1 ≤ n ∧ n ≤ 8)
def noAc (p : Nat) : Ac := ⟨0, ⟨#[]⟩, p⟩
def frm (s : ByteArray) (p : Nat) : Nat := if kindO (gb s (p + 1)) = 3 then p + 1 else p + 2
def nend (s : ByteArray) (p : Nat) : Nat := skp s az (frm s p)
def isAc (s : ByteArray) (p : Nat) : Bool := decide (p + 1 < s.size ∧ gb s p = 123) && fitsK (kindO (gb s (p + 1))) (nend s p - frm s p) && decide (nend s p < s.size ∧ gb s (nend s p) = 125)
def act (s : ByteArray) (p : Nat) : Ac := if isAc s p then ⟨kindO (gb s (p + 1)), s.extract (frm s p) (nend s p), nend s p + 1⟩ else noAc p
theorem kindO_range (m : Int) : 0 ≤ kindO m ∧ kindO m ≤ 8 := by unfold kindO; (repeat' split) <;> omega
theorem act_range (s : ByteArray) (p : Nat) : 0 ≤ (act s p).kind ∧ (act s p).kind ≤ 8 := by
  unfold act; split
  · exact kindO_range _
  · simp [noAc]
theorem frm_range (s : ByteArray) (p : Nat) (h : p + 1 < s.size) : p + 1 ≤ frm s p ∧ frm s p ≤ s.size := by unfold frm; split <;> omega
theorem act_next (s : ByteArray) (p : Nat) (h : (act s p).kind ≠ 0) : p + 3 ≤ (act s p).next ∧ (act s p).next ≤ s.size ∧ p + 1 < s.size ∧ gb s p = 123 := by
  unfold act at *
  split at h
  · rename_i hi
    rw [if_pos hi]
    simp only [isAc, Bool.and_eq_true, decide_eq_true_eq] at hi
    obtain ⟨⟨h1, h2⟩, h3⟩ := hi
    have h4 := frm_range s p h1.1
    have h5 := skp_ge s az (frm s p)
    show p + 3 ≤ nend s p + 1 ∧ nend s p + 1 ≤ s.size ∧ _ ∧ _
    refine ⟨?_, by omega, h1.1, h1.2⟩
    unfold nend at *
    by_cases hk : kindO (gb s (p + 1)) = 3
    · rw [hk] at h2
      have : frm s p = p + 1 := by unfold frm; rw [if_pos hk]
      simp [fitsK] at h2
      omega
    · have : frm s p = p + 2 := by unfold frm; rw [if_neg hk]
      omega
  · simp [noAc] at h
theorem act_none (s : ByteArray) (p : Nat) (h : (act s p).kind = 0) : act s p = noAc p := by
  unfold act at *
  split at h
  · rename_i hi
    simp only [isAc, Bool.and_eq_true, decide_eq_true_eq] at hi
    have h' : kindO (gb s (p + 1)) = 0 := h
    rw [h'] at hi
    simp [fitsK] at hi
  · rename_i hi; rw [if_neg hi]
structure Ak where
  kind : Int
  name : ByteArray
  at' : Nat
structure Cfg where
  p : Nat
  inb : Bool
  nt : Nat
  op : List Int
  acts : List Ak
inductive Res where
  | go (c : Cfg)
  | err (w : Nat)
  | fin (acts : List Ak)
/-- behind an action of a kind: within a body?, how many templates, what is open (the innermost last) -/
def takeS (inb : Bool) (nt : Nat) (op : List Int) (k : Int) : Option (Bool × Nat × List Int) :=
  if inb = false then (if k = 1 ∧ nt < 6 then some (true, nt + 1, op) else none)
  else if k = 3 ∨ k = 8 then some (true, nt, op)
  else if k = 4 ∨ k = 6 then (if op.length < 8 then some (true, nt, op ++ [k]) else none)
  else if k = 5 then (if op.getLast? = some 4 then some (true, nt, op.dropLast ++ [5]) else none)
  else if k = 7 then (if op = [] then none else some (true, nt, op.dropLast))
  else if k = 2 then (if op = [] then some (false, nt, op) else none)
  else none
def stepC (s : ByteArray) (c : Cfg) : Res :=
  if c.p < s.size then
    if c.inb = true ∧ gb s c.p ≠ 123 ∧ gb s c.p ≠ 125 then .go { c with p := c.p + 1 }
    else match takeS c.inb c.nt c.op (act s c.p).kind with
      | none => .err c.p
      | some (i, n, o) => .go ⟨(act s c.p).next, i, n, o, c.acts ++ [⟨(act s c.p).kind, (act s c.p).name, c.p⟩]⟩
  else if c.inb = true ∨ c.nt = 0 then .err s.size else .fin c.acts
inductive Reach (s : ByteArray) : Cfg → Cfg → Prop where
  | refl (c : Cfg) : Reach s c c
  | step {c d e : Cfg} (h : stepC s c = .go d) (r : Reach s d e) : Reach s c e
theorem Reach.trans {s : ByteArray} {c d e : Cfg} (h : Reach s c d) (k : Reach s d e) : Reach s c e := by
  induction h with
  | refl c => exact k
  | step h r ih => exact .step h (ih k)
theorem Reach.one {s : ByteArray} {c d : Cfg} (h : stepC s c = .go d) : Reach s c d := .step h (.refl _)
def Res.last : Res → Prop
  | .go _ => False
  | _ => True
def Ends (s : ByteArray) (c : Cfg) (r : Res) : Prop := ∃ d, Reach s c d ∧ stepC s d = r ∧ r.last
theorem ends_unique {s : ByteArray} {c : Cfg} {r r' : Res} (h : Ends s c r) (h' : Ends s c r') : r = r' := by
  obtain ⟨d, hr, hs, hl⟩ := h
  obtain ⟨d', hr', hs', hl'⟩ := h'
  induction hr with
  | refl c =>
    cases hr' with
    | refl => rw [← hs, ← hs']
    | step h r => rw [h] at hs; rw [← hs] at hl; exact hl.elim
  | step h r ih =>
    cases hr' with
    | refl => rw [h] at hs'; rw [← hs'] at hl'; exact hl'.elim
    | step h2 r2 => rw [h] at h2; cases h2; exact ih hs r2
theorem Ends.of {s : ByteArray} {c d : Cfg} {r : Res} (h : Reach s c d) (k : Ends s d r) : Ends s c r := by
  obtain ⟨e, h1, h2, h3⟩ := k
  exact ⟨e, h.trans h1, h2, h3⟩
def init : Cfg := ⟨0, false, 0, [], []⟩
end Go.Proofs.YtffkejkgkgfnhabGreat
namespace Go.Proofs.YtffkejkgkgfnhabGreat
set_option linter.unusedVariables false
def nmd (b : ByteArray) : Bool := decide (1 ≤ b.size ∧ b.size ≤ 8) && decide (skp b az 0 = b.size)
def txB (b : Int) : Bool := decide (b ≠ 123 ∧ b ≠ 125)
def nbB (b : Int) : Bool := decide (b ≠ 125)
theorem ext_size (s : ByteArray) (a b : Nat) (h : b ≤ s.size) : (s.extract a b).size = b - a := by
  have e : (s.extract a b).data.toList.length = (s.extract a b).size := rfl
  rw [← e, Lib.extract_data, List.length_take, List.length_drop]
  have e2 : s.data.toList.length = s.size := rfl
  omega
theorem gb_list (s : ByteArray) (k : Nat) (h : k < s.size) : s.data.toList[k]? = some (s[k]'h) := by
  have e2 : s.data.toList.length = s.size := rfl
  rw [List.getElem?_eq_getElem (by omega)]; rfl
theorem gb_ext (s : ByteArray) (a b k : Nat) (h : b ≤ s.size) (hk : k < b - a) : gb (s.extract a b) k = gb s (a + k) := by
  have h1 : k < (s.extract a b).size := by rw [ext_size s a b h]; exact hk
  have h2 : a + k < s.size := by omega
  rw [gb_in _ k h1, gb_in s (a + k) h2]
  have e1 := gb_list (s.extract a b) k h1
  have e2 := gb_list s (a + k) h2
  rw [Lib.extract_data, List.getElem?_take_of_lt hk, List.getElem?_drop, e2] at e1
  simp only [Option.some.injEq] at e1
  rw [e1]
theorem nmd_iff (b : ByteArray) : nmd b = true ↔ (1 ≤ b.size ∧ b.size ≤ 8) ∧ ∀ j, j < b.size → az (gb b j) = true := by
  simp only [nmd, Bool.and_eq_true, decide_eq_true_eq]
  constructor
  · rintro ⟨h1, h2⟩
    exact ⟨h1, fun j hj => (skp_all b az 0 j (Nat.zero_le _) (by omega)).2⟩
  · rintro ⟨h1, h2⟩
    exact ⟨h1, skp_eq b az 0 b.size (Nat.zero_le _) (fun j _ hj => ⟨hj, h2 j hj⟩) (fun h => by omega)⟩
theorem nmd_ext (s : ByteArray) (a b : Nat) (h : b ≤ s.size) : nmd (s.extract a b) = true ↔ (1 ≤ b - a ∧ b - a ≤ 8) ∧ ∀ j, a ≤ j → j < b → az (gb s j) = true := by
  rw [nmd_iff, ext_size s a b h]
  constructor
  · rintro ⟨h1, h2⟩
    refine ⟨h1, fun j h3 h4 => ?_⟩
    have := h2 (j - a) (by omega)
    rw [gb_ext s a b (j - a) h (by omega), show a + (j - a) = j by omega] at this
    exact this
  · rintro ⟨h1, h2⟩
    refine ⟨h1, fun j hj => ?_⟩
    rw [gb_ext s a b j h hj]
    exact h2 (a + j) (by omega) (by omega)
/-- the sign of a kind -/
def sg (k : Int) : Int := if k = 1 then 43 else if k = 2 then 45 else if k = 3 then 32 else if k = 4 then 63 else if k = 5 then 58 else if k = 6 then 42 else if k = 7 then 47 else if k = 8 then 62 else 0
def isMark (m : Int) : Prop := m = 63 ∨ m = 42 ∨ m = 62 ∨ m = 43
theorem sg_one (m : Int) (h : m = 58 ∨ m = 47 ∨ m = 45) : sg (kindO m) = m ∧ (kindO m = 5 ∨ kindO m = 7 ∨ kindO m = 2) := by
  rcases h with rfl | rfl | rfl <;> decide
theorem sg_mark (m : Int) (h : isMark m) : sg (kindO m) = m ∧ (kindO m = 1 ∨ kindO m = 4 ∨ kindO m = 6 ∨ kindO m = 8) := by
  rcases h with rfl | rfl | rfl | rfl <;> decide
theorem kindO_az (m : Int) (h : az m = true) : kindO m = 3 := by
  have h' := h
  simp only [az, decide_eq_true_eq] at h'
  unfold kindO
  rw [if_neg (by omega), if_neg (by omega), if_neg (by omega), if_neg (by omega), if_neg (by omega), if_neg (by omega), if_neg (by omega), if_pos h]
theorem kindO_cases (m : Int) (h : kindO m ≠ 0) : (az m = true ∧ kindO m = 3) ∨ isMark m ∨ (m = 58 ∨ m = 47 ∨ m = 45) := by
  by_cases ha : az m = true
  · exact .inl ⟨ha, kindO_az m ha⟩
  · right
    unfold kindO at h
    unfold isMark
    simp only [ha] at h
    grind
/-- the ref's way: q, the first brace that closes -/
def rq (s : ByteArray) (p : Nat) : Nat := skp s nbB (p + 1)
/-- ground facts for the ways of an action at p, where q is the first closing brace -/
theorem way_one (s : ByteArray) (p : Nat) (hp : gb s p = 123) (hq : rq s p < s.size) (h2 : rq s p = p + 2) (hm : gb s (p + 1) = 58 ∨ gb s (p + 1) = 47 ∨ gb s (p + 1) = 45) :
    act s p = ⟨kindO (gb s (p + 1)), ⟨#[]⟩, rq s p + 1⟩ ∧ sg (kindO (gb s (p + 1))) = gb s (p + 1) ∧ (act s p).kind ≠ 0 := by
  obtain ⟨hs, hk⟩ := sg_one _ hm
  have hb : gb s (rq s p) = 125 := by have := skp_at s nbB (p + 1) hq; simpa [nbB, rq] using this
  have hf : frm s p = p + 2 := by unfold frm; rw [if_neg (by omega)]
  have he : nend s p = p + 2 := by
    unfold nend; rw [hf]
    exact skp_stop s az (p + 2) (by omega) (by rw [← h2, hb]; decide)
  have hi : isAc s p = true := by
    simp only [isAc, Bool.and_eq_true, decide_eq_true_eq, he, hf]
    refine ⟨⟨⟨by omega, hp⟩, ?_⟩, by omega, by rw [← h2]; exact hb⟩
    rcases hk with e | e | e <;> simp [fitsK, e]
  refine ⟨?_, hs, ?_⟩
  · rw [act, if_pos hi, he, hf, h2]
    congr 1
    rw [Lib.extract_eq]; simp
  · rw [act, if_pos hi]; show kindO _ ≠ 0; omega
theorem way_hole (s : ByteArray) (p : Nat) (hp : gb s p = 123) (hq : rq s p < s.size) (hn : nmd (s.extract (p + 1) (rq s p)) = true) :
    act s p = ⟨3, s.extract (p + 1) (rq s p), rq s p + 1⟩ := by
  obtain ⟨h1, h2⟩ := (nmd_ext s (p + 1) (rq s p) (by omega)).1 hn
  have hb : gb s (rq s p) = 125 := by have := skp_at s nbB (p + 1) hq; simpa [nbB, rq] using this
  have hk := kindO_az _ (h2 (p + 1) (by omega) (by omega))
  have hf : frm s p = p + 1 := by unfold frm; rw [if_pos hk]
  have he : nend s p = rq s p := by
    unfold nend; rw [hf]
    exact skp_eq s az (p + 1) (rq s p) (by omega) (fun j a b => ⟨by omega, h2 j a b⟩) (fun _ => by rw [hb]; decide)
  have hi : isAc s p = true := by
    simp only [isAc, Bool.and_eq_true, decide_eq_true_eq, he, hf, hk]
    exact ⟨⟨⟨by omega, hp⟩, by simp [fitsK]; omega⟩, by omega, hb⟩
  rw [act, if_pos hi, he, hf, hk]
theorem way_mark (s : ByteArray) (p : Nat) (hp : gb s p = 123) (hq : rq s p < s.size) (hm : isMark (gb s (p + 1))) (hn : nmd (s.extract (p + 2) (rq s p)) = true) :
    act s p = ⟨kindO (gb s (p + 1)), s.extract (p + 2) (rq s p), rq s p + 1⟩ ∧ sg (kindO (gb s (p + 1))) = gb s (p + 1) ∧ (act s p).kind ≠ 0 := by
  obtain ⟨hs, hk⟩ := sg_mark _ hm
  obtain ⟨h1, h2⟩ := (nmd_ext s (p + 2) (rq s p) (by omega)).1 hn
  have hb : gb s (rq s p) = 125 := by have := skp_at s nbB (p + 1) hq; simpa [nbB, rq] using this
  have hf : frm s p = p + 2 := by unfold frm; rw [if_neg (by omega)]
  have he : nend s p = rq s p := by
    unfold nend; rw [hf]
    exact skp_eq s az (p + 2) (rq s p) (by omega) (fun j a b => ⟨by omega, h2 j a b⟩) (fun _ => by rw [hb]; decide)
  have hi : isAc s p = true := by
    simp only [isAc, Bool.and_eq_true, decide_eq_true_eq, he, hf]
    refine ⟨⟨⟨by omega, hp⟩, ?_⟩, by omega, hb⟩
    rcases hk with e | e | e | e <;> simp [fitsK, e] <;> omega
  refine ⟨by rw [act, if_pos hi, he, hf], hs, ?_⟩
  rw [act, if_pos hi]; show kindO _ ≠ 0; omega
/-- where there is an action, the ref's way finds it -/
theorem way_back (s : ByteArray) (p : Nat) (h : (act s p).kind ≠ 0) :
    gb s p = 123 ∧ p + 1 < s.size ∧ rq s p < s.size ∧ p + 2 ≤ rq s p ∧
      ((rq s p = p + 2 ∧ (gb s (p + 1) = 58 ∨ gb s (p + 1) = 47 ∨ gb s (p + 1) = 45)) ∨ nmd (s.extract (p + 1) (rq s p)) = true ∨ (isMark (gb s (p + 1)) ∧ nmd (s.extract (p + 2) (rq s p)) = true)) := by
  have hi : isAc s p = true := by
    unfold act at h; split at h
    · assumption
    · simp [noAc] at h
  have hi' := hi
  simp only [isAc, Bool.and_eq_true, decide_eq_true_eq] at hi
  obtain ⟨⟨⟨h1, h2⟩, h3⟩, h4, h5⟩ := hi
  have hk : kindO (gb s (p + 1)) ≠ 0 := by intro e; rw [e] at h3; simp [fitsK] at h3
  have hge : frm s p ≤ nend s p := skp_ge s az (frm s p)
  have hall : ∀ j, frm s p ≤ j → j < nend s p → j < s.size ∧ az (gb s j) = true := skp_all s az (frm s p)
  have key : rq s p = nend s p ∧ p + 2 ≤ nend s p := by
    have hq : p + 1 ≤ nend s p ∧ (∀ j, p + 1 ≤ j → j < nend s p → gb s j ≠ 125) ∧ p + 2 ≤ nend s p := by
      by_cases e3 : kindO (gb s (p + 1)) = 3
      · have hf : frm s p = p + 1 := by unfold frm; rw [if_pos e3]
        rw [e3] at h3
        simp [fitsK] at h3
        refine ⟨by omega, fun j a b => ?_, by omega⟩
        have := (hall j (by omega) b).2
        simp [az] at this; omega
      · have hf : frm s p = p + 2 := by unfold frm; rw [if_neg e3]
        refine ⟨by omega, fun j a b => ?_, by omega⟩
        by_cases ej : j = p + 1
        · subst ej
          intro e
          rw [e] at hk
          exact hk (by decide)
        · have := (hall j (by omega) b).2
          simp [az] at this; omega
    refine ⟨?_, hq.2.2⟩
    exact skp_eq s nbB (p + 1) (nend s p) hq.1 (fun j a b => ⟨by omega, by simpa [nbB] using hq.2.1 j a b⟩) (fun _ => by rw [h5]; decide)
  obtain ⟨k1, k2⟩ := key
  rw [k1]
  refine ⟨h2, h1, h4, k2, ?_⟩
  rcases kindO_cases _ hk with ⟨ha, e3⟩ | hm | hm
  · right; left
    have hf : frm s p = p + 1 := by unfold frm; rw [if_pos e3]
    rw [e3, hf] at h3
    simp [fitsK] at h3
    refine (nmd_ext s (p + 1) (nend s p) (by omega)).2 ⟨by omega, fun j a b => ?_⟩
    exact (hall j (by omega) b).2
  · right; right
    obtain ⟨_, hkk⟩ := sg_mark _ hm
    have hf : frm s p = p + 2 := by unfold frm; rw [if_neg (by omega)]
    refine ⟨hm, (nmd_ext s (p + 2) (nend s p) (by omega)).2 ⟨?_, fun j a b => (hall j (by omega) b).2⟩⟩
    rw [hf] at h3
    rcases hkk with e | e | e | e <;> rw [e] at h3 <;> simp [fitsK] at h3 <;> omega
  · left
    obtain ⟨_, hkk⟩ := sg_one _ hm
    have hf : frm s p = p + 2 := by unfold frm; rw [if_neg (by omega)]
    rw [hf] at h3
    refine ⟨?_, hm⟩
    rcases hkk with e | e | e <;> rw [e] at h3 <;> simp [fitsK] at h3 <;> omega
theorem ext_one (s : ByteArray) (a b : Nat) (x : UInt8) (h : b ≤ s.size) (ha : a < b) : ((s.extract a b).toList == [x]) = decide (b = a + 1 ∧ gb s a = (x.toNat : Int)) := by
  rw [Bool.eq_iff_iff, beq_iff_eq, decide_eq_true_eq, Lib.extract_toList]
  have e2 : s.data.toList.length = s.size := rfl
  have hl : ((s.data.toList.drop a).take (b - a)).length = b - a := by rw [List.length_take, List.length_drop]; omega
  have hh : ((s.data.toList.drop a).take (b - a))[0]? = some (s[a]'(by omega)) := by
    rw [List.getElem?_take_of_lt (by omega), List.getElem?_drop]; exact gb_list s a (by omega)
  have hg := gb_in s a (by omega)
  constructor
  · intro e
    rw [e] at hl hh
    simp at hl hh
    refine ⟨by omega, ?_⟩
    rw [hg, ← hh]
  · rintro ⟨h1, h2⟩
    rw [hg] at h2
    have h3 : (s[a]'(by omega)) = x := UInt8.toNat_inj.1 (by omega)
    rw [h3] at hh
    have h4 : ((s.data.toList.drop a).take (b - a)).length = 1 := by omega
    obtain ⟨y, hy⟩ := List.length_eq_one_iff.1 h4
    rw [hy] at hh ⊢
    simpa using hh
theorem ext_head (s : ByteArray) (a b : Nat) (h : b ≤ s.size) (ha : a < b) (hz : 0 < (s.extract a b).size) : (((s.extract a b)[0]'hz).toNat : Int) = gb s a := by
  rw [← gb_in _ 0 hz, gb_ext s a b 0 h (by omega)]; rfl
theorem ext_tail (s : ByteArray) (a b : Nat) (h : b ≤ s.size) (ha : a < b) : (s.extract a b).extract 1 (s.extract a b).size = s.extract (a + 1) b := by
  rw [ext_size s a b h]
  apply ByteArray.ext
  apply Array.ext'
  rw [Lib.extract_data, Lib.extract_data, Lib.extract_data, List.drop_take, List.drop_drop]
  rw [List.take_take]
  congr 1
  omega
end Go.Proofs.YtffkejkgkgfnhabGreat
