import Derived.Test.YtffkejkgkgfnhaaGreatG09
import Derived.Test.YtffkejkgkgfnhaaGreatG01
/-
  THE PLAIN MATHEMATICS OF WALKS: what walks come to, by sets of contexts. No Go.
-/
namespace Go.Proofs.YtffkejkgkgfnhaaGreat
set_option linter.unusedVariables false
abbrev Cs := Nat → Prop
abbrev En := Nat → Nat → Nat → Prop
/-- what a walk comes to: something wrong, a hole in a context, a call in a context -/
inductive Ev where
  | bad
  | use (a x : Nat)
  | call (t x : Nat)
def opS (x : Nat) : Bool := decide (x = 0 ∨ x = 15 ∨ x = 16 ∨ x = 17 ∨ x = 18 ∨ x = 19 ∨ x = 21)
def two (S : Cs) : Prop := ∃ x y, S x ∧ S y ∧ x ≠ y
def lfp (f : Cs → Cs) (S : Cs) : Cs := fun y => ∀ X : Cs, (∀ z, S z → X z) → (∀ z, f X z → X z) → X y
def tno (ts : List Tm) (nm : ByteArray) : Nat := (fndF nm ts 0).toNat
def bod (ts : List Tm) (t : Nat) : Nds := match ts[t]? with
  | some m => m.body
  | none => .nil
/-- behind a piece, but for its bodies -/
def psem (ts : List Tm) (E : En) (k : Int) (nm : ByteArray) (ft fe : Cs → Cs) (tw : Bool) (S : Cs) : Cs :=
  if k = 1 then fun y => ∃ x, S x ∧ scn x nm.data.toList = (y : Int)
  else if k = 2 then S
  else if k = 3 then fun y => ft S y ∨ (if tw = true then fe S y else S y)
  else if k = 4 then lfp ft S
  else fun y => ∃ x, S x ∧ E (tno ts nm) x y
def sem (ts : List Tm) (E : En) : Nds → Cs → Cs
  | .nil, S => S
  | .cons k a nm th el tw r, S => sem ts E r (psem ts E k nm (sem ts E th) (sem ts E el) tw S)
def pevt (ts : List Tm) (E : En) (k a : Int) (nm : ByteArray) (ft : Cs → Cs) (gt ge : Cs → Ev → Prop) (tw : Bool) (S : Cs) (e : Ev) : Prop :=
  if k = 1 then e = .bad ∧ ∃ x, S x ∧ scn x nm.data.toList = -1
  else if k = 2 then ∃ x, S x ∧ (if opS x = true then e = .use a.toNat x else e = .bad)
  else if k = 3 then gt S e ∨ (tw = true ∧ ge S e)
  else if k = 4 then gt (lfp ft S) e
  else ∃ x, S x ∧ e = .call (tno ts nm) x
def evt (ts : List Tm) (E : En) : Nds → Cs → Ev → Prop
  | .nil, S, e => e = .bad ∧ two S
  | .cons k a nm th el tw r, S, e => (e = .bad ∧ two S) ∨ pevt ts E k a nm (sem ts E th) (evt ts E th) (evt ts E el) tw S e ∨ evt ts E r (psem ts E k nm (sem ts E th) (sem ts E el) tw S) e
theorem lfp_in (f : Cs → Cs) (S : Cs) (y : Nat) (h : S y) : lfp f S y := fun X h1 _ => h1 y h
theorem lfp_mono {f g : Cs → Cs} {S T : Cs} (hf : ∀ X z, f X z → g X z) (h : ∀ z, S z → T z) (y : Nat) (k : lfp f S y) : lfp g T y :=
  fun X h1 h2 => k X (fun z hz => h1 z (h z hz)) (fun z hz => h2 z (hf X z hz))
theorem lfp_le (f : Cs → Cs) (S X : Cs) (h1 : ∀ z, S z → X z) (h2 : ∀ z, f X z → X z) (y : Nat) (h : lfp f S y) : X y := h X h1 h2
theorem lfp_step (f : Cs → Cs) (S : Cs) (hm : ∀ X Y : Cs, (∀ z, X z → Y z) → ∀ z, f X z → f Y z) (y : Nat) (h : f (lfp f S) y) : lfp f S y :=
  fun X h1 h2 => h2 y (hm _ _ (fun z hz => hz X h1 h2) y h)
theorem psem_mono {ts : List Tm} {E F : En} {k : Int} {nm : ByteArray} {ft fe gt ge : Cs → Cs} {tw : Bool} {S T : Cs} (hE : ∀ t x y, E t x y → F t x y) (h1 : ∀ X Y : Cs, (∀ z, X z → Y z) → ∀ z, ft X z → gt Y z) (h2 : ∀ X Y : Cs, (∀ z, X z → Y z) → ∀ z, fe X z → ge Y z) (h : ∀ z, S z → T z) (y : Nat)
    (k' : psem ts E k nm ft fe tw S y) : psem ts F k nm gt ge tw T y := by
  unfold psem at *
  split at k'
  · rename_i e; rw [if_pos e]
    obtain ⟨x, a, b⟩ := k'
    exact ⟨x, h x a, b⟩
  · rename_i e1; rw [if_neg e1]
    split at k'
    · rename_i e; rw [if_pos e]; exact h y k'
    · rename_i e2; rw [if_neg e2]
      split at k'
      · rename_i e; rw [if_pos e]
        rcases k' with k' | k'
        · exact .inl (h1 _ _ h y k')
        · right
          split at k'
          · rename_i e; rw [if_pos e]; exact h2 _ _ h y k'
          · rename_i e; rw [if_neg e]; exact h y k'
      · rename_i e3; rw [if_neg e3]
        split at k'
        · rename_i e; rw [if_pos e]
          exact lfp_mono (fun X z => h1 X X (fun _ q => q) z) h y k'
        · rename_i e4; rw [if_neg e4]
          obtain ⟨x, a, b⟩ := k'
          exact ⟨x, h x a, hE _ _ _ b⟩
theorem sem_mono {ts : List Tm} {E F : En} (hE : ∀ t x y, E t x y → F t x y) (b : Nds) : ∀ (S T : Cs), (∀ z, S z → T z) → ∀ y, sem ts E b S y → sem ts F b T y := by
  induction b with
  | nil => intro S T h y k; exact h y k
  | cons k a nm th el tw r iht ihe ih => intro S T h y k; exact ih _ _ (fun z hz => psem_mono hE iht ihe h z hz) y k
theorem pevt_mono {ts : List Tm} {E F : En} {k a : Int} {nm : ByteArray} {ft ft' : Cs → Cs} {gt ge gt' ge' : Cs → Ev → Prop} {tw : Bool} {S T : Cs} {e : Ev} (h0 : ∀ X Y : Cs, (∀ z, X z → Y z) → ∀ z, ft X z → ft' Y z) (h1 : ∀ X Y : Cs, (∀ z, X z → Y z) → gt X e → gt' Y e) (h2 : ∀ X Y : Cs, (∀ z, X z → Y z) → ge X e → ge' Y e) (h : ∀ z, S z → T z)
    (k' : pevt ts E k a nm ft gt ge tw S e) : pevt ts F k a nm ft' gt' ge' tw T e := by
  unfold pevt at *
  split at k'
  · rename_i q; rw [if_pos q]
    obtain ⟨q1, x, a, b⟩ := k'
    exact ⟨q1, x, h x a, b⟩
  · rename_i e1; rw [if_neg e1]
    split at k'
    · rename_i q; rw [if_pos q]
      obtain ⟨x, a, b⟩ := k'
      exact ⟨x, h x a, b⟩
    · rename_i e2; rw [if_neg e2]
      split at k'
      · rename_i q; rw [if_pos q]
        rcases k' with k' | ⟨q1, k'⟩
        · exact .inl (h1 _ _ h k')
        · exact .inr ⟨q1, h2 _ _ h k'⟩
      · rename_i e3; rw [if_neg e3]
        split at k'
        · rename_i q; rw [if_pos q]
          exact h1 _ _ (fun z hz => lfp_mono (fun X z => h0 X X (fun _ q => q) z) h z hz) k'
        · rename_i e4; rw [if_neg e4]
          obtain ⟨x, a, b⟩ := k'
          exact ⟨x, h x a, b⟩
theorem two_mono {S T : Cs} (h : ∀ z, S z → T z) (k : two S) : two T := by
  obtain ⟨x, y, a, b, c⟩ := k
  exact ⟨x, y, h x a, h y b, c⟩
theorem evt_mono {ts : List Tm} {E F : En} (hE : ∀ t x y, E t x y → F t x y) (e : Ev) (b : Nds) : ∀ (S T : Cs), (∀ z, S z → T z) → evt ts E b S e → evt ts F b T e := by
  induction b with
  | nil => intro S T h k; exact ⟨k.1, two_mono h k.2⟩
  | cons k a nm th el tw r iht ihe ih =>
    intro S T h k
    rcases k with ⟨k1, k2⟩ | k | k
    · exact .inl ⟨k1, two_mono h k2⟩
    · exact .inr (.inl (pevt_mono (sem_mono hE th) iht ihe h k))
    · exact .inr (.inr (ih _ _ (fun z hz => psem_mono hE (sem_mono hE th) (sem_mono hE el) h z hz) k))
/-! ### The truth: the least that is closed -/
def one (x : Nat) : Cs := fun y => y = x
structure Closed (ts : List Tm) (t0 : Nat) (B : Nat → Nat → Prop) (E : En) : Prop where
  start : B t0 0
  ends : ∀ t x y, B t x → sem ts E (bod ts t) (one x) y → E t x y
  calls : ∀ t x t' x', B t x → evt ts E (bod ts t) (one x) (.call t' x') → B t' x'
def Bs (ts : List Tm) (t0 : Nat) (t x : Nat) : Prop := ∀ B E, Closed ts t0 B E → B t x
def Es (ts : List Tm) (t0 : Nat) : En := fun t x y => ∀ B E, Closed ts t0 B E → E t x y
theorem Es_le {ts : List Tm} {t0 : Nat} {B : Nat → Nat → Prop} {E : En} (h : Closed ts t0 B E) (t x y : Nat) (k : Es ts t0 t x y) : E t x y := k B E h
theorem true_closed (ts : List Tm) (t0 : Nat) : Closed ts t0 (Bs ts t0) (Es ts t0) where
  start := fun B E h => h.start
  ends := fun t x y hb hs B E h => h.ends t x y (hb B E h) (sem_mono (fun t x y k => Es_le h t x y k) _ _ _ (fun _ q => q) y hs)
  calls := fun t x t' x' hb hs B E h => h.calls t x t' x' (hb B E h) (evt_mono (fun t x y k => Es_le h t x y k) _ _ _ _ (fun _ q => q) hs)
/-- what the walks that are meant come to -/
def Evs (ts : List Tm) (t0 : Nat) (e : Ev) : Prop := ∃ t x, Bs ts t0 t x ∧ evt ts (Es ts t0) (bod ts t) (one x) e
def TBad (ts : List Tm) (t0 : Nat) : Prop := Evs ts t0 .bad ∨ ∃ y, y ≠ 0 ∧ Es ts t0 t0 0 y
/-- a closed pair that is sound is the truth -/
theorem truth_of {ts : List Tm} {t0 : Nat} {B : Nat → Nat → Prop} {E : En} (h : Closed ts t0 B E) (hB : ∀ t x, B t x → Bs ts t0 t x) (hE : ∀ t x y, B t x → E t x y → Es ts t0 t x y) (e : Ev) (he : Evs ts t0 e) : ∃ t x, B t x ∧ evt ts E (bod ts t) (one x) e := by
  obtain ⟨t, x, h1, h2⟩ := he
  exact ⟨t, x, h1 B E h, evt_mono (fun t x y k => Es_le h t x y k) _ _ _ _ (fun _ q => q) h2⟩
theorem sem_none (ts : List Tm) (E : En) (b : Nds) : ∀ (S : Cs), (∀ z, ¬ S z) → ∀ y, ¬ sem ts E b S y := by
  induction b with
  | nil => intro S h y k; exact h y k
  | cons k a nm th el tw r iht ihe ih =>
    intro S h y q
    refine ih _ (fun z hz => ?_) y q
    unfold psem at hz
    split at hz
    · obtain ⟨x, a, _⟩ := hz; exact h x a
    · split at hz
      · exact h z hz
      · split at hz
        · rcases hz with hz | hz
          · exact iht S h z hz
          · split at hz
            · exact ihe S h z hz
            · exact h z hz
        · split at hz
          · exact h z (hz S (fun _ q => q) (fun w hw => absurd hw (iht S h w)))
          · obtain ⟨x, a, _⟩ := hz; exact h x a
end Go.Proofs.YtffkejkgkgfnhaaGreat
namespace Go.Proofs.YtffkejkgkgfnhaaGreat
set_option linter.unusedVariables false
/-! ### Sets of contexts as numbers -/
def manyB (m : Nat) : Bool := decide (m &&& (m - 1) ≠ 0)
def bt (m : Nat) : Cs := fun y => m.testBit y = true
theorem low_same (m y : Nat) (h : 0 < m % 2 ^ y) : (m - 1).testBit y = m.testBit y := by
  have hp : 0 < 2 ^ y := Nat.two_pow_pos y
  have e : (m - 1) / 2 ^ y = m / 2 ^ y := by
    have hd := Nat.div_add_mod m (2 ^ y)
    have hl := Nat.mod_lt m hp
    have : m - 1 = 2 ^ y * (m / 2 ^ y) + (m % 2 ^ y - 1) := by omega
    rw [this, Nat.mul_add_div hp, Nat.div_eq_of_lt (a := m % 2 ^ y - 1) (by omega), Nat.add_zero]
  rw [Nat.testBit_eq_decide_div_mod_eq, Nat.testBit_eq_decide_div_mod_eq, e]
theorem low_bit (m y : Nat) (h : 0 < m % 2 ^ y) : ∃ x, x < y ∧ m.testBit x = true := by
  have hne : m % 2 ^ y ≠ 0 := by omega
  obtain ⟨x, hx⟩ := Nat.exists_testBit_of_ne_zero hne
  rw [Nat.testBit_mod_two_pow] at hx
  simp at hx
  exact ⟨x, hx⟩
theorem many_two (m : Nat) (h : manyB m = true) : two (bt m) := by
  simp only [manyB, decide_eq_true_eq] at h
  obtain ⟨y, hy⟩ := Nat.exists_testBit_of_ne_zero h
  rw [Nat.testBit_and, Bool.and_eq_true] at hy
  obtain ⟨h1, h2⟩ := hy
  by_cases hr : 0 < m % 2 ^ y
  · obtain ⟨x, hx, hb⟩ := low_bit m y hr
    exact ⟨x, y, hb, h1, by omega⟩
  · exfalso
    have hp : 0 < 2 ^ y := Nat.two_pow_pos y
    have hd := Nat.div_add_mod m (2 ^ y)
    rw [Nat.testBit_eq_decide_div_mod_eq, decide_eq_true_eq] at h1 h2
    have hq : 0 < m / 2 ^ y := by
      rcases Nat.eq_zero_or_pos (m / 2 ^ y) with e | e
      · rw [e] at h1; simp at h1
      · exact e
    obtain ⟨q, hq'⟩ : ∃ q, m / 2 ^ y = q + 1 := ⟨m / 2 ^ y - 1, by omega⟩
    have hm : m = 2 ^ y * q + 2 ^ y := by rw [hq'] at hd; rw [Nat.mul_add] at hd; omega
    have : (m - 1) / 2 ^ y = q := by
      have : m - 1 = 2 ^ y * q + (2 ^ y - 1) := by omega
      rw [this, Nat.mul_add_div hp, Nat.div_eq_of_lt (a := 2 ^ y - 1) (by omega), Nat.add_zero]
    rw [this] at h2; rw [hq'] at h1; omega
theorem two_many (m : Nat) (h : two (bt m)) : manyB m = true := by
  have key : ∀ x y, x < y → m.testBit x = true → m.testBit y = true → manyB m = true := by
    intro x y hxy hx hy
    have hr : 0 < m % 2 ^ y := by
      apply Nat.pos_of_ne_zero
      intro e
      have := Nat.testBit_mod_two_pow m y x
      rw [e, hx] at this
      simp at this; omega
    simp only [manyB, decide_eq_true_eq]
    intro e
    have : (m &&& (m - 1)).testBit y = true := by rw [Nat.testBit_and, low_same m y hr, hy]; rfl
    rw [e] at this; simp at this
  obtain ⟨x, y, hx, hy, hne⟩ := h
  rcases Nat.lt_or_gt_of_ne hne with h | h
  · exact key x y h hx hy
  · exact key y x h hy hx
theorem bt_lt (m x : Nat) (h : m < 2 ^ 24) (hx : bt m x) : x < 24 := by
  apply Decidable.byContradiction
  intro hn
  have : m.testBit x = false := Nat.testBit_lt_two_pow (Nat.lt_of_lt_of_le h (Nat.pow_le_pow_right (by decide) (by omega)))
  rw [bt, this] at hx; cases hx
theorem bt_or (a b y : Nat) : bt (a ||| b) y ↔ bt a y ∨ bt b y := by simp [bt, Nat.testBit_or]
theorem bt_pow (a y : Nat) : bt (2 ^ a) y ↔ y = a := by simp [bt, Nat.testBit_two_pow]; omega
theorem bt_zero (y : Nat) : ¬ bt 0 y := by simp [bt]
theorem or_lt24 {a b : Nat} (ha : a < 2 ^ 24) (hb : b < 2 ^ 24) : a ||| b < 2 ^ 24 := Nat.or_lt_two_pow ha hb
/-! ### The reference's state, and what its functions do -/
structure RS where
  beg : Nat → Bool
  en : Nat → Nat
  used : Nat → Bool
  wrong : Bool
  new : Bool
def upd (f : Nat → Bool) (k : Nat) : Nat → Bool := fun j => if j = k then true else f j
theorem upd_at (f : Nat → Bool) (k : Nat) : upd f k k = true := by simp [upd]
theorem upd_mono (f : Nat → Bool) (k j : Nat) (h : f j = true) : upd f k j = true := by unfold upd; split <;> simp_all
def placeR (m : Nat) (st : RS) : RS := { st with wrong := st.wrong || manyB m }
def tOut (l : List UInt8) (m : Nat) : Nat → Nat
  | 0 => 0
  | k + 1 => if m.testBit k = true ∧ scn k l ≠ -1 then tOut l m k ||| 2 ^ (scn k l).toNat else tOut l m k
def tBad (l : List UInt8) (m : Nat) : Nat → Bool
  | 0 => false
  | k + 1 => tBad l m k || (m.testBit k && decide (scn k l = -1))
def hBad (m : Nat) : Nat → Bool
  | 0 => false
  | k + 1 => hBad m k || (m.testBit k && !opS k)
def hUse (a m : Nat) (f : Nat → Bool) : Nat → Nat → Bool
  | 0 => f
  | k + 1 => if m.testBit k = true ∧ opS k = true then upd (hUse a m f k) (a * 24 + k) else hUse a m f k
def cOut (t m : Nat) (en : Nat → Nat) : Nat → Nat
  | 0 => 0
  | k + 1 => if m.testBit k = true then cOut t m en k ||| en (t * 24 + k) else cOut t m en k
def cBeg (t m : Nat) (f : Nat → Bool) : Nat → Nat → Bool
  | 0 => f
  | k + 1 => if m.testBit k = true then upd (cBeg t m f k) (t * 24 + k) else cBeg t m f k
def cNew (t m : Nat) (f : Nat → Bool) (n : Bool) : Nat → Bool
  | 0 => n
  | k + 1 => cNew t m f n k || (m.testBit k && !f (t * 24 + k))
theorem tOut_iff (l : List UInt8) (m k y : Nat) : bt (tOut l m k) y ↔ ∃ x, x < k ∧ bt m x ∧ scn x l = (y : Int) := by
  induction k with
  | zero => simp [tOut, bt]
  | succ k ih =>
    have hr := scn_range k l
    simp only [tOut]
    split
    · rename_i h
      rw [bt_or, ih, bt_pow]
      constructor
      · rintro (⟨x, h1, h2, h3⟩ | h1)
        · exact ⟨x, by omega, h2, h3⟩
        · exact ⟨k, by omega, h.1, by omega⟩
      · rintro ⟨x, h1, h2, h3⟩
        by_cases e : x = k
        · subst e; right; omega
        · exact .inl ⟨x, by omega, h2, h3⟩
    · rename_i h
      rw [ih]
      constructor
      · rintro ⟨x, h1, h2, h3⟩; exact ⟨x, by omega, h2, h3⟩
      · rintro ⟨x, h1, h2, h3⟩
        by_cases e : x = k
        · subst e; exact absurd ⟨h2, by omega⟩ h
        · exact ⟨x, by omega, h2, h3⟩
theorem tOut_lt (l : List UInt8) (m k : Nat) : tOut l m k < 2 ^ 24 := by
  induction k with
  | zero => simp [tOut]
  | succ k ih =>
    simp only [tOut]
    split
    · refine or_lt24 ih (Nat.pow_lt_pow_right (by decide) ?_)
      have := scn_range k l
      omega
    · exact ih
theorem tBad_iff (l : List UInt8) (m k : Nat) : tBad l m k = true ↔ ∃ x, x < k ∧ bt m x ∧ scn x l = -1 := by
  induction k with
  | zero => simp [tBad]
  | succ k ih =>
    simp only [tBad, Bool.or_eq_true, Bool.and_eq_true, decide_eq_true_eq, ih]
    constructor
    · rintro (⟨x, h1, h2, h3⟩ | ⟨h1, h2⟩)
      · exact ⟨x, by omega, h2, h3⟩
      · exact ⟨k, by omega, h1, h2⟩
    · rintro ⟨x, h1, h2, h3⟩
      by_cases e : x = k
      · subst e; exact .inr ⟨h2, h3⟩
      · exact .inl ⟨x, by omega, h2, h3⟩
theorem hBad_iff (m k : Nat) : hBad m k = true ↔ ∃ x, x < k ∧ bt m x ∧ opS x = false := by
  induction k with
  | zero => simp [hBad]
  | succ k ih =>
    simp only [hBad, Bool.or_eq_true, Bool.and_eq_true, Bool.not_eq_true', ih]
    constructor
    · rintro (⟨x, h1, h2, h3⟩ | ⟨h1, h2⟩)
      · exact ⟨x, by omega, h2, h3⟩
      · exact ⟨k, by omega, h1, h2⟩
    · rintro ⟨x, h1, h2, h3⟩
      by_cases e : x = k
      · subst e; exact .inr ⟨h2, h3⟩
      · exact .inl ⟨x, by omega, h2, h3⟩
theorem hUse_iff (a m : Nat) (f : Nat → Bool) (k j : Nat) : hUse a m f k j = true ↔ f j = true ∨ ∃ x, x < k ∧ bt m x ∧ opS x = true ∧ j = a * 24 + x := by
  induction k with
  | zero => simp [hUse]
  | succ k ih =>
    simp only [hUse]
    split
    · rename_i h
      unfold upd
      split
      · rename_i e
        simp only [true_iff]
        exact .inr ⟨k, by omega, h.1, h.2, e⟩
      · rename_i e
        rw [ih]
        constructor
        · rintro (h1 | ⟨x, h1, h2, h3, h4⟩)
          · exact .inl h1
          · exact .inr ⟨x, by omega, h2, h3, h4⟩
        · rintro (h1 | ⟨x, h1, h2, h3, h4⟩)
          · exact .inl h1
          · by_cases e2 : x = k
            · subst e2; exact absurd h4 e
            · exact .inr ⟨x, by omega, h2, h3, h4⟩
    · rename_i h
      rw [ih]
      constructor
      · rintro (h1 | ⟨x, h1, h2, h3, h4⟩)
        · exact .inl h1
        · exact .inr ⟨x, by omega, h2, h3, h4⟩
      · rintro (h1 | ⟨x, h1, h2, h3, h4⟩)
        · exact .inl h1
        · by_cases e2 : x = k
          · subst e2; exact absurd ⟨h2, h3⟩ h
          · exact .inr ⟨x, by omega, h2, h3, h4⟩
theorem cOut_iff (t m : Nat) (en : Nat → Nat) (k y : Nat) : bt (cOut t m en k) y ↔ ∃ x, x < k ∧ bt m x ∧ bt (en (t * 24 + x)) y := by
  induction k with
  | zero => simp [cOut, bt]
  | succ k ih =>
    simp only [cOut]
    split
    · rename_i h
      rw [bt_or, ih]
      constructor
      · rintro (⟨x, h1, h2, h3⟩ | h1)
        · exact ⟨x, by omega, h2, h3⟩
        · exact ⟨k, by omega, h, h1⟩
      · rintro ⟨x, h1, h2, h3⟩
        by_cases e : x = k
        · subst e; exact .inr h3
        · exact .inl ⟨x, by omega, h2, h3⟩
    · rename_i h
      rw [ih]
      constructor
      · rintro ⟨x, h1, h2, h3⟩; exact ⟨x, by omega, h2, h3⟩
      · rintro ⟨x, h1, h2, h3⟩
        by_cases e : x = k
        · subst e; exact absurd h2 h
        · exact ⟨x, by omega, h2, h3⟩
theorem cOut_lt (t m : Nat) (en : Nat → Nat) (h : ∀ j, en j < 2 ^ 24) (k : Nat) : cOut t m en k < 2 ^ 24 := by
  induction k with
  | zero => simp [cOut]
  | succ k ih =>
    simp only [cOut]
    split
    · exact or_lt24 ih (h _)
    · exact ih
theorem cBeg_iff (t m : Nat) (f : Nat → Bool) (k j : Nat) : cBeg t m f k j = true ↔ f j = true ∨ ∃ x, x < k ∧ bt m x ∧ j = t * 24 + x := by
  induction k with
  | zero => simp [cBeg]
  | succ k ih =>
    simp only [cBeg]
    split
    · rename_i h
      unfold upd
      split
      · rename_i e
        simp only [true_iff]
        exact .inr ⟨k, by omega, h, e⟩
      · rename_i e
        rw [ih]
        constructor
        · rintro (h1 | ⟨x, h1, h2, h4⟩)
          · exact .inl h1
          · exact .inr ⟨x, by omega, h2, h4⟩
        · rintro (h1 | ⟨x, h1, h2, h4⟩)
          · exact .inl h1
          · by_cases e2 : x = k
            · subst e2; exact absurd h4 e
            · exact .inr ⟨x, by omega, h2, h4⟩
    · rename_i h
      rw [ih]
      constructor
      · rintro (h1 | ⟨x, h1, h2, h4⟩)
        · exact .inl h1
        · exact .inr ⟨x, by omega, h2, h4⟩
      · rintro (h1 | ⟨x, h1, h2, h4⟩)
        · exact .inl h1
        · by_cases e2 : x = k
          · subst e2; exact absurd h2 h
          · exact .inr ⟨x, by omega, h2, h4⟩
theorem cNew_no (t m : Nat) (f : Nat → Bool) (n : Bool) (k : Nat) (h : cNew t m f n k = false) : n = false ∧ ∀ x, x < k → bt m x → f (t * 24 + x) = true := by
  induction k with
  | zero => exact ⟨h, fun x hx => absurd hx (by omega)⟩
  | succ k ih =>
    simp only [cNew, Bool.or_eq_false_iff] at h
    obtain ⟨h1, h2⟩ := ih h.1
    refine ⟨h1, fun x hx hm => ?_⟩
    by_cases e : x = k
    · subst e
      have := h.2
      rw [bt] at hm
      simpa [hm] using this
    · exact h2 x (by omega) hm
theorem cNew_mono (t m : Nat) (f : Nat → Bool) (k : Nat) : cNew t m f true k = true := by
  induction k with
  | zero => rfl
  | succ k ih => simp [cNew, ih]
/-! ### Runs of the reference through a body -/
inductive Job where
  | thr (b : Nds)
  | pce (k a : Int) (nm : ByteArray) (th el : Nds) (tw : Bool)
  | lps (th : Nds)
inductive Run (ts : List Tm) : Job → Nat → RS → Nat → RS → Prop where
  | nil {m : Nat} {st : RS} : Run ts (.thr .nil) m st m (placeR m st)
  | cons {k a : Int} {nm : ByteArray} {th el r : Nds} {tw : Bool} {m m1 m2 : Nat} {st st1 st2 : RS} (h : Run ts (.pce k a nm th el tw) m (placeR m st) m1 st1) (h' : Run ts (.thr r) m1 st1 m2 st2) : Run ts (.thr (.cons k a nm th el tw r)) m st m2 st2
  | text {a : Int} {nm : ByteArray} {th el : Nds} {tw : Bool} {m : Nat} {st : RS} : Run ts (.pce 1 a nm th el tw) m st (tOut nm.data.toList m 24) { st with wrong := st.wrong || tBad nm.data.toList m 24 }
  | hole {a : Int} {nm : ByteArray} {th el : Nds} {tw : Bool} {m : Nat} {st : RS} : Run ts (.pce 2 a nm th el tw) m st m { st with wrong := st.wrong || hBad m 24, used := hUse a.toNat m st.used 24 }
  | one {a : Int} {nm : ByteArray} {th el : Nds} {m f : Nat} {st st1 : RS} (h : Run ts (.thr th) m st f st1) : Run ts (.pce 3 a nm th el false) m st (f ||| m) st1
  | two {a : Int} {nm : ByteArray} {th el : Nds} {m f g : Nat} {st st1 st2 : RS} (h : Run ts (.thr th) m st f st1) (h' : Run ts (.thr el) m st1 g st2) : Run ts (.pce 3 a nm th el true) m st (f ||| g) st2
  | loop {a : Int} {nm : ByteArray} {th el : Nds} {tw : Bool} {m o : Nat} {st st1 : RS} (h : Run ts (.lps th) m st o st1) : Run ts (.pce 4 a nm th el tw) m st o st1
  | call {a : Int} {nm : ByteArray} {th el : Nds} {tw : Bool} {m : Nat} {st : RS} : Run ts (.pce 5 a nm th el tw) m st (cOut (tno ts nm) m st.en 24) { st with beg := cBeg (tno ts nm) m st.beg 24, new := cNew (tno ts nm) m st.beg st.new 24 }
  | stop {th : Nds} {m e : Nat} {st st1 : RS} (h : Run ts (.thr th) m st e st1) (hs : st1.wrong = true ∨ m ||| e = m) : Run ts (.lps th) m st (m ||| e) st1
  | more {th : Nds} {m e o : Nat} {st st1 st2 : RS} (h : Run ts (.thr th) m st e st1) (h' : Run ts (.lps th) (m ||| e) st1 o st2) : Run ts (.lps th) m st o st2
end Go.Proofs.YtffkejkgkgfnhaaGreat
