import Derived.Test.YtponicaflcbbeaaGreatJ05
import Derived.Test.YtponicaflcbbeaaGreatJ01
namespace Go.Proofs.YtponicaflcbbeaaGreat
open Go.RowKit
set_option linter.unusedVariables false
/-! ### Reading the rows -/
theorem cell_of_heap {w : World} {g j : Nat} {cur : Array Value} {ty : Nat} (h : w.heap[g]? = some (.cells cur ty (0, 0))) : w.cell? ⟨g, j, none⟩ = cur[j]? := by
  simp [World.cell?, h]
theorem RowT.at {w : World} {A : Nat → Prop} : ∀ (ts : List Tm) (xs : List Value) (i : Nat) (hi : i < ts.length), RowT w A ts xs →
    ∃ (a : Option Addr) (n c : Nat), xs[i * 3]? = some (.string ts[i].name) ∧ xs[i * 3 + 1]? = some (.int .i64 ts[i].at') ∧ xs[i * 3 + 2]? = some (.slice a n c) ∧ Slc w A 102 (.slice a n c) ts[i].body
  | [], xs, i, hi, h => absurd hi (by simp)
  | t :: r, xs, 0, hi, h => by
    obtain ⟨a, n, c, ys, rfl, h2, h3⟩ := h
    exact ⟨a, n, c, rfl, rfl, rfl, h2⟩
  | t :: r, xs, i + 1, hi, h => by
    obtain ⟨a, n, c, ys, rfl, h2, h3⟩ := h
    have hi' : i < r.length := by simpa using hi
    obtain ⟨a', n', c', k1, k2, k3, k4⟩ := RowT.at r ys i hi' h3
    refine ⟨a', n', c', ?_, ?_, ?_, k4⟩
    · rw [List.getElem?_append_right (by simp; omega)]; simpa [show (i + 1) * 3 - 3 = i * 3 by omega] using k1
    · rw [List.getElem?_append_right (by simp; omega)]; simpa [show (i + 1) * 3 + 1 - 3 = i * 3 + 1 by omega] using k2
    · rw [List.getElem?_append_right (by simp; omega)]; simpa [show (i + 1) * 3 + 2 - 3 = i * 3 + 2 by omega] using k3
/-- the templates, as the walk reads them -/
def TmAt (w : World) (A : Nat → Prop) (a : Option Addr) (ts : List Tm) : Prop :=
  ts.length = 0 ∨ ∃ g, a = some ⟨g, 0, none⟩ ∧ ∀ (i : Nat) (hi : i < ts.length), w.cell? ⟨g, i * 3, none⟩ = some (.string ts[i].name) ∧ w.cell? ⟨g, i * 3 + 1, none⟩ = some (.int .i64 ts[i].at') ∧
    ∃ (ba : Option Addr) (bn bc : Nat), w.cell? ⟨g, i * 3 + 2, none⟩ = some (.slice ba bn bc) ∧ Slc w A 102 (.slice ba bn bc) ts[i].body
theorem tmAt {w : World} {A : Nat → Prop} {a : Option Addr} {c : Nat} {ts : List Tm} (h : SlcX w A 72 3 (.slice a ts.length c) ts.length (RowT w A ts)) : TmAt w A a ts := by
  rcases h with ⟨_, h0, _⟩ | ⟨g, cap, cur, hv, hA, hg, hn, hm, hs, hr⟩
  · exact .inl h0
  · right
    simp at hv
    refine ⟨g, hv.1, fun i hi => ?_⟩
    obtain ⟨ba, bn, bc, k1, k2, k3, k4⟩ := RowT.at ts _ i hi hr
    have tk : ∀ j, j < ts.length * 3 → (cur.toList.take (ts.length * 3))[j]? = cur[j]? := by
      intro j hj; rw [List.getElem?_take_of_lt hj]; simp
    rw [tk _ (by omega)] at k1 k2 k3
    refine ⟨by rw [cell_of_heap hg]; exact k1, by rw [cell_of_heap hg]; exact k2, ba, bn, bc, by rw [cell_of_heap hg]; exact k3, k4⟩
def nmEq (a b : ByteArray) : Bool := a.toList == b.toList
def fndF (nm : ByteArray) : List Tm → Nat → Int
  | [], _ => -1
  | t :: r, i => if nmEq t.name nm then i else fndF nm r (i + 1)
theorem fndF_at (nm : ByteArray) (ts : List Tm) (i : Nat) (hi : i < ts.length) : fndF nm (ts.drop i) i = if nmEq ts[i].name nm then (i : Int) else fndF nm (ts.drop (i + 1)) (i + 1) := by
  rw [List.drop_eq_getElem_cons hi]; rfl
theorem fndF_range (nm : ByteArray) (ts : List Tm) (i : Nat) : -1 ≤ fndF nm ts i ∧ fndF nm ts i < i + ts.length := by
  induction ts generalizing i with
  | nil => simp [fndF]; omega
  | cons t r ih =>
    simp only [fndF]
    split
    · simp; omega
    · have := ih (i + 1); simp; omega
set_option maxHeartbeats 2000000 in
theorem c60 (w : World) (A : Nat → Prop) (a : Option Addr) (c : Nat) (ts : List Tm) (nm : ByteArray) (hl : ts.length ≤ 6) (h : TmAt w A a ts) :
    Calls Tryz.prog 35 #[.slice a ts.length c, .string nm] w fun e w' => e = .returned (.int .i64 (fndF nm ts 0)) ∧ w' = w := by
  rcases h with h0 | ⟨g, rfl, hat⟩
  · have hn : ts = [] := List.length_eq_zero_iff.1 h0
    subst hn
    have HE : Hid (fndF nm [] 0 = -1) := rfl
    generalize fndF nm [] 0 = E at *
    go_enter Tryz.func35, Tryz.ntmps35
    go_wp2
    refine wp_loop_rounds 1 ?_
    rw [rounds_succ]
    go_wp2
    go_ret
    exact ⟨retS_int HE.out.symm, rfl⟩
  · have HAT := hidS hat
    clear hat
    go_enter Tryz.func35, Tryz.ntmps35
    go_wp2
    go_loop [5] (fun i => ∃ k : Nat, k ≤ ts.length ∧ i = .int .i64 k ∧ Hid (fndF nm ts 0 = fndF nm (ts.drop k) k)) (fun i => ts.length - (intOf i).toNat)
    case atStart => exact ⟨0, Nat.zero_le _, rfl, rfl⟩
    case round =>
      obtain ⟨k, hk, rfl, H⟩ := hrel
      by_cases hlt : k < ts.length
      · have k1 := (HAT.out k hlt).1
        have HS := hidS (fndF_at nm ts k hlt)
        cases hB : nmEq ts[k].name nm
        · have HF : Hid (fndF nm ts 0 = fndF nm (ts.drop (k + 1)) (k + 1)) := by
            show _ = _
            rw [H.out, HS.out, hB]; rfl
          unfold nmEq at hB
          clear H HS
          go_wp2
          go_round
          case rel => exact ⟨k + 1, by omega, by go_num, HF.out⟩
          case measure => simp [intOf]; omega
        · have HF : Hid (fndF nm ts 0 = k) := by
            show _ = _
            rw [H.out, HS.out, hB]; rfl
          unfold nmEq at hB
          clear H HS
          go_wp2
          go_ret
          exact ⟨retS_int HF.out.symm, rfl⟩
      · have HF : Hid (fndF nm ts 0 = -1) := by
          show _ = _
          rw [H.out, List.drop_eq_nil_of_le (by omega)]; rfl
        go_wp2
        go_ret
        exact ⟨retS_int HF.out.symm, rfl⟩
end Go.Proofs.YtponicaflcbbeaaGreat
/-
  THE PLAIN MATHEMATICS OF WALKS: what walks come to, by sets of contexts. No Go.
-/
namespace Go.Proofs.YtponicaflcbbeaaGreat
set_option linter.unusedVariables false
abbrev Cs := Nat → Prop
abbrev En := Nat → Nat → Nat → Prop
/-- what a walk comes to: something wrong, a hole in a context, a call in a context -/
inductive Ev where
  | bad
  | use (a x : Nat)
  | call (t x : Nat)
def opS (x : Nat) : Bool := decide (x = 0 ∨ x = 15 ∨ x = 16 ∨ x = 17 ∨ x = 18 ∨ x = 19 ∨ x = 21)
def two (S : Cs) : Prop := ∃ x y, S x ∧ S y ∧ x ≠ y
def lfp (f : Cs → Cs) (S : Cs) : Cs := fun y => ∀ X : Cs, (∀ z, S z → X z) → (∀ z, f X z → X z) → X y
def tno (ts : List Tm) (nm : ByteArray) : Nat := (fndF nm ts 0).toNat
def bod (ts : List Tm) (t : Nat) : Nds := match ts[t]? with
  | some m => m.body
  | none => .nil
/-- behind a piece, but for its bodies -/
def psem (ts : List Tm) (E : En) (k : Int) (nm : ByteArray) (ft fe : Cs → Cs) (tw : Bool) (S : Cs) : Cs :=
  if k = 1 then fun y => ∃ x, S x ∧ scn x nm.data.toList = (y : Int)
  else if k = 2 then S
  else if k = 3 then fun y => ft S y ∨ (if tw = true then fe S y else S y)
  else if k = 4 then lfp ft S
  else fun y => ∃ x, S x ∧ E (tno ts nm) x y
def sem (ts : List Tm) (E : En) : Nds → Cs → Cs
  | .nil, S => S
  | .cons k a nm th el tw r, S => sem ts E r (psem ts E k nm (sem ts E th) (sem ts E el) tw S)
def pevt (ts : List Tm) (E : En) (k a : Int) (nm : ByteArray) (ft : Cs → Cs) (gt ge : Cs → Ev → Prop) (tw : Bool) (S : Cs) (e : Ev) : Prop :=
  if k = 1 then e = .bad ∧ ∃ x, S x ∧ scn x nm.data.toList = -1
  else if k = 2 then ∃ x, S x ∧ (if opS x = true then e = .use a.toNat x else e = .bad)
  else if k = 3 then gt S e ∨ (tw = true ∧ ge S e)
  else if k = 4 then gt (lfp ft S) e
  else ∃ x, S x ∧ e = .call (tno ts nm) x
def evt (ts : List Tm) (E : En) : Nds → Cs → Ev → Prop
  | .nil, S, e => e = .bad ∧ two S
  | .cons k a nm th el tw r, S, e => (e = .bad ∧ two S) ∨ pevt ts E k a nm (sem ts E th) (evt ts E th) (evt ts E el) tw S e ∨ evt ts E r (psem ts E k nm (sem ts E th) (sem ts E el) tw S) e
theorem lfp_in (f : Cs → Cs) (S : Cs) (y : Nat) (h : S y) : lfp f S y := fun X h1 _ => h1 y h
theorem lfp_mono {f g : Cs → Cs} {S T : Cs} (hf : ∀ X z, f X z → g X z) (h : ∀ z, S z → T z) (y : Nat) (k : lfp f S y) : lfp g T y :=
  fun X h1 h2 => k X (fun z hz => h1 z (h z hz)) (fun z hz => h2 z (hf X z hz))
theorem lfp_le (f : Cs → Cs) (S X : Cs) (h1 : ∀ z, S z → X z) (h2 : ∀ z, f X z → X z) (y : Nat) (h : lfp f S y) : X y := h X h1 h2
theorem lfp_step (f : Cs → Cs) (S : Cs) (hm : ∀ X Y : Cs, (∀ z, X z → Y z) → ∀ z, f X z → f Y z) (y : Nat) (h : f (lfp f S) y) : lfp f S y :=
  fun X h1 h2 => h2 y (hm _ _ (fun z hz => hz X h1 h2) y h)
theorem psem_mono {ts : List Tm} {E F : En} {k : Int} {nm : ByteArray} {ft fe gt ge : Cs → Cs} {tw : Bool} {S T : Cs} (hE : ∀ t x y, E t x y → F t x y) (h1 : ∀ X Y : Cs, (∀ z, X z → Y z) → ∀ z, ft X z → gt Y z) (h2 : ∀ X Y : Cs, (∀ z, X z → Y z) → ∀ z, fe X z → ge Y z) (h : ∀ z, S z → T z) (y : Nat)
    (k' : psem ts E k nm ft fe tw S y) : psem ts F k nm gt ge tw T y := by
  unfold psem at *
  split at k'
  · rename_i e; rw [if_pos e]
    obtain ⟨x, a, b⟩ := k'
    exact ⟨x, h x a, b⟩
  · rename_i e1; rw [if_neg e1]
    split at k'
    · rename_i e; rw [if_pos e]; exact h y k'
    · rename_i e2; rw [if_neg e2]
      split at k'
      · rename_i e; rw [if_pos e]
        rcases k' with k' | k'
        · exact .inl (h1 _ _ h y k')
        · right
          split at k'
          · rename_i e; rw [if_pos e]; exact h2 _ _ h y k'
          · rename_i e; rw [if_neg e]; exact h y k'
      · rename_i e3; rw [if_neg e3]
        split at k'
        · rename_i e; rw [if_pos e]
          exact lfp_mono (fun X z => h1 X X (fun _ q => q) z) h y k'
        · rename_i e4; rw [if_neg e4]
          obtain ⟨x, a, b⟩ := k'
          exact ⟨x, h x a, hE _ _ _ b⟩
theorem sem_mono {ts : List Tm} {E F : En} (hE : ∀ t x y, E t x y → F t x y) (b : Nds) : ∀ (S T : Cs), (∀ z, S z → T z) → ∀ y, sem ts E b S y → sem ts F b T y := by
  induction b with
  | nil => intro S T h y k; exact h y k
  | cons k a nm th el tw r iht ihe ih => intro S T h y k; exact ih _ _ (fun z hz => psem_mono hE iht ihe h z hz) y k
theorem pevt_mono {ts : List Tm} {E F : En} {k a : Int} {nm : ByteArray} {ft ft' : Cs → Cs} {gt ge gt' ge' : Cs → Ev → Prop} {tw : Bool} {S T : Cs} {e : Ev} (h0 : ∀ X Y : Cs, (∀ z, X z → Y z) → ∀ z, ft X z → ft' Y z) (h1 : ∀ X Y : Cs, (∀ z, X z → Y z) → gt X e → gt' Y e) (h2 : ∀ X Y : Cs, (∀ z, X z → Y z) → ge X e → ge' Y e) (h : ∀ z, S z → T z)
    (k' : pevt ts E k a nm ft gt ge tw S e) : pevt ts F k a nm ft' gt' ge' tw T e := by
  unfold pevt at *
  split at k'
  · rename_i q; rw [if_pos q]
    obtain ⟨q1, x, a, b⟩ := k'
    exact ⟨q1, x, h x a, b⟩
  · rename_i e1; rw [if_neg e1]
    split at k'
    · rename_i q; rw [if_pos q]
      obtain ⟨x, a, b⟩ := k'
      exact ⟨x, h x a, b⟩
    · rename_i e2; rw [if_neg e2]
      split at k'
      · rename_i q; rw [if_pos q]
        rcases k' with k' | ⟨q1, k'⟩
        · exact .inl (h1 _ _ h k')
        · exact .inr ⟨q1, h2 _ _ h k'⟩
      · rename_i e3; rw [if_neg e3]
        split at k'
        · rename_i q; rw [if_pos q]
          exact h1 _ _ (fun z hz => lfp_mono (fun X z => h0 X X (fun _ q => q) z) h z hz) k'
        · rename_i e4; rw [if_neg e4]
          obtain ⟨x, a, b⟩ := k'
          exact ⟨x, h x a, b⟩
theorem two_mono {S T : Cs} (h : ∀ z, S z → T z) (k : two S) : two T := by
  obtain ⟨x, y, a, b, c⟩ := k
  exact ⟨x, y, h x a, h y b, c⟩
theorem evt_mono {ts : List Tm} {E F : En} (hE : ∀ t x y, E t x y → F t x y) (e : Ev) (b : Nds) : ∀ (S T : Cs), (∀ z, S z → T z) → evt ts E b S e → evt ts F b T e := by
  induction b with
  | nil => intro S T h k; exact ⟨k.1, two_mono h k.2⟩
  | cons k a nm th el tw r iht ihe ih =>
    intro S T h k
    rcases k with ⟨k1, k2⟩ | k | k
    · exact .inl ⟨k1, two_mono h k2⟩
    · exact .inr (.inl (pevt_mono (sem_mono hE th) iht ihe h k))
    · exact .inr (.inr (ih _ _ (fun z hz => psem_mono hE (sem_mono hE th) (sem_mono hE el) h z hz) k))
/-! ### The truth: the least that is closed -/
def one (x : Nat) : Cs := fun y => y = x
structure Closed (ts : List Tm) (t0 : Nat) (B : Nat → Nat → Prop) (E : En) : Prop where
  start : B t0 0
  ends : ∀ t x y, B t x → sem ts E (bod ts t) (one x) y → E t x y
  calls : ∀ t x t' x', B t x → evt ts E (bod ts t) (one x) (.call t' x') → B t' x'
def Bs (ts : List Tm) (t0 : Nat) (t x : Nat) : Prop := ∀ B E, Closed ts t0 B E → B t x
def Es (ts : List Tm) (t0 : Nat) : En := fun t x y => ∀ B E, Closed ts t0 B E → E t x y
theorem Es_le {ts : List Tm} {t0 : Nat} {B : Nat → Nat → Prop} {E : En} (h : Closed ts t0 B E) (t x y : Nat) (k : Es ts t0 t x y) : E t x y := k B E h
theorem true_closed (ts : List Tm) (t0 : Nat) : Closed ts t0 (Bs ts t0) (Es ts t0) where
  start := fun B E h => h.start
  ends := fun t x y hb hs B E h => h.ends t x y (hb B E h) (sem_mono (fun t x y k => Es_le h t x y k) _ _ _ (fun _ q => q) y hs)
  calls := fun t x t' x' hb hs B E h => h.calls t x t' x' (hb B E h) (evt_mono (fun t x y k => Es_le h t x y k) _ _ _ _ (fun _ q => q) hs)
/-- what the walks that are meant come to -/
def Evs (ts : List Tm) (t0 : Nat) (e : Ev) : Prop := ∃ t x, Bs ts t0 t x ∧ evt ts (Es ts t0) (bod ts t) (one x) e
def TBad (ts : List Tm) (t0 : Nat) : Prop := Evs ts t0 .bad ∨ ∃ y, y ≠ 0 ∧ Es ts t0 t0 0 y
/-- a closed pair that is sound is the truth -/
theorem truth_of {ts : List Tm} {t0 : Nat} {B : Nat → Nat → Prop} {E : En} (h : Closed ts t0 B E) (hB : ∀ t x, B t x → Bs ts t0 t x) (hE : ∀ t x y, B t x → E t x y → Es ts t0 t x y) (e : Ev) (he : Evs ts t0 e) : ∃ t x, B t x ∧ evt ts E (bod ts t) (one x) e := by
  obtain ⟨t, x, h1, h2⟩ := he
  exact ⟨t, x, h1 B E h, evt_mono (fun t x y k => Es_le h t x y k) _ _ _ _ (fun _ q => q) h2⟩
theorem sem_none (ts : List Tm) (E : En) (b : Nds) : ∀ (S : Cs), (∀ z, ¬ S z) → ∀ y, ¬ sem ts E b S y := by
  induction b with
  | nil => intro S h y k; exact h y k
  | cons k a nm th el tw r iht ihe ih =>
    intro S h y q
    refine ih _ (fun z hz => ?_) y q
    unfold psem at hz
    split at hz
    · obtain ⟨x, a, _⟩ := hz; exact h x a
    · split at hz
      · exact h z hz
      · split at hz
        · rcases hz with hz | hz
          · exact iht S h z hz
          · split at hz
            · exact ihe S h z hz
            · exact h z hz
        · split at hz
          · exact h z (hz S (fun _ q => q) (fun w hw => absurd hw (iht S h w)))
          · obtain ⟨x, a, _⟩ := hz; exact h x a
end Go.Proofs.YtponicaflcbbeaaGreat
namespace Go.Proofs.YtponicaflcbbeaaGreat
set_option linter.unusedVariables false
/-! ### Sets of contexts as numbers -/
def manyB (m : Nat) : Bool := decide (m &&& (m - 1) ≠ 0)
def bt (m : Nat) : Cs := fun y => m.testBit y = true
theorem low_same (m y : Nat) (h : 0 < m % 2 ^ y) : (m - 1).testBit y = m.testBit y := by
  have hp : 0 < 2 ^ y := Nat.two_pow_pos y
  have e : (m - 1) / 2 ^ y = m / 2 ^ y := by
    have hd := Nat.div_add_mod m (2 ^ y)
    have hl := Nat.mod_lt m hp
    have : m - 1 = 2 ^ y * (m / 2 ^ y) + (m % 2 ^ y - 1) := by omega
    rw [this, Nat.mul_add_div hp, Nat.div_eq_of_lt (a := m % 2 ^ y - 1) (by omega), Nat.add_zero]
  rw [Nat.testBit_eq_decide_div_mod_eq, Nat.testBit_eq_decide_div_mod_eq, e]
theorem low_bit (m y : Nat) (h : 0 < m % 2 ^ y) : ∃ x, x < y ∧ m.testBit x = true := by
  have hne : m % 2 ^ y ≠ 0 := by omega
  obtain ⟨x, hx⟩ := Nat.exists_testBit_of_ne_zero hne
  rw [Nat.testBit_mod_two_pow] at hx
  simp at hx
  exact ⟨x, hx⟩
theorem many_two (m : Nat) (h : manyB m = true) : two (bt m) := by
  simp only [manyB, decide_eq_true_eq] at h
  obtain ⟨y, hy⟩ := Nat.exists_testBit_of_ne_zero h
  rw [Nat.testBit_and, Bool.and_eq_true] at hy
  obtain ⟨h1, h2⟩ := hy
  by_cases hr : 0 < m % 2 ^ y
  · obtain ⟨x, hx, hb⟩ := low_bit m y hr
    exact ⟨x, y, hb, h1, by omega⟩
  · exfalso
    have hp : 0 < 2 ^ y := Nat.two_pow_pos y
    have hd := Nat.div_add_mod m (2 ^ y)
    rw [Nat.testBit_eq_decide_div_mod_eq, decide_eq_true_eq] at h1 h2
    have hq : 0 < m / 2 ^ y := by
      rcases Nat.eq_zero_or_pos (m / 2 ^ y) with e | e
      · rw [e] at h1; simp at h1
      · exact e
    obtain ⟨q, hq'⟩ : ∃ q, m / 2 ^ y = q + 1 := ⟨m / 2 ^ y - 1, by omega⟩
    have hm : m = 2 ^ y * q + 2 ^ y := by rw [hq'] at hd; rw [Nat.mul_add] at hd; omega
    have : (m - 1) / 2 ^ y = q := by
      have : m - 1 = 2 ^ y * q + (2 ^ y - 1) := by omega
      rw [this, Nat.mul_add_div hp, Nat.div_eq_of_lt (a := 2 ^ y - 1) (by omega), Nat.add_zero]
    rw [this] at h2; rw [hq'] at h1; omega
theorem two_many (m : Nat) (h : two (bt m)) : manyB m = true := by
  have key : ∀ x y, x < y → m.testBit x = true → m.testBit y = true → manyB m = true := by
    intro x y hxy hx hy
    have hr : 0 < m % 2 ^ y := by
      apply Nat.pos_of_ne_zero
      intro e
      have := Nat.testBit_mod_two_pow m y x
      rw [e, hx] at this
      simp at this; omega
    simp only [manyB, decide_eq_true_eq]
    intro e
    have : (m &&& (m - 1)).testBit y = true := by rw [Nat.testBit_and, low_same m y hr, hy]; rfl
    rw [e] at this; simp at this
  obtain ⟨x, y, hx, hy, hne⟩ := h
  rcases Nat.lt_or_gt_of_ne hne with h | h
  · exact key x y h hx hy
  · exact key y x h hy hx
theorem bt_lt (m x : Nat) (h : m < 2 ^ 24) (hx : bt m x) : x < 24 := by
  apply Decidable.byContradiction
  intro hn
  have : m.testBit x = false := Nat.testBit_lt_two_pow (Nat.lt_of_lt_of_le h (Nat.pow_le_pow_right (by decide) (by omega)))
  rw [bt, this] at hx; cases hx
theorem bt_or (a b y : Nat) : bt (a ||| b) y ↔ bt a y ∨ bt b y := by simp [bt, Nat.testBit_or]
theorem bt_pow (a y : Nat) : bt (2 ^ a) y ↔ y = a := by simp [bt, Nat.testBit_two_pow]; omega
theorem bt_zero (y : Nat) : ¬ bt 0 y := by simp [bt]
theorem or_lt24 {a b : Nat} (ha : a < 2 ^ 24) (hb : b < 2 ^ 24) : a ||| b < 2 ^ 24 := Nat.or_lt_two_pow ha hb
/-! ### The reference's state, and what its functions do -/
structure RS where
  beg : Nat → Bool
  en : Nat → Nat
  used : Nat → Bool
  wrong : Bool
  new : Bool
def upd (f : Nat → Bool) (k : Nat) : Nat → Bool := fun j => if j = k then true else f j
theorem upd_at (f : Nat → Bool) (k : Nat) : upd f k k = true := by simp [upd]
theorem upd_mono (f : Nat → Bool) (k j : Nat) (h : f j = true) : upd f k j = true := by unfold upd; split <;> simp_all
def placeR (m : Nat) (st : RS) : RS := { st with wrong := st.wrong || manyB m }
def tOut (l : List UInt8) (m : Nat) : Nat → Nat
  | 0 => 0
  | k + 1 => if m.testBit k = true ∧ scn k l ≠ -1 then tOut l m k ||| 2 ^ (scn k l).toNat else tOut l m k
def tBad (l : List UInt8) (m : Nat) : Nat → Bool
  | 0 => false
  | k + 1 => tBad l m k || (m.testBit k && decide (scn k l = -1))
def hBad (m : Nat) : Nat → Bool
  | 0 => false
  | k + 1 => hBad m k || (m.testBit k && !opS k)
def hUse (a m : Nat) (f : Nat → Bool) : Nat → Nat → Bool
  | 0 => f
  | k + 1 => if m.testBit k = true ∧ opS k = true then upd (hUse a m f k) (a * 24 + k) else hUse a m f k
def cOut (t m : Nat) (en : Nat → Nat) : Nat → Nat
  | 0 => 0
  | k + 1 => if m.testBit k = true then cOut t m en k ||| en (t * 24 + k) else cOut t m en k
def cBeg (t m : Nat) (f : Nat → Bool) : Nat → Nat → Bool
  | 0 => f
  | k + 1 => if m.testBit k = true then upd (cBeg t m f k) (t * 24 + k) else cBeg t m f k
def cNew (t m : Nat) (f : Nat → Bool) (n : Bool) : Nat → Bool
  | 0 => n
  | k + 1 => cNew t m f n k || (m.testBit k && !f (t * 24 + k))
theorem tOut_iff (l : List UInt8) (m k y : Nat) : bt (tOut l m k) y ↔ ∃ x, x < k ∧ bt m x ∧ scn x l = (y : Int) := by
  induction k with
  | zero => simp [tOut, bt]
  | succ k ih =>
    have hr := scn_range k l
    simp only [tOut]
    split
    · rename_i h
      rw [bt_or, ih, bt_pow]
      constructor
      · rintro (⟨x, h1, h2, h3⟩ | h1)
        · exact ⟨x, by omega, h2, h3⟩
        · exact ⟨k, by omega, h.1, by omega⟩
      · rintro ⟨x, h1, h2, h3⟩
        by_cases e : x = k
        · subst e; right; omega
        · exact .inl ⟨x, by omega, h2, h3⟩
    · rename_i h
      rw [ih]
      constructor
      · rintro ⟨x, h1, h2, h3⟩; exact ⟨x, by omega, h2, h3⟩
      · rintro ⟨x, h1, h2, h3⟩
        by_cases e : x = k
        · subst e; exact absurd ⟨h2, by omega⟩ h
        · exact ⟨x, by omega, h2, h3⟩
theorem tOut_lt (l : List UInt8) (m k : Nat) : tOut l m k < 2 ^ 24 := by
  induction k with
  | zero => simp [tOut]
  | succ k ih =>
    simp only [tOut]
    split
    · refine or_lt24 ih (Nat.pow_lt_pow_right (by decide) ?_)
      have := scn_range k l
      omega
    · exact ih
theorem tBad_iff (l : List UInt8) (m k : Nat) : tBad l m k = true ↔ ∃ x, x < k ∧ bt m x ∧ scn x l = -1 := by
  induction k with
  | zero => simp [tBad]
  | succ k ih =>
    simp only [tBad, Bool.or_eq_true, Bool.and_eq_true, decide_eq_true_eq, ih]
    constructor
    · rintro (⟨x, h1, h2, h3⟩ | ⟨h1, h2⟩)
      · exact ⟨x, by omega, h2, h3⟩
      · exact ⟨k, by omega, h1, h2⟩
    · rintro ⟨x, h1, h2, h3⟩
      by_cases e : x = k
      · subst e; exact .inr ⟨h2, h3⟩
      · exact .inl ⟨x, by omega, h2, h3⟩
theorem hBad_iff (m k : Nat) : hBad m k = true ↔ ∃ x, x < k ∧ bt m x ∧ opS x = false := by
  induction k with
  | zero => simp [hBad]
  | succ k ih =>
    simp only [hBad, Bool.or_eq_true, Bool.and_eq_true, Bool.not_eq_true', ih]
    constructor
    · rintro (⟨x, h1, h2, h3⟩ | ⟨h1, h2⟩)
      · exact ⟨x, by omega, h2, h3⟩
      · exact ⟨k, by omega, h1, h2⟩
    · rintro ⟨x, h1, h2, h3⟩
      by_cases e : x = k
      · subst e; exact .inr ⟨h2, h3⟩
      · exact .inl ⟨x, by omega, h2, h3⟩
theorem hUse_iff (a m : Nat) (f : Nat → Bool) (k j : Nat) : hUse a m f k j = true ↔ f j = true ∨ ∃ x, x < k ∧ bt m x ∧ opS x = true ∧ j = a * 24 + x := by
  induction k with
  | zero => simp [hUse]
  | succ k ih =>
    simp only [hUse]
    split
    · rename_i h
      unfold upd
      split
      · rename_i e
        simp only [true_iff]
        exact .inr ⟨k, by omega, h.1, h.2, e⟩
      · rename_i e
        rw [ih]
        constructor
        · rintro (h1 | ⟨x, h1, h2, h3, h4⟩)
          · exact .inl h1
          · exact .inr ⟨x, by omega, h2, h3, h4⟩
        · rintro (h1 | ⟨x, h1, h2, h3, h4⟩)
          · exact .inl h1
          · by_cases e2 : x = k
            · subst e2; exact absurd h4 e
            · exact .inr ⟨x, by omega, h2, h3, h4⟩
    · rename_i h
      rw [ih]
      constructor
      · rintro (h1 | ⟨x, h1, h2, h3, h4⟩)
        · exact .inl h1
        · exact .inr ⟨x, by omega, h2, h3, h4⟩
      · rintro (h1 | ⟨x, h1, h2, h3, h4⟩)
        · exact .inl h1
        · by_cases e2 : x = k
          · subst e2; exact absurd ⟨h2, h3⟩ h
          · exact .inr ⟨x, by omega, h2, h3, h4⟩
theorem cOut_iff (t m : Nat) (en : Nat → Nat) (k y : Nat) : bt (cOut t m en k) y ↔ ∃ x, x < k ∧ bt m x ∧ bt (en (t * 24 + x)) y := by
  induction k with
  | zero => simp [cOut, bt]
  | succ k ih =>
    simp only [cOut]
    split
    · rename_i h
      rw [bt_or, ih]
      constructor
      · rintro (⟨x, h1, h2, h3⟩ | h1)
        · exact ⟨x, by omega, h2, h3⟩
        · exact ⟨k, by omega, h, h1⟩
      · rintro ⟨x, h1, h2, h3⟩
        by_cases e : x = k
        · subst e; exact .inr h3
        · exact .inl ⟨x, by omega, h2, h3⟩
    · rename_i h
      rw [ih]
      constructor
      · rintro ⟨x, h1, h2, h3⟩; exact ⟨x, by omega, h2, h3⟩
      · rintro ⟨x, h1, h2, h3⟩
        by_cases e : x = k
        · subst e; exact absurd h2 h
        · exact ⟨x, by omega, h2, h3⟩
theorem cOut_lt (t m : Nat) (en : Nat → Nat) (h : ∀ j, en j < 2 ^ 24) (k : Nat) : cOut t m en k < 2 ^ 24 := by
  induction k with
  | zero => simp [cOut]
  | succ k ih =>
    simp only [cOut]
    split
    · exact or_lt24 ih (h _)
    · exact ih
theorem cBeg_iff (t m : Nat) (f : Nat → Bool) (k j : Nat) : cBeg t m f k j = true ↔ f j = true ∨ ∃ x, x < k ∧ bt m x ∧ j = t * 24 + x := by
  induction k with
  | zero => simp [cBeg]
  | succ k ih =>
    simp only [cBeg]
    split
    · rename_i h
      unfold upd
      split
      · rename_i e
        simp only [true_iff]
        exact .inr ⟨k, by omega, h, e⟩
      · rename_i e
        rw [ih]
        constructor
        · rintro (h1 | ⟨x, h1, h2, h4⟩)
          · exact .inl h1
          · exact .inr ⟨x, by omega, h2, h4⟩
        · rintro (h1 | ⟨x, h1, h2, h4⟩)
          · exact .inl h1
          · by_cases e2 : x = k
            · subst e2; exact absurd h4 e
            · exact .inr ⟨x, by omega, h2, h4⟩
    · rename_i h
      rw [ih]
      constructor
      · rintro (h1 | ⟨x, h1, h2, h4⟩)
        · exact .inl h1
        · exact .inr ⟨x, by omega, h2, h4⟩
      · rintro (h1 | ⟨x, h1, h2, h4⟩)
        · exact .inl h1
        · by_cases e2 : x = k
          · subst e2; exact absurd h2 h
          · exact .inr ⟨x, by omega, h2, h4⟩
theorem cNew_no (t m : Nat) (f : Nat → Bool) (n : Bool) (k : Nat) (h : cNew t m f n k = false) : n = false ∧ ∀ x, x < k → bt m x → f (t * 24 + x) = true := by
  induction k with
  | zero => exact ⟨h, fun x hx => absurd hx (by omega)⟩
  | succ k ih =>
    simp only [cNew, Bool.or_eq_false_iff] at h
    obtain ⟨h1, h2⟩ := ih h.1
    refine ⟨h1, fun x hx hm => ?_⟩
    by_cases e : x = k
    · subst e
      have := h.2
      rw [bt] at hm
      simpa [hm] using this
    · exact h2 x (by omega) hm
theorem cNew_mono (t m : Nat) (f : Nat → Bool) (k : Nat) : cNew t m f true k = true := by
  induction k with
  | zero => rfl
  | succ k ih => simp [cNew, ih]
/-! ### Runs of the reference through a body -/
inductive Job where
  | thr (b : Nds)
  | pce (k a : Int) (nm : ByteArray) (th el : Nds) (tw : Bool)
  | lps (th : Nds)
inductive Run (ts : List Tm) : Job → Nat → RS → Nat → RS → Prop where
  | nil {m : Nat} {st : RS} : Run ts (.thr .nil) m st m (placeR m st)
  | cons {k a : Int} {nm : ByteArray} {th el r : Nds} {tw : Bool} {m m1 m2 : Nat} {st st1 st2 : RS} (h : Run ts (.pce k a nm th el tw) m (placeR m st) m1 st1) (h' : Run ts (.thr r) m1 st1 m2 st2) : Run ts (.thr (.cons k a nm th el tw r)) m st m2 st2
  | text {a : Int} {nm : ByteArray} {th el : Nds} {tw : Bool} {m : Nat} {st : RS} : Run ts (.pce 1 a nm th el tw) m st (tOut nm.data.toList m 24) { st with wrong := st.wrong || tBad nm.data.toList m 24 }
  | hole {a : Int} {nm : ByteArray} {th el : Nds} {tw : Bool} {m : Nat} {st : RS} : Run ts (.pce 2 a nm th el tw) m st m { st with wrong := st.wrong || hBad m 24, used := hUse a.toNat m st.used 24 }
  | one {a : Int} {nm : ByteArray} {th el : Nds} {m f : Nat} {st st1 : RS} (h : Run ts (.thr th) m st f st1) : Run ts (.pce 3 a nm th el false) m st (f ||| m) st1
  | two {a : Int} {nm : ByteArray} {th el : Nds} {m f g : Nat} {st st1 st2 : RS} (h : Run ts (.thr th) m st f st1) (h' : Run ts (.thr el) m st1 g st2) : Run ts (.pce 3 a nm th el true) m st (f ||| g) st2
  | loop {a : Int} {nm : ByteArray} {th el : Nds} {tw : Bool} {m o : Nat} {st st1 : RS} (h : Run ts (.lps th) m st o st1) : Run ts (.pce 4 a nm th el tw) m st o st1
  | call {a : Int} {nm : ByteArray} {th el : Nds} {tw : Bool} {m : Nat} {st : RS} : Run ts (.pce 5 a nm th el tw) m st (cOut (tno ts nm) m st.en 24) { st with beg := cBeg (tno ts nm) m st.beg 24, new := cNew (tno ts nm) m st.beg st.new 24 }
  | stop {th : Nds} {m e : Nat} {st st1 : RS} (h : Run ts (.thr th) m st e st1) (hs : st1.wrong = true ∨ m ||| e = m) : Run ts (.lps th) m st (m ||| e) st1
  | more {th : Nds} {m e o : Nat} {st st1 st2 : RS} (h : Run ts (.thr th) m st e st1) (h' : Run ts (.lps th) (m ||| e) st1 o st2) : Run ts (.lps th) m st o st2
end Go.Proofs.YtponicaflcbbeaaGreat
namespace Go.Proofs.YtponicaflcbbeaaGreat
set_option linter.unusedVariables false
/-! ### What the reference finds is true -/
structure Snd (ts : List Tm) (t0 : Nat) (st : RS) : Prop where
  beg : ∀ t x, x < 24 → st.beg (t * 24 + x) = true → Bs ts t0 t x
  en : ∀ t x y, x < 24 → bt (st.en (t * 24 + x)) y → Es ts t0 t x y
  used : ∀ a x, x < 24 → st.used (a * 24 + x) = true → Evs ts t0 (.use a x)
  wrong : st.wrong = true → TBad ts t0
  size : ∀ j, st.en j < 2 ^ 24
theorem key_eq {t x t' x' : Nat} (hx : x < 24) (hx' : x' < 24) (h : t * 24 + x = t' * 24 + x') : t = t' ∧ x = x' := by omega
def jevt (ts : List Tm) (E : En) : Job → Cs → Ev → Prop
  | .thr b, S, e => evt ts E b S e
  | .pce k a nm th el tw, S, e => pevt ts E k a nm (sem ts E th) (evt ts E th) (evt ts E el) tw S e
  | .lps th, S, e => evt ts E th S e
def jsem (ts : List Tm) (E : En) : Job → Cs → Cs
  | .thr b, S => sem ts E b S
  | .pce k a nm th el tw, S => psem ts E k nm (sem ts E th) (sem ts E el) tw S
  | .lps th, S => S
def jcl (ts : List Tm) (E : En) : Job → Cs → Prop
  | .lps th, S => ∀ z, sem ts E th S z → S z
  | _, _ => True
theorem Snd.wr {ts : List Tm} {t0 : Nat} {st : RS} (h : Snd ts t0 st) (b : Bool) (hb : b = true → TBad ts t0) : Snd ts t0 { st with wrong := st.wrong || b } :=
  ⟨h.beg, h.en, h.used, fun k => by
    rcases Bool.or_eq_true_iff.1 k with k | k
    · exact h.wrong k
    · exact hb k, h.size⟩
theorem run_sound {ts : List Tm} {t0 : Nat} {j : Job} {m o : Nat} {st st' : RS} (h : Run ts j m st o st') : m < 2 ^ 24 → ∀ S : Cs, (∀ y, bt m y → S y) → (∀ e, jevt ts (Es ts t0) j S e → Evs ts t0 e) → jcl ts (Es ts t0) j S → Snd ts t0 st →
    Snd ts t0 st' ∧ o < 2 ^ 24 ∧ ∀ y, bt o y → jsem ts (Es ts t0) j S y := by
  induction h with
  | @nil m st =>
    intro hm S hS hE _ hs
    refine ⟨hs.wr _ (fun hb => .inl (hE _ ⟨rfl, two_mono hS (many_two m hb)⟩)), hm, hS⟩
  | @cons k a nm th el r tw m m1 m2 st st1 st2 h h' ih ih' =>
    intro hm S hS hE _ hs
    have s0 : Snd ts t0 (placeR m st) := hs.wr _ (fun hb => .inl (hE _ (.inl ⟨rfl, two_mono hS (many_two m hb)⟩)))
    obtain ⟨s1, hm1, k1⟩ := ih hm S hS (fun e he => hE e (.inr (.inl he))) trivial s0
    exact ih' hm1 _ k1 (fun e he => hE e (.inr (.inr he))) trivial s1
  | @text a nm th el tw m st =>
    intro hm S hS hE _ hs
    refine ⟨hs.wr _ (fun hb => ?_), tOut_lt _ _ _, fun y hy => ?_⟩
    · obtain ⟨x, _, h2, h3⟩ := (tBad_iff _ _ _).1 hb
      exact .inl (hE .bad ⟨rfl, x, hS x h2, h3⟩)
    · obtain ⟨x, _, h2, h3⟩ := (tOut_iff _ _ _ _).1 hy
      exact ⟨x, hS x h2, h3⟩
  | @hole a nm th el tw m st =>
    intro hm S hS hE _ hs
    have hE' : ∀ e x, S x → (if opS x = true then e = .use a.toNat x else e = .bad) → Evs ts t0 e := fun e x h1 h2 => hE e ⟨x, h1, h2⟩
    refine ⟨⟨hs.beg, hs.en, fun a' x hx hu => ?_, fun k => ?_, hs.size⟩, hm, hS⟩
    · rcases (hUse_iff _ _ _ _ _).1 hu with h | ⟨x', h1, h2, h3, h4⟩
      · exact hs.used a' x hx h
      · obtain ⟨rfl, rfl⟩ := key_eq hx h1 h4
        exact hE' _ x (hS x h2) (by rw [if_pos h3])
    · rcases Bool.or_eq_true_iff.1 k with k | k
      · exact hs.wrong k
      · obtain ⟨x, _, h2, h3⟩ := (hBad_iff _ _).1 k
        exact .inl (hE' .bad x (hS x h2) (by rw [if_neg (by rw [h3]; decide)]))
  | @one a nm th el m f st st1 h ih =>
    intro hm S hS hE _ hs
    obtain ⟨s1, h1, k1⟩ := ih hm S hS (fun e he => hE e (.inl he)) trivial hs
    refine ⟨s1, or_lt24 h1 hm, fun y hy => ?_⟩
    rcases (bt_or _ _ _).1 hy with h | h
    · exact .inl (k1 y h)
    · exact .inr (hS y h)
  | @two a nm th el m f g st st1 st2 h h' ih ih' =>
    intro hm S hS hE _ hs
    obtain ⟨s1, h1, k1⟩ := ih hm S hS (fun e he => hE e (.inl he)) trivial hs
    obtain ⟨s2, h2, k2⟩ := ih' hm S hS (fun e he => hE e (.inr ⟨rfl, he⟩)) trivial s1
    refine ⟨s2, or_lt24 h1 h2, fun y hy => ?_⟩
    rcases (bt_or _ _ _).1 hy with h | h
    · exact .inl (k1 y h)
    · exact .inr (k2 y h)
  | @loop a nm th el tw m o st st1 h ih =>
    intro hm S hS hE _ hs
    exact ih hm (lfp (sem ts (Es ts t0) th) S) (fun y hy => lfp_in _ _ _ (hS y hy)) hE
      (fun z hz => lfp_step _ _ (sem_mono (fun _ _ _ q => q) th) z hz) hs
  | @call a nm th el tw m st =>
    intro hm S hS hE _ hs
    have hE' : ∀ x, S x → Evs ts t0 (.call (tno ts nm) x) := fun x h1 => hE _ ⟨x, h1, rfl⟩
    refine ⟨⟨fun t x hx hb => ?_, hs.en, hs.used, hs.wrong, hs.size⟩, cOut_lt _ _ _ hs.size _, fun y hy => ?_⟩
    · rcases (cBeg_iff _ _ _ _ _).1 hb with h | ⟨x', h1, h2, h3⟩
      · exact hs.beg t x hx h
      · obtain ⟨rfl, rfl⟩ := key_eq hx h1 h3
        obtain ⟨t1, x1, q1, q2⟩ := hE' x (hS x h2)
        exact (true_closed ts t0).calls t1 x1 _ _ q1 q2
    · obtain ⟨x, h1, h2, h3⟩ := (cOut_iff _ _ _ _ _).1 hy
      exact ⟨x, hS x h2, hs.en _ _ _ h1 h3⟩
  | @stop th m e st st1 h hs' ih =>
    intro hm S hS hE hcl hs
    obtain ⟨s1, h1, k1⟩ := ih hm S hS hE trivial hs
    refine ⟨s1, or_lt24 hm h1, fun y hy => ?_⟩
    rcases (bt_or _ _ _).1 hy with h | h
    · exact hS y h
    · exact hcl y (k1 y h)
  | @more th m e o st st1 st2 h h' ih ih' =>
    intro hm S hS hE hcl hs
    obtain ⟨s1, h1, k1⟩ := ih hm S hS hE trivial hs
    refine ih' (or_lt24 hm h1) S (fun y hy => ?_) hE hcl s1
    rcases (bt_or _ _ _).1 hy with h | h
    · exact hS y h
    · exact hcl y (k1 y h)
/-! ### What it does not find is not there -/
theorem run_flags {ts : List Tm} {j : Job} {m o : Nat} {st st' : RS} (h : Run ts j m st o st') : (st'.wrong = false → st.wrong = false) ∧ (st'.new = false → st.new = false ∧ st'.beg = st.beg) ∧ st'.en = st.en ∧ (∀ k, st.used k = true → st'.used k = true) ∧ (∀ k, st.beg k = true → st'.beg k = true) := by
  induction h with
  | nil => exact ⟨fun h => (Bool.or_eq_false_iff.1 h).1, fun h => ⟨h, rfl⟩, rfl, fun _ h => h, fun _ h => h⟩
  | cons h h' ih ih' =>
    obtain ⟨a1, a2, a3, a4, a5⟩ := ih
    obtain ⟨b1, b2, b3, b4, b5⟩ := ih'
    refine ⟨fun h => (Bool.or_eq_false_iff.1 (a1 (b1 h))).1, fun h => ⟨(a2 (b2 h).1).1, (b2 h).2.trans (a2 (b2 h).1).2⟩, b3.trans a3, fun k h => b4 k (a4 k h), fun k h => b5 k (a5 k h)⟩
  | text => exact ⟨fun h => (Bool.or_eq_false_iff.1 h).1, fun h => ⟨h, rfl⟩, rfl, fun _ h => h, fun _ h => h⟩
  | hole => exact ⟨fun h => (Bool.or_eq_false_iff.1 h).1, fun h => ⟨h, rfl⟩, rfl, fun k h => (hUse_iff _ _ _ _ _).2 (.inl h), fun _ h => h⟩
  | one h ih => exact ih
  | two h h' ih ih' =>
    obtain ⟨a1, a2, a3, a4, a5⟩ := ih
    obtain ⟨b1, b2, b3, b4, b5⟩ := ih'
    exact ⟨fun h => a1 (b1 h), fun h => ⟨(a2 (b2 h).1).1, (b2 h).2.trans (a2 (b2 h).1).2⟩, b3.trans a3, fun k h => b4 k (a4 k h), fun k h => b5 k (a5 k h)⟩
  | loop h ih => exact ih
  | @call a nm th el tw m st =>
    refine ⟨fun h => h, fun h => ?_, rfl, fun _ h => h, fun k h => (cBeg_iff _ _ _ _ _).2 (.inl h)⟩
    obtain ⟨h1, h2⟩ := cNew_no _ _ _ _ _ h
    refine ⟨h1, ?_⟩
    funext k
    show cBeg (tno ts nm) m st.beg 24 k = st.beg k
    rw [Bool.eq_iff_iff, cBeg_iff]
    constructor
    · rintro (h | ⟨x, q1, q2, rfl⟩)
      · exact h
      · exact h2 x q1 q2
    · exact .inl
  | stop h hs ih => exact ih
  | more h h' ih ih' =>
    obtain ⟨a1, a2, a3, a4, a5⟩ := ih
    obtain ⟨b1, b2, b3, b4, b5⟩ := ih'
    exact ⟨fun h => a1 (b1 h), fun h => ⟨(a2 (b2 h).1).1, (b2 h).2.trans (a2 (b2 h).1).2⟩, b3.trans a3, fun k h => b4 k (a4 k h), fun k h => b5 k (a5 k h)⟩
def enE (st : RS) : En := fun t x y => x < 24 ∧ bt (st.en (t * 24 + x)) y
def Rec (st : RS) : Ev → Prop
  | .bad => False
  | .use a x => x < 24 ∧ st.used (a * 24 + x) = true
  | .call t x => x < 24 ∧ st.beg (t * 24 + x) = true
theorem Rec.mono {st st' : RS} (h1 : ∀ k, st.used k = true → st'.used k = true) (h2 : ∀ k, st.beg k = true → st'.beg k = true) (e : Ev) (h : Rec st e) : Rec st' e := by
  cases e with
  | bad => exact h
  | use a x => exact ⟨h.1, h1 _ h.2⟩
  | call t x => exact ⟨h.1, h2 _ h.2⟩
def jsemL (ts : List Tm) (E : En) : Job → Cs → Cs
  | .thr b, S => sem ts E b S
  | .pce k a nm th el tw, S => psem ts E k nm (sem ts E th) (sem ts E el) tw S
  | .lps th, S => lfp (sem ts E th) S
def jevtL (ts : List Tm) (E : En) : Job → Cs → Ev → Prop
  | .thr b, S, e => evt ts E b S e
  | .pce k a nm th el tw, S, e => pevt ts E k a nm (sem ts E th) (evt ts E th) (evt ts E el) tw S e
  | .lps th, S, e => evt ts E th (lfp (sem ts E th) S) e
theorem run_full {ts : List Tm} {j : Job} {m o : Nat} {st st' : RS} (h : Run ts j m st o st') : m < 2 ^ 24 → (∀ k, st.en k < 2 ^ 24) → st'.wrong = false → st'.new = false → ∀ E : En, E = enE st →
    o < 2 ^ 24 ∧ (∀ y, jsemL ts E j (bt m) y → bt o y) ∧ (∀ e, jevtL ts E j (bt m) e → Rec st' e) := by
  induction h with
  | @nil m st =>
    intro hm hz hw hn E hE
    refine ⟨hm, fun y h => h, fun e h => ?_⟩
    obtain ⟨rfl, h⟩ := h
    have := (Bool.or_eq_false_iff.1 hw).2
    rw [two_many m h] at this; cases this
  | @cons k a nm th el r tw m m1 m2 st st1 st2 h h' ih ih' =>
    intro hm hz hw hn E hE
    obtain ⟨a1, a2, a3, a4, a5⟩ := run_flags h
    obtain ⟨b1, b2, b3, b4, b5⟩ := run_flags h'
    obtain ⟨hm1, k1, k2⟩ := ih hm hz (b1 hw) (b2 hn).1 E hE
    have hE' : E = enE st1 := by rw [hE]; unfold enE; rw [a3]; rfl
    obtain ⟨hm2, l1, l2⟩ := ih' hm1 (by rw [a3]; exact hz) hw hn E hE'
    refine ⟨hm2, fun y hy => ?_, fun e he => ?_⟩
    · exact l1 y (sem_mono (fun _ _ _ q => q) r _ _ k1 y hy)
    · rcases he with ⟨rfl, h⟩ | he | he
      · have := (Bool.or_eq_false_iff.1 (a1 (b1 hw))).2
        rw [two_many m h] at this; cases this
      · exact (k2 e he).mono b4 b5
      · exact l2 e (evt_mono (fun _ _ _ q => q) e r _ _ k1 he)
  | @text a nm th el tw m st =>
    intro hm hz hw hn E hE
    refine ⟨tOut_lt _ _ _, fun y hy => ?_, fun e he => ?_⟩
    · obtain ⟨x, h1, h2⟩ := hy
      exact (tOut_iff _ _ _ _).2 ⟨x, bt_lt m x hm h1, h1, h2⟩
    · obtain ⟨rfl, x, h1, h2⟩ := he
      have := (Bool.or_eq_false_iff.1 hw).2
      rw [(tBad_iff _ _ _).2 ⟨x, bt_lt m x hm h1, h1, h2⟩] at this; cases this
  | @hole a nm th el tw m st =>
    intro hm hz hw hn E hE
    refine ⟨hm, fun y h => h, fun e he => ?_⟩
    obtain ⟨x, h1, h2⟩ := he
    have hx := bt_lt m x hm h1
    split at h2
    · rename_i ho
      subst h2
      exact ⟨hx, (hUse_iff _ _ _ _ _).2 (.inr ⟨x, hx, h1, ho, rfl⟩)⟩
    · rename_i ho
      have := (Bool.or_eq_false_iff.1 hw).2
      rw [(hBad_iff _ _).2 ⟨x, hx, h1, by simpa using ho⟩] at this; cases this
  | @one a nm th el m f st st1 h ih =>
    intro hm hz hw hn E hE
    obtain ⟨h1, k1, k2⟩ := ih hm hz hw hn E hE
    refine ⟨or_lt24 h1 hm, fun y hy => ?_, fun e he => ?_⟩
    · rcases hy with hy | hy
      · exact (bt_or _ _ _).2 (.inl (k1 y hy))
      · exact (bt_or _ _ _).2 (.inr hy)
    · rcases he with he | ⟨he, _⟩
      · exact k2 e he
      · cases he
  | @two a nm th el m f g st st1 st2 h h' ih ih' =>
    intro hm hz hw hn E hE
    obtain ⟨a1, a2, a3, a4, a5⟩ := run_flags h
    obtain ⟨b1, b2, b3, b4, b5⟩ := run_flags h'
    obtain ⟨h1, k1, k2⟩ := ih hm hz (b1 hw) (b2 hn).1 E hE
    have hE' : E = enE st1 := by rw [hE]; unfold enE; rw [a3]
    obtain ⟨h2, l1, l2⟩ := ih' hm (by rw [a3]; exact hz) hw hn E hE'
    refine ⟨or_lt24 h1 h2, fun y hy => ?_, fun e he => ?_⟩
    · rcases hy with hy | hy
      · exact (bt_or _ _ _).2 (.inl (k1 y hy))
      · exact (bt_or _ _ _).2 (.inr (l1 y hy))
    · rcases he with he | ⟨_, he⟩
      · exact (k2 e he).mono b4 b5
      · exact l2 e he
  | @loop a nm th el tw m o st st1 h ih => intro hm hz hw hn E hE; exact ih hm hz hw hn E hE
  | @call a nm th el tw m st =>
    intro hm hz hw hn E hE
    refine ⟨cOut_lt _ _ _ hz _, fun y hy => ?_, fun e he => ?_⟩
    · obtain ⟨x, h1, h2⟩ := hy
      rw [hE] at h2
      exact (cOut_iff _ _ _ _ _).2 ⟨x, h2.1, h1, h2.2⟩
    · obtain ⟨x, h1, rfl⟩ := he
      have hx := bt_lt m x hm h1
      exact ⟨hx, (cBeg_iff _ _ _ _ _).2 (.inr ⟨x, hx, h1, rfl⟩)⟩
  | @stop th m e st st1 h hs' ih =>
    intro hm hz hw hn E hE
    obtain ⟨h1, k1, k2⟩ := ih hm hz hw hn E hE
    have heq : m ||| e = m := by
      rcases hs' with h | h
      · rw [hw] at h; cases h
      · exact h
    have hle : ∀ y, lfp (sem ts E th) (bt m) y → bt m y := fun y hy => lfp_le _ _ (bt m) (fun _ q => q) (fun z hz' => by
      have := (bt_or m e z).2 (.inr (k1 z hz'))
      rwa [heq] at this) y hy
    refine ⟨or_lt24 hm h1, fun y hy => (bt_or _ _ _).2 (.inl (hle y hy)), fun ev he => ?_⟩
    exact k2 ev (evt_mono (fun _ _ _ q => q) ev th _ _ hle he)
  | @more th m e o st st1 st2 h h' ih ih' =>
    intro hm hz hw hn E hE
    obtain ⟨a1, a2, a3, a4, a5⟩ := run_flags h
    obtain ⟨b1, b2, b3, b4, b5⟩ := run_flags h'
    obtain ⟨h1, k1, k2⟩ := ih hm hz (b1 hw) (b2 hn).1 E hE
    have hE' : E = enE st1 := by rw [hE]; unfold enE; rw [a3]
    obtain ⟨h2, l1, l2⟩ := ih' (or_lt24 hm h1) (by rw [a3]; exact hz) hw hn E hE'
    have hle : ∀ y, lfp (sem ts E th) (bt m) y → lfp (sem ts E th) (bt (m ||| e)) y := fun y hy => lfp_mono (fun _ _ q => q) (fun z hz' => (bt_or _ _ _).2 (.inl hz')) y hy
    refine ⟨h2, fun y hy => l1 y (hle y hy), fun ev he => ?_⟩
    exact l2 ev (evt_mono (fun _ _ _ q => q) ev th _ _ hle he)
end Go.Proofs.YtponicaflcbbeaaGreat
