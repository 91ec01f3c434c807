import Derived.Test.YtffkejkgkgfnhabGreatG08
import Derived.Test.YtffkejkgkgfnhabGreatG05
namespace Go.Proofs.YtffkejkgkgfnhabGreat
set_option linter.unusedVariables false
def updN (f : Nat → Nat) (k v : Nat) : Nat → Nat := fun j => if j = k then v else f j
/-- a round, up to key k -/
inductive Rnd (ts : List Tm) (st0 : RS) : Nat → RS → Prop where
  | zero : Rnd ts st0 0 st0
  | skip {k : Nat} {st : RS} (h : Rnd ts st0 k st) (hb : st.beg k = false) : Rnd ts st0 (k + 1) st
  | same {k e : Nat} {st st1 : RS} (h : Rnd ts st0 k st) (hb : st.beg k = true) (hr : Run ts (.thr (bod ts (k / 24))) (2 ^ (k % 24)) st e st1) (hs : e ||| st1.en k = st1.en k) : Rnd ts st0 (k + 1) st1
  | grow {k e : Nat} {st st1 : RS} (h : Rnd ts st0 k st) (hb : st.beg k = true) (hr : Run ts (.thr (bod ts (k / 24))) (2 ^ (k % 24)) st e st1) (hs : e ||| st1.en k ≠ st1.en k) :
      Rnd ts st0 (k + 1) { st1 with en := updN st1.en k (st1.en k ||| e), new := true }
theorem pow_lt24 (k : Nat) : 2 ^ (k % 24) < 2 ^ 24 := Nat.pow_lt_pow_right (by decide) (Nat.mod_lt _ (by decide))
theorem bt_pow_one (x y : Nat) (h : bt (2 ^ x) y) : one x y := (bt_pow x y).1 h
theorem one_bt_pow (x y : Nat) (h : one x y) : bt (2 ^ x) y := (bt_pow x y).2 h
theorem key_split (k : Nat) : k / 24 * 24 + k % 24 = k := by omega
theorem rnd_sound {ts : List Tm} {t0 : Nat} {st0 : RS} {k : Nat} {st : RS} (h : Rnd ts st0 k st) (h0 : Snd ts t0 st0) : Snd ts t0 st := by
  have step : ∀ (k e : Nat) (st st1 : RS), Snd ts t0 st → st.beg k = true → Run ts (.thr (bod ts (k / 24))) (2 ^ (k % 24)) st e st1 → Snd ts t0 st1 ∧ e < 2 ^ 24 ∧ ∀ y, bt e y → Es ts t0 (k / 24) (k % 24) y := by
    intro k e st st1 hs hb hr
    have hB : Bs ts t0 (k / 24) (k % 24) := hs.beg _ _ (Nat.mod_lt _ (by decide)) (by rw [key_split]; exact hb)
    obtain ⟨s1, h1, k1⟩ := run_sound (t0 := t0) hr (pow_lt24 k) (one (k % 24)) (bt_pow_one _) (fun ev he => ⟨_, _, hB, he⟩) trivial hs
    exact ⟨s1, h1, fun y hy => (true_closed ts t0).ends _ _ y hB (k1 y hy)⟩
  induction h with
  | zero => exact h0
  | skip h hb ih => exact ih
  | same h hb hr hs ih => exact (step _ _ _ _ ih hb hr).1
  | @grow k e st st1 h hb hr hs ih =>
    obtain ⟨s1, h1, k1⟩ := step _ _ _ _ ih hb hr
    refine ⟨s1.beg, fun t x y hx hy => ?_, s1.used, s1.wrong, fun j => ?_⟩
    · unfold updN at hy
      simp only at hy
      split at hy
      · rename_i e1
        have ht : t = k / 24 ∧ x = k % 24 := by omega
        rcases (bt_or _ _ _).1 hy with hy | hy
        · exact s1.en t x y hx (by rw [e1]; exact hy)
        · rw [ht.1, ht.2]; exact k1 y hy
      · exact s1.en t x y hx hy
    · show updN st1.en k (st1.en k ||| e) j < 2 ^ 24
      unfold updN
      split
      · exact or_lt24 (s1.size k) h1
      · exact s1.size j
def popc (m : Nat) : Nat → Nat
  | 0 => 0
  | k + 1 => popc m k + (if m.testBit k = true then 1 else 0)
theorem popc_le (m k : Nat) : popc m k ≤ k := by
  induction k with
  | zero => simp [popc]
  | succ k ih => simp only [popc]; split <;> omega
theorem popc_mono (a b k : Nat) (h : ∀ y, bt a y → bt b y) : popc a k ≤ popc b k := by
  induction k with
  | zero => simp [popc]
  | succ k ih =>
    simp only [popc]
    by_cases ha : a.testBit k = true
    · have hb : b.testBit k = true := h k ha
      rw [if_pos ha, if_pos hb]; omega
    · rw [if_neg ha]; omega
theorem popc_strict (a b k y : Nat) (h : ∀ y, bt a y → bt b y) (hy : y < k) (ha : ¬ bt a y) (hb : bt b y) : popc a k + 1 ≤ popc b k := by
  induction k with
  | zero => omega
  | succ k ih =>
    simp only [popc]
    by_cases e : y = k
    · subst e
      have := popc_mono a b y h
      have ha' : ¬ a.testBit y = true := ha
      have hb' : b.testBit y = true := hb
      rw [if_neg ha', if_pos hb']; omega
    · have := ih (by omega)
      by_cases ha' : a.testBit k = true
      · have hb' : b.testBit k = true := h k ha'
        rw [if_pos ha', if_pos hb']; omega
      · rw [if_neg ha']; omega
def phi (st : RS) : Nat → Nat
  | 0 => 0
  | n + 1 => phi st n + (if st.beg n = true then 1 else 0) + popc (st.en n) 24
theorem phi_le (st : RS) (n : Nat) : phi st n ≤ 25 * n := by
  induction n with
  | zero => simp [phi]
  | succ n ih => have := popc_le (st.en n) 24; simp only [phi]; split <;> omega
structure Grw (st st' : RS) : Prop where
  beg : ∀ k, st.beg k = true → st'.beg k = true
  en : ∀ k y, bt (st.en k) y → bt (st'.en k) y
theorem Grw.refl (st : RS) : Grw st st := ⟨fun _ h => h, fun _ _ h => h⟩
theorem Grw.trans {a b c : RS} (h : Grw a b) (k : Grw b c) : Grw a c := ⟨fun i q => k.beg i (h.beg i q), fun i y q => k.en i y (h.en i y q)⟩
def Str (n : Nat) (st st' : RS) : Prop := (∃ k, k < n ∧ st.beg k = false ∧ st'.beg k = true) ∨ ∃ k y, k < n ∧ y < 24 ∧ ¬ bt (st.en k) y ∧ bt (st'.en k) y
theorem Str.right {n : Nat} {a b c : RS} (h : Str n a b) (k : Grw b c) : Str n a c := by
  rcases h with ⟨i, h1, h2, h3⟩ | ⟨i, y, h1, h2, h3, h4⟩
  · exact .inl ⟨i, h1, h2, k.beg i h3⟩
  · exact .inr ⟨i, y, h1, h2, h3, k.en i y h4⟩
theorem Str.left {n : Nat} {a b c : RS} (h : Grw a b) (k : Str n b c) : Str n a c := by
  rcases k with ⟨i, h1, h2, h3⟩ | ⟨i, y, h1, h2, h3, h4⟩
  · refine .inl ⟨i, h1, ?_, h3⟩
    cases hb : a.beg i
    · rfl
    · rw [h.beg i hb] at h2; cases h2
  · exact .inr ⟨i, y, h1, h2, fun q => h3 (h.en i y q), h4⟩
theorem phi_mono {st st' : RS} (h : Grw st st') (n : Nat) : phi st n ≤ phi st' n := by
  induction n with
  | zero => simp [phi]
  | succ n ih =>
    have := popc_mono (st.en n) (st'.en n) 24 (h.en n)
    simp only [phi]
    by_cases hb : st.beg n = true
    · rw [if_pos hb, if_pos (h.beg n hb)]; omega
    · rw [if_neg hb]; omega
theorem phi_strict {st st' : RS} (h : Grw st st') (n : Nat) (k : Str n st st') : phi st n + 1 ≤ phi st' n := by
  induction n with
  | zero => rcases k with ⟨i, h1, _⟩ | ⟨i, y, h1, _⟩ <;> omega
  | succ n ih =>
    have hm := phi_mono h n
    have hp := popc_mono (st.en n) (st'.en n) 24 (h.en n)
    have hb : (if st.beg n = true then 1 else 0) ≤ (if st'.beg n = true then 1 else 0) := by
      by_cases hb : st.beg n = true
      · rw [if_pos hb, if_pos (h.beg n hb)]; omega
      · rw [if_neg hb]; omega
    simp only [phi]
    rcases k with ⟨i, h1, h2, h3⟩ | ⟨i, y, h1, h2, h3, h4⟩
    · by_cases e : i = n
      · subst e
        rw [if_neg (by rw [h2]; decide), if_pos h3]; omega
      · have := ih (.inl ⟨i, by omega, h2, h3⟩); omega
    · by_cases e : i = n
      · subst e
        have := popc_strict (st.en i) (st'.en i) 24 y (h.en i) h2 h3 h4
        omega
      · have := ih (.inr ⟨i, y, by omega, h2, h3, h4⟩); omega
theorem tno_lt (ts : List Tm) (nm : ByteArray) (h : 0 < ts.length) : tno ts nm < ts.length := by
  have := fndF_range nm ts 0
  unfold tno; omega
theorem cNew_yes (t m : Nat) (f : Nat → Bool) (k : Nat) (h : cNew t m f false k = true) : ∃ x, x < k ∧ bt m x ∧ f (t * 24 + x) = false := by
  induction k with
  | zero => simp [cNew] at h
  | succ k ih =>
    simp only [cNew, Bool.or_eq_true, Bool.and_eq_true, Bool.not_eq_true'] at h
    rcases h with h | ⟨h1, h2⟩
    · obtain ⟨x, h1, h2, h3⟩ := ih h; exact ⟨x, by omega, h2, h3⟩
    · exact ⟨k, by omega, h1, h2⟩
theorem run_grow {ts : List Tm} {j : Job} {m o : Nat} {st st' : RS} (h : Run ts j m st o st') (ht : 0 < ts.length) : Grw st st' ∧ (st'.new = true → st.new = true ∨ Str (ts.length * 24) st st') ∧ (∀ k, st'.beg k = true → st.beg k = true ∨ k < ts.length * 24) := by
  have comb : ∀ {a b c : RS}, (Grw a b ∧ (b.new = true → a.new = true ∨ Str (ts.length * 24) a b) ∧ (∀ k, b.beg k = true → a.beg k = true ∨ k < ts.length * 24)) → (Grw b c ∧ (c.new = true → b.new = true ∨ Str (ts.length * 24) b c) ∧ (∀ k, c.beg k = true → b.beg k = true ∨ k < ts.length * 24)) →
      (Grw a c ∧ (c.new = true → a.new = true ∨ Str (ts.length * 24) a c) ∧ (∀ k, c.beg k = true → a.beg k = true ∨ k < ts.length * 24)) := by
    intro a b c h k
    refine ⟨h.1.trans k.1, fun q => ?_, fun i q => ?_⟩
    · rcases k.2.1 q with q | q
      · rcases h.2.1 q with q | q
        · exact .inl q
        · exact .inr (q.right k.1)
      · exact .inr (Str.left h.1 q)
    · rcases k.2.2 i q with q | q
      · exact h.2.2 i q
      · exact .inr q
  induction h with
  | nil => exact ⟨⟨fun _ h => h, fun _ _ h => h⟩, fun h => .inl h, fun _ h => .inl h⟩
  | @cons k a nm th el r tw m m1 m2 st st1 st2 h h' ih ih' => exact comb (comb (b := placeR m st) ⟨⟨fun _ h => h, fun _ _ h => h⟩, fun h => .inl h, fun _ h => .inl h⟩ ih) ih'
  | text => exact ⟨⟨fun _ h => h, fun _ _ h => h⟩, fun h => .inl h, fun _ h => .inl h⟩
  | hole => exact ⟨⟨fun _ h => h, fun _ _ h => h⟩, fun h => .inl h, fun _ h => .inl h⟩
  | one h ih => exact ih
  | two h h' ih ih' => exact comb ih ih'
  | loop h ih => exact ih
  | @call a nm th el tw m st =>
    have hl := tno_lt ts nm ht
    refine ⟨⟨fun k h => (cBeg_iff _ _ _ _ _).2 (.inl h), fun _ _ h => h⟩, fun h => ?_, fun k h => ?_⟩
    · cases hn : st.new
      · have h' : cNew (tno ts nm) m st.beg st.new 24 = true := h
        rw [hn] at h'
        obtain ⟨x, h1, h2, h3⟩ := cNew_yes _ _ _ _ h'
        exact .inr (.inl ⟨_, by omega, h3, (cBeg_iff _ _ _ _ _).2 (.inr ⟨x, h1, h2, rfl⟩)⟩)
      · exact .inl rfl
    · rcases (cBeg_iff _ _ _ _ _).1 h with h | ⟨x, h1, h2, h3⟩
      · exact .inl h
      · right; omega
  | stop h hs ih => exact ih
  | more h h' ih ih' => exact comb ih ih'
theorem or_same (a b : Nat) (h : ∀ y, bt a y → bt b y) : a ||| b = b := by
  apply Nat.eq_of_testBit_eq
  intro y
  rw [Nat.testBit_or]
  cases ha : a.testBit y
  · rfl
  · have := h y ha; rw [bt] at this; rw [this]; rfl
theorem or_new (a b : Nat) (ha : a < 2 ^ 24) (h : a ||| b ≠ b) : ∃ y, y < 24 ∧ bt a y ∧ ¬ bt b y := by
  apply Classical.byContradiction
  intro hn
  apply h
  apply or_same
  intro y hy
  apply Classical.byContradiction
  intro hb
  exact hn ⟨y, bt_lt a y ha hy, hy, hb⟩
theorem rnd_grow {ts : List Tm} {t0 : Nat} {st0 : RS} {k : Nat} {st : RS} (h : Rnd ts st0 k st) (ht : 0 < ts.length) (hk : k ≤ ts.length * 24) (h0 : Snd ts t0 st0) : Grw st0 st ∧ (st.new = true → st0.new = true ∨ Str (ts.length * 24) st0 st) ∧ (∀ k, st.beg k = true → st0.beg k = true ∨ k < ts.length * 24) := by
  induction h with
  | zero => exact ⟨Grw.refl _, fun h => .inl h, fun _ h => .inl h⟩
  | skip h hb ih => exact ih (by omega)
  | same h hb hr hs ih =>
    obtain ⟨a1, a2, a3⟩ := ih (by omega)
    obtain ⟨b1, b2, b3⟩ := run_grow hr ht
    refine ⟨a1.trans b1, fun q => ?_, fun i q => ?_⟩
    · rcases b2 q with q | q
      · rcases a2 q with q | q
        · exact .inl q
        · exact .inr (q.right b1)
      · exact .inr (Str.left a1 q)
    · rcases b3 i q with q | q
      · exact a3 i q
      · exact .inr q
  | @grow k e st st1 h hb hr hs ih =>
    obtain ⟨a1, a2, a3⟩ := ih (by omega)
    obtain ⟨b1, b2, b3⟩ := run_grow hr ht
    have hS := rnd_sound h h0
    have hB : Bs ts t0 (k / 24) (k % 24) := hS.beg _ _ (Nat.mod_lt _ (by decide)) (by rw [key_split]; exact hb)
    obtain ⟨s1, h1, _⟩ := run_sound (t0 := t0) hr (pow_lt24 k) (one (k % 24)) (bt_pow_one _) (fun ev he => ⟨_, _, hB, he⟩) trivial hS
    have g2 : Grw st1 { st1 with en := updN st1.en k (st1.en k ||| e), new := true } := by
      refine ⟨fun _ h => h, fun j y hy => ?_⟩
      show bt (updN st1.en k (st1.en k ||| e) j) y
      unfold updN
      split
      · rename_i e1; subst e1; exact (bt_or _ _ _).2 (.inl hy)
      · exact hy
    obtain ⟨y, q1, q2, q3⟩ := or_new e (st1.en k) h1 hs
    have s2 : Str (ts.length * 24) st1 { st1 with en := updN st1.en k (st1.en k ||| e), new := true } := by
      refine .inr ⟨k, y, by omega, q1, q3, ?_⟩
      show bt (updN st1.en k (st1.en k ||| e) k) y
      unfold updN; rw [if_pos rfl]; exact (bt_or _ _ _).2 (.inr q2)
    refine ⟨(a1.trans b1).trans g2, fun _ => .inr (Str.left (a1.trans b1) s2), fun i q => ?_⟩
    rcases b3 i q with q | q
    · exact a3 i q
    · exact .inr q
/-- a round that brings nothing new and finds nothing wrong has found all -/
theorem rnd_full {ts : List Tm} {st0 : RS} {k : Nat} {st : RS} (h : Rnd ts st0 k st) (hz : ∀ j, st0.en j < 2 ^ 24) (hn : st.new = false) : st.en = st0.en ∧ st.beg = st0.beg ∧ (∀ j, st0.used j = true → st.used j = true) ∧ (st.wrong = false → st0.wrong = false ∧
    ∀ j, j < k → st.beg j = true → (∀ y, sem ts (enE st) (bod ts (j / 24)) (one (j % 24)) y → bt (st.en j) y) ∧ ∀ e, evt ts (enE st) (bod ts (j / 24)) (one (j % 24)) e → Rec st e) := by
  induction h with
  | zero => exact ⟨rfl, rfl, fun _ h => h, fun hw => ⟨hw, fun j hj => absurd hj (by omega)⟩⟩
  | @skip k st h hb ih =>
    obtain ⟨h1, h2, h3, h4⟩ := ih hn
    refine ⟨h1, h2, h3, fun hw => ⟨(h4 hw).1, fun j hj hbj => ?_⟩⟩
    by_cases e : j = k
    · subst e; rw [hb] at hbj; cases hbj
    · exact (h4 hw).2 j (by omega) hbj
  | @same k e st st1 h hb hr hs ih =>
    obtain ⟨f1, f2, f3, f4, f5⟩ := run_flags hr
    obtain ⟨h1, h2, h3, h4⟩ := ih (f2 hn).1
    have hE : enE st1 = enE st := by unfold enE; rw [f3]
    refine ⟨f3.trans h1, (f2 hn).2.trans h2, fun j q => f4 j (h3 j q), fun hw => ⟨(h4 (f1 hw)).1, fun j hj hbj => ?_⟩⟩
    by_cases ej : j = k
    · subst ej
      obtain ⟨g1, g2, g3⟩ := run_full hr (pow_lt24 j) (by rw [h1]; exact hz) hw hn (enE st) rfl
      rw [hE]
      refine ⟨fun y hy => ?_, fun ev he => ?_⟩
      · have := g2 y (sem_mono (fun _ _ _ q => q) _ _ _ (fun z hz' => one_bt_pow _ _ hz') y hy)
        have h5 := (bt_or e (st1.en j) y).2 (.inl this)
        rwa [hs] at h5
      · exact g3 ev (evt_mono (fun _ _ _ q => q) ev _ _ _ (fun z hz' => one_bt_pow _ _ hz') he)
    · have hbj' : st.beg j = true := by rw [← (f2 hn).2]; exact hbj
      obtain ⟨k1, k2⟩ := (h4 (f1 hw)).2 j (by omega) hbj'
      rw [hE, f3]
      exact ⟨k1, fun ev he => (k2 ev he).mono f4 f5⟩
  | grow h hb hr hs ih => cases hn
structure Wst (ts : List Tm) (t0 : Nat) (k : Nat) (st : RS) : Prop where
  snd : Snd ts t0 st
  beg : st.beg (t0 * 24) = true
  low : ∀ j, st.beg j = true → j < ts.length * 24
  more : st.new = true → k + 1 ≤ phi st (ts.length * 24)
  done : st.new = false → st.wrong = false → Closed ts t0 (fun t x => x < 24 ∧ st.beg (t * 24 + x) = true) (enE st) ∧ ∀ t x e, x < 24 → st.beg (t * 24 + x) = true → evt ts (enE st) (bod ts t) (one x) e → Rec st e
theorem wst_round {ts : List Tm} {t0 k : Nat} {st st' : RS} (h : Wst ts t0 k st) (ht : t0 < ts.length) (hn : st.new = true) (hr : Rnd ts { st with new := false } (ts.length * 24) st') : Wst ts t0 (k + 1) st' := by
  have s0 : Snd ts t0 { st with new := false } := ⟨h.snd.beg, h.snd.en, h.snd.used, h.snd.wrong, h.snd.size⟩
  obtain ⟨g1, g2, g3⟩ := rnd_grow hr (by omega) (Nat.le_refl _) s0
  have low' : ∀ j, st'.beg j = true → j < ts.length * 24 := fun j q => by
    rcases g3 j q with q | q
    · exact h.low j q
    · exact q
  refine ⟨rnd_sound hr s0, g1.beg _ h.beg, low', fun q => ?_, fun q hw => ?_⟩
  · rcases g2 q with q | q
    · cases q
    · have := phi_strict g1 _ q
      have e : phi { st with new := false } (ts.length * 24) = phi st (ts.length * 24) := by
        have : ∀ n, phi { st with new := false } n = phi st n := by
          intro n; induction n with
          | zero => rfl
          | succ n ih => simp only [phi, ih]
        exact this _
      have := h.more hn
      omega
  · obtain ⟨f1, f2, f3, f4⟩ := rnd_full hr s0.size q
    obtain ⟨_, f5⟩ := f4 hw
    have all : ∀ t x, x < 24 → st'.beg (t * 24 + x) = true → (∀ y, sem ts (enE st') (bod ts t) (one x) y → bt (st'.en (t * 24 + x)) y) ∧ ∀ e, evt ts (enE st') (bod ts t) (one x) e → Rec st' e := by
      intro t x hx hb
      have := f5 (t * 24 + x) (low' _ hb) hb
      rwa [show (t * 24 + x) / 24 = t by omega, show (t * 24 + x) % 24 = x by omega] at this
    refine ⟨⟨⟨by decide, by simpa using g1.beg _ h.beg⟩, fun t x y hb hs => ⟨hb.1, (all t x hb.1 hb.2).1 y hs⟩, fun t x t' x' hb he => (all t x hb.1 hb.2).2 _ he⟩, fun t x e hx hb he => (all t x hx hb).2 e he⟩
theorem wst_end {ts : List Tm} {t0 k : Nat} {st : RS} (h : Wst ts t0 k st) (hl : ts.length ≤ 6) (hk : k < 3601 → st.new = false) : st.new = false := by
  cases hn : st.new
  · rfl
  · have h1 := h.more hn
    have h2 := phi_le st (ts.length * 24)
    by_cases hk' : k < 3601
    · rw [hk hk'] at hn; cases hn
    · omega
/-- what the reference answers, by the truth -/
theorem wst_true {ts : List Tm} {t0 k : Nat} {st : RS} (h : Wst ts t0 k st) (hn : st.new = false) (W : Bool) (hW : W = true ↔ st.wrong = true ∨ ∃ y, y ≠ 0 ∧ bt (st.en (t0 * 24)) y) :
    (W = true ↔ TBad ts t0) ∧ (W = false → ∀ a x, x < 24 → (st.used (a * 24 + x) = true ↔ Evs ts t0 (.use a x))) := by
  have fwd : W = true → TBad ts t0 := by
    intro q
    rcases hW.1 q with q | ⟨y, h1, h2⟩
    · exact h.snd.wrong q
    · exact .inr ⟨y, h1, h.snd.en t0 0 y (by decide) (by simpa using h2)⟩
  have full : W = false → Closed ts t0 (fun t x => x < 24 ∧ st.beg (t * 24 + x) = true) (enE st) ∧ (∀ t x e, x < 24 → st.beg (t * 24 + x) = true → evt ts (enE st) (bod ts t) (one x) e → Rec st e) := by
    intro q
    refine h.done hn ?_
    cases hw : st.wrong
    · rfl
    · rw [hW.2 (.inl hw)] at q; cases q
  have ev : W = false → ∀ e, Evs ts t0 e → Rec st e := by
    intro q e he
    obtain ⟨hc, hf⟩ := full q
    obtain ⟨t, x, h1, h2⟩ := truth_of hc (fun t x hb => h.snd.beg t x hb.1 hb.2) (fun t x y _ he => h.snd.en t x y he.1 he.2) e he
    exact hf t x e h1.1 h1.2 h2
  refine ⟨⟨fwd, fun hT => ?_⟩, fun q a x hx => ⟨h.snd.used a x hx, fun he => (ev q _ he).2⟩⟩
  cases hq : W
  · rcases hT with hT | ⟨y, h1, h2⟩
    · exact (ev hq _ hT).elim
    · have h3 : enE st t0 0 y := Es_le (full hq).1 _ _ _ h2
      have := hW.2 (.inr ⟨y, h1, by simpa using h3.2⟩)
      rw [hq] at this; cases this
  · rfl
end Go.Proofs.YtffkejkgkgfnhabGreat
namespace Go.Proofs.YtffkejkgkgfnhabGreat
open Go.RowKit
set_option linter.unusedVariables false
def Nds.drop : Nat → Nds → Nds
  | 0, ns => ns
  | _ + 1, .nil => .nil
  | n + 1, .cons _ _ _ _ _ _ r => Nds.drop n r
def Nds.sz : Nds → Nat
  | .nil => 0
  | .cons _ _ _ th el _ r => th.sz + el.sz + r.sz + 1
theorem slc_form {w : World} {A : Nat → Prop} {ty : Nat} {v : Value} {ns : Nds} (h : Slc w A ty v ns) : ∃ a c, v = .slice a ns.len c := by
  rcases h with ⟨rfl, h0, _⟩ | ⟨g, cap, cur, rfl, _⟩
  · exact ⟨none, 0, by rw [h0]⟩
  · exact ⟨_, _, rfl⟩
def NdAt (w : World) (A : Nat → Prop) (g : Nat) (ns : Nds) (i : Nat) : Prop :=
  ∃ (k a : Int) (nm : ByteArray) (th el : Nds) (two : Bool) (r : Nds) (ta ea : Option Addr) (tc ec : Nat), ns.drop i = .cons k a nm th el two r ∧ ns.drop (i + 1) = r ∧
    w.cell? ⟨g, i * 6, none⟩ = some (.int .i64 k) ∧ w.cell? ⟨g, i * 6 + 1, none⟩ = some (.int .i64 a) ∧ w.cell? ⟨g, i * 6 + 2, none⟩ = some (.string nm) ∧ w.cell? ⟨g, i * 6 + 3, none⟩ = some (.slice ta th.len tc) ∧ w.cell? ⟨g, i * 6 + 4, none⟩ = some (.slice ea el.len ec) ∧
    Slc w A 102 (.slice ta th.len tc) th ∧ Slc w A 102 (.slice ea el.len ec) el ∧ th.sz < ns.sz ∧ el.sz < ns.sz ∧ w.cell? ⟨g, i * 6 + 5, none⟩ = some (.bool two)
theorem RowOK.at {w : World} {A : Nat → Prop} : ∀ (ns : Nds) (xs : List Value) (i : Nat) (hi : i < ns.len), RowOK w A 102 ns xs →
    ∃ (k a : Int) (nm : ByteArray) (th el : Nds) (two : Bool) (r : Nds) (ta ea : Option Addr) (tc ec : Nat), ns.drop i = .cons k a nm th el two r ∧ ns.drop (i + 1) = r ∧
    xs[i * 6]? = some (.int .i64 k) ∧ xs[i * 6 + 1]? = some (.int .i64 a) ∧ xs[i * 6 + 2]? = some (.string nm) ∧ xs[i * 6 + 3]? = some (.slice ta th.len tc) ∧ xs[i * 6 + 4]? = some (.slice ea el.len ec) ∧
    Slc w A 102 (.slice ta th.len tc) th ∧ Slc w A 102 (.slice ea el.len ec) el ∧ th.sz < ns.sz ∧ el.sz < ns.sz ∧ xs[i * 6 + 5]? = some (.bool two)
  | .nil, xs, i, hi, h => absurd hi (by simp [Nds.len])
  | .cons k a nm th el two r, xs, 0, hi, h => by
    obtain ⟨tv, ev, ys, rfl, h2, h3, h4⟩ := h
    obtain ⟨ta, tc, rfl⟩ := slc_form (ns := th) h2
    obtain ⟨ea, ec, rfl⟩ := slc_form (ns := el) h3
    exact ⟨k, a, nm, th, el, two, r, ta, ea, tc, ec, rfl, rfl, rfl, rfl, rfl, rfl, rfl, h2, h3, by simp only [Nds.sz]; omega, by simp only [Nds.sz]; omega, rfl⟩
  | .cons k0 a0 nm0 th0 el0 two0 r0, xs, i + 1, hi, h => by
    obtain ⟨tv, ev, ys, rfl, h2, h3, h4⟩ := h
    have hi' : i < r0.len := by simpa [Nds.len] using hi
    obtain ⟨k, a, nm, th, el, two, r, ta, ea, tc, ec, e1, e2, c0, c1, c2, c3, c4, s1, s2, z1, z2, c5⟩ := RowOK.at r0 ys i hi' h4
    have sh : ∀ j, (ndC k0 a0 nm0 tv ev two0 ++ ys)[(i + 1) * 6 + j]? = ys[i * 6 + j]? := by
      intro j
      rw [List.getElem?_append_right (by simp [ndC]; omega)]
      congr 1
      simp [ndC]; omega
    have sh0 := sh 0
    simp only [Nat.add_zero] at sh0
    exact ⟨k, a, nm, th, el, two, r, ta, ea, tc, ec, e1, e2, by rw [sh0]; exact c0, by rw [sh]; exact c1, by rw [sh]; exact c2, by rw [sh]; exact c3, by rw [sh]; exact c4, s1, s2, by simp only [Nds.sz]; omega, by simp only [Nds.sz]; omega, by rw [sh]; exact c5⟩
theorem ndAt {w : World} {A : Nat → Prop} {a : Option Addr} {n c : Nat} {ns : Nds} (h : Slc w A 102 (.slice a n c) ns) : n = ns.len ∧ (ns.len = 0 ∨ ∃ g, a = some ⟨g, 0, none⟩ ∧ ∀ i, i < ns.len → NdAt w A g ns i) := by
  rcases h with ⟨hv, h0, _⟩ | ⟨g, cap, cur, hv, hA, hg, hn, hm, hs, hr⟩
  · simp at hv; exact ⟨by omega, .inl h0⟩
  · simp at hv
    refine ⟨hv.2.1, .inr ⟨g, hv.1, fun i hi => ?_⟩⟩
    obtain ⟨k, a, nm, th, el, two, r, ta, ea, tc, ec, e1, e2, c0, c1, c2, c3, c4, s1, s2, z1, z2, c5⟩ := RowOK.at ns _ i hi hr
    have tk : ∀ j, j < ns.len * 6 → (cur.toList.take (ns.len * 6))[j]? = cur[j]? := by
      intro j hj; rw [List.getElem?_take_of_lt hj]; simp
    rw [tk _ (by omega)] at c0 c1 c2 c3 c4 c5
    refine ⟨k, a, nm, th, el, two, r, ta, ea, tc, ec, e1, e2, ?_, ?_, ?_, ?_, ?_, s1, s2, z1, z2, ?_⟩ <;> rw [cell_of_heap hg] <;> assumption
/-- the place of the first call of a name that no template has, or -1 -/
def unk (ts : List Tm) : Nds → Int
  | .nil => -1
  | .cons k a nm th el two r => if k = 5 ∧ fndF nm ts 0 < 0 then a else if 0 ≤ unk ts th then unk ts th else if 0 ≤ unk ts el then unk ts el else unk ts r
theorem drop_nil (ns : Nds) (i : Nat) (h : ns.len ≤ i) : ns.drop i = .nil := by
  induction i generalizing ns with
  | zero => cases ns with
    | nil => rfl
    | cons => simp [Nds.len] at h
  | succ n ih => cases ns with
    | nil => rfl
    | cons k a nm th el two r => exact ih r (by simpa [Nds.len] using h)
theorem len_sz (ns : Nds) : ns.len ≤ ns.sz := by
  induction ns with
  | nil => simp [Nds.len]
  | cons k a nm th el two r iht ihe ih => simp only [Nds.len, Nds.sz]; omega
set_option maxHeartbeats 4000000 in
theorem c61 (w : World) (A : Nat → Prop) (la : Option Addr) (lc : Nat) (ts : List Tm) (hl : ts.length ≤ 6) (ht : TmAt w A la ts) (m : Nat) : ∀ (ns : Nds), ns.sz < m → ns.sz ≤ 1000 → ∀ (a : Option Addr) (c : Nat), Slc w A 102 (.slice a ns.len c) ns →
    Calls Tryz.prog 33 #[.slice la ts.length lc, .slice a ns.len c] w fun e w' => e = .returned (.int .i64 (unk ts ns)) ∧ w' = w := by
  induction m with
  | zero => intro ns h; omega
  | succ m ih =>
    intro ns hsz hln a c hS
    have hll := len_sz ns
    have hlb : ns.len ≤ 1000 := by omega
    obtain ⟨_, h0 | ⟨g, rfl, hat⟩⟩ := ndAt hS
    · have hn : ns = .nil := by
        cases ns with
        | nil => rfl
        | cons => simp [Nds.len] at h0
      subst hn
      have HE : Hid (unk ts .nil = -1) := rfl
      have HL : Hid (Nds.len .nil = 0) := rfl
      clear hS ih hsz h0
      show Calls Tryz.prog 33 #[.slice la ts.length lc, .slice a 0 c] w _
      generalize unk ts .nil = E at *
      go_enter Tryz.func33, Tryz.ntmps33
      go_wp2
      refine wp_loop_rounds 1 ?_
      rw [rounds_succ]
      go_wp2
      go_ret
      exact ⟨retS_int HE.out.symm, rfl⟩
    · have HAT := hidS hat
      have HI := hidS ih
      have Hf := hidS (fun nm => c60 w A la lc ts nm hl ht)
      clear hat ih hS
      go_enter Tryz.func33, Tryz.ntmps33
      go_wp2
      go_loop [5, 6, 7] (fun i _ _ => ∃ k : Nat, k ≤ ns.len ∧ i = .int .i64 k ∧ Hid (unk ts ns = unk ts (ns.drop k))) (fun i _ _ => ns.len - (intOf i).toNat)
      case atStart => exact ⟨0, Nat.zero_le _, rfl, rfl⟩
      case round =>
        obtain ⟨k, hk, rfl, H⟩ := hrel
        by_cases hlt : k < ns.len
        · obtain ⟨kd, ap, nm, th, el, two, r, ta, ea, tc, ec, e1, e2, c0, c1, c2, c3, c4, s1, s2, z1, z2, c5⟩ := HAT.out k hlt
          have Hc1 := hidS (HI.out th (by omega) (by omega) ta tc s1)
          have Hc2 := hidS (HI.out el (by omega) (by omega) ea ec s2)
          have HU : Hid (unk ts ns = if kd = 5 ∧ fndF nm ts 0 < 0 then ap else if 0 ≤ unk ts th then unk ts th else if 0 ≤ unk ts el then unk ts el else unk ts (ns.drop (k + 1))) := by
            show _ = _
            rw [H.out, e1, e2]; rfl
          clear H s1 s2 z1 z2 c5 e1 e2
          generalize unk ts th = U1 at *
          generalize unk ts el = U2 at *
          generalize th.len = tl at *
          generalize el.len = eln at *
          by_cases hkd : kd = 5
          · have hk5 : (kd == 5) = true := by simp [hkd]
            have hfr := fndF_range nm ts 0
            by_cases hfn : fndF nm ts 0 < 0
            · have HF : Hid (unk ts ns = ap) := by show _ = _; rw [HU.out, if_pos ⟨hkd, hfn⟩]
              clear HU hkd Hc1 Hc2
              go_wp2_with fail
              refine (Hf.out nm).mono ?_
              rintro e w' ⟨rfl, hw⟩
              obtain rfl := hw.symm
              go_wp2
              go_ret
              exact ⟨retS_int HF.out.symm, rfl⟩
            · have HU' : Hid (unk ts ns = if 0 ≤ U1 then U1 else if 0 ≤ U2 then U2 else unk ts (ns.drop (k + 1))) := by show _ = _; rw [HU.out, if_neg (fun h => hfn h.2)]
              have HF1 : Hid (0 ≤ U1 → unk ts ns = U1) := fun h => by rw [HU'.out, if_pos h]
              have HF2 : Hid (¬ 0 ≤ U1 → 0 ≤ U2 → unk ts ns = U2) := fun h h' => by rw [HU'.out, if_neg h, if_pos h']
              have HF3 : Hid (¬ 0 ≤ U1 → ¬ 0 ≤ U2 → unk ts ns = unk ts (ns.drop (k + 1))) := fun h h' => by rw [HU'.out, if_neg h, if_neg h']
              clear HU HU' hkd
              by_cases u1 : 0 ≤ U1
              · have HF : Hid (unk ts ns = U1) := HF1.out u1
                go_wp2_with fail
                refine (Hf.out nm).mono ?_
                rintro e w' ⟨rfl, hw⟩
                obtain rfl := hw.symm
                go_wp2_with fail
                refine Hc1.out.mono ?_
                rintro e w' ⟨rfl, hw⟩
                obtain rfl := hw.symm
                go_wp2
                go_ret
                exact ⟨retS_int HF.out.symm, rfl⟩
              · by_cases u2 : 0 ≤ U2
                · have HF : Hid (unk ts ns = U2) := HF2.out u1 u2
                  go_wp2_with fail
                  refine (Hf.out nm).mono ?_
                  rintro e w' ⟨rfl, hw⟩
                  obtain rfl := hw.symm
                  go_wp2_with fail
                  refine Hc1.out.mono ?_
                  rintro e w' ⟨rfl, hw⟩
                  obtain rfl := hw.symm
                  go_wp2_with fail
                  refine Hc2.out.mono ?_
                  rintro e w' ⟨rfl, hw⟩
                  obtain rfl := hw.symm
                  go_wp2
                  go_ret
                  exact ⟨retS_int HF.out.symm, rfl⟩
                · have HF : Hid (unk ts ns = unk ts (ns.drop (k + 1))) := HF3.out u1 u2
                  go_wp2_with fail
                  refine (Hf.out nm).mono ?_
                  rintro e w' ⟨rfl, hw⟩
                  obtain rfl := hw.symm
                  go_wp2_with fail
                  refine Hc1.out.mono ?_
                  rintro e w' ⟨rfl, hw⟩
                  obtain rfl := hw.symm
                  go_wp2_with fail
                  refine Hc2.out.mono ?_
                  rintro e w' ⟨rfl, hw⟩
                  obtain rfl := hw.symm
                  go_wp2
                  go_round
                  case rel => exact ⟨k + 1, by omega, by go_num, HF.out⟩
                  case measure => simp [intOf]; omega
          · have hk5 : (kd == 5) = false := by simp [hkd]
            have HU' : Hid (unk ts ns = if 0 ≤ U1 then U1 else if 0 ≤ U2 then U2 else unk ts (ns.drop (k + 1))) := by show _ = _; rw [HU.out, if_neg (fun h => hkd h.1)]
            have HF1 : Hid (0 ≤ U1 → unk ts ns = U1) := fun h => by rw [HU'.out, if_pos h]
            have HF2 : Hid (¬ 0 ≤ U1 → 0 ≤ U2 → unk ts ns = U2) := fun h h' => by rw [HU'.out, if_neg h, if_pos h']
            have HF3 : Hid (¬ 0 ≤ U1 → ¬ 0 ≤ U2 → unk ts ns = unk ts (ns.drop (k + 1))) := fun h h' => by rw [HU'.out, if_neg h, if_neg h']
            clear HU HU' hkd
            by_cases u1 : 0 ≤ U1
            · have HF : Hid (unk ts ns = U1) := HF1.out u1
              go_wp2_with fail
              refine Hc1.out.mono ?_
              rintro e w' ⟨rfl, hw⟩
              obtain rfl := hw.symm
              go_wp2
              go_ret
              exact ⟨retS_int HF.out.symm, rfl⟩
            · by_cases u2 : 0 ≤ U2
              · have HF : Hid (unk ts ns = U2) := HF2.out u1 u2
                go_wp2_with fail
                refine Hc1.out.mono ?_
                rintro e w' ⟨rfl, hw⟩
                obtain rfl := hw.symm
                go_wp2_with fail
                refine Hc2.out.mono ?_
                rintro e w' ⟨rfl, hw⟩
                obtain rfl := hw.symm
                go_wp2
                go_ret
                exact ⟨retS_int HF.out.symm, rfl⟩
              · have HF : Hid (unk ts ns = unk ts (ns.drop (k + 1))) := HF3.out u1 u2
                go_wp2_with fail
                refine Hc1.out.mono ?_
                rintro e w' ⟨rfl, hw⟩
                obtain rfl := hw.symm
                go_wp2_with fail
                refine Hc2.out.mono ?_
                rintro e w' ⟨rfl, hw⟩
                obtain rfl := hw.symm
                go_wp2
                go_round
                case rel => exact ⟨k + 1, by omega, by go_num, HF.out⟩
                case measure => simp [intOf]; omega
        · have HF : Hid (unk ts ns = -1) := by
            show _ = _
            rw [H.out, drop_nil ns k (by omega)]; rfl
          go_wp2
          go_ret
          exact ⟨retS_int HF.out.symm, rfl⟩
end Go.Proofs.YtffkejkgkgfnhabGreat
