import Derived.Test.YtffkejkgkgfnhabGreatG31
namespace Go.Proofs.YtffkejkgkgfnhabGreat
set_option linter.unusedVariables false
def setEn (fs : FS) (i : Nat) (g : Gp) (x : Int) : FS := if g.en = -1 then { fs with gs := fs.gs.set i ⟨g.b, g.f, x⟩, grew := true } else fs
def endF (fs : FS) (i : Nat) (x : Int) : Option FS := if x = -1 then some fs else match fs.gs[i]? with
  | some g => if i ≠ 0 ∨ x = 0 then some (setEn fs i g x) else none
  | none => some fs
def followF (s : ByteArray) (A : List Ak) (fs : FS) (i : Nat) : Option FS := match fs.gs[i]? with
  | some g => (match runF s A (A.drop (g.b + 1)) (g.b + 1) ⟨g.f, []⟩ fs with
    | none => none
    | some (x, fs') => endF fs' i x)
  | none => some fs
structure FInv (s : ByteArray) (A : List Ak) (ts : List Tm) (β : Nat → Nat) (t0 : Nat) (fs : FS) : Prop where
  i1 : ∀ g ∈ fs.gs, (∃ t, t < ts.length ∧ g.b = β t) ∧ g.f < 24 ∧ -1 ≤ g.en ∧ g.en ≤ 23
  i2 : ∀ g ∈ fs.gs, ∀ t, t < ts.length → g.b = β t → Bs ts t0 t g.f
  i3 : ∀ g ∈ fs.gs, ∀ t, t < ts.length → g.b = β t → g.en ≠ -1 → sem ts (enG β fs.gs) (bod ts t) (one g.f) g.en.toNat
  i4 : ∀ t x y, enG β fs.gs t x y → Es ts t0 t x y
  i5 : ∀ j c, fs.cm j c = true → ∃ a, A[j]? = some a ∧ Evs ts t0 (.use a.at' c)
  i6 : ∃ g, fs.gs[0]? = some g ∧ g.b = β t0 ∧ g.f = 0
  i7 : NodG fs.gs
theorem beta_lt {s : ByteArray} {A : List Ak} {ts : List Tm} {β : Nat → Nat} (hP : Plc s ts A β) (t : Nat) (ht : t < ts.length) : β t < A.length := by
  obtain ⟨pre, B, post, nmE, e, hA, hpl, _⟩ := hP.at' t ht
  rw [hA, ← hpl]; simp
theorem hasG_self {gs : List Gp} (h : NodG gs) {g : Gp} (hg : g ∈ gs) : hasG gs g.b g.f = some g := by
  induction gs with
  | nil => cases hg
  | cons a r ih =>
    obtain ⟨h1, h2⟩ := List.pairwise_cons.1 h
    unfold hasG
    rw [List.find?_cons]
    rcases List.mem_cons.1 hg with rfl | hg'
    · simp
    · have : ¬ (a.b = g.b ∧ a.f = g.f) := h1 g hg'
      simp only [this, decide_false]
      exact ih h2 hg'
theorem truth_evs {ts : List Tm} {t0 t f : Nat} {E : En} (hB : Bs ts t0 t f) (hE : ∀ t x y, E t x y → Es ts t0 t x y) {e : Ev} (h : evt ts E (bod ts t) (one f) e) : Evs ts t0 e := ⟨t, f, hB, evt_mono hE e _ _ _ (fun _ q => q) h⟩
/-- what a follow tells of the state before it -/
structure Fol (A : List Ak) (ts : List Tm) (β : Nat → Nat) (fs fs2 : FS) (i : Nat) (g : Gp) : Prop where
  all : ∀ t, t < ts.length → g.b = β t → ∃ x : Int, (-1 ≤ x ∧ x ≤ 23) ∧ (∀ z, sem ts (enG β fs.gs) (bod ts t) (one g.f) z ↔ opt x z) ∧ ¬ evt ts (enG β fs.gs) (bod ts t) (one g.f) .bad ∧ (i = 0 → x = -1 ∨ x = 0) ∧ (fs2.grew = false → x = -1 ∨ g.en ≠ -1) ∧
    (∀ n c, evt ts (enG β fs.gs) (bod ts t) (one g.f) (.use n c) → ∃ j a, A[j]? = some a ∧ a.at' = n ∧ fs2.cm j c = true) ∧ (fs2.grew = false → ∀ t' x', evt ts (enG β fs.gs) (bod ts t) (one g.f) (.call t' x') → (hasG fs.gs (β t') x').isSome = true)
  same : fs2.grew = false → fs.grew = false ∧ fs2.gs = fs.gs
  cmM : ∀ j c, fs.cm j c = true → fs2.cm j c = true
def pot (gs : List Gp) : Nat := (gs.map fun g => if g.en = -1 then 1 else 2).sum
theorem pot_app (a b : List Gp) : pot (a ++ b) = pot a + pot b := by simp [pot]
theorem pot_len (gs : List Gp) : gs.length ≤ pot gs ∧ pot gs ≤ 2 * gs.length := by
  induction gs with
  | nil => simp [pot]
  | cons g r ih =>
    have e : pot (g :: r) = (if g.en = -1 then 1 else 2) + pot r := by simp [pot]
    rw [e]; simp only [List.length_cons]; split <;> omega
theorem pot_set (gs : List Gp) : ∀ (i : Nat) (g g' : Gp), gs[i]? = some g → g.en = -1 → g'.en ≠ -1 → pot (gs.set i g') = pot gs + 1 := by
  induction gs with
  | nil => intro i g g' h; simp at h
  | cons a r ih =>
    intro i g g' h h1 h2
    have e : ∀ x y, pot (x :: y) = (if x.en = -1 then 1 else 2) + pot y := fun x y => by simp [pot]
    cases i with
    | zero =>
      simp at h; subst h
      rw [List.set_cons_zero, e, e, if_pos h1, if_neg h2]; omega
    | succ i =>
      have := ih i g g' (by simpa using h) h1 h2
      rw [List.set_cons_succ, e, e, this]; omega
theorem nodup_len : ∀ (n : Nat) (l : List Nat), l.Pairwise (· ≠ ·) → (∀ x ∈ l, x < n) → l.length ≤ n
  | 0, [], _, _ => by simp
  | 0, x :: r, _, h => absurd (h x (by simp)) (by omega)
  | n + 1, l, hp, h => by
    have h1 := nodup_len n (l.filter fun x => decide (x ≠ n)) (hp.filter _) (fun x hx => by
      have := List.mem_filter.1 hx
      have h2 := h x this.1
      have h3 := this.2
      simp at h3; omega)
    have h2 : l.length ≤ (l.filter fun x => decide (x ≠ n)).length + 1 := by
      clear h h1
      induction l with
      | nil => simp
      | cons a r ih =>
        obtain ⟨p1, p2⟩ := List.pairwise_cons.1 hp
        by_cases e : a = n
        · have hr : r.filter (fun x => decide (x ≠ n)) = r := List.filter_eq_self.2 (fun x hx => by have := p1 x hx; simp; omega)
          rw [List.filter_cons_of_neg (by simp [e]), hr]
          simp
        · have := ih p2
          simp [e] at this ⊢
          omega
    omega
theorem gs_len {s : ByteArray} {A : List Ak} {ts : List Tm} {β : Nat → Nat} {t0 : Nat} {fs : FS} (h : FInv s A ts β t0 fs) (hP : Plc s ts A β) (hA : A.length ≤ 1000) : fs.gs.length ≤ 24000 := by
  have h1 := nodup_len 24000 (fs.gs.map fun g => g.b * 24 + g.f) (by
    rw [List.pairwise_map]
    refine List.Pairwise.imp_of_mem (fun {a b} ha hb hab => ?_) h.i7
    intro e
    have := (h.i1 a ha).2.1
    have := (h.i1 b hb).2.1
    exact hab ⟨by omega, by omega⟩) (fun x hx => by
    obtain ⟨g, hg, rfl⟩ := List.mem_map.1 hx
    obtain ⟨⟨t, ht, hb⟩, hf, _⟩ := h.i1 g hg
    have := beta_lt hP t ht
    show g.b * 24 + g.f < 24000
    omega)
  simpa using h1
theorem enG_set {β : Nat → Nat} {gs : List Gp} (hn : NodG gs) {i : Nat} {g : Gp} (hg : gs[i]? = some g) (h1 : g.en = -1) (n : Nat) (t x y : Nat) : enG β (gs.set i ⟨g.b, g.f, n⟩) t x y ↔ enG β gs t x y ∨ (g.b = β t ∧ g.f = x ∧ y = n) := by
  have key : ∀ b f, hasG (gs.set i ⟨g.b, g.f, n⟩) b f = if g.b = b ∧ g.f = f then some ⟨g.b, g.f, n⟩ else hasG gs b f := by
    intro b f
    clear h1
    induction gs generalizing i with
    | nil => simp at hg
    | cons a r ih =>
      obtain ⟨p1, p2⟩ := List.pairwise_cons.1 hn
      have c : ∀ (u : Gp) (l : List Gp), hasG (u :: l) b f = if u.b = b ∧ u.f = f then some u else hasG l b f := by
        intro u l
        unfold hasG
        rw [List.find?_cons]
        by_cases h : u.b = b ∧ u.f = f
        · simp [h]
        · rw [if_neg h]; simp only [h, decide_false]
      cases i with
      | zero =>
        simp at hg; subst hg
        rw [List.set_cons_zero, c, c]
        by_cases h : a.b = b ∧ a.f = f
        · rw [if_pos h, if_pos h]
        · rw [if_neg h, if_neg h, if_neg h]
      | succ i =>
        have hg' : r[i]? = some g := by simpa using hg
        rw [List.set_cons_succ, c, c, ih p2 hg']
        by_cases h : a.b = b ∧ a.f = f
        · have hne : ¬ (g.b = b ∧ g.f = f) := fun q => p1 g (List.mem_of_getElem? hg') ⟨h.1.trans q.1.symm, h.2.trans q.2.symm⟩
          rw [if_pos h, if_neg hne, if_pos h]
        · rw [if_neg h, if_neg h]
  have hs := hasG_self hn (List.mem_of_getElem? hg)
  unfold enG
  rw [key]
  by_cases h : g.b = β t ∧ g.f = x
  · rw [if_pos h]
    constructor
    · rintro ⟨q, e1, e2⟩
      cases e1
      refine .inr ⟨h.1, h.2, ?_⟩
      have : (n : Int) = y := e2
      omega
    · rintro (⟨q, e1, e2⟩ | ⟨_, _, e⟩)
      · rw [← h.1, ← h.2, hs] at e1
        cases e1
        omega
      · exact ⟨_, rfl, by rw [e]⟩
  · rw [if_neg h]
    exact ⟨.inl, fun q => q.elim (fun q => q) (fun q => absurd ⟨q.1, q.2.1⟩ h)⟩
theorem pick {s : ByteArray} {A : List Ak} {ts : List Tm} {β : Nat → Nat} {t0 : Nat} (ht0 : t0 < ts.length) {fs : FS} (h : FInv s A ts β t0 fs) {i : Nat} {g : Gp} (hg : fs.gs[i]? = some g) : ∃ t, t < ts.length ∧ g.b = β t ∧ (i = 0 → t = t0 ∧ g.f = 0) := by
  by_cases hi : i = 0
  · subst hi
    obtain ⟨g0, e1, e2, e3⟩ := h.i6
    rw [hg] at e1
    cases e1
    exact ⟨t0, ht0, e2, fun _ => ⟨rfl, e3⟩⟩
  · obtain ⟨⟨t, ht, hb⟩, _⟩ := h.i1 g (List.mem_of_getElem? hg)
    exact ⟨t, ht, hb, fun q => absurd q hi⟩
theorem follow_bad {s : ByteArray} {A : List Ak} {ts : List Tm} {β : Nat → Nat} {t0 : Nat} (hP : Plc s ts A β) (hw : ∀ i (hi : i < ts.length), WfN ts ts[i].body) (ht0 : t0 < ts.length) {fs : FS} (h : FInv s A ts β t0 fs) {i : Nat} (hf : followF s A fs i = none) : TBad ts t0 := by
  unfold followF at hf
  cases hg : fs.gs[i]? with
  | none => rw [hg] at hf; cases hf
  | some g =>
    rw [hg] at hf
    simp only at hf
    have hm := List.mem_of_getElem? hg
    obtain ⟨_, hfl, hr⟩ := h.i1 g hm
    obtain ⟨t, ht, hb, hti⟩ := pick ht0 h hg
    have hB := h.i2 g hm t ht hb
    rw [hb] at hf
    rcases follow_run hP hw t ht g.f hfl fs (fun q hq => (h.i1 q hq).2.2) with ⟨o1, o2⟩ | ⟨x, fs', o1, o2, o3, o4, o5⟩
    · exact .inl (truth_evs hB h.i4 o2)
    · rw [o1] at hf
      simp only [endF] at hf
      split at hf
      · cases hf
      · rename_i hx
        obtain ⟨l, el, _⟩ := o5.gsP
        have hg2 : fs'.gs[i]? = some g := by
          rw [el, List.getElem?_append_left (by have := (List.getElem?_eq_some_iff.1 hg).1; exact this)]; exact hg
        rw [hg2] at hf
        simp only at hf
        split at hf
        · cases hf
        · rename_i hk
          have hi0 : i = 0 := by apply Decidable.byContradiction; intro q; exact hk (.inl q)
          have hx0 : x ≠ 0 := fun q => hk (.inr q)
          obtain ⟨e1, e2⟩ := hti hi0
          subst e1
          refine .inr ⟨x.toNat, by omega, (true_closed ts t).ends t 0 _ (by rw [← e2]; exact hB) (sem_mono h.i4 _ _ _ (fun _ q => q) _ ?_)⟩
          rw [← e2]
          exact (o3 x.toNat).2 (by unfold opt; omega)
theorem FInv.of_rcd {s : ByteArray} {A : List Ak} {ts : List Tm} {β : Nat → Nat} {t0 : Nat} (hP : Plc s ts A β) {fs fs' : FS} (h : FInv s A ts β t0 fs) {t f : Nat} (hB : Bs ts t0 t f) (R : Rcd A β (evt ts (enG β fs.gs) (bod ts t) (one f)) fs fs')
    (hc : ∀ t' x', evt ts (enG β fs.gs) (bod ts t) (one f) (.call t' x') → t' < ts.length ∧ x' < 24) : FInv s A ts β t0 fs' := by
  obtain ⟨l, el, pl⟩ := R.gsP
  have hen : ∀ t x y, enG β fs'.gs t x y ↔ enG β fs.gs t x y := R.en _ (fun _ _ _ => Iff.rfl)
  have hen' : enG β fs'.gs = enG β fs.gs := funext fun a => funext fun b => funext fun c => propext (hen a b c)
  have mem : ∀ g ∈ fs'.gs, g ∈ fs.gs ∨ (g.en = -1 ∧ ∃ t', evt ts (enG β fs.gs) (bod ts t) (one f) (.call t' g.f) ∧ g.b = β t') := fun g hg => by
    rw [el] at hg
    rcases List.mem_append.1 hg with q | q
    · exact .inl q
    · exact .inr (pl g q)
  refine ⟨fun g hg => ?_, fun g hg t1 ht1 hb1 => ?_, fun g hg t1 ht1 hb1 he => ?_, fun t x y q => h.i4 t x y ((hen t x y).1 q), fun j c q => ?_, ?_, R.nod h.i7⟩
  · rcases mem g hg with q | ⟨q, t', q1, q2⟩
    · exact h.i1 g q
    · obtain ⟨c1, c2⟩ := hc t' g.f q1
      exact ⟨⟨t', c1, q2⟩, c2, by omega, by omega⟩
  · rcases mem g hg with q | ⟨q, t', q1, q2⟩
    · exact h.i2 g q t1 ht1 hb1
    · have : t1 = t' := hP.inj t1 t' ht1 (hc t' g.f q1).1 (by rw [← hb1, q2])
      subst this
      obtain ⟨u, v, r1, r2⟩ := truth_evs hB h.i4 q1
      exact (true_closed ts t0).calls u v _ _ r1 r2
  · rcases mem g hg with q | ⟨q, _⟩
    · rw [hen']; exact h.i3 g q t1 ht1 hb1 he
    · exact absurd q he
  · rcases R.cmS j c q with q | ⟨a, q1, q2⟩
    · exact h.i5 j c q
    · exact ⟨a, q1, truth_evs hB h.i4 q2⟩
  · obtain ⟨g, e1, e2⟩ := h.i6
    refine ⟨g, ?_, e2⟩
    rw [el, List.getElem?_append_left (List.getElem?_eq_some_iff.1 e1).1]; exact e1
theorem sem_lt {ts : List Tm} {E : En} (hE : ∀ t x y, E t x y → y < 24) (b : Nds) : ∀ S : Cs, (∀ y, S y → y < 24) → ∀ y, sem ts E b S y → y < 24 := by
  induction b with
  | nil => intro S h y q; exact h y q
  | cons k a nm th el tw r iht ihe ih =>
    intro S h y q
    refine ih _ (fun z hz => ?_) y q
    unfold psem at hz
    split at hz
    · obtain ⟨x, _, e⟩ := hz
      have := scn_range x nm.data.toList
      omega
    · split at hz
      · exact h z hz
      · split at hz
        · rcases hz with hz | hz
          · exact iht S h z hz
          · split at hz
            · exact ihe S h z hz
            · exact h z hz
        · split at hz
          · exact hz (fun y => y < 24) h (fun w hw => iht _ (fun _ q => q) w hw)
          · obtain ⟨x, _, e⟩ := hz; exact hE _ _ _ e
theorem lfp_lt {ts : List Tm} {E : En} (hE : ∀ t x y, E t x y → y < 24) (th : Nds) (S : Cs) (h : ∀ y, S y → y < 24) (y : Nat) (q : lfp (sem ts E th) S y) : y < 24 :=
  q (fun y => y < 24) h (fun w hw => sem_lt hE th _ (fun _ q => q) w hw)
theorem evt_call {ts : List Tm} {E : En} (hE : ∀ t x y, E t x y → y < 24) (t x : Nat) (b : Nds) : ∀ S : Cs, (∀ y, S y → y < 24) → WfN ts b → evt ts E b S (.call t x) → t < ts.length ∧ x < 24 := by
  induction b with
  | nil => intro S _ _ h; cases h.1
  | cons k a nm th el tw r iht ihe ih =>
    intro S hS hw h
    obtain ⟨hk, ha, hn, hc, w1, w2, w3⟩ := hw
    have hps : ∀ z, psem ts E k nm (sem ts E th) (sem ts E el) tw S z → z < 24 := fun z hz => sem_lt hE (.cons k a nm th el tw .nil) S hS z hz
    rcases h with ⟨h, _⟩ | h | h
    · cases h
    · unfold pevt at h
      split at h
      · cases h.1
      · split at h
        · obtain ⟨y, _, h⟩ := h
          split at h <;> cases h
        · split at h
          · rcases h with h | ⟨_, h⟩
            · exact iht _ hS w1 h
            · exact ihe _ hS w2 h
          · split at h
            · exact iht _ (fun y q => lfp_lt hE th S hS y q) w1 h
            · obtain ⟨y, hy, h⟩ := h
              cases h
              have : k = 5 := by omega
              exact ⟨tno_lt' ts nm (hc this), hS _ hy⟩
    · exact ih _ hps w3 h
theorem enG_lt {β : Nat → Nat} {gs : List Gp} (h : ∀ g ∈ gs, -1 ≤ g.en ∧ g.en ≤ 23) (t x y : Nat) (q : enG β gs t x y) : y < 24 := by
  obtain ⟨g, q1, q2⟩ := q
  have := h g (hasG_mem q1).1
  omega
theorem nod_set {gs : List Gp} (h : NodG gs) {i : Nat} {g : Gp} (hg : gs[i]? = some g) (x : Int) : NodG (gs.set i ⟨g.b, g.f, x⟩) := by
  have e : ∀ l : List Gp, NodG l ↔ (l.map fun g => (g.b, g.f)).Pairwise (· ≠ ·) := by
    intro l
    unfold NodG
    rw [List.pairwise_map]
    constructor <;> (intro q; refine q.imp ?_; intro a b hab; simpa [Prod.ext_iff] using hab)
  rw [e] at h ⊢
  have : (gs.set i ⟨g.b, g.f, x⟩).map (fun g => (g.b, g.f)) = gs.map fun g => (g.b, g.f) := by
    apply List.ext_getElem?
    intro j
    rw [List.getElem?_map, List.getElem?_map, List.getElem?_set]
    by_cases hij : i = j
    · subst hij
      rw [if_pos rfl, if_pos (List.getElem?_eq_some_iff.1 hg).1, hg]; rfl
    · rw [if_neg hij]
  rw [this]; exact h
theorem follow_ok {s : ByteArray} {A : List Ak} {ts : List Tm} {β : Nat → Nat} {t0 : Nat} (hP : Plc s ts A β) (hw : ∀ i (hi : i < ts.length), WfN ts ts[i].body) (ht0 : t0 < ts.length) {fs fs2 : FS} (h : FInv s A ts β t0 fs) {i : Nat} {g : Gp} (hg : fs.gs[i]? = some g) (hf : followF s A fs i = some fs2) :
    FInv s A ts β t0 fs2 ∧ Fol A ts β fs fs2 i g ∧ fs.gs.length ≤ fs2.gs.length ∧ pot fs.gs ≤ pot fs2.gs ∧ (fs2.grew = true → fs.grew = true ∨ pot fs.gs + 1 ≤ pot fs2.gs) := by
  have hm := List.mem_of_getElem? hg
  obtain ⟨_, hfl, hr⟩ := h.i1 g hm
  have hran := fun q hq => (h.i1 q hq).2.2
  obtain ⟨t, ht, hb, hti⟩ := pick ht0 h hg
  have hB := h.i2 g hm t ht hb
  unfold followF at hf
  rw [hg] at hf
  simp only at hf
  rw [hb] at hf
  have hElt := enG_lt (β := β) hran
  rcases follow_run hP hw t ht g.f hfl fs hran with ⟨o1, o2⟩ | ⟨x, fs', o1, o2, o3, o4, o5⟩
  · rw [o1] at hf; cases hf
  · rw [o1] at hf
    have hF : FInv s A ts β t0 fs' := h.of_rcd hP hB o5 (fun t' x' q => evt_call hElt t' x' _ _ (fun y q => by have : y = g.f := q; omega) (by rw [bod_at t ht]; exact hw t ht) q)
    obtain ⟨l, el, pl⟩ := o5.gsP
    have hil := (List.getElem?_eq_some_iff.1 hg).1
    have hg2 : fs'.gs[i]? = some g := by rw [el, List.getElem?_append_left hil]; exact hg
    have hlen : fs.gs.length ≤ fs'.gs.length := by rw [el]; simp
    have hpot : pot fs.gs + l.length ≤ pot fs'.gs := by rw [el, pot_app]; have := pot_len l; omega
    have hgr : fs'.grew = true → fs.grew = true ∨ pot fs.gs + 1 ≤ pot fs'.gs := fun q => by
      rcases o5.grT q with q | q
      · exact .inl q
      · right
        rw [el] at q
        simp at q
        have : 0 < l.length := by omega
        omega
    have hcalls : ∀ t' x', evt ts (enG β fs.gs) (bod ts t) (one g.f) (.call t' x') → (hasG fs'.gs (β t') x').isSome = true := o5.gsC
    have uniq : ∀ t1, t1 < ts.length → g.b = β t1 → t1 = t := fun t1 h1 h2 => hP.inj t1 t h1 ht (by rw [← h2, hb])
    have hen : ∀ t x y, enG β fs'.gs t x y ↔ enG β fs.gs t x y := o5.en _ (fun _ _ _ => Iff.rfl)
    simp only [endF] at hf
    split at hf
    · rename_i hx
      cases hf
      refine ⟨hF, ⟨fun t1 h1 h2 => ?_, fun q => o5.grw q, o5.cmM⟩, hlen, by omega, hgr⟩
      have := uniq t1 h1 h2
      subst this
      exact ⟨x, o2, o3, o4, fun _ => .inl hx, fun _ => .inl hx, o5.cmC, fun q t' x' q' => by rw [← (o5.grw q).2]; exact hcalls t' x' q'⟩
    · rename_i hx
      rw [hg2] at hf
      simp only at hf
      split at hf
      · rename_i hk
        cases hf
        unfold setEn
        by_cases he : g.en = -1
        · rw [if_pos he]
          obtain ⟨n, rfl⟩ : ∃ n : Nat, x = n := ⟨x.toNat, by omega⟩
          have hset := enG_set (β := β) hF.i7 hg2 he n
          have hsem : sem ts (enG β fs.gs) (bod ts t) (one g.f) n := (o3 n).2 ((opt_nat n n).2 rfl)
          have hle : ∀ t x y, enG β fs'.gs t x y → enG β (fs'.gs.set i ⟨g.b, g.f, n⟩) t x y := fun t x y q => (hset t x y).2 (.inl q)
          have mem : ∀ q ∈ fs'.gs.set i ⟨g.b, g.f, (n : Int)⟩, q ∈ fs'.gs ∨ q = ⟨g.b, g.f, n⟩ := fun q hq => by
            rcases List.mem_or_eq_of_mem_set hq with q | q
            · exact .inl q
            · exact .inr q
          have hm' := List.mem_of_getElem? hg2
          have hp := pot_set fs'.gs i g ⟨g.b, g.f, n⟩ hg2 he (by show (n : Int) ≠ -1; omega)
          refine ⟨⟨fun q hq => ?_, fun q hq t1 h1 h2 => ?_, fun q hq t1 h1 h2 h3 => ?_, fun t1 x1 y1 q => ?_, hF.i5, ?_, nod_set hF.i7 hg2 n⟩, ⟨fun t1 h1 h2 => ?_, fun q => (by cases q), o5.cmM⟩, by simpa using hlen, by simp only; omega, fun _ => .inr (by simp only; omega)⟩
          · rcases mem q hq with q' | rfl
            · exact hF.i1 q q'
            · exact ⟨(hF.i1 g hm').1, (hF.i1 g hm').2.1, by show -1 ≤ (n : Int); omega, by show (n : Int) ≤ 23; omega⟩
          · rcases mem q hq with q' | rfl
            · exact hF.i2 q q' t1 h1 h2
            · exact hF.i2 g hm' t1 h1 h2
          · rcases mem q hq with q' | rfl
            · exact sem_mono hle _ _ _ (fun _ q => q) _ (hF.i3 q q' t1 h1 h2 h3)
            · have := uniq t1 h1 h2
              subst this
              exact sem_mono (fun t x y q => hle t x y ((hen t x y).2 q)) _ _ _ (fun _ q => q) _ hsem
          · rcases (hset t1 x1 y1).1 q with q | ⟨q1, q2, q3⟩
            · exact hF.i4 t1 x1 y1 q
            · have ht1 : t1 < ts.length := by
                apply Decidable.byContradiction
                intro q
                have := hP.far t1 (by omega)
                have := beta_lt hP t ht
                omega
              have := uniq t1 ht1 q1
              subst this
              rw [← q2, q3]
              exact (true_closed ts t0).ends _ _ _ hB (sem_mono h.i4 _ _ _ (fun _ q => q) _ hsem)
          · obtain ⟨g0, e1, e2, e3⟩ := hF.i6
            show ∃ q, (fs'.gs.set i ⟨g.b, g.f, (n : Int)⟩)[0]? = some q ∧ _
            rw [List.getElem?_set]
            by_cases hi0 : i = 0
            · subst hi0
              rw [hg2] at e1
              cases e1
              rw [if_pos rfl, if_pos (List.getElem?_eq_some_iff.1 hg2).1]
              exact ⟨_, rfl, e2, e3⟩
            · rw [if_neg hi0]
              exact ⟨g0, e1, e2, e3⟩
          · have := uniq t1 h1 h2
            subst this
            refine ⟨n, o2, o3, o4, fun q => .inr ?_, fun q => (by cases q), o5.cmC, fun q => (by cases q)⟩
            rcases hk with hk | hk
            · exact absurd q hk
            · exact hk
        · rw [if_neg he]
          refine ⟨hF, ⟨fun t1 h1 h2 => ?_, fun q => o5.grw q, o5.cmM⟩, hlen, by omega, hgr⟩
          have := uniq t1 h1 h2
          subst this
          refine ⟨x, o2, o3, o4, fun q => ?_, fun _ => .inr he, o5.cmC, fun q t' x' q' => by rw [← (o5.grw q).2]; exact hcalls t' x' q'⟩
          rcases hk with hk | hk
          · exact absurd q hk
          · exact .inr hk
      · cases hf
/-- a group is followed, and nothing is new -/
def DG (A : List Ak) (ts : List Tm) (β : Nat → Nat) (fs : FS) (i : Nat) (g : Gp) (t : Nat) : Prop := ∃ x : Int, (-1 ≤ x ∧ x ≤ 23) ∧ (∀ z, sem ts (enG β fs.gs) (bod ts t) (one g.f) z ↔ opt x z) ∧ ¬ evt ts (enG β fs.gs) (bod ts t) (one g.f) .bad ∧ (i = 0 → x = -1 ∨ x = 0) ∧ (x = -1 ∨ g.en ≠ -1) ∧
    (∀ n c, evt ts (enG β fs.gs) (bod ts t) (one g.f) (.use n c) → ∃ j a, A[j]? = some a ∧ a.at' = n ∧ fs.cm j c = true) ∧ (∀ t' x', evt ts (enG β fs.gs) (bod ts t) (one g.f) (.call t' x') → (hasG fs.gs (β t') x').isSome = true)
/-- a round, up to group k -/
structure RInv (s : ByteArray) (A : List Ak) (ts : List Tm) (β : Nat → Nat) (t0 : Nat) (k : Nat) (fs : FS) : Prop where
  inv : FInv s A ts β t0 fs
  done : fs.grew = false → ∀ i g, i < k → fs.gs[i]? = some g → ∀ t, t < ts.length → g.b = β t → DG A ts β fs i g t
theorem RInv.step {s : ByteArray} {A : List Ak} {ts : List Tm} {β : Nat → Nat} {t0 : Nat} (hP : Plc s ts A β) (hw : ∀ i (hi : i < ts.length), WfN ts ts[i].body) (ht0 : t0 < ts.length) {k : Nat} {fs fs2 : FS} (h : RInv s A ts β t0 k fs) {g : Gp} (hg : fs.gs[k]? = some g) (hf : followF s A fs k = some fs2) :
    RInv s A ts β t0 (k + 1) fs2 ∧ fs.gs.length ≤ fs2.gs.length ∧ pot fs.gs ≤ pot fs2.gs ∧ (fs2.grew = true → fs.grew = true ∨ pot fs.gs + 1 ≤ pot fs2.gs) := by
  obtain ⟨h1, h2, h3, h4, h5⟩ := follow_ok hP hw ht0 h.inv hg hf
  refine ⟨⟨h1, fun q i g' hi hg' t ht hb => ?_⟩, h3, h4, h5⟩
  obtain ⟨q1, q2⟩ := h2.same q
  rw [q2] at hg'
  by_cases e : i = k
  · subst e
    rw [hg] at hg'
    cases hg'
    obtain ⟨x, a1, a2, a3, a4, a5, a6, a7⟩ := h2.all t ht hb
    exact ⟨x, a1, by rw [q2]; exact a2, by rw [q2]; exact a3, a4, a5 q, by rw [q2]; exact a6, by rw [q2]; exact a7 q⟩
  · obtain ⟨x, a1, a2, a3, a4, a5, a6, a7⟩ := h.done q1 i g' (by omega) hg' t ht hb
    refine ⟨x, a1, by rw [q2]; exact a2, by rw [q2]; exact a3, a4, a5, ?_, by rw [q2]; exact a7⟩
    rw [q2]
    intro n c hc
    obtain ⟨j, a, b1, b2, b3⟩ := a6 n c hc
    exact ⟨j, a, b1, b2, h2.cmM j c b3⟩
/-- a round that brings nothing new: what is known is the truth -/
theorem RInv.true' {s : ByteArray} {A : List Ak} {ts : List Tm} {β : Nat → Nat} {t0 : Nat} (hP : Plc s ts A β) (ht0 : t0 < ts.length) {fs : FS} (h : RInv s A ts β t0 fs.gs.length fs) (hn : fs.grew = false) :
    ¬ TBad ts t0 ∧ ∀ n c, Evs ts t0 (.use n c) ↔ ∃ j a, A[j]? = some a ∧ a.at' = n ∧ fs.cm j c = true ∧ Evs ts t0 (.use n c) := by
  have all : ∀ g ∈ fs.gs, ∀ t, t < ts.length → g.b = β t → ∃ i, DG A ts β fs i g t := fun g hg t ht hb => by
    obtain ⟨i, hi⟩ := List.mem_iff_getElem?.1 hg
    exact ⟨i, h.done hn i g (List.getElem?_eq_some_iff.1 hi).1 hi t ht hb⟩
  have hc : Closed ts t0 (fun t x => t < ts.length ∧ ∃ g ∈ fs.gs, g.b = β t ∧ g.f = x) (enG β fs.gs) := by
    refine ⟨?_, fun t x y hb hs => ?_, fun t x t' x' hb he => ?_⟩
    · obtain ⟨g, e1, e2, e3⟩ := h.inv.i6
      exact ⟨ht0, g, List.mem_of_getElem? e1, e2, e3⟩
    · obtain ⟨ht, g, hg, e2, rfl⟩ := hb
      obtain ⟨_, x, a1, a2, a3, a4, a5, _⟩ := all g hg t ht e2
      have hy : x = y := (a2 y).1 hs
      have hen : g.en ≠ -1 := by
        rcases a5 with q | q
        · omega
        · exact q
      have h3 := (a2 _).1 (h.inv.i3 g hg t ht e2 hen)
      have h4 : x = (g.en.toNat : Int) := h3
      have := (h.inv.i1 g hg).2.2
      refine ⟨g, by rw [← e2]; exact hasG_self h.inv.i7 hg, by omega⟩
    · obtain ⟨ht, g, hg, e2, rfl⟩ := hb
      obtain ⟨_, x, a1, a2, a3, a4, a5, a6, a7⟩ := all g hg t ht e2
      have q := a7 t' x' he
      cases hq : hasG fs.gs (β t') x' with
      | none => rw [hq] at q; cases q
      | some g' =>
        obtain ⟨m1, m2, m3⟩ := hasG_mem hq
        obtain ⟨⟨t2, ht2, hb2⟩, _⟩ := h.inv.i1 g' m1
        have hlt : t' < ts.length := by
          apply Decidable.byContradiction
          intro q
          have := hP.far t' (by omega)
          have := beta_lt hP t2 ht2
          omega
        exact ⟨hlt, g', m1, m2, m3⟩
  have ev : ∀ e, Evs ts t0 e → ∃ t x, (t < ts.length ∧ ∃ g ∈ fs.gs, g.b = β t ∧ g.f = x) ∧ evt ts (enG β fs.gs) (bod ts t) (one x) e := fun e he =>
    truth_of hc (fun t x ⟨ht, g, hg, e2, e3⟩ => by rw [← e3]; exact h.inv.i2 g hg t ht e2) (fun t x y _ q => h.inv.i4 t x y q) e he
  refine ⟨?_, fun n c => ⟨fun he => ?_, fun ⟨_, _, _, _, _, q⟩ => q⟩⟩
  · rintro (hb | ⟨y, hy, hE⟩)
    · obtain ⟨t, x, ⟨ht, g, hg, e2, rfl⟩, q⟩ := ev _ hb
      obtain ⟨_, x, a1, a2, a3, _⟩ := all g hg t ht e2
      exact a3 q
    · obtain ⟨g, e1, e2, e3⟩ := h.inv.i6
      have hm := List.mem_of_getElem? e1
      obtain ⟨q, q1, q2⟩ := Es_le hc t0 0 y hE
      have hs := hasG_self h.inv.i7 hm
      rw [e2, e3, q1] at hs
      cases hs
      obtain ⟨x, a1, a2, a3, a4, a5, _⟩ := h.done hn 0 g (List.getElem?_eq_some_iff.1 e1).1 e1 t0 ht0 e2
      have h3 := (a2 _).1 (h.inv.i3 g hm t0 ht0 e2 (by omega))
      have h4 : x = (g.en.toNat : Int) := h3
      have := a4 rfl
      omega
  · obtain ⟨t, x, ⟨ht, g, hg, e2, rfl⟩, q⟩ := ev _ he
    obtain ⟨_, x, a1, a2, a3, a4, a5, a6, _⟩ := all g hg t ht e2
    obtain ⟨j, a, b1, b2, b3⟩ := a6 n c q
    exact ⟨j, a, b1, b2, b3, he⟩
theorem finv0 (s : ByteArray) (A : List Ak) (ts : List Tm) (β : Nat → Nat) (t0 : Nat) (hP : Plc s ts A β) (ht0 : t0 < ts.length) : FInv s A ts β t0 ⟨[⟨β t0, 0, -1⟩], fun _ _ => false, true⟩ := by
  have noE : ∀ t x y, ¬ enG β [⟨β t0, 0, -1⟩] t x y := by
    rintro t x y ⟨g, h1, h2⟩
    have := (hasG_mem h1).1
    simp at this
    subst this
    have : (-1 : Int) = y := h2
    omega
  refine ⟨fun g hg => ?_, fun g hg t ht hb => ?_, fun g hg t ht hb he => ?_, fun t x y q => absurd q (noE t x y), fun j c q => (by cases q), ⟨_, rfl, rfl, rfl⟩, by simp [NodG]⟩
  · simp at hg; subst hg
    exact ⟨⟨t0, ht0, rfl⟩, by show 0 < 24; decide, by show (-1 : Int) ≤ -1; decide, by show (-1 : Int) ≤ 23; decide⟩
  · simp at hg; subst hg
    have := hP.inj t t0 ht ht0 hb.symm
    subst this
    exact fun B E q => q.start
  · simp at hg; subst hg
    exact absurd rfl he
end Go.Proofs.YtffkejkgkgfnhabGreat
