import Derived.Test.YtffkejkgkgfnhaaGreatG15
namespace Go.Proofs.YtffkejkgkgfnhaaGreat
set_option linter.unusedVariables false
/-! ### What the reference finds is true -/
structure Snd (ts : List Tm) (t0 : Nat) (st : RS) : Prop where
  beg : ∀ t x, x < 24 → st.beg (t * 24 + x) = true → Bs ts t0 t x
  en : ∀ t x y, x < 24 → bt (st.en (t * 24 + x)) y → Es ts t0 t x y
  used : ∀ a x, x < 24 → st.used (a * 24 + x) = true → Evs ts t0 (.use a x)
  wrong : st.wrong = true → TBad ts t0
  size : ∀ j, st.en j < 2 ^ 24
theorem key_eq {t x t' x' : Nat} (hx : x < 24) (hx' : x' < 24) (h : t * 24 + x = t' * 24 + x') : t = t' ∧ x = x' := by omega
def jevt (ts : List Tm) (E : En) : Job → Cs → Ev → Prop
  | .thr b, S, e => evt ts E b S e
  | .pce k a nm th el tw, S, e => pevt ts E k a nm (sem ts E th) (evt ts E th) (evt ts E el) tw S e
  | .lps th, S, e => evt ts E th S e
def jsem (ts : List Tm) (E : En) : Job → Cs → Cs
  | .thr b, S => sem ts E b S
  | .pce k a nm th el tw, S => psem ts E k nm (sem ts E th) (sem ts E el) tw S
  | .lps th, S => S
def jcl (ts : List Tm) (E : En) : Job → Cs → Prop
  | .lps th, S => ∀ z, sem ts E th S z → S z
  | _, _ => True
theorem Snd.wr {ts : List Tm} {t0 : Nat} {st : RS} (h : Snd ts t0 st) (b : Bool) (hb : b = true → TBad ts t0) : Snd ts t0 { st with wrong := st.wrong || b } :=
  ⟨h.beg, h.en, h.used, fun k => by
    rcases Bool.or_eq_true_iff.1 k with k | k
    · exact h.wrong k
    · exact hb k, h.size⟩
theorem run_sound {ts : List Tm} {t0 : Nat} {j : Job} {m o : Nat} {st st' : RS} (h : Run ts j m st o st') : m < 2 ^ 24 → ∀ S : Cs, (∀ y, bt m y → S y) → (∀ e, jevt ts (Es ts t0) j S e → Evs ts t0 e) → jcl ts (Es ts t0) j S → Snd ts t0 st →
    Snd ts t0 st' ∧ o < 2 ^ 24 ∧ ∀ y, bt o y → jsem ts (Es ts t0) j S y := by
  induction h with
  | @nil m st =>
    intro hm S hS hE _ hs
    refine ⟨hs.wr _ (fun hb => .inl (hE _ ⟨rfl, two_mono hS (many_two m hb)⟩)), hm, hS⟩
  | @cons k a nm th el r tw m m1 m2 st st1 st2 h h' ih ih' =>
    intro hm S hS hE _ hs
    have s0 : Snd ts t0 (placeR m st) := hs.wr _ (fun hb => .inl (hE _ (.inl ⟨rfl, two_mono hS (many_two m hb)⟩)))
    obtain ⟨s1, hm1, k1⟩ := ih hm S hS (fun e he => hE e (.inr (.inl he))) trivial s0
    exact ih' hm1 _ k1 (fun e he => hE e (.inr (.inr he))) trivial s1
  | @text a nm th el tw m st =>
    intro hm S hS hE _ hs
    refine ⟨hs.wr _ (fun hb => ?_), tOut_lt _ _ _, fun y hy => ?_⟩
    · obtain ⟨x, _, h2, h3⟩ := (tBad_iff _ _ _).1 hb
      exact .inl (hE .bad ⟨rfl, x, hS x h2, h3⟩)
    · obtain ⟨x, _, h2, h3⟩ := (tOut_iff _ _ _ _).1 hy
      exact ⟨x, hS x h2, h3⟩
  | @hole a nm th el tw m st =>
    intro hm S hS hE _ hs
    have hE' : ∀ e x, S x → (if opS x = true then e = .use a.toNat x else e = .bad) → Evs ts t0 e := fun e x h1 h2 => hE e ⟨x, h1, h2⟩
    refine ⟨⟨hs.beg, hs.en, fun a' x hx hu => ?_, fun k => ?_, hs.size⟩, hm, hS⟩
    · rcases (hUse_iff _ _ _ _ _).1 hu with h | ⟨x', h1, h2, h3, h4⟩
      · exact hs.used a' x hx h
      · obtain ⟨rfl, rfl⟩ := key_eq hx h1 h4
        exact hE' _ x (hS x h2) (by rw [if_pos h3])
    · rcases Bool.or_eq_true_iff.1 k with k | k
      · exact hs.wrong k
      · obtain ⟨x, _, h2, h3⟩ := (hBad_iff _ _).1 k
        exact .inl (hE' .bad x (hS x h2) (by rw [if_neg (by rw [h3]; decide)]))
  | @one a nm th el m f st st1 h ih =>
    intro hm S hS hE _ hs
    obtain ⟨s1, h1, k1⟩ := ih hm S hS (fun e he => hE e (.inl he)) trivial hs
    refine ⟨s1, or_lt24 h1 hm, fun y hy => ?_⟩
    rcases (bt_or _ _ _).1 hy with h | h
    · exact .inl (k1 y h)
    · exact .inr (hS y h)
  | @two a nm th el m f g st st1 st2 h h' ih ih' =>
    intro hm S hS hE _ hs
    obtain ⟨s1, h1, k1⟩ := ih hm S hS (fun e he => hE e (.inl he)) trivial hs
    obtain ⟨s2, h2, k2⟩ := ih' hm S hS (fun e he => hE e (.inr ⟨rfl, he⟩)) trivial s1
    refine ⟨s2, or_lt24 h1 h2, fun y hy => ?_⟩
    rcases (bt_or _ _ _).1 hy with h | h
    · exact .inl (k1 y h)
    · exact .inr (k2 y h)
  | @loop a nm th el tw m o st st1 h ih =>
    intro hm S hS hE _ hs
    exact ih hm (lfp (sem ts (Es ts t0) th) S) (fun y hy => lfp_in _ _ _ (hS y hy)) hE
      (fun z hz => lfp_step _ _ (sem_mono (fun _ _ _ q => q) th) z hz) hs
  | @call a nm th el tw m st =>
    intro hm S hS hE _ hs
    have hE' : ∀ x, S x → Evs ts t0 (.call (tno ts nm) x) := fun x h1 => hE _ ⟨x, h1, rfl⟩
    refine ⟨⟨fun t x hx hb => ?_, hs.en, hs.used, hs.wrong, hs.size⟩, cOut_lt _ _ _ hs.size _, fun y hy => ?_⟩
    · rcases (cBeg_iff _ _ _ _ _).1 hb with h | ⟨x', h1, h2, h3⟩
      · exact hs.beg t x hx h
      · obtain ⟨rfl, rfl⟩ := key_eq hx h1 h3
        obtain ⟨t1, x1, q1, q2⟩ := hE' x (hS x h2)
        exact (true_closed ts t0).calls t1 x1 _ _ q1 q2
    · obtain ⟨x, h1, h2, h3⟩ := (cOut_iff _ _ _ _ _).1 hy
      exact ⟨x, hS x h2, hs.en _ _ _ h1 h3⟩
  | @stop th m e st st1 h hs' ih =>
    intro hm S hS hE hcl hs
    obtain ⟨s1, h1, k1⟩ := ih hm S hS hE trivial hs
    refine ⟨s1, or_lt24 hm h1, fun y hy => ?_⟩
    rcases (bt_or _ _ _).1 hy with h | h
    · exact hS y h
    · exact hcl y (k1 y h)
  | @more th m e o st st1 st2 h h' ih ih' =>
    intro hm S hS hE hcl hs
    obtain ⟨s1, h1, k1⟩ := ih hm S hS hE trivial hs
    refine ih' (or_lt24 hm h1) S (fun y hy => ?_) hE hcl s1
    rcases (bt_or _ _ _).1 hy with h | h
    · exact hS y h
    · exact hcl y (k1 y h)
/-! ### What it does not find is not there -/
theorem run_flags {ts : List Tm} {j : Job} {m o : Nat} {st st' : RS} (h : Run ts j m st o st') : (st'.wrong = false → st.wrong = false) ∧ (st'.new = false → st.new = false ∧ st'.beg = st.beg) ∧ st'.en = st.en ∧ (∀ k, st.used k = true → st'.used k = true) ∧ (∀ k, st.beg k = true → st'.beg k = true) := by
  induction h with
  | nil => exact ⟨fun h => (Bool.or_eq_false_iff.1 h).1, fun h => ⟨h, rfl⟩, rfl, fun _ h => h, fun _ h => h⟩
  | cons h h' ih ih' =>
    obtain ⟨a1, a2, a3, a4, a5⟩ := ih
    obtain ⟨b1, b2, b3, b4, b5⟩ := ih'
    refine ⟨fun h => (Bool.or_eq_false_iff.1 (a1 (b1 h))).1, fun h => ⟨(a2 (b2 h).1).1, (b2 h).2.trans (a2 (b2 h).1).2⟩, b3.trans a3, fun k h => b4 k (a4 k h), fun k h => b5 k (a5 k h)⟩
  | text => exact ⟨fun h => (Bool.or_eq_false_iff.1 h).1, fun h => ⟨h, rfl⟩, rfl, fun _ h => h, fun _ h => h⟩
  | hole => exact ⟨fun h => (Bool.or_eq_false_iff.1 h).1, fun h => ⟨h, rfl⟩, rfl, fun k h => (hUse_iff _ _ _ _ _).2 (.inl h), fun _ h => h⟩
  | one h ih => exact ih
  | two h h' ih ih' =>
    obtain ⟨a1, a2, a3, a4, a5⟩ := ih
    obtain ⟨b1, b2, b3, b4, b5⟩ := ih'
    exact ⟨fun h => a1 (b1 h), fun h => ⟨(a2 (b2 h).1).1, (b2 h).2.trans (a2 (b2 h).1).2⟩, b3.trans a3, fun k h => b4 k (a4 k h), fun k h => b5 k (a5 k h)⟩
  | loop h ih => exact ih
  | @call a nm th el tw m st =>
    refine ⟨fun h => h, fun h => ?_, rfl, fun _ h => h, fun k h => (cBeg_iff _ _ _ _ _).2 (.inl h)⟩
    obtain ⟨h1, h2⟩ := cNew_no _ _ _ _ _ h
    refine ⟨h1, ?_⟩
    funext k
    show cBeg (tno ts nm) m st.beg 24 k = st.beg k
    rw [Bool.eq_iff_iff, cBeg_iff]
    constructor
    · rintro (h | ⟨x, q1, q2, rfl⟩)
      · exact h
      · exact h2 x q1 q2
    · exact .inl
  | stop h hs ih => exact ih
  | more h h' ih ih' =>
    obtain ⟨a1, a2, a3, a4, a5⟩ := ih
    obtain ⟨b1, b2, b3, b4, b5⟩ := ih'
    exact ⟨fun h => a1 (b1 h), fun h => ⟨(a2 (b2 h).1).1, (b2 h).2.trans (a2 (b2 h).1).2⟩, b3.trans a3, fun k h => b4 k (a4 k h), fun k h => b5 k (a5 k h)⟩
def enE (st : RS) : En := fun t x y => x < 24 ∧ bt (st.en (t * 24 + x)) y
def Rec (st : RS) : Ev → Prop
  | .bad => False
  | .use a x => x < 24 ∧ st.used (a * 24 + x) = true
  | .call t x => x < 24 ∧ st.beg (t * 24 + x) = true
theorem Rec.mono {st st' : RS} (h1 : ∀ k, st.used k = true → st'.used k = true) (h2 : ∀ k, st.beg k = true → st'.beg k = true) (e : Ev) (h : Rec st e) : Rec st' e := by
  cases e with
  | bad => exact h
  | use a x => exact ⟨h.1, h1 _ h.2⟩
  | call t x => exact ⟨h.1, h2 _ h.2⟩
def jsemL (ts : List Tm) (E : En) : Job → Cs → Cs
  | .thr b, S => sem ts E b S
  | .pce k a nm th el tw, S => psem ts E k nm (sem ts E th) (sem ts E el) tw S
  | .lps th, S => lfp (sem ts E th) S
def jevtL (ts : List Tm) (E : En) : Job → Cs → Ev → Prop
  | .thr b, S, e => evt ts E b S e
  | .pce k a nm th el tw, S, e => pevt ts E k a nm (sem ts E th) (evt ts E th) (evt ts E el) tw S e
  | .lps th, S, e => evt ts E th (lfp (sem ts E th) S) e
theorem run_full {ts : List Tm} {j : Job} {m o : Nat} {st st' : RS} (h : Run ts j m st o st') : m < 2 ^ 24 → (∀ k, st.en k < 2 ^ 24) → st'.wrong = false → st'.new = false → ∀ E : En, E = enE st →
    o < 2 ^ 24 ∧ (∀ y, jsemL ts E j (bt m) y → bt o y) ∧ (∀ e, jevtL ts E j (bt m) e → Rec st' e) := by
  induction h with
  | @nil m st =>
    intro hm hz hw hn E hE
    refine ⟨hm, fun y h => h, fun e h => ?_⟩
    obtain ⟨rfl, h⟩ := h
    have := (Bool.or_eq_false_iff.1 hw).2
    rw [two_many m h] at this; cases this
  | @cons k a nm th el r tw m m1 m2 st st1 st2 h h' ih ih' =>
    intro hm hz hw hn E hE
    obtain ⟨a1, a2, a3, a4, a5⟩ := run_flags h
    obtain ⟨b1, b2, b3, b4, b5⟩ := run_flags h'
    obtain ⟨hm1, k1, k2⟩ := ih hm hz (b1 hw) (b2 hn).1 E hE
    have hE' : E = enE st1 := by rw [hE]; unfold enE; rw [a3]; rfl
    obtain ⟨hm2, l1, l2⟩ := ih' hm1 (by rw [a3]; exact hz) hw hn E hE'
    refine ⟨hm2, fun y hy => ?_, fun e he => ?_⟩
    · exact l1 y (sem_mono (fun _ _ _ q => q) r _ _ k1 y hy)
    · rcases he with ⟨rfl, h⟩ | he | he
      · have := (Bool.or_eq_false_iff.1 (a1 (b1 hw))).2
        rw [two_many m h] at this; cases this
      · exact (k2 e he).mono b4 b5
      · exact l2 e (evt_mono (fun _ _ _ q => q) e r _ _ k1 he)
  | @text a nm th el tw m st =>
    intro hm hz hw hn E hE
    refine ⟨tOut_lt _ _ _, fun y hy => ?_, fun e he => ?_⟩
    · obtain ⟨x, h1, h2⟩ := hy
      exact (tOut_iff _ _ _ _).2 ⟨x, bt_lt m x hm h1, h1, h2⟩
    · obtain ⟨rfl, x, h1, h2⟩ := he
      have := (Bool.or_eq_false_iff.1 hw).2
      rw [(tBad_iff _ _ _).2 ⟨x, bt_lt m x hm h1, h1, h2⟩] at this; cases this
  | @hole a nm th el tw m st =>
    intro hm hz hw hn E hE
    refine ⟨hm, fun y h => h, fun e he => ?_⟩
    obtain ⟨x, h1, h2⟩ := he
    have hx := bt_lt m x hm h1
    split at h2
    · rename_i ho
      subst h2
      exact ⟨hx, (hUse_iff _ _ _ _ _).2 (.inr ⟨x, hx, h1, ho, rfl⟩)⟩
    · rename_i ho
      have := (Bool.or_eq_false_iff.1 hw).2
      rw [(hBad_iff _ _).2 ⟨x, hx, h1, by simpa using ho⟩] at this; cases this
  | @one a nm th el m f st st1 h ih =>
    intro hm hz hw hn E hE
    obtain ⟨h1, k1, k2⟩ := ih hm hz hw hn E hE
    refine ⟨or_lt24 h1 hm, fun y hy => ?_, fun e he => ?_⟩
    · rcases hy with hy | hy
      · exact (bt_or _ _ _).2 (.inl (k1 y hy))
      · exact (bt_or _ _ _).2 (.inr hy)
    · rcases he with he | ⟨he, _⟩
      · exact k2 e he
      · cases he
  | @two a nm th el m f g st st1 st2 h h' ih ih' =>
    intro hm hz hw hn E hE
    obtain ⟨a1, a2, a3, a4, a5⟩ := run_flags h
    obtain ⟨b1, b2, b3, b4, b5⟩ := run_flags h'
    obtain ⟨h1, k1, k2⟩ := ih hm hz (b1 hw) (b2 hn).1 E hE
    have hE' : E = enE st1 := by rw [hE]; unfold enE; rw [a3]
    obtain ⟨h2, l1, l2⟩ := ih' hm (by rw [a3]; exact hz) hw hn E hE'
    refine ⟨or_lt24 h1 h2, fun y hy => ?_, fun e he => ?_⟩
    · rcases hy with hy | hy
      · exact (bt_or _ _ _).2 (.inl (k1 y hy))
      · exact (bt_or _ _ _).2 (.inr (l1 y hy))
    · rcases he with he | ⟨_, he⟩
      · exact (k2 e he).mono b4 b5
      · exact l2 e he
  | @loop a nm th el tw m o st st1 h ih => intro hm hz hw hn E hE; exact ih hm hz hw hn E hE
  | @call a nm th el tw m st =>
    intro hm hz hw hn E hE
    refine ⟨cOut_lt _ _ _ hz _, fun y hy => ?_, fun e he => ?_⟩
    · obtain ⟨x, h1, h2⟩ := hy
      rw [hE] at h2
      exact (cOut_iff _ _ _ _ _).2 ⟨x, h2.1, h1, h2.2⟩
    · obtain ⟨x, h1, rfl⟩ := he
      have hx := bt_lt m x hm h1
      exact ⟨hx, (cBeg_iff _ _ _ _ _).2 (.inr ⟨x, hx, h1, rfl⟩)⟩
  | @stop th m e st st1 h hs' ih =>
    intro hm hz hw hn E hE
    obtain ⟨h1, k1, k2⟩ := ih hm hz hw hn E hE
    have heq : m ||| e = m := by
      rcases hs' with h | h
      · rw [hw] at h; cases h
      · exact h
    have hle : ∀ y, lfp (sem ts E th) (bt m) y → bt m y := fun y hy => lfp_le _ _ (bt m) (fun _ q => q) (fun z hz' => by
      have := (bt_or m e z).2 (.inr (k1 z hz'))
      rwa [heq] at this) y hy
    refine ⟨or_lt24 hm h1, fun y hy => (bt_or _ _ _).2 (.inl (hle y hy)), fun ev he => ?_⟩
    exact k2 ev (evt_mono (fun _ _ _ q => q) ev th _ _ hle he)
  | @more th m e o st st1 st2 h h' ih ih' =>
    intro hm hz hw hn E hE
    obtain ⟨a1, a2, a3, a4, a5⟩ := run_flags h
    obtain ⟨b1, b2, b3, b4, b5⟩ := run_flags h'
    obtain ⟨h1, k1, k2⟩ := ih hm hz (b1 hw) (b2 hn).1 E hE
    have hE' : E = enE st1 := by rw [hE]; unfold enE; rw [a3]
    obtain ⟨h2, l1, l2⟩ := ih' (or_lt24 hm h1) (by rw [a3]; exact hz) hw hn E hE'
    have hle : ∀ y, lfp (sem ts E th) (bt m) y → lfp (sem ts E th) (bt (m ||| e)) y := fun y hy => lfp_mono (fun _ _ q => q) (fun z hz' => (bt_or _ _ _).2 (.inl hz')) y hy
    refine ⟨h2, fun y hy => l1 y (hle y hy), fun ev he => ?_⟩
    exact l2 ev (evt_mono (fun _ _ _ q => q) ev th _ _ hle he)
end Go.Proofs.YtffkejkgkgfnhaaGreat
namespace Go.Proofs.YtffkejkgkgfnhaaGreat
set_option linter.unusedVariables false
def updN (f : Nat → Nat) (k v : Nat) : Nat → Nat := fun j => if j = k then v else f j
/-- a round, up to key k -/
inductive Rnd (ts : List Tm) (st0 : RS) : Nat → RS → Prop where
  | zero : Rnd ts st0 0 st0
  | skip {k : Nat} {st : RS} (h : Rnd ts st0 k st) (hb : st.beg k = false) : Rnd ts st0 (k + 1) st
  | same {k e : Nat} {st st1 : RS} (h : Rnd ts st0 k st) (hb : st.beg k = true) (hr : Run ts (.thr (bod ts (k / 24))) (2 ^ (k % 24)) st e st1) (hs : e ||| st1.en k = st1.en k) : Rnd ts st0 (k + 1) st1
  | grow {k e : Nat} {st st1 : RS} (h : Rnd ts st0 k st) (hb : st.beg k = true) (hr : Run ts (.thr (bod ts (k / 24))) (2 ^ (k % 24)) st e st1) (hs : e ||| st1.en k ≠ st1.en k) :
      Rnd ts st0 (k + 1) { st1 with en := updN st1.en k (st1.en k ||| e), new := true }
theorem pow_lt24 (k : Nat) : 2 ^ (k % 24) < 2 ^ 24 := Nat.pow_lt_pow_right (by decide) (Nat.mod_lt _ (by decide))
theorem bt_pow_one (x y : Nat) (h : bt (2 ^ x) y) : one x y := (bt_pow x y).1 h
theorem one_bt_pow (x y : Nat) (h : one x y) : bt (2 ^ x) y := (bt_pow x y).2 h
theorem key_split (k : Nat) : k / 24 * 24 + k % 24 = k := by omega
theorem rnd_sound {ts : List Tm} {t0 : Nat} {st0 : RS} {k : Nat} {st : RS} (h : Rnd ts st0 k st) (h0 : Snd ts t0 st0) : Snd ts t0 st := by
  have step : ∀ (k e : Nat) (st st1 : RS), Snd ts t0 st → st.beg k = true → Run ts (.thr (bod ts (k / 24))) (2 ^ (k % 24)) st e st1 → Snd ts t0 st1 ∧ e < 2 ^ 24 ∧ ∀ y, bt e y → Es ts t0 (k / 24) (k % 24) y := by
    intro k e st st1 hs hb hr
    have hB : Bs ts t0 (k / 24) (k % 24) := hs.beg _ _ (Nat.mod_lt _ (by decide)) (by rw [key_split]; exact hb)
    obtain ⟨s1, h1, k1⟩ := run_sound (t0 := t0) hr (pow_lt24 k) (one (k % 24)) (bt_pow_one _) (fun ev he => ⟨_, _, hB, he⟩) trivial hs
    exact ⟨s1, h1, fun y hy => (true_closed ts t0).ends _ _ y hB (k1 y hy)⟩
  induction h with
  | zero => exact h0
  | skip h hb ih => exact ih
  | same h hb hr hs ih => exact (step _ _ _ _ ih hb hr).1
  | @grow k e st st1 h hb hr hs ih =>
    obtain ⟨s1, h1, k1⟩ := step _ _ _ _ ih hb hr
    refine ⟨s1.beg, fun t x y hx hy => ?_, s1.used, s1.wrong, fun j => ?_⟩
    · unfold updN at hy
      simp only at hy
      split at hy
      · rename_i e1
        have ht : t = k / 24 ∧ x = k % 24 := by omega
        rcases (bt_or _ _ _).1 hy with hy | hy
        · exact s1.en t x y hx (by rw [e1]; exact hy)
        · rw [ht.1, ht.2]; exact k1 y hy
      · exact s1.en t x y hx hy
    · show updN st1.en k (st1.en k ||| e) j < 2 ^ 24
      unfold updN
      split
      · exact or_lt24 (s1.size k) h1
      · exact s1.size j
/-! ### How much is known -/
def popc (m : Nat) : Nat → Nat
  | 0 => 0
  | k + 1 => popc m k + (if m.testBit k = true then 1 else 0)
theorem popc_le (m k : Nat) : popc m k ≤ k := by
  induction k with
  | zero => simp [popc]
  | succ k ih => simp only [popc]; split <;> omega
theorem popc_mono (a b k : Nat) (h : ∀ y, bt a y → bt b y) : popc a k ≤ popc b k := by
  induction k with
  | zero => simp [popc]
  | succ k ih =>
    simp only [popc]
    by_cases ha : a.testBit k = true
    · have hb : b.testBit k = true := h k ha
      rw [if_pos ha, if_pos hb]; omega
    · rw [if_neg ha]; omega
theorem popc_strict (a b k y : Nat) (h : ∀ y, bt a y → bt b y) (hy : y < k) (ha : ¬ bt a y) (hb : bt b y) : popc a k + 1 ≤ popc b k := by
  induction k with
  | zero => omega
  | succ k ih =>
    simp only [popc]
    by_cases e : y = k
    · subst e
      have := popc_mono a b y h
      have ha' : ¬ a.testBit y = true := ha
      have hb' : b.testBit y = true := hb
      rw [if_neg ha', if_pos hb']; omega
    · have := ih (by omega)
      by_cases ha' : a.testBit k = true
      · have hb' : b.testBit k = true := h k ha'
        rw [if_pos ha', if_pos hb']; omega
      · rw [if_neg ha']; omega
def phi (st : RS) : Nat → Nat
  | 0 => 0
  | n + 1 => phi st n + (if st.beg n = true then 1 else 0) + popc (st.en n) 24
theorem phi_le (st : RS) (n : Nat) : phi st n ≤ 25 * n := by
  induction n with
  | zero => simp [phi]
  | succ n ih => have := popc_le (st.en n) 24; simp only [phi]; split <;> omega
structure Grw (st st' : RS) : Prop where
  beg : ∀ k, st.beg k = true → st'.beg k = true
  en : ∀ k y, bt (st.en k) y → bt (st'.en k) y
theorem Grw.refl (st : RS) : Grw st st := ⟨fun _ h => h, fun _ _ h => h⟩
theorem Grw.trans {a b c : RS} (h : Grw a b) (k : Grw b c) : Grw a c := ⟨fun i q => k.beg i (h.beg i q), fun i y q => k.en i y (h.en i y q)⟩
def Str (n : Nat) (st st' : RS) : Prop := (∃ k, k < n ∧ st.beg k = false ∧ st'.beg k = true) ∨ ∃ k y, k < n ∧ y < 24 ∧ ¬ bt (st.en k) y ∧ bt (st'.en k) y
theorem Str.right {n : Nat} {a b c : RS} (h : Str n a b) (k : Grw b c) : Str n a c := by
  rcases h with ⟨i, h1, h2, h3⟩ | ⟨i, y, h1, h2, h3, h4⟩
  · exact .inl ⟨i, h1, h2, k.beg i h3⟩
  · exact .inr ⟨i, y, h1, h2, h3, k.en i y h4⟩
theorem Str.left {n : Nat} {a b c : RS} (h : Grw a b) (k : Str n b c) : Str n a c := by
  rcases k with ⟨i, h1, h2, h3⟩ | ⟨i, y, h1, h2, h3, h4⟩
  · refine .inl ⟨i, h1, ?_, h3⟩
    cases hb : a.beg i
    · rfl
    · rw [h.beg i hb] at h2; cases h2
  · exact .inr ⟨i, y, h1, h2, fun q => h3 (h.en i y q), h4⟩
theorem phi_mono {st st' : RS} (h : Grw st st') (n : Nat) : phi st n ≤ phi st' n := by
  induction n with
  | zero => simp [phi]
  | succ n ih =>
    have := popc_mono (st.en n) (st'.en n) 24 (h.en n)
    simp only [phi]
    by_cases hb : st.beg n = true
    · rw [if_pos hb, if_pos (h.beg n hb)]; omega
    · rw [if_neg hb]; omega
theorem phi_strict {st st' : RS} (h : Grw st st') (n : Nat) (k : Str n st st') : phi st n + 1 ≤ phi st' n := by
  induction n with
  | zero => rcases k with ⟨i, h1, _⟩ | ⟨i, y, h1, _⟩ <;> omega
  | succ n ih =>
    have hm := phi_mono h n
    have hp := popc_mono (st.en n) (st'.en n) 24 (h.en n)
    have hb : (if st.beg n = true then 1 else 0) ≤ (if st'.beg n = true then 1 else 0) := by
      by_cases hb : st.beg n = true
      · rw [if_pos hb, if_pos (h.beg n hb)]; omega
      · rw [if_neg hb]; omega
    simp only [phi]
    rcases k with ⟨i, h1, h2, h3⟩ | ⟨i, y, h1, h2, h3, h4⟩
    · by_cases e : i = n
      · subst e
        rw [if_neg (by rw [h2]; decide), if_pos h3]; omega
      · have := ih (.inl ⟨i, by omega, h2, h3⟩); omega
    · by_cases e : i = n
      · subst e
        have := popc_strict (st.en i) (st'.en i) 24 y (h.en i) h2 h3 h4
        omega
      · have := ih (.inr ⟨i, y, by omega, h2, h3, h4⟩); omega
theorem tno_lt (ts : List Tm) (nm : ByteArray) (h : 0 < ts.length) : tno ts nm < ts.length := by
  have := fndF_range nm ts 0
  unfold tno; omega
theorem cNew_yes (t m : Nat) (f : Nat → Bool) (k : Nat) (h : cNew t m f false k = true) : ∃ x, x < k ∧ bt m x ∧ f (t * 24 + x) = false := by
  induction k with
  | zero => simp [cNew] at h
  | succ k ih =>
    simp only [cNew, Bool.or_eq_true, Bool.and_eq_true, Bool.not_eq_true'] at h
    rcases h with h | ⟨h1, h2⟩
    · obtain ⟨x, h1, h2, h3⟩ := ih h; exact ⟨x, by omega, h2, h3⟩
    · exact ⟨k, by omega, h1, h2⟩
theorem run_grow {ts : List Tm} {j : Job} {m o : Nat} {st st' : RS} (h : Run ts j m st o st') (ht : 0 < ts.length) : Grw st st' ∧ (st'.new = true → st.new = true ∨ Str (ts.length * 24) st st') ∧ (∀ k, st'.beg k = true → st.beg k = true ∨ k < ts.length * 24) := by
  have comb : ∀ {a b c : RS}, (Grw a b ∧ (b.new = true → a.new = true ∨ Str (ts.length * 24) a b) ∧ (∀ k, b.beg k = true → a.beg k = true ∨ k < ts.length * 24)) → (Grw b c ∧ (c.new = true → b.new = true ∨ Str (ts.length * 24) b c) ∧ (∀ k, c.beg k = true → b.beg k = true ∨ k < ts.length * 24)) →
      (Grw a c ∧ (c.new = true → a.new = true ∨ Str (ts.length * 24) a c) ∧ (∀ k, c.beg k = true → a.beg k = true ∨ k < ts.length * 24)) := by
    intro a b c h k
    refine ⟨h.1.trans k.1, fun q => ?_, fun i q => ?_⟩
    · rcases k.2.1 q with q | q
      · rcases h.2.1 q with q | q
        · exact .inl q
        · exact .inr (q.right k.1)
      · exact .inr (Str.left h.1 q)
    · rcases k.2.2 i q with q | q
      · exact h.2.2 i q
      · exact .inr q
  induction h with
  | nil => exact ⟨⟨fun _ h => h, fun _ _ h => h⟩, fun h => .inl h, fun _ h => .inl h⟩
  | @cons k a nm th el r tw m m1 m2 st st1 st2 h h' ih ih' => exact comb (comb (b := placeR m st) ⟨⟨fun _ h => h, fun _ _ h => h⟩, fun h => .inl h, fun _ h => .inl h⟩ ih) ih'
  | text => exact ⟨⟨fun _ h => h, fun _ _ h => h⟩, fun h => .inl h, fun _ h => .inl h⟩
  | hole => exact ⟨⟨fun _ h => h, fun _ _ h => h⟩, fun h => .inl h, fun _ h => .inl h⟩
  | one h ih => exact ih
  | two h h' ih ih' => exact comb ih ih'
  | loop h ih => exact ih
  | @call a nm th el tw m st =>
    have hl := tno_lt ts nm ht
    refine ⟨⟨fun k h => (cBeg_iff _ _ _ _ _).2 (.inl h), fun _ _ h => h⟩, fun h => ?_, fun k h => ?_⟩
    · cases hn : st.new
      · have h' : cNew (tno ts nm) m st.beg st.new 24 = true := h
        rw [hn] at h'
        obtain ⟨x, h1, h2, h3⟩ := cNew_yes _ _ _ _ h'
        exact .inr (.inl ⟨_, by omega, h3, (cBeg_iff _ _ _ _ _).2 (.inr ⟨x, h1, h2, rfl⟩)⟩)
      · exact .inl rfl
    · rcases (cBeg_iff _ _ _ _ _).1 h with h | ⟨x, h1, h2, h3⟩
      · exact .inl h
      · right; omega
  | stop h hs ih => exact ih
  | more h h' ih ih' => exact comb ih ih'
theorem or_same (a b : Nat) (h : ∀ y, bt a y → bt b y) : a ||| b = b := by
  apply Nat.eq_of_testBit_eq
  intro y
  rw [Nat.testBit_or]
  cases ha : a.testBit y
  · rfl
  · have := h y ha; rw [bt] at this; rw [this]; rfl
theorem or_new (a b : Nat) (ha : a < 2 ^ 24) (h : a ||| b ≠ b) : ∃ y, y < 24 ∧ bt a y ∧ ¬ bt b y := by
  apply Classical.byContradiction
  intro hn
  apply h
  apply or_same
  intro y hy
  apply Classical.byContradiction
  intro hb
  exact hn ⟨y, bt_lt a y ha hy, hy, hb⟩
theorem rnd_grow {ts : List Tm} {t0 : Nat} {st0 : RS} {k : Nat} {st : RS} (h : Rnd ts st0 k st) (ht : 0 < ts.length) (hk : k ≤ ts.length * 24) (h0 : Snd ts t0 st0) : Grw st0 st ∧ (st.new = true → st0.new = true ∨ Str (ts.length * 24) st0 st) ∧ (∀ k, st.beg k = true → st0.beg k = true ∨ k < ts.length * 24) := by
  induction h with
  | zero => exact ⟨Grw.refl _, fun h => .inl h, fun _ h => .inl h⟩
  | skip h hb ih => exact ih (by omega)
  | same h hb hr hs ih =>
    obtain ⟨a1, a2, a3⟩ := ih (by omega)
    obtain ⟨b1, b2, b3⟩ := run_grow hr ht
    refine ⟨a1.trans b1, fun q => ?_, fun i q => ?_⟩
    · rcases b2 q with q | q
      · rcases a2 q with q | q
        · exact .inl q
        · exact .inr (q.right b1)
      · exact .inr (Str.left a1 q)
    · rcases b3 i q with q | q
      · exact a3 i q
      · exact .inr q
  | @grow k e st st1 h hb hr hs ih =>
    obtain ⟨a1, a2, a3⟩ := ih (by omega)
    obtain ⟨b1, b2, b3⟩ := run_grow hr ht
    have hS := rnd_sound h h0
    have hB : Bs ts t0 (k / 24) (k % 24) := hS.beg _ _ (Nat.mod_lt _ (by decide)) (by rw [key_split]; exact hb)
    obtain ⟨s1, h1, _⟩ := run_sound (t0 := t0) hr (pow_lt24 k) (one (k % 24)) (bt_pow_one _) (fun ev he => ⟨_, _, hB, he⟩) trivial hS
    have g2 : Grw st1 { st1 with en := updN st1.en k (st1.en k ||| e), new := true } := by
      refine ⟨fun _ h => h, fun j y hy => ?_⟩
      show bt (updN st1.en k (st1.en k ||| e) j) y
      unfold updN
      split
      · rename_i e1; subst e1; exact (bt_or _ _ _).2 (.inl hy)
      · exact hy
    obtain ⟨y, q1, q2, q3⟩ := or_new e (st1.en k) h1 hs
    have s2 : Str (ts.length * 24) st1 { st1 with en := updN st1.en k (st1.en k ||| e), new := true } := by
      refine .inr ⟨k, y, by omega, q1, q3, ?_⟩
      show bt (updN st1.en k (st1.en k ||| e) k) y
      unfold updN; rw [if_pos rfl]; exact (bt_or _ _ _).2 (.inr q2)
    refine ⟨(a1.trans b1).trans g2, fun _ => .inr (Str.left (a1.trans b1) s2), fun i q => ?_⟩
    rcases b3 i q with q | q
    · exact a3 i q
    · exact .inr q
/-- a round that brings nothing new and finds nothing wrong has found all -/
theorem rnd_full {ts : List Tm} {st0 : RS} {k : Nat} {st : RS} (h : Rnd ts st0 k st) (hz : ∀ j, st0.en j < 2 ^ 24) (hn : st.new = false) : st.en = st0.en ∧ st.beg = st0.beg ∧ (∀ j, st0.used j = true → st.used j = true) ∧ (st.wrong = false → st0.wrong = false ∧
    ∀ j, j < k → st.beg j = true → (∀ y, sem ts (enE st) (bod ts (j / 24)) (one (j % 24)) y → bt (st.en j) y) ∧ ∀ e, evt ts (enE st) (bod ts (j / 24)) (one (j % 24)) e → Rec st e) := by
  induction h with
  | zero => exact ⟨rfl, rfl, fun _ h => h, fun hw => ⟨hw, fun j hj => absurd hj (by omega)⟩⟩
  | @skip k st h hb ih =>
    obtain ⟨h1, h2, h3, h4⟩ := ih hn
    refine ⟨h1, h2, h3, fun hw => ⟨(h4 hw).1, fun j hj hbj => ?_⟩⟩
    by_cases e : j = k
    · subst e; rw [hb] at hbj; cases hbj
    · exact (h4 hw).2 j (by omega) hbj
  | @same k e st st1 h hb hr hs ih =>
    obtain ⟨f1, f2, f3, f4, f5⟩ := run_flags hr
    obtain ⟨h1, h2, h3, h4⟩ := ih (f2 hn).1
    have hE : enE st1 = enE st := by unfold enE; rw [f3]
    refine ⟨f3.trans h1, (f2 hn).2.trans h2, fun j q => f4 j (h3 j q), fun hw => ⟨(h4 (f1 hw)).1, fun j hj hbj => ?_⟩⟩
    by_cases ej : j = k
    · subst ej
      obtain ⟨g1, g2, g3⟩ := run_full hr (pow_lt24 j) (by rw [h1]; exact hz) hw hn (enE st) rfl
      rw [hE]
      refine ⟨fun y hy => ?_, fun ev he => ?_⟩
      · have := g2 y (sem_mono (fun _ _ _ q => q) _ _ _ (fun z hz' => one_bt_pow _ _ hz') y hy)
        have h5 := (bt_or e (st1.en j) y).2 (.inl this)
        rwa [hs] at h5
      · exact g3 ev (evt_mono (fun _ _ _ q => q) ev _ _ _ (fun z hz' => one_bt_pow _ _ hz') he)
    · have hbj' : st.beg j = true := by rw [← (f2 hn).2]; exact hbj
      obtain ⟨k1, k2⟩ := (h4 (f1 hw)).2 j (by omega) hbj'
      rw [hE, f3]
      exact ⟨k1, fun ev he => (k2 ev he).mono f4 f5⟩
  | grow h hb hr hs ih => cases hn
/-! ### All rounds -/
structure Wst (ts : List Tm) (t0 : Nat) (k : Nat) (st : RS) : Prop where
  snd : Snd ts t0 st
  beg : st.beg (t0 * 24) = true
  low : ∀ j, st.beg j = true → j < ts.length * 24
  more : st.new = true → k + 1 ≤ phi st (ts.length * 24)
  done : st.new = false → st.wrong = false → Closed ts t0 (fun t x => x < 24 ∧ st.beg (t * 24 + x) = true) (enE st) ∧ ∀ t x e, x < 24 → st.beg (t * 24 + x) = true → evt ts (enE st) (bod ts t) (one x) e → Rec st e
theorem wst_round {ts : List Tm} {t0 k : Nat} {st st' : RS} (h : Wst ts t0 k st) (ht : t0 < ts.length) (hn : st.new = true) (hr : Rnd ts { st with new := false } (ts.length * 24) st') : Wst ts t0 (k + 1) st' := by
  have s0 : Snd ts t0 { st with new := false } := ⟨h.snd.beg, h.snd.en, h.snd.used, h.snd.wrong, h.snd.size⟩
  obtain ⟨g1, g2, g3⟩ := rnd_grow hr (by omega) (Nat.le_refl _) s0
  have low' : ∀ j, st'.beg j = true → j < ts.length * 24 := fun j q => by
    rcases g3 j q with q | q
    · exact h.low j q
    · exact q
  refine ⟨rnd_sound hr s0, g1.beg _ h.beg, low', fun q => ?_, fun q hw => ?_⟩
  · rcases g2 q with q | q
    · cases q
    · have := phi_strict g1 _ q
      have e : phi { st with new := false } (ts.length * 24) = phi st (ts.length * 24) := by
        have : ∀ n, phi { st with new := false } n = phi st n := by
          intro n; induction n with
          | zero => rfl
          | succ n ih => simp only [phi, ih]
        exact this _
      have := h.more hn
      omega
  · obtain ⟨f1, f2, f3, f4⟩ := rnd_full hr s0.size q
    obtain ⟨_, f5⟩ := f4 hw
    have all : ∀ t x, x < 24 → st'.beg (t * 24 + x) = true → (∀ y, sem ts (enE st') (bod ts t) (one x) y → bt (st'.en (t * 24 + x)) y) ∧ ∀ e, evt ts (enE st') (bod ts t) (one x) e → Rec st' e := by
      intro t x hx hb
      have := f5 (t * 24 + x) (low' _ hb) hb
      rwa [show (t * 24 + x) / 24 = t by omega, show (t * 24 + x) % 24 = x by omega] at this
    refine ⟨⟨⟨by decide, by simpa using g1.beg _ h.beg⟩, fun t x y hb hs => ⟨hb.1, (all t x hb.1 hb.2).1 y hs⟩, fun t x t' x' hb he => (all t x hb.1 hb.2).2 _ he⟩, fun t x e hx hb he => (all t x hx hb).2 e he⟩
theorem wst_end {ts : List Tm} {t0 k : Nat} {st : RS} (h : Wst ts t0 k st) (hl : ts.length ≤ 6) (hk : k < 3601 → st.new = false) : st.new = false := by
  cases hn : st.new
  · rfl
  · have h1 := h.more hn
    have h2 := phi_le st (ts.length * 24)
    by_cases hk' : k < 3601
    · rw [hk hk'] at hn; cases hn
    · omega
/-- what the reference answers, by the truth -/
theorem wst_true {ts : List Tm} {t0 k : Nat} {st : RS} (h : Wst ts t0 k st) (hn : st.new = false) (W : Bool) (hW : W = true ↔ st.wrong = true ∨ ∃ y, y ≠ 0 ∧ bt (st.en (t0 * 24)) y) :
    (W = true ↔ TBad ts t0) ∧ (W = false → ∀ a x, x < 24 → (st.used (a * 24 + x) = true ↔ Evs ts t0 (.use a x))) := by
  have fwd : W = true → TBad ts t0 := by
    intro q
    rcases hW.1 q with q | ⟨y, h1, h2⟩
    · exact h.snd.wrong q
    · exact .inr ⟨y, h1, h.snd.en t0 0 y (by decide) (by simpa using h2)⟩
  have full : W = false → Closed ts t0 (fun t x => x < 24 ∧ st.beg (t * 24 + x) = true) (enE st) ∧ (∀ t x e, x < 24 → st.beg (t * 24 + x) = true → evt ts (enE st) (bod ts t) (one x) e → Rec st e) := by
    intro q
    refine h.done hn ?_
    cases hw : st.wrong
    · rfl
    · rw [hW.2 (.inl hw)] at q; cases q
  have ev : W = false → ∀ e, Evs ts t0 e → Rec st e := by
    intro q e he
    obtain ⟨hc, hf⟩ := full q
    obtain ⟨t, x, h1, h2⟩ := truth_of hc (fun t x hb => h.snd.beg t x hb.1 hb.2) (fun t x y _ he => h.snd.en t x y he.1 he.2) e he
    exact hf t x e h1.1 h1.2 h2
  refine ⟨⟨fwd, fun hT => ?_⟩, fun q a x hx => ⟨h.snd.used a x hx, fun he => (ev q _ he).2⟩⟩
  cases hq : W
  · rcases hT with hT | ⟨y, h1, h2⟩
    · exact (ev hq _ hT).elim
    · have h3 : enE st t0 0 y := Es_le (full hq).1 _ _ _ h2
      have := hW.2 (.inr ⟨y, h1, by simpa using h3.2⟩)
      rw [hq] at this; cases this
  · rfl
end Go.Proofs.YtffkejkgkgfnhaaGreat
