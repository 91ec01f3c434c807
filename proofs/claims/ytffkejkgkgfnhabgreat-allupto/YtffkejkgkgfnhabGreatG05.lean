import Derived.Test.YtffkejkgkgfnhabGreatG04
import Derived.Test.YtffkejkgkgfnhabGreatG01
namespace Go.Proofs.YtffkejkgkgfnhabGreat
open Go.RowKit
set_option linter.unusedVariables false
structure Tm where
  name : ByteArray
  at' : Nat
  body : Nds
def RowT (w : World) (A : Nat → Prop) : List Tm → List Value → Prop
  | [] => fun xs => xs = []
  | t :: r => fun xs => ∃ (a : Option Addr) (n c : Nat) (ys : List Value), xs = [Value.string t.name, .int .i64 t.at', .slice a n c] ++ ys ∧ Slc w A 102 (.slice a n c) t.body ∧ RowT w A r ys
theorem RowT.mono {w w' : World} {A A' : Nat → Prop} (hw : ∀ k, A k → w'.heap[k]? = w.heap[k]?) (hA : ∀ k, A k → A' k) : ∀ (ts : List Tm) (xs : List Value), RowT w A ts xs → RowT w' A' ts xs
  | [], xs, h => h
  | t :: r, xs, h => by
    obtain ⟨a, n, c, ys, h1, h2, h3⟩ := h
    exact ⟨a, n, c, ys, h1, h2.mono hw hA, RowT.mono hw hA r ys h3⟩
theorem RowT.app {w : World} {A : Nat → Prop} : ∀ (ts us : List Tm) (xs ys : List Value), RowT w A ts xs → RowT w A us ys → RowT w A (ts ++ us) (xs ++ ys)
  | [], us, xs, ys, h, k => by
    have h' : xs = [] := h
    subst h'; simpa using k
  | t :: r, us, xs, ys, h, k => by
    obtain ⟨a, n, c, zs, rfl, h2, h3⟩ := h
    exact ⟨a, n, c, zs ++ ys, by simp, h2, RowT.app r us zs ys h3 k⟩
theorem RowT.len {w : World} {A : Nat → Prop} : ∀ (ts : List Tm) (xs : List Value), RowT w A ts xs → xs.length = ts.length * 3
  | [], xs, h => by
    have h' : xs = [] := h
    subst h'; rfl
  | t :: r, xs, h => by
    obtain ⟨a, n, c, ys, rfl, _, h3⟩ := h
    have := RowT.len r ys h3
    simp [this]; omega
inductive TFlat (s : ByteArray) : List Tm → List Ak → Nat → Prop where
  | nil : TFlat s [] [] 0
  | snoc {ts : List Tm} {A B : List Ak} {p e : Nat} {b : Nds} (h : TFlat s ts A p) (hl : ts.length < 6) (hk : (act s p).kind = 1) (hb : Flat s 0 b (act s p).next B e) (he : (act s e).kind = 2) :
      TFlat s (ts ++ [⟨(act s p).name, p, b⟩]) (A ++ ⟨1, (act s p).name, p⟩ :: (B ++ [⟨2, (act s e).name, e⟩])) (act s e).next
theorem TFlat.zero {s : ByteArray} {ts : List Tm} {A : List Ak} {p : Nat} (h : TFlat s ts A p) : (p = 0 ∧ ts = [] ∧ A = []) ∨ (0 < p ∧ ts ≠ []) := by
  cases h with
  | nil => exact .inl ⟨rfl, rfl, rfl⟩
  | @snoc ts A B p e b h hl hk hb he => right; have := act_next s e (by omega); exact ⟨by omega, by simp⟩
theorem TFlat.reach {s : ByteArray} {ts : List Tm} {A : List Ak} {p : Nat} (h : TFlat s ts A p) : Reach s init ⟨p, false, ts.length, [], A⟩ := by
  induction h with
  | nil => exact .refl _
  | @snoc ts A B p e b h hl hk hb he ih =>
    have s1 := step_act s p ts.length [] A true (ts.length + 1) [] false (by omega) (by rw [hk]; simp [takeS, hl])
    rw [hk] at s1
    have r1 := hb.reach (ts.length + 1) [] (A ++ [⟨1, (act s p).name, p⟩]) rfl
    have s2 := step_act s e (ts.length + 1) [] (A ++ [⟨1, (act s p).name, p⟩] ++ B) false (ts.length + 1) [] true (by omega) (by rw [he]; simp [takeS])
    rw [he] at s2
    have := ih.trans (.step s1 (r1.trans (.step s2 (.refl _))))
    simpa [List.append_assoc] using this
theorem terr_begin (s : ByteArray) (ts : List Tm) (A : List Ak) (q : Nat) (h : TFlat s ts A q) (hq : q ≤ s.size) (hk : (act s q).kind ≠ 1 ∨ ¬ ts.length < 6) (h0 : q < s.size ∨ q = 0) : Ends s init (.err q) := by
  refine Ends.of h.reach (ends_err ?_)
  by_cases hlt : q < s.size
  · refine step_err s q ts.length [] A false hlt (fun h => by cases h) ?_
    simp only [takeS, if_true]; rw [if_neg (by omega)]
  · have : q = 0 := by omega
    subst this
    rcases h.zero with ⟨_, rfl, rfl⟩ | ⟨h1, _⟩
    · have e0 : s.size = 0 := by omega
      simp [stepC, e0]
    · omega
theorem treach_in (s : ByteArray) (ts : List Tm) (A : List Ak) (q : Nat) (h : TFlat s ts A q) (hk : (act s q).kind = 1) (hl : ts.length < 6) : ∃ acts, Reach s init ⟨(act s q).next, true, ts.length + 1, [], acts⟩ := by
  have s1 := step_act s q ts.length [] A true (ts.length + 1) [] false (by omega) (by rw [hk]; simp [takeS, hl])
  exact ⟨_, h.reach.trans (Reach.one s1)⟩
theorem terr_in (s : ByteArray) (ts : List Tm) (A : List Ak) (q wr : Nat) (h : TFlat s ts A q) (hk : (act s q).kind = 1) (hl : ts.length < 6) (hE : EndsErr s (act s q).next 0 wr) : Ends s init (.err wr) := by
  obtain ⟨acts, r⟩ := treach_in s ts A q h hk hl
  exact Ends.of r (hE _ _ _ rfl)
theorem terr_term (s : ByteArray) (ts : List Tm) (A B : List Ak) (q e : Nat) (b : Nds) (h : TFlat s ts A q) (hk : (act s q).kind = 1) (hl : ts.length < 6) (hb : Flat s 0 b (act s q).next B e) (he : (act s e).kind = 5 ∨ (act s e).kind = 7) : Ends s init (.err e) := by
  obtain ⟨acts, r⟩ := treach_in s ts A q h hk hl
  obtain ⟨_, _, h1, h2⟩ := act_next s e (by omega)
  refine Ends.of (r.trans (hb.reach _ _ _ rfl)) (ends_err (step_err s e _ _ _ true (by omega) (fun _ => by rw [h2]; decide) ?_))
  rcases he with he | he <;> rw [he] <;> simp [takeS]
theorem tfin (s : ByteArray) (ts : List Tm) (A : List Ak) (q : Nat) (h : TFlat s ts A q) (hq : ¬ q < s.size) (h0 : q ≠ 0) : Ends s init (.fin A) := by
  refine ⟨_, h.reach, ?_, trivial⟩
  rcases h.zero with ⟨h1, _⟩ | ⟨_, h1⟩
  · omega
  · have : ts.length ≠ 0 := by intro e; exact h1 (List.length_eq_zero_iff.1 e)
    simp [stepC, hq]
    intro e; exact absurd e h1
theorem rowT_step {B : Nat} {wr wa w3 : World} {lv : Value} {ts us : List Tm} {xs ys : List Value} {g n c : Nat} (hr : RowT wr (ownA B wr lv) ts xs) (hb : Below wr.heap.size wr wa)
    (hone : RowT wa (rng wr.heap.size wa.heap.size) us ys) (hg : wa.grownBy w3 lv.ownBlock) (hat : lv.ownBlock = some g ∨ g = wa.heap.size) (hlv : ∀ k, lv.ownBlock = some k → k < wr.heap.size) (hB : B ≤ wr.heap.size) :
    RowT w3 (ownA B w3 (.slice (some ⟨g, 0, none⟩) n c)) (ts ++ us) (xs ++ ys) := by
  have hz := hb.size
  have hz3 := hg.size
  refine RowT.app ts us xs ys (RowT.mono (fun k hk => ?_) (fun k hk => ?_) ts xs hr) (RowT.mono (fun k hk => ?_) (fun k hk => ?_) us ys hone)
  · obtain ⟨h1, h2, h3⟩ := hk
    rw [hg.block k (by omega) h3, hb.block k h2]
  · obtain ⟨h1, h2, h3⟩ := hk
    refine ⟨h1, by omega, ?_⟩
    rcases hat with h | h
    · rw [h] at h3; exact h3
    · simp [Value.ownBlock]; omega
  · obtain ⟨h1, h2⟩ := hk
    refine hg.block k h2 ?_
    intro e
    have := hlv k e.symm
    omega
  · obtain ⟨h1, h2⟩ := hk
    refine ⟨by omega, by omega, ?_⟩
    simp only [Value.ownBlock, ne_eq, Option.some.injEq]
    rcases hat with h | h
    · have := hlv g h; omega
    · omega
theorem info88 : (Tryz.prog.info? 72).map (fun i => (i.zero, i.size, i.bytes)) = some (some (.agg #[.string ⟨#[]⟩, .int .i64 0, .slice none 0 0]), 3, 48) := by kernel_rfl
theorem tm_cells (w : World) (nm : ByteArray) (a : Int) (ta : Option Addr) (tn tc : Nat) : ∀ (j : Nat) (u : Value), [Value.string nm, .int .i64 a, .slice ta tn tc][j]? = some u →
    (w.alloc (.cells #[.string nm, .int .i64 a, .slice ta tn tc] 72)).cell? ((⟨w.heap.size, 0, none⟩ : Addr).add j) = some u := by
  intro j u hj
  match j, hj with
  | 0, hj => simp at hj; subst hj; simp [Addr.add]
  | 1, hj => simp at hj; subst hj; simp [Addr.add]
  | 2, hj => simp at hj; subst hj; simp [Addr.add]
  | j + 3, hj => simp at hj
theorem tm_one (nm : ByteArray) (a : Int) (ta : Option Addr) (tn tc : Nat) : ∀ u ∈ [Value.string nm, .int .i64 a, .slice ta tn tc], u.oneCell' = true := by
  intro u hu
  simp at hu
  rcases hu with rfl | rfl | rfl <;> rfl
theorem heap_one (w : World) (o : Obj) (k : Nat) (h : k < w.heap.size) : (w.alloc o).heap[k]? = w.heap[k]? := Below.heap_alloc _ _ _ h
def TmplPost (s : ByteArray) (w : World) (e : Ending) (w' : World) : Prop :=
  (∃ wr : Nat, e = .returned (.tuple #[.slice none 0 0, .int .i64 wr]) ∧ Ends s init (.err wr)) ∨
  (∃ (a : Option Addr) (c : Nat) (ts : List Tm) (A : List Ak), e = .returned (.tuple #[.slice a ts.length c, .int .i64 (-1)]) ∧ TFlat s ts A s.size ∧ Ends s init (.fin A) ∧ ts.length ≤ 6 ∧ SlcX w' (rng w.heap.size w'.heap.size) 72 3 (.slice a ts.length c) ts.length (RowT w' (rng w.heap.size w'.heap.size) ts))
theorem slcT {B : Nat} {w : World} {v : Value} {ts : List Tm} {xs : List Value} (h : w.ownsRow B 72 3 v ts.length xs) (hr : RowT w (ownA B w v) ts xs) : SlcX w (rng B w.heap.size) 72 3 v ts.length (RowT w (rng B w.heap.size) ts) := by
  have hr' : RowT w (rng B w.heap.size) ts xs := RowT.mono (fun _ _ => rfl) (fun k hk => ⟨hk.1, hk.2.1⟩) ts xs hr
  rcases h.2 with ⟨rfl, h0⟩ | ⟨g, cap, cur, rfl, hb, hg, hn, hm, hs, ht⟩
  · have hx : xs = [] := List.length_eq_zero_iff.1 (by rw [h.1, h0])
    subst hx
    exact .inl ⟨rfl, h0, hr'⟩
  · exact .inr ⟨g, cap, cur, rfl, h.lt g rfl, hg, hn, hm, hs, by rw [ht]; exact hr'⟩
theorem ownT_form {B ty sz : Nat} {w : World} {v : Value} {n : Nat} {xs : List Value} (h : w.ownsRow B ty sz v n xs) : ∃ a c, v = .slice a n c := by
  rcases h.2 with ⟨rfl, rfl⟩ | ⟨g, cap, cur, rfl, _⟩
  · exact ⟨_, _, rfl⟩
  · exact ⟨_, _, rfl⟩
theorem sg_ne (k : Int) (hr : 0 ≤ k ∧ k ≤ 8) (h : k ≠ 1) : (sg k != 43) = true := by
  have : k = 0 ∨ k = 2 ∨ k = 3 ∨ k = 4 ∨ k = 5 ∨ k = 6 ∨ k = 7 ∨ k = 8 := by omega
  rcases this with rfl | rfl | rfl | rfl | rfl | rfl | rfl | rfl <;> decide
set_option maxRecDepth 100000 in
set_option maxHeartbeats 8000000 in
theorem c59 (s : ByteArray) (w : World) (hs : s.size ≤ 1000) : Calls Tryz.prog 31 #[.string s] w fun e w' => Below w.heap.size w w' ∧ TmplPost s w e w' := by
  obtain ⟨i0, hi, hz0, hz1, hz2⟩ := info_parts info88
  go_enter Tryz.func31, Tryz.ntmps31
  go_wp2
  go_loopw [4, 5, 6, 7, 8, 9, 10, 11, 12] (fun lv pv _ _ _ _ _ _ _ wr => ∃ (q : Nat) (ts : List Tm) (A : List Ak) (xs : List Value), q ≤ s.size ∧ pv = .int .i64 q ∧ Hid (TFlat s ts A q) ∧ ts.length ≤ 6 ∧ wr.ownsRow w.heap.size 72 3 lv ts.length xs ∧ RowT wr (ownA w.heap.size wr lv) ts xs ∧ Below w.heap.size w wr) (fun _ pv _ _ _ _ _ _ _ _ => s.size + 1 - (intOf pv).toNat)
  case atStart => exact ⟨0, [], [], [], Nat.zero_le _, rfl, TFlat.nil, by simp, World.ownsRow_nil _ _ _ _, rfl, Below.refl _ _⟩
  case round =>
    obtain ⟨q, ts, A, xs, hq, rfl, HF, hl6, hown, hrow, hbel⟩ := hrel
    have HR := hidS hrow
    clear hrow
    have hbs := hbel.size
    obtain ⟨fa, fc, hfv⟩ := ownT_form hown
    subst hfv
    by_cases hgo : q < s.size
    · have Ha := hidS (c83 s)
      have hg1 : (q : Int) < (s.size : Int) := by omega
      go_wp2_with fail
      refine (Ha.out q _ (by omega) (by omega)).mono ?_
      rintro e w1 ⟨rfl, n, hw1⟩
      have hown1 : w1.ownsRow w.heap.size 72 3 (.slice fa ts.length fc) ts.length xs := by rw [hw1]; exact hown
      have HR1 : Hid (RowT w1 (ownA w.heap.size w1 (.slice fa ts.length fc)) ts xs) := by rw [hw1]; exact RowT.mono (w := wr) (w' := wr.drewN n) (A := ownA w.heap.size wr (.slice fa ts.length fc)) (A' := ownA w.heap.size (wr.drewN n) (.slice fa ts.length fc)) (fun _ _ => rfl) (fun _ h => ⟨h.1, h.2.1, h.2.2⟩) ts xs HR.out
      have hbel1 : Below w.heap.size w w1 := by rw [hw1]; exact below_drewN hbel n
      clear hown HR hbel hw1 hbs wr
      have hown := hown1
      have HR := HR1
      have hbel := hbel1
      clear hown1 HR1 hbel1
      have hbs := hbel.size
      by_cases hk : (act s q).kind = 1
      · rw [ra_lit s q 1 43 hk rfl]
        have HK := hidS hk
        by_cases hl : ts.length < 6
        · have hl1 : ((ts.length : Int) == 6) = false := by simp; omega
          obtain ⟨m1, m2, _, _⟩ := act_next s q (by omega)
          have Hb := hidS (body_all s hs (act s q).next m2 0 w1 (by omega))
          clear hk
          go_wp2_with fail
          refine Hb.out.mono ?_
          rintro e w2 ⟨hb2, hor⟩
          have hown2 : w2.ownsRow w.heap.size 72 3 (.slice fa ts.length fc) ts.length xs := own_below hown hb2
          have hbel2 := hbel.trans (hb2.mono hbs)
          have hbs2 := hb2.size
          rcases hor with ⟨er, rfl, hE⟩ | ⟨ta, tn, tc, nb, B, e1, rfl, hF2, hq2, hT2, hS2⟩
          · have HE := hidS (terr_in s ts A q er HF.out HK.out hl hE)
            clear hE hown hown2 hbel hb2 Hb
            go_wp2
            go_ret2
            exact ⟨hbel2, .inl ⟨er, rfl, HE.out⟩⟩
          · have HF2 := hidS hF2
            have HT2 := hidS hT2
            have HS2 := hidS hS2
            have HB2 := hidS hb2
            have HL := hidS (fun k hk => (hown.lt k hk).2)
            clear hF2 hT2 hS2 hb2 hown hbel Hb
            go_wp2_with fail
            refine (Ha.out e1 _ (by omega) (by omega)).mono ?_
            rintro e w3 ⟨rfl, n3, hw3⟩
            have hown3 : w3.ownsRow w.heap.size 72 3 (.slice fa ts.length fc) ts.length xs := by rw [hw3]; exact hown2
            have HB3 : Hid (Below w1.heap.size w1 w3) := by rw [hw3]; exact below_drewN HB2.out n3
            have HS3 : Hid (Slc w3 (rng w1.heap.size w3.heap.size) 102 (.slice ta tn tc) nb) := by
              rw [hw3]; exact Slc.mono (w := w2) (w' := w2.drewN n3) (A := rng w1.heap.size w2.heap.size) (A' := rng w1.heap.size (w2.drewN n3).heap.size) HS2.out (fun _ _ => rfl) (fun _ h => ⟨h.1, h.2⟩)
            have hbel3 : Below w.heap.size w w3 := by rw [hw3]; exact below_drewN hbel2 n3
            have hz3 : w2.heap.size ≤ w3.heap.size := by rw [hw3]; exact Nat.le_refl _
            clear hw3 hown2 HB2 HS2 hbel2
            rcases HT2.out with h2 | h5 | h7
            · rw [ra_lit s e1 2 45 h2 rfl]
              have HX := hidS (TFlat.snoc HF.out hl HK.out HF2.out h2)
              obtain ⟨l1, l2, _, _⟩ := act_next s e1 (by omega)
              have HM := hidS HF2.out.le
              clear h2
              go_wp2_with (at_builtin; refine wpList_append_lies _ rfl _ _ 47 rfl w.heap.size 72 i0 (.agg #[.string ⟨#[]⟩, .int .i64 0, .slice none 0 0]) 3 48 Tryz.underlying47 hi hz0 hz1 hz2 rfl (by decide) _ _ _ rfl (hown3.alloc _) ⟨w3.heap.size, 0, none⟩ 1 1 [.string (act s q).name, .int .i64 q, .slice ta tn tc] rfl rfl ?c1 ?c2 (by decide) ?c3 ?c4 ?c5 _ rfl ?_)
              case c1 => exact tm_cells _ _ _ _ _ _
              case c2 => exact tm_one _ _ _ _ _
              case c3 => unfold maxLen; omega
              case c4 => omega
              case c5 => simp; omega
              intro g cap w4 hown4 hg4 hat4 hlt4
              have hbel4 : Below w.heap.size w w4 := (hbel3.alloc (by omega) _).grown hg4 (by simp; omega) (fun j hj => (hown3.lt j hj).1)
              have HR4 : Hid (RowT w4 (ownA w.heap.size w4 (.slice (some ⟨g, 0, none⟩) (ts.length + 1) cap)) (ts ++ [Tm.mk (act s q).name q nb]) (xs ++ [.string (act s q).name, .int .i64 q, .slice ta tn tc])) := by
                refine rowT_step HR.out (HB3.out.alloc (by omega) _) ?_ hg4 (by simpa using hat4) HL.out hbs
                refine ⟨ta, tn, tc, [], rfl, HS3.out.mono (fun k hk => heap_one _ _ k hk.2) (fun k hk => ?_), rfl⟩
                exact ⟨hk.1, by have := hk.2; simp; omega⟩
              have HO : Hid (w4.ownsRow w.heap.size 72 3 (.slice (some ⟨g, 0, none⟩) (ts.length + 1) cap) (ts ++ [Tm.mk (act s q).name q nb]).length (xs ++ [.string (act s q).name, .int .i64 q, .slice ta tn tc])) := by
                show World.ownsRow _ _ _ _ _ _ _
                rw [List.length_append]; exact hown4
              clear hown4 hg4 hat4 hown3 hbel3
              go_wp2
              go_roundw
              case rel => exact ⟨(act s e1).next, _, _, _, by omega, rfl, HX.out, by simp; omega, HO.out, HR4.out, hbel4⟩
              case measure => have := HM.out; simp [intOf]; omega
            · rw [ra_lit s e1 5 58 h5 rfl]
              have HE := hidS (terr_term s ts A B q e1 nb HF.out HK.out hl HF2.out (.inl h5))
              clear h5 hown3
              go_wp2
              go_ret2
              exact ⟨hbel3, .inl ⟨e1, rfl, HE.out⟩⟩
            · rw [ra_lit s e1 7 47 h7 rfl]
              have HE := hidS (terr_term s ts A B q e1 nb HF.out HK.out hl HF2.out (.inr h7))
              clear h7 hown3
              go_wp2
              go_ret2
              exact ⟨hbel3, .inl ⟨e1, rfl, HE.out⟩⟩
        · have hl1 : ((ts.length : Int) == 6) = true := by simp; omega
          have HE := hidS (terr_begin s ts A q HF.out hq (.inr hl) (.inl hgo))
          clear hk hown
          go_wp2
          go_ret2
          exact ⟨hbel, .inl ⟨q, rfl, HE.out⟩⟩
      · have HE := hidS (terr_begin s ts A q HF.out hq (.inl hk) (.inl hgo))
        have hsg : (sg (act s q).kind != 43) = true := sg_ne _ (act_range s q) hk
        show _
        rw [raOf]
        clear hown hk
        go_wp2
        go_ret2
        exact ⟨hbel, .inl ⟨q, rfl, HE.out⟩⟩
    · by_cases h0 : q = 0
      · have HE := hidS (terr_begin s ts A q HF.out hq (.inl (by rw [act_no s q (by omega)]; decide)) (.inr h0))
        have Ha := hidS (c83 s q)
        have HV := hidS (raOf_none s q (act_no s q (by omega)))
        have hg1 : ¬ ((q : Int) < (s.size : Int)) := by omega
        have hg2 : ((q : Int) == 0) = true := by simp; omega
        clear h0 hown
        go_wp2_with fail
        refine (Ha.out _ (by omega) (by omega)).mono ?_
        rintro e w1 ⟨rfl, n, hw1⟩
        have hbel1 : Below w.heap.size w w1 := by rw [hw1]; exact below_drewN hbel n
        clear hw1 hbel
        rw [HV.out]
        go_wp2
        go_ret2
        exact ⟨hbel1, .inl ⟨q, rfl, HE.out⟩⟩
      · have hg1 : ¬ ((q : Int) < (s.size : Int)) := by omega
        have hg2 : ((q : Int) == 0) = false := by simp; omega
        have HE := hidS (tfin s ts A q HF.out (by omega) (by omega))
        have HQ : Hid (q = s.size) := by show _ = _; omega
        have HS := hidS (slcT hown HR.out)
        clear hown HR
        go_wp2
        go_ret2
        have hq' := HQ.out
        subst hq'
        exact ⟨hbel, .inr ⟨fa, fc, ts, A, rfl, HF.out, HE.out, hl6, HS.out⟩⟩
end Go.Proofs.YtffkejkgkgfnhabGreat
namespace Go.Proofs.YtffkejkgkgfnhabGreat
open Go.RowKit
set_option linter.unusedVariables false
theorem cell_of_heap {w : World} {g j : Nat} {cur : Array Value} {ty : Nat} (h : w.heap[g]? = some (.cells cur ty (0, 0))) : w.cell? ⟨g, j, none⟩ = cur[j]? := by
  simp [World.cell?, h]
theorem RowT.at {w : World} {A : Nat → Prop} : ∀ (ts : List Tm) (xs : List Value) (i : Nat) (hi : i < ts.length), RowT w A ts xs →
    ∃ (a : Option Addr) (n c : Nat), xs[i * 3]? = some (.string ts[i].name) ∧ xs[i * 3 + 1]? = some (.int .i64 ts[i].at') ∧ xs[i * 3 + 2]? = some (.slice a n c) ∧ Slc w A 102 (.slice a n c) ts[i].body
  | [], xs, i, hi, h => absurd hi (by simp)
  | t :: r, xs, 0, hi, h => by
    obtain ⟨a, n, c, ys, rfl, h2, h3⟩ := h
    exact ⟨a, n, c, rfl, rfl, rfl, h2⟩
  | t :: r, xs, i + 1, hi, h => by
    obtain ⟨a, n, c, ys, rfl, h2, h3⟩ := h
    have hi' : i < r.length := by simpa using hi
    obtain ⟨a', n', c', k1, k2, k3, k4⟩ := RowT.at r ys i hi' h3
    refine ⟨a', n', c', ?_, ?_, ?_, k4⟩
    · rw [List.getElem?_append_right (by simp; omega)]; simpa [show (i + 1) * 3 - 3 = i * 3 by omega] using k1
    · rw [List.getElem?_append_right (by simp; omega)]; simpa [show (i + 1) * 3 + 1 - 3 = i * 3 + 1 by omega] using k2
    · rw [List.getElem?_append_right (by simp; omega)]; simpa [show (i + 1) * 3 + 2 - 3 = i * 3 + 2 by omega] using k3
/-- the templates, as the walk reads them -/
def TmAt (w : World) (A : Nat → Prop) (a : Option Addr) (ts : List Tm) : Prop :=
  ts.length = 0 ∨ ∃ g, a = some ⟨g, 0, none⟩ ∧ ∀ (i : Nat) (hi : i < ts.length), w.cell? ⟨g, i * 3, none⟩ = some (.string ts[i].name) ∧ w.cell? ⟨g, i * 3 + 1, none⟩ = some (.int .i64 ts[i].at') ∧
    ∃ (ba : Option Addr) (bn bc : Nat), w.cell? ⟨g, i * 3 + 2, none⟩ = some (.slice ba bn bc) ∧ Slc w A 102 (.slice ba bn bc) ts[i].body
theorem tmAt {w : World} {A : Nat → Prop} {a : Option Addr} {c : Nat} {ts : List Tm} (h : SlcX w A 72 3 (.slice a ts.length c) ts.length (RowT w A ts)) : TmAt w A a ts := by
  rcases h with ⟨_, h0, _⟩ | ⟨g, cap, cur, hv, hA, hg, hn, hm, hs, hr⟩
  · exact .inl h0
  · right
    simp at hv
    refine ⟨g, hv.1, fun i hi => ?_⟩
    obtain ⟨ba, bn, bc, k1, k2, k3, k4⟩ := RowT.at ts _ i hi hr
    have tk : ∀ j, j < ts.length * 3 → (cur.toList.take (ts.length * 3))[j]? = cur[j]? := by
      intro j hj; rw [List.getElem?_take_of_lt hj]; simp
    rw [tk _ (by omega)] at k1 k2 k3
    refine ⟨by rw [cell_of_heap hg]; exact k1, by rw [cell_of_heap hg]; exact k2, ba, bn, bc, by rw [cell_of_heap hg]; exact k3, k4⟩
def nmEq (a b : ByteArray) : Bool := a.toList == b.toList
def fndF (nm : ByteArray) : List Tm → Nat → Int
  | [], _ => -1
  | t :: r, i => if nmEq t.name nm then i else fndF nm r (i + 1)
theorem fndF_at (nm : ByteArray) (ts : List Tm) (i : Nat) (hi : i < ts.length) : fndF nm (ts.drop i) i = if nmEq ts[i].name nm then (i : Int) else fndF nm (ts.drop (i + 1)) (i + 1) := by
  rw [List.drop_eq_getElem_cons hi]; rfl
theorem fndF_range (nm : ByteArray) (ts : List Tm) (i : Nat) : -1 ≤ fndF nm ts i ∧ fndF nm ts i < i + ts.length := by
  induction ts generalizing i with
  | nil => simp [fndF]; omega
  | cons t r ih =>
    simp only [fndF]
    split
    · simp; omega
    · have := ih (i + 1); simp; omega
set_option maxHeartbeats 2000000 in
theorem c60 (w : World) (A : Nat → Prop) (a : Option Addr) (c : Nat) (ts : List Tm) (nm : ByteArray) (hl : ts.length ≤ 6) (h : TmAt w A a ts) :
    Calls Tryz.prog 32 #[.slice a ts.length c, .string nm] w fun e w' => e = .returned (.int .i64 (fndF nm ts 0)) ∧ w' = w := by
  rcases h with h0 | ⟨g, rfl, hat⟩
  · have hn : ts = [] := List.length_eq_zero_iff.1 h0
    subst hn
    have HE : Hid (fndF nm [] 0 = -1) := rfl
    generalize fndF nm [] 0 = E at *
    go_enter Tryz.func32, Tryz.ntmps32
    go_wp2
    refine wp_loop_rounds 1 ?_
    rw [rounds_succ]
    go_wp2
    go_ret
    exact ⟨retS_int HE.out.symm, rfl⟩
  · have HAT := hidS hat
    clear hat
    go_enter Tryz.func32, Tryz.ntmps32
    go_wp2
    go_loop [5] (fun i => ∃ k : Nat, k ≤ ts.length ∧ i = .int .i64 k ∧ Hid (fndF nm ts 0 = fndF nm (ts.drop k) k)) (fun i => ts.length - (intOf i).toNat)
    case atStart => exact ⟨0, Nat.zero_le _, rfl, rfl⟩
    case round =>
      obtain ⟨k, hk, rfl, H⟩ := hrel
      by_cases hlt : k < ts.length
      · have k1 := (HAT.out k hlt).1
        have HS := hidS (fndF_at nm ts k hlt)
        cases hB : nmEq ts[k].name nm
        · have HF : Hid (fndF nm ts 0 = fndF nm (ts.drop (k + 1)) (k + 1)) := by
            show _ = _
            rw [H.out, HS.out, hB]; rfl
          unfold nmEq at hB
          clear H HS
          go_wp2
          go_round
          case rel => exact ⟨k + 1, by omega, by go_num, HF.out⟩
          case measure => simp [intOf]; omega
        · have HF : Hid (fndF nm ts 0 = k) := by
            show _ = _
            rw [H.out, HS.out, hB]; rfl
          unfold nmEq at hB
          clear H HS
          go_wp2
          go_ret
          exact ⟨retS_int HF.out.symm, rfl⟩
      · have HF : Hid (fndF nm ts 0 = -1) := by
          show _ = _
          rw [H.out, List.drop_eq_nil_of_le (by omega)]; rfl
        go_wp2
        go_ret
        exact ⟨retS_int HF.out.symm, rfl⟩
end Go.Proofs.YtffkejkgkgfnhabGreat
namespace Go.Proofs.YtffkejkgkgfnhabGreat
open Go.ChangeShapes Go.WideShapes Go.ChangeAt Go.RowKit Go.Deep
set_option linter.unusedVariables false
inductive Dat where
  | nil
  | fld (nm : ByteArray) (li : Bool) (tx : ByteArray) (rows next : Dat)
  | row (fields next : Dat)
def Dat.len : Dat → Nat
  | .nil => 0
  | .fld _ _ _ _ r => r.len + 1
  | .row _ r => r.len + 1
/-- true: rows; false: fields -/
def Dat.ok : Bool → Dat → Prop
  | _, .nil => True
  | false, .fld _ _ _ rows r => Dat.ok true rows ∧ Dat.ok false r
  | true, .row f r => Dat.ok false f ∧ Dat.ok true r
  | true, .fld _ _ _ _ _ => False
  | false, .row _ _ => False
def Dat.bulk : Dat → Nat
  | .nil => 0
  | .fld nm _ tx rows r => nm.size + tx.size + rows.bulk + r.bulk + 5
  | .row f r => f.bulk + r.bulk + 2
def Dat.cells : Dat → Nat
  | .nil => 0
  | .fld _ _ _ _ _ => 4
  | .row _ _ => 1
def DatW (A : Nat → Prop) (a : Option Addr) (n : Nat) (R : Nat → Nat → Prop) : Prop := n = 0 ∨ ∃ b off, a = some ⟨b, off, none⟩ ∧ A b ∧ R b off
/-- a list from a place of a block on; A: the blocks that it leads to -/
def DatAtA (w : World) (A : Nat → Prop) : Dat → Nat → Nat → Prop
  | .nil => fun _ _ => True
  | .fld nm li tx rows r => fun b off => w.cell? ⟨b, off, none⟩ = some (.string nm) ∧ w.cell? ⟨b, off + 1, none⟩ = some (.bool li) ∧ w.cell? ⟨b, off + 2, none⟩ = some (.string tx) ∧
      (∃ a c, w.cell? ⟨b, off + 3, none⟩ = some (.slice a rows.len c) ∧ rows.len ≤ c ∧ c ≤ maxLen ∧ DatW A a rows.len (DatAtA w A rows)) ∧ DatAtA w A r b (off + 4)
  | .row f r => fun b off => (∃ a c, w.cell? ⟨b, off, none⟩ = some (.slice a f.len c) ∧ f.len ≤ c ∧ c ≤ maxLen ∧ DatW A a f.len (DatAtA w A f)) ∧ DatAtA w A r b (off + 1)
abbrev DatAt (w : World) (N : Nat) : Dat → Nat → Nat → Prop := DatAtA w (fun k => k < N)
/-- what a list's address leads to -/
def DatVA (w : World) (A : Nat → Prop) (a : Option Addr) (d : Dat) : Prop := DatW A a d.len (DatAtA w A d)
abbrev DatV (w : World) (N : Nat) (a : Option Addr) (d : Dat) : Prop := DatVA w (fun k => k < N) a d
theorem DatAtA.mono {w w' : World} {A A' : Nat → Prop} (hA : ∀ k, A k → A' k) (hw : ∀ k, A k → w'.heap[k]? = w.heap[k]?) : ∀ (d : Dat) (b off : Nat), A b → DatAtA w A d b off → DatAtA w' A' d b off
  | .nil, b, off, hb, h => trivial
  | .fld nm li tx rows r, b, off, hb, h => by
    obtain ⟨h0, h1, h2, ⟨a, c, h3, hl, hc, hd⟩, h4⟩ := h
    have e := hw b hb
    refine ⟨(World.cell?_of_block e).trans h0, (World.cell?_of_block e).trans h1, (World.cell?_of_block e).trans h2, ⟨a, c, (World.cell?_of_block e).trans h3, hl, hc, ?_⟩, DatAtA.mono hA hw r b (off + 4) hb h4⟩
    rcases hd with h | ⟨b', off', ha, hb', hd⟩
    · exact .inl h
    · exact .inr ⟨b', off', ha, hA _ hb', DatAtA.mono hA hw rows b' off' hb' hd⟩
  | .row f r, b, off, hb, h => by
    obtain ⟨⟨a, c, h3, hl, hc, hd⟩, h4⟩ := h
    have e := hw b hb
    refine ⟨⟨a, c, (World.cell?_of_block e).trans h3, hl, hc, ?_⟩, DatAtA.mono hA hw r b (off + 1) hb h4⟩
    rcases hd with h | ⟨b', off', ha, hb', hd⟩
    · exact .inl h
    · exact .inr ⟨b', off', ha, hA _ hb', DatAtA.mono hA hw f b' off' hb' hd⟩
theorem DatVA.mono {w w' : World} {A A' : Nat → Prop} {a : Option Addr} {d : Dat} (h : DatVA w A a d) (hA : ∀ k, A k → A' k) (hw : ∀ k, A k → w'.heap[k]? = w.heap[k]?) : DatVA w' A' a d := by
  rcases h with h | ⟨b', off', ha, hb', hd⟩
  · exact .inl h
  · exact .inr ⟨b', off', ha, hA _ hb', DatAtA.mono hA hw d b' off' hb' hd⟩
theorem DatV.mono {w w' : World} {N N' : Nat} {a : Option Addr} {d : Dat} (h : DatV w N a d) (hN : N ≤ N') (hw : ∀ k, k < N → w'.heap[k]? = w.heap[k]?) : DatV w' N' a d :=
  DatVA.mono (A' := fun k => k < N') h (fun k hk => Nat.lt_of_lt_of_le hk hN) hw
theorem DatV.below {w w' : World} {N : Nat} {a : Option Addr} {d : Dat} (h : DatV w N a d) (hb : Below N w w') : DatV w' N a d := DatV.mono h (Nat.le_refl _) (fun k hk => hb.block k hk)
def Dat.drop : Dat → Nat → Dat
  | d, 0 => d
  | .nil, _ + 1 => .nil
  | .fld _ _ _ _ r, i + 1 => r.drop i
  | .row _ r, i + 1 => r.drop i
theorem Dat.drop_zero (d : Dat) : d.drop 0 = d := by cases d <;> rfl
theorem Dat.len_zero {d : Dat} (h : d.len = 0) : d = .nil := by cases d <;> simp_all [Dat.len]
theorem Dat.drop_end : ∀ (d : Dat) (i : Nat), d.len ≤ i → d.drop i = .nil
  | d, 0, h => by rw [Dat.drop_zero]; exact Dat.len_zero (by omega)
  | .nil, i + 1, _ => rfl
  | .fld _ _ _ _ r, i + 1, h => Dat.drop_end r i (by simp [Dat.len] at h; omega)
  | .row _ r, i + 1, h => Dat.drop_end r i (by simp [Dat.len] at h; omega)
/-- the i-th field of a list of fields -/
theorem DatAt.field {w : World} {A : Nat → Prop} : ∀ (d : Dat) (b off i : Nat), d.ok false → i < d.len → DatAtA w A d b off →
    ∃ nm li tx rows, d.drop i = .fld nm li tx rows (d.drop (i + 1)) ∧ rows.ok true ∧ (rows.bulk + nm.size + tx.size < d.bulk) ∧ w.cell? ⟨b, off + i * 4, none⟩ = some (.string nm) ∧ w.cell? ⟨b, off + i * 4 + 1, none⟩ = some (.bool li) ∧ w.cell? ⟨b, off + i * 4 + 2, none⟩ = some (.string tx) ∧
      ∃ a c, w.cell? ⟨b, off + i * 4 + 3, none⟩ = some (.slice a rows.len c) ∧ rows.len ≤ c ∧ c ≤ maxLen ∧ DatVA w A a rows
  | .nil, b, off, i, _, hi, _ => absurd hi (by simp [Dat.len])
  | .row _ _, b, off, i, ho, _, _ => ho.elim
  | .fld nm li tx rows r, b, off, 0, ho, hi, h => by
    obtain ⟨h0, h1, h2, h3, h4⟩ := h
    exact ⟨nm, li, tx, rows, by simp [Dat.drop, Dat.drop_zero], ho.1, by simp only [Dat.bulk]; omega, by simpa using h0, by simpa using h1, by simpa using h2, by rw [Nat.zero_mul, Nat.add_zero]; exact h3⟩
  | .fld nm li tx rows r, b, off, i + 1, ho, hi, h => by
    obtain ⟨h0, h1, h2, h3, h4⟩ := h
    obtain ⟨nm', li', tx', rows', e, k1, kb, k2, k3, k4, k5⟩ := DatAt.field r b (off + 4) i ho.2 (by simp [Dat.len] at hi; omega) h4
    have ee : off + 4 + i * 4 = off + (i + 1) * 4 := by omega
    rw [ee] at k2 k3 k4 k5
    exact ⟨nm', li', tx', rows', e, k1, by simp only [Dat.bulk]; omega, k2, k3, k4, k5⟩
theorem DatAt.rowAt {w : World} {A : Nat → Prop} : ∀ (d : Dat) (b off i : Nat), d.ok true → i < d.len → DatAtA w A d b off →
    ∃ f, d.drop i = .row f (d.drop (i + 1)) ∧ f.ok false ∧ f.bulk < d.bulk ∧ ∃ a c, w.cell? ⟨b, off + i, none⟩ = some (.slice a f.len c) ∧ f.len ≤ c ∧ c ≤ maxLen ∧ DatVA w A a f
  | .nil, b, off, i, _, hi, _ => absurd hi (by simp [Dat.len])
  | .fld _ _ _ _ _, b, off, i, ho, _, _ => ho.elim
  | .row f r, b, off, 0, ho, hi, h => by
    obtain ⟨h3, h4⟩ := h
    exact ⟨f, by simp [Dat.drop, Dat.drop_zero], ho.1, by simp only [Dat.bulk]; omega, by rw [Nat.add_zero]; exact h3⟩
  | .row f r, b, off, i + 1, ho, hi, h => by
    obtain ⟨h3, h4⟩ := h
    obtain ⟨f', e, k1, kb, k2⟩ := DatAt.rowAt r b (off + 1) i ho.2 (by simp [Dat.len] at hi; omega) h4
    have ee : off + 1 + i = off + (i + 1) := by omega
    rw [ee] at k2
    exact ⟨f', e, k1, by simp only [Dat.bulk]; omega, k2⟩
theorem Dat.len_bulk : ∀ d : Dat, d.len ≤ d.bulk
  | .nil => Nat.le_refl _
  | .fld _ _ _ _ r => by have := Dat.len_bulk r; simp only [Dat.len, Dat.bulk]; omega
  | .row _ r => by have := Dat.len_bulk r; simp only [Dat.len, Dat.bulk]; omega
end Go.Proofs.YtffkejkgkgfnhabGreat
