import Derived.Test.YtffkejkgkgfnhaaG09
import Derived.Deep.RegionHeld3
import Derived.Test.YtffkejkgkgfnhaaG10
import Derived.Test.YtffkejkgkgfnhaaG12
namespace Go.Proofs.Ytffkejkgkgfnhaa
open Go.RowKit
set_option linter.unusedVariables false
/-- the first k of a row bear the mark -/
def Mkd (M : Nat) (ys : List Value) (k : Nat) : Prop := ∀ j, j < k → ys[j * 2]? = some (.int .i64 M) ∧ ys[j * 2 + 1]? = some (.int .i64 (-(M : Int)))
theorem Mkd.next {M : Nat} {ys : List Value} {k : Nat} (h : Mkd M ys k) (hl : k * 2 + 1 < ys.length) : Mkd M ((ys.set (k * 2) (.int .i64 M)).set (k * 2 + 1) (.int .i64 (-(M : Int)))) (k + 1) := by
  intro j hj
  by_cases e : j = k
  · subst e
    refine ⟨?_, ?_⟩
    · rw [List.getElem?_set_ne (by omega), List.getElem?_set_self (by omega)]
    · rw [List.getElem?_set_self (by simp; omega)]
  · obtain ⟨h1, h2⟩ := h j (by omega)
    refine ⟨?_, ?_⟩
    · rw [List.getElem?_set_ne (by omega), List.getElem?_set_ne (by omega)]; exact h1
    · rw [List.getElem?_set_ne (by omega), List.getElem?_set_ne (by omega)]; exact h2
theorem Mkd.snoc {M : Nat} {ys : List Value} {n : Nat} (h : Mkd M ys n) (hl : ys.length = n * 2) : Mkd M (ys ++ [.int .i64 M, .int .i64 (-(M : Int))]) (n + 1) := by
  intro j hj
  by_cases e : j = n
  · subst e
    rw [List.getElem?_append_right (by omega), List.getElem?_append_right (by omega), hl]
    simp
  · rw [List.getElem?_append_left (by omega), List.getElem?_append_left (by omega)]
    exact h j (by omega)
end Go.Proofs.Ytffkejkgkgfnhaa
namespace Go.Proofs.Ytffkejkgkgfnhaa
open Go.RowKit
set_option linter.unusedVariables false
/-- what the program's Walks answers -/
def PWalk (s nm : ByteArray) (x : Int) (L : List (Nat × Nat)) : Prop :=
  (∃ y, ChkS s x y ∧ x ≠ 0 ∧ L = []) ∨ (∃ A, s.size ≤ 400 ∧ Ends s init (.fin A) ∧ twA [] A = -1 ∧ unA (seenB (names A)) A < 0 ∧ ∀ ts, TFlat s ts A s.size → WSpec ts nm x L)
def PWPost (s nm : ByteArray) (w : World) (e : Ending) (w' : World) : Prop :=
  ∃ (a : Option Addr) (c : Nat) (x : Int) (L : List (Nat × Nat)), e = .returned (.tuple #[.slice a L.length c, .int .i64 x]) ∧ w'.ownsRow w.heap.size 47 2 (.slice a L.length c) L.length (useC L) ∧ L.length ≤ 9624 ∧ PWalk s nm x L
def PWOK (f : Nat) : Prop := ∀ (s nm : ByteArray) (w : World), s.size ≤ maxLen → Calls Try.prog f #[.string s, .string nm] w fun e w' => Below w.heap.size w w' ∧ PWPost s nm w e w'
theorem walks_agree {s nm : ByteArray} {x y : Int} {L M : List (Nat × Nat)} (h : PWalk s nm x L) (k : (∃ z, ChkS s y z ∧ y ≠ 0 ∧ M = []) ∨ (∃ ts A, TFlat s ts A s.size ∧ s.size ≤ 400 ∧ Ends s init (.fin A) ∧ twA [] A = -1 ∧ unA (seenB (names A)) A < 0 ∧ WSpec ts nm y M)) : x = y ∧ L = M := by
  rcases h with ⟨z, h1, h2, h3⟩ | ⟨A, h1, h2, h3, h4, h5⟩ <;> rcases k with ⟨z', k1, k2, k3⟩ | ⟨ts, A', k0, k1, k2, k3, k4, k5⟩
  · exact ⟨(chkS_unique h1 k1).1, by rw [h3, k3]⟩
  · exact absurd (chkS_unique h1 (.inr ⟨k1, .inr ⟨A', k2, .inr (.inr ⟨k3, k4, rfl, rfl⟩)⟩⟩)).1 h2
  · exact absurd (chkS_unique k1 (.inr ⟨h1, .inr ⟨A, h2, .inr (.inr ⟨h3, h4, rfl, rfl⟩)⟩⟩)).1 k2
  · have e := ends_unique h2 k2
    cases e
    exact wspec_unique (h5 ts k0) k5
theorem useC_at (L : List (Nat × Nat)) : ∀ (i : Nat) (hi : i < L.length), (useC L)[i * 2]? = some (.int .i64 L[i].1) ∧ (useC L)[i * 2 + 1]? = some (.int .i64 L[i].2) := by
  induction L with
  | nil => intro i hi; simp at hi
  | cons h r ih =>
    intro i hi
    cases i with
    | zero => exact ⟨rfl, rfl⟩
    | succ i =>
      have := ih i (by simpa using hi)
      have e : useC (h :: r) = [.int .i64 h.1, .int .i64 h.2] ++ useC r := rfl
      rw [e, List.getElem?_append_right (by simp; omega), List.getElem?_append_right (by simp; omega)]
      simpa [show (i + 1) * 2 - 2 = i * 2 by omega, show (i + 1) * 2 + 1 - 2 = i * 2 + 1 by omega] using this
theorem use_at {w : World} {B : Nat} {a : Option Addr} {c : Nat} {L : List (Nat × Nat)} (h : w.ownsRow B 47 2 (.slice a L.length c) L.length (useC L)) (i : Nat) (hi : i < L.length) : ∃ g, a = some ⟨g, 0, none⟩ ∧ w.cell? ⟨g, i * 2, none⟩ = some (.int .i64 L[i].1) ∧ w.cell? ⟨g, i * 2 + 1, none⟩ = some (.int .i64 L[i].2) := by
  obtain ⟨g, cap, hv, _, _⟩ := h.form (by omega)
  simp at hv
  obtain ⟨h1, h2⟩ := useC_at L i hi
  have e : ∀ j, (⟨g, 0, none⟩ : Addr).add j = ⟨g, j, none⟩ := by intro j; unfold Addr.add; split <;> simp_all
  have q := h.cells (g := g) (by rw [hv.1]; rfl)
  have q1 := q _ _ h1
  have q2 := q _ _ h2
  rw [e] at q1 q2
  exact ⟨g, hv.1, q1, q2⟩
end Go.Proofs.Ytffkejkgkgfnhaa
namespace Go.Proofs.Ytffkejkgkgfnhaa
open Go.RowKit
set_option linter.unusedVariables false
def N11 (st : Pst) : Prop := st.err ≠ 11
theorem txtF_11 (tr : Bool) (l : List UInt8) (st : Pst) (h : N11 st) : N11 (txtF tr l st) := by
  induction l generalizing st with
  | nil => exact h
  | cons b r ih =>
    simp only [txtF]
    (repeat' split)
    · simp [N11]
    · simp [N11]
    · exact ih _ h
theorem holF_11 (t : ByteArray) (st : Pst) (h : N11 st) : N11 (holF t st) := by
  unfold holF
  (repeat' split) <;> first | exact h | simp [N11]
def B11 (B : Nds → List Dat → Pst → Pst) : Prop := ∀ b R st, N11 st → N11 (B b R st)
theorem lopF_11 (B : Nds → List Dat → Pst → Pst) (th : Nds) (R : List Dat) (hB : B11 B) : ∀ (d : Dat) (st : Pst), N11 st → N11 (lopF B th R d st)
  | .nil, st, h => h
  | .fld _ _ _ _ _, st, h => h
  | .row f r, st, h => by
    simp only [lopF]
    split
    · exact h
    · split
      · simp [N11]
      · exact lopF_11 B th R hB r _ (hB _ _ _ h)
theorem pceF_11 (B : Nds → List Dat → Pst → Pst) (ts : List Tm) (R : List Dat) (hB : B11 B) (k : Int) (nm : ByteArray) (th el : Nds) (st : Pst) (h : N11 st) : N11 (pceF B ts R k nm th el st) := by
  unfold pceF
  split
  · simp [N11]
  · have h' : N11 { st with steps := st.steps + 1 } := h
    unfold insF
    split
    · exact hB _ _ _ h'
    · split
      · simp [N11]
      · unfold fldF
        split
        · split
          · simp [N11]
          · exact holF_11 _ _ h'
        · split
          · split
            · exact hB _ _ _ h'
            · exact hB _ _ _ h'
          · split
            · split
              · exact lopF_11 B th R hB _ _ h'
              · simp [N11]
            · exact h'
theorem bdyF_11 (B : Nds → List Dat → Pst → Pst) (ts : List Tm) (tr : Bool) (R : List Dat) (hB : B11 B) : ∀ (b : Nds) (st : Pst), N11 st → N11 (bdyF B ts tr R b st)
  | .nil, st, h => h
  | .cons k a nm th el tw r, st, h => by
    simp only [bdyF]
    split
    · exact h
    · refine bdyF_11 B ts tr R hB r _ ?_
      split
      · exact txtF_11 _ _ _ h
      · exact pceF_11 B ts R hB k nm th el st h
theorem pagF_11 (ts : List Tm) (tr : Bool) (n : Nat) : B11 (pagF ts tr n) := by
  induction n with
  | zero => intro b R st h; exact bdyF_11 _ ts tr R (fun _ _ _ h => h) b st h
  | succ n ih => intro b R st h; exact bdyF_11 _ ts tr R ih b st h
theorem pagR_11 (ts : List Tm) (nm : ByteArray) (tr : Bool) (d : Dat) : (pagR ts nm tr d).err ≠ 11 := pagF_11 ts tr 500 _ _ _ (by simp [N11, pst0])
theorem Flat.nde {s : ByteArray} {d p e : Nat} {b : Nds} {A : List Ak} (h : Flat s d b p A e) : NdE b := by
  induction h with
  | nil => trivial
  | text _ _ ih => exact ⟨.inl rfl, fun _ => rfl, trivial, trivial, ih⟩
  | hole _ _ ih => exact ⟨.inr (.inl rfl), fun _ => rfl, trivial, trivial, ih⟩
  | call _ _ ih => exact ⟨.inr (.inr (.inr (.inr rfl))), fun _ => rfl, trivial, trivial, ih⟩
  | loop _ _ _ _ _ ih1 ih => exact ⟨.inr (.inr (.inr (.inl rfl))), fun _ => rfl, ih1, trivial, ih⟩
  | one _ _ _ _ _ ih1 ih => exact ⟨.inr (.inr (.inl rfl)), fun _ => rfl, ih1, trivial, ih⟩
  | two _ _ _ _ _ _ _ ih1 ih2 ih => exact ⟨.inr (.inr (.inl rfl)), (fun h => by cases h), ih1, ih2, ih⟩
theorem TFlat.nde {s : ByteArray} {ts : List Tm} {A : List Ak} {p : Nat} (h : TFlat s ts A p) (t : Nat) : NdE (bod ts t) := by
  by_cases ht : t < ts.length
  · rw [bod_at t ht]
    obtain ⟨q, B, e, hf, _⟩ := h.flats ts[t] (List.getElem_mem ht)
    exact hf.nde
  · have : bod ts t = .nil := by simp [bod, List.getElem?_eq_none (by omega : ts.length ≤ t)]
    rw [this]; trivial
theorem page_ways {s : ByteArray} {ts : List Tm} {A : List Ak} {p : Nat} (h : TFlat s ts A p) (nm : ByteArray) (d : Dat) (hb : ¬ TBad ts (tno ts nm)) :
    pagR ts nm true d = pagR ts nm false d ∧ (pagR ts nm true d).err ≠ 9 ∧ (pagR ts nm true d).err ≠ 10 ∧ ((pagR ts nm true d).err = 0 → ctxO (pagR ts nm true d).out = 0) := by
  have cl := true_closed ts (tno ts nm)
  have W : Wld ts (tno ts nm) (Bs ts (tno ts nm)) (Es ts (tno ts nm)) := ⟨cl, fun t x hB q => hb (.inl ⟨t, x, hB, q⟩), fun t => h.nde t⟩
  obtain ⟨k1, k2, k3, k4⟩ := way_all W 500 (bod ts (tno ts nm)) (one 0) [d] pst0 (by simp) (h.nde _) (W.good _ _ cl.start) (fun t x q => cl.calls _ _ t x cl.start q) rfl ⟨0, rfl, rfl⟩
  refine ⟨k1, k2, k3, fun e => ?_⟩
  obtain ⟨y, q1, q2⟩ := k4 e
  have hE := cl.ends _ _ _ cl.start q2
  by_cases hy : y = 0
  · subst hy; exact q1
  · exact absurd (.inr ⟨y, hy, hE⟩) hb
theorem chkS_range {s : ByteArray} {x y : Int} (h : ChkS s x y) : 0 ≤ x ∧ x ≤ 4 := by
  rcases h with ⟨_, rfl, _⟩ | ⟨_, ⟨wr, _, rfl, _⟩ | ⟨A, _, h3⟩⟩
  · omega
  · omega
  · unfold ChkA at h3; omega
theorem ways_law {s nm : ByteArray} {d : Dat} {x x0 x1 : Int} {L : List (Nat × Nat)} {o0 o1 : ByteArray} (hW : PWalk s nm x L) (h0 : RenS s nm 0 d o0 x0) (h1 : RenS s nm 1 d o1 x1) :
    (x = 0 → o0 = o1 ∧ x0 = x1 ∧ x0 ≠ 9 ∧ x0 ≠ 10 ∧ x0 ≠ 11) ∧ (x = 6 → x1 = 6 ∧ o1 = ⟨#[]⟩ ∧ L = []) ∧ (x ≠ 0 → x ≠ 6 → x0 = x ∧ x1 = x ∧ o0 = ⟨#[]⟩ ∧ o1 = ⟨#[]⟩ ∧ L = []) := by
  rcases hW with ⟨z, w1, w2, w3⟩ | ⟨A, w1, w2, w3, w4, w5⟩
  · have hr := chkS_range w1
    have go : ∀ {way : Int} {o : ByteArray} {x' : Int}, RenS s nm way d o x' → x' = x ∧ o = ⟨#[]⟩ := by
      intro way o x' h
      rcases h with ⟨z', k1, k2, k3⟩ | ⟨ts, A', k0, k1, k2, k3, k4, k5⟩
      · exact ⟨(chkS_unique k1 w1).1, k3⟩
      · exact absurd (chkS_unique w1 (.inr ⟨k1, .inr ⟨A', k2, .inr (.inr ⟨k3, k4, rfl, rfl⟩)⟩⟩)).1 w2
    obtain ⟨a1, a2⟩ := go h0
    obtain ⟨b1, b2⟩ := go h1
    exact ⟨fun e => absurd e w2, fun e => by omega, fun _ _ => ⟨a1, b1, a2, b2, w3⟩⟩
  · have hck : ChkS s 0 0 := .inr ⟨w1, .inr ⟨A, w2, .inr (.inr ⟨w3, w4, rfl, rfl⟩)⟩⟩
    rcases h0 with ⟨z', k1, k2, _⟩ | ⟨ts, A', k0, _, k2, _, _, k5⟩
    · exact absurd (chkS_unique k1 hck).1 k2
    rcases h1 with ⟨z', m1, m2, _⟩ | ⟨ts', A'', m0, _, _, _, _, m5⟩
    · exact absurd (chkS_unique m1 hck).1 m2
    obtain ⟨rfl, rfl⟩ := k0.one_way m0
    have eA := ends_unique w2 k2
    cases eA
    have hws := w5 ts k0
    rcases hws with ⟨q1, rfl, rfl⟩ | ⟨q1, ⟨q2, rfl, rfl⟩ | ⟨q2, rfl, q3⟩⟩
    · have r0 := rspec_unique k5 (.inr (.inl ⟨.inl rfl, q1, rfl, rfl⟩))
      have r1 := rspec_unique m5 (.inr (.inl ⟨.inr rfl, q1, rfl, rfl⟩))
      exact ⟨fun e => by omega, fun e => by omega, fun _ _ => ⟨r0.2, r1.2, r0.1, r1.1, rfl⟩⟩
    · have r1 := rspec_unique m5 (.inr (.inr (.inl ⟨q1, rfl, q2, rfl, rfl⟩)))
      exact ⟨fun e => by omega, fun _ => ⟨r1.2, r1.1, rfl⟩, fun _ e => absurd rfl e⟩
    · refine ⟨fun _ => ?_, fun e => by omega, fun e => absurd rfl e⟩
      obtain ⟨p1, p2, p3, p4⟩ := page_ways k0 nm d q2
      have a0 : endS true (pagR ts nm true d) o0 x0 := by
        rcases k5 with ⟨r1, _⟩ | ⟨_, r1, _⟩ | ⟨_, r1, _⟩ | ⟨_, _, r1⟩
        · exact absurd rfl r1
        · omega
        · omega
        · exact r1
      have a1 : endS false (pagR ts nm false d) o1 x1 := by
        rcases m5 with ⟨_, r1, _⟩ | ⟨_, r1, _⟩ | ⟨_, _, r1, _⟩ | ⟨_, _, r1⟩
        · exact absurd rfl r1
        · omega
        · exact absurd r1 q2
        · exact r1
      rw [← p1] at a1
      have p5 := pagR_11 ts nm true d
      generalize pagR ts nm true d = S at *
      rcases a0 with ⟨b1, rfl, rfl⟩ | ⟨b1, _, b3, rfl, rfl⟩ | ⟨b1, b2, rfl, rfl⟩ <;> rcases a1 with ⟨c1, rfl, rfl⟩ | ⟨c1, c2, _⟩ | ⟨c1, c2, rfl, rfl⟩
      · exact ⟨rfl, rfl, p2, p3, p5⟩
      · cases c2
      · exact absurd c1 b1
      · exact absurd b1 c1
      · cases c2
      · exact absurd (p4 b1) b3
      · exact absurd b1 c1
      · cases c2
      · exact ⟨rfl, rfl, by decide, by decide, by decide⟩
end Go.Proofs.Ytffkejkgkgfnhaa
/-
  WHAT THE MACHINE READS TO ITS END IS A SOURCE. No Go.
-/
namespace Go.Proofs.Ytffkejkgkgfnhaa
set_option linter.unusedVariables false
theorem Ends.after {s : ByteArray} {c d : Cfg} {r : Res} (h : Reach s c d) (k : Ends s c r) : Ends s d r := by
  induction h with
  | refl c => exact k
  | step h1 h2 ih =>
    obtain ⟨e, k1, k2, k3⟩ := k
    cases k1 with
    | refl => rw [h1] at k2; rw [← k2] at k3; exact k3.elim
    | step q1 q2 => rw [h1] at q1; cases q1; exact ih ⟨e, q2, k2, k3⟩
theorem Ends.go {s : ByteArray} {p nt : Nat} {op : List Int} {acts A : List Ak} (h : Ends s ⟨p, true, nt, op, acts⟩ (.fin A)) : ∃ c, stepC s ⟨p, true, nt, op, acts⟩ = .go c ∧ Ends s c (.fin A) := by
  obtain ⟨d, h1, h2, h3⟩ := h
  cases h1 with
  | refl =>
    simp only [stepC] at h2
    split at h2
    · split at h2
      · cases h2
      · split at h2 <;> cases h2
    · simp at h2
  | step q1 q2 => exact ⟨_, q1, d, q2, h2, h3⟩
theorem Ends.lt {s : ByteArray} {p nt : Nat} {op : List Int} {acts A : List Ak} (h : Ends s ⟨p, true, nt, op, acts⟩ (.fin A)) : p < s.size := by
  obtain ⟨c, h1, h2⟩ := h.go
  simp only [stepC] at h1
  split at h1
  · assumption
  · simp at h1
/-- at a brace: the action is taken -/
theorem Ends.taken {s : ByteArray} {p nt : Nat} {op : List Int} {acts A : List Ak} (h : Ends s ⟨p, true, nt, op, acts⟩ (.fin A)) (ht : txB (gb s p) = false) :
    ∃ i n o, takeS true nt op (act s p).kind = some (i, n, o) ∧ Ends s ⟨(act s p).next, i, n, o, acts ++ [⟨(act s p).kind, (act s p).name, p⟩]⟩ (.fin A) ∧ Reach s ⟨p, true, nt, op, acts⟩ ⟨(act s p).next, i, n, o, acts ++ [⟨(act s p).kind, (act s p).name, p⟩]⟩ := by
  have hlt := h.lt
  obtain ⟨c, h1, h2⟩ := h.go
  have hn : ¬ ((true = true) ∧ gb s p ≠ 123 ∧ gb s p ≠ 125) := by
    rintro ⟨_, q⟩
    simp [txB] at ht
    omega
  have hs : stepC s ⟨p, true, nt, op, acts⟩ = (match takeS true nt op (act s p).kind with
      | none => .err p
      | some (i, n, o) => .go ⟨(act s p).next, i, n, o, acts ++ [⟨(act s p).kind, (act s p).name, p⟩]⟩) := by
    unfold stepC; rw [if_pos hlt, if_neg hn]; all_goals rfl
  cases ho : takeS true nt op (act s p).kind with
  | none => rw [hs, ho] at h1; cases h1
  | some v =>
    obtain ⟨i, n, o⟩ := v
    rw [ho] at hs
    rw [hs] at h1
    cases h1
    exact ⟨i, n, o, rfl, h2, .one hs⟩
theorem fin_body (s : ByteArray) : ∀ (n p : Nat), s.size - p ≤ n → ∀ (nt : Nat) (op : List Int) (acts A : List Ak), Ends s ⟨p, true, nt, op, acts⟩ (.fin A) →
    ∃ b B e, Flat s op.length b p B e ∧ trm (act s e).kind ∧ Reach s ⟨p, true, nt, op, acts⟩ ⟨e, true, nt, op, acts ++ B⟩ ∧ p ≤ e := by
  intro n
  induction n with
  | zero => intro p hp nt op acts A h; have := h.lt; omega
  | succ n ih =>
    intro p hp nt op acts A h
    have hlt := h.lt
    cases ht : txB (gb s p) with
    | true =>
      have hsk : p < skp s txB p := by
        have := skp_ge s txB (p + 1)
        rw [skp_go s txB p hlt ht]; omega
      have hr := reach_text s p nt op acts
      obtain ⟨b, B, e, k1, k2, k3, k4⟩ := ih (skp s txB p) (by omega) nt op acts A (Ends.after hr h)
      exact ⟨_, B, e, .text hsk k1, k2, hr.trans k3, by omega⟩
    | false =>
      obtain ⟨i, m, o, h1, h2, h3⟩ := h.taken ht
      have hk : (act s p).kind ≠ 0 := by
        intro e; rw [e] at h1; simp [takeS] at h1
      obtain ⟨x1, x2, x3, x4⟩ := act_next s p hk
      have hr := act_range s p
      by_cases h3' : (act s p).kind = 3
      · rw [h3'] at h1 h2 h3
        simp [takeS] at h1
        obtain ⟨rfl, rfl, rfl⟩ := h1
        obtain ⟨b, B, e, k1, k2, k3, k4⟩ := ih _ (by omega) nt op _ A h2
        exact ⟨_, _, e, .hole h3' k1, k2, by have := h3.trans k3; simpa [List.append_assoc] using this, by omega⟩
      by_cases h8 : (act s p).kind = 8
      · rw [h8] at h1 h2 h3
        simp [takeS] at h1
        obtain ⟨rfl, rfl, rfl⟩ := h1
        obtain ⟨b, B, e, k1, k2, k3, k4⟩ := ih _ (by omega) nt op _ A h2
        exact ⟨_, _, e, .call h8 k1, k2, by have := h3.trans k3; simpa [List.append_assoc] using this, by omega⟩
      by_cases htr : trm (act s p).kind
      · exact ⟨.nil, [], p, .nil _ _, htr, by simpa using Reach.refl _, Nat.le_refl _⟩
      have h46 : (act s p).kind = 4 ∨ (act s p).kind = 6 := by
        unfold trm at htr
        by_cases e1 : (act s p).kind = 1
        · rw [e1] at h1; simp [takeS] at h1
        · omega
      have hop : op.length < 8 ∧ i = true ∧ m = nt ∧ o = op ++ [(act s p).kind] := by
        rcases h46 with e | e <;> rw [e] at h1 ⊢ <;> simp [takeS] at h1 <;> exact ⟨h1.1, h1.2.1, h1.2.2.1.symm ▸ rfl, h1.2.2.2.symm⟩
      obtain ⟨hd, rfl, rfl, rfl⟩ := hop
      obtain ⟨th, B1, e1, k1, k2, k3, k4⟩ := ih _ (by omega) m (op ++ [(act s p).kind]) _ A h2
      have k1' : Flat s (op.length + 1) th (act s p).next B1 e1 := by simpa using k1
      have hE1 := Ends.after k3 h2
      have ht1 : txB (gb s e1) = false := by
        have : (act s e1).kind ≠ 0 := by unfold trm at k2; omega
        rw [(act_next s e1 this).2.2.2]; decide
      obtain ⟨i2, m2, o2, g1, g2, g3⟩ := hE1.taken ht1
      have y1 := act_next s e1 (by unfold trm at k2; omega)
      rcases k2 with q | q | q
      · rw [q] at g1; simp [takeS] at g1
      · -- {:}
        rw [q] at g1 g2 g3
        have hk4 : (act s p).kind = 4 := by
          rcases h46 with e | e
          · exact e
          · rw [e] at g1; simp [takeS] at g1
        rw [hk4] at g1 g2 g3 k3 h3
        simp [takeS] at g1
        obtain ⟨rfl, rfl, rfl⟩ := g1
        obtain ⟨el, B2, e2, l1, l2, l3, l4⟩ := ih (act s e1).next (by omega) _ (op ++ [5]) _ A g2
        have l1' : Flat s (op.length + 1) el (act s e1).next B2 e2 := by simpa using l1
        have hE2 := Ends.after l3 g2
        have ht2 : txB (gb s e2) = false := by
          have : (act s e2).kind ≠ 0 := by unfold trm at l2; omega
          rw [(act_next s e2 this).2.2.2]; decide
        obtain ⟨i3, m3, o3, f1, f2, f3⟩ := hE2.taken ht2
        have y2 := act_next s e2 (by unfold trm at l2; omega)
        rcases l2 with z | z | z
        · rw [z] at f1; simp [takeS] at f1
        · rw [z] at f1; simp [takeS] at f1
        · rw [z] at f1 f2 f3
          simp [takeS] at f1
          obtain ⟨rfl, rfl, rfl⟩ := f1
          obtain ⟨b, B, e, r1, r2, r3, r4⟩ := ih (act s e2).next (by omega) _ op _ A f2
          refine ⟨_, _, e, .two hd hk4 k1' q l1' z r1, r2, ?_, by omega⟩
          have := h3.trans (k3.trans (g3.trans (l3.trans (f3.trans r3))))
          simpa [List.append_assoc] using this
      · rw [q] at g1 g2 g3
        simp [takeS] at g1
        obtain ⟨rfl, rfl, rfl⟩ := g1
        obtain ⟨b, B, e, r1, r2, r3, r4⟩ := ih (act s e1).next (by omega) _ op _ A g2
        have hreach := h3.trans (k3.trans (g3.trans r3))
        rcases h46 with e4 | e6
        · rw [e4] at hreach
          exact ⟨_, _, e, .one hd e4 k1' q r1, r2, by simpa [List.append_assoc] using hreach, by omega⟩
        · rw [e6] at hreach
          exact ⟨_, _, e, .loop hd e6 k1' q r1, r2, by simpa [List.append_assoc] using hreach, by omega⟩
theorem fin_tmpl (s : ByteArray) : ∀ (n p : Nat), s.size - p ≤ n → p ≤ s.size → ∀ (ts : List Tm) (acts A : List Ak), TFlat s ts acts p → Ends s ⟨p, false, ts.length, [], acts⟩ (.fin A) → ∃ ts', TFlat s ts' A s.size ∧ ts'.length ≤ 6 := by
  intro n
  induction n with
  | zero =>
    intro p hp hle ts acts A hT hE
    have hpe : p = s.size := by omega
    obtain ⟨d, h1, h2, h3⟩ := hE
    have hs : stepC s ⟨p, false, ts.length, [], acts⟩ = (if (false = true) ∨ ts.length = 0 then .err s.size else .fin acts) := by simp [stepC, hpe]
    cases h1 with
    | refl =>
      rw [hs] at h2
      split at h2
      · cases h2
      · cases h2
        refine ⟨ts, hpe ▸ hT, ?_⟩
        cases hT with
        | nil => simp
        | snoc _ hl _ _ _ => simp; omega
    | step q1 q2 => rw [hs] at q1; split at q1 <;> cases q1
  | succ n ih =>
    intro p hp hle ts acts A hT hE
    by_cases hlt : p < s.size
    · obtain ⟨d, h1, h2, h3⟩ := hE
      cases h1 with
      | refl =>
        simp only [stepC, hlt, if_true] at h2
        split at h2
        · rename_i q; cases q.1
        · split at h2 <;> cases h2
      | step q1 q2 =>
        have q0 := q1
        simp only [stepC, hlt, if_true] at q1
        split at q1
        · rename_i q; cases q.1
        · split at q1
          · cases q1
          · rename_i i m o ho
            cases q1
            simp [takeS] at ho
            obtain ⟨⟨hk, hl⟩, rfl, rfl, rfl⟩ := ho
            have x := act_next s p (by omega)
            obtain ⟨b, B, e, k1, k2, k3, k4⟩ := fin_body s s.size (act s p).next (by omega) _ _ _ A ⟨d, q2, h2, h3⟩
            have hE1 := Ends.after k3 ⟨d, q2, h2, h3⟩
            have ht1 : txB (gb s e) = false := by
              have : (act s e).kind ≠ 0 := by unfold trm at k2; omega
              rw [(act_next s e this).2.2.2]; decide
            obtain ⟨i2, m2, o2, g1, g2, g3⟩ := hE1.taken ht1
            have y1 := act_next s e (by unfold trm at k2; omega)
            rcases k2 with q | q | q
            · rw [q] at g1 g2
              simp [takeS] at g1
              obtain ⟨rfl, rfl, rfl⟩ := g1
              have hT' := TFlat.snoc hT hl hk k1 q
              refine ih (act s e).next (by omega) y1.2.1 _ _ A hT' ?_
              rw [hk] at g2
              simpa [List.append_assoc] using g2
            · rw [q] at g1; simp [takeS] at g1
            · rw [q] at g1; simp [takeS] at g1
    · exact ih p (by omega) hle ts acts A hT hE
theorem fin_flat {s : ByteArray} {A : List Ak} (h : Ends s init (.fin A)) : ∃ ts, TFlat s ts A s.size ∧ ts.length ≤ 6 := fin_tmpl s s.size 0 (by omega) (Nat.zero_le _) [] [] A .nil h
end Go.Proofs.Ytffkejkgkgfnhaa
