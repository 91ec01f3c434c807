import Derived.Test.YtffkejkgkgfnhabGreatG19
import Derived.Test.YtffkejkgkgfnhabGreatG29
import Derived.Test.YtffkejkgkgfnhabGreatG24
import Derived.Test.YtffkejkgkgfnhabGreatG18
import Derived.Test.YtffkejkgkgfnhabGreatG32
import Derived.Deep.RegionLaw
import Derived.Test.YtffkejkgkgfnhabGreatG34
namespace Go.Proofs.YtffkejkgkgfnhabGreat
open Go.RowKit
set_option linter.unusedVariables false
theorem Flat.nde {s : ByteArray} {d p e : Nat} {b : Nds} {A : List Ak} (h : Flat s d b p A e) : NdE b := by
  induction h with
  | nil => trivial
  | text _ _ ih => exact ⟨.inl rfl, fun _ => rfl, trivial, trivial, ih⟩
  | hole _ _ ih => exact ⟨.inr (.inl rfl), fun _ => rfl, trivial, trivial, ih⟩
  | call _ _ ih => exact ⟨.inr (.inr (.inr (.inr rfl))), fun _ => rfl, trivial, trivial, ih⟩
  | loop _ _ _ _ _ ih1 ih => exact ⟨.inr (.inr (.inr (.inl rfl))), fun _ => rfl, ih1, trivial, ih⟩
  | one _ _ _ _ _ ih1 ih => exact ⟨.inr (.inr (.inl rfl)), fun _ => rfl, ih1, trivial, ih⟩
  | two _ _ _ _ _ _ _ ih1 ih2 ih => exact ⟨.inr (.inr (.inl rfl)), (fun h => by cases h), ih1, ih2, ih⟩
theorem TFlat.nde {s : ByteArray} {ts : List Tm} {A : List Ak} {p : Nat} (h : TFlat s ts A p) (t : Nat) : NdE (bod ts t) := by
  by_cases ht : t < ts.length
  · rw [bod_at t ht]
    obtain ⟨q, B, e, hf, _⟩ := h.flats ts[t] (List.getElem_mem ht)
    exact hf.nde
  · have : bod ts t = .nil := by simp [bod, List.getElem?_eq_none (by omega : ts.length ≤ t)]
    rw [this]; trivial
theorem page_ways {s : ByteArray} {ts : List Tm} {A : List Ak} {p : Nat} (h : TFlat s ts A p) (nm : ByteArray) (d : Dat) (hb : ¬ TBad ts (tno ts nm)) :
    pagR ts nm true d = pagR ts nm false d ∧ (pagR ts nm true d).err ≠ 9 ∧ (pagR ts nm true d).err ≠ 10 ∧ ((pagR ts nm true d).err = 0 → ctxO (pagR ts nm true d).out = 0) := by
  have cl := true_closed ts (tno ts nm)
  have W : Wld ts (tno ts nm) (Bs ts (tno ts nm)) (Es ts (tno ts nm)) := ⟨cl, fun t x hB q => hb (.inl ⟨t, x, hB, q⟩), fun t => h.nde t⟩
  obtain ⟨k1, k2, k3, k4⟩ := way_all W 500 (bod ts (tno ts nm)) (one 0) [d] pst0 (by simp) (h.nde _) (W.good _ _ cl.start) (fun t x q => cl.calls _ _ t x cl.start q) rfl ⟨0, rfl, rfl⟩
  refine ⟨k1, k2, k3, fun e => ?_⟩
  obtain ⟨y, q1, q2⟩ := k4 e
  have hE := cl.ends _ _ _ cl.start q2
  by_cases hy : y = 0
  · subst hy; exact q1
  · exact absurd (.inr ⟨y, hy, hE⟩) hb
end Go.Proofs.YtffkejkgkgfnhabGreat
/-
  WHAT THE MACHINE READS TO ITS END IS A SOURCE. No Go.
-/
namespace Go.Proofs.YtffkejkgkgfnhabGreat
set_option linter.unusedVariables false
theorem Ends.after {s : ByteArray} {c d : Cfg} {r : Res} (h : Reach s c d) (k : Ends s c r) : Ends s d r := by
  induction h with
  | refl c => exact k
  | step h1 h2 ih =>
    obtain ⟨e, k1, k2, k3⟩ := k
    cases k1 with
    | refl => rw [h1] at k2; rw [← k2] at k3; exact k3.elim
    | step q1 q2 => rw [h1] at q1; cases q1; exact ih ⟨e, q2, k2, k3⟩
theorem Ends.go {s : ByteArray} {p nt : Nat} {op : List Int} {acts A : List Ak} (h : Ends s ⟨p, true, nt, op, acts⟩ (.fin A)) : ∃ c, stepC s ⟨p, true, nt, op, acts⟩ = .go c ∧ Ends s c (.fin A) := by
  obtain ⟨d, h1, h2, h3⟩ := h
  cases h1 with
  | refl =>
    simp only [stepC] at h2
    split at h2
    · split at h2
      · cases h2
      · split at h2 <;> cases h2
    · simp at h2
  | step q1 q2 => exact ⟨_, q1, d, q2, h2, h3⟩
theorem Ends.lt {s : ByteArray} {p nt : Nat} {op : List Int} {acts A : List Ak} (h : Ends s ⟨p, true, nt, op, acts⟩ (.fin A)) : p < s.size := by
  obtain ⟨c, h1, h2⟩ := h.go
  simp only [stepC] at h1
  split at h1
  · assumption
  · simp at h1
/-- at a brace: the action is taken -/
theorem Ends.taken {s : ByteArray} {p nt : Nat} {op : List Int} {acts A : List Ak} (h : Ends s ⟨p, true, nt, op, acts⟩ (.fin A)) (ht : txB (gb s p) = false) :
    ∃ i n o, takeS true nt op (act s p).kind = some (i, n, o) ∧ Ends s ⟨(act s p).next, i, n, o, acts ++ [⟨(act s p).kind, (act s p).name, p⟩]⟩ (.fin A) ∧ Reach s ⟨p, true, nt, op, acts⟩ ⟨(act s p).next, i, n, o, acts ++ [⟨(act s p).kind, (act s p).name, p⟩]⟩ := by
  have hlt := h.lt
  obtain ⟨c, h1, h2⟩ := h.go
  have hn : ¬ ((true = true) ∧ gb s p ≠ 123 ∧ gb s p ≠ 125) := by
    rintro ⟨_, q⟩
    simp [txB] at ht
    omega
  have hs : stepC s ⟨p, true, nt, op, acts⟩ = (match takeS true nt op (act s p).kind with
      | none => .err p
      | some (i, n, o) => .go ⟨(act s p).next, i, n, o, acts ++ [⟨(act s p).kind, (act s p).name, p⟩]⟩) := by
    unfold stepC; rw [if_pos hlt, if_neg hn]; all_goals rfl
  cases ho : takeS true nt op (act s p).kind with
  | none => rw [hs, ho] at h1; cases h1
  | some v =>
    obtain ⟨i, n, o⟩ := v
    rw [ho] at hs
    rw [hs] at h1
    cases h1
    exact ⟨i, n, o, rfl, h2, .one hs⟩
theorem fin_body (s : ByteArray) : ∀ (n p : Nat), s.size - p ≤ n → ∀ (nt : Nat) (op : List Int) (acts A : List Ak), Ends s ⟨p, true, nt, op, acts⟩ (.fin A) →
    ∃ b B e, Flat s op.length b p B e ∧ trm (act s e).kind ∧ Reach s ⟨p, true, nt, op, acts⟩ ⟨e, true, nt, op, acts ++ B⟩ ∧ p ≤ e := by
  intro n
  induction n with
  | zero => intro p hp nt op acts A h; have := h.lt; omega
  | succ n ih =>
    intro p hp nt op acts A h
    have hlt := h.lt
    cases ht : txB (gb s p) with
    | true =>
      have hsk : p < skp s txB p := by
        have := skp_ge s txB (p + 1)
        rw [skp_go s txB p hlt ht]; omega
      have hr := reach_text s p nt op acts
      obtain ⟨b, B, e, k1, k2, k3, k4⟩ := ih (skp s txB p) (by omega) nt op acts A (Ends.after hr h)
      exact ⟨_, B, e, .text hsk k1, k2, hr.trans k3, by omega⟩
    | false =>
      obtain ⟨i, m, o, h1, h2, h3⟩ := h.taken ht
      have hk : (act s p).kind ≠ 0 := by
        intro e; rw [e] at h1; simp [takeS] at h1
      obtain ⟨x1, x2, x3, x4⟩ := act_next s p hk
      have hr := act_range s p
      by_cases h3' : (act s p).kind = 3
      · rw [h3'] at h1 h2 h3
        simp [takeS] at h1
        obtain ⟨rfl, rfl, rfl⟩ := h1
        obtain ⟨b, B, e, k1, k2, k3, k4⟩ := ih _ (by omega) nt op _ A h2
        exact ⟨_, _, e, .hole h3' k1, k2, by have := h3.trans k3; simpa [List.append_assoc] using this, by omega⟩
      by_cases h8 : (act s p).kind = 8
      · rw [h8] at h1 h2 h3
        simp [takeS] at h1
        obtain ⟨rfl, rfl, rfl⟩ := h1
        obtain ⟨b, B, e, k1, k2, k3, k4⟩ := ih _ (by omega) nt op _ A h2
        exact ⟨_, _, e, .call h8 k1, k2, by have := h3.trans k3; simpa [List.append_assoc] using this, by omega⟩
      by_cases htr : trm (act s p).kind
      · exact ⟨.nil, [], p, .nil _ _, htr, by simpa using Reach.refl _, Nat.le_refl _⟩
      have h46 : (act s p).kind = 4 ∨ (act s p).kind = 6 := by
        unfold trm at htr
        by_cases e1 : (act s p).kind = 1
        · rw [e1] at h1; simp [takeS] at h1
        · omega
      have hop : op.length < 8 ∧ i = true ∧ m = nt ∧ o = op ++ [(act s p).kind] := by
        rcases h46 with e | e <;> rw [e] at h1 ⊢ <;> simp [takeS] at h1 <;> exact ⟨h1.1, h1.2.1, h1.2.2.1.symm ▸ rfl, h1.2.2.2.symm⟩
      obtain ⟨hd, rfl, rfl, rfl⟩ := hop
      obtain ⟨th, B1, e1, k1, k2, k3, k4⟩ := ih _ (by omega) m (op ++ [(act s p).kind]) _ A h2
      have k1' : Flat s (op.length + 1) th (act s p).next B1 e1 := by simpa using k1
      have hE1 := Ends.after k3 h2
      have ht1 : txB (gb s e1) = false := by
        have : (act s e1).kind ≠ 0 := by unfold trm at k2; omega
        rw [(act_next s e1 this).2.2.2]; decide
      obtain ⟨i2, m2, o2, g1, g2, g3⟩ := hE1.taken ht1
      have y1 := act_next s e1 (by unfold trm at k2; omega)
      rcases k2 with q | q | q
      · rw [q] at g1; simp [takeS] at g1
      · -- {:}
        rw [q] at g1 g2 g3
        have hk4 : (act s p).kind = 4 := by
          rcases h46 with e | e
          · exact e
          · rw [e] at g1; simp [takeS] at g1
        rw [hk4] at g1 g2 g3 k3 h3
        simp [takeS] at g1
        obtain ⟨rfl, rfl, rfl⟩ := g1
        obtain ⟨el, B2, e2, l1, l2, l3, l4⟩ := ih (act s e1).next (by omega) _ (op ++ [5]) _ A g2
        have l1' : Flat s (op.length + 1) el (act s e1).next B2 e2 := by simpa using l1
        have hE2 := Ends.after l3 g2
        have ht2 : txB (gb s e2) = false := by
          have : (act s e2).kind ≠ 0 := by unfold trm at l2; omega
          rw [(act_next s e2 this).2.2.2]; decide
        obtain ⟨i3, m3, o3, f1, f2, f3⟩ := hE2.taken ht2
        have y2 := act_next s e2 (by unfold trm at l2; omega)
        rcases l2 with z | z | z
        · rw [z] at f1; simp [takeS] at f1
        · rw [z] at f1; simp [takeS] at f1
        · rw [z] at f1 f2 f3
          simp [takeS] at f1
          obtain ⟨rfl, rfl, rfl⟩ := f1
          obtain ⟨b, B, e, r1, r2, r3, r4⟩ := ih (act s e2).next (by omega) _ op _ A f2
          refine ⟨_, _, e, .two hd hk4 k1' q l1' z r1, r2, ?_, by omega⟩
          have := h3.trans (k3.trans (g3.trans (l3.trans (f3.trans r3))))
          simpa [List.append_assoc] using this
      · rw [q] at g1 g2 g3
        simp [takeS] at g1
        obtain ⟨rfl, rfl, rfl⟩ := g1
        obtain ⟨b, B, e, r1, r2, r3, r4⟩ := ih (act s e1).next (by omega) _ op _ A g2
        have hreach := h3.trans (k3.trans (g3.trans r3))
        rcases h46 with e4 | e6
        · rw [e4] at hreach
          exact ⟨_, _, e, .one hd e4 k1' q r1, r2, by simpa [List.append_assoc] using hreach, by omega⟩
        · rw [e6] at hreach
          exact ⟨_, _, e, .loop hd e6 k1' q r1, r2, by simpa [List.append_assoc] using hreach, by omega⟩
theorem fin_tmpl (s : ByteArray) : ∀ (n p : Nat), s.size - p ≤ n → p ≤ s.size → ∀ (ts : List Tm) (acts A : List Ak), TFlat s ts acts p → Ends s ⟨p, false, ts.length, [], acts⟩ (.fin A) → ∃ ts', TFlat s ts' A s.size ∧ ts'.length ≤ 6 := by
  intro n
  induction n with
  | zero =>
    intro p hp hle ts acts A hT hE
    have hpe : p = s.size := by omega
    obtain ⟨d, h1, h2, h3⟩ := hE
    have hs : stepC s ⟨p, false, ts.length, [], acts⟩ = (if (false = true) ∨ ts.length = 0 then .err s.size else .fin acts) := by simp [stepC, hpe]
    cases h1 with
    | refl =>
      rw [hs] at h2
      split at h2
      · cases h2
      · cases h2
        refine ⟨ts, hpe ▸ hT, ?_⟩
        cases hT with
        | nil => simp
        | snoc _ hl _ _ _ => simp; omega
    | step q1 q2 => rw [hs] at q1; split at q1 <;> cases q1
  | succ n ih =>
    intro p hp hle ts acts A hT hE
    by_cases hlt : p < s.size
    · obtain ⟨d, h1, h2, h3⟩ := hE
      cases h1 with
      | refl =>
        simp only [stepC, hlt, if_true] at h2
        split at h2
        · rename_i q; cases q.1
        · split at h2 <;> cases h2
      | step q1 q2 =>
        have q0 := q1
        simp only [stepC, hlt, if_true] at q1
        split at q1
        · rename_i q; cases q.1
        · split at q1
          · cases q1
          · rename_i i m o ho
            cases q1
            simp [takeS] at ho
            obtain ⟨⟨hk, hl⟩, rfl, rfl, rfl⟩ := ho
            have x := act_next s p (by omega)
            obtain ⟨b, B, e, k1, k2, k3, k4⟩ := fin_body s s.size (act s p).next (by omega) _ _ _ A ⟨d, q2, h2, h3⟩
            have hE1 := Ends.after k3 ⟨d, q2, h2, h3⟩
            have ht1 : txB (gb s e) = false := by
              have : (act s e).kind ≠ 0 := by unfold trm at k2; omega
              rw [(act_next s e this).2.2.2]; decide
            obtain ⟨i2, m2, o2, g1, g2, g3⟩ := hE1.taken ht1
            have y1 := act_next s e (by unfold trm at k2; omega)
            rcases k2 with q | q | q
            · rw [q] at g1 g2
              simp [takeS] at g1
              obtain ⟨rfl, rfl, rfl⟩ := g1
              have hT' := TFlat.snoc hT hl hk k1 q
              refine ih (act s e).next (by omega) y1.2.1 _ _ A hT' ?_
              rw [hk] at g2
              simpa [List.append_assoc] using g2
            · rw [q] at g1; simp [takeS] at g1
            · rw [q] at g1; simp [takeS] at g1
    · exact ih p (by omega) hle ts acts A hT hE
theorem fin_flat {s : ByteArray} {A : List Ak} (h : Ends s init (.fin A)) : ∃ ts, TFlat s ts A s.size ∧ ts.length ≤ 6 := fin_tmpl s s.size 0 (by omega) (Nat.zero_le _) [] [] A .nil h
end Go.Proofs.YtffkejkgkgfnhabGreat
namespace Go.Proofs.YtffkejkgkgfnhabGreat
open Go.RowKit
set_option linter.unusedVariables false
theorem opC_snoc (o : List (Int × Int)) (a b : Int) : opC (o ++ [(a, b)]) = opC o ++ [.int .i64 a, .int .i64 b] := by simp [opC]
theorem opC_len (o : List (Int × Int)) : (opC o).length = o.length * 2 := by
  induction o with
  | nil => rfl
  | cons a r ih => simp [opC] at ih ⊢; omega
theorem last2 (op : List (Int × Int)) (h : op ≠ []) : ∃ o a b, op = o ++ [(a, b)] := ⟨op.dropLast, (op.getLast h).1, (op.getLast h).2, (List.dropLast_concat_getLast h).symm⟩
theorem pk_form {w : World} {P B : Nat} {oa : Option Addr} {oc : Nat} {x a b : Int} {o : List (Int × Int)} (h : PkOK w P B oa oc ⟨x, o ++ [(a, b)]⟩) : ∃ g, oa = some ⟨g, 0, none⟩ ∧ B ≤ g ∧ g < w.heap.size ∧ o.length + 1 ≤ oc ∧ oc ≤ maxLen ∧ w.cell? ⟨g, o.length * 2, none⟩ = some (.int .i64 a) ∧ w.cell? ⟨g, o.length * 2 + 1, none⟩ = some (.int .i64 b) ∧ w.frozen? ⟨g, o.length * 2 + 1, none⟩ = false := by
  have hl := opC_len o
  rcases h.own.2 with ⟨_, h0⟩ | ⟨g, cap, cur, hv, hb, hg, hn, hm, hs, ht⟩
  · simp at h0
  · simp at hv
    obtain ⟨hv1, rfl⟩ := hv
    have own := h.own
    have e : (o ++ [(a, b)]).length = o.length + 1 := by simp
    simp only [e] at hn own
    subst hv1
    have k0 := own.cellAt (o.length * 2) (by omega)
    have k1 := own.cellAt (o.length * 2 + 1) (by omega)
    rw [opC_snoc, List.getElem?_append_right (by omega), hl] at k0 k1
    refine ⟨g, rfl, hb, (own.lt g rfl).2, hn, hm, by simpa using k0, ?_, own.frozenAt _⟩
    rw [k1]
    have : o.length * 2 + 1 - o.length * 2 = 1 := by omega
    rw [this]; rfl
theorem PkOK.drew {w : World} {P B : Nat} {oa : Option Addr} {oc : Nat} {ps : PS} (h : PkOK w P B oa oc ps) : PkOK w.drew P B oa oc ps := ⟨h.c0, h.c1, h.f0, h.f1, own_far h.own (fun _ _ => rfl), h.lt, h.le, h.len, h.ran⟩
theorem ChgB.drew {w w' : World} {b : Nat} {v : Value} (h : ChgB w w' b v) : ChgB w w'.drew b v := ⟨h.os, h.tape, h.output, h.size, h.block⟩
set_option maxHeartbeats 1000000 in
theorem p114 (w : World) (P B : Nat) (oa : Option Addr) (oc : Nat) (ps : PS) (hp : ∀ q ∈ ps.op, -1 ≤ q.1 ∧ q.1 ≤ 23) (h : PkOK w P B oa oc ps) :
    Calls Tryz.prog 124 #[.pointer (some ⟨P, 0, none⟩)] w fun e w' => e = .returned (.tuple #[]) ∧ POut w w' P B oa oc ps.op.length (turnF ps) := by
  by_cases ho : ps.op = []
  · have H := hidS h
    obtain ⟨c0, c1, f0, f1, _⟩ := h
    have hl : (ps.op.length : Int) = 0 := by simp [ho]
    have HT : Hid (turnF ps = ps) := by show _ = _; simp [turnF, ho]
    have hl' : ps.op.length ≤ 0 := by simp [ho]
    clear ho hl hp
    go_enter Tryz.func124, Tryz.ntmps124
    go_wp2
    (try simp only [Exit.inBlock, Exit.then])
    refine bodyPost_ret (results_none rfl _ _ _) rfl ?_
    refine ⟨rfl, ChgB.refl _ _ _, oa, oc, by rw [HT.out]; exact H.out, .inl (by rw [HT.out])⟩
  · obtain ⟨o, a, b, ho'⟩ := last2 ps.op ho
    obtain ⟨x, op⟩ := ps
    simp only at ho' ho
    subst ho'
    obtain ⟨g, rfl, hg1, hg2, hc1, hc2, k0, k1, kf⟩ := pk_form h
    have hpa := hp (a, b) (by simp)
    have H := hidS h
    obtain ⟨c0, c1, f0, f1, hown, hlt, hle, hlen, hran⟩ := h
    simp only [List.length_append, List.length_cons, List.length_nil, Nat.zero_add] at c1 hlen
    have hne : P ≠ g := by omega
    have HS : Hid (((w.setCell ⟨g, o.length * 2 + 1, none⟩ (.int .i64 x)).setCell ⟨P, 0, none⟩ (.int .i64 a)) = ((w.setCell ⟨g, o.length * 2 + 1, none⟩ (.int .i64 x)).setCell ⟨P, 0, none⟩ (.int .i64 a))) := rfl
    have HW : Hid (PkOK ((w.setCell ⟨g, o.length * 2 + 1, none⟩ (.int .i64 x)).setCell ⟨P, 0, none⟩ (.int .i64 a)) P B (some ⟨g, 0, none⟩) oc ⟨a, o ++ [(a, x)]⟩) := by
      have s1 := (hown.stored (o.length * 2 + 1) (.int .i64 x)).1
      have e : (opC (o ++ [(a, b)])).set (o.length * 2 + 1) (.int .i64 x) = opC (o ++ [(a, x)]) := by
        rw [opC_snoc, opC_snoc, List.set_append_right _ _ (by rw [opC_len]; omega), opC_len]
        have : o.length * 2 + 1 - o.length * 2 = 1 := by omega
        rw [this]; rfl
      have s1' : (w.setCell ⟨g, o.length * 2 + 1, none⟩ (.int .i64 x)).ownsRow B 158 2 (.slice (some ⟨g, 0, none⟩) (o ++ [(a, x)]).length oc) (o ++ [(a, x)]).length (opC (o ++ [(a, x)])) := by
        rw [← e]; simpa using s1
      have q1 : PkOK (w.setCell ⟨g, o.length * 2 + 1, none⟩ (.int .i64 x)) P B (some ⟨g, 0, none⟩) oc ⟨x, o ++ [(a, x)]⟩ :=
        ⟨(cellF _ _ _ _ _ _ hne).trans c0, ((cellF _ _ _ _ _ _ hne).trans c1).trans (by simp), by simpa using f0, by simpa using f1, s1', hlt, by simpa using hle, by simpa using hlen, hran⟩
      exact q1.setNow a hpa
    have HC : Hid (ChgB w ((w.setCell ⟨g, o.length * 2 + 1, none⟩ (.int .i64 x)).setCell ⟨P, 0, none⟩ (.int .i64 a)) P (.slice (some ⟨g, 0, none⟩) (o.length + 1) oc)) :=
      ⟨rfl, rfl, rfl, by simp, fun j h1 h2 h3 => (set_far _ P 0 _ j h2).trans (set_far _ g _ _ j (fun e => h3 (by rw [e]; rfl)))⟩
    have HT : Hid (turnF ⟨x, o ++ [(a, b)]⟩ = ⟨a, o ++ [(a, x)]⟩) := by show _ = _; simp [turnF, List.getLast?_append]
    have k0' : (w.setCell ⟨g, o.length * 2 + 1, none⟩ (.int .i64 x)).cell? ⟨g, o.length * 2, none⟩ = some (.int .i64 a) := (cellO w _ _ _ _ (by omega)).trans k0
    have c0' : (w.setCell ⟨g, o.length * 2 + 1, none⟩ (.int .i64 x)).cell? ⟨P, 0, none⟩ = some (.int .i64 x) := (cellF _ _ _ _ _ _ hne).trans c0
    have c1' : (w.setCell ⟨g, o.length * 2 + 1, none⟩ (.int .i64 x)).cell? ⟨P, 1, none⟩ = some (.slice (some ⟨g, 0, none⟩) (o.length + 1) oc) := (cellF _ _ _ _ _ _ hne).trans c1
    clear hown hp HS
    unfold maxLen at hc2
    have i1 : (0 : Int) ≤ (o.length : Int) := by omega
    go_enter Tryz.func124, Tryz.ntmps124
    go_wp2
    go_region
    go_wp2
    go_end0
    refine ⟨rfl, ?_, some ⟨g, 0, none⟩, oc, by rw [HT.out]; exact HW.out.drew, .inl (by rw [HT.out]; rfl)⟩
    have := HC.out.drew
    simpa using this
set_option maxHeartbeats 1000000 in
theorem p115 (w : World) (P B : Nat) (oa : Option Addr) (oc : Nat) (ps : PS) (hp : ∀ q ∈ ps.op, -1 ≤ q.2 ∧ q.2 ≤ 23) (h : PkOK w P B oa oc ps) :
    Calls Tryz.prog 125 #[.pointer (some ⟨P, 0, none⟩)] w fun e w' => e = .returned (.bool (leaveF ps).2) ∧ POut w w' P B oa oc ps.op.length (leaveF ps).1 := by
  by_cases ho : ps.op = []
  · have H := hidS h
    obtain ⟨c0, c1, f0, f1, _⟩ := h
    have hl : (ps.op.length : Int) = 0 := by simp [ho]
    have HT : Hid (leaveF ps = (ps, true)) := by show _ = _; simp [leaveF, ho]
    have hl' : ps.op.length ≤ 0 := by simp [ho]
    clear ho hl hp
    go_enter Tryz.func125, Tryz.ntmps125
    go_wp2
    go_ret
    refine ⟨retS_bool (by rw [HT.out]), ChgB.refl _ _ _, oa, oc, by rw [HT.out]; exact H.out, .inl (by rw [HT.out])⟩
  · obtain ⟨o, a, b, ho'⟩ := last2 ps.op ho
    obtain ⟨x, op⟩ := ps
    simp only at ho' ho
    subst ho'
    obtain ⟨g, rfl, hg1, hg2, hc1, hc2, k0, k1, kf⟩ := pk_form h
    have hpb := hp (a, b) (by simp)
    have H := hidS h
    obtain ⟨c0, c1, f0, f1, hown, hlt, hle, hlen, hran⟩ := h
    simp only [List.length_append, List.length_cons, List.length_nil, Nat.zero_add] at c1 hown
    have hlen' : o.length < 1000 := by simp at hlen; omega
    have hran' : -1 ≤ x ∧ x ≤ 23 := hran
    have HT : Hid (leaveF ⟨x, o ++ [(a, b)]⟩ = (⟨if x = -1 then b else x, o⟩, decide (b = -1 ∨ b = (if x = -1 then b else x)))) := by show _ = _; simp [leaveF, List.getLast?_append]
    generalize leaveF ⟨x, o ++ [(a, b)]⟩ = R at *
    have HW : Hid (PkOK (w.setCell ⟨P, 1, none⟩ (.slice (some ⟨g, 0, none⟩) o.length oc)) P B (some ⟨g, 0, none⟩) oc ⟨x, o⟩) := by
      have ho2 : w.ownsRow B 158 2 (.slice (some ⟨g, 0, none⟩) o.length oc) o.length (opC o) := by
        rw [opC_snoc] at hown
        exact ownsRow_pop (opC_len o) hown
      exact ⟨(cellO w _ _ _ _ (by decide)).trans c0, cellS _ c1, by simpa using f0, by simpa using f1, own_far ho2 (fun k hk => set_far w P 1 _ k (by have := (ho2.lt k hk).1; omega)), hlt, by simpa using hle, by show o.length ≤ 1000; omega, hran'⟩
    have HC : Hid (ChgB w (w.setCell ⟨P, 1, none⟩ (.slice (some ⟨g, 0, none⟩) o.length oc)) P (.slice (some ⟨g, 0, none⟩) (o.length + 1) oc)) := (ChgB.refl _ _ _).set 1 _
    have c0' : (w.setCell ⟨P, 1, none⟩ (.slice (some ⟨g, 0, none⟩) o.length oc)).cell? ⟨P, 0, none⟩ = some (.int .i64 x) := (cellO w _ _ _ _ (by decide)).trans c0
    have f0' : (w.setCell ⟨P, 1, none⟩ (.slice (some ⟨g, 0, none⟩) o.length oc)).frozen? ⟨P, 0, none⟩ = false := by simpa using f0
    clear hown hp
    unfold maxLen at hc2
    have i1 : (0 : Int) ≤ (o.length : Int) := by omega
    have i2 : (o.length : Int) ≤ (oc : Int) := by omega
    by_cases hx : x = -1
    · have e1 : (x == -1) = true := by simp [hx]
      have HW2 := hidS (HW.out.setNow b hpb)
      have HF : Hid (R = (⟨b, o⟩, true)) := by show _ = _; rw [HT.out]; simp [hx]
      clear hx HT
      go_enter Tryz.func125, Tryz.ntmps125
      go_wp2
      all_goals
        go_ret
        refine ⟨retS_bool (by rw [HF.out]), ?_, some ⟨g, 0, none⟩, oc, by rw [HF.out]; first | exact HW2.out | (have := HW2.out; simp_all), .inl (by rw [HF.out]; rfl)⟩
        exact HC.out.set 0 _
    · have e1 : (x == -1) = false := by simp [hx]
      have HF : Hid (R = (⟨x, o⟩, decide (b = -1 ∨ b = x))) := by show _ = _; rw [HT.out]; simp [hx]
      clear HT
      go_enter Tryz.func125, Tryz.ntmps125
      go_wp2
      all_goals
        go_ret
        refine ⟨retS_bool (by rw [HF.out]; grind), HC.out, some ⟨g, 0, none⟩, oc, by rw [HF.out]; exact HW.out, .inl (by rw [HF.out]; rfl)⟩
end Go.Proofs.YtffkejkgkgfnhabGreat
namespace Go.Proofs.YtffkejkgkgfnhabGreat
open Go.RowKit
set_option linter.unusedVariables false
theorem gsC_set (gs : List Gp) : ∀ (i : Nat) (g : Gp) (x : Int), gs[i]? = some g → (gsC gs).set (i * 3 + 2) (.int .i64 x) = gsC (gs.set i ⟨g.b, g.f, x⟩) := by
  induction gs with
  | nil => intro i g x h; simp at h
  | cons a r ih =>
    intro i g x h
    have e : ∀ u l, gsC (u :: l) = [.int .i64 u.b, .int .i64 u.f, .int .i64 u.en] ++ gsC l := fun _ _ => rfl
    cases i with
    | zero => simp at h; subst h; rw [List.set_cons_zero, e, e]; rfl
    | succ i =>
      rw [List.set_cons_succ, e, e, ← ih i g x (by simpa using h), List.set_append_right _ _ (by simp; omega)]
      congr 1
      congr 1
      simp; omega
theorem FkOK.setEnd {s : ByteArray} {A : List Ak} {w : World} {f : Fp} {g gc : Nat} {fs : FS} (h : FkOK s A w f (some ⟨g, 0, none⟩) gc fs) (i : Nat) (q : Gp) (hq : fs.gs[i]? = some q) (x : Int) : FkOK s A ((w.setCell ⟨g, i * 3 + 2, none⟩ (.int .i64 x)).setCell ⟨f.F, 3, none⟩ (.bool true)) f (some ⟨g, 0, none⟩) gc { fs with gs := fs.gs.set i ⟨q.b, q.f, x⟩, grew := true } := by
  have hg := h.own.lt g rfl
  obtain ⟨c0, c1, c2, c3, f1, f3, own, act, com, n1, n2, n3, l0, l1, l2, l3, la⟩ := h
  have m0 : f.F ≠ g := by omega
  have m1 : f.ag ≠ g := by omega
  have m2 : f.cg ≠ g := by omega
  have len : (fs.gs.set i ⟨q.b, q.f, x⟩).length = fs.gs.length := by simp
  have fb : ∀ j, 3 ≠ j → ((w.setCell ⟨g, i * 3 + 2, none⟩ (.int .i64 x)).setCell ⟨f.F, 3, none⟩ (.bool true)).cell? ⟨f.F, j, none⟩ = w.cell? ⟨f.F, j, none⟩ := fun j hj => (cellO _ _ _ _ _ hj).trans (cellF _ _ _ _ _ _ m0)
  have fa : ∀ k, k ≠ f.F → k ≠ g → ((w.setCell ⟨g, i * 3 + 2, none⟩ (.int .i64 x)).setCell ⟨f.F, 3, none⟩ (.bool true)).heap[k]? = w.heap[k]? := fun k h1 h2 => (set_far _ f.F 3 _ k h1).trans (set_far _ g _ _ k h2)
  have s1 := (own.stored (i * 3 + 2) (.int .i64 x)).1
  rw [gsC_set fs.gs i q x hq] at s1
  refine ⟨(fb 0 (by decide)).trans c0, ?_, (fb 2 (by decide)).trans c2, cellS (u := .bool fs.grew) _ ((cellF _ _ _ _ _ _ m0).trans c3), by simpa using f1, by simpa using f3, ?_, act.far (fa _ n1.symm m1), fun j hj c hc => ⟨(World.cell?_of_block (fa _ n2.symm m2)).trans (com j hj c hc).1, (World.frozen?_of_block (fa _ n2.symm m2)).trans (com j hj c hc).2⟩, n1, n2, n3, l0, l1, l2, by simpa using l3, la⟩
  · show _ = some (Value.slice _ (fs.gs.set i ⟨q.b, q.f, x⟩).length gc)
    rw [len]; exact (fb 1 (by decide)).trans c1
  · show World.ownsRow _ _ _ _ (.slice _ (fs.gs.set i ⟨q.b, q.f, x⟩).length gc) (fs.gs.set i ⟨q.b, q.f, x⟩).length _
    rw [len]
    exact own_far s1 (fun k hk => set_far _ f.F 3 _ k (by simp [Value.ownBlock] at hk; omega))
set_option maxHeartbeats 2000000 in
theorem p106 (s : ByteArray) (A : List Ak) (w : World) (f : Fp) (ga : Option Addr) (gc : Nat) (fs : FS) (i : Nat) (x : Int) (hi : i < fs.gs.length) (hx : -1 ≤ x ∧ x ≤ 23) (hl : fs.gs.length ≤ 30000) (h : FkOK s A w f ga gc fs) :
    Calls Tryz.prog 109 #[.pointer (some ⟨f.F, 0, none⟩), .int .i64 i, .int .i64 x] w fun e w' => e = .returned (.bool (endF fs i x).isSome) ∧ ChgF f (.slice ga fs.gs.length gc) w w' ∧ ∀ fs', endF fs i x = some fs' → FOut s A f ga gc fs.gs.length w w' fs' := by
  have H := hidS h
  obtain ⟨R, hR⟩ : ∃ R, R = endF fs i x := ⟨_, rfl⟩
  rw [← hR]
  by_cases hn : x = -1
  · have e1 : (x == -1) = true := by simp [hn]
    have HF : Hid (R = some fs) := by show _ = _; rw [hR]; unfold endF; rw [if_pos hn]
    clear h hR
    go_enter Tryz.func109, Tryz.ntmps109
    go_wp2
    go_ret
    refine ⟨retS_bool (by rw [HF.out]; rfl), ChgF.refl _ _ _, fun fs' q => ?_⟩
    rw [HF.out] at q
    cases q
    exact ⟨ChgF.refl _ _ _, ga, gc, H.out, .inl rfl⟩
  · have e1 : (x == -1) = false := by simp [hn]
    have hgi : fs.gs[i]? = some fs.gs[i] := List.getElem?_eq_getElem hi
    have hR2 : R = if i ≠ 0 ∨ x = 0 then some (setEn fs i fs.gs[i] x) else none := by rw [hR]; unfold endF; rw [if_neg hn, hgi]
    obtain ⟨g, rfl, k0, k1, k2, kf, hgB, hgl⟩ := gp_at h.own i hi
    have c1 := h.c1
    have c3 := h.c3
    have f3 := h.f3
    have hne : f.F ≠ g := by have := h.l0; omega
    have HS := hidS (h.setEnd i fs.gs[i] hgi x)
    have i1 : (0 : Int) ≤ (i : Int) := by omega
    have i2 : (i : Int) < (fs.gs.length : Int) := by omega
    have hRb : R.isSome = decide (i ≠ 0 ∨ x = 0) := by
      rw [hR2]
      by_cases q : i ≠ 0 ∨ x = 0
      · rw [if_pos q]; exact (decide_eq_true q).symm
      · rw [if_neg q]; exact (decide_eq_false q).symm
    have HRb := hidS hRb
    by_cases he : fs.gs[i].en = -1
    · have HF : Hid (∀ fs', R = some fs' → fs' = { fs with gs := fs.gs.set i ⟨fs.gs[i].b, fs.gs[i].f, x⟩, grew := true }) := fun fs' q => by
        rw [hR2] at q
        split at q
        · cases q; unfold setEn; rw [if_pos he]
        · cases q
      rw [he] at k2
      have q3 : (w.setCell ⟨g, i * 3 + 2, none⟩ (.int .i64 x)).cell? ⟨f.F, 3, none⟩ = some (.bool fs.grew) := (cellF _ _ _ _ _ _ hne).trans c3
      clear h hR hR2 hRb he hgi
      have HC : Hid (ChgF f (.slice (some ⟨g, 0, none⟩) fs.gs.length gc) w ((w.setCell ⟨g, i * 3 + 2, none⟩ (.int .i64 x)).setCell ⟨f.F, 3, none⟩ (.bool true))) :=
        ⟨rfl, rfl, rfl, by simp, fun k h1 h2 h3 h4 => (set_far _ f.F 3 _ k h2).trans (set_far _ g _ _ k (fun e => h4 (by rw [e]; rfl)))⟩
      go_enter Tryz.func109, Tryz.ntmps109
      go_wp2
      all_goals
        go_ret
        refine ⟨retS_bool (by rw [HRb.out]; grind), (by first | exact HC.out | (have hcc := HC.out; have e0 : i * 3 + 2 = 2 := (by omega); rw [e0] at hcc; exact hcc)), fun fs' q => ?_⟩
        rw [HF.out fs' q]
        refine ⟨(by first | exact HC.out | (have hcc := HC.out; have e0 : i * 3 + 2 = 2 := (by omega); rw [e0] at hcc; exact hcc)), some ⟨g, 0, none⟩, gc, by first | exact HS.out | (have hss := HS.out; have e0 : i * 3 + 2 = 2 := (by omega); rw [e0] at hss; exact hss), .inl (by simp [Value.ownBlock])⟩
    · have e2 : (fs.gs[i].en == -1) = false := by simp [he]
      have HF : Hid (∀ fs', R = some fs' → fs' = fs) := fun fs' q => by
        rw [hR2] at q
        split at q
        · cases q; unfold setEn; rw [if_neg he]
        · cases q
      clear h hR hR2 hRb hgi HS
      generalize fs.gs[i].en = EN at *
      go_enter Tryz.func109, Tryz.ntmps109
      go_wp2
      all_goals
        go_ret
        refine ⟨retS_bool (by rw [HRb.out]; grind), ChgF.refl _ _ _, fun fs' q => ?_⟩
        rw [HF.out fs' q]
        exact ⟨ChgF.refl _ _ _, some ⟨g, 0, none⟩, gc, H.out, .inl rfl⟩
end Go.Proofs.YtffkejkgkgfnhabGreat
