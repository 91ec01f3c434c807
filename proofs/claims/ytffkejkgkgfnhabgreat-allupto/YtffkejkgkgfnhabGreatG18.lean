import Derived.Test.YtffkejkgkgfnhabGreatG17
import Derived.Test.YtffkejkgkgfnhabGreatG05
namespace Go.Proofs.YtffkejkgkgfnhabGreat
open Go.RowKit
set_option linter.unusedVariables false
def PcoPost (p : PgP) (ra : Option Addr) (rc : Nat) (R : List Dat) (w : World) (st' : Pst) (e : Ending) (w' : World) : Prop :=
  e = .returned (.tuple #[]) ∧ ∃ ra' rc', PgOK w' p ra' rc' R st' ∧ ChP p.pb (.slice ra R.length rc) (.slice ra' R.length rc') w w'
theorem r77 (n : Nat) (hB : ∀ m, n = m + 1 → BodOK m) (w : World) (p : PgP) (ra : Option Addr) (rc : Nat) (R : List Dat) (st : Pst) (k at' : Int) (nm : ByteArray) (th el r : Nds) (tw : Bool) (ta ea : Option Addr) (tc ec : Nat)
   (hn : 500 ≤ st.steps + n) (hR : R.length ≤ st.steps + 1) (hT : TmE w p) (hwf : WfN p.ts (.cons k at' nm th el tw r)) (hk : k ≠ 1) (hst : th.sz ≤ 1000) (hse : el.sz ≤ 1000)
   (hSt : Slc w (fun k => k < p.N) 102 (.slice ta th.len tc) th) (hSe : Slc w (fun k => k < p.N) 102 (.slice ea el.len ec) el) (h : PgOK w p ra rc R st) :
   Calls Tryz.prog 76 #[.pointer (some ⟨p.pb, 0, none⟩), .agg #[.int .i64 k, .int .i64 at', .string nm, .slice ta th.len tc, .slice ea el.len ec, .bool tw]] w (PcoPost p ra rc R w (pceF (subF p.ts p.tr n) p.ts R k nm th el st)) := by
  by_cases hs : st.steps < 500
  · have hp : pceF (subF p.ts p.tr n) p.ts R k nm th el st = insF (subF p.ts p.tr n) p.ts R k nm th el { st with steps := st.steps + 1 } := by rw [pceF, if_neg (by omega)]
    rw [hp]
    obtain ⟨m, rfl⟩ : ∃ m, n = m + 1 := ⟨n - 1, by omega⟩
    obtain ⟨hkk, _, _, hc5, hwt, hwe, _⟩ := hwf
    rcases hkk with rfl | rfl | rfl | rfl | rfl
    · exact absurd rfl hk
    · exact r77h w p ra rc R st at' nm ta ea th.len tc el.len ec tw hs hR h _ th el
    · exact r77q w p ra rc R st at' nm ta ea th.len tc el.len ec tw hs hR h m (hB m rfl) th el (by omega) hT hwt hwe hst hse rfl rfl hSt hSe
    · exact r77l w p ra rc R st at' nm ta ea th.len tc el.len ec tw hs hR h m (hB m rfl) th el (by omega) hT hwt hwe hst hse rfl rfl hSt hSe
    · exact r77c m (hB m rfl) w p ra rc R st at' nm ta ea th.len tc el.len ec tw hs (by omega) hR hT (hc5 rfl) h
  · have hp : pceF (subF p.ts p.tr n) p.ts R k nm th el st = { st with err := 12 } := by rw [pceF, if_pos (by omega)]
    rw [hp]
    exact (r77s w p ra rc R st k at' nm ta ea th.len tc el.len ec tw hs h).mono fun e w' hh => ⟨hh.1, ra, rc, hh.2.1, hh.2.2⟩
theorem bdyF_at {B : Nds → List Dat → Pst → Pst} {ts : List Tm} {tr : Bool} {R : List Dat} {b th el r : Nds} {i : Nat} {k a : Int} {nm : ByteArray} {tw : Bool} (e1 : b.drop i = .cons k a nm th el tw r) (e2 : b.drop (i + 1) = r) (st : Pst) :
    bdyF B ts tr R (b.drop i) st = if st.err ≠ 0 then st else bdyF B ts tr R (b.drop (i + 1)) (if k = 1 then txtF tr nm.data.toList st else pceF B ts R k nm th el st) := by
  rw [e1, e2]; rfl
set_option maxRecDepth 100000 in
set_option maxHeartbeats 4000000 in
theorem r51 (n : Nat) (hB : ∀ m, n = m + 1 → BodOK m) : BodOK n := by
  intro w p ra rc R st a c b hn hR hT hwf hsz hS h
  have hll := len_sz b
  have HP := hidS h
  have HB := hidS hB
  have HT := hidS hT
  have HWF := hidS hwf
  have HS := hidS hS
  have hbl : b.len ≤ 1000 := by omega
  rw [pagF_eq]
  clear h hB hT hwf hS
  go_enter Tryz.func49, Tryz.ntmps49
  go_wp2
  go_loopw [4] (fun iv wr => ∃ (k : Nat) (s1 : Pst) (ra1 : Option Addr) (rc1 : Nat), k ≤ b.len ∧ iv = .int .i64 k ∧ st.steps ≤ s1.steps ∧ Hid (PgOK wr p ra1 rc1 R s1) ∧ Hid (bdyF (subF p.ts p.tr n) p.ts p.tr R b st = bdyF (subF p.ts p.tr n) p.ts p.tr R (b.drop k) s1) ∧ Hid (ChP p.pb (.slice ra R.length rc) (.slice ra1 R.length rc1) w wr)) (fun iv _ => b.len - (intOf iv).toNat)
  case atStart => exact ⟨0, st, ra, rc, Nat.zero_le _, rfl, Nat.le_refl _, HP.out, by rw [Nds.drop]; exact rfl, ChP.refl _ _ _⟩
  case round =>
    obtain ⟨k, s1, ra1, rc1, hk, rfl, hst, HP1, HF, HC⟩ := hrel
    have c5 := HP1.out.c5
    have hpl := HP1.out.lt
    have hlow := HC.out.low HP.out
    by_cases hlt : k < b.len
    · by_cases he : s1.err = 0
      · obtain ⟨_, h0 | ⟨g, hga, hat⟩⟩ := ndAt (HS.out.mono (w' := wr) hlow (fun _ q => q))
        · omega
        subst hga
        obtain ⟨kd, ap, nm, th, el, tw, r, ta, ea, tc, ec, e1, e2, c0, c1, c2, c3, c4, s2, s3, z1, z2, c6⟩ := hat k hlt
        have hwn : WfN p.ts (.cons kd ap nm th el tw r) := by rw [← e1]; exact WfN.drop b k HWF.out
        have HBS := hidS (bdyF_at (B := subF p.ts p.tr n) (ts := p.ts) (tr := p.tr) (R := R) e1 e2 s1)
        have hnm : nm.size ≤ 400 := hwn.2.2.1
        by_cases hkd : kd = 1
        · subst hkd
          have Ht := hidS (r76 wr p ra1 rc1 R s1 nm (by omega) HP1.out)
          have HFF : Hid (bdyF (subF p.ts p.tr n) p.ts p.tr R b st = bdyF (subF p.ts p.tr n) p.ts p.tr R (b.drop (k + 1)) (txtF p.tr nm.data.toList s1)) := by show _ = _; rw [HF.out, HBS.out, if_neg (by simpa using he), if_pos rfl]
          have hts := txtF_steps p.tr nm.data.toList s1
          rw [he] at c5
          clear hat e1 e2 s2 s3 hwn HBS hlow c3 c4
          go_wp2_with fail
          refine Ht.out.mono ?_
          rintro e w2 ⟨rfl, hP2, hC2⟩
          have HP2 := hidS hP2
          have HC2 := hidS (HC.out.trans hC2)
          clear hP2 hC2 Ht c0 c1 c2 c5 c6
          go_wp2
          exact ⟨⟨k + 1, _, ra1, rc1, by omega, by go_num, by omega, HP2.out, HFF.out, HC2.out⟩, by simp [intOf]; omega⟩
        · have hkd' : (kd == 1) = false := by simpa using hkd
          have Hp := hidS (r77 n HB.out wr p ra1 rc1 R s1 kd ap nm th el r tw ta ea tc ec (by omega) (by omega) (HT.out.mono hlow) hwn hkd (by omega) (by omega) s2 s3 HP1.out)
          have HFF : Hid (bdyF (subF p.ts p.tr n) p.ts p.tr R b st = bdyF (subF p.ts p.tr n) p.ts p.tr R (b.drop (k + 1)) (pceF (subF p.ts p.tr n) p.ts R kd nm th el s1)) := by show _ = _; rw [HF.out, HBS.out, if_neg (by simpa using he), if_neg hkd]
          have hts := pceF_steps (subF p.ts p.tr n) p.ts R (subF_steps p.ts p.tr n) kd nm th el s1
          rw [he] at c5
          generalize pceF (subF p.ts p.tr n) p.ts R kd nm th el s1 = s4 at *
          clear hat e1 e2 s2 s3 hwn HBS hlow hkd
          generalize th.len = tl at *
          generalize el.len = eln at *
          go_wp2_with fail
          refine Hp.out.mono ?_
          rintro e w2 ⟨rfl, ra2, rc2, hP2, hC2⟩
          have HP2 := hidS hP2
          have HC2 := hidS (HC.out.trans hC2)
          clear hP2 hC2 Hp c0 c1 c2 c3 c4 c5 c6
          go_wp2
          exact ⟨⟨k + 1, s4, ra2, rc2, by omega, by go_num, by omega, HP2.out, HFF.out, HC2.out⟩, by simp [intOf]; omega⟩
      · have HFF : Hid (bdyF (subF p.ts p.tr n) p.ts p.tr R b st = s1) := by
          show _ = _
          rw [HF.out]
          cases hdr : b.drop k <;> simp [bdyF, he]
        have he' : (s1.err == 0) = false := by simpa using he
        go_wp2
        go_end0
        exact ⟨rfl, ra1, rc1, by rw [HFF.out]; exact HP1.out, HC.out⟩
    · have HFF : Hid (bdyF (subF p.ts p.tr n) p.ts p.tr R b st = s1) := by
        show _ = _
        rw [HF.out, drop_nil b k (by omega)]; rfl
      go_wp2
      go_end0
      exact ⟨rfl, ra1, rc1, by rw [HFF.out]; exact HP1.out, HC.out⟩
theorem bod_all (n : Nat) : BodOK n := by
  induction n with
  | zero => exact r51 0 (fun m h => by omega)
  | succ n ih => exact r51 (n + 1) (fun m h => (show m = n by omega) ▸ ih)
end Go.Proofs.YtffkejkgkgfnhabGreat
/-
  A SOURCE HAS ONE READING. No Go.
-/
namespace Go.Proofs.YtffkejkgkgfnhabGreat
open Go.RowKit
set_option linter.unusedVariables false
def trm (k : Int) : Prop := k = 2 ∨ k = 5 ∨ k = 7
theorem text_no (s : ByteArray) (p : Nat) (h : p < skp s txB p) : (act s p).kind = 0 := by
  refine act_no s p (fun hh => ?_)
  rw [skp_stop s txB p hh.1 (by rw [hh.2]; decide)] at h
  omega
theorem Flat.one_way {s : ByteArray} {d p e : Nat} {a : Nds} {A : List Ak} (h : Flat s d a p A e) : ∀ {a' : Nds} {A' : List Ak} {e' : Nat}, trm (act s e).kind → trm (act s e').kind → Flat s d a' p A' e' → a = a' ∧ A = A' ∧ e = e' := by
  induction h with
  | nil d p =>
    intro a' A' e' ht ht' h'
    cases h' with
    | nil => exact ⟨rfl, rfl, rfl⟩
    | text h k => have := text_no s p h; unfold trm at ht; omega
    | hole h k => unfold trm at ht; omega
    | call h k => unfold trm at ht; omega
    | loop hd h k1 h1 k => unfold trm at ht; omega
    | one hd h k1 h1 k => unfold trm at ht; omega
    | two hd h k1 h1 k2 h2 k => unfold trm at ht; omega
  | text h k ih =>
    intro a' A' e' ht ht' h'
    have h0 := text_no s _ h
    cases h' with
    | nil => unfold trm at ht'; omega
    | text h2 k2 => obtain ⟨e1, e2, e3⟩ := ih ht ht' k2; subst e1; subst e2; subst e3; exact ⟨rfl, rfl, rfl⟩
    | hole h k => omega
    | call h k => omega
    | loop hd h k1 h1 k => omega
    | one hd h k1 h1 k => omega
    | two hd h k1 h1 k2 h2 k => omega
  | hole h k ih =>
    intro a' A' e' ht ht' h'
    cases h' with
    | nil => unfold trm at ht'; omega
    | text h2 k2 => have := text_no s _ h2; omega
    | hole h2 k2 => obtain ⟨e1, e2, e3⟩ := ih ht ht' k2; subst e1; subst e2; subst e3; exact ⟨rfl, rfl, rfl⟩
    | call h k => omega
    | loop hd h k1 h1 k => omega
    | one hd h k1 h1 k => omega
    | two hd h k1 h1 k2 h2 k => omega
  | call h k ih =>
    intro a' A' e' ht ht' h'
    cases h' with
    | nil => unfold trm at ht'; omega
    | text h2 k2 => have := text_no s _ h2; omega
    | hole h2 k2 => omega
    | call h2 k2 => obtain ⟨e1, e2, e3⟩ := ih ht ht' k2; subst e1; subst e2; subst e3; exact ⟨rfl, rfl, rfl⟩
    | loop hd h k1 h1 k => omega
    | one hd h k1 h1 k => omega
    | two hd h k1 h1 k2 h2 k => omega
  | loop hd h k1 h1 k ih1 ih =>
    intro a' A' e' ht ht' h'
    cases h' with
    | nil => unfold trm at ht'; omega
    | text h2 k2 => have := text_no s _ h2; omega
    | hole h2 k2 => omega
    | call h2 k2 => omega
    | loop hd' h' k1' h1' k' =>
      obtain ⟨e1, e2, e3⟩ := ih1 (.inr (.inr h1)) (.inr (.inr h1')) k1'
      subst e1; subst e2; subst e3
      obtain ⟨e1, e2, e3⟩ := ih ht ht' k'
      subst e1; subst e2; subst e3; exact ⟨rfl, rfl, rfl⟩
    | one hd h k1 h1 k => omega
    | two hd h k1 h1 k2 h2 k => omega
  | one hd h k1 h1 k ih1 ih =>
    intro a' A' e' ht ht' h'
    cases h' with
    | nil => unfold trm at ht'; omega
    | text h2 k2 => have := text_no s _ h2; omega
    | hole h2 k2 => omega
    | call h2 k2 => omega
    | loop hd h k1 h1 k => omega
    | one hd' h' k1' h1' k' =>
      obtain ⟨e1, e2, e3⟩ := ih1 (.inr (.inr h1)) (.inr (.inr h1')) k1'
      subst e1; subst e2; subst e3
      obtain ⟨e1, e2, e3⟩ := ih ht ht' k'
      subst e1; subst e2; subst e3; exact ⟨rfl, rfl, rfl⟩
    | two hd' h' k1' h1' k2' h2' k' =>
      obtain ⟨e1, e2, e3⟩ := ih1 (.inr (.inr h1)) (.inr (.inl h1')) k1'
      subst e3
      omega
  | two hd h k1 h1 k2 h2 k ih1 ih2 ih =>
    intro a' A' e' ht ht' h'
    cases h' with
    | nil => unfold trm at ht'; omega
    | text h2 k2 => have := text_no s _ h2; omega
    | hole h2 k2 => omega
    | call h2 k2 => omega
    | loop hd h k1 h1 k => omega
    | one hd' h' k1' h1' k' =>
      obtain ⟨e1, e2, e3⟩ := ih1 (.inr (.inl h1)) (.inr (.inr h1')) k1'
      subst e3
      omega
    | two hd' h' k1' h1' k2' h2' k' =>
      obtain ⟨e1, e2, e3⟩ := ih1 (.inr (.inl h1)) (.inr (.inl h1')) k1'
      subst e1; subst e2; subst e3
      obtain ⟨e1, e2, e3⟩ := ih2 (.inr (.inr h2)) (.inr (.inr h2')) k2'
      subst e1; subst e2; subst e3
      obtain ⟨e1, e2, e3⟩ := ih ht ht' k'
      subst e1; subst e2; subst e3; exact ⟨rfl, rfl, rfl⟩
theorem TFlat.same {s : ByteArray} {ts : List Tm} {A : List Ak} {p : Nat} (h : TFlat s ts A p) : ∀ {ts' : List Tm} {A' : List Ak} {p' : Nat}, TFlat s ts' A' p' → ts.length = ts'.length → ts = ts' ∧ A = A' ∧ p = p' := by
  induction h with
  | nil =>
    intro ts' A' p' h' hl
    cases h' with
    | nil => exact ⟨rfl, rfl, rfl⟩
    | snoc h hl' hk hb he => simp at hl
  | snoc h hl hk hb he ih =>
    intro ts' A' p' h' hl'
    cases h' with
    | nil => simp at hl'
    | snoc h2 hl2 hk2 hb2 he2 =>
      obtain ⟨e1, e2, e3⟩ := ih h2 (by simpa using hl')
      subst e1; subst e2; subst e3
      obtain ⟨e1, e2, e3⟩ := hb.one_way (.inl he) (.inl he2) hb2
      subst e1; subst e2; subst e3
      exact ⟨rfl, rfl, rfl⟩
theorem TFlat.front {s : ByteArray} {ts : List Tm} {A : List Ak} {p : Nat} (h : TFlat s ts A p) : ∀ n, n < ts.length → ∃ us B q, TFlat s us B q ∧ us.length = n ∧ (act s q).kind = 1 := by
  induction h with
  | nil => intro n hn; simp at hn
  | @snoc ts A B p e b h hl hk hb he ih =>
    intro n hn
    by_cases hlt : n < ts.length
    · exact ih n hlt
    · exact ⟨ts, A, p, h, by simp at hn; omega, hk⟩
theorem TFlat.one_way {s : ByteArray} {ts ts' : List Tm} {A A' : List Ak} (h : TFlat s ts A s.size) (h' : TFlat s ts' A' s.size) : ts = ts' ∧ A = A' := by
  rcases Nat.lt_trichotomy ts.length ts'.length with hl | hl | hl
  · obtain ⟨us, B, q, k1, k2, k3⟩ := h'.front ts.length hl
    obtain ⟨_, _, e⟩ := h.same k1 k2.symm
    have := act_next s q (by omega)
    omega
  · obtain ⟨e1, e2, _⟩ := h.same h' hl
    exact ⟨e1, e2⟩
  · obtain ⟨us, B, q, k1, k2, k3⟩ := h.front ts'.length hl
    obtain ⟨_, _, e⟩ := h'.same k1 k2.symm
    have := act_next s q (by omega)
    omega
end Go.Proofs.YtffkejkgkgfnhabGreat
