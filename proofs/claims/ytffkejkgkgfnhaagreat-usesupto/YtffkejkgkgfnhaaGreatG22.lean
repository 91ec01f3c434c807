import Derived.Test.YtffkejkgkgfnhaaGreatG21
import Derived.Test.YtffkejkgkgfnhaaGreatG04
import Derived.Test.YtffkejkgkgfnhaaGreatG09
import Derived.Test.YtffkejkgkgfnhaaGreatG19
import Derived.Test.YtffkejkgkgfnhaaGreatG14
namespace Go.Proofs.YtffkejkgkgfnhaaGreat
open Go.ChangeShapes Go.WideShapes Go.ChangeAt Go.RowKit Go.Deep
set_option linter.unusedVariables false
set_option maxHeartbeats 1000000 in
theorem w8 (hP : PWOK 26) (w : World) (wb : Nat) (ha : Option Addr) (hc : Nat) (hs : List Hd) (n : Int) (s t : ByteArray) (d : Value) (hsz : s.size ≤ maxLen) (hl : hs.length ≤ 4500000) (hW : WdOK w wb ha hc hs) :
    Calls Tryz.prog 9 #[.pointer (some ⟨wb, 0, none⟩), .agg #[.int .i64 4, .int .i64 n, .string s, .string t, d]] w fun e w' => e = .returned (.bool true) ∧ Below wb w w' ∧ ∃ ha' hc' hs', hs'.length = hs.length + 4 ∧ WdOK w' wb ha' hc' hs' := by
  have Hc := hidS (fun o => w16 hP (w.alloc o) wb ha hc hs n s t d hsz hl (hW.below ((Below.refl _ _).alloc (Nat.le_refl _) _)))
  have hwl := hW.lt
  clear hW hP
  go_enter Tryz.func9, Tryz.ntmps9
  go_wp2_with fail
  refine (Hc.out _).mono ?_
  clear Hc
  rintro e w1 ⟨rfl, hb, ha', hc', hs', hh, hw⟩
  have HH := hidS hh
  have HW := hidS hw
  clear hh hw
  go_wp2
  go_ret
  exact ⟨rfl, ((Below.refl wb w).alloc (by omega) _).trans hb, ha', hc', hs', HH.out, HW.out⟩
theorem wd0 (w : World) : WdOK (w.alloc (.cells #[.slice none 0 0] 28)) w.heap.size none 0 [] := by
  refine ⟨by simp, by simp, World.ownsRow_nil _ _ _ _, by simp, fun h hh => absurd hh (by simp), fun h hh => absurd hh (by simp), fun h hh => absurd hh (by simp)⟩
set_option maxHeartbeats 2000000 in
theorem w7 (hP : PWOK 26) (w : World) (b off len cap : Nat) (hlen : len ≤ 1048576) (Kd Nn : Nat → Int) (Ss Ts : Nat → ByteArray) (Ds : Nat → Value) (hb : b < w.heap.size)
  (hc0 : ∀ i, i < len → w.cell? ⟨b, off + i * 5, none⟩ = some (.int .i64 (Kd i)))
  (hc1 : ∀ i, i < len → w.cell? ⟨b, off + i * 5 + 1, none⟩ = some (.int .i64 (Nn i)))
  (hc2 : ∀ i, i < len → w.cell? ⟨b, off + i * 5 + 2, none⟩ = some (.string (Ss i)))
  (hc3 : ∀ i, i < len → w.cell? ⟨b, off + i * 5 + 3, none⟩ = some (.string (Ts i)))
  (hc4 : ∀ i, i < len → w.cell? ⟨b, off + i * 5 + 4, none⟩ = some (Ds i)) (hG : ∀ i, i < len → (Ss i).size ≤ maxLen) :
    Calls Tryz.prog 8 #[.slice (some ⟨b, off, none⟩) len cap, .int .i64 4, .int .i64 4] w fun e w' => e = .returned (.int .i64 (-1)) ∧ Below w.heap.size w w' := by
  have H0 := hidS hc0; have H1 := hidS hc1; have H2 := hidS hc2; have H3 := hidS hc3; have H4 := hidS hc4; have HG := hidS hG
  have HP := hidS hP
  clear hc0 hc1 hc2 hc3 hc4 hG hP
  go_enter Tryz.func8, Tryz.ntmps8
  go_wp2
  go_loopw [8, 9, 10] (fun i _ _ wr => ∃ (k : Nat) (ha : Option Addr) (hc : Nat) (hs : List Hd), k ≤ len ∧ i = .int .i64 k ∧ hs.length ≤ 4 * k ∧ Hid (WdOK wr w.heap.size ha hc hs) ∧ Hid (Below w.heap.size w wr)) (fun i _ _ _ => len - (intOf i).toNat)
  case atStart => exact ⟨0, none, 0, [], Nat.zero_le _, rfl, by simp, wd0 w, (Below.refl _ _).alloc (Nat.le_refl _) _⟩
  case round =>
    obtain ⟨k, ha, hc, hs, hk, rfl, hhl, HW, HB⟩ := hrel
    by_cases hlt : k < len
    · have old : ∀ o v, w.cell? ⟨b, o, none⟩ = some v → wr.cell? ⟨b, o, none⟩ = some v := fun o v h => (HB.out.cell (p := ⟨b, o, none⟩) hb).trans h
      have k0 := old _ _ (H0.out k hlt)
      have k1 := old _ _ (H1.out k hlt)
      have k2 := old _ _ (H2.out k hlt)
      have k3 := old _ _ (H3.out k hlt)
      have k4 := old _ _ (H4.out k hlt)
      have hG' := HG.out k hlt
      clear old
      by_cases hK : Kd k = 4
      · have e1 : ¬ Kd k < 4 := by omega
        have e2 : ¬ 4 < Kd k := by omega
        have HK := hidS hK
        have Hc := hidS (w8 HP.out wr w.heap.size ha hc hs (Nn k) (Ss k) (Ts k) (Ds k) hG' (by omega) HW.out)
        clear hK hG'
        go_wp2_with fail
        rw [HK.out]
        refine Hc.out.mono ?_
        rintro e w2 ⟨rfl, hb2, ha', hc', hs', hh, hw⟩
        have HB2 : Hid (Below w.heap.size w w2) := HB.out.trans hb2
        have Hl := hidS (c9L w2 w.heap.size ha' hc' hs' (by omega) hw)
        have HW2 := hidS hw
        clear k0 k1 k2 k3 k4 hb2 hw Hc HW
        go_wp2_with fail
        refine Hl.out.mono ?_
        rintro e w3 ⟨rfl, hb3⟩
        have HW3 := hidS (HW2.out.below hb3)
        have HB3 : Hid (Below w.heap.size w w3) := HB2.out.trans (hb3.mono HB2.out.size)
        clear hb3 Hl HW2
        go_wp2
        exact ⟨⟨k + 1, ha', hc', hs', by omega, by go_num, by omega, HW3.out, HB3.out⟩, by simp [intOf]; omega⟩
      · clear k1 k2 k3 k4
        by_cases e1 : Kd k < 4
        · go_wp2
          exact ⟨⟨k + 1, ha, hc, hs, by omega, by go_num, by omega, HW.out, HB.out⟩, by simp [intOf]; omega⟩
        · have e2 : 4 < Kd k := by omega
          clear hK
          go_wp2
          exact ⟨⟨k + 1, ha, hc, hs, by omega, by go_num, by omega, HW.out, HB.out⟩, by simp [intOf]; omega⟩
    · go_wp2
      go_ret
      exact ⟨rfl, HB.out⟩
set_option maxHeartbeats 400000 in
theorem w6 (hP : PWOK 26) (a : Option Addr) (len cap : Nat) (w : World) (hlen : len ≤ 1048576) (h : IsOps w a len (fun _ s _ => s.size ≤ maxLen)) :
    Calls Tryz.prog 6 #[.slice a len cap] w fun e w' => e = .returned (.bool true) ∧ Below w.heap.size w w' := by
  have H : Hid (Calls Tryz.prog 8 #[.slice a len cap, .int .i64 4, .int .i64 4] w fun e w' => e = .returned (.int .i64 (-1)) ∧ Below w.heap.size w w') := by
    rcases h with rfl | ⟨b, off, Kd, Nn, Ss, Ts, Ds, rfl, hb, h0, h1, h2, h3, h4, hG⟩
    · exact c9nil 4 a cap w
    · exact w7 hP w b off len cap hlen Kd Nn Ss Ts Ds hb h0 h1 h2 h3 h4 hG
  clear h
  go_enter Tryz.func6, Tryz.ntmps6
  go_wp2_with fail
  refine H.out.mono ?_
  rintro e w' ⟨rfl, hb⟩
  go_wp2
  go_ret
  exact ⟨rfl, hb⟩
theorem open_len {H : Type} {enc : TypeId × Value → H} {w : World} {fuel len cap : Nat} {a : Option Addr} {x : DataW H × List MemPlace}
    (h : DataW.trod enc Tryz.prog w 0 (fun _ => true) true fuel 22 [.slice a len cap] = some x) : len = 0 ∨ ∃ elems spare, x.1 = .slice elems spare ∧ elems.length = len := by
  rcases open_slice Tryz.underlying22 h with ⟨hcs, _⟩ | ⟨a', len', cap', m, n, D, Pl, hcs, _, hl, hm, hmm, hx, hall⟩
  · simp at hcs; exact .inl hcs.2.1
  · simp at hcs
    obtain ⟨rfl, rfl, rfl⟩ := hcs
    exact .inr ⟨_, _, by rw [hx], by simp⟩
theorem bulk_len {H : Type} (l : List (DataW H)) : l.length ≤ Rows.uptoBulkAll l := by
  induction l with
  | nil => simp
  | cons x r ih => have := bulk_one x; simp only [Rows.uptoBulkAll, List.length_cons]; omega
theorem small_len {H : Type} (x : DataW H) (hk : Rows.uptoSmall H [x] = true) (elems spare : List (DataW H)) (hx : x = .slice elems spare) : elems.length ≤ 1048576 := by
  have h := of_decide_eq_true hk
  have h2 := bulk_len elems
  subst hx
  simp only [Rows.uptoBulkAll, Rows.uptoBulk] at h
  omega
theorem own7 : ownKnob Tryz.prog.godebug = none := by kernel_rfl
theorem laid7 : laidOutB Tryz.prog = true := by kernel_rfl
set_option maxRecDepth 100000 in
theorem lifted7 (hP : PWOK 26) (os : Os) (started : os.Started) (H : Type) (enc : TypeId × Value → H) (F : Stop.Interp) :
    ReturnsInHanded {} Tryz.checked os 6 .any ((Rows.OpenSpec.upto Rows.usesSpec).pre6 enc Tryz.prog Tryz.f6 Rows.usesUptoRow.domain false) (((Rows.OpenSpec.upto Rows.usesSpec).at F).post enc Tryz.prog Tryz.f6 false true false false) := by
  refine returnsInHanded_of_cond (C := Tryz.checked) (s := Rows.OpenSpec.upto Rows.usesSpec) (k := Rows.uptoSmall) rfl own7 started (by kernel_rfl) Tryz.func6
    (OpenSpec.witness (enc := enc) (C := Tryz.checked) (s := Rows.OpenSpec.upto Rows.usesSpec) (k := Rows.uptoSmall) rfl false ⟨#[], #[.slice none 0 0], []⟩ 8 (by kernel_rfl) (by kernel_rfl) (by kernel_rfl)
      (x := ([.nil], [], [])) (by kernel_rfl) rfl (by kernel_rfl)) ?_
  intro W base args ds gs before hval0 hW _ hk _
  have hval : ∀ (j : Nat) t v, Tryz.f6.params[j]? = some t → args[j]? = some v → Value.okWide Tryz.prog W .any base t v := hval0
  have hW' := hW
  obtain ⟨p, q, hA0, hV, rfl, hfz, hnd⟩ := hW
  have hA : DataW.TrodAll enc Tryz.prog W 0 (fun _ => true) true Tryz.f6.params.toList args.toList ds p := hA0
  rw [Tryz.params6] at hA hval
  obtain ⟨v0, vs0, d0, ds0, p0, q0, hargs, rfl, rfl, h0, r0⟩ := trodAll_cons hA
  obtain ⟨rfl, rfl, rfl⟩ := trodAll_nil r0
  obtain rfl : args = #[v0] := by cases args; simp_all
  obtain ⟨rfl, rfl⟩ := trodVars_none hV
  obtain ⟨a0, len0, cap0, rfl⟩ := okWide_slice Tryz.underlying22 (hval 0 22 v0 rfl rfl)
  have k0 := h0
  have lt0 : ∀ x ∈ p0, x.block < W.heap.size := by obtain ⟨m, hm⟩ := k0; exact DataW.trod_lt m _ _ _ hm
  obtain ⟨hlen, hops⟩ : len0 ≤ 1048576 ∧ IsOps W a0 len0 (fun _ s _ => s.size ≤ maxLen) := by
    obtain ⟨fuel, hf⟩ := h0
    obtain ⟨h1, h2⟩ := open_ops hf
    refine ⟨?_, h2.mono fun n s t h => h.1⟩
    rcases open_len hf with h3 | ⟨elems, spare, h3, h4⟩
    · omega
    · rw [← h4]; exact small_len d0 hk elems spare h3
  clear hA0 hval0
  refine (w6 hP a0 len0 cap0 W hlen hops).mono fun e W' ⟨he, bel⟩ => ?_
  subst he
  exact ⟨_, rfl, _, _, _, [], _, [], hW', trodAll_mk1 (shut_bool Tryz.underlying4 _), (trodAll_cons_mk (Below.trod laid7 (by kernel_rfl) (of_decide_eq_true (by kernel_rfl)) k0 bel lt0) trodAll_mk0), rfl, bel.frame _, fun h => by cases h⟩
theorem over7 (hP : PWOK 26) : Rows.usesUptoRow.holds Tryz.pinned (Rows.OpenSpec.upto Rows.usesSpec) :=
  OpenClaim.holds_of_cond 6 Tryz.f6 rfl rfl rfl rfl rfl rfl rfl ⟨rfl, rfl, rfl, rfl, rfl⟩ rfl rfl rfl rfl rfl (by kernel_rfl) Tryz.func6 (by kernel_rfl)
    (of_decide_eq_true (by kernel_rfl)) (by unfold Func.isWrapper; first | (rw [if_pos (by decide +kernel)]; kernel_rfl) | (rw [if_neg (by decide +kernel)]; exact ⟨rfl, rfl⟩))
    (fun os started H enc _ F => lifted7 hP os started H enc F)
theorem uses_of (hP : PWOK 26) : Rows.UsesUptoSaid := over7 hP
end Go.Proofs.YtffkejkgkgfnhaaGreat
/-
  A SOURCE HAS ONE READING. No Go.
-/
namespace Go.Proofs.YtffkejkgkgfnhaaGreat
open Go.RowKit
set_option linter.unusedVariables false
def trm (k : Int) : Prop := k = 2 ∨ k = 5 ∨ k = 7
theorem text_no (s : ByteArray) (p : Nat) (h : p < skp s txB p) : (act s p).kind = 0 := by
  refine act_no s p (fun hh => ?_)
  rw [skp_stop s txB p hh.1 (by rw [hh.2]; decide)] at h
  omega
theorem Flat.one_way {s : ByteArray} {d p e : Nat} {a : Nds} {A : List Ak} (h : Flat s d a p A e) : ∀ {a' : Nds} {A' : List Ak} {e' : Nat}, trm (act s e).kind → trm (act s e').kind → Flat s d a' p A' e' → a = a' ∧ A = A' ∧ e = e' := by
  induction h with
  | nil d p =>
    intro a' A' e' ht ht' h'
    cases h' with
    | nil => exact ⟨rfl, rfl, rfl⟩
    | text h k => have := text_no s p h; unfold trm at ht; omega
    | hole h k => unfold trm at ht; omega
    | call h k => unfold trm at ht; omega
    | loop hd h k1 h1 k => unfold trm at ht; omega
    | one hd h k1 h1 k => unfold trm at ht; omega
    | two hd h k1 h1 k2 h2 k => unfold trm at ht; omega
  | text h k ih =>
    intro a' A' e' ht ht' h'
    have h0 := text_no s _ h
    cases h' with
    | nil => unfold trm at ht'; omega
    | text h2 k2 => obtain ⟨e1, e2, e3⟩ := ih ht ht' k2; subst e1; subst e2; subst e3; exact ⟨rfl, rfl, rfl⟩
    | hole h k => omega
    | call h k => omega
    | loop hd h k1 h1 k => omega
    | one hd h k1 h1 k => omega
    | two hd h k1 h1 k2 h2 k => omega
  | hole h k ih =>
    intro a' A' e' ht ht' h'
    cases h' with
    | nil => unfold trm at ht'; omega
    | text h2 k2 => have := text_no s _ h2; omega
    | hole h2 k2 => obtain ⟨e1, e2, e3⟩ := ih ht ht' k2; subst e1; subst e2; subst e3; exact ⟨rfl, rfl, rfl⟩
    | call h k => omega
    | loop hd h k1 h1 k => omega
    | one hd h k1 h1 k => omega
    | two hd h k1 h1 k2 h2 k => omega
  | call h k ih =>
    intro a' A' e' ht ht' h'
    cases h' with
    | nil => unfold trm at ht'; omega
    | text h2 k2 => have := text_no s _ h2; omega
    | hole h2 k2 => omega
    | call h2 k2 => obtain ⟨e1, e2, e3⟩ := ih ht ht' k2; subst e1; subst e2; subst e3; exact ⟨rfl, rfl, rfl⟩
    | loop hd h k1 h1 k => omega
    | one hd h k1 h1 k => omega
    | two hd h k1 h1 k2 h2 k => omega
  | loop hd h k1 h1 k ih1 ih =>
    intro a' A' e' ht ht' h'
    cases h' with
    | nil => unfold trm at ht'; omega
    | text h2 k2 => have := text_no s _ h2; omega
    | hole h2 k2 => omega
    | call h2 k2 => omega
    | loop hd' h' k1' h1' k' =>
      obtain ⟨e1, e2, e3⟩ := ih1 (.inr (.inr h1)) (.inr (.inr h1')) k1'
      subst e1; subst e2; subst e3
      obtain ⟨e1, e2, e3⟩ := ih ht ht' k'
      subst e1; subst e2; subst e3; exact ⟨rfl, rfl, rfl⟩
    | one hd h k1 h1 k => omega
    | two hd h k1 h1 k2 h2 k => omega
  | one hd h k1 h1 k ih1 ih =>
    intro a' A' e' ht ht' h'
    cases h' with
    | nil => unfold trm at ht'; omega
    | text h2 k2 => have := text_no s _ h2; omega
    | hole h2 k2 => omega
    | call h2 k2 => omega
    | loop hd h k1 h1 k => omega
    | one hd' h' k1' h1' k' =>
      obtain ⟨e1, e2, e3⟩ := ih1 (.inr (.inr h1)) (.inr (.inr h1')) k1'
      subst e1; subst e2; subst e3
      obtain ⟨e1, e2, e3⟩ := ih ht ht' k'
      subst e1; subst e2; subst e3; exact ⟨rfl, rfl, rfl⟩
    | two hd' h' k1' h1' k2' h2' k' =>
      obtain ⟨e1, e2, e3⟩ := ih1 (.inr (.inr h1)) (.inr (.inl h1')) k1'
      subst e3
      omega
  | two hd h k1 h1 k2 h2 k ih1 ih2 ih =>
    intro a' A' e' ht ht' h'
    cases h' with
    | nil => unfold trm at ht'; omega
    | text h2 k2 => have := text_no s _ h2; omega
    | hole h2 k2 => omega
    | call h2 k2 => omega
    | loop hd h k1 h1 k => omega
    | one hd' h' k1' h1' k' =>
      obtain ⟨e1, e2, e3⟩ := ih1 (.inr (.inl h1)) (.inr (.inr h1')) k1'
      subst e3
      omega
    | two hd' h' k1' h1' k2' h2' k' =>
      obtain ⟨e1, e2, e3⟩ := ih1 (.inr (.inl h1)) (.inr (.inl h1')) k1'
      subst e1; subst e2; subst e3
      obtain ⟨e1, e2, e3⟩ := ih2 (.inr (.inr h2)) (.inr (.inr h2')) k2'
      subst e1; subst e2; subst e3
      obtain ⟨e1, e2, e3⟩ := ih ht ht' k'
      subst e1; subst e2; subst e3; exact ⟨rfl, rfl, rfl⟩
theorem TFlat.same {s : ByteArray} {ts : List Tm} {A : List Ak} {p : Nat} (h : TFlat s ts A p) : ∀ {ts' : List Tm} {A' : List Ak} {p' : Nat}, TFlat s ts' A' p' → ts.length = ts'.length → ts = ts' ∧ A = A' ∧ p = p' := by
  induction h with
  | nil =>
    intro ts' A' p' h' hl
    cases h' with
    | nil => exact ⟨rfl, rfl, rfl⟩
    | snoc h hl' hk hb he => simp at hl
  | snoc h hl hk hb he ih =>
    intro ts' A' p' h' hl'
    cases h' with
    | nil => simp at hl'
    | snoc h2 hl2 hk2 hb2 he2 =>
      obtain ⟨e1, e2, e3⟩ := ih h2 (by simpa using hl')
      subst e1; subst e2; subst e3
      obtain ⟨e1, e2, e3⟩ := hb.one_way (.inl he) (.inl he2) hb2
      subst e1; subst e2; subst e3
      exact ⟨rfl, rfl, rfl⟩
theorem TFlat.front {s : ByteArray} {ts : List Tm} {A : List Ak} {p : Nat} (h : TFlat s ts A p) : ∀ n, n < ts.length → ∃ us B q, TFlat s us B q ∧ us.length = n ∧ (act s q).kind = 1 := by
  induction h with
  | nil => intro n hn; simp at hn
  | @snoc ts A B p e b h hl hk hb he ih =>
    intro n hn
    by_cases hlt : n < ts.length
    · exact ih n hlt
    · exact ⟨ts, A, p, h, by simp at hn; omega, hk⟩
theorem TFlat.one_way {s : ByteArray} {ts ts' : List Tm} {A A' : List Ak} (h : TFlat s ts A s.size) (h' : TFlat s ts' A' s.size) : ts = ts' ∧ A = A' := by
  rcases Nat.lt_trichotomy ts.length ts'.length with hl | hl | hl
  · obtain ⟨us, B, q, k1, k2, k3⟩ := h'.front ts.length hl
    obtain ⟨_, _, e⟩ := h.same k1 k2.symm
    have := act_next s q (by omega)
    omega
  · obtain ⟨e1, e2, _⟩ := h.same h' hl
    exact ⟨e1, e2⟩
  · obtain ⟨us, B, q, k1, k2, k3⟩ := h.front ts'.length hl
    obtain ⟨_, _, e⟩ := h'.same k1 k2.symm
    have := act_next s q (by omega)
    omega
end Go.Proofs.YtffkejkgkgfnhaaGreat
/-
  WHAT THE MACHINE READS TO ITS END IS A SOURCE. No Go.
-/
namespace Go.Proofs.YtffkejkgkgfnhaaGreat
set_option linter.unusedVariables false
theorem Ends.after {s : ByteArray} {c d : Cfg} {r : Res} (h : Reach s c d) (k : Ends s c r) : Ends s d r := by
  induction h with
  | refl c => exact k
  | step h1 h2 ih =>
    obtain ⟨e, k1, k2, k3⟩ := k
    cases k1 with
    | refl => rw [h1] at k2; rw [← k2] at k3; exact k3.elim
    | step q1 q2 => rw [h1] at q1; cases q1; exact ih ⟨e, q2, k2, k3⟩
theorem Ends.go {s : ByteArray} {p nt : Nat} {op : List Int} {acts A : List Ak} (h : Ends s ⟨p, true, nt, op, acts⟩ (.fin A)) : ∃ c, stepC s ⟨p, true, nt, op, acts⟩ = .go c ∧ Ends s c (.fin A) := by
  obtain ⟨d, h1, h2, h3⟩ := h
  cases h1 with
  | refl =>
    simp only [stepC] at h2
    split at h2
    · split at h2
      · cases h2
      · split at h2 <;> cases h2
    · simp at h2
  | step q1 q2 => exact ⟨_, q1, d, q2, h2, h3⟩
theorem Ends.lt {s : ByteArray} {p nt : Nat} {op : List Int} {acts A : List Ak} (h : Ends s ⟨p, true, nt, op, acts⟩ (.fin A)) : p < s.size := by
  obtain ⟨c, h1, h2⟩ := h.go
  simp only [stepC] at h1
  split at h1
  · assumption
  · simp at h1
/-- at a brace: the action is taken -/
theorem Ends.taken {s : ByteArray} {p nt : Nat} {op : List Int} {acts A : List Ak} (h : Ends s ⟨p, true, nt, op, acts⟩ (.fin A)) (ht : txB (gb s p) = false) :
    ∃ i n o, takeS true nt op (act s p).kind = some (i, n, o) ∧ Ends s ⟨(act s p).next, i, n, o, acts ++ [⟨(act s p).kind, (act s p).name, p⟩]⟩ (.fin A) ∧ Reach s ⟨p, true, nt, op, acts⟩ ⟨(act s p).next, i, n, o, acts ++ [⟨(act s p).kind, (act s p).name, p⟩]⟩ := by
  have hlt := h.lt
  obtain ⟨c, h1, h2⟩ := h.go
  have hn : ¬ ((true = true) ∧ gb s p ≠ 123 ∧ gb s p ≠ 125) := by
    rintro ⟨_, q⟩
    simp [txB] at ht
    omega
  have hs : stepC s ⟨p, true, nt, op, acts⟩ = (match takeS true nt op (act s p).kind with
      | none => .err p
      | some (i, n, o) => .go ⟨(act s p).next, i, n, o, acts ++ [⟨(act s p).kind, (act s p).name, p⟩]⟩) := by
    unfold stepC; rw [if_pos hlt, if_neg hn]; all_goals rfl
  cases ho : takeS true nt op (act s p).kind with
  | none => rw [hs, ho] at h1; cases h1
  | some v =>
    obtain ⟨i, n, o⟩ := v
    rw [ho] at hs
    rw [hs] at h1
    cases h1
    exact ⟨i, n, o, rfl, h2, .one hs⟩
theorem fin_body (s : ByteArray) : ∀ (n p : Nat), s.size - p ≤ n → ∀ (nt : Nat) (op : List Int) (acts A : List Ak), Ends s ⟨p, true, nt, op, acts⟩ (.fin A) →
    ∃ b B e, Flat s op.length b p B e ∧ trm (act s e).kind ∧ Reach s ⟨p, true, nt, op, acts⟩ ⟨e, true, nt, op, acts ++ B⟩ ∧ p ≤ e := by
  intro n
  induction n with
  | zero => intro p hp nt op acts A h; have := h.lt; omega
  | succ n ih =>
    intro p hp nt op acts A h
    have hlt := h.lt
    cases ht : txB (gb s p) with
    | true =>
      have hsk : p < skp s txB p := by
        have := skp_ge s txB (p + 1)
        rw [skp_go s txB p hlt ht]; omega
      have hr := reach_text s p nt op acts
      obtain ⟨b, B, e, k1, k2, k3, k4⟩ := ih (skp s txB p) (by omega) nt op acts A (Ends.after hr h)
      exact ⟨_, B, e, .text hsk k1, k2, hr.trans k3, by omega⟩
    | false =>
      obtain ⟨i, m, o, h1, h2, h3⟩ := h.taken ht
      have hk : (act s p).kind ≠ 0 := by
        intro e; rw [e] at h1; simp [takeS] at h1
      obtain ⟨x1, x2, x3, x4⟩ := act_next s p hk
      have hr := act_range s p
      by_cases h3' : (act s p).kind = 3
      · rw [h3'] at h1 h2 h3
        simp [takeS] at h1
        obtain ⟨rfl, rfl, rfl⟩ := h1
        obtain ⟨b, B, e, k1, k2, k3, k4⟩ := ih _ (by omega) nt op _ A h2
        exact ⟨_, _, e, .hole h3' k1, k2, by have := h3.trans k3; simpa [List.append_assoc] using this, by omega⟩
      by_cases h8 : (act s p).kind = 8
      · rw [h8] at h1 h2 h3
        simp [takeS] at h1
        obtain ⟨rfl, rfl, rfl⟩ := h1
        obtain ⟨b, B, e, k1, k2, k3, k4⟩ := ih _ (by omega) nt op _ A h2
        exact ⟨_, _, e, .call h8 k1, k2, by have := h3.trans k3; simpa [List.append_assoc] using this, by omega⟩
      by_cases htr : trm (act s p).kind
      · exact ⟨.nil, [], p, .nil _ _, htr, by simpa using Reach.refl _, Nat.le_refl _⟩
      have h46 : (act s p).kind = 4 ∨ (act s p).kind = 6 := by
        unfold trm at htr
        by_cases e1 : (act s p).kind = 1
        · rw [e1] at h1; simp [takeS] at h1
        · omega
      have hop : op.length < 8 ∧ i = true ∧ m = nt ∧ o = op ++ [(act s p).kind] := by
        rcases h46 with e | e <;> rw [e] at h1 ⊢ <;> simp [takeS] at h1 <;> exact ⟨h1.1, h1.2.1, h1.2.2.1.symm ▸ rfl, h1.2.2.2.symm⟩
      obtain ⟨hd, rfl, rfl, rfl⟩ := hop
      obtain ⟨th, B1, e1, k1, k2, k3, k4⟩ := ih _ (by omega) m (op ++ [(act s p).kind]) _ A h2
      have k1' : Flat s (op.length + 1) th (act s p).next B1 e1 := by simpa using k1
      have hE1 := Ends.after k3 h2
      have ht1 : txB (gb s e1) = false := by
        have : (act s e1).kind ≠ 0 := by unfold trm at k2; omega
        rw [(act_next s e1 this).2.2.2]; decide
      obtain ⟨i2, m2, o2, g1, g2, g3⟩ := hE1.taken ht1
      have y1 := act_next s e1 (by unfold trm at k2; omega)
      rcases k2 with q | q | q
      · rw [q] at g1; simp [takeS] at g1
      · -- {:}
        rw [q] at g1 g2 g3
        have hk4 : (act s p).kind = 4 := by
          rcases h46 with e | e
          · exact e
          · rw [e] at g1; simp [takeS] at g1
        rw [hk4] at g1 g2 g3 k3 h3
        simp [takeS] at g1
        obtain ⟨rfl, rfl, rfl⟩ := g1
        obtain ⟨el, B2, e2, l1, l2, l3, l4⟩ := ih (act s e1).next (by omega) _ (op ++ [5]) _ A g2
        have l1' : Flat s (op.length + 1) el (act s e1).next B2 e2 := by simpa using l1
        have hE2 := Ends.after l3 g2
        have ht2 : txB (gb s e2) = false := by
          have : (act s e2).kind ≠ 0 := by unfold trm at l2; omega
          rw [(act_next s e2 this).2.2.2]; decide
        obtain ⟨i3, m3, o3, f1, f2, f3⟩ := hE2.taken ht2
        have y2 := act_next s e2 (by unfold trm at l2; omega)
        rcases l2 with z | z | z
        · rw [z] at f1; simp [takeS] at f1
        · rw [z] at f1; simp [takeS] at f1
        · rw [z] at f1 f2 f3
          simp [takeS] at f1
          obtain ⟨rfl, rfl, rfl⟩ := f1
          obtain ⟨b, B, e, r1, r2, r3, r4⟩ := ih (act s e2).next (by omega) _ op _ A f2
          refine ⟨_, _, e, .two hd hk4 k1' q l1' z r1, r2, ?_, by omega⟩
          have := h3.trans (k3.trans (g3.trans (l3.trans (f3.trans r3))))
          simpa [List.append_assoc] using this
      · rw [q] at g1 g2 g3
        simp [takeS] at g1
        obtain ⟨rfl, rfl, rfl⟩ := g1
        obtain ⟨b, B, e, r1, r2, r3, r4⟩ := ih (act s e1).next (by omega) _ op _ A g2
        have hreach := h3.trans (k3.trans (g3.trans r3))
        rcases h46 with e4 | e6
        · rw [e4] at hreach
          exact ⟨_, _, e, .one hd e4 k1' q r1, r2, by simpa [List.append_assoc] using hreach, by omega⟩
        · rw [e6] at hreach
          exact ⟨_, _, e, .loop hd e6 k1' q r1, r2, by simpa [List.append_assoc] using hreach, by omega⟩
theorem fin_tmpl (s : ByteArray) : ∀ (n p : Nat), s.size - p ≤ n → p ≤ s.size → ∀ (ts : List Tm) (acts A : List Ak), TFlat s ts acts p → Ends s ⟨p, false, ts.length, [], acts⟩ (.fin A) → ∃ ts', TFlat s ts' A s.size ∧ ts'.length ≤ 6 := by
  intro n
  induction n with
  | zero =>
    intro p hp hle ts acts A hT hE
    have hpe : p = s.size := by omega
    obtain ⟨d, h1, h2, h3⟩ := hE
    have hs : stepC s ⟨p, false, ts.length, [], acts⟩ = (if (false = true) ∨ ts.length = 0 then .err s.size else .fin acts) := by simp [stepC, hpe]
    cases h1 with
    | refl =>
      rw [hs] at h2
      split at h2
      · cases h2
      · cases h2
        refine ⟨ts, hpe ▸ hT, ?_⟩
        cases hT with
        | nil => simp
        | snoc _ hl _ _ _ => simp; omega
    | step q1 q2 => rw [hs] at q1; split at q1 <;> cases q1
  | succ n ih =>
    intro p hp hle ts acts A hT hE
    by_cases hlt : p < s.size
    · obtain ⟨d, h1, h2, h3⟩ := hE
      cases h1 with
      | refl =>
        simp only [stepC, hlt, if_true] at h2
        split at h2
        · rename_i q; cases q.1
        · split at h2 <;> cases h2
      | step q1 q2 =>
        have q0 := q1
        simp only [stepC, hlt, if_true] at q1
        split at q1
        · rename_i q; cases q.1
        · split at q1
          · cases q1
          · rename_i i m o ho
            cases q1
            simp [takeS] at ho
            obtain ⟨⟨hk, hl⟩, rfl, rfl, rfl⟩ := ho
            have x := act_next s p (by omega)
            obtain ⟨b, B, e, k1, k2, k3, k4⟩ := fin_body s s.size (act s p).next (by omega) _ _ _ A ⟨d, q2, h2, h3⟩
            have hE1 := Ends.after k3 ⟨d, q2, h2, h3⟩
            have ht1 : txB (gb s e) = false := by
              have : (act s e).kind ≠ 0 := by unfold trm at k2; omega
              rw [(act_next s e this).2.2.2]; decide
            obtain ⟨i2, m2, o2, g1, g2, g3⟩ := hE1.taken ht1
            have y1 := act_next s e (by unfold trm at k2; omega)
            rcases k2 with q | q | q
            · rw [q] at g1 g2
              simp [takeS] at g1
              obtain ⟨rfl, rfl, rfl⟩ := g1
              have hT' := TFlat.snoc hT hl hk k1 q
              refine ih (act s e).next (by omega) y1.2.1 _ _ A hT' ?_
              rw [hk] at g2
              simpa [List.append_assoc] using g2
            · rw [q] at g1; simp [takeS] at g1
            · rw [q] at g1; simp [takeS] at g1
    · exact ih p (by omega) hle ts acts A hT hE
theorem fin_flat {s : ByteArray} {A : List Ak} (h : Ends s init (.fin A)) : ∃ ts, TFlat s ts A s.size ∧ ts.length ≤ 6 := fin_tmpl s s.size 0 (by omega) (Nat.zero_le _) [] [] A .nil h
end Go.Proofs.YtffkejkgkgfnhaaGreat
/-
  THE PROGRAM's WAY THROUGH THE ACTIONS, as plain mathematics: one context a place. No Go.
-/
namespace Go.Proofs.YtffkejkgkgfnhaaGreat
set_option linter.unusedVariables false
structure Gp where
  (b f : Nat)
  en : Int
structure FS where
  gs : List Gp
  cm : Nat → Nat → Bool
  grew : Bool
structure PS where
  now : Int
  op : List (Int × Int)
def upd2 (f : Nat → Nat → Bool) (i c : Nat) : Nat → Nat → Bool := fun j d => if j = i ∧ d = c then true else f j d
def hasG (gs : List Gp) (b f : Nat) : Option Gp := gs.find? fun g => decide (g.b = b ∧ g.f = f)
def meetF (fs : FS) (b f : Nat) : Int × FS := match hasG fs.gs b f with
  | some g => (g.en, fs)
  | none => (-1, { fs with gs := fs.gs ++ [⟨b, f, -1⟩], grew := true })
def enterF (ps : PS) : PS := { ps with op := ps.op ++ [(ps.now, ps.now)] }
def turnF (ps : PS) : PS := match ps.op.getLast? with
  | some l => ⟨l.1, ps.op.dropLast ++ [(l.1, ps.now)]⟩
  | none => ps
def leaveF (ps : PS) : PS × Bool := match ps.op.getLast? with
  | some l => (⟨if ps.now = -1 then l.2 else ps.now, ps.op.dropLast⟩, decide (l.2 = -1 ∨ l.2 = (if ps.now = -1 then l.2 else ps.now)))
  | none => (ps, true)
def callF (A : List Ak) (nm : ByteArray) (x : Int) (fs : FS) : Int × FS := if hitB nm A = true ∧ x ≠ -1 then meetF fs (idxA nm A 0) x.toNat else (-1, fs)
def takeF (A : List Ak) (i : Nat) (k : Int) (nm : ByteArray) (ps : PS) (fs : FS) : Option (PS × FS) :=
  if k = 3 then (if ps.now = -1 then some (ps, fs) else if opS ps.now.toNat = true then some (ps, { fs with cm := upd2 fs.cm i ps.now.toNat }) else none)
  else if k = 8 then some ({ ps with now := (callF A nm ps.now fs).1 }, (callF A nm ps.now fs).2)
  else if k = 4 ∨ k = 6 then some (enterF ps, fs)
  else if k = 5 then some (turnF ps, fs)
  else if k = 7 then (if (leaveF ps).2 = true then some ((leaveF ps).1, fs) else none)
  else some (ps, fs)
/-- behind a text -/
def rdF (x : Int) (t : ByteArray) : Int := if x = -1 then -1 else scn x t.data.toList
def runF (s : ByteArray) (A : List Ak) : List Ak → Nat → PS → FS → Option (Int × FS)
  | [], _, ps, fs => some (-1, fs)
  | a :: r, i, ps, fs =>
    if ps.now ≠ -1 ∧ rdF ps.now (hdA s A i) = -1 then none
    else if a.kind = 2 then some (rdF ps.now (hdA s A i), fs)
    else match takeF A i a.kind a.name { ps with now := rdF ps.now (hdA s A i) } fs with
      | none => none
      | some (ps', fs') => runF s A r (i + 1) ps' fs'
/-! ### One context as a set -/
def opt (x : Int) : Cs := fun y => x = (y : Int)
theorem opt_none (y : Nat) : ¬ opt (-1) y := by unfold opt; omega
theorem opt_two (x : Int) : ¬ two (opt x) := by
  rintro ⟨a, b, h1, h2, h3⟩
  unfold opt at h1 h2; omega
theorem opt_nat (n : Nat) (y : Nat) : opt n y ↔ y = n := by unfold opt; omega
/-! ### Texts -/
theorem ext_cat (s : ByteArray) (a b c : Nat) (h1 : a ≤ b) (h2 : b ≤ c) (h3 : c ≤ s.size) : (s.extract a c).data.toList = (s.extract a b).data.toList ++ (s.extract b c).data.toList := by
  have e2 : s.data.toList.length = s.size := rfl
  rw [Lib.extract_data, Lib.extract_data, Lib.extract_data]
  have : c - a = (b - a) + (c - b) := by omega
  rw [this, List.take_add, List.drop_drop]
  congr 3
  omega
theorem rd_cat (s : ByteArray) (x : Int) (a b c : Nat) (h1 : a ≤ b) (h2 : b ≤ c) (h3 : c ≤ s.size) (hx : -1 ≤ x ∧ x ≤ 23) : rdF x (s.extract a c) = rdF (rdF x (s.extract a b)) (s.extract b c) := by
  unfold rdF
  by_cases h : x = -1
  · simp [h]
  · rw [if_neg h, if_neg h, ext_cat s a b c h1 h2 h3, scn_in x _ (by omega) (by omega), scn_in x _ (by omega) (by omega), scl_append]
    have hr := scl_range x (s.extract a b).data.toList (by omega)
    by_cases e : scl x (s.extract a b).data.toList = -1
    · rw [if_pos e, e, scl_lost]
    · rw [if_neg e, scn_in _ _ (by omega) (by omega)]
theorem rd_range (x : Int) (t : ByteArray) : -1 ≤ rdF x t ∧ rdF x t ≤ 23 := by
  unfold rdF; split
  · omega
  · exact scn_range _ _
theorem rd_none (t : ByteArray) : rdF (-1) t = -1 := by simp [rdF]
theorem rd_empty (s : ByteArray) (x : Int) (a : Nat) (hx : -1 ≤ x ∧ x ≤ 23) : rdF x (s.extract a a) = x := by
  unfold rdF
  by_cases h : x = -1
  · simp [h]
  · rw [if_neg h, Lib.extract_data, scn_in _ _ (by omega) (by omega)]
    simp [scl]
end Go.Proofs.YtffkejkgkgfnhaaGreat
