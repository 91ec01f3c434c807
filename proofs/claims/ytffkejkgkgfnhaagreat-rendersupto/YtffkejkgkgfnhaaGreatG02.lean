import Derived.Test.YtffkejkgkgfnhaaGreatG01
import Derived.SizedLaws
namespace Go.Proofs.YtffkejkgkgfnhaaGreat
open Go.RowKit
set_option linter.unusedVariables false
def plx (x : Int) : Int := if x = 4 ∨ x = 6 ∨ x = 8 ∨ x = 10 ∨ x = 12 ∨ x = 14 ∨ x = 16 ∨ x = 18 then x - 1 else x
def plb (x : Int) : Bool := decide (x = 4 ∨ x = 6 ∨ x = 8 ∨ x = 10 ∨ x = 12 ∨ x = 14 ∨ x = 16 ∨ x = 18)
theorem ret_two {k : IntKind} {a b : Int} {c d : Bool} (h : a = b) (h' : c = d) : Ending.returned (.tuple #[.int k a, .bool c]) = .returned (.tuple #[.int k b, .bool d]) := by rw [h, h']
set_option maxHeartbeats 400000 in
theorem c64 (x : Int) (w : World) (h0 : 0 ≤ x) (h1 : x ≤ 23) :
    Calls Tryz.prog 41 #[.int .i64 x] w fun e w' => e = .returned (.tuple #[.int .i64 (plx x), .bool (plb x)]) ∧ w' = w := by
  go_enter Tryz.func41, Tryz.ntmps41
  go_wp2
  all_goals go_ret2
  all_goals refine ⟨ret_two ?_ ?_, rfl⟩
  all_goals grind (splits := 40) [plx, plb]
theorem plx_in (x : Int) (h : 3 ≤ x ∧ x ≤ 18) : plx x = 3 ∨ plx x = 5 ∨ plx x = 7 ∨ plx x = 9 ∨ plx x = 11 ∨ plx x = 13 ∨ plx x = 15 ∨ plx x = 17 := by unfold plx; split <;> omega
theorem rst_plain (x b : Int) (h : 3 ≤ x ∧ x ≤ 18) (e : plb x = false) : tg (plx x) b = stp x b := by grind (splits := 60) [plb, plx, stp]
theorem rst_lost (x b : Int) (h : 3 ≤ x ∧ x ≤ 18) (e : plb x = true) (k : tg (plx x) b = -1) : stp x b = -1 := by
  simp only [plb, decide_eq_true_eq] at e
  rcases e with rfl | rfl | rfl | rfl | rfl | rfl | rfl | rfl <;> simp [plx] at k <;> simp [stp, k, up]
  cases q : wdB b
  · rfl
  · simp [tg, q] at k
theorem rst_name (x b : Int) (h : x = 4) (k : tg (plx x) b = 3) : stp x b = 3 := by
  subst h; simp [plx] at k; simp [stp]; intro q; simp [tg, q] at k; grind
theorem rst_text (x b : Int) (h : 3 ≤ x ∧ x ≤ 18) (e : plb x = true) (k : tg (plx x) b = 0) : stp x b = 19 := by
  simp only [plb, decide_eq_true_eq] at e
  rcases e with rfl | rfl | rfl | rfl | rfl | rfl | rfl | rfl <;> simp [plx] at k <;> simp [stp, k, up]
  simp only [tg] at k; grind
theorem rst_up (x b : Int) (h : 3 ≤ x ∧ x ≤ 18) (e : plb x = true) (k0 : tg (plx x) b ≠ -1) (k1 : tg (plx x) b ≠ 0) (k3 : x = 4 → tg (plx x) b ≠ 3) : stp x b = tg (plx x) b + 1 := by
  simp only [plb, decide_eq_true_eq] at e
  rcases e with rfl | rfl | rfl | rfl | rfl | rfl | rfl | rfl <;> simp [plx] at k0 k1 k3 <;> simp [stp, k0, k1, up, plx]
  intro q; simp [tg, q] at k3
set_option maxHeartbeats 1000000 in
theorem c32 (x b : Int) (w : World) (h0 : 0 ≤ b) (h1 : b ≤ 255) (hx0 : -1 ≤ x) (hx1 : x ≤ 23) :
    Calls Tryz.prog 22 #[.int .i64 x, .int .u8 b] w fun e w' => e = .returned (.int .i64 (stp x b)) ∧ w' = w := by
  have Hl := hide (stp_lost b)
  have hr := tg_range (plx x) b
  have hr4 := tg_range (plx 4) b
  go_enter Tryz.func22, Tryz.ntmps22
  go_wp2_with (first | (go_at_call 39; refine (c62 _ _ _ (by omega) (by omega) (by omega)).mono ?_; rintro e w' ⟨rfl, rfl⟩) | (go_at_call 40; refine (c63 _ _ _ (by omega) (by omega) (by omega)).mono ?_; rintro e w' ⟨rfl, rfl⟩) | (go_at_call 41; refine (c64 _ _ (by omega) (by omega)).mono ?_; rintro e w' ⟨rfl, rfl⟩) | (go_at_call 42; refine (c65 _ _ _ (by omega) (by omega) (plx_in _ (by omega))).mono ?_; rintro e w' ⟨rfl, rfl⟩))
  all_goals go_ret
  all_goals refine ⟨ret_int ?_, rfl⟩
  all_goals grind (splits := 40) [stp_code, rst_plain, rst_lost, rst_name, rst_text, rst_up, Hid, stp_lost]
set_option maxHeartbeats 1000000 in
theorem c22 (c : Int) (s : ByteArray) (w : World) (hs : s.size ≤ maxLen) :
    Calls Tryz.prog 14 #[.int .i64 c, .string s] w fun e w' => e = .returned (.int .i64 (scn c s.data.toList)) ∧ w' = w := by
  unfold maxLen at hs
  by_cases hc : c < 0 ∨ 24 ≤ c
  · rw [scn_out _ _ hc]
    go_enter Tryz.func14, Tryz.ntmps14
    go_wp2
    all_goals (go_ret; exact ⟨rfl, rfl⟩)
  · have hc0 : 0 ≤ c := by omega
    have hc1 : c ≤ 23 := by omega
    clear hc
    rw [scn_in _ _ hc0 hc1]
    go_enter Tryz.func14, Tryz.ntmps14
    go_wp2
    go_loop [0, 5] (fun x i => ∃ k : Nat, k ≤ s.size ∧ i = .int .i64 k ∧ x = .int .i64 (scl c (s.data.toList.take k))) (fun _ i => s.size - (intOf i).toNat)
    case atStart => exact ⟨0, Nat.zero_le _, rfl, rfl⟩
    case round =>
      obtain ⟨k, hk, rfl, rfl⟩ := hrel
      have hr := scl_range c (s.data.toList.take k) ⟨by omega, by omega⟩
      have Hsn := hide (scl_snoc c s k)
      have Hall : Hid (k = s.size → scl c (s.data.toList.take k) = scl c s.data.toList) := by
        intro e; rw [List.take_of_length_le (by simp [e])]
      generalize hx : scl c (s.data.toList.take k) = x at *
      have Hx := hide hx
      clear hx
      by_cases hlt : k < s.size
      · go_wp2_with (go_at_call 22; refine (c32 _ _ _ (byte_ge _) (byte_le _) (by omega) (by omega)).mono ?_; rintro e w' ⟨rfl, rfl⟩)
        go_round
        case rel => exact ⟨k + 1, by omega, by go_num, by rw [Hsn.out hlt]⟩
        case measure => simp [intOf]; omega
      · go_wp2
        go_ret
        exact ⟨ret_int (Hall.out (by omega)), rfl⟩
end Go.Proofs.YtffkejkgkgfnhaaGreat
namespace Go.Proofs.YtffkejkgkgfnhaaGreat
open Go.RowKit
set_option linter.unusedVariables false
set_option maxHeartbeats 400000 in
theorem c15 (b : Nat) (w : World) (h : w.cell? ⟨b, 0, none⟩ = some (.slice none 0 0)) :
    Calls Tryz.prog 10 #[.pointer (some ⟨b, 0, none⟩)] w fun e w' => e = .returned (.bool true) ∧ w' = w := by
  go_enter Tryz.func10, Tryz.ntmps10
  go_wp2
  refine wp_loop_rounds 1 ?_
  rw [rounds_succ]
  go_wp2
  go_ret
  exact ⟨rfl, rfl⟩
set_option maxHeartbeats 1000000 in
theorem c9 (K : Int) (G : Int → ByteArray → ByteArray → Prop) (hp : Hid (∀ (p : Value) (n : Int) (s t : ByteArray) (d : Value) (w : World), G n s t → Calls Tryz.prog 9 #[p, .agg #[.int .i64 K, .int .i64 n, .string s, .string t, d]] w fun e w' => e = .returned (.bool true) ∧ Below w.heap.size w w'))
  (w : World) (b off len cap : Nat) (hlen : len ≤ maxLen) (Kd Nn : Nat → Int) (Ss Ts : Nat → ByteArray) (Ds : Nat → Value) (hb : b < w.heap.size)
  (hc0 : ∀ i, i < len → w.cell? ⟨b, off + i * 5, none⟩ = some (.int .i64 (Kd i)))
  (hc1 : ∀ i, i < len → w.cell? ⟨b, off + i * 5 + 1, none⟩ = some (.int .i64 (Nn i)))
  (hc2 : ∀ i, i < len → w.cell? ⟨b, off + i * 5 + 2, none⟩ = some (.string (Ss i)))
  (hc3 : ∀ i, i < len → w.cell? ⟨b, off + i * 5 + 3, none⟩ = some (.string (Ts i)))
  (hc4 : ∀ i, i < len → w.cell? ⟨b, off + i * 5 + 4, none⟩ = some (Ds i)) (hG : Hid (∀ i, i < len → G (Nn i) (Ss i) (Ts i))) :
    Calls Tryz.prog 8 #[.slice (some ⟨b, off, none⟩) len cap, .int .i64 K, .int .i64 K] w fun e w' => e = .returned (.int .i64 (-1)) ∧ Below w.heap.size w w' := by
  unfold maxLen at hlen
  have H0 := hide hc0; have H1 := hide hc1; have H2 := hide hc2; have H3 := hide hc3; have H4 := hide hc4
  clear hc0 hc1 hc2 hc3 hc4
  go_enter Tryz.func8, Tryz.ntmps8
  go_wp2
  go_loopw [8, 9, 10] (fun i _ _ wr => ∃ k : Nat, k ≤ len ∧ i = .int .i64 k ∧ Below (w.heap.size + 1) (w.alloc (.cells #[.slice none 0 0] 28)) wr) (fun i _ _ _ => len - (intOf i).toNat)
  case atStart => exact ⟨0, Nat.zero_le _, rfl, Below.refl _ _⟩
  case round =>
    obtain ⟨k, hk, rfl, hbel⟩ := hrel
    by_cases hlt : k < len
    · have old : ∀ o v, w.cell? ⟨b, o, none⟩ = some v → wr.cell? ⟨b, o, none⟩ = some v := by
        intro o v h
        rw [hbel.cell (p := ⟨b, o, none⟩) (by show b < _; omega), ← h]
        exact World.cell?_of_block (w := w) (Below.heap_alloc _ _ _ hb)
      have k0 := old _ _ (H0.out k hlt)
      have k1 := old _ _ (H1.out k hlt)
      have k2 := old _ _ (H2.out k hlt)
      have k3 := old _ _ (H3.out k hlt)
      have k4 := old _ _ (H4.out k hlt)
      have hG' := hide (hG.out k hlt)
      clear old
      by_cases hK : Kd k = K
      · have e1 : ¬ Kd k < K := by omega
        have e2 : ¬ K < Kd k := by omega
        have HK := hide hK
        clear hK
        go_wp2_with fail
        rw [HK.out]
        refine (hp.out _ _ _ _ _ _ hG'.out).mono ?_
        rintro e w2 ⟨rfl, hb2⟩
        have hbel2 : Below (w.heap.size + 1) (w.alloc (.cells #[.slice none 0 0] 28)) w2 := hbel.trans (hb2.mono (by have := hbel.size; simp at this; omega))
        have kw : w2.cell? ⟨w.heap.size, 0, none⟩ = some (.slice none 0 0) := (hbel2.cell (p := ⟨w.heap.size, 0, none⟩) (by show w.heap.size < _; omega)).trans (by simp)
        clear k0 k1 k2 k3 k4 hb2 hbel
        go_wp2_with (go_at_call 10; refine (c15 _ _ kw).mono ?_; rintro e w' ⟨rfl, rfl⟩)
        go_roundw
        case rel => exact ⟨k + 1, by omega, by go_num, hbel2⟩
        case measure => simp [intOf]; omega
      · clear k1 k2 k3 k4
        by_cases e1 : Kd k < K
        · go_wp2
          go_roundw
          case rel => exact ⟨k + 1, by omega, by go_num, hbel⟩
          case measure => simp [intOf]; omega
        · have e2 : K < Kd k := by omega
          clear hK
          go_wp2
          go_roundw
          case rel => exact ⟨k + 1, by omega, by go_num, hbel⟩
          case measure => simp [intOf]; omega
    · go_wp2
      go_ret
      exact ⟨rfl, ((Below.refl _ _).alloc (Nat.le_refl _) _).trans (hbel.mono (by omega))⟩
set_option maxHeartbeats 400000 in
theorem c9nil (K : Int) (a : Option Addr) (cap : Nat) (w : World) :
    Calls Tryz.prog 8 #[.slice a 0 cap, .int .i64 K, .int .i64 K] w fun e w' => e = .returned (.int .i64 (-1)) ∧ Below w.heap.size w w' := by
  go_enter Tryz.func8, Tryz.ntmps8
  go_wp2
  refine wp_loop_rounds 1 ?_
  rw [rounds_succ]
  go_wp2
  go_ret
  exact ⟨rfl, (Below.refl _ _).alloc (Nat.le_refl _) _⟩
theorem c9ops (K : Int) (G : Int → ByteArray → ByteArray → Prop) (hp : Hid (∀ (p : Value) (n : Int) (s t : ByteArray) (d : Value) (w : World), G n s t → Calls Tryz.prog 9 #[p, .agg #[.int .i64 K, .int .i64 n, .string s, .string t, d]] w fun e w' => e = .returned (.bool true) ∧ Below w.heap.size w w'))
  (w : World) (a : Option Addr) (len cap : Nat) (hlen : len ≤ maxLen) (h : IsOps w a len G) :
    Calls Tryz.prog 8 #[.slice a len cap, .int .i64 K, .int .i64 K] w fun e w' => e = .returned (.int .i64 (-1)) ∧ Below w.heap.size w w' := by
  rcases h with rfl | ⟨b, off, Kd, Nn, Ss, Ts, Ds, rfl, hb, h0, h1, h2, h3, h4, hG⟩
  · exact c9nil K a cap w
  · exact c9 K G hp w b off len cap hlen Kd Nn Ss Ts Ds hb h0 h1 h2 h3 h4 hG
theorem IsOps.mono {w : World} {a : Option Addr} {len : Nat} {Q G : Int → ByteArray → ByteArray → Prop} (h : IsOps w a len Q) (k : ∀ n s t, Q n s t → G n s t) : IsOps w a len G := by
  rcases h with rfl | ⟨b, off, Kd, Nn, Ss, Ts, Ds, rfl, hb, h0, h1, h2, h3, h4, hG⟩
  · exact .inl rfl
  · exact .inr ⟨b, off, Kd, Nn, Ss, Ts, Ds, rfl, hb, h0, h1, h2, h3, h4, fun i hi => k _ _ _ (hG i hi)⟩
end Go.Proofs.YtffkejkgkgfnhaaGreat
namespace Go.Proofs.YtffkejkgkgfnhaaGreat
open Go.ChangeShapes Go.WideShapes Go.ChangeAt Go.RowKit Go.Deep
set_option linter.unusedVariables false
set_option maxHeartbeats 400000 in
theorem c14scan (p : Value) (n : Int) (s t : ByteArray) (d : Value) (w : World) (hs : s.size ≤ maxLen) :
    Calls Tryz.prog 9 #[p, .agg #[.int .i64 2, .int .i64 n, .string s, .string t, d]] w fun e w' => e = .returned (.bool true) ∧ Below w.heap.size w w' := by
  go_enter Tryz.func9, Tryz.ntmps9
  go_wp2_with (first | (go_at_call 13; refine (c10 _ _ _ hs).mono ?_; rintro e w' ⟨rfl, rfl⟩) | (go_at_call 14; refine (c22 _ _ _ hs).mono ?_; rintro e w' ⟨rfl, rfl⟩))
  go_ret
  refine ⟨ret_bool (by simp), (Below.refl _ _).alloc (Nat.le_refl _) _⟩
set_option maxHeartbeats 400000 in
theorem walk4 (a : Option Addr) (len cap : Nat) (w : World) (hlen : len ≤ maxLen) (h : IsOps w a len (fun _ s _ => s.size ≤ maxLen)) :
    Calls Tryz.prog 4 #[.slice a len cap] w fun e w' => e = .returned (.bool true) ∧ Below w.heap.size w w' := by
  have H := hide h
  clear h
  go_enter Tryz.func4, Tryz.ntmps4
  go_wp2_with fail
  refine (c9ops 2 (fun _ s _ => s.size ≤ maxLen) (fun p n s t d w hs => c14scan p n s t d w hs) w a len cap hlen H.out).mono ?_
  rintro e w' ⟨rfl, hb⟩
  go_wp2
  go_ret
  exact ⟨rfl, hb⟩
theorem ownS : ownKnob Tryz.prog.godebug = none := by kernel_rfl
theorem laidOut : laidOutB Tryz.prog = true := by kernel_rfl
set_option maxRecDepth 100000 in
theorem lifted4 (os : Os) (started : os.Started) (H : Type) (enc : TypeId × Value → H) :
    ReturnsInHanded {} Tryz.checked os 4 .any (Rows.scansSpec.pre6 enc Tryz.prog Tryz.f4 Rows.scansRow.domain false) (Rows.scansSpec.post enc Tryz.prog Tryz.f4 false true false false) := by
  refine returnsInHanded_of_change (C := Tryz.checked) ownS started (by kernel_rfl) Tryz.func4
    (ChangeSpec.witness6 (enc := enc) (C := Tryz.checked) false ⟨#[], #[.slice none 0 0], []⟩ 8 (by kernel_rfl) (by kernel_rfl) (by kernel_rfl) (by kernel_rfl)) ?_
  intro W base args ds gs before hval0 hW hcnd _
  have hval : ∀ (j : Nat) t v, Tryz.f4.params[j]? = some t → args[j]? = some v → Value.okWide Tryz.prog W .any base t v := hval0
  have hW' := hW
  obtain ⟨p, q, hA0, hV, rfl, hfz, hnd⟩ := hW
  have hA : DataW.TrodAll enc Tryz.prog W 0 (fun _ => true) true Tryz.f4.params.toList args.toList ds p := hA0
  rw [Tryz.params4] at hA hval
  obtain ⟨v0, vs0, d0, ds0, p0, q0, hargs, rfl, rfl, h0, r0⟩ := trodAll_cons hA
  obtain ⟨rfl, rfl, rfl⟩ := trodAll_nil r0
  obtain rfl : args = #[v0] := by cases args; simp_all
  obtain ⟨rfl, rfl⟩ := trodVars_none hV
  obtain ⟨a0, len0, cap0, rfl⟩ := okWide_slice Tryz.underlying22 (hval 0 22 v0 rfl rfl)
  have k0 := h0
  have lt0 : ∀ x ∈ p0, x.block < W.heap.size := by obtain ⟨m, hm⟩ := k0; exact DataW.trod_lt m _ _ _ hm
  obtain ⟨hlen, hops⟩ : len0 ≤ maxLen ∧ IsOps W a0 len0 (fun _ s _ => s.size ≤ maxLen) := by
    obtain ⟨fuel, hf⟩ := h0
    obtain ⟨h1, h2⟩ := open_ops hf
    exact ⟨h1, h2.mono fun n s t h => h.1⟩
  clear hA0 hval0
  refine (walk4 a0 len0 cap0 W hlen hops).mono fun e W' ⟨he, bel⟩ => ?_
  subst he
  exact ⟨_, rfl, _, _, _, [], _, [], hW', trodAll_mk1 (shut_bool Tryz.underlying4 _), (trodAll_cons_mk (Below.trod laidOut (by kernel_rfl) (of_decide_eq_true (by kernel_rfl)) k0 bel lt0) trodAll_mk0), rfl, bel.frame _, fun h => by cases h⟩

theorem over4 : Rows.scansRow.holds Tryz.pinned (OpenSpec.ofChange Rows.scansSpec) :=
  OpenClaim.holds_of_wide 4 Tryz.f4 rfl rfl rfl rfl rfl rfl rfl ⟨rfl, rfl, rfl, rfl, rfl⟩ rfl rfl rfl rfl rfl (by kernel_rfl) Tryz.func4 (by kernel_rfl)
    (of_decide_eq_true (by kernel_rfl)) (by unfold Func.isWrapper; first | (rw [if_pos (by decide +kernel)]; kernel_rfl) | (rw [if_neg (by decide +kernel)]; exact ⟨rfl, rfl⟩))
    (fun os started H enc _ => lifted4 os started H enc)

theorem scans_proved : Rows.ScansSaid := over4
#print axioms scans_proved
end Go.Proofs.YtffkejkgkgfnhaaGreat
