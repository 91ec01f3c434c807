import Derived.Test.YtponicaflcbbeaaGreatOps
import Derived.Test.YtponicaflcbbeaaGreatRefscan
namespace Go.Proofs.YtponicaflcbbeaaGreat
open Go.RowKit
set_option linter.unusedVariables false
set_option maxHeartbeats 400000 in
theorem c15 (b : Nat) (w : World) (h : w.cell? ⟨b, 0, none⟩ = some (.slice none 0 0)) :
    Calls Tryz.prog 9 #[.pointer (some ⟨b, 0, none⟩)] w fun e w' => e = .returned (.bool true) ∧ w' = w := by
  go_enter Tryz.func9, Tryz.ntmps9
  go_wp2
  refine wp_loop_rounds 1 ?_
  rw [rounds_succ]
  go_wp2
  go_ret
  exact ⟨rfl, rfl⟩
set_option maxHeartbeats 1000000 in
theorem c9 (K : Int) (G : Int → ByteArray → ByteArray → Prop) (hp : Hid (∀ (p : Value) (n : Int) (s t : ByteArray) (d : Value) (w : World), G n s t → Calls Tryz.prog 8 #[p, .agg #[.int .i64 K, .int .i64 n, .string s, .string t, d]] w fun e w' => e = .returned (.bool true) ∧ Below w.heap.size w w'))
  (w : World) (b off len cap : Nat) (hlen : len ≤ maxLen) (Kd Nn : Nat → Int) (Ss Ts : Nat → ByteArray) (Ds : Nat → Value) (hb : b < w.heap.size)
  (hc0 : ∀ i, i < len → w.cell? ⟨b, off + i * 5, none⟩ = some (.int .i64 (Kd i)))
  (hc1 : ∀ i, i < len → w.cell? ⟨b, off + i * 5 + 1, none⟩ = some (.int .i64 (Nn i)))
  (hc2 : ∀ i, i < len → w.cell? ⟨b, off + i * 5 + 2, none⟩ = some (.string (Ss i)))
  (hc3 : ∀ i, i < len → w.cell? ⟨b, off + i * 5 + 3, none⟩ = some (.string (Ts i)))
  (hc4 : ∀ i, i < len → w.cell? ⟨b, off + i * 5 + 4, none⟩ = some (Ds i)) (hG : Hid (∀ i, i < len → G (Nn i) (Ss i) (Ts i))) :
    Calls Tryz.prog 7 #[.slice (some ⟨b, off, none⟩) len cap, .int .i64 K, .int .i64 K] w fun e w' => e = .returned (.int .i64 (-1)) ∧ Below w.heap.size w w' := by
  unfold maxLen at hlen
  have H0 := hide hc0; have H1 := hide hc1; have H2 := hide hc2; have H3 := hide hc3; have H4 := hide hc4
  clear hc0 hc1 hc2 hc3 hc4
  go_enter Tryz.func7, Tryz.ntmps7
  go_wp2
  go_loopw [8, 9, 10] (fun i _ _ wr => ∃ k : Nat, k ≤ len ∧ i = .int .i64 k ∧ Below (w.heap.size + 1) (w.alloc (.cells #[.slice none 0 0] 28)) wr) (fun i _ _ _ => len - (intOf i).toNat)
  case atStart => exact ⟨0, Nat.zero_le _, rfl, Below.refl _ _⟩
  case round =>
    obtain ⟨k, hk, rfl, hbel⟩ := hrel
    by_cases hlt : k < len
    · have old : ∀ o v, w.cell? ⟨b, o, none⟩ = some v → wr.cell? ⟨b, o, none⟩ = some v := by
        intro o v h
        rw [hbel.cell (p := ⟨b, o, none⟩) (by show b < _; omega), ← h]
        exact World.cell?_of_block (w := w) (Below.heap_alloc _ _ _ hb)
      have k0 := old _ _ (H0.out k hlt)
      have k1 := old _ _ (H1.out k hlt)
      have k2 := old _ _ (H2.out k hlt)
      have k3 := old _ _ (H3.out k hlt)
      have k4 := old _ _ (H4.out k hlt)
      have hG' := hide (hG.out k hlt)
      clear old
      by_cases hK : Kd k = K
      · have e1 : ¬ Kd k < K := by omega
        have e2 : ¬ K < Kd k := by omega
        have HK := hide hK
        clear hK
        go_wp2_with fail
        rw [HK.out]
        refine (hp.out _ _ _ _ _ _ hG'.out).mono ?_
        rintro e w2 ⟨rfl, hb2⟩
        have hbel2 : Below (w.heap.size + 1) (w.alloc (.cells #[.slice none 0 0] 28)) w2 := hbel.trans (hb2.mono (by have := hbel.size; simp at this; omega))
        have kw : w2.cell? ⟨w.heap.size, 0, none⟩ = some (.slice none 0 0) := (hbel2.cell (p := ⟨w.heap.size, 0, none⟩) (by show w.heap.size < _; omega)).trans (by simp)
        clear k0 k1 k2 k3 k4 hb2 hbel
        go_wp2_with (go_at_call 9; refine (c15 _ _ kw).mono ?_; rintro e w' ⟨rfl, rfl⟩)
        go_roundw
        case rel => exact ⟨k + 1, by omega, by go_num, hbel2⟩
        case measure => simp [intOf]; omega
      · clear k1 k2 k3 k4
        by_cases e1 : Kd k < K
        · go_wp2
          go_roundw
          case rel => exact ⟨k + 1, by omega, by go_num, hbel⟩
          case measure => simp [intOf]; omega
        · have e2 : K < Kd k := by omega
          clear hK
          go_wp2
          go_roundw
          case rel => exact ⟨k + 1, by omega, by go_num, hbel⟩
          case measure => simp [intOf]; omega
    · go_wp2
      go_ret
      exact ⟨rfl, ((Below.refl _ _).alloc (Nat.le_refl _) _).trans (hbel.mono (by omega))⟩
set_option maxHeartbeats 400000 in
theorem c9nil (K : Int) (a : Option Addr) (cap : Nat) (w : World) :
    Calls Tryz.prog 7 #[.slice a 0 cap, .int .i64 K, .int .i64 K] w fun e w' => e = .returned (.int .i64 (-1)) ∧ Below w.heap.size w w' := by
  go_enter Tryz.func7, Tryz.ntmps7
  go_wp2
  refine wp_loop_rounds 1 ?_
  rw [rounds_succ]
  go_wp2
  go_ret
  exact ⟨rfl, (Below.refl _ _).alloc (Nat.le_refl _) _⟩
theorem c9ops (K : Int) (G : Int → ByteArray → ByteArray → Prop) (hp : Hid (∀ (p : Value) (n : Int) (s t : ByteArray) (d : Value) (w : World), G n s t → Calls Tryz.prog 8 #[p, .agg #[.int .i64 K, .int .i64 n, .string s, .string t, d]] w fun e w' => e = .returned (.bool true) ∧ Below w.heap.size w w'))
  (w : World) (a : Option Addr) (len cap : Nat) (hlen : len ≤ maxLen) (h : IsOps w a len G) :
    Calls Tryz.prog 7 #[.slice a len cap, .int .i64 K, .int .i64 K] w fun e w' => e = .returned (.int .i64 (-1)) ∧ Below w.heap.size w w' := by
  rcases h with rfl | ⟨b, off, Kd, Nn, Ss, Ts, Ds, rfl, hb, h0, h1, h2, h3, h4, hG⟩
  · exact c9nil K a cap w
  · exact c9 K G hp w b off len cap hlen Kd Nn Ss Ts Ds hb h0 h1 h2 h3 h4 hG
theorem IsOps.mono {w : World} {a : Option Addr} {len : Nat} {Q G : Int → ByteArray → ByteArray → Prop} (h : IsOps w a len Q) (k : ∀ n s t, Q n s t → G n s t) : IsOps w a len G := by
  rcases h with rfl | ⟨b, off, Kd, Nn, Ss, Ts, Ds, rfl, hb, h0, h1, h2, h3, h4, hG⟩
  · exact .inl rfl
  · exact .inr ⟨b, off, Kd, Nn, Ss, Ts, Ds, rfl, hb, h0, h1, h2, h3, h4, fun i hi => k _ _ _ (hG i hi)⟩
end Go.Proofs.YtponicaflcbbeaaGreat
