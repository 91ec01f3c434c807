import Derived.Test.YtponicaflcbbeaaGreatRefctx
namespace Go.Proofs.YtponicaflcbbeaaGreat
open Go.RowKit
set_option linter.unusedVariables false
def plx (x : Int) : Int := if x = 4 ∨ x = 6 ∨ x = 8 ∨ x = 10 ∨ x = 12 ∨ x = 14 ∨ x = 16 ∨ x = 18 then x - 1 else x
def plb (x : Int) : Bool := decide (x = 4 ∨ x = 6 ∨ x = 8 ∨ x = 10 ∨ x = 12 ∨ x = 14 ∨ x = 16 ∨ x = 18)
theorem ret_two {k : IntKind} {a b : Int} {c d : Bool} (h : a = b) (h' : c = d) : Ending.returned (.tuple #[.int k a, .bool c]) = .returned (.tuple #[.int k b, .bool d]) := by rw [h, h']
set_option maxHeartbeats 400000 in
theorem c64 (x : Int) (w : World) (h0 : 0 ≤ x) (h1 : x ≤ 23) :
    Calls Tryz.prog 40 #[.int .i64 x] w fun e w' => e = .returned (.tuple #[.int .i64 (plx x), .bool (plb x)]) ∧ w' = w := by
  go_enter Tryz.func40, Tryz.ntmps40
  go_wp2
  all_goals go_ret2
  all_goals refine ⟨ret_two ?_ ?_, rfl⟩
  all_goals grind (splits := 40) [plx, plb]
theorem plx_in (x : Int) (h : 3 ≤ x ∧ x ≤ 18) : plx x = 3 ∨ plx x = 5 ∨ plx x = 7 ∨ plx x = 9 ∨ plx x = 11 ∨ plx x = 13 ∨ plx x = 15 ∨ plx x = 17 := by unfold plx; split <;> omega
theorem rst_plain (x b : Int) (h : 3 ≤ x ∧ x ≤ 18) (e : plb x = false) : tg (plx x) b = stp x b := by grind (splits := 60) [plb, plx, stp]
theorem rst_lost (x b : Int) (h : 3 ≤ x ∧ x ≤ 18) (e : plb x = true) (k : tg (plx x) b = -1) : stp x b = -1 := by
  simp only [plb, decide_eq_true_eq] at e
  rcases e with rfl | rfl | rfl | rfl | rfl | rfl | rfl | rfl <;> simp [plx] at k <;> simp [stp, k, up]
  cases q : wdB b
  · rfl
  · simp [tg, q] at k
theorem rst_name (x b : Int) (h : x = 4) (k : tg (plx x) b = 3) : stp x b = 3 := by
  subst h; simp [plx] at k; simp [stp]; intro q; simp [tg, q] at k; grind
theorem rst_text (x b : Int) (h : 3 ≤ x ∧ x ≤ 18) (e : plb x = true) (k : tg (plx x) b = 0) : stp x b = 19 := by
  simp only [plb, decide_eq_true_eq] at e
  rcases e with rfl | rfl | rfl | rfl | rfl | rfl | rfl | rfl <;> simp [plx] at k <;> simp [stp, k, up]
  simp only [tg] at k; grind
theorem rst_up (x b : Int) (h : 3 ≤ x ∧ x ≤ 18) (e : plb x = true) (k0 : tg (plx x) b ≠ -1) (k1 : tg (plx x) b ≠ 0) (k3 : x = 4 → tg (plx x) b ≠ 3) : stp x b = tg (plx x) b + 1 := by
  simp only [plb, decide_eq_true_eq] at e
  rcases e with rfl | rfl | rfl | rfl | rfl | rfl | rfl | rfl <;> simp [plx] at k0 k1 k3 <;> simp [stp, k0, k1, up, plx]
  intro q; simp [tg, q] at k3
set_option maxHeartbeats 1000000 in
theorem c32 (x b : Int) (w : World) (h0 : 0 ≤ b) (h1 : b ≤ 255) (hx0 : -1 ≤ x) (hx1 : x ≤ 23) :
    Calls Tryz.prog 21 #[.int .i64 x, .int .u8 b] w fun e w' => e = .returned (.int .i64 (stp x b)) ∧ w' = w := by
  have Hl := hide (stp_lost b)
  have hr := tg_range (plx x) b
  have hr4 := tg_range (plx 4) b
  go_enter Tryz.func21, Tryz.ntmps21
  go_wp2_with (first | (go_at_call 38; refine (c62 _ _ _ (by omega) (by omega) (by omega)).mono ?_; rintro e w' ⟨rfl, rfl⟩) | (go_at_call 39; refine (c63 _ _ _ (by omega) (by omega) (by omega)).mono ?_; rintro e w' ⟨rfl, rfl⟩) | (go_at_call 40; refine (c64 _ _ (by omega) (by omega)).mono ?_; rintro e w' ⟨rfl, rfl⟩) | (go_at_call 41; refine (c65 _ _ _ (by omega) (by omega) (plx_in _ (by omega))).mono ?_; rintro e w' ⟨rfl, rfl⟩))
  all_goals go_ret
  all_goals refine ⟨ret_int ?_, rfl⟩
  all_goals grind (splits := 40) [stp_code, rst_plain, rst_lost, rst_name, rst_text, rst_up, Hid, stp_lost]
set_option maxHeartbeats 1000000 in
theorem c22 (c : Int) (s : ByteArray) (w : World) (hs : s.size ≤ maxLen) :
    Calls Tryz.prog 13 #[.int .i64 c, .string s] w fun e w' => e = .returned (.int .i64 (scn c s.data.toList)) ∧ w' = w := by
  unfold maxLen at hs
  by_cases hc : c < 0 ∨ 24 ≤ c
  · rw [scn_out _ _ hc]
    go_enter Tryz.func13, Tryz.ntmps13
    go_wp2
    all_goals (go_ret; exact ⟨rfl, rfl⟩)
  · have hc0 : 0 ≤ c := by omega
    have hc1 : c ≤ 23 := by omega
    clear hc
    rw [scn_in _ _ hc0 hc1]
    go_enter Tryz.func13, Tryz.ntmps13
    go_wp2
    go_loop [0, 5] (fun x i => ∃ k : Nat, k ≤ s.size ∧ i = .int .i64 k ∧ x = .int .i64 (scl c (s.data.toList.take k))) (fun _ i => s.size - (intOf i).toNat)
    case atStart => exact ⟨0, Nat.zero_le _, rfl, rfl⟩
    case round =>
      obtain ⟨k, hk, rfl, rfl⟩ := hrel
      have hr := scl_range c (s.data.toList.take k) ⟨by omega, by omega⟩
      have Hsn := hide (scl_snoc c s k)
      have Hall : Hid (k = s.size → scl c (s.data.toList.take k) = scl c s.data.toList) := by
        intro e; rw [List.take_of_length_le (by simp [e])]
      generalize hx : scl c (s.data.toList.take k) = x at *
      have Hx := hide hx
      clear hx
      by_cases hlt : k < s.size
      · go_wp2_with (go_at_call 21; refine (c32 _ _ _ (byte_ge _) (byte_le _) (by omega) (by omega)).mono ?_; rintro e w' ⟨rfl, rfl⟩)
        go_round
        case rel => exact ⟨k + 1, by omega, by go_num, by rw [Hsn.out hlt]⟩
        case measure => simp [intOf]; omega
      · go_wp2
        go_ret
        exact ⟨ret_int (Hall.out (by omega)), rfl⟩
end Go.Proofs.YtponicaflcbbeaaGreat
