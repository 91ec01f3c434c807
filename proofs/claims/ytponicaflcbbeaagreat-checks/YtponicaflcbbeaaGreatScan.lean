import Derived.Test.YtponicaflcbbeaaGreatMarkup
namespace Go.Proofs.YtponicaflcbbeaaGreat
open Go.RowKit
set_option linter.unusedVariables false
theorem hide {p : Prop} (h : p) : Hid p := h
theorem byte_le (u : UInt8) : (u.toNat : Int) ≤ 255 := by have := UInt8.toNat_lt u; omega
theorem byte_ge (u : UInt8) : (0 : Int) ≤ (u.toNat : Int) := by omega
theorem take_snoc (s : ByteArray) (k : Nat) (h : k < s.size) : s.data.toList.take (k + 1) = s.data.toList.take k ++ [s[k]] := by
  rw [List.take_succ_eq_append_getElem (by simpa using h)]; rfl
theorem scl_snoc (c : Int) (s : ByteArray) (k : Nat) (h : k < s.size) : scl c (s.data.toList.take (k + 1)) = stp (scl c (s.data.toList.take k)) s[k].toNat := by
  rw [take_snoc s k h, scl_append]; rfl
theorem scl_cut (c : Int) (l : List UInt8) (k : Nat) (h : scl c (l.take k) = -1) : scl c l = -1 := by
  rw [← List.take_append_drop k l, scl_append, h, scl_lost]
theorem scn_in (c : Int) (l : List UInt8) (h0 : 0 ≤ c) (h1 : c ≤ 23) : scn c l = scl c l := by unfold scn; rw [if_neg (by omega)]
theorem scn_out (c : Int) (l : List UInt8) (h : c < 0 ∨ 24 ≤ c) : scn c l = -1 := by unfold scn; rw [if_pos h]
set_option maxHeartbeats 1000000 in
theorem c16 (c : Int) (s : ByteArray) (w : World) (hs : s.size ≤ maxLen) :
    Calls Tryz.prog 20 #[.int .i64 c, .string s] w fun e w' => e = .returned (.int .i64 (scn c s.data.toList)) ∧ w' = w := by
  unfold maxLen at hs
  by_cases hc : c < 0 ∨ 24 ≤ c
  · rw [scn_out _ _ hc]
    go_enter Tryz.func20, Tryz.ntmps20
    go_wp2
    all_goals (go_ret; exact ⟨rfl, rfl⟩)
  · have hc0 : 0 ≤ c := by omega
    have hc1 : c ≤ 23 := by omega
    clear hc
    rw [scn_in _ _ hc0 hc1]
    go_enter Tryz.func20, Tryz.ntmps20
    go_wp2
    go_loop [0, 5] (fun x i => ∃ k : Nat, k ≤ s.size ∧ i = .int .i64 k ∧ x = .int .i64 (scl c (s.data.toList.take k))) (fun _ i => s.size - (intOf i).toNat)
    case atStart => exact ⟨0, Nat.zero_le _, rfl, rfl⟩
    case round =>
      obtain ⟨k, hk, rfl, rfl⟩ := hrel
      have hr := scl_range c (s.data.toList.take k) ⟨by omega, by omega⟩
      have Hcut := hide (scl_cut c s.data.toList k)
      have Hsn := hide (scl_snoc c s k)
      have Hall : Hid (k = s.size → scl c (s.data.toList.take k) = scl c s.data.toList) := by
        intro e; rw [List.take_of_length_le (by simp [e])]
      generalize hx : scl c (s.data.toList.take k) = x at *
      have Hx := hide hx
      clear hx
      by_cases hlt : k < s.size
      · by_cases hne : x = -1
        · have hq : (x != -1) = false := by simp [hne]
          go_wp2
          go_ret
          exact ⟨ret_int (Hcut.out hne).symm, rfl⟩
        · have hx0 : 0 ≤ x := by omega
          have hx1 : x ≤ 23 := by omega
          have hq : (x != -1) = true := by simp [hne]
          clear hne hr
          go_wp2_with (go_at_call 37; refine (c26 _ _ _ (byte_ge _) (byte_le _) (by omega) (by omega)).mono ?_; rintro e w' ⟨rfl, rfl⟩)
          go_round
          case rel => exact ⟨k + 1, by omega, by go_num, by rw [Hsn.out hlt]⟩
          case measure => simp [intOf]; omega
      · go_wp2
        go_ret
        exact ⟨ret_int (Hall.out (by omega)), rfl⟩
set_option maxHeartbeats 400000 in
theorem c10 (c : Int) (s : ByteArray) (w : World) (hs : s.size ≤ maxLen) :
    Calls Tryz.prog 12 #[.int .i64 c, .string s] w fun e w' => e = .returned (.int .i64 (scn c s.data.toList)) ∧ w' = w := by
  go_enter Tryz.func12, Tryz.ntmps12
  go_wp2_with (go_at_call 20; refine (c16 _ _ _ hs).mono ?_; rintro e w' ⟨rfl, rfl⟩)
  go_ret
  exact ⟨rfl, rfl⟩
end Go.Proofs.YtponicaflcbbeaaGreat
