import Derived.Test.YtponicaflcbbeaaGreatScan
namespace Go.Proofs.YtponicaflcbbeaaGreat
open Go.RowKit
set_option linter.unusedVariables false
theorem rtag_lem (x b : Int) (h : x = 3 ∨ x = 5 ∨ x = 7 ∨ x = 9) : tg x b = if b = 62 then 0 else if spB b then 5 else if x = 3 ∧ wdB b then 3 else if x = 5 ∧ b = 117 then 9 else if (x = 7 ∨ x = 9) ∧ wdB b then 7 else if x = 7 ∧ b = 61 then 11 else if x = 9 ∧ b = 61 then 13 else if x = 5 ∧ ltB b then 7 else -1 := by
  rcases h with rfl | rfl | rfl | rfl <;> grind (splits := 40) [tg, wdB, ltB, dgB, spB]
set_option maxHeartbeats 400000 in
theorem c66 (b : Int) (w : World) (h0 : 0 ≤ b) (h1 : b ≤ 255) :
    Calls Tryz.prog 44 #[.int .u8 b] w fun e w' => e = .returned (.bool (ltB b)) ∧ w' = w := by
  go_enter Tryz.func44, Tryz.ntmps44
  go_wp2
  all_goals go_ret
  all_goals refine ⟨ret_bool ?_, rfl⟩
  all_goals grind (splits := 40) [ltB]
set_option maxHeartbeats 400000 in
theorem c67 (b : Int) (w : World) (h0 : 0 ≤ b) (h1 : b ≤ 255) :
    Calls Tryz.prog 45 #[.int .u8 b] w fun e w' => e = .returned (.bool (dgB b)) ∧ w' = w := by
  go_enter Tryz.func45, Tryz.ntmps45
  go_wp2
  all_goals go_ret
  all_goals refine ⟨ret_bool ?_, rfl⟩
  all_goals grind (splits := 40) [dgB]
set_option maxHeartbeats 400000 in
theorem c85 (b : Int) (w : World) (h0 : 0 ≤ b) (h1 : b ≤ 255) :
    Calls Tryz.prog 66 #[.int .u8 b] w fun e w' => e = .returned (.bool (spB b)) ∧ w' = w := by
  go_enter Tryz.func66, Tryz.ntmps66
  go_wp2
  all_goals go_ret
  all_goals refine ⟨ret_bool ?_, rfl⟩
  all_goals grind (splits := 40) [spB]
set_option maxHeartbeats 400000 in
theorem c62 (x b : Int) (w : World) (h0 : 0 ≤ b) (h1 : b ≤ 255) (hx : x = 0 ∨ x = 1 ∨ x = 2) :
    Calls Tryz.prog 38 #[.int .i64 x, .int .u8 b] w fun e w' => e = .returned (.int .i64 (stp x b)) ∧ w' = w := by
  go_enter Tryz.func38, Tryz.ntmps38
  go_wp2_with (first | (go_at_call 44; refine (c66 _ _ (by omega) (by omega)).mono ?_; rintro e w' ⟨rfl, rfl⟩))
  all_goals go_ret
  all_goals refine ⟨ret_int ?_, rfl⟩
  all_goals grind (splits := 40) [stp, ltB]
set_option maxHeartbeats 400000 in
theorem c63 (x b : Int) (w : World) (h0 : 0 ≤ b) (h1 : b ≤ 255) (hx : 19 ≤ x ∧ x ≤ 23) :
    Calls Tryz.prog 39 #[.int .i64 x, .int .u8 b] w fun e w' => e = .returned (.int .i64 (cd x b)) ∧ w' = w := by
  go_enter Tryz.func39, Tryz.ntmps39
  go_wp2
  all_goals go_ret
  all_goals refine ⟨ret_int ?_, rfl⟩
  all_goals grind (splits := 40) [cd]
set_option maxHeartbeats 1000000 in
theorem c65 (x b : Int) (w : World) (h0 : 0 ≤ b) (h1 : b ≤ 255) (hx : x = 3 ∨ x = 5 ∨ x = 7 ∨ x = 9 ∨ x = 11 ∨ x = 13 ∨ x = 15 ∨ x = 17) :
    Calls Tryz.prog 41 #[.int .i64 x, .int .u8 b] w fun e w' => e = .returned (.int .i64 (tg x b)) ∧ w' = w := by
  rcases hx with rfl | rfl | rfl | rfl | rfl | rfl | rfl | rfl
  all_goals
    go_enter Tryz.func41, Tryz.ntmps41
    go_wp2_with (first | (go_at_call 44; refine (c66 _ _ (by omega) (by omega)).mono ?_; rintro e w' ⟨rfl, rfl⟩) | (go_at_call 45; refine (c67 _ _ (by omega) (by omega)).mono ?_; rintro e w' ⟨rfl, rfl⟩) | (go_at_call 66; refine (c85 _ _ (by omega) (by omega)).mono ?_; rintro e w' ⟨rfl, rfl⟩))
    all_goals go_ret
    all_goals refine ⟨ret_int ?_, rfl⟩
    all_goals grind (splits := 60) [tg, wdB, ltB, dgB, spB]
end Go.Proofs.YtponicaflcbbeaaGreat
