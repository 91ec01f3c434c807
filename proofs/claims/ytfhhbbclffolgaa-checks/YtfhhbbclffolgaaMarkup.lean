import Derived.Test.YtfhhbbclffolgaaProg
import Derived.Test.YtfhhbbclffolgaaPlain
import Derived.WalkKit
import Derived.WalkSpells
import Derived.WalkLawsBesides
namespace Go.Proofs.Ytfhhbbclffolgaa
open Go.RowKit
set_option linter.unusedVariables false
theorem ret_int {k : IntKind} {a b : Int} (h : a = b) : Ending.returned (.int k a) = .returned (.int k b) := by rw [h]
theorem ret_bool {a b : Bool} (h : a = b) : Ending.returned (.bool a) = .returned (.bool b) := by rw [h]
set_option maxHeartbeats 400000 in
theorem c73 (b : Int) (w : World) (h0 : 0 ≤ b) (h1 : b ≤ 255) :
    Calls Try.prog 73 #[.int .u8 b] w fun e w' => e = .returned (.bool (ltB b)) ∧ w' = w := by
  go_enter Try.func73, Try.ntmps73
  go_wp2
  all_goals go_ret
  all_goals refine ⟨ret_bool ?_, rfl⟩
  all_goals grind (splits := 40) [ltB]
set_option maxHeartbeats 400000 in
theorem c74 (b : Int) (w : World) (h0 : 0 ≤ b) (h1 : b ≤ 255) :
    Calls Try.prog 74 #[.int .u8 b] w fun e w' => e = .returned (.bool (wdB b)) ∧ w' = w := by
  go_enter Try.func74, Try.ntmps74
  go_wp2_with (first | (go_at_call 73; refine (c73 _ _ (by omega) (by omega)).mono ?_; rintro e w' ⟨rfl, rfl⟩))
  all_goals go_ret
  all_goals refine ⟨ret_bool ?_, rfl⟩
  all_goals grind (splits := 40) [wdB, dgB]
set_option maxHeartbeats 400000 in
theorem c89 (b : Int) (w : World) (h0 : 0 ≤ b) (h1 : b ≤ 255) :
    Calls Try.prog 89 #[.int .u8 b] w fun e w' => e = .returned (.bool (spB b)) ∧ w' = w := by
  go_enter Try.func89, Try.ntmps89
  go_wp2
  all_goals go_ret
  all_goals refine ⟨ret_bool ?_, rfl⟩
  all_goals grind (splits := 40) [spB]
set_option maxHeartbeats 400000 in
theorem c75 (b : Int) (w : World) (h0 : 0 ≤ b) (h1 : b ≤ 255) :
    Calls Try.prog 75 #[.int .u8 b] w fun e w' => e = .returned (.int .i64 (bw b)) ∧ w' = w := by
  go_enter Try.func75, Try.ntmps75
  go_wp2_with (first | (go_at_call 89; refine (c89 _ _ (by omega) (by omega)).mono ?_; rintro e w' ⟨rfl, rfl⟩))
  all_goals go_ret
  all_goals refine ⟨ret_int ?_, rfl⟩
  all_goals grind (splits := 40) [bw]
set_option maxHeartbeats 400000 in
theorem c43 (b : Int) (w : World) (h0 : 0 ≤ b) (h1 : b ≤ 255) :
    Calls Try.prog 43 #[.int .u8 b] w fun e w' => e = .returned (.int .i64 (stp 0 b)) ∧ w' = w := by
  go_enter Try.func43, Try.ntmps43
  go_wp2
  all_goals go_ret
  all_goals refine ⟨ret_int ?_, rfl⟩
  all_goals grind (splits := 40) [stp]
set_option maxHeartbeats 400000 in
theorem c44 (b : Int) (w : World) (h0 : 0 ≤ b) (h1 : b ≤ 255) :
    Calls Try.prog 44 #[.int .u8 b] w fun e w' => e = .returned (.int .i64 (stp 1 b)) ∧ w' = w := by
  go_enter Try.func44, Try.ntmps44
  go_wp2_with (first | (go_at_call 73; refine (c73 _ _ (by omega) (by omega)).mono ?_; rintro e w' ⟨rfl, rfl⟩))
  all_goals go_ret
  all_goals refine ⟨ret_int ?_, rfl⟩
  all_goals grind (splits := 40) [stp, ltB]
set_option maxHeartbeats 400000 in
theorem c45 (b : Int) (w : World) (h0 : 0 ≤ b) (h1 : b ≤ 255) :
    Calls Try.prog 45 #[.int .u8 b] w fun e w' => e = .returned (.int .i64 (stp 2 b)) ∧ w' = w := by
  go_enter Try.func45, Try.ntmps45
  go_wp2
  all_goals go_ret
  all_goals refine ⟨ret_int ?_, rfl⟩
  all_goals grind (splits := 40) [stp]
set_option maxHeartbeats 400000 in
theorem c46 (b : Int) (w : World) (h0 : 0 ≤ b) (h1 : b ≤ 255) :
    Calls Try.prog 46 #[.int .u8 b] w fun e w' => e = .returned (.int .i64 (tg 3 b)) ∧ w' = w := by
  go_enter Try.func46, Try.ntmps46
  go_wp2_with (first | (go_at_call 74; refine (c74 _ _ (by omega) (by omega)).mono ?_; rintro e w' ⟨rfl, rfl⟩) | (go_at_call 75; refine (c75 _ _ (by omega) (by omega)).mono ?_; rintro e w' ⟨rfl, rfl⟩))
  all_goals go_ret
  all_goals refine ⟨ret_int ?_, rfl⟩
  all_goals grind (splits := 40) [tg, bw]
set_option maxHeartbeats 400000 in
theorem c47 (y : Int) (w : World)  :
    Calls Try.prog 47 #[.int .i64 y] w fun e w' => e = .returned (.int .i64 (ws y)) ∧ w' = w := by
  go_enter Try.func47, Try.ntmps47
  go_wp2
  all_goals go_ret
  all_goals refine ⟨ret_int ?_, rfl⟩
  all_goals grind (splits := 40) [ws]
set_option maxHeartbeats 400000 in
theorem c50 (y : Int) (w : World)  :
    Calls Try.prog 50 #[.int .i64 y] w fun e w' => e = .returned (.int .i64 (wo y)) ∧ w' = w := by
  go_enter Try.func50, Try.ntmps50
  go_wp2
  all_goals go_ret
  all_goals refine ⟨ret_int ?_, rfl⟩
  all_goals grind (splits := 40) [wo]
set_option maxHeartbeats 400000 in
theorem c48 (c b : Int) (w : World) (h0 : 0 ≤ b) (h1 : b ≤ 255) (hc : c = 19 ∨ c = 20) :
    Calls Try.prog 48 #[.int .i64 c, .int .u8 b] w fun e w' => e = .returned (.int .i64 (cd c b)) ∧ w' = w := by
  go_enter Try.func48, Try.ntmps48
  go_wp2
  all_goals go_ret
  all_goals refine ⟨ret_int ?_, rfl⟩
  all_goals grind (splits := 40) [cd]
set_option maxHeartbeats 400000 in
theorem c49 (c b : Int) (w : World) (h0 : 0 ≤ b) (h1 : b ≤ 255) (hc : c = 21 ∨ c = 22 ∨ c = 23) :
    Calls Try.prog 49 #[.int .i64 c, .int .u8 b] w fun e w' => e = .returned (.int .i64 (cd c b)) ∧ w' = w := by
  go_enter Try.func49, Try.ntmps49
  go_wp2
  all_goals go_ret
  all_goals refine ⟨ret_int ?_, rfl⟩
  all_goals grind (splits := 40) [cd]
set_option maxHeartbeats 400000 in
theorem c76 (b : Int) (w : World) (h0 : 0 ≤ b) (h1 : b ≤ 255) :
    Calls Try.prog 76 #[.int .u8 b] w fun e w' => e = .returned (.int .i64 (tg 5 b)) ∧ w' = w := by
  go_enter Try.func76, Try.ntmps76
  go_wp2_with (first | (go_at_call 73; refine (c73 _ _ (by omega) (by omega)).mono ?_; rintro e w' ⟨rfl, rfl⟩) | (go_at_call 75; refine (c75 _ _ (by omega) (by omega)).mono ?_; rintro e w' ⟨rfl, rfl⟩))
  all_goals go_ret
  all_goals refine ⟨ret_int ?_, rfl⟩
  all_goals grind (splits := 40) [tg, bw, spB, ltB]
set_option maxHeartbeats 400000 in
theorem c77 (b q : Int) (w : World) (h0 : 0 ≤ b) (h1 : b ≤ 255) :
    Calls Try.prog 77 #[.int .u8 b, .int .i64 q] w fun e w' => e = .returned (.int .i64 (ba b q)) ∧ w' = w := by
  go_enter Try.func77, Try.ntmps77
  go_wp2_with (first | (go_at_call 74; refine (c74 _ _ (by omega) (by omega)).mono ?_; rintro e w' ⟨rfl, rfl⟩) | (go_at_call 75; refine (c75 _ _ (by omega) (by omega)).mono ?_; rintro e w' ⟨rfl, rfl⟩))
  all_goals go_ret
  all_goals refine ⟨ret_int ?_, rfl⟩
  all_goals grind (splits := 40) [ba]
set_option maxHeartbeats 400000 in
theorem c78 (b q : Int) (w : World) (h0 : 0 ≤ b) (h1 : b ≤ 255) :
    Calls Try.prog 78 #[.int .u8 b, .int .i64 q] w fun e w' => e = .returned (.int .i64 (be b q)) ∧ w' = w := by
  go_enter Try.func78, Try.ntmps78
  go_wp2
  all_goals go_ret
  all_goals refine ⟨ret_int ?_, rfl⟩
  all_goals grind (splits := 40) [be]
set_option maxHeartbeats 400000 in
theorem c51 (c b : Int) (w : World) (h0 : 0 ≤ b) (h1 : b ≤ 255) (hc : c ≠ 3) :
    Calls Try.prog 51 #[.int .i64 c, .int .u8 b] w fun e w' => e = .returned (.int .i64 (tg c b)) ∧ w' = w := by
  go_enter Try.func51, Try.ntmps51
  go_wp2_with (first | (go_at_call 76; refine (c76 _ _ (by omega) (by omega)).mono ?_; rintro e w' ⟨rfl, rfl⟩) | (go_at_call 77; refine (c77 _ _ _ (by omega) (by omega)).mono ?_; rintro e w' ⟨rfl, rfl⟩) | (go_at_call 78; refine (c78 _ _ _ (by omega) (by omega)).mono ?_; rintro e w' ⟨rfl, rfl⟩))
  all_goals go_ret
  all_goals refine ⟨ret_int ?_, rfl⟩
  all_goals grind (splits := 40) [tg, ba, be, bw, wdB, ltB, dgB, spB]
set_option maxHeartbeats 1000000 in
theorem c26 (c b : Int) (w : World) (h0 : 0 ≤ b) (h1 : b ≤ 255) (hc0 : 0 ≤ c) (hc1 : c ≤ 23) :
    Calls Try.prog 26 #[.int .i64 c, .int .u8 b] w fun e w' => e = .returned (.int .i64 (stp c b)) ∧ w' = w := by
  go_enter Try.func26, Try.ntmps26
  go_wp2_with (first | (go_at_call 43; refine (c43 _ _ (by omega) (by omega)).mono ?_; rintro e w' ⟨rfl, rfl⟩) | (go_at_call 44; refine (c44 _ _ (by omega) (by omega)).mono ?_; rintro e w' ⟨rfl, rfl⟩) | (go_at_call 45; refine (c45 _ _ (by omega) (by omega)).mono ?_; rintro e w' ⟨rfl, rfl⟩) | (go_at_call 46; refine (c46 _ _ (by omega) (by omega)).mono ?_; rintro e w' ⟨rfl, rfl⟩) | (go_at_call 47; refine (c47 _ _).mono ?_; rintro e w' ⟨rfl, rfl⟩) | (go_at_call 50; refine (c50 _ _).mono ?_; rintro e w' ⟨rfl, rfl⟩) | (go_at_call 48; refine (c48 _ _ _ (by omega) (by omega) (by grind)).mono ?_; rintro e w' ⟨rfl, rfl⟩) | (go_at_call 49; refine (c49 _ _ _ (by omega) (by omega) (by grind)).mono ?_; rintro e w' ⟨rfl, rfl⟩) | (go_at_call 51; refine (c51 _ _ _ (by omega) (by omega) (wo_ne _ (by grind))).mono ?_; rintro e w' ⟨rfl, rfl⟩))
  all_goals go_ret
  all_goals refine ⟨ret_int ?_, rfl⟩
  all_goals grind (splits := 40) [stp_name, stp_nameS, stp_code, stp_plain, stp_S]
end Go.Proofs.Ytfhhbbclffolgaa
