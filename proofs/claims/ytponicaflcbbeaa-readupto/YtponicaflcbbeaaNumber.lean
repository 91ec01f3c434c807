import Derived.Test.YtponicaflcbbeaaEntity
import Derived.Lib.Strings
namespace Go.Proofs.Ytponicaflcbbeaa
open Go.RowKit
set_option linter.unusedVariables false
def dgv (b : Int) : Int := if 48 ≤ b ∧ b ≤ 57 then b - 48 else if 97 ≤ b ∧ b ≤ 102 then b - 97 + 10 else if 65 ≤ b ∧ b ≤ 70 then b - 65 + 10 else 16
set_option maxHeartbeats 400000 in
theorem c29 (b : Int) (w : World) (h0 : 0 ≤ b) (h1 : b ≤ 255) :
    Calls Try.prog 17 #[.int .u8 b] w fun e w' => e = .returned (.int .i64 (dgv b)) ∧ w' = w := by
  go_enter Try.func17, Try.ntmps17
  go_wp2
  all_goals go_ret
  all_goals refine ⟨ret_int ?_, rfl⟩
  all_goals grind (splits := 40) [dgv]
set_option maxHeartbeats 400000 in
theorem c19 (T : ByteArray) (i : Int) (k : Nat) (x y : Int) (w : World) (hi : i = k) (hk : k + 1 < T.size) (hT : T.size ≤ 100000000)
    (hx : Hid (dgv (T[k]'(by omega)).toNat = x)) (hy : Hid (dgv (T[k + 1]'hk).toNat = y)) (x0 : 0 ≤ x) (x1 : x < 16) (y0 : 0 ≤ y) (y1 : y < 16) :
    Calls Try.prog 13 #[.string T, .int .i64 i] w fun e w' => e = .returned (.tuple #[.int .u8 (x * 16 + y), .bool true]) ∧ w' = w := by
  subst hi
  have hk0 : k < T.size := by omega
  go_enter Try.func13, Try.ntmps13
  go_wp2_with fail
  refine (c29 _ _ (byte_ge _) (byte_le _)).mono ?_
  rintro e w' ⟨rfl, rfl⟩
  rw [hx.out]
  go_wp2_with fail
  refine (c29 _ _ (byte_ge _) (byte_le _)).mono ?_
  rintro e w' ⟨rfl, rfl⟩
  rw [hy.out]
  go_wp2
  go_ret2
  exact ⟨rfl, rfl⟩
end Go.Proofs.Ytponicaflcbbeaa
