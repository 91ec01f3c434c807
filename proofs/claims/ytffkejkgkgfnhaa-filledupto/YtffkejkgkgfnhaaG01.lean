import Derived.WalkKit
import Derived.Test.YtffkejkgkgfnhaaProg
import Derived.WalkSpells
import Derived.WalkLawsBesides
import Derived.Test.YtffkejkgkgfnhaaRows
import Derived.ProofKit
import Derived.OpenShut
import Derived.ShutString
import Derived.SizedLaws
/-
  THE PLAIN MATHEMATICS OF CONTEXTS: no Go, no program.
-/
namespace Go.Proofs.Ytffkejkgkgfnhaa
set_option linter.unusedVariables false
def ltB (b : Int) : Bool := decide ((97 ≤ b ∧ b ≤ 122) ∨ (65 ≤ b ∧ b ≤ 90))
def dgB (b : Int) : Bool := decide (48 ≤ b ∧ b ≤ 57)
def wdB (b : Int) : Bool := ltB b || dgB b
def spB (b : Int) : Bool := decide (b = 32 ∨ b = 10)
/-- behind a word -/
def bw (b : Int) : Int := if spB b then 5 else if b = 62 then 0 else -1
def tg (x b : Int) : Int :=
  if x = 3 then (if wdB b then 3 else if spB b then 5 else if b = 62 then 0 else -1)
  else if x = 5 then (if spB b then 5 else if b = 62 then 0 else if b = 117 then 9 else if ltB b then 7 else -1)
  else if x = 7 then (if wdB b then 7 else if b = 61 then 11 else if spB b then 5 else if b = 62 then 0 else -1)
  else if x = 9 then (if wdB b then 7 else if b = 61 then 13 else if spB b then 5 else if b = 62 then 0 else -1)
  else if x = 11 then (if b = 34 then 15 else -1)
  else if x = 13 then (if b = 34 then 17 else -1)
  else if x = 15 then (if b = 34 then 5 else 15)
  else if x = 17 then (if b = 34 then 5 else 17)
  else -1
def up (y : Int) : Int := if y = 0 then 19 else if y = -1 then -1 else y + 1
def ws (y : Int) : Int := if y = 0 then 19 else if y = 5 then 6 else if y = 7 then 8 else if y = 9 then 10 else if y = 11 then 12 else if y = 13 then 14 else if y = 15 then 16 else if y = 17 then 18 else y
def wo (y : Int) : Int := if y = 6 then 5 else if y = 8 then 7 else if y = 10 then 9 else if y = 12 then 11 else if y = 14 then 13 else if y = 16 then 15 else if y = 18 then 17 else y
def ba (b q : Int) : Int := if wdB b then 7 else if b = 61 then q else bw b
def be (b q : Int) : Int := if b = 34 then q else -1
def cd (c b : Int) : Int :=
  if c = 19 then (if b = 39 then 21 else if b = 60 then 20 else 19)
  else if c = 20 then (if b = 47 then 2 else if b = 39 then 21 else if b = 60 then 20 else 19)
  else if c = 21 then (if b = 39 then 19 else if b = 92 then 22 else if b = 60 then 23 else if b = 10 then -1 else 21)
  else if c = 22 then (if b = 60 then 23 else if b = 10 then -1 else 21)
  else if c = 23 then (if b = 47 then 2 else if b = 39 then 19 else if b = 92 then 22 else if b = 60 then 23 else if b = 10 then -1 else 21)
  else -1
/-- what a byte makes of a context, by the document's table -/
def stp (c b : Int) : Int :=
  if c = 0 then (if b = 60 then 1 else 0)
  else if c = 1 then (if b = 115 then 4 else if ltB b then 3 else if b = 47 then 2 else if b = 60 then 1 else 0)
  else if c = 2 then (if b = 62 then 0 else 2)
  else if c = 4 then (if wdB b then 3 else up (tg 3 b))
  else if c = 3 ∨ c = 5 ∨ c = 7 ∨ c = 9 ∨ c = 11 ∨ c = 13 ∨ c = 15 ∨ c = 17 then tg c b
  else if c = 6 ∨ c = 8 ∨ c = 10 ∨ c = 12 ∨ c = 14 ∨ c = 16 ∨ c = 18 then up (tg (c - 1) b)
  else cd c b
theorem stp_lost (b : Int) : stp (-1) b = -1 := by simp [stp, cd]
theorem up_range (y : Int) (h : -1 ≤ y ∧ y ≤ 17) : -1 ≤ up y ∧ up y ≤ 23 := by unfold up; repeat' split <;> omega
theorem tg_range (x b : Int) : -1 ≤ tg x b ∧ tg x b ≤ 17 := by unfold tg; repeat' split <;> omega
theorem cd_range (x b : Int) : -1 ≤ cd x b ∧ cd x b ≤ 23 := by unfold cd; repeat' split <;> omega
theorem stp_range (c b : Int) : -1 ≤ stp c b ∧ stp c b ≤ 23 := by
  have h1 := tg_range c b
  have h2 := up_range _ (tg_range (c - 1) b)
  have h3 := up_range _ (tg_range 3 b)
  have h4 := cd_range c b
  unfold stp
  repeat' split <;> omega
/-- behind a list of bytes; what is lost stays lost -/
def scl (c : Int) : List UInt8 → Int
  | [] => c
  | b :: r => scl (stp c b.toNat) r
theorem scl_append (c : Int) (a b : List UInt8) : scl c (a ++ b) = scl (scl c a) b := by
  induction a generalizing c with
  | nil => rfl
  | cons x r ih => simp [scl, ih]
theorem scl_lost (l : List UInt8) : scl (-1) l = -1 := by
  induction l with
  | nil => rfl
  | cons x r ih => simp [scl, stp_lost, ih]
theorem scl_range (c : Int) (l : List UInt8) (h : -1 ≤ c ∧ c ≤ 23) : -1 ≤ scl c l ∧ scl c l ≤ 23 := by
  induction l generalizing c with
  | nil => exact h
  | cons x r ih => exact ih _ (stp_range _ _)
def scn (c : Int) (l : List UInt8) : Int := if c < 0 ∨ 24 ≤ c then -1 else scl c l
theorem scn_range (c : Int) (l : List UInt8) : -1 ≤ scn c l ∧ scn c l ≤ 23 := by
  unfold scn
  split
  · omega
  · exact scl_range _ _ (by omega)
theorem stp_name (b : Int) : tg 3 b = stp 3 b := by grind (splits := 40) [stp]
theorem stp_nameS (b : Int) : ws (tg 3 b) = stp 4 b := by grind (splits := 40) [stp, ws, up, tg, spB]
theorem stp_code (c b : Int) (h : c = 19 ∨ c = 20 ∨ c = 21 ∨ c = 22 ∨ c = 23) : cd c b = stp c b := by grind (splits := 40) [stp]
theorem wo_ne (c : Int) (h : c ≠ 3) : wo c ≠ 3 := by grind (splits := 40) [wo]
theorem stp_plain (c b : Int) (h : 5 ≤ c ∧ c ≤ 18) (e : wo c = c) : tg (wo c) b = stp c b := by grind (splits := 40) [stp, wo]
theorem tg_vals (x b : Int) : tg x b = -1 ∨ tg x b = 0 ∨ tg x b = 3 ∨ tg x b = 5 ∨ tg x b = 7 ∨ tg x b = 9 ∨ tg x b = 11 ∨ tg x b = 13 ∨ tg x b = 15 ∨ tg x b = 17 := by
  grind (splits := 40) [tg]
theorem tg_3 (x b : Int) (h : x ≠ 3) : tg x b ≠ 3 := by unfold tg; repeat' split <;> omega
theorem ws_up (y : Int) (h : y = -1 ∨ y = 0 ∨ y = 5 ∨ y = 7 ∨ y = 9 ∨ y = 11 ∨ y = 13 ∨ y = 15 ∨ y = 17) : ws y = up y := by
  rcases h with rfl | rfl | rfl | rfl | rfl | rfl | rfl | rfl | rfl <;> rfl
theorem wo_S (c : Int) (h : 5 ≤ c ∧ c ≤ 18) (e : wo c ≠ c) : (c = 6 ∨ c = 8 ∨ c = 10 ∨ c = 12 ∨ c = 14 ∨ c = 16 ∨ c = 18) ∧ wo c = c - 1 := by grind (splits := 40) [wo]
theorem stp_S (c b : Int) (h : 5 ≤ c ∧ c ≤ 18) (e : wo c ≠ c) : ws (tg (wo c) b) = stp c b := by
  obtain ⟨h1, h2⟩ := wo_S c h e
  have h3 := tg_vals (wo c) b
  have h4 := tg_3 (wo c) b (wo_ne c (by omega))
  rw [ws_up _ (by omega), h2]
  rcases h1 with rfl | rfl | rfl | rfl | rfl | rfl | rfl <;> simp [stp]
end Go.Proofs.Ytffkejkgkgfnhaa
namespace Go.Proofs.Ytffkejkgkgfnhaa
open Go.RowKit
set_option linter.unusedVariables false
theorem ret_int {k : IntKind} {a b : Int} (h : a = b) : Ending.returned (.int k a) = .returned (.int k b) := by rw [h]
theorem ret_bool {a b : Bool} (h : a = b) : Ending.returned (.bool a) = .returned (.bool b) := by rw [h]
set_option maxHeartbeats 400000 in
theorem c73 (b : Int) (w : World) (h0 : 0 ≤ b) (h1 : b ≤ 255) :
    Calls Try.prog 63 #[.int .u8 b] w fun e w' => e = .returned (.bool (ltB b)) ∧ w' = w := by
  go_enter Try.func63, Try.ntmps63
  go_wp2
  all_goals go_ret
  all_goals refine ⟨ret_bool ?_, rfl⟩
  all_goals grind (splits := 40) [ltB]
set_option maxHeartbeats 400000 in
theorem c74 (b : Int) (w : World) (h0 : 0 ≤ b) (h1 : b ≤ 255) :
    Calls Try.prog 64 #[.int .u8 b] w fun e w' => e = .returned (.bool (wdB b)) ∧ w' = w := by
  go_enter Try.func64, Try.ntmps64
  go_wp2_with (first | (go_at_call 63; refine (c73 _ _ (by omega) (by omega)).mono ?_; rintro e w' ⟨rfl, rfl⟩))
  all_goals go_ret
  all_goals refine ⟨ret_bool ?_, rfl⟩
  all_goals grind (splits := 40) [wdB, dgB]
set_option maxHeartbeats 400000 in
theorem c89 (b : Int) (w : World) (h0 : 0 ≤ b) (h1 : b ≤ 255) :
    Calls Try.prog 82 #[.int .u8 b] w fun e w' => e = .returned (.bool (spB b)) ∧ w' = w := by
  go_enter Try.func82, Try.ntmps82
  go_wp2
  all_goals go_ret
  all_goals refine ⟨ret_bool ?_, rfl⟩
  all_goals grind (splits := 40) [spB]
set_option maxHeartbeats 400000 in
theorem c75 (b : Int) (w : World) (h0 : 0 ≤ b) (h1 : b ≤ 255) :
    Calls Try.prog 65 #[.int .u8 b] w fun e w' => e = .returned (.int .i64 (bw b)) ∧ w' = w := by
  go_enter Try.func65, Try.ntmps65
  go_wp2_with (first | (go_at_call 82; refine (c89 _ _ (by omega) (by omega)).mono ?_; rintro e w' ⟨rfl, rfl⟩))
  all_goals go_ret
  all_goals refine ⟨ret_int ?_, rfl⟩
  all_goals grind (splits := 40) [bw]
set_option maxHeartbeats 400000 in
theorem c43 (b : Int) (w : World) (h0 : 0 ≤ b) (h1 : b ≤ 255) :
    Calls Try.prog 42 #[.int .u8 b] w fun e w' => e = .returned (.int .i64 (stp 0 b)) ∧ w' = w := by
  go_enter Try.func42, Try.ntmps42
  go_wp2
  all_goals go_ret
  all_goals refine ⟨ret_int ?_, rfl⟩
  all_goals grind (splits := 40) [stp]
set_option maxHeartbeats 400000 in
theorem c44 (b : Int) (w : World) (h0 : 0 ≤ b) (h1 : b ≤ 255) :
    Calls Try.prog 43 #[.int .u8 b] w fun e w' => e = .returned (.int .i64 (stp 1 b)) ∧ w' = w := by
  go_enter Try.func43, Try.ntmps43
  go_wp2_with (first | (go_at_call 63; refine (c73 _ _ (by omega) (by omega)).mono ?_; rintro e w' ⟨rfl, rfl⟩))
  all_goals go_ret
  all_goals refine ⟨ret_int ?_, rfl⟩
  all_goals grind (splits := 40) [stp, ltB]
set_option maxHeartbeats 400000 in
theorem c45 (b : Int) (w : World) (h0 : 0 ≤ b) (h1 : b ≤ 255) :
    Calls Try.prog 44 #[.int .u8 b] w fun e w' => e = .returned (.int .i64 (stp 2 b)) ∧ w' = w := by
  go_enter Try.func44, Try.ntmps44
  go_wp2
  all_goals go_ret
  all_goals refine ⟨ret_int ?_, rfl⟩
  all_goals grind (splits := 40) [stp]
set_option maxHeartbeats 400000 in
theorem c46 (b : Int) (w : World) (h0 : 0 ≤ b) (h1 : b ≤ 255) :
    Calls Try.prog 45 #[.int .u8 b] w fun e w' => e = .returned (.int .i64 (tg 3 b)) ∧ w' = w := by
  go_enter Try.func45, Try.ntmps45
  go_wp2_with (first | (go_at_call 64; refine (c74 _ _ (by omega) (by omega)).mono ?_; rintro e w' ⟨rfl, rfl⟩) | (go_at_call 65; refine (c75 _ _ (by omega) (by omega)).mono ?_; rintro e w' ⟨rfl, rfl⟩))
  all_goals go_ret
  all_goals refine ⟨ret_int ?_, rfl⟩
  all_goals grind (splits := 40) [tg, bw]
set_option maxHeartbeats 400000 in
theorem c47 (y : Int) (w : World)  :
    Calls Try.prog 46 #[.int .i64 y] w fun e w' => e = .returned (.int .i64 (ws y)) ∧ w' = w := by
  go_enter Try.func46, Try.ntmps46
  go_wp2
  all_goals go_ret
  all_goals refine ⟨ret_int ?_, rfl⟩
  all_goals grind (splits := 40) [ws]
set_option maxHeartbeats 400000 in
theorem c50 (y : Int) (w : World)  :
    Calls Try.prog 49 #[.int .i64 y] w fun e w' => e = .returned (.int .i64 (wo y)) ∧ w' = w := by
  go_enter Try.func49, Try.ntmps49
  go_wp2
  all_goals go_ret
  all_goals refine ⟨ret_int ?_, rfl⟩
  all_goals grind (splits := 40) [wo]
set_option maxHeartbeats 400000 in
theorem c48 (c b : Int) (w : World) (h0 : 0 ≤ b) (h1 : b ≤ 255) (hc : c = 19 ∨ c = 20) :
    Calls Try.prog 47 #[.int .i64 c, .int .u8 b] w fun e w' => e = .returned (.int .i64 (cd c b)) ∧ w' = w := by
  go_enter Try.func47, Try.ntmps47
  go_wp2
  all_goals go_ret
  all_goals refine ⟨ret_int ?_, rfl⟩
  all_goals grind (splits := 40) [cd]
set_option maxHeartbeats 400000 in
theorem c49 (c b : Int) (w : World) (h0 : 0 ≤ b) (h1 : b ≤ 255) (hc : c = 21 ∨ c = 22 ∨ c = 23) :
    Calls Try.prog 48 #[.int .i64 c, .int .u8 b] w fun e w' => e = .returned (.int .i64 (cd c b)) ∧ w' = w := by
  go_enter Try.func48, Try.ntmps48
  go_wp2
  all_goals go_ret
  all_goals refine ⟨ret_int ?_, rfl⟩
  all_goals grind (splits := 40) [cd]
set_option maxHeartbeats 400000 in
theorem c76 (b : Int) (w : World) (h0 : 0 ≤ b) (h1 : b ≤ 255) :
    Calls Try.prog 66 #[.int .u8 b] w fun e w' => e = .returned (.int .i64 (tg 5 b)) ∧ w' = w := by
  go_enter Try.func66, Try.ntmps66
  go_wp2_with (first | (go_at_call 63; refine (c73 _ _ (by omega) (by omega)).mono ?_; rintro e w' ⟨rfl, rfl⟩) | (go_at_call 65; refine (c75 _ _ (by omega) (by omega)).mono ?_; rintro e w' ⟨rfl, rfl⟩))
  all_goals go_ret
  all_goals refine ⟨ret_int ?_, rfl⟩
  all_goals grind (splits := 40) [tg, bw, spB, ltB]
set_option maxHeartbeats 400000 in
theorem c77 (b q : Int) (w : World) (h0 : 0 ≤ b) (h1 : b ≤ 255) :
    Calls Try.prog 67 #[.int .u8 b, .int .i64 q] w fun e w' => e = .returned (.int .i64 (ba b q)) ∧ w' = w := by
  go_enter Try.func67, Try.ntmps67
  go_wp2_with (first | (go_at_call 64; refine (c74 _ _ (by omega) (by omega)).mono ?_; rintro e w' ⟨rfl, rfl⟩) | (go_at_call 65; refine (c75 _ _ (by omega) (by omega)).mono ?_; rintro e w' ⟨rfl, rfl⟩))
  all_goals go_ret
  all_goals refine ⟨ret_int ?_, rfl⟩
  all_goals grind (splits := 40) [ba]
set_option maxHeartbeats 400000 in
theorem c78 (b q : Int) (w : World) (h0 : 0 ≤ b) (h1 : b ≤ 255) :
    Calls Try.prog 68 #[.int .u8 b, .int .i64 q] w fun e w' => e = .returned (.int .i64 (be b q)) ∧ w' = w := by
  go_enter Try.func68, Try.ntmps68
  go_wp2
  all_goals go_ret
  all_goals refine ⟨ret_int ?_, rfl⟩
  all_goals grind (splits := 40) [be]
set_option maxHeartbeats 400000 in
theorem c51 (c b : Int) (w : World) (h0 : 0 ≤ b) (h1 : b ≤ 255) (hc : c ≠ 3) :
    Calls Try.prog 50 #[.int .i64 c, .int .u8 b] w fun e w' => e = .returned (.int .i64 (tg c b)) ∧ w' = w := by
  go_enter Try.func50, Try.ntmps50
  go_wp2_with (first | (go_at_call 66; refine (c76 _ _ (by omega) (by omega)).mono ?_; rintro e w' ⟨rfl, rfl⟩) | (go_at_call 67; refine (c77 _ _ _ (by omega) (by omega)).mono ?_; rintro e w' ⟨rfl, rfl⟩) | (go_at_call 68; refine (c78 _ _ _ (by omega) (by omega)).mono ?_; rintro e w' ⟨rfl, rfl⟩))
  all_goals go_ret
  all_goals refine ⟨ret_int ?_, rfl⟩
  all_goals grind (splits := 40) [tg, ba, be, bw, wdB, ltB, dgB, spB]
set_option maxHeartbeats 1000000 in
theorem c26 (c b : Int) (w : World) (h0 : 0 ≤ b) (h1 : b ≤ 255) (hc0 : 0 ≤ c) (hc1 : c ≤ 23) :
    Calls Try.prog 32 #[.int .i64 c, .int .u8 b] w fun e w' => e = .returned (.int .i64 (stp c b)) ∧ w' = w := by
  go_enter Try.func32, Try.ntmps32
  go_wp2_with (first | (go_at_call 42; refine (c43 _ _ (by omega) (by omega)).mono ?_; rintro e w' ⟨rfl, rfl⟩) | (go_at_call 43; refine (c44 _ _ (by omega) (by omega)).mono ?_; rintro e w' ⟨rfl, rfl⟩) | (go_at_call 44; refine (c45 _ _ (by omega) (by omega)).mono ?_; rintro e w' ⟨rfl, rfl⟩) | (go_at_call 45; refine (c46 _ _ (by omega) (by omega)).mono ?_; rintro e w' ⟨rfl, rfl⟩) | (go_at_call 46; refine (c47 _ _).mono ?_; rintro e w' ⟨rfl, rfl⟩) | (go_at_call 49; refine (c50 _ _).mono ?_; rintro e w' ⟨rfl, rfl⟩) | (go_at_call 47; refine (c48 _ _ _ (by omega) (by omega) (by grind)).mono ?_; rintro e w' ⟨rfl, rfl⟩) | (go_at_call 48; refine (c49 _ _ _ (by omega) (by omega) (by grind)).mono ?_; rintro e w' ⟨rfl, rfl⟩) | (go_at_call 50; refine (c51 _ _ _ (by omega) (by omega) (wo_ne _ (by grind))).mono ?_; rintro e w' ⟨rfl, rfl⟩))
  all_goals go_ret
  all_goals refine ⟨ret_int ?_, rfl⟩
  all_goals grind (splits := 40) [stp_name, stp_nameS, stp_code, stp_plain, stp_S]
end Go.Proofs.Ytffkejkgkgfnhaa
namespace Go.Proofs.Ytffkejkgkgfnhaa
open Go.RowKit
set_option linter.unusedVariables false
theorem hide {p : Prop} (h : p) : Hid p := h
theorem byte_le (u : UInt8) : (u.toNat : Int) ≤ 255 := by have := UInt8.toNat_lt u; omega
theorem byte_ge (u : UInt8) : (0 : Int) ≤ (u.toNat : Int) := by omega
theorem take_snoc (s : ByteArray) (k : Nat) (h : k < s.size) : s.data.toList.take (k + 1) = s.data.toList.take k ++ [s[k]] := by
  rw [List.take_succ_eq_append_getElem (by simpa using h)]; rfl
theorem scl_snoc (c : Int) (s : ByteArray) (k : Nat) (h : k < s.size) : scl c (s.data.toList.take (k + 1)) = stp (scl c (s.data.toList.take k)) s[k].toNat := by
  rw [take_snoc s k h, scl_append]; rfl
theorem scl_cut (c : Int) (l : List UInt8) (k : Nat) (h : scl c (l.take k) = -1) : scl c l = -1 := by
  rw [← List.take_append_drop k l, scl_append, h, scl_lost]
theorem scn_in (c : Int) (l : List UInt8) (h0 : 0 ≤ c) (h1 : c ≤ 23) : scn c l = scl c l := by unfold scn; rw [if_neg (by omega)]
theorem scn_out (c : Int) (l : List UInt8) (h : c < 0 ∨ 24 ≤ c) : scn c l = -1 := by unfold scn; rw [if_pos h]
set_option maxHeartbeats 1000000 in
theorem c16 (c : Int) (s : ByteArray) (w : World) (hs : s.size ≤ maxLen) :
    Calls Try.prog 26 #[.int .i64 c, .string s] w fun e w' => e = .returned (.int .i64 (scn c s.data.toList)) ∧ w' = w := by
  unfold maxLen at hs
  by_cases hc : c < 0 ∨ 24 ≤ c
  · rw [scn_out _ _ hc]
    go_enter Try.func26, Try.ntmps26
    go_wp2
    all_goals (go_ret; exact ⟨rfl, rfl⟩)
  · have hc0 : 0 ≤ c := by omega
    have hc1 : c ≤ 23 := by omega
    clear hc
    rw [scn_in _ _ hc0 hc1]
    go_enter Try.func26, Try.ntmps26
    go_wp2
    go_loop [0, 5] (fun x i => ∃ k : Nat, k ≤ s.size ∧ i = .int .i64 k ∧ x = .int .i64 (scl c (s.data.toList.take k))) (fun _ i => s.size - (intOf i).toNat)
    case atStart => exact ⟨0, Nat.zero_le _, rfl, rfl⟩
    case round =>
      obtain ⟨k, hk, rfl, rfl⟩ := hrel
      have hr := scl_range c (s.data.toList.take k) ⟨by omega, by omega⟩
      have Hcut := hide (scl_cut c s.data.toList k)
      have Hsn := hide (scl_snoc c s k)
      have Hall : Hid (k = s.size → scl c (s.data.toList.take k) = scl c s.data.toList) := by
        intro e; rw [List.take_of_length_le (by simp [e])]
      generalize hx : scl c (s.data.toList.take k) = x at *
      have Hx := hide hx
      clear hx
      by_cases hlt : k < s.size
      · by_cases hne : x = -1
        · have hq : (x != -1) = false := by simp [hne]
          go_wp2
          go_ret
          exact ⟨ret_int (Hcut.out hne).symm, rfl⟩
        · have hx0 : 0 ≤ x := by omega
          have hx1 : x ≤ 23 := by omega
          have hq : (x != -1) = true := by simp [hne]
          clear hne hr
          go_wp2_with (go_at_call 32; refine (c26 _ _ _ (byte_ge _) (byte_le _) (by omega) (by omega)).mono ?_; rintro e w' ⟨rfl, rfl⟩)
          go_round
          case rel => exact ⟨k + 1, by omega, by go_num, by rw [Hsn.out hlt]⟩
          case measure => simp [intOf]; omega
      · go_wp2
        go_ret
        exact ⟨ret_int (Hall.out (by omega)), rfl⟩
set_option maxHeartbeats 400000 in
theorem c10 (c : Int) (s : ByteArray) (w : World) (hs : s.size ≤ maxLen) :
    Calls Try.prog 10 #[.int .i64 c, .string s] w fun e w' => e = .returned (.int .i64 (scn c s.data.toList)) ∧ w' = w := by
  go_enter Try.func10, Try.ntmps10
  go_wp2_with (go_at_call 26; refine (c16 _ _ _ hs).mono ?_; rintro e w' ⟨rfl, rfl⟩)
  go_ret
  exact ⟨rfl, rfl⟩
end Go.Proofs.Ytffkejkgkgfnhaa
namespace Go.Proofs.Ytffkejkgkgfnhaa
open Go.ChangeShapes Go.WideShapes Go.ChangeAt Go.RowKit
open Go.ChangeMaps (open_string shut_string)
set_option linter.unusedVariables false
theorem scn_resume (c : Int) (a b : List UInt8) : scn (scn c a) b = scn c (a ++ b) := by
  by_cases h : c < 0 ∨ 24 ≤ c
  · rw [scn_out c a h, scn_out c _ h, scn_out _ _ (by omega)]
  · rw [scn_in c a (by omega) (by omega), scn_in c _ (by omega) (by omega), scl_append]
    have hr := scl_range c a ⟨by omega, by omega⟩
    by_cases h' : scl c a = -1
    · rw [h', scn_out _ _ (by omega), scl_lost]
    · rw [scn_in _ _ (by omega) (by omega)]
theorem scn_head : scn 0 [60, 97, 32, 117, 61, 34] = 17 := by decide
theorem cat_size (a b : ByteArray) : (a ++ b).size = a.size + b.size := ByteArray.size_append
theorem cat_list (a b : ByteArray) : (a ++ b).data.toList = a.data.toList ++ b.data.toList := by simp
theorem scn_nil (c : Int) (h : ¬ (c < 0 ∨ 24 ≤ c)) : scn c [] = c := by rw [scn_in _ _ (by omega) (by omega)]; rfl
theorem own : ownKnob Try.prog.godebug = none := by kernel_rfl
set_option maxHeartbeats 400000 in
theorem walk5 (a0 : Int) (a1 : ByteArray) (a2 : ByteArray) (w1 : a1.size ≤ 140737488351232) (w2 : a2.size ≤ 140737488351232) (w : World) :
    Calls Try.prog 3 #[.int .i64 a0, .string a1, .string a2] w fun e w' => e = .returned (.bool true) ∧ Grown w w' := by
  have q1 := scn_head
  have q2 := scn_resume a0 a1.data.toList a2.data.toList
  have q3 := scn_range a0 a1.data.toList
  have q4 : -1 ≤ scn a0 a1.data.toList := q3.1
  have q5 : scn a0 a1.data.toList < 24 := by omega
  have q6 := cat_list a1 a2
  clear q3
  by_cases h : a0 < 0 ∨ 24 ≤ a0
  · have q7 := scn_out a0 [] h
    go_enter Try.func3, Try.ntmps3
    go_wp2_with fail
    refine (c10 _ _ _ (by decide)).mono ?_; rintro e w' ⟨rfl, rfl⟩
    go_wp2_with fail
    refine (c10 _ _ _ (by unfold maxLen; omega)).mono ?_; rintro e w' ⟨rfl, rfl⟩
    go_wp2_with fail
    refine (c10 _ _ _ (by unfold maxLen; omega)).mono ?_; rintro e w' ⟨rfl, rfl⟩
    go_wp2_with fail
    refine (c10 _ _ _ (by rw [cat_size]; unfold maxLen; omega)).mono ?_; rintro e w' ⟨rfl, rfl⟩
    go_wp2_with fail
    refine (c10 _ _ _ (by decide)).mono ?_; rintro e w' ⟨rfl, rfl⟩
    go_wp2_with fail
    all_goals go_ret
    all_goals exact ⟨rfl, Grown.refl _⟩
  · have q7 := scn_nil a0 h
    have q8 : 0 ≤ a0 := by omega
    have q9 : a0 < 24 := by omega
    go_enter Try.func3, Try.ntmps3
    go_wp2_with fail
    refine (c10 _ _ _ (by decide)).mono ?_; rintro e w' ⟨rfl, rfl⟩
    go_wp2_with fail
    refine (c10 _ _ _ (by unfold maxLen; omega)).mono ?_; rintro e w' ⟨rfl, rfl⟩
    go_wp2_with fail
    refine (c10 _ _ _ (by unfold maxLen; omega)).mono ?_; rintro e w' ⟨rfl, rfl⟩
    go_wp2_with fail
    refine (c10 _ _ _ (by rw [cat_size]; unfold maxLen; omega)).mono ?_; rintro e w' ⟨rfl, rfl⟩
    go_wp2_with fail
    refine (c10 _ _ _ (by decide)).mono ?_; rintro e w' ⟨rfl, rfl⟩
    go_wp2_with fail
    all_goals go_ret
    all_goals exact ⟨rfl, Grown.refl _⟩
set_option maxRecDepth 100000 in
theorem lifted5 (os : Os) (started : os.Started) (H : Type) (enc : TypeId × Value → H) :
    ReturnsInHanded {} Try.checked os 3 .any (Rows.resumesSpec.pre6 enc Try.prog Try.f3 Rows.resumesRow.domain false) (Rows.resumesSpec.post enc Try.prog Try.f3 false true false false) := by
  refine returnsInHanded_of_change_sized (C := Try.checked) own started (by kernel_rfl) Try.func3
    (ChangeSpec.witness6 (enc := enc) (C := Try.checked) false ⟨#[], #[.int .i64 0, .string ByteArray.empty, .string ByteArray.empty], []⟩ 8 (by kernel_rfl) (by kernel_rfl) (by kernel_rfl) (by kernel_rfl)) ?_
  intro W base args ds gs before hval0 hW hcnd hsz0 _
  have hsz : (DataW.weightsEach Try.prog (Try.f3.params.toList ++ Rows.resumesSpec.plain.varTypes Try.prog) (ds ++ gs)).all (· ≤ reachBytes) = true := hsz0
  clear hsz0
  have hval : ∀ (j : Nat) t v, Try.f3.params[j]? = some t → args[j]? = some v → Value.okWide Try.prog W .any base t v := hval0
  have hW' := hW
  obtain ⟨p, q, hA0, hV, rfl, hfz, hnd⟩ := hW
  have hA : DataW.TrodAll enc Try.prog W 0 (fun _ => true) true Try.f3.params.toList args.toList ds p := hA0
  rw [Try.params3] at hA hval hsz
  obtain ⟨v0, vs0, d0, ds0, p0, q0, hargs, rfl, rfl, h0, r0⟩ := trodAll_cons hA
  obtain ⟨v1, vs1, d1, ds1, p1, q1, rfl, rfl, rfl, h1, r1⟩ := trodAll_cons r0
  obtain ⟨v2, vs2, d2, ds2, p2, q2, rfl, rfl, rfl, h2, r2⟩ := trodAll_cons r1
  obtain ⟨rfl, rfl, rfl⟩ := trodAll_nil r2
  obtain rfl : args = #[v0, v1, v2] := by cases args; simp_all
  obtain ⟨rfl, rfl⟩ := trodVars_none hV
  obtain ⟨a0, rfl, rfl, rfl, w0⟩ := open_int Try.underlying3 (hval 0 3 v0 rfl rfl) h0
  obtain ⟨a1, rfl, rfl, rfl, w1⟩ := open_string Try.underlying9 (hval 1 9 v1 rfl rfl) h1
  obtain ⟨a2, rfl, rfl, rfl, w2⟩ := open_string Try.underlying9 (hval 2 9 v2 rfl rfl) h2
  clear hA0 hval0
  simp only [List.append_nil] at hW'
  have r1 : a1.size ≤ 140737488351232 := by
    have := sized_string hsz (j := 1) (t := 9) rfl rfl
    simpa [reachBytes] using this
  have r2 : a2.size ≤ 140737488351232 := by
    have := sized_string hsz (j := 2) (t := 9) rfl rfl
    simpa [reachBytes] using this
  refine (walk5 a0 a1 a2 r1 r2 W).mono fun e W' ⟨he, hg⟩ => ?_
  subst he
  exact ⟨_, rfl, post_of_same (pa := []) (pv := []) hW' (fun _ _ _ => (trodAll_cons_mk (shut_bool Try.underlying4 _) trodAll_mk0)) (fun sp _ => (trodAll_cons_mk (shut_int Try.underlying3 w0) (trodAll_cons_mk (shut_string Try.underlying9 w1) (trodAll_cons_mk (shut_string Try.underlying9 w2) trodAll_mk0)))) (fun _ _ => rfl) rfl
    (hg.frame _) hg.2.1 (ok_one (by kernel_rfl) rfl (okWide_bool_mk Try.underlying4 _))⟩

theorem over5 : Rows.resumesRow.holds Try.pinned (OpenSpec.ofChange Rows.resumesSpec) :=
  OpenClaim.holds_of_wide 3 Try.f3 rfl rfl rfl rfl rfl rfl rfl ⟨rfl, rfl, rfl, rfl, rfl⟩ rfl rfl rfl rfl rfl (by kernel_rfl) Try.func3 (by kernel_rfl)
    (of_decide_eq_true (by kernel_rfl)) (by unfold Func.isWrapper; first | (rw [if_pos (by decide +kernel)]; kernel_rfl) | (rw [if_neg (by decide +kernel)]; exact ⟨rfl, rfl⟩))
    (fun os started H enc _ => lifted5 os started H enc)

theorem resumes_proved : Rows.ResumesSaid := over5
#print axioms resumes_proved
end Go.Proofs.Ytffkejkgkgfnhaa
