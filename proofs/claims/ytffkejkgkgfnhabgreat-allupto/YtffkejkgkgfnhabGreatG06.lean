import Derived.WalkKit
import Derived.Test.YtffkejkgkgfnhabGreatProg
import Derived.WalkSpells
import Derived.WalkLawsBesides
import Derived.Test.YtffkejkgkgfnhabGreatG05
/-
  THE PLAIN MATHEMATICS OF CONTEXTS: no Go, no program.
-/
namespace Go.Proofs.YtffkejkgkgfnhabGreat
set_option linter.unusedVariables false
def ltB (b : Int) : Bool := decide ((97 ≤ b ∧ b ≤ 122) ∨ (65 ≤ b ∧ b ≤ 90))
def dgB (b : Int) : Bool := decide (48 ≤ b ∧ b ≤ 57)
def wdB (b : Int) : Bool := ltB b || dgB b
def spB (b : Int) : Bool := decide (b = 32 ∨ b = 10)
/-- behind a word -/
def bw (b : Int) : Int := if spB b then 5 else if b = 62 then 0 else -1
def tg (x b : Int) : Int :=
  if x = 3 then (if wdB b then 3 else if spB b then 5 else if b = 62 then 0 else -1)
  else if x = 5 then (if spB b then 5 else if b = 62 then 0 else if b = 117 then 9 else if ltB b then 7 else -1)
  else if x = 7 then (if wdB b then 7 else if b = 61 then 11 else if spB b then 5 else if b = 62 then 0 else -1)
  else if x = 9 then (if wdB b then 7 else if b = 61 then 13 else if spB b then 5 else if b = 62 then 0 else -1)
  else if x = 11 then (if b = 34 then 15 else -1)
  else if x = 13 then (if b = 34 then 17 else -1)
  else if x = 15 then (if b = 34 then 5 else 15)
  else if x = 17 then (if b = 34 then 5 else 17)
  else -1
def up (y : Int) : Int := if y = 0 then 19 else if y = -1 then -1 else y + 1
def ws (y : Int) : Int := if y = 0 then 19 else if y = 5 then 6 else if y = 7 then 8 else if y = 9 then 10 else if y = 11 then 12 else if y = 13 then 14 else if y = 15 then 16 else if y = 17 then 18 else y
def wo (y : Int) : Int := if y = 6 then 5 else if y = 8 then 7 else if y = 10 then 9 else if y = 12 then 11 else if y = 14 then 13 else if y = 16 then 15 else if y = 18 then 17 else y
def ba (b q : Int) : Int := if wdB b then 7 else if b = 61 then q else bw b
def be (b q : Int) : Int := if b = 34 then q else -1
def cd (c b : Int) : Int :=
  if c = 19 then (if b = 39 then 21 else if b = 60 then 20 else 19)
  else if c = 20 then (if b = 47 then 2 else if b = 39 then 21 else if b = 60 then 20 else 19)
  else if c = 21 then (if b = 39 then 19 else if b = 92 then 22 else if b = 60 then 23 else if b = 10 then -1 else 21)
  else if c = 22 then (if b = 60 then 23 else if b = 10 then -1 else 21)
  else if c = 23 then (if b = 47 then 2 else if b = 39 then 19 else if b = 92 then 22 else if b = 60 then 23 else if b = 10 then -1 else 21)
  else -1
/-- what a byte makes of a context, by the document's table -/
def stp (c b : Int) : Int :=
  if c = 0 then (if b = 60 then 1 else 0)
  else if c = 1 then (if b = 115 then 4 else if ltB b then 3 else if b = 47 then 2 else if b = 60 then 1 else 0)
  else if c = 2 then (if b = 62 then 0 else 2)
  else if c = 4 then (if wdB b then 3 else up (tg 3 b))
  else if c = 3 ∨ c = 5 ∨ c = 7 ∨ c = 9 ∨ c = 11 ∨ c = 13 ∨ c = 15 ∨ c = 17 then tg c b
  else if c = 6 ∨ c = 8 ∨ c = 10 ∨ c = 12 ∨ c = 14 ∨ c = 16 ∨ c = 18 then up (tg (c - 1) b)
  else cd c b
theorem stp_lost (b : Int) : stp (-1) b = -1 := by simp [stp, cd]
theorem up_range (y : Int) (h : -1 ≤ y ∧ y ≤ 17) : -1 ≤ up y ∧ up y ≤ 23 := by unfold up; repeat' split <;> omega
theorem tg_range (x b : Int) : -1 ≤ tg x b ∧ tg x b ≤ 17 := by unfold tg; repeat' split <;> omega
theorem cd_range (x b : Int) : -1 ≤ cd x b ∧ cd x b ≤ 23 := by unfold cd; repeat' split <;> omega
theorem stp_range (c b : Int) : -1 ≤ stp c b ∧ stp c b ≤ 23 := by
  have h1 := tg_range c b
  have h2 := up_range _ (tg_range (c - 1) b)
  have h3 := up_range _ (tg_range 3 b)
  have h4 := cd_range c b
  unfold stp
  repeat' split <;> omega
/-- behind a list of bytes; what is lost stays lost -/
def scl (c : Int) : List UInt8 → Int
  | [] => c
  | b :: r => scl (stp c b.toNat) r
theorem scl_append (c : Int) (a b : List UInt8) : scl c (a ++ b) = scl (scl c a) b := by
  induction a generalizing c with
  | nil => rfl
  | cons x r ih => simp [scl, ih]
theorem scl_lost (l : List UInt8) : scl (-1) l = -1 := by
  induction l with
  | nil => rfl
  | cons x r ih => simp [scl, stp_lost, ih]
theorem scl_range (c : Int) (l : List UInt8) (h : -1 ≤ c ∧ c ≤ 23) : -1 ≤ scl c l ∧ scl c l ≤ 23 := by
  induction l generalizing c with
  | nil => exact h
  | cons x r ih => exact ih _ (stp_range _ _)
def scn (c : Int) (l : List UInt8) : Int := if c < 0 ∨ 24 ≤ c then -1 else scl c l
theorem scn_range (c : Int) (l : List UInt8) : -1 ≤ scn c l ∧ scn c l ≤ 23 := by
  unfold scn
  split
  · omega
  · exact scl_range _ _ (by omega)
theorem stp_name (b : Int) : tg 3 b = stp 3 b := by grind (splits := 40) [stp]
theorem stp_nameS (b : Int) : ws (tg 3 b) = stp 4 b := by grind (splits := 40) [stp, ws, up, tg, spB]
theorem stp_code (c b : Int) (h : c = 19 ∨ c = 20 ∨ c = 21 ∨ c = 22 ∨ c = 23) : cd c b = stp c b := by grind (splits := 40) [stp]
theorem wo_ne (c : Int) (h : c ≠ 3) : wo c ≠ 3 := by grind (splits := 40) [wo]
theorem stp_plain (c b : Int) (h : 5 ≤ c ∧ c ≤ 18) (e : wo c = c) : tg (wo c) b = stp c b := by grind (splits := 40) [stp, wo]
theorem tg_vals (x b : Int) : tg x b = -1 ∨ tg x b = 0 ∨ tg x b = 3 ∨ tg x b = 5 ∨ tg x b = 7 ∨ tg x b = 9 ∨ tg x b = 11 ∨ tg x b = 13 ∨ tg x b = 15 ∨ tg x b = 17 := by
  grind (splits := 40) [tg]
theorem tg_3 (x b : Int) (h : x ≠ 3) : tg x b ≠ 3 := by unfold tg; repeat' split <;> omega
theorem ws_up (y : Int) (h : y = -1 ∨ y = 0 ∨ y = 5 ∨ y = 7 ∨ y = 9 ∨ y = 11 ∨ y = 13 ∨ y = 15 ∨ y = 17) : ws y = up y := by
  rcases h with rfl | rfl | rfl | rfl | rfl | rfl | rfl | rfl | rfl <;> rfl
theorem wo_S (c : Int) (h : 5 ≤ c ∧ c ≤ 18) (e : wo c ≠ c) : (c = 6 ∨ c = 8 ∨ c = 10 ∨ c = 12 ∨ c = 14 ∨ c = 16 ∨ c = 18) ∧ wo c = c - 1 := by grind (splits := 40) [wo]
theorem stp_S (c b : Int) (h : 5 ≤ c ∧ c ≤ 18) (e : wo c ≠ c) : ws (tg (wo c) b) = stp c b := by
  obtain ⟨h1, h2⟩ := wo_S c h e
  have h3 := tg_vals (wo c) b
  have h4 := tg_3 (wo c) b (wo_ne c (by omega))
  rw [ws_up _ (by omega), h2]
  rcases h1 with rfl | rfl | rfl | rfl | rfl | rfl | rfl <;> simp [stp]
end Go.Proofs.YtffkejkgkgfnhabGreat
namespace Go.Proofs.YtffkejkgkgfnhabGreat
open Go.RowKit
set_option linter.unusedVariables false
theorem ret_int {k : IntKind} {a b : Int} (h : a = b) : Ending.returned (.int k a) = .returned (.int k b) := by rw [h]
theorem ret_bool {a b : Bool} (h : a = b) : Ending.returned (.bool a) = .returned (.bool b) := by rw [h]
set_option maxHeartbeats 400000 in
theorem c73 (b : Int) (w : World) (h0 : 0 ≤ b) (h1 : b ≤ 255) :
    Calls Tryz.prog 82 #[.int .u8 b] w fun e w' => e = .returned (.bool (ltB b)) ∧ w' = w := by
  go_enter Tryz.func82, Tryz.ntmps82
  go_wp2
  all_goals go_ret
  all_goals refine ⟨ret_bool ?_, rfl⟩
  all_goals grind (splits := 40) [ltB]
set_option maxHeartbeats 400000 in
theorem c74 (b : Int) (w : World) (h0 : 0 ≤ b) (h1 : b ≤ 255) :
    Calls Tryz.prog 83 #[.int .u8 b] w fun e w' => e = .returned (.bool (wdB b)) ∧ w' = w := by
  go_enter Tryz.func83, Tryz.ntmps83
  go_wp2_with (first | (go_at_call 82; refine (c73 _ _ (by omega) (by omega)).mono ?_; rintro e w' ⟨rfl, rfl⟩))
  all_goals go_ret
  all_goals refine ⟨ret_bool ?_, rfl⟩
  all_goals grind (splits := 40) [wdB, dgB]
set_option maxHeartbeats 400000 in
theorem c89 (b : Int) (w : World) (h0 : 0 ≤ b) (h1 : b ≤ 255) :
    Calls Tryz.prog 107 #[.int .u8 b] w fun e w' => e = .returned (.bool (spB b)) ∧ w' = w := by
  go_enter Tryz.func107, Tryz.ntmps107
  go_wp2
  all_goals go_ret
  all_goals refine ⟨ret_bool ?_, rfl⟩
  all_goals grind (splits := 40) [spB]
set_option maxHeartbeats 400000 in
theorem c75 (b : Int) (w : World) (h0 : 0 ≤ b) (h1 : b ≤ 255) :
    Calls Tryz.prog 84 #[.int .u8 b] w fun e w' => e = .returned (.int .i64 (bw b)) ∧ w' = w := by
  go_enter Tryz.func84, Tryz.ntmps84
  go_wp2_with (first | (go_at_call 107; refine (c89 _ _ (by omega) (by omega)).mono ?_; rintro e w' ⟨rfl, rfl⟩))
  all_goals go_ret
  all_goals refine ⟨ret_int ?_, rfl⟩
  all_goals grind (splits := 40) [bw]
set_option maxHeartbeats 400000 in
theorem c43 (b : Int) (w : World) (h0 : 0 ≤ b) (h1 : b ≤ 255) :
    Calls Tryz.prog 55 #[.int .u8 b] w fun e w' => e = .returned (.int .i64 (stp 0 b)) ∧ w' = w := by
  go_enter Tryz.func55, Tryz.ntmps55
  go_wp2
  all_goals go_ret
  all_goals refine ⟨ret_int ?_, rfl⟩
  all_goals grind (splits := 40) [stp]
set_option maxHeartbeats 400000 in
theorem c44 (b : Int) (w : World) (h0 : 0 ≤ b) (h1 : b ≤ 255) :
    Calls Tryz.prog 56 #[.int .u8 b] w fun e w' => e = .returned (.int .i64 (stp 1 b)) ∧ w' = w := by
  go_enter Tryz.func56, Tryz.ntmps56
  go_wp2_with (first | (go_at_call 82; refine (c73 _ _ (by omega) (by omega)).mono ?_; rintro e w' ⟨rfl, rfl⟩))
  all_goals go_ret
  all_goals refine ⟨ret_int ?_, rfl⟩
  all_goals grind (splits := 40) [stp, ltB]
set_option maxHeartbeats 400000 in
theorem c45 (b : Int) (w : World) (h0 : 0 ≤ b) (h1 : b ≤ 255) :
    Calls Tryz.prog 57 #[.int .u8 b] w fun e w' => e = .returned (.int .i64 (stp 2 b)) ∧ w' = w := by
  go_enter Tryz.func57, Tryz.ntmps57
  go_wp2
  all_goals go_ret
  all_goals refine ⟨ret_int ?_, rfl⟩
  all_goals grind (splits := 40) [stp]
set_option maxHeartbeats 400000 in
theorem c46 (b : Int) (w : World) (h0 : 0 ≤ b) (h1 : b ≤ 255) :
    Calls Tryz.prog 58 #[.int .u8 b] w fun e w' => e = .returned (.int .i64 (tg 3 b)) ∧ w' = w := by
  go_enter Tryz.func58, Tryz.ntmps58
  go_wp2_with (first | (go_at_call 83; refine (c74 _ _ (by omega) (by omega)).mono ?_; rintro e w' ⟨rfl, rfl⟩) | (go_at_call 84; refine (c75 _ _ (by omega) (by omega)).mono ?_; rintro e w' ⟨rfl, rfl⟩))
  all_goals go_ret
  all_goals refine ⟨ret_int ?_, rfl⟩
  all_goals grind (splits := 40) [tg, bw]
set_option maxHeartbeats 400000 in
theorem c47 (y : Int) (w : World)  :
    Calls Tryz.prog 59 #[.int .i64 y] w fun e w' => e = .returned (.int .i64 (ws y)) ∧ w' = w := by
  go_enter Tryz.func59, Tryz.ntmps59
  go_wp2
  all_goals go_ret
  all_goals refine ⟨ret_int ?_, rfl⟩
  all_goals grind (splits := 40) [ws]
set_option maxHeartbeats 400000 in
theorem c50 (y : Int) (w : World)  :
    Calls Tryz.prog 62 #[.int .i64 y] w fun e w' => e = .returned (.int .i64 (wo y)) ∧ w' = w := by
  go_enter Tryz.func62, Tryz.ntmps62
  go_wp2
  all_goals go_ret
  all_goals refine ⟨ret_int ?_, rfl⟩
  all_goals grind (splits := 40) [wo]
set_option maxHeartbeats 400000 in
theorem c48 (c b : Int) (w : World) (h0 : 0 ≤ b) (h1 : b ≤ 255) (hc : c = 19 ∨ c = 20) :
    Calls Tryz.prog 60 #[.int .i64 c, .int .u8 b] w fun e w' => e = .returned (.int .i64 (cd c b)) ∧ w' = w := by
  go_enter Tryz.func60, Tryz.ntmps60
  go_wp2
  all_goals go_ret
  all_goals refine ⟨ret_int ?_, rfl⟩
  all_goals grind (splits := 40) [cd]
set_option maxHeartbeats 400000 in
theorem c49 (c b : Int) (w : World) (h0 : 0 ≤ b) (h1 : b ≤ 255) (hc : c = 21 ∨ c = 22 ∨ c = 23) :
    Calls Tryz.prog 61 #[.int .i64 c, .int .u8 b] w fun e w' => e = .returned (.int .i64 (cd c b)) ∧ w' = w := by
  go_enter Tryz.func61, Tryz.ntmps61
  go_wp2
  all_goals go_ret
  all_goals refine ⟨ret_int ?_, rfl⟩
  all_goals grind (splits := 40) [cd]
set_option maxHeartbeats 400000 in
theorem c76 (b : Int) (w : World) (h0 : 0 ≤ b) (h1 : b ≤ 255) :
    Calls Tryz.prog 85 #[.int .u8 b] w fun e w' => e = .returned (.int .i64 (tg 5 b)) ∧ w' = w := by
  go_enter Tryz.func85, Tryz.ntmps85
  go_wp2_with (first | (go_at_call 82; refine (c73 _ _ (by omega) (by omega)).mono ?_; rintro e w' ⟨rfl, rfl⟩) | (go_at_call 84; refine (c75 _ _ (by omega) (by omega)).mono ?_; rintro e w' ⟨rfl, rfl⟩))
  all_goals go_ret
  all_goals refine ⟨ret_int ?_, rfl⟩
  all_goals grind (splits := 40) [tg, bw, spB, ltB]
set_option maxHeartbeats 400000 in
theorem c77 (b q : Int) (w : World) (h0 : 0 ≤ b) (h1 : b ≤ 255) :
    Calls Tryz.prog 86 #[.int .u8 b, .int .i64 q] w fun e w' => e = .returned (.int .i64 (ba b q)) ∧ w' = w := by
  go_enter Tryz.func86, Tryz.ntmps86
  go_wp2_with (first | (go_at_call 83; refine (c74 _ _ (by omega) (by omega)).mono ?_; rintro e w' ⟨rfl, rfl⟩) | (go_at_call 84; refine (c75 _ _ (by omega) (by omega)).mono ?_; rintro e w' ⟨rfl, rfl⟩))
  all_goals go_ret
  all_goals refine ⟨ret_int ?_, rfl⟩
  all_goals grind (splits := 40) [ba]
set_option maxHeartbeats 400000 in
theorem c78 (b q : Int) (w : World) (h0 : 0 ≤ b) (h1 : b ≤ 255) :
    Calls Tryz.prog 87 #[.int .u8 b, .int .i64 q] w fun e w' => e = .returned (.int .i64 (be b q)) ∧ w' = w := by
  go_enter Tryz.func87, Tryz.ntmps87
  go_wp2
  all_goals go_ret
  all_goals refine ⟨ret_int ?_, rfl⟩
  all_goals grind (splits := 40) [be]
set_option maxHeartbeats 400000 in
theorem c51 (c b : Int) (w : World) (h0 : 0 ≤ b) (h1 : b ≤ 255) (hc : c ≠ 3) :
    Calls Tryz.prog 63 #[.int .i64 c, .int .u8 b] w fun e w' => e = .returned (.int .i64 (tg c b)) ∧ w' = w := by
  go_enter Tryz.func63, Tryz.ntmps63
  go_wp2_with (first | (go_at_call 85; refine (c76 _ _ (by omega) (by omega)).mono ?_; rintro e w' ⟨rfl, rfl⟩) | (go_at_call 86; refine (c77 _ _ _ (by omega) (by omega)).mono ?_; rintro e w' ⟨rfl, rfl⟩) | (go_at_call 87; refine (c78 _ _ _ (by omega) (by omega)).mono ?_; rintro e w' ⟨rfl, rfl⟩))
  all_goals go_ret
  all_goals refine ⟨ret_int ?_, rfl⟩
  all_goals grind (splits := 40) [tg, ba, be, bw, wdB, ltB, dgB, spB]
set_option maxHeartbeats 1000000 in
theorem c26 (c b : Int) (w : World) (h0 : 0 ≤ b) (h1 : b ≤ 255) (hc0 : 0 ≤ c) (hc1 : c ≤ 23) :
    Calls Tryz.prog 34 #[.int .i64 c, .int .u8 b] w fun e w' => e = .returned (.int .i64 (stp c b)) ∧ w' = w := by
  go_enter Tryz.func34, Tryz.ntmps34
  go_wp2_with (first | (go_at_call 55; refine (c43 _ _ (by omega) (by omega)).mono ?_; rintro e w' ⟨rfl, rfl⟩) | (go_at_call 56; refine (c44 _ _ (by omega) (by omega)).mono ?_; rintro e w' ⟨rfl, rfl⟩) | (go_at_call 57; refine (c45 _ _ (by omega) (by omega)).mono ?_; rintro e w' ⟨rfl, rfl⟩) | (go_at_call 58; refine (c46 _ _ (by omega) (by omega)).mono ?_; rintro e w' ⟨rfl, rfl⟩) | (go_at_call 59; refine (c47 _ _).mono ?_; rintro e w' ⟨rfl, rfl⟩) | (go_at_call 62; refine (c50 _ _).mono ?_; rintro e w' ⟨rfl, rfl⟩) | (go_at_call 60; refine (c48 _ _ _ (by omega) (by omega) (by grind)).mono ?_; rintro e w' ⟨rfl, rfl⟩) | (go_at_call 61; refine (c49 _ _ _ (by omega) (by omega) (by grind)).mono ?_; rintro e w' ⟨rfl, rfl⟩) | (go_at_call 63; refine (c51 _ _ _ (by omega) (by omega) (wo_ne _ (by grind))).mono ?_; rintro e w' ⟨rfl, rfl⟩))
  all_goals go_ret
  all_goals refine ⟨ret_int ?_, rfl⟩
  all_goals grind (splits := 40) [stp_name, stp_nameS, stp_code, stp_plain, stp_S]
end Go.Proofs.YtffkejkgkgfnhabGreat
namespace Go.Proofs.YtffkejkgkgfnhabGreat
open Go.RowKit
set_option linter.unusedVariables false
theorem hide {p : Prop} (h : p) : Hid p := h
theorem byte_le (u : UInt8) : (u.toNat : Int) ≤ 255 := by have := UInt8.toNat_lt u; omega
theorem byte_ge (u : UInt8) : (0 : Int) ≤ (u.toNat : Int) := by omega
theorem take_snoc (s : ByteArray) (k : Nat) (h : k < s.size) : s.data.toList.take (k + 1) = s.data.toList.take k ++ [s[k]] := by
  rw [List.take_succ_eq_append_getElem (by simpa using h)]; rfl
theorem scl_snoc (c : Int) (s : ByteArray) (k : Nat) (h : k < s.size) : scl c (s.data.toList.take (k + 1)) = stp (scl c (s.data.toList.take k)) s[k].toNat := by
  rw [take_snoc s k h, scl_append]; rfl
theorem scl_cut (c : Int) (l : List UInt8) (k : Nat) (h : scl c (l.take k) = -1) : scl c l = -1 := by
  rw [← List.take_append_drop k l, scl_append, h, scl_lost]
theorem scn_in (c : Int) (l : List UInt8) (h0 : 0 ≤ c) (h1 : c ≤ 23) : scn c l = scl c l := by unfold scn; rw [if_neg (by omega)]
theorem scn_out (c : Int) (l : List UInt8) (h : c < 0 ∨ 24 ≤ c) : scn c l = -1 := by unfold scn; rw [if_pos h]
set_option maxHeartbeats 1000000 in
theorem c16 (c : Int) (s : ByteArray) (w : World) (hs : s.size ≤ maxLen) :
    Calls Tryz.prog 17 #[.int .i64 c, .string s] w fun e w' => e = .returned (.int .i64 (scn c s.data.toList)) ∧ w' = w := by
  unfold maxLen at hs
  by_cases hc : c < 0 ∨ 24 ≤ c
  · rw [scn_out _ _ hc]
    go_enter Tryz.func17, Tryz.ntmps17
    go_wp2
    all_goals (go_ret; exact ⟨rfl, rfl⟩)
  · have hc0 : 0 ≤ c := by omega
    have hc1 : c ≤ 23 := by omega
    clear hc
    rw [scn_in _ _ hc0 hc1]
    go_enter Tryz.func17, Tryz.ntmps17
    go_wp2
    go_loop [0, 5] (fun x i => ∃ k : Nat, k ≤ s.size ∧ i = .int .i64 k ∧ x = .int .i64 (scl c (s.data.toList.take k))) (fun _ i => s.size - (intOf i).toNat)
    case atStart => exact ⟨0, Nat.zero_le _, rfl, rfl⟩
    case round =>
      obtain ⟨k, hk, rfl, rfl⟩ := hrel
      have hr := scl_range c (s.data.toList.take k) ⟨by omega, by omega⟩
      have Hcut := hide (scl_cut c s.data.toList k)
      have Hsn := hide (scl_snoc c s k)
      have Hall : Hid (k = s.size → scl c (s.data.toList.take k) = scl c s.data.toList) := by
        intro e; rw [List.take_of_length_le (by simp [e])]
      generalize hx : scl c (s.data.toList.take k) = x at *
      have Hx := hide hx
      clear hx
      by_cases hlt : k < s.size
      · by_cases hne : x = -1
        · have hq : (x != -1) = false := by simp [hne]
          go_wp2
          go_ret
          exact ⟨ret_int (Hcut.out hne).symm, rfl⟩
        · have hx0 : 0 ≤ x := by omega
          have hx1 : x ≤ 23 := by omega
          have hq : (x != -1) = true := by simp [hne]
          clear hne hr
          go_wp2_with (go_at_call 34; refine (c26 _ _ _ (byte_ge _) (byte_le _) (by omega) (by omega)).mono ?_; rintro e w' ⟨rfl, rfl⟩)
          go_round
          case rel => exact ⟨k + 1, by omega, by go_num, by rw [Hsn.out hlt]⟩
          case measure => simp [intOf]; omega
      · go_wp2
        go_ret
        exact ⟨ret_int (Hall.out (by omega)), rfl⟩
set_option maxHeartbeats 400000 in
theorem c10 (c : Int) (s : ByteArray) (w : World) (hs : s.size ≤ maxLen) :
    Calls Tryz.prog 9 #[.int .i64 c, .string s] w fun e w' => e = .returned (.int .i64 (scn c s.data.toList)) ∧ w' = w := by
  go_enter Tryz.func9, Tryz.ntmps9
  go_wp2_with (go_at_call 17; refine (c16 _ _ _ hs).mono ?_; rintro e w' ⟨rfl, rfl⟩)
  go_ret
  exact ⟨rfl, rfl⟩
end Go.Proofs.YtffkejkgkgfnhabGreat
/-
  THE PLAIN MATHEMATICS OF WALKS: what walks come to, by sets of contexts. No Go.
-/
namespace Go.Proofs.YtffkejkgkgfnhabGreat
set_option linter.unusedVariables false
abbrev Cs := Nat → Prop
abbrev En := Nat → Nat → Nat → Prop
/-- what a walk comes to: something wrong, a hole in a context, a call in a context -/
inductive Ev where
  | bad
  | use (a x : Nat)
  | call (t x : Nat)
def opS (x : Nat) : Bool := decide (x = 0 ∨ x = 15 ∨ x = 16 ∨ x = 17 ∨ x = 18 ∨ x = 19 ∨ x = 21)
def two (S : Cs) : Prop := ∃ x y, S x ∧ S y ∧ x ≠ y
def lfp (f : Cs → Cs) (S : Cs) : Cs := fun y => ∀ X : Cs, (∀ z, S z → X z) → (∀ z, f X z → X z) → X y
def tno (ts : List Tm) (nm : ByteArray) : Nat := (fndF nm ts 0).toNat
def bod (ts : List Tm) (t : Nat) : Nds := match ts[t]? with
  | some m => m.body
  | none => .nil
/-- behind a piece, but for its bodies -/
def psem (ts : List Tm) (E : En) (k : Int) (nm : ByteArray) (ft fe : Cs → Cs) (tw : Bool) (S : Cs) : Cs :=
  if k = 1 then fun y => ∃ x, S x ∧ scn x nm.data.toList = (y : Int)
  else if k = 2 then S
  else if k = 3 then fun y => ft S y ∨ (if tw = true then fe S y else S y)
  else if k = 4 then lfp ft S
  else fun y => ∃ x, S x ∧ E (tno ts nm) x y
def sem (ts : List Tm) (E : En) : Nds → Cs → Cs
  | .nil, S => S
  | .cons k a nm th el tw r, S => sem ts E r (psem ts E k nm (sem ts E th) (sem ts E el) tw S)
def pevt (ts : List Tm) (E : En) (k a : Int) (nm : ByteArray) (ft : Cs → Cs) (gt ge : Cs → Ev → Prop) (tw : Bool) (S : Cs) (e : Ev) : Prop :=
  if k = 1 then e = .bad ∧ ∃ x, S x ∧ scn x nm.data.toList = -1
  else if k = 2 then ∃ x, S x ∧ (if opS x = true then e = .use a.toNat x else e = .bad)
  else if k = 3 then gt S e ∨ (tw = true ∧ ge S e)
  else if k = 4 then gt (lfp ft S) e
  else ∃ x, S x ∧ e = .call (tno ts nm) x
def evt (ts : List Tm) (E : En) : Nds → Cs → Ev → Prop
  | .nil, S, e => e = .bad ∧ two S
  | .cons k a nm th el tw r, S, e => (e = .bad ∧ two S) ∨ pevt ts E k a nm (sem ts E th) (evt ts E th) (evt ts E el) tw S e ∨ evt ts E r (psem ts E k nm (sem ts E th) (sem ts E el) tw S) e
theorem lfp_in (f : Cs → Cs) (S : Cs) (y : Nat) (h : S y) : lfp f S y := fun X h1 _ => h1 y h
theorem lfp_mono {f g : Cs → Cs} {S T : Cs} (hf : ∀ X z, f X z → g X z) (h : ∀ z, S z → T z) (y : Nat) (k : lfp f S y) : lfp g T y :=
  fun X h1 h2 => k X (fun z hz => h1 z (h z hz)) (fun z hz => h2 z (hf X z hz))
theorem lfp_le (f : Cs → Cs) (S X : Cs) (h1 : ∀ z, S z → X z) (h2 : ∀ z, f X z → X z) (y : Nat) (h : lfp f S y) : X y := h X h1 h2
theorem lfp_step (f : Cs → Cs) (S : Cs) (hm : ∀ X Y : Cs, (∀ z, X z → Y z) → ∀ z, f X z → f Y z) (y : Nat) (h : f (lfp f S) y) : lfp f S y :=
  fun X h1 h2 => h2 y (hm _ _ (fun z hz => hz X h1 h2) y h)
theorem psem_mono {ts : List Tm} {E F : En} {k : Int} {nm : ByteArray} {ft fe gt ge : Cs → Cs} {tw : Bool} {S T : Cs} (hE : ∀ t x y, E t x y → F t x y) (h1 : ∀ X Y : Cs, (∀ z, X z → Y z) → ∀ z, ft X z → gt Y z) (h2 : ∀ X Y : Cs, (∀ z, X z → Y z) → ∀ z, fe X z → ge Y z) (h : ∀ z, S z → T z) (y : Nat)
    (k' : psem ts E k nm ft fe tw S y) : psem ts F k nm gt ge tw T y := by
  unfold psem at *
  split at k'
  · rename_i e; rw [if_pos e]
    obtain ⟨x, a, b⟩ := k'
    exact ⟨x, h x a, b⟩
  · rename_i e1; rw [if_neg e1]
    split at k'
    · rename_i e; rw [if_pos e]; exact h y k'
    · rename_i e2; rw [if_neg e2]
      split at k'
      · rename_i e; rw [if_pos e]
        rcases k' with k' | k'
        · exact .inl (h1 _ _ h y k')
        · right
          split at k'
          · rename_i e; rw [if_pos e]; exact h2 _ _ h y k'
          · rename_i e; rw [if_neg e]; exact h y k'
      · rename_i e3; rw [if_neg e3]
        split at k'
        · rename_i e; rw [if_pos e]
          exact lfp_mono (fun X z => h1 X X (fun _ q => q) z) h y k'
        · rename_i e4; rw [if_neg e4]
          obtain ⟨x, a, b⟩ := k'
          exact ⟨x, h x a, hE _ _ _ b⟩
theorem sem_mono {ts : List Tm} {E F : En} (hE : ∀ t x y, E t x y → F t x y) (b : Nds) : ∀ (S T : Cs), (∀ z, S z → T z) → ∀ y, sem ts E b S y → sem ts F b T y := by
  induction b with
  | nil => intro S T h y k; exact h y k
  | cons k a nm th el tw r iht ihe ih => intro S T h y k; exact ih _ _ (fun z hz => psem_mono hE iht ihe h z hz) y k
theorem pevt_mono {ts : List Tm} {E F : En} {k a : Int} {nm : ByteArray} {ft ft' : Cs → Cs} {gt ge gt' ge' : Cs → Ev → Prop} {tw : Bool} {S T : Cs} {e : Ev} (h0 : ∀ X Y : Cs, (∀ z, X z → Y z) → ∀ z, ft X z → ft' Y z) (h1 : ∀ X Y : Cs, (∀ z, X z → Y z) → gt X e → gt' Y e) (h2 : ∀ X Y : Cs, (∀ z, X z → Y z) → ge X e → ge' Y e) (h : ∀ z, S z → T z)
    (k' : pevt ts E k a nm ft gt ge tw S e) : pevt ts F k a nm ft' gt' ge' tw T e := by
  unfold pevt at *
  split at k'
  · rename_i q; rw [if_pos q]
    obtain ⟨q1, x, a, b⟩ := k'
    exact ⟨q1, x, h x a, b⟩
  · rename_i e1; rw [if_neg e1]
    split at k'
    · rename_i q; rw [if_pos q]
      obtain ⟨x, a, b⟩ := k'
      exact ⟨x, h x a, b⟩
    · rename_i e2; rw [if_neg e2]
      split at k'
      · rename_i q; rw [if_pos q]
        rcases k' with k' | ⟨q1, k'⟩
        · exact .inl (h1 _ _ h k')
        · exact .inr ⟨q1, h2 _ _ h k'⟩
      · rename_i e3; rw [if_neg e3]
        split at k'
        · rename_i q; rw [if_pos q]
          exact h1 _ _ (fun z hz => lfp_mono (fun X z => h0 X X (fun _ q => q) z) h z hz) k'
        · rename_i e4; rw [if_neg e4]
          obtain ⟨x, a, b⟩ := k'
          exact ⟨x, h x a, b⟩
theorem two_mono {S T : Cs} (h : ∀ z, S z → T z) (k : two S) : two T := by
  obtain ⟨x, y, a, b, c⟩ := k
  exact ⟨x, y, h x a, h y b, c⟩
theorem evt_mono {ts : List Tm} {E F : En} (hE : ∀ t x y, E t x y → F t x y) (e : Ev) (b : Nds) : ∀ (S T : Cs), (∀ z, S z → T z) → evt ts E b S e → evt ts F b T e := by
  induction b with
  | nil => intro S T h k; exact ⟨k.1, two_mono h k.2⟩
  | cons k a nm th el tw r iht ihe ih =>
    intro S T h k
    rcases k with ⟨k1, k2⟩ | k | k
    · exact .inl ⟨k1, two_mono h k2⟩
    · exact .inr (.inl (pevt_mono (sem_mono hE th) iht ihe h k))
    · exact .inr (.inr (ih _ _ (fun z hz => psem_mono hE (sem_mono hE th) (sem_mono hE el) h z hz) k))
def one (x : Nat) : Cs := fun y => y = x
structure Closed (ts : List Tm) (t0 : Nat) (B : Nat → Nat → Prop) (E : En) : Prop where
  start : B t0 0
  ends : ∀ t x y, B t x → sem ts E (bod ts t) (one x) y → E t x y
  calls : ∀ t x t' x', B t x → evt ts E (bod ts t) (one x) (.call t' x') → B t' x'
def Bs (ts : List Tm) (t0 : Nat) (t x : Nat) : Prop := ∀ B E, Closed ts t0 B E → B t x
def Es (ts : List Tm) (t0 : Nat) : En := fun t x y => ∀ B E, Closed ts t0 B E → E t x y
theorem Es_le {ts : List Tm} {t0 : Nat} {B : Nat → Nat → Prop} {E : En} (h : Closed ts t0 B E) (t x y : Nat) (k : Es ts t0 t x y) : E t x y := k B E h
theorem true_closed (ts : List Tm) (t0 : Nat) : Closed ts t0 (Bs ts t0) (Es ts t0) where
  start := fun B E h => h.start
  ends := fun t x y hb hs B E h => h.ends t x y (hb B E h) (sem_mono (fun t x y k => Es_le h t x y k) _ _ _ (fun _ q => q) y hs)
  calls := fun t x t' x' hb hs B E h => h.calls t x t' x' (hb B E h) (evt_mono (fun t x y k => Es_le h t x y k) _ _ _ _ (fun _ q => q) hs)
/-- what the walks that are meant come to -/
def Evs (ts : List Tm) (t0 : Nat) (e : Ev) : Prop := ∃ t x, Bs ts t0 t x ∧ evt ts (Es ts t0) (bod ts t) (one x) e
def TBad (ts : List Tm) (t0 : Nat) : Prop := Evs ts t0 .bad ∨ ∃ y, y ≠ 0 ∧ Es ts t0 t0 0 y
/-- a closed pair that is sound is the truth -/
theorem truth_of {ts : List Tm} {t0 : Nat} {B : Nat → Nat → Prop} {E : En} (h : Closed ts t0 B E) (hB : ∀ t x, B t x → Bs ts t0 t x) (hE : ∀ t x y, B t x → E t x y → Es ts t0 t x y) (e : Ev) (he : Evs ts t0 e) : ∃ t x, B t x ∧ evt ts E (bod ts t) (one x) e := by
  obtain ⟨t, x, h1, h2⟩ := he
  exact ⟨t, x, h1 B E h, evt_mono (fun t x y k => Es_le h t x y k) _ _ _ _ (fun _ q => q) h2⟩
theorem sem_none (ts : List Tm) (E : En) (b : Nds) : ∀ (S : Cs), (∀ z, ¬ S z) → ∀ y, ¬ sem ts E b S y := by
  induction b with
  | nil => intro S h y k; exact h y k
  | cons k a nm th el tw r iht ihe ih =>
    intro S h y q
    refine ih _ (fun z hz => ?_) y q
    unfold psem at hz
    split at hz
    · obtain ⟨x, a, _⟩ := hz; exact h x a
    · split at hz
      · exact h z hz
      · split at hz
        · rcases hz with hz | hz
          · exact iht S h z hz
          · split at hz
            · exact ihe S h z hz
            · exact h z hz
        · split at hz
          · exact h z (hz S (fun _ q => q) (fun w hw => absurd hw (iht S h w)))
          · obtain ⟨x, a, _⟩ := hz; exact h x a
end Go.Proofs.YtffkejkgkgfnhabGreat
