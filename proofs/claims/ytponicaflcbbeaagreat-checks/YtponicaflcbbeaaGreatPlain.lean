/-
  THE PLAIN MATHEMATICS OF CONTEXTS: no Go, no program.
-/
import Derived.WalkKit
namespace Go.Proofs.YtponicaflcbbeaaGreat
set_option linter.unusedVariables false
def ltB (b : Int) : Bool := decide ((97 ≤ b ∧ b ≤ 122) ∨ (65 ≤ b ∧ b ≤ 90))
def dgB (b : Int) : Bool := decide (48 ≤ b ∧ b ≤ 57)
def wdB (b : Int) : Bool := ltB b || dgB b
def spB (b : Int) : Bool := decide (b = 32 ∨ b = 10)
/-- behind a word -/
def bw (b : Int) : Int := if spB b then 5 else if b = 62 then 0 else -1
def tg (x b : Int) : Int :=
  if x = 3 then (if wdB b then 3 else if spB b then 5 else if b = 62 then 0 else -1)
  else if x = 5 then (if spB b then 5 else if b = 62 then 0 else if b = 117 then 9 else if ltB b then 7 else -1)
  else if x = 7 then (if wdB b then 7 else if b = 61 then 11 else if spB b then 5 else if b = 62 then 0 else -1)
  else if x = 9 then (if wdB b then 7 else if b = 61 then 13 else if spB b then 5 else if b = 62 then 0 else -1)
  else if x = 11 then (if b = 34 then 15 else -1)
  else if x = 13 then (if b = 34 then 17 else -1)
  else if x = 15 then (if b = 34 then 5 else 15)
  else if x = 17 then (if b = 34 then 5 else 17)
  else -1
def up (y : Int) : Int := if y = 0 then 19 else if y = -1 then -1 else y + 1
def ws (y : Int) : Int := if y = 0 then 19 else if y = 5 then 6 else if y = 7 then 8 else if y = 9 then 10 else if y = 11 then 12 else if y = 13 then 14 else if y = 15 then 16 else if y = 17 then 18 else y
def wo (y : Int) : Int := if y = 6 then 5 else if y = 8 then 7 else if y = 10 then 9 else if y = 12 then 11 else if y = 14 then 13 else if y = 16 then 15 else if y = 18 then 17 else y
def ba (b q : Int) : Int := if wdB b then 7 else if b = 61 then q else bw b
def be (b q : Int) : Int := if b = 34 then q else -1
def cd (c b : Int) : Int :=
  if c = 19 then (if b = 39 then 21 else if b = 60 then 20 else 19)
  else if c = 20 then (if b = 47 then 2 else if b = 39 then 21 else if b = 60 then 20 else 19)
  else if c = 21 then (if b = 39 then 19 else if b = 92 then 22 else if b = 60 then 23 else if b = 10 then -1 else 21)
  else if c = 22 then (if b = 60 then 23 else if b = 10 then -1 else 21)
  else if c = 23 then (if b = 47 then 2 else if b = 39 then 19 else if b = 92 then 22 else if b = 60 then 23 else if b = 10 then -1 else 21)
  else -1
/-- what a byte makes of a context, by the document's table -/
def stp (c b : Int) : Int :=
  if c = 0 then (if b = 60 then 1 else 0)
  else if c = 1 then (if b = 115 then 4 else if ltB b then 3 else if b = 47 then 2 else if b = 60 then 1 else 0)
  else if c = 2 then (if b = 62 then 0 else 2)
  else if c = 4 then (if wdB b then 3 else up (tg 3 b))
  else if c = 3 ∨ c = 5 ∨ c = 7 ∨ c = 9 ∨ c = 11 ∨ c = 13 ∨ c = 15 ∨ c = 17 then tg c b
  else if c = 6 ∨ c = 8 ∨ c = 10 ∨ c = 12 ∨ c = 14 ∨ c = 16 ∨ c = 18 then up (tg (c - 1) b)
  else cd c b
theorem stp_lost (b : Int) : stp (-1) b = -1 := by simp [stp, cd]
theorem up_range (y : Int) (h : -1 ≤ y ∧ y ≤ 17) : -1 ≤ up y ∧ up y ≤ 23 := by unfold up; repeat' split <;> omega
theorem tg_range (x b : Int) : -1 ≤ tg x b ∧ tg x b ≤ 17 := by unfold tg; repeat' split <;> omega
theorem cd_range (x b : Int) : -1 ≤ cd x b ∧ cd x b ≤ 23 := by unfold cd; repeat' split <;> omega
theorem stp_range (c b : Int) : -1 ≤ stp c b ∧ stp c b ≤ 23 := by
  have h1 := tg_range c b
  have h2 := up_range _ (tg_range (c - 1) b)
  have h3 := up_range _ (tg_range 3 b)
  have h4 := cd_range c b
  unfold stp
  repeat' split <;> omega
/-- behind a list of bytes; what is lost stays lost -/
def scl (c : Int) : List UInt8 → Int
  | [] => c
  | b :: r => scl (stp c b.toNat) r
theorem scl_append (c : Int) (a b : List UInt8) : scl c (a ++ b) = scl (scl c a) b := by
  induction a generalizing c with
  | nil => rfl
  | cons x r ih => simp [scl, ih]
theorem scl_lost (l : List UInt8) : scl (-1) l = -1 := by
  induction l with
  | nil => rfl
  | cons x r ih => simp [scl, stp_lost, ih]
theorem scl_range (c : Int) (l : List UInt8) (h : -1 ≤ c ∧ c ≤ 23) : -1 ≤ scl c l ∧ scl c l ≤ 23 := by
  induction l generalizing c with
  | nil => exact h
  | cons x r ih => exact ih _ (stp_range _ _)
def scn (c : Int) (l : List UInt8) : Int := if c < 0 ∨ 24 ≤ c then -1 else scl c l
theorem scn_range (c : Int) (l : List UInt8) : -1 ≤ scn c l ∧ scn c l ≤ 23 := by
  unfold scn
  split
  · omega
  · exact scl_range _ _ (by omega)
theorem stp_name (b : Int) : tg 3 b = stp 3 b := by grind (splits := 40) [stp]
theorem stp_nameS (b : Int) : ws (tg 3 b) = stp 4 b := by grind (splits := 40) [stp, ws, up, tg, spB]
theorem stp_code (c b : Int) (h : c = 19 ∨ c = 20 ∨ c = 21 ∨ c = 22 ∨ c = 23) : cd c b = stp c b := by grind (splits := 40) [stp]
theorem wo_ne (c : Int) (h : c ≠ 3) : wo c ≠ 3 := by grind (splits := 40) [wo]
theorem stp_plain (c b : Int) (h : 5 ≤ c ∧ c ≤ 18) (e : wo c = c) : tg (wo c) b = stp c b := by grind (splits := 40) [stp, wo]
theorem tg_vals (x b : Int) : tg x b = -1 ∨ tg x b = 0 ∨ tg x b = 3 ∨ tg x b = 5 ∨ tg x b = 7 ∨ tg x b = 9 ∨ tg x b = 11 ∨ tg x b = 13 ∨ tg x b = 15 ∨ tg x b = 17 := by
  grind (splits := 40) [tg]
theorem tg_3 (x b : Int) (h : x ≠ 3) : tg x b ≠ 3 := by unfold tg; repeat' split <;> omega
theorem ws_up (y : Int) (h : y = -1 ∨ y = 0 ∨ y = 5 ∨ y = 7 ∨ y = 9 ∨ y = 11 ∨ y = 13 ∨ y = 15 ∨ y = 17) : ws y = up y := by
  rcases h with rfl | rfl | rfl | rfl | rfl | rfl | rfl | rfl | rfl <;> rfl
theorem wo_S (c : Int) (h : 5 ≤ c ∧ c ≤ 18) (e : wo c ≠ c) : (c = 6 ∨ c = 8 ∨ c = 10 ∨ c = 12 ∨ c = 14 ∨ c = 16 ∨ c = 18) ∧ wo c = c - 1 := by grind (splits := 40) [wo]
theorem stp_S (c b : Int) (h : 5 ≤ c ∧ c ≤ 18) (e : wo c ≠ c) : ws (tg (wo c) b) = stp c b := by
  obtain ⟨h1, h2⟩ := wo_S c h e
  have h3 := tg_vals (wo c) b
  have h4 := tg_3 (wo c) b (wo_ne c (by omega))
  rw [ws_up _ (by omega), h2]
  rcases h1 with rfl | rfl | rfl | rfl | rfl | rfl | rfl <;> simp [stp]
end Go.Proofs.YtponicaflcbbeaaGreat
