import Derived.Test.YtponicaflcbbeaaGreatEscape
import Derived.Test.YtponicaflcbbeaaGreatRefctx
namespace Go.Proofs.YtponicaflcbbeaaGreat
open Go.RowKit
set_option linter.unusedVariables false
theorem cv2d (w : World) (x y : Int) : Sem.run Tryz.prog (convert 76 9 (.slice (some ⟨w.heap.size, 0, none⟩) 2 2)) (w.alloc (.cells #[.int .u8 x, .int .u8 y] 5)).drew = .ok (.string (strOfNums [x, y])) (w.alloc (.cells #[.int .u8 x, .int .u8 y] 5)).drew := cv2 w.drew x y
set_option maxRecDepth 100000 in
set_option maxHeartbeats 400000 in
theorem c69 (b t : Int) (D : ByteArray) (w : World) (h0 : 0 ≤ b) (h1 : b ≤ 255) (hD : D.size = 16) (hdig : ∀ (n : Nat) (h : n < D.size), ((D[n]'h).toNat : Int) = hx t n) :
    Calls Tryz.prog 47 #[.int .u8 b, .string D] w fun e w' => e = .returned (.string (strOfNums [hx t (b / 16), hx t (b % 16)])) ∧ Below w.heap.size w w' := by
  have k2 := cv2d
  have q0 : 0 ≤ b / 16 := by omega
  have q1 : b / 16 < (D.size : Int) := by omega
  have q2 : 0 ≤ b % 16 := by omega
  have q3 : b % 16 < (D.size : Int) := by omega
  have p1 : (b / 16).toNat < D.size := by omega
  have p2 : (b % 16).toNat < D.size := by omega
  have e1 := hdig (b / 16).toNat p1
  have e2 := hdig (b % 16).toNat p2
  rw [Int.toNat_of_nonneg q0] at e1
  rw [Int.toNat_of_nonneg q2] at e2
  rw [← e1, ← e2]
  clear hdig e1 e2 hD
  go_enter Tryz.func47, Tryz.ntmps47
  go_wp2
  go_region
  go_wp2
  go_ret
  exact ⟨rfl, ((Below.refl _ _).alloc (Nat.le_refl _) _).drew⟩
set_option maxRecDepth 100000 in
set_option maxHeartbeats 400000 in
theorem c68f (b : Int) (w : World) (h0 : 0 ≤ b) (h1 : b ≤ 255) :
    Calls Tryz.prog 46 #[.int .u8 b, .bool false] w fun e w' => e = .returned (.string (strOfNums (pT b))) ∧ Below w.heap.size w w' := by
  have k1 := cv1
  go_enter Tryz.func46, Tryz.ntmps46
  go_wp2
  all_goals go_ret
  all_goals refine ⟨fin_str ?_, ?_⟩
  all_goals first | exact Below.refl _ _ | exact (Below.refl _ _).alloc (Nat.le_refl _) _ | skip
  all_goals (unfold pT; (repeat' split) <;> first | rfl | (subst_vars; rfl) | (exfalso; grind (splits := 40)))
set_option maxRecDepth 100000 in
set_option maxHeartbeats 400000 in
theorem c68t (b : Int) (w : World) (h0 : 0 ≤ b) (h1 : b ≤ 255) :
    Calls Tryz.prog 46 #[.int .u8 b, .bool true] w fun e w' => e = .returned (.string (strOfNums (pV b))) ∧ Below w.heap.size w w' := by
  have k1 := cv1
  go_enter Tryz.func46, Tryz.ntmps46
  go_wp2
  all_goals go_ret
  all_goals refine ⟨fin_str ?_, ?_⟩
  all_goals first | exact Below.refl _ _ | exact (Below.refl _ _).alloc (Nat.le_refl _) _ | skip
  all_goals (unfold pV pT; (repeat' split) <;> first | rfl | (subst_vars; rfl) | (exfalso; grind (splits := 40)))
set_option maxHeartbeats 400000 in
theorem c33 (c : Int) (w : World) : Calls Tryz.prog 23 #[.int .i64 c] w fun e w' => e = .returned (.bool (opB c)) ∧ w' = w := by
  go_enter Tryz.func23, Tryz.ntmps23
  go_wp2
  all_goals go_ret
  all_goals refine ⟨ret_bool ?_, rfl⟩
  all_goals grind (splits := 40) [opB]
theorem digsA : ∀ (n : Nat) (h : n < (⟨#[48, 49, 50, 51, 52, 53, 54, 55, 56, 57, 65, 66, 67, 68, 69, 70]⟩ : ByteArray).size), (((⟨#[48, 49, 50, 51, 52, 53, 54, 55, 56, 57, 65, 66, 67, 68, 69, 70]⟩ : ByteArray)[n]'h).toNat : Int) = hx 65 n := by
  decide +kernel
theorem digsa : ∀ (n : Nat) (h : n < (⟨#[48, 49, 50, 51, 52, 53, 54, 55, 56, 57, 97, 98, 99, 100, 101, 102]⟩ : ByteArray).size), (((⟨#[48, 49, 50, 51, 52, 53, 54, 55, 56, 57, 97, 98, 99, 100, 101, 102]⟩ : ByteArray)[n]'h).toNat : Int) = hx 97 n := by
  decide +kernel
theorem nums_append (a b : List Int) : strOfNums a ++ strOfNums b = strOfNums (a ++ b) := by
  apply ByteArray.ext
  simp [strOfNums]
theorem lit37 : (⟨#[37]⟩ : ByteArray) = strOfNums [37] := by decide
theorem lit92 : (⟨#[92, 120]⟩ : ByteArray) = strOfNums [92, 120] := by decide
theorem lit39 : (⟨#[39]⟩ : ByteArray) = strOfNums [39] := by decide
theorem lit0 : (⟨#[]⟩ : ByteArray) = strOfNums [] := by decide
set_option maxRecDepth 100000 in
set_option maxHeartbeats 2000000 in
theorem c34text (b : Int) (w : World) (h0 : 0 ≤ b) (h1 : b ≤ 255) (c : Int) (hc : c = 0 ∨ c = 15 ∨ c = 16) :
    Calls Tryz.prog 24 #[.int .i64 c, .int .u8 b] w fun e w' => e = .returned (.string (strOfNums (pc c b))) ∧ Below w.heap.size w w' := by
  have k1 := cv1
  rcases hc with rfl | rfl | rfl
  · go_enter Tryz.func24, Tryz.ntmps24
    go_wp2_with (first | (go_at_call 44; refine (c66 _ _ (by omega) (by omega)).mono ?_; rintro e w' ⟨rfl, hw⟩; obtain rfl := hw.symm) | (go_at_call 45; refine (c67 _ _ (by omega) (by omega)).mono ?_; rintro e w' ⟨rfl, hw⟩; obtain rfl := hw.symm) | (go_at_call 46; refine (c68f _ _ (by omega) (by omega)).mono ?_; rintro e w' ⟨rfl, hb⟩))
    go_ret
    exact ⟨rfl, ((Below.refl _ _).alloc (Nat.le_refl _) _).trans (hb.mono (by simp))⟩
  · go_enter Tryz.func24, Tryz.ntmps24
    go_wp2_with (first | (go_at_call 44; refine (c66 _ _ (by omega) (by omega)).mono ?_; rintro e w' ⟨rfl, hw⟩; obtain rfl := hw.symm) | (go_at_call 45; refine (c67 _ _ (by omega) (by omega)).mono ?_; rintro e w' ⟨rfl, hw⟩; obtain rfl := hw.symm) | (go_at_call 46; refine (c68t _ _ (by omega) (by omega)).mono ?_; rintro e w' ⟨rfl, hb⟩))
    go_ret
    exact ⟨rfl, ((Below.refl _ _).alloc (Nat.le_refl _) _).trans (hb.mono (by simp))⟩
  · go_enter Tryz.func24, Tryz.ntmps24
    go_wp2_with (first | (go_at_call 44; refine (c66 _ _ (by omega) (by omega)).mono ?_; rintro e w' ⟨rfl, hw⟩; obtain rfl := hw.symm) | (go_at_call 45; refine (c67 _ _ (by omega) (by omega)).mono ?_; rintro e w' ⟨rfl, hw⟩; obtain rfl := hw.symm) | (go_at_call 46; refine (c68t _ _ (by omega) (by omega)).mono ?_; rintro e w' ⟨rfl, hb⟩))
    go_ret
    exact ⟨rfl, ((Below.refl _ _).alloc (Nat.le_refl _) _).trans (hb.mono (by simp))⟩
set_option maxRecDepth 100000 in
set_option maxHeartbeats 2000000 in
theorem c34link (b : Int) (w : World) (h0 : 0 ≤ b) (h1 : b ≤ 255) (c : Int) (hc : c = 17 ∨ c = 18) :
    Calls Tryz.prog 24 #[.int .i64 c, .int .u8 b] w fun e w' => e = .returned (.string (strOfNums (pc c b))) ∧ Below w.heap.size w w' := by
  have k1 := cv1
  have e : pc c b = pL b := by rcases hc with rfl | rfl <;> simp [pc]
  rw [e]
  clear e
  rcases hc with rfl | rfl
  all_goals
    go_enter Tryz.func24, Tryz.ntmps24
    go_wp2_with (first | (go_at_call 44; refine (c66 _ _ (by omega) (by omega)).mono ?_; rintro e w' ⟨rfl, hw⟩; obtain rfl := hw.symm) | (go_at_call 45; refine (c67 _ _ (by omega) (by omega)).mono ?_; rintro e w' ⟨rfl, hw⟩; obtain rfl := hw.symm) | (go_at_call 47; refine (c69 _ 65 _ _ (by omega) (by omega) (by decide) digsA).mono ?_; rintro e w' ⟨rfl, hb⟩))
    all_goals go_ret
    all_goals refine ⟨?_, ?_⟩
    all_goals first | exact (Below.refl _ _).alloc (Nat.le_refl _) _ | exact ((Below.refl _ _).alloc (Nat.le_refl _) _).trans (hb.mono (by simp)) | skip
    all_goals refine fin_str ?_
    all_goals first | (refine congrArg strOfNums ?_; unfold pL; rw [if_pos (by grind (splits := 40) [sfL, wdB])]; all_goals grind) | (unfold pL; rw [if_neg (by grind (splits := 40) [sfL, wdB]), lit37]; exact nums_append _ _)
set_option maxRecDepth 100000 in
set_option maxHeartbeats 2000000 in
theorem c34quote (b : Int) (w : World) (h0 : 0 ≤ b) (h1 : b ≤ 255) (c : Int) (hc : c = 19 ∨ c = 21) :
    Calls Tryz.prog 24 #[.int .i64 c, .int .u8 b] w fun e w' => e = .returned (.string (strOfNums (pc c b))) ∧ Below w.heap.size w w' := by
  have k1 := cv1
  have e : pc c b = pQ b := by rcases hc with rfl | rfl <;> simp [pc]
  rw [e]
  clear e
  rcases hc with rfl | rfl
  all_goals
    go_enter Tryz.func24, Tryz.ntmps24
    go_wp2_with (first | (go_at_call 44; refine (c66 _ _ (by omega) (by omega)).mono ?_; rintro e w' ⟨rfl, hw⟩; obtain rfl := hw.symm) | (go_at_call 45; refine (c67 _ _ (by omega) (by omega)).mono ?_; rintro e w' ⟨rfl, hw⟩; obtain rfl := hw.symm) | (go_at_call 47; refine (c69 _ 97 _ _ (by omega) (by omega) (by decide) digsa).mono ?_; rintro e w' ⟨rfl, hb⟩))
    all_goals go_ret
    all_goals refine ⟨?_, ?_⟩
    all_goals first | exact (Below.refl _ _).alloc (Nat.le_refl _) _ | exact ((Below.refl _ _).alloc (Nat.le_refl _) _).trans (hb.mono (by simp)) | skip
    all_goals refine fin_str ?_
    all_goals first | (refine congrArg strOfNums ?_; unfold pQ; rw [if_pos (by grind (splits := 40) [sfQ, wdB])]; all_goals grind) | (unfold pQ; rw [if_neg (by grind (splits := 40) [sfQ, wdB]), lit92]; exact nums_append _ _)
theorem c34 (c b : Int) (w : World) (h0 : 0 ≤ b) (h1 : b ≤ 255) (ho : opB c = true) :
    Calls Tryz.prog 24 #[.int .i64 c, .int .u8 b] w fun e w' => e = .returned (.string (strOfNums (pc c b))) ∧ Below w.heap.size w w' := by
  simp only [opB, decide_eq_true_eq] at ho
  by_cases h : c = 0 ∨ c = 15 ∨ c = 16
  · exact c34text b w h0 h1 c h
  · by_cases h' : c = 17 ∨ c = 18
    · exact c34link b w h0 h1 c h'
    · exact c34quote b w h0 h1 c (by omega)
end Go.Proofs.YtponicaflcbbeaaGreat
