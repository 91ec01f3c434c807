import Derived.Test.YtponicaflcbbeaaGreatScan
import Derived.Lib.AppendStr
namespace Go.Proofs.YtponicaflcbbeaaGreat
open Go.RowKit
set_option linter.unusedVariables false
/-! ### What is filled in: a byte, as numbers -/
def pT (b : Int) : List Int := if b = 60 then [38, 108, 116, 59] else if b = 62 then [38, 103, 116, 59] else if b = 38 then [38, 97, 109, 112, 59] else [b]
def pV (b : Int) : List Int := if b = 34 then [38, 113, 117, 111, 116, 59] else pT b
def hx (ten n : Int) : Int := if n < 10 then 48 + n else ten + (n - 10)
def sfL (b : Int) : Bool := wdB b || decide (b = 45 ∨ b = 95 ∨ b = 46 ∨ b = 126 ∨ b = 47)
def sfQ (b : Int) : Bool := wdB b || decide (b = 32 ∨ b = 45 ∨ b = 95 ∨ b = 46 ∨ b = 44 ∨ b = 58 ∨ b = 47)
def pL (b : Int) : List Int := if sfL b then [b] else [37, hx 65 (b / 16), hx 65 (b % 16)]
def pQ (b : Int) : List Int := if sfQ b then [b] else [92, 120, hx 97 (b / 16), hx 97 (b % 16)]
def pc (c b : Int) : List Int := if c = 15 ∨ c = 16 then pV b else if c = 17 ∨ c = 18 then pL b else if c = 19 ∨ c = 21 then pQ b else pT b
theorem ret_str {a b : List Int} (h : a = b) : Ending.returned (.string (strOfNums a)) = .returned (.string (strOfNums b)) := by rw [h]
theorem ret_lit {a : ByteArray} {b : List Int} (h : a = strOfNums b) : Ending.returned (.string a) = .returned (.string (strOfNums b)) := by rw [h]
theorem fin_str {a : ByteArray} {l : List Int} (h : a = strOfNums l) : Ending.returned (.string a) = .returned (.string (strOfNums l)) := by rw [h]
theorem cv (w : World) (ns : List Int) (k : Nat) (hk : ns.length = k) : Sem.run Tryz.prog (convert 76 9 (.slice (some ⟨w.heap.size, 0, none⟩) k k)) (w.alloc (.cells (ns.map (Value.int .u8)).toArray 5)) = .ok (.string (strOfNums ns)) (w.alloc (.cells (ns.map (Value.int .u8)).toArray 5)) := by
  refine run_convert_bytes_arg _ 76 5 Tryz.underlying76 Tryz.underlying5 w.heap.size 0 k k ns hk (fun i hi => ?_) 9 Tryz.underlying9
  have : i < ns.length := by omega
  simp [List.getD, this]
theorem cv1 (w : World) (x : Int) : Sem.run Tryz.prog (convert 76 9 (.slice (some ⟨w.heap.size, 0, none⟩) 1 1)) (w.alloc (.cells #[.int .u8 x] 5)) = .ok (.string (strOfNums [x])) (w.alloc (.cells #[.int .u8 x] 5)) := cv w [x] 1 rfl
theorem cv2 (w : World) (x y : Int) : Sem.run Tryz.prog (convert 76 9 (.slice (some ⟨w.heap.size, 0, none⟩) 2 2)) (w.alloc (.cells #[.int .u8 x, .int .u8 y] 5)) = .ok (.string (strOfNums [x, y])) (w.alloc (.cells #[.int .u8 x, .int .u8 y] 5)) := cv w [x, y] 2 rfl
theorem cv3 (w : World) (x y z : Int) : Sem.run Tryz.prog (convert 76 9 (.slice (some ⟨w.heap.size, 0, none⟩) 3 3)) (w.alloc (.cells #[.int .u8 x, .int .u8 y, .int .u8 z] 5)) = .ok (.string (strOfNums [x, y, z])) (w.alloc (.cells #[.int .u8 x, .int .u8 y, .int .u8 z] 5)) := cv w [x, y, z] 3 rfl
theorem cv4 (w : World) (x y z u : Int) : Sem.run Tryz.prog (convert 76 9 (.slice (some ⟨w.heap.size, 0, none⟩) 4 4)) (w.alloc (.cells #[.int .u8 x, .int .u8 y, .int .u8 z, .int .u8 u] 5)) = .ok (.string (strOfNums [x, y, z, u])) (w.alloc (.cells #[.int .u8 x, .int .u8 y, .int .u8 z, .int .u8 u] 5)) := cv w [x, y, z, u] 4 rfl
set_option maxHeartbeats 400000 in
theorem c79 (n t : Int) (w : World) (h0 : 0 ≤ n) (h1 : n ≤ 15) (h2 : 0 ≤ t) (h3 : t ≤ 200) :
    Calls Tryz.prog 89 #[.int .u8 n, .int .u8 t] w fun e w' => e = .returned (.int .u8 (hx t n)) ∧ w' = w := by
  go_enter Tryz.func89, Tryz.ntmps89
  go_wp2
  all_goals go_ret
  all_goals refine ⟨ret_int ?_, rfl⟩
  all_goals grind [hx]
set_option maxRecDepth 100000 in
set_option maxHeartbeats 1000000 in
theorem c55 (b : Int) (w : World) (h0 : 0 ≤ b) (h1 : b ≤ 255) :
    Calls Tryz.prog 70 #[.int .u8 b] w fun e w' => e = .returned (.string (strOfNums (pT b))) ∧ Below w.heap.size w w' := by
  have k1 := cv1
  go_enter Tryz.func70, Tryz.ntmps70
  go_wp2
  all_goals go_ret
  all_goals refine ⟨fin_str ?_, ?_⟩
  all_goals first | exact Below.refl _ _ | exact (Below.refl _ _).alloc (Nat.le_refl _) _ | skip
  all_goals (unfold pT; (repeat' split) <;> first | rfl | (exfalso; grind (splits := 40) [pT]))
set_option maxRecDepth 100000 in
set_option maxHeartbeats 1000000 in
theorem c52 (b : Int) (w : World) (h0 : 0 ≤ b) (h1 : b ≤ 255) :
    Calls Tryz.prog 67 #[.int .u8 b] w fun e w' => e = .returned (.string (strOfNums (pV b))) ∧ Below w.heap.size w w' := by
  by_cases h : b = 34
  · subst h
    go_enter Tryz.func67, Tryz.ntmps67
    go_wp2
    go_ret
    exact ⟨rfl, Below.refl _ _⟩
  · have e : pV b = pT b := by simp [pV, h]
    rw [e]
    clear e
    go_enter Tryz.func67, Tryz.ntmps67
    go_wp2_with (go_at_call 70; refine (c55 _ _ (by omega) (by omega)).mono ?_; rintro e w' ⟨rfl, hb⟩)
    go_ret
    exact ⟨rfl, hb⟩
set_option maxRecDepth 100000 in
set_option maxHeartbeats 1000000 in
theorem c53 (b : Int) (w : World) (h0 : 0 ≤ b) (h1 : b ≤ 255) :
    Calls Tryz.prog 68 #[.int .u8 b] w fun e w' => e = .returned (.string (strOfNums (pL b))) ∧ Below w.heap.size w w' := by
  have k1 := cv1
  have k3 := cv3
  go_enter Tryz.func68, Tryz.ntmps68
  go_wp2_with (first | (go_at_call 84; refine (c74 _ _ (by omega) (by omega)).mono ?_; rintro e w' ⟨rfl, rfl⟩) | (go_at_call 89; refine (c79 _ _ _ (by omega) (by omega) (by omega) (by omega)).mono ?_; rintro e w' ⟨rfl, rfl⟩))
  all_goals go_ret
  all_goals refine ⟨fin_str ?_, ?_⟩
  all_goals first | exact Below.refl _ _ | exact (Below.refl _ _).alloc (Nat.le_refl _) _ | skip
  all_goals (unfold pL; (repeat' split) <;> first | rfl | (exfalso; grind (splits := 40) [sfL]))
set_option maxRecDepth 100000 in
set_option maxHeartbeats 1000000 in
theorem c54 (b : Int) (w : World) (h0 : 0 ≤ b) (h1 : b ≤ 255) :
    Calls Tryz.prog 69 #[.int .u8 b] w fun e w' => e = .returned (.string (strOfNums (pQ b))) ∧ Below w.heap.size w w' := by
  have k1 := cv1
  have k4 := cv4
  go_enter Tryz.func69, Tryz.ntmps69
  go_wp2_with (first | (go_at_call 84; refine (c74 _ _ (by omega) (by omega)).mono ?_; rintro e w' ⟨rfl, rfl⟩) | (go_at_call 89; refine (c79 _ _ _ (by omega) (by omega) (by omega) (by omega)).mono ?_; rintro e w' ⟨rfl, rfl⟩))
  all_goals go_ret
  all_goals refine ⟨fin_str ?_, ?_⟩
  all_goals first | exact Below.refl _ _ | exact (Below.refl _ _).alloc (Nat.le_refl _) _ | skip
  all_goals (unfold pQ; (repeat' split) <;> first | rfl | (exfalso; grind (splits := 40) [sfQ]))
set_option maxRecDepth 100000 in
set_option maxHeartbeats 1000000 in
theorem c28 (c b : Int) (w : World) (h0 : 0 ≤ b) (h1 : b ≤ 255) :
    Calls Tryz.prog 43 #[.int .i64 c, .int .u8 b] w fun e w' => e = .returned (.string (strOfNums (pc c b))) ∧ Below w.heap.size w w' := by
  go_enter Tryz.func43, Tryz.ntmps43
  go_wp2_with (first | (go_at_call 67; refine (c52 _ _ (by omega) (by omega)).mono ?_; rintro e w' ⟨rfl, hb⟩) | (go_at_call 68; refine (c53 _ _ (by omega) (by omega)).mono ?_; rintro e w' ⟨rfl, hb⟩) | (go_at_call 69; refine (c54 _ _ (by omega) (by omega)).mono ?_; rintro e w' ⟨rfl, hb⟩) | (go_at_call 70; refine (c55 _ _ (by omega) (by omega)).mono ?_; rintro e w' ⟨rfl, hb⟩))
  all_goals go_ret
  all_goals refine ⟨fin_str ?_, by assumption⟩
  all_goals (congr 1; grind (splits := 40) [pc])
end Go.Proofs.YtponicaflcbbeaaGreat
