import Derived.Test.YtffkejkgkgfnhaaG01
import Derived.Lib.AppendStr
import Derived.Test.YtffkejkgkgfnhaaRows
import Derived.ProofKit
import Derived.OpenShut
import Derived.ShutString
import Derived.JoinedCond
namespace Go.Proofs.Ytffkejkgkgfnhaa
open Go.RowKit
set_option linter.unusedVariables false
/-! ### What is filled in: a byte, as numbers -/
def pT (b : Int) : List Int := if b = 60 then [38, 108, 116, 59] else if b = 62 then [38, 103, 116, 59] else if b = 38 then [38, 97, 109, 112, 59] else [b]
def pV (b : Int) : List Int := if b = 34 then [38, 113, 117, 111, 116, 59] else pT b
def hx (ten n : Int) : Int := if n < 10 then 48 + n else ten + (n - 10)
def sfL (b : Int) : Bool := wdB b || decide (b = 45 ∨ b = 95 ∨ b = 46 ∨ b = 126 ∨ b = 47)
def sfQ (b : Int) : Bool := wdB b || decide (b = 32 ∨ b = 45 ∨ b = 95 ∨ b = 46 ∨ b = 44 ∨ b = 58 ∨ b = 47)
def pL (b : Int) : List Int := if sfL b then [b] else [37, hx 65 (b / 16), hx 65 (b % 16)]
def pQ (b : Int) : List Int := if sfQ b then [b] else [92, 120, hx 97 (b / 16), hx 97 (b % 16)]
def pc (c b : Int) : List Int := if c = 15 ∨ c = 16 then pV b else if c = 17 ∨ c = 18 then pL b else if c = 19 ∨ c = 21 then pQ b else pT b
theorem ret_str {a b : List Int} (h : a = b) : Ending.returned (.string (strOfNums a)) = .returned (.string (strOfNums b)) := by rw [h]
theorem ret_lit {a : ByteArray} {b : List Int} (h : a = strOfNums b) : Ending.returned (.string a) = .returned (.string (strOfNums b)) := by rw [h]
theorem fin_str {a : ByteArray} {l : List Int} (h : a = strOfNums l) : Ending.returned (.string a) = .returned (.string (strOfNums l)) := by rw [h]
theorem cv (w : World) (ns : List Int) (k : Nat) (hk : ns.length = k) : Sem.run Try.prog (convert 42 9 (.slice (some ⟨w.heap.size, 0, none⟩) k k)) (w.alloc (.cells (ns.map (Value.int .u8)).toArray 5)) = .ok (.string (strOfNums ns)) (w.alloc (.cells (ns.map (Value.int .u8)).toArray 5)) := by
  refine run_convert_bytes_arg _ 42 5 Try.underlying42 Try.underlying5 w.heap.size 0 k k ns hk (fun i hi => ?_) 9 Try.underlying9
  have : i < ns.length := by omega
  simp [List.getD, this]
theorem cv1 (w : World) (x : Int) : Sem.run Try.prog (convert 42 9 (.slice (some ⟨w.heap.size, 0, none⟩) 1 1)) (w.alloc (.cells #[.int .u8 x] 5)) = .ok (.string (strOfNums [x])) (w.alloc (.cells #[.int .u8 x] 5)) := cv w [x] 1 rfl
theorem cv2 (w : World) (x y : Int) : Sem.run Try.prog (convert 42 9 (.slice (some ⟨w.heap.size, 0, none⟩) 2 2)) (w.alloc (.cells #[.int .u8 x, .int .u8 y] 5)) = .ok (.string (strOfNums [x, y])) (w.alloc (.cells #[.int .u8 x, .int .u8 y] 5)) := cv w [x, y] 2 rfl
theorem cv3 (w : World) (x y z : Int) : Sem.run Try.prog (convert 42 9 (.slice (some ⟨w.heap.size, 0, none⟩) 3 3)) (w.alloc (.cells #[.int .u8 x, .int .u8 y, .int .u8 z] 5)) = .ok (.string (strOfNums [x, y, z])) (w.alloc (.cells #[.int .u8 x, .int .u8 y, .int .u8 z] 5)) := cv w [x, y, z] 3 rfl
theorem cv4 (w : World) (x y z u : Int) : Sem.run Try.prog (convert 42 9 (.slice (some ⟨w.heap.size, 0, none⟩) 4 4)) (w.alloc (.cells #[.int .u8 x, .int .u8 y, .int .u8 z, .int .u8 u] 5)) = .ok (.string (strOfNums [x, y, z, u])) (w.alloc (.cells #[.int .u8 x, .int .u8 y, .int .u8 z, .int .u8 u] 5)) := cv w [x, y, z, u] 4 rfl
set_option maxHeartbeats 400000 in
theorem c79 (n t : Int) (w : World) (h0 : 0 ≤ n) (h1 : n ≤ 15) (h2 : 0 ≤ t) (h3 : t ≤ 200) :
    Calls Try.prog 69 #[.int .u8 n, .int .u8 t] w fun e w' => e = .returned (.int .u8 (hx t n)) ∧ w' = w := by
  go_enter Try.func69, Try.ntmps69
  go_wp2
  all_goals go_ret
  all_goals refine ⟨ret_int ?_, rfl⟩
  all_goals grind [hx]
set_option maxRecDepth 100000 in
set_option maxHeartbeats 1000000 in
theorem c55 (b : Int) (w : World) (h0 : 0 ≤ b) (h1 : b ≤ 255) :
    Calls Try.prog 54 #[.int .u8 b] w fun e w' => e = .returned (.string (strOfNums (pT b))) ∧ Below w.heap.size w w' := by
  have k1 := cv1
  go_enter Try.func54, Try.ntmps54
  go_wp2
  all_goals go_ret
  all_goals refine ⟨fin_str ?_, ?_⟩
  all_goals first | exact Below.refl _ _ | exact (Below.refl _ _).alloc (Nat.le_refl _) _ | skip
  all_goals (unfold pT; (repeat' split) <;> first | rfl | (exfalso; grind (splits := 40) [pT]))
set_option maxRecDepth 100000 in
set_option maxHeartbeats 1000000 in
theorem c52 (b : Int) (w : World) (h0 : 0 ≤ b) (h1 : b ≤ 255) :
    Calls Try.prog 51 #[.int .u8 b] w fun e w' => e = .returned (.string (strOfNums (pV b))) ∧ Below w.heap.size w w' := by
  by_cases h : b = 34
  · subst h
    go_enter Try.func51, Try.ntmps51
    go_wp2
    go_ret
    exact ⟨rfl, Below.refl _ _⟩
  · have e : pV b = pT b := by simp [pV, h]
    rw [e]
    clear e
    go_enter Try.func51, Try.ntmps51
    go_wp2_with (go_at_call 54; refine (c55 _ _ (by omega) (by omega)).mono ?_; rintro e w' ⟨rfl, hb⟩)
    go_ret
    exact ⟨rfl, hb⟩
set_option maxRecDepth 100000 in
set_option maxHeartbeats 1000000 in
theorem c53 (b : Int) (w : World) (h0 : 0 ≤ b) (h1 : b ≤ 255) :
    Calls Try.prog 52 #[.int .u8 b] w fun e w' => e = .returned (.string (strOfNums (pL b))) ∧ Below w.heap.size w w' := by
  have k1 := cv1
  have k3 := cv3
  go_enter Try.func52, Try.ntmps52
  go_wp2_with (first | (go_at_call 64; refine (c74 _ _ (by omega) (by omega)).mono ?_; rintro e w' ⟨rfl, rfl⟩) | (go_at_call 69; refine (c79 _ _ _ (by omega) (by omega) (by omega) (by omega)).mono ?_; rintro e w' ⟨rfl, rfl⟩))
  all_goals go_ret
  all_goals refine ⟨fin_str ?_, ?_⟩
  all_goals first | exact Below.refl _ _ | exact (Below.refl _ _).alloc (Nat.le_refl _) _ | skip
  all_goals (unfold pL; (repeat' split) <;> first | rfl | (exfalso; grind (splits := 40) [sfL]))
set_option maxRecDepth 100000 in
set_option maxHeartbeats 1000000 in
theorem c54 (b : Int) (w : World) (h0 : 0 ≤ b) (h1 : b ≤ 255) :
    Calls Try.prog 53 #[.int .u8 b] w fun e w' => e = .returned (.string (strOfNums (pQ b))) ∧ Below w.heap.size w w' := by
  have k1 := cv1
  have k4 := cv4
  go_enter Try.func53, Try.ntmps53
  go_wp2_with (first | (go_at_call 64; refine (c74 _ _ (by omega) (by omega)).mono ?_; rintro e w' ⟨rfl, rfl⟩) | (go_at_call 69; refine (c79 _ _ _ (by omega) (by omega) (by omega) (by omega)).mono ?_; rintro e w' ⟨rfl, rfl⟩))
  all_goals go_ret
  all_goals refine ⟨fin_str ?_, ?_⟩
  all_goals first | exact Below.refl _ _ | exact (Below.refl _ _).alloc (Nat.le_refl _) _ | skip
  all_goals (unfold pQ; (repeat' split) <;> first | rfl | (exfalso; grind (splits := 40) [sfQ]))
set_option maxRecDepth 100000 in
set_option maxHeartbeats 1000000 in
theorem c28 (c b : Int) (w : World) (h0 : 0 ≤ b) (h1 : b ≤ 255) :
    Calls Try.prog 34 #[.int .i64 c, .int .u8 b] w fun e w' => e = .returned (.string (strOfNums (pc c b))) ∧ Below w.heap.size w w' := by
  go_enter Try.func34, Try.ntmps34
  go_wp2_with (first | (go_at_call 51; refine (c52 _ _ (by omega) (by omega)).mono ?_; rintro e w' ⟨rfl, hb⟩) | (go_at_call 52; refine (c53 _ _ (by omega) (by omega)).mono ?_; rintro e w' ⟨rfl, hb⟩) | (go_at_call 53; refine (c54 _ _ (by omega) (by omega)).mono ?_; rintro e w' ⟨rfl, hb⟩) | (go_at_call 54; refine (c55 _ _ (by omega) (by omega)).mono ?_; rintro e w' ⟨rfl, hb⟩))
  all_goals go_ret
  all_goals refine ⟨fin_str ?_, by assumption⟩
  all_goals (congr 1; grind (splits := 40) [pc])
end Go.Proofs.Ytffkejkgkgfnhaa
namespace Go.Proofs.Ytffkejkgkgfnhaa
open Go.RowKit
set_option linter.unusedVariables false
/-! ### Escape -/
def opB (c : Int) : Bool := decide (c = 0 ∨ c = 15 ∨ c = 16 ∨ c = 17 ∨ c = 18 ∨ c = 19 ∨ c = 21)
def pre (c : Int) : List Int := if c = 19 then [39] else []
def mid (c : Int) (l : List UInt8) : List Int := l.flatMap fun u => pc c u.toNat
def acc (c : Int) (l : List UInt8) : List Int := pre c ++ mid c l
def escL (c : Int) (l : List UInt8) : List Int := acc c l ++ pre c
def okN (n : Int) : Prop := 0 ≤ n ∧ n ≤ 255
theorem hx_ok (t n : Int) (h0 : 0 ≤ n) (h1 : n ≤ 15) (h2 : t = 65 ∨ t = 97) : okN (hx t n) := by unfold okN hx; split <;> omega
theorem pT_ok (b : Int) (h : okN b) : (∀ n ∈ pT b, okN n) ∧ (pT b).length ≤ 6 := by
  unfold okN at *; unfold pT; (repeat' split) <;> simp <;> omega
theorem pV_ok (b : Int) (h : okN b) : (∀ n ∈ pV b, okN n) ∧ (pV b).length ≤ 6 := by
  unfold pV; split
  · simp [okN]
  · exact pT_ok b h
theorem pL_ok (b : Int) (h : okN b) : (∀ n ∈ pL b, okN n) ∧ (pL b).length ≤ 6 := by
  have h1 := hx_ok 65 (b / 16) (by unfold okN at h; omega) (by unfold okN at h; omega) (.inl rfl)
  have h2 := hx_ok 65 (b % 16) (by unfold okN at h; omega) (by unfold okN at h; omega) (.inl rfl)
  have h3 : okN 37 := by unfold okN; omega
  unfold pL; split
  · simp [h]
  · refine ⟨?_, by simp⟩; intro n hn; simp at hn; rcases hn with rfl | rfl | rfl <;> assumption
theorem pQ_ok (b : Int) (h : okN b) : (∀ n ∈ pQ b, okN n) ∧ (pQ b).length ≤ 6 := by
  have h1 := hx_ok 97 (b / 16) (by unfold okN at h; omega) (by unfold okN at h; omega) (.inr rfl)
  have h2 := hx_ok 97 (b % 16) (by unfold okN at h; omega) (by unfold okN at h; omega) (.inr rfl)
  have h3 : okN 92 := by unfold okN; omega
  have h4 : okN 120 := by unfold okN; omega
  unfold pQ; split
  · simp [h]
  · refine ⟨?_, by simp⟩; intro n hn; simp at hn; rcases hn with rfl | rfl | rfl | rfl <;> assumption
theorem pc_ok (c b : Int) (h : okN b) : (∀ n ∈ pc c b, okN n) ∧ (pc c b).length ≤ 6 := by
  unfold pc; (repeat' split)
  · exact pV_ok b h
  · exact pL_ok b h
  · exact pQ_ok b h
  · exact pT_ok b h
theorem pre_ok (c : Int) : (∀ n ∈ pre c, okN n) ∧ (pre c).length ≤ 1 := by unfold pre; split <;> simp [okN]
theorem mid_snoc (c : Int) (l : List UInt8) (u : UInt8) : mid c (l ++ [u]) = mid c l ++ pc c u.toNat := by simp [mid]
theorem mid_len (c : Int) (l : List UInt8) : (mid c l).length ≤ 6 * l.length := by
  induction l with
  | nil => simp [mid]
  | cons u r ih =>
    have h := (pc_ok c u.toNat ⟨byte_ge u, byte_le u⟩).2
    have e : mid c (u :: r) = pc c u.toNat ++ mid c r := by simp [mid]
    rw [e, List.length_append, List.length_cons]; omega
theorem acc_len (c : Int) (l : List UInt8) : (acc c l).length ≤ 6 * l.length + 1 := by
  have h1 := mid_len c l
  have h2 := (pre_ok c).2
  rw [acc, List.length_append]; omega
theorem acc_snoc (c : Int) (s : ByteArray) (k : Nat) (h : k < s.size) : acc c (s.data.toList.take (k + 1)) = acc c (s.data.toList.take k) ++ pc c s[k].toNat := by
  rw [take_snoc s k h, acc, acc, mid_snoc, List.append_assoc]
theorem nums_cells (l : List Int) (h : ∀ n ∈ l, okN n) : Lib.strCells (strOfNums l) = l.map (Value.int .u8) := by
  rw [Lib.strCells, strOfNums_data, List.map_map]
  apply List.map_congr_left
  intro n hn
  obtain ⟨h0, h1⟩ := h n hn
  simp only [Function.comp]
  have : ((UInt8.ofNat n.toNat).toNat : Int) = n := by
    rw [UInt8.toNat_ofNat']
    omega
  rw [this]
theorem owns_below {w w' : World} {base : Nat} {e : TypeId} {size : Nat} {v : Value} {n : Nat} {xs : List Value} (h : w.ownsRow base e size v n xs) (hb : Below w.heap.size w w') : w'.ownsRow base e size v n xs :=
  h.kept (row := none) ⟨hb.os, hb.tape, hb.output, hb.size, fun k hk _ => hb.block k hk⟩ (Classical.em _)
theorem cv_own (w : World) (base : Nat) (v : Value) (ns : List Int) (n : Nat) (h : w.ownsRow base 5 1 v n (ns.map (Value.int .u8))) : Sem.run Try.prog (convert 42 9 v) w = .ok (.string (strOfNums ns)) w := by
  have hl := h.1
  simp at hl
  rcases h.2 with ⟨rfl, rfl⟩ | ⟨g, cap, cur, rfl, _⟩
  · have : ns = [] := List.length_eq_zero_iff.1 hl
    subst this
    exact run_convert_bytes_nil w 42 5 Try.underlying42 Try.underlying5 0 0 9 Try.underlying9
  · refine run_convert_bytes_arg w 42 5 Try.underlying42 Try.underlying5 g 0 n cap ns hl (fun i hi => ?_) 9 Try.underlying9
    have := h.cellAt i (by omega)
    have hi' : i < ns.length := by omega
    simpa [List.getD, hi'] using this
theorem info5 : (Try.prog.info? 5).map (fun i => (i.zero, i.size, i.bytes)) = some (some (.int .u8 0), 1, 1) := by kernel_rfl
set_option maxHeartbeats 400000 in
theorem c27 (c : Int) (w : World) : Calls Try.prog 33 #[.int .i64 c] w fun e w' => e = .returned (.bool (opB c)) ∧ w' = w := by
  go_enter Try.func33, Try.ntmps33
  go_wp2
  all_goals go_ret
  all_goals refine ⟨ret_bool ?_, rfl⟩
  all_goals grind (splits := 40) [opB]
set_option maxHeartbeats 400000 in
theorem c17no (c : Int) (s : ByteArray) (w : World) (h : opB c = false) :
    Calls Try.prog 27 #[.int .i64 c, .string s] w fun e w' => e = .returned (.tuple #[.string ⟨#[]⟩, .int .i64 10]) ∧ w' = w := by
  go_enter Try.func27, Try.ntmps27
  go_wp2_with (go_at_call 33; refine (c27 _ _).mono ?_; rintro e w' ⟨rfl, rfl⟩)
  go_ret2
  exact ⟨rfl, rfl⟩
set_option maxHeartbeats 1000000 in
theorem c17plain (c : Int) (s : ByteArray) (w : World) (h : opB c = true) (hc : (c == 19) = false) (hs : s.size ≤ 1048576) :
    Calls Try.prog 27 #[.int .i64 c, .string s] w fun e w' => e = .returned (.tuple #[.string (strOfNums (acc c s.data.toList)), .int .i64 0]) ∧ Below w.heap.size w w' := by
  obtain ⟨i0, hi, hz0, hz1, hz2⟩ := info_parts info5
  go_enter Try.func27, Try.ntmps27
  go_wp2_with (go_at_call 33; refine (c27 _ _).mono ?_; rintro e w' ⟨rfl, hw⟩; obtain rfl := hw.symm)
  go_loopw [6, 7, 8] (fun v i _ wr => ∃ k : Nat, k ≤ s.size ∧ i = .int .i64 k ∧ wr.ownsRow w.heap.size 5 1 v (acc c (s.data.toList.take k)).length ((acc c (s.data.toList.take k)).map (Value.int .u8)) ∧ Below w.heap.size w wr) (fun _ i _ _ => s.size - (intOf i).toNat)
  case atStart =>
    have e : acc c (s.data.toList.take 0) = [] := by
      have : c ≠ 19 := by simpa using hc
      simp [acc, pre, mid, this]
    exact ⟨0, Nat.zero_le _, rfl, by rw [e]; exact World.ownsRow_nil _ _ _ _, Below.refl _ _⟩
  case round =>
    obtain ⟨k, hk, rfl, hown, hbel⟩ := hrel
    have Hsn := hide (acc_snoc c s k)
    have hl1 := acc_len c (s.data.toList.take k)
    have hl2 : (s.data.toList.take k).length ≤ k := List.length_take_le _ _
    have Hall : Hid (k = s.size → acc c (s.data.toList.take k) = acc c s.data.toList) := by
      intro e; rw [List.take_of_length_le (by simp [e])]
    generalize hA : acc c (s.data.toList.take k) = A at *
    have HA := hide hA
    clear hA
    by_cases hlt : k < s.size
    · have hpc := hide (pc_ok c s[k].toNat ⟨byte_ge _, byte_le _⟩)
      have hsz := hide hbel.size
      go_wp2_with fail
      refine (c28 _ _ _ (byte_ge _) (byte_le _)).mono ?_
      rintro e w2 ⟨rfl, hb2⟩
      have hown2 := owns_below hown hb2
      have hbel2 := hbel.trans (hb2.mono hbel.size)
      clear hown hbel hb2
      have HS := Hsn.out hlt
      clear Hsn
      generalize hP : pc c s[k].toNat = P at *
      have HS' := hide HS
      clear HS hP
      go_wp2_with (at_builtin; refine Lib.wpList_append_own_string _ rfl _ _ 42 9 rfl w.heap.size 5 i0 Try.underlying42 Try.underlying9 hi hz0 hz1 hz2 _ _ _ rfl hown2 (strOfNums P) rfl ?c1 ?c2 ?c3 ?_)
      case c1 => rw [strOfNums_size]; have := hpc.out.2; unfold maxLen; omega
      case c2 => rw [strOfNums_size]; have := hpc.out.2; omega
      case c3 => exact hbel2.size
      intro v' w3 hown3 hg3 _
      rw [nums_cells P hpc.out.1, ← List.map_append, strOfNums_size, ← List.length_append, ← HS'.out] at hown3
      have hbel3 := hbel2.grown hg3 hbel2.size (fun j hj => (hown2.lt j hj).1)
      clear hown2 hbel2 hg3
      go_wp2
      go_roundw
      case rel => exact ⟨k + 1, by omega, by go_num, hown3, hbel3⟩
      case measure => simp [intOf]; omega
    · have HA2 := Hall.out (by omega)
      subst HA2
      have kc := cv_own wr w.heap.size _ _ _ hown
      go_wp2
      go_ret2
      exact ⟨rfl, hbel⟩
theorem one_cells (w : World) : ∀ (j : Nat) (u : Value), [Value.int IntKind.u8 39][j]? = some u → (w.alloc (.cells #[.int .u8 39] 5)).cell? ((⟨w.heap.size, 0, none⟩ : Addr).add j) = some u := by
  intro j u hj
  match j, hj with
  | 0, hj => simp at hj; subst hj; simp [Addr.add]
theorem one_one : ∀ u ∈ [Value.int IntKind.u8 39], u.oneCell' = true := by
  intro u hu; simp at hu; subst hu; rfl
theorem acc_start : acc 19 [] = [39] := by decide
theorem acc_end (l : List UInt8) : escL 19 l = acc 19 l ++ [39] := by simp [escL, pre]
set_option maxHeartbeats 1000000 in
theorem c17code (s : ByteArray) (w : World) (hs : s.size ≤ 1048576) :
    Calls Try.prog 27 #[.int .i64 19, .string s] w fun e w' => e = .returned (.tuple #[.string (strOfNums (escL 19 s.data.toList)), .int .i64 0]) ∧ Below w.heap.size w w' := by
  obtain ⟨i0, hi, hz0, hz1, hz2⟩ := info_parts info5
  have h19 : opB 19 = true := by decide
  go_enter Try.func27, Try.ntmps27
  go_wp2_with (first | (go_at_call 33; refine (c27 _ _).mono ?_; rintro e w' ⟨rfl, hw⟩; obtain rfl := hw.symm) | (at_builtin; refine wpList_append_own _ rfl _ _ 42 rfl w.heap.size 5 i0 (.int .u8 0) 1 1 Try.underlying42 hi hz0 hz1 hz2 rfl (by decide) (.slice none 0 0) 0 [] rfl (World.ownsRow_nil _ _ _ _) ⟨w.heap.size, 0, none⟩ 1 1 [.int .u8 39] rfl rfl ?c1 ?c2 ?c3 ?c4 ?c5 ?_))
  case c1 => exact one_cells w
  case c2 => exact one_one
  case c3 => unfold maxLen; omega
  case c4 => omega
  case c5 => simp
  intro v0 w0 hown0 hg0 _
  have hbel0 : Below w.heap.size w w0 := ((Below.refl _ _).alloc (Nat.le_refl _) _).grown hg0 (by simp) (fun k hk => by simp [Value.ownBlock] at hk)
  clear hg0
  go_wp2
  go_loopw [6, 7, 8] (fun v i _ wr => ∃ k : Nat, k ≤ s.size ∧ i = .int .i64 k ∧ wr.ownsRow w.heap.size 5 1 v (acc 19 (s.data.toList.take k)).length ((acc 19 (s.data.toList.take k)).map (Value.int .u8)) ∧ Below w.heap.size w wr) (fun _ i _ _ => s.size - (intOf i).toNat)
  case atStart =>
    refine ⟨0, Nat.zero_le _, rfl, ?_, hbel0⟩
    rw [List.take_zero, acc_start]
    exact hown0
  case round =>
    clear hown0 hbel0
    obtain ⟨k, hk, rfl, hown, hbel⟩ := hrel
    have Hsn := hide (acc_snoc 19 s k)
    have hl1 := acc_len 19 (s.data.toList.take k)
    have hl2 : (s.data.toList.take k).length ≤ k := List.length_take_le _ _
    have Hall : Hid (k = s.size → acc 19 (s.data.toList.take k) = acc 19 s.data.toList) := by
      intro e; rw [List.take_of_length_le (by simp [e])]
    generalize hA : acc 19 (s.data.toList.take k) = A at *
    have HA := hide hA
    clear hA
    by_cases hlt : k < s.size
    · have hpc := hide (pc_ok 19 s[k].toNat ⟨byte_ge _, byte_le _⟩)
      have hsz := hide hbel.size
      go_wp2_with fail
      refine (c28 _ _ _ (byte_ge _) (byte_le _)).mono ?_
      rintro e w2 ⟨rfl, hb2⟩
      have hown2 := owns_below hown hb2
      have hbel2 := hbel.trans (hb2.mono hbel.size)
      clear hown hbel hb2
      have HS := Hsn.out hlt
      clear Hsn
      generalize hP : pc 19 s[k].toNat = P at *
      have HS' := hide HS
      clear HS hP
      go_wp2_with (at_builtin; refine Lib.wpList_append_own_string _ rfl _ _ 42 9 rfl w.heap.size 5 i0 Try.underlying42 Try.underlying9 hi hz0 hz1 hz2 _ _ _ rfl hown2 (strOfNums P) rfl ?c1 ?c2 ?c3 ?_)
      case c1 => rw [strOfNums_size]; have := hpc.out.2; unfold maxLen; omega
      case c2 => rw [strOfNums_size]; have := hpc.out.2; omega
      case c3 => exact hbel2.size
      intro v' w3 hown3 hg3 _
      rw [nums_cells P hpc.out.1, ← List.map_append, strOfNums_size, ← List.length_append, ← HS'.out] at hown3
      have hbel3 := hbel2.grown hg3 hbel2.size (fun j hj => (hown2.lt j hj).1)
      clear hown2 hbel2 hg3
      go_wp2
      go_roundw
      case rel => exact ⟨k + 1, by omega, by go_num, hown3, hbel3⟩
      case measure => simp [intOf]; omega
    · have HA2 := Hall.out (by omega)
      subst HA2
      have hsz := hbel.size
      go_wp2_with (at_builtin; refine wpList_append_own _ rfl _ _ 42 rfl w.heap.size 5 i0 (.int .u8 0) 1 1 Try.underlying42 hi hz0 hz1 hz2 rfl (by decide) _ _ _ rfl (hown.alloc _) ⟨wr.heap.size, 0, none⟩ 1 1 [.int .u8 39] rfl rfl ?c1 ?c2 ?c3 ?c4 ?c5 ?_)
      case c3 => unfold maxLen; omega
      case c4 => omega
      case c5 => omega
      all_goals first | (show (Value.int IntKind.u8 39).oneCell' = true; rfl) | skip
      intro v4 w4 hown4 hg4 _
      have hbel4 : Below w.heap.size w w4 := (hbel.alloc hbel.size _).grown hg4 (by simp; omega) (fun j hj => (hown.lt j hj).1)
      have kc := cv_own w4 w.heap.size v4 (escL 19 s.data.toList) _ (by rw [acc_end, List.map_append]; exact hown4)
      clear hown4 hg4 hown hbel
      go_wp2
      go_ret2
      exact ⟨rfl, hbel4⟩
theorem escL_plain (c : Int) (l : List UInt8) (h : (c == 19) = false) : escL c l = acc c l := by
  have : c ≠ 19 := by simpa using h
  simp [escL, pre, this]
theorem c17 (c : Int) (s : ByteArray) (w : World) (h : opB c = true) (hs : s.size ≤ 1048576) :
    Calls Try.prog 27 #[.int .i64 c, .string s] w fun e w' => e = .returned (.tuple #[.string (strOfNums (escL c s.data.toList)), .int .i64 0]) ∧ Below w.heap.size w w' := by
  by_cases hc : c = 19
  · subst hc; exact c17code s w hs
  · have hc' : (c == 19) = false := by simpa using hc
    rw [escL_plain c _ hc']
    exact c17plain c s w h hc' hs
set_option maxHeartbeats 400000 in
theorem c11 (c : Int) (s : ByteArray) (w : World) (h : opB c = true) (hs : s.size ≤ 1048576) :
    Calls Try.prog 11 #[.int .i64 c, .string s] w fun e w' => e = .returned (.tuple #[.string (strOfNums (escL c s.data.toList)), .int .i64 0]) ∧ Below w.heap.size w w' := by
  go_enter Try.func11, Try.ntmps11
  go_wp2_with (go_at_call 27; refine (c17 _ _ _ h hs).mono ?_; rintro e w' ⟨rfl, hb⟩)
  go_ret2
  exact ⟨rfl, hb⟩
set_option maxHeartbeats 400000 in
theorem c11no (c : Int) (s : ByteArray) (w : World) (h : opB c = false) :
    Calls Try.prog 11 #[.int .i64 c, .string s] w fun e w' => e = .returned (.tuple #[.string ⟨#[]⟩, .int .i64 10]) ∧ w' = w := by
  go_enter Try.func11, Try.ntmps11
  go_wp2_with (go_at_call 27; refine (c17no _ _ _ h).mono ?_; rintro e w' ⟨rfl, rfl⟩)
  go_ret2
  exact ⟨rfl, rfl⟩
end Go.Proofs.Ytffkejkgkgfnhaa
namespace Go.Proofs.Ytffkejkgkgfnhaa
open Go.ChangeShapes Go.WideShapes Go.ChangeAt Go.RowKit
open Go.ChangeMaps (open_string shut_string)
set_option linter.unusedVariables false
def bts (l : List Int) : List UInt8 := l.map fun n => UInt8.ofNat n.toNat
theorem bts_append (a b : List Int) : bts (a ++ b) = bts a ++ bts b := by simp [bts]
theorem nums_list (l : List Int) : (strOfNums l).data.toList = bts l := strOfNums_data l
def stB (c : Int) : Bool := decide (∀ n : Fin 256, scl c (bts (pc c (n.val : Int))) = c)
theorem stS0 : stB 0 = true := by decide +kernel
theorem st15 : stB 15 = true := by decide +kernel
theorem st16 : stB 16 = true := by decide +kernel
theorem st17 : stB 17 = true := by decide +kernel
theorem st18 : stB 18 = true := by decide +kernel
theorem st21 : stB 21 = true := by decide +kernel
theorem st_at (c : Int) (h : stB c = true) (u : UInt8) : scl c (bts (pc c u.toNat)) = c := by
  unfold stB at h
  exact (of_decide_eq_true h) ⟨u.toNat, UInt8.toNat_lt u⟩
theorem st_mid (c : Int) (h : stB c = true) (l : List UInt8) : scl c (bts (mid c l)) = c := by
  induction l with
  | nil => rfl
  | cons u r ih =>
    have e : mid c (u :: r) = pc c u.toNat ++ mid c r := by simp [mid]
    rw [e, bts_append, scl_append, st_at c h, ih]
theorem mid_19 (l : List UInt8) : mid 19 l = mid 21 l := by
  have : ∀ b, pc 19 b = pc 21 b := by intro b; simp [pc]
  simp [mid, this]
theorem st_esc (c : Int) (h : opB c = true) (l : List UInt8) : scl c (bts (escL c l)) = c := by
  by_cases h19 : c = 19
  · subst h19
    have e1 : scl 19 (bts [39]) = 21 := by decide
    have e2 : scl 21 (bts [39]) = 19 := by decide
    have e3 := st_mid 21 st21 l
    have e4 : escL 19 l = [39] ++ (mid 21 l ++ [39]) := by simp [escL, acc, pre, mid_19]
    rw [e4, bts_append, scl_append, e1, bts_append, scl_append, e3, e2]
  · have e : escL c l = mid c l := by simp [escL, acc, pre, h19]
    rw [e]
    simp only [opB, decide_eq_true_eq] at h
    have : stB c = true := by
      rcases h with rfl | rfl | rfl | rfl | rfl | rfl | rfl
      · exact stS0
      · exact st15
      · exact st16
      · exact st17
      · exact st18
      · exact absurd rfl h19
      · exact st21
    exact st_mid c this l
theorem opB_range (c : Int) (h : opB c = true) : 0 ≤ c ∧ c ≤ 23 := by
  simp only [opB, decide_eq_true_eq] at h; omega
theorem escL_len (c : Int) (l : List UInt8) : (escL c l).length ≤ 6 * l.length + 2 := by
  have h1 := acc_len c l
  have h2 := (pre_ok c).2
  rw [escL, List.length_append]; omega
set_option maxHeartbeats 400000 in
theorem c12 (c : Int) (w : World) : Calls Try.prog 12 #[.int .i64 c] w fun e w' => e = .returned (.bool (opB c)) ∧ w' = w := by
  go_enter Try.func12, Try.ntmps12
  go_wp2
  all_goals go_ret
  all_goals refine ⟨ret_bool ?_, rfl⟩
  all_goals grind (splits := 40) [opB]
set_option maxHeartbeats 1000000 in
theorem walk7 (c : Int) (s : ByteArray) (w : World) (hs : s.size ≤ 1048576) :
    Calls Try.prog 4 #[.int .i64 c, .string s] w fun e w' => e = .returned (.bool true) ∧ Below w.heap.size w w' := by
  cases ho : opB c
  · go_enter Try.func4, Try.ntmps4
    go_wp2_with (first | (go_at_call 11; refine (c11no _ _ _ ho).mono ?_; rintro e w' ⟨rfl, rfl⟩) | (go_at_call 12; refine (c12 _ _).mono ?_; rintro e w' ⟨rfl, rfl⟩))
    go_ret
    exact ⟨rfl, Below.refl _ _⟩
  · have hst := st_esc c ho s.data.toList
    have hr := opB_range c ho
    have hl := escL_len c s.data.toList
    have hq : (strOfNums (escL c s.data.toList)).size ≤ maxLen := by
      rw [strOfNums_size]; have : s.data.toList.length = s.size := rfl; unfold maxLen; omega
    have hsc : scn c (strOfNums (escL c s.data.toList)).data.toList = c := by
      rw [nums_list, scn_in _ _ hr.1 hr.2, hst]
    clear hst hl
    have Hc := hide (fun w => c11 c s w ho hs)
    generalize strOfNums (escL c s.data.toList) = E at *
    go_enter Try.func4, Try.ntmps4
    go_wp2_with fail
    refine (Hc.out w).mono ?_
    rintro e w' ⟨rfl, hb⟩
    clear Hc
    go_wp2_with (first | (go_at_call 12; refine (c12 _ _).mono ?_; rintro e w' ⟨rfl, rfl⟩) | (go_at_call 10; refine (c10 _ _ _ hq).mono ?_; rintro e w' ⟨rfl, rfl⟩))
    go_ret
    exact ⟨ret_bool (by simp), hb⟩
theorem own7 : ownKnob Try.prog.godebug = none := by kernel_rfl
theorem laid7 : laidOutB Try.prog = true := by kernel_rfl
theorem small_str {H : Type} (n : Int) (l : List UInt8) (hk : Rows.uptoSmall H [.lit (.int .i64 n), .lit (.string l)] = true) : l.length ≤ 1048576 := by
  have h := of_decide_eq_true hk
  simp only [Rows.uptoBulkAll, Rows.uptoBulk] at h
  omega
set_option maxRecDepth 100000 in
theorem lifted7 (os : Os) (started : os.Started) (H : Type) (enc : TypeId × Value → H) (F : Stop.Interp) :
    ReturnsInHanded {} Try.checked os 4 .any ((Rows.OpenSpec.upto Rows.staysSpec).pre6 enc Try.prog Try.f4 Rows.staysUptoRow.domain false) (((Rows.OpenSpec.upto Rows.staysSpec).at F).post enc Try.prog Try.f4 false true false false) := by
  refine returnsInHanded_of_cond (C := Try.checked) (s := Rows.OpenSpec.upto Rows.staysSpec) (k := Rows.uptoSmall) rfl own7 started (by kernel_rfl) Try.func4
    (OpenSpec.witness (enc := enc) (C := Try.checked) (s := Rows.OpenSpec.upto Rows.staysSpec) (k := Rows.uptoSmall) rfl false ⟨#[], #[.int .i64 0, .string ByteArray.empty], []⟩ 8 (by kernel_rfl) (by kernel_rfl) (by kernel_rfl)
      (x := ([.lit (.int .i64 0), .lit (.string [])], [], [])) (by kernel_rfl) rfl (by kernel_rfl)) ?_
  intro W base args ds gs before hval0 hW _ hk _
  have hval : ∀ (j : Nat) t v, Try.f4.params[j]? = some t → args[j]? = some v → Value.okWide Try.prog W .any base t v := hval0
  have hW' := hW
  obtain ⟨p, q, hA0, hV, rfl, hfz, hnd⟩ := hW
  have hA : DataW.TrodAll enc Try.prog W 0 (fun _ => true) true Try.f4.params.toList args.toList ds p := hA0
  rw [Try.params4] at hA hval
  obtain ⟨v0, vs0, d0, ds0, p0, q0, hargs, rfl, rfl, h0, r0⟩ := trodAll_cons hA
  obtain ⟨v1, vs1, d1, ds1, p1, q1, rfl, rfl, rfl, h1, r1⟩ := trodAll_cons r0
  obtain ⟨rfl, rfl, rfl⟩ := trodAll_nil r1
  obtain rfl : args = #[v0, v1] := by cases args; simp_all
  obtain ⟨rfl, rfl⟩ := trodVars_none hV
  obtain ⟨a0, rfl, rfl, rfl, w0⟩ := open_int Try.underlying3 (hval 0 3 v0 rfl rfl) h0
  obtain ⟨a1, rfl, rfl, rfl, w1⟩ := open_string Try.underlying9 (hval 1 9 v1 rfl rfl) h1
  clear hA0 hval0
  have hs : a1.size ≤ 1048576 := small_str a0 a1.data.toList hk
  refine (walk7 a0 a1 W hs).mono fun e W' ⟨he, bel⟩ => ?_
  subst he
  exact ⟨_, rfl, _, _, _, [], _, [], hW', trodAll_mk1 (shut_bool Try.underlying4 _), (trodAll_cons_mk (shut_int Try.underlying3 w0) (trodAll_cons_mk (shut_string Try.underlying9 w1) trodAll_mk0)), rfl, bel.frame _, fun h => by cases h⟩

theorem over7 : Rows.staysUptoRow.holds Try.pinned (Rows.OpenSpec.upto Rows.staysSpec) :=
  OpenClaim.holds_of_cond 4 Try.f4 rfl rfl rfl rfl rfl rfl rfl ⟨rfl, rfl, rfl, rfl, rfl⟩ rfl rfl rfl rfl rfl (by kernel_rfl) Try.func4 (by kernel_rfl)
    (of_decide_eq_true (by kernel_rfl)) (by unfold Func.isWrapper; first | (rw [if_pos (by decide +kernel)]; kernel_rfl) | (rw [if_neg (by decide +kernel)]; exact ⟨rfl, rfl⟩))
    (fun os started H enc _ F => lifted7 os started H enc F)

theorem stays_proved : Rows.StaysUptoSaid := over7
#print axioms stays_proved
end Go.Proofs.Ytffkejkgkgfnhaa
