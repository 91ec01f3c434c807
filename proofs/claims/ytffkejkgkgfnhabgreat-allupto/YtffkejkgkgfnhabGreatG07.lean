import Derived.Test.YtffkejkgkgfnhabGreatG06
import Derived.Lib.AppendStr
import Derived.Test.YtffkejkgkgfnhabGreatG05
namespace Go.Proofs.YtffkejkgkgfnhabGreat
open Go.RowKit
set_option linter.unusedVariables false
def pT (b : Int) : List Int := if b = 60 then [38, 108, 116, 59] else if b = 62 then [38, 103, 116, 59] else if b = 38 then [38, 97, 109, 112, 59] else [b]
def pV (b : Int) : List Int := if b = 34 then [38, 113, 117, 111, 116, 59] else pT b
def hx (ten n : Int) : Int := if n < 10 then 48 + n else ten + (n - 10)
def sfL (b : Int) : Bool := wdB b || decide (b = 45 ∨ b = 95 ∨ b = 46 ∨ b = 126 ∨ b = 47)
def sfQ (b : Int) : Bool := wdB b || decide (b = 32 ∨ b = 45 ∨ b = 95 ∨ b = 46 ∨ b = 44 ∨ b = 58 ∨ b = 47)
def pL (b : Int) : List Int := if sfL b then [b] else [37, hx 65 (b / 16), hx 65 (b % 16)]
def pQ (b : Int) : List Int := if sfQ b then [b] else [92, 120, hx 97 (b / 16), hx 97 (b % 16)]
def pc (c b : Int) : List Int := if c = 15 ∨ c = 16 then pV b else if c = 17 ∨ c = 18 then pL b else if c = 19 ∨ c = 21 then pQ b else pT b
theorem fin_str {a : ByteArray} {l : List Int} (h : a = strOfNums l) : Ending.returned (.string a) = .returned (.string (strOfNums l)) := by rw [h]
theorem cv (w : World) (ns : List Int) (k : Nat) (hk : ns.length = k) : Sem.run Tryz.prog (convert 76 9 (.slice (some ⟨w.heap.size, 0, none⟩) k k)) (w.alloc (.cells (ns.map (Value.int .u8)).toArray 5)) = .ok (.string (strOfNums ns)) (w.alloc (.cells (ns.map (Value.int .u8)).toArray 5)) := by
  refine run_convert_bytes_arg _ 76 5 Tryz.underlying76 Tryz.underlying5 w.heap.size 0 k k ns hk (fun i hi => ?_) 9 Tryz.underlying9
  have : i < ns.length := by omega
  simp [List.getD, this]
theorem cv1 (w : World) (x : Int) : Sem.run Tryz.prog (convert 76 9 (.slice (some ⟨w.heap.size, 0, none⟩) 1 1)) (w.alloc (.cells #[.int .u8 x] 5)) = .ok (.string (strOfNums [x])) (w.alloc (.cells #[.int .u8 x] 5)) := cv w [x] 1 rfl
theorem cv2 (w : World) (x y : Int) : Sem.run Tryz.prog (convert 76 9 (.slice (some ⟨w.heap.size, 0, none⟩) 2 2)) (w.alloc (.cells #[.int .u8 x, .int .u8 y] 5)) = .ok (.string (strOfNums [x, y])) (w.alloc (.cells #[.int .u8 x, .int .u8 y] 5)) := cv w [x, y] 2 rfl
theorem cv3 (w : World) (x y z : Int) : Sem.run Tryz.prog (convert 76 9 (.slice (some ⟨w.heap.size, 0, none⟩) 3 3)) (w.alloc (.cells #[.int .u8 x, .int .u8 y, .int .u8 z] 5)) = .ok (.string (strOfNums [x, y, z])) (w.alloc (.cells #[.int .u8 x, .int .u8 y, .int .u8 z] 5)) := cv w [x, y, z] 3 rfl
theorem cv4 (w : World) (x y z u : Int) : Sem.run Tryz.prog (convert 76 9 (.slice (some ⟨w.heap.size, 0, none⟩) 4 4)) (w.alloc (.cells #[.int .u8 x, .int .u8 y, .int .u8 z, .int .u8 u] 5)) = .ok (.string (strOfNums [x, y, z, u])) (w.alloc (.cells #[.int .u8 x, .int .u8 y, .int .u8 z, .int .u8 u] 5)) := cv w [x, y, z, u] 4 rfl
set_option maxHeartbeats 400000 in
theorem c79 (n t : Int) (w : World) (h0 : 0 ≤ n) (h1 : n ≤ 15) (h2 : 0 ≤ t) (h3 : t ≤ 200) :
    Calls Tryz.prog 88 #[.int .u8 n, .int .u8 t] w fun e w' => e = .returned (.int .u8 (hx t n)) ∧ w' = w := by
  go_enter Tryz.func88, Tryz.ntmps88
  go_wp2
  all_goals go_ret
  all_goals refine ⟨ret_int ?_, rfl⟩
  all_goals grind [hx]
set_option maxRecDepth 100000 in
set_option maxHeartbeats 1000000 in
theorem c55 (b : Int) (w : World) (h0 : 0 ≤ b) (h1 : b ≤ 255) :
    Calls Tryz.prog 68 #[.int .u8 b] w fun e w' => e = .returned (.string (strOfNums (pT b))) ∧ Below w.heap.size w w' := by
  have k1 := cv1
  go_enter Tryz.func68, Tryz.ntmps68
  go_wp2
  all_goals go_ret
  all_goals refine ⟨fin_str ?_, ?_⟩
  all_goals first | exact Below.refl _ _ | exact (Below.refl _ _).alloc (Nat.le_refl _) _ | skip
  all_goals (unfold pT; (repeat' split) <;> first | rfl | (exfalso; grind (splits := 40) [pT]))
set_option maxRecDepth 100000 in
set_option maxHeartbeats 1000000 in
theorem c52 (b : Int) (w : World) (h0 : 0 ≤ b) (h1 : b ≤ 255) :
    Calls Tryz.prog 65 #[.int .u8 b] w fun e w' => e = .returned (.string (strOfNums (pV b))) ∧ Below w.heap.size w w' := by
  by_cases h : b = 34
  · subst h
    go_enter Tryz.func65, Tryz.ntmps65
    go_wp2
    go_ret
    exact ⟨rfl, Below.refl _ _⟩
  · have e : pV b = pT b := by simp [pV, h]
    rw [e]
    clear e
    go_enter Tryz.func65, Tryz.ntmps65
    go_wp2_with (go_at_call 68; refine (c55 _ _ (by omega) (by omega)).mono ?_; rintro e w' ⟨rfl, hb⟩)
    go_ret
    exact ⟨rfl, hb⟩
set_option maxRecDepth 100000 in
set_option maxHeartbeats 1000000 in
theorem c53 (b : Int) (w : World) (h0 : 0 ≤ b) (h1 : b ≤ 255) :
    Calls Tryz.prog 66 #[.int .u8 b] w fun e w' => e = .returned (.string (strOfNums (pL b))) ∧ Below w.heap.size w w' := by
  have k1 := cv1
  have k3 := cv3
  go_enter Tryz.func66, Tryz.ntmps66
  go_wp2_with (first | (go_at_call 83; refine (c74 _ _ (by omega) (by omega)).mono ?_; rintro e w' ⟨rfl, rfl⟩) | (go_at_call 88; refine (c79 _ _ _ (by omega) (by omega) (by omega) (by omega)).mono ?_; rintro e w' ⟨rfl, rfl⟩))
  all_goals go_ret
  all_goals refine ⟨fin_str ?_, ?_⟩
  all_goals first | exact Below.refl _ _ | exact (Below.refl _ _).alloc (Nat.le_refl _) _ | skip
  all_goals (unfold pL; (repeat' split) <;> first | rfl | (exfalso; grind (splits := 40) [sfL]))
set_option maxRecDepth 100000 in
set_option maxHeartbeats 1000000 in
theorem c54 (b : Int) (w : World) (h0 : 0 ≤ b) (h1 : b ≤ 255) :
    Calls Tryz.prog 67 #[.int .u8 b] w fun e w' => e = .returned (.string (strOfNums (pQ b))) ∧ Below w.heap.size w w' := by
  have k1 := cv1
  have k4 := cv4
  go_enter Tryz.func67, Tryz.ntmps67
  go_wp2_with (first | (go_at_call 83; refine (c74 _ _ (by omega) (by omega)).mono ?_; rintro e w' ⟨rfl, rfl⟩) | (go_at_call 88; refine (c79 _ _ _ (by omega) (by omega) (by omega) (by omega)).mono ?_; rintro e w' ⟨rfl, rfl⟩))
  all_goals go_ret
  all_goals refine ⟨fin_str ?_, ?_⟩
  all_goals first | exact Below.refl _ _ | exact (Below.refl _ _).alloc (Nat.le_refl _) _ | skip
  all_goals (unfold pQ; (repeat' split) <;> first | rfl | (exfalso; grind (splits := 40) [sfQ]))
set_option maxRecDepth 100000 in
set_option maxHeartbeats 1000000 in
theorem c28 (c b : Int) (w : World) (h0 : 0 ≤ b) (h1 : b ≤ 255) :
    Calls Tryz.prog 40 #[.int .i64 c, .int .u8 b] w fun e w' => e = .returned (.string (strOfNums (pc c b))) ∧ Below w.heap.size w w' := by
  go_enter Tryz.func40, Tryz.ntmps40
  go_wp2_with (first | (go_at_call 65; refine (c52 _ _ (by omega) (by omega)).mono ?_; rintro e w' ⟨rfl, hb⟩) | (go_at_call 66; refine (c53 _ _ (by omega) (by omega)).mono ?_; rintro e w' ⟨rfl, hb⟩) | (go_at_call 67; refine (c54 _ _ (by omega) (by omega)).mono ?_; rintro e w' ⟨rfl, hb⟩) | (go_at_call 68; refine (c55 _ _ (by omega) (by omega)).mono ?_; rintro e w' ⟨rfl, hb⟩))
  all_goals go_ret
  all_goals refine ⟨fin_str ?_, by assumption⟩
  all_goals (congr 1; grind (splits := 40) [pc])
end Go.Proofs.YtffkejkgkgfnhabGreat
namespace Go.Proofs.YtffkejkgkgfnhabGreat
open Go.RowKit
set_option linter.unusedVariables false
def opB (c : Int) : Bool := decide (c = 0 ∨ c = 15 ∨ c = 16 ∨ c = 17 ∨ c = 18 ∨ c = 19 ∨ c = 21)
def pre (c : Int) : List Int := if c = 19 then [39] else []
def mid (c : Int) (l : List UInt8) : List Int := l.flatMap fun u => pc c u.toNat
def acc (c : Int) (l : List UInt8) : List Int := pre c ++ mid c l
def escL (c : Int) (l : List UInt8) : List Int := acc c l ++ pre c
def okN (n : Int) : Prop := 0 ≤ n ∧ n ≤ 255
theorem hx_ok (t n : Int) (h0 : 0 ≤ n) (h1 : n ≤ 15) (h2 : t = 65 ∨ t = 97) : okN (hx t n) := by unfold okN hx; split <;> omega
theorem pT_ok (b : Int) (h : okN b) : (∀ n ∈ pT b, okN n) ∧ (pT b).length ≤ 6 := by
  unfold okN at *; unfold pT; (repeat' split) <;> simp <;> omega
theorem pV_ok (b : Int) (h : okN b) : (∀ n ∈ pV b, okN n) ∧ (pV b).length ≤ 6 := by
  unfold pV; split
  · simp [okN]
  · exact pT_ok b h
theorem pL_ok (b : Int) (h : okN b) : (∀ n ∈ pL b, okN n) ∧ (pL b).length ≤ 6 := by
  have h1 := hx_ok 65 (b / 16) (by unfold okN at h; omega) (by unfold okN at h; omega) (.inl rfl)
  have h2 := hx_ok 65 (b % 16) (by unfold okN at h; omega) (by unfold okN at h; omega) (.inl rfl)
  have h3 : okN 37 := by unfold okN; omega
  unfold pL; split
  · simp [h]
  · refine ⟨?_, by simp⟩; intro n hn; simp at hn; rcases hn with rfl | rfl | rfl <;> assumption
theorem pQ_ok (b : Int) (h : okN b) : (∀ n ∈ pQ b, okN n) ∧ (pQ b).length ≤ 6 := by
  have h1 := hx_ok 97 (b / 16) (by unfold okN at h; omega) (by unfold okN at h; omega) (.inr rfl)
  have h2 := hx_ok 97 (b % 16) (by unfold okN at h; omega) (by unfold okN at h; omega) (.inr rfl)
  have h3 : okN 92 := by unfold okN; omega
  have h4 : okN 120 := by unfold okN; omega
  unfold pQ; split
  · simp [h]
  · refine ⟨?_, by simp⟩; intro n hn; simp at hn; rcases hn with rfl | rfl | rfl | rfl <;> assumption
theorem pc_ok (c b : Int) (h : okN b) : (∀ n ∈ pc c b, okN n) ∧ (pc c b).length ≤ 6 := by
  unfold pc; (repeat' split)
  · exact pV_ok b h
  · exact pL_ok b h
  · exact pQ_ok b h
  · exact pT_ok b h
theorem pre_ok (c : Int) : (∀ n ∈ pre c, okN n) ∧ (pre c).length ≤ 1 := by unfold pre; split <;> simp [okN]
theorem mid_snoc (c : Int) (l : List UInt8) (u : UInt8) : mid c (l ++ [u]) = mid c l ++ pc c u.toNat := by simp [mid]
theorem mid_len (c : Int) (l : List UInt8) : (mid c l).length ≤ 6 * l.length := by
  induction l with
  | nil => simp [mid]
  | cons u r ih =>
    have h := (pc_ok c u.toNat ⟨byte_ge u, byte_le u⟩).2
    have e : mid c (u :: r) = pc c u.toNat ++ mid c r := by simp [mid]
    rw [e, List.length_append, List.length_cons]; omega
theorem acc_len (c : Int) (l : List UInt8) : (acc c l).length ≤ 6 * l.length + 1 := by
  have h1 := mid_len c l
  have h2 := (pre_ok c).2
  rw [acc, List.length_append]; omega
theorem acc_snoc (c : Int) (s : ByteArray) (k : Nat) (h : k < s.size) : acc c (s.data.toList.take (k + 1)) = acc c (s.data.toList.take k) ++ pc c s[k].toNat := by
  rw [take_snoc s k h, acc, acc, mid_snoc, List.append_assoc]
theorem nums_cells (l : List Int) (h : ∀ n ∈ l, okN n) : Lib.strCells (strOfNums l) = l.map (Value.int .u8) := by
  rw [Lib.strCells, strOfNums_data, List.map_map]
  apply List.map_congr_left
  intro n hn
  obtain ⟨h0, h1⟩ := h n hn
  simp only [Function.comp]
  have : ((UInt8.ofNat n.toNat).toNat : Int) = n := by
    rw [UInt8.toNat_ofNat']
    omega
  rw [this]
theorem owns_below {w w' : World} {base : Nat} {e : TypeId} {size : Nat} {v : Value} {n : Nat} {xs : List Value} (h : w.ownsRow base e size v n xs) (hb : Below w.heap.size w w') : w'.ownsRow base e size v n xs :=
  h.kept (row := none) ⟨hb.os, hb.tape, hb.output, hb.size, fun k hk _ => hb.block k hk⟩ (Classical.em _)
theorem cv_own (w : World) (base : Nat) (v : Value) (ns : List Int) (n : Nat) (h : w.ownsRow base 5 1 v n (ns.map (Value.int .u8))) : Sem.run Tryz.prog (convert 76 9 v) w = .ok (.string (strOfNums ns)) w := by
  have hl := h.1
  simp at hl
  rcases h.2 with ⟨rfl, rfl⟩ | ⟨g, cap, cur, rfl, _⟩
  · have : ns = [] := List.length_eq_zero_iff.1 hl
    subst this
    exact run_convert_bytes_nil w 76 5 Tryz.underlying76 Tryz.underlying5 0 0 9 Tryz.underlying9
  · refine run_convert_bytes_arg w 76 5 Tryz.underlying76 Tryz.underlying5 g 0 n cap ns hl (fun i hi => ?_) 9 Tryz.underlying9
    have := h.cellAt i (by omega)
    have hi' : i < ns.length := by omega
    simpa [List.getD, hi'] using this
theorem info5 : (Tryz.prog.info? 5).map (fun i => (i.zero, i.size, i.bytes)) = some (some (.int .u8 0), 1, 1) := by kernel_rfl
set_option maxHeartbeats 400000 in
theorem c27 (c : Int) (w : World) : Calls Tryz.prog 39 #[.int .i64 c] w fun e w' => e = .returned (.bool (opB c)) ∧ w' = w := by
  go_enter Tryz.func39, Tryz.ntmps39
  go_wp2
  all_goals go_ret
  all_goals refine ⟨ret_bool ?_, rfl⟩
  all_goals grind (splits := 40) [opB]
set_option maxHeartbeats 400000 in
theorem c17no (c : Int) (s : ByteArray) (w : World) (h : opB c = false) :
    Calls Tryz.prog 19 #[.int .i64 c, .string s] w fun e w' => e = .returned (.tuple #[.string ⟨#[]⟩, .int .i64 10]) ∧ w' = w := by
  go_enter Tryz.func19, Tryz.ntmps19
  go_wp2_with (go_at_call 39; refine (c27 _ _).mono ?_; rintro e w' ⟨rfl, rfl⟩)
  go_ret2
  exact ⟨rfl, rfl⟩
set_option maxHeartbeats 1000000 in
theorem c17plain (c : Int) (s : ByteArray) (w : World) (h : opB c = true) (hc : (c == 19) = false) (hs : s.size ≤ 1048576) :
    Calls Tryz.prog 19 #[.int .i64 c, .string s] w fun e w' => e = .returned (.tuple #[.string (strOfNums (acc c s.data.toList)), .int .i64 0]) ∧ Below w.heap.size w w' := by
  obtain ⟨i0, hi, hz0, hz1, hz2⟩ := info_parts info5
  go_enter Tryz.func19, Tryz.ntmps19
  go_wp2_with (go_at_call 39; refine (c27 _ _).mono ?_; rintro e w' ⟨rfl, hw⟩; obtain rfl := hw.symm)
  go_loopw [6, 7, 8] (fun v i _ wr => ∃ k : Nat, k ≤ s.size ∧ i = .int .i64 k ∧ wr.ownsRow w.heap.size 5 1 v (acc c (s.data.toList.take k)).length ((acc c (s.data.toList.take k)).map (Value.int .u8)) ∧ Below w.heap.size w wr) (fun _ i _ _ => s.size - (intOf i).toNat)
  case atStart =>
    have e : acc c (s.data.toList.take 0) = [] := by
      have : c ≠ 19 := by simpa using hc
      simp [acc, pre, mid, this]
    exact ⟨0, Nat.zero_le _, rfl, by rw [e]; exact World.ownsRow_nil _ _ _ _, Below.refl _ _⟩
  case round =>
    obtain ⟨k, hk, rfl, hown, hbel⟩ := hrel
    have Hsn := hide (acc_snoc c s k)
    have hl1 := acc_len c (s.data.toList.take k)
    have hl2 : (s.data.toList.take k).length ≤ k := List.length_take_le _ _
    have Hall : Hid (k = s.size → acc c (s.data.toList.take k) = acc c s.data.toList) := by
      intro e; rw [List.take_of_length_le (by simp [e])]
    generalize hA : acc c (s.data.toList.take k) = A at *
    have HA := hide hA
    clear hA
    by_cases hlt : k < s.size
    · have hpc := hide (pc_ok c s[k].toNat ⟨byte_ge _, byte_le _⟩)
      have hsz := hide hbel.size
      go_wp2_with fail
      refine (c28 _ _ _ (byte_ge _) (byte_le _)).mono ?_
      rintro e w2 ⟨rfl, hb2⟩
      have hown2 := owns_below hown hb2
      have hbel2 := hbel.trans (hb2.mono hbel.size)
      clear hown hbel hb2
      have HS := Hsn.out hlt
      clear Hsn
      generalize hP : pc c s[k].toNat = P at *
      have HS' := hide HS
      clear HS hP
      go_wp2_with (at_builtin; refine Lib.wpList_append_own_string _ rfl _ _ 76 9 rfl w.heap.size 5 i0 Tryz.underlying76 Tryz.underlying9 hi hz0 hz1 hz2 _ _ _ rfl hown2 (strOfNums P) rfl ?c1 ?c2 ?c3 ?_)
      case c1 => rw [strOfNums_size]; have := hpc.out.2; unfold maxLen; omega
      case c2 => rw [strOfNums_size]; have := hpc.out.2; omega
      case c3 => exact hbel2.size
      intro v' w3 hown3 hg3 _
      rw [nums_cells P hpc.out.1, ← List.map_append, strOfNums_size, ← List.length_append, ← HS'.out] at hown3
      have hbel3 := hbel2.grown hg3 hbel2.size (fun j hj => (hown2.lt j hj).1)
      clear hown2 hbel2 hg3
      go_wp2
      go_roundw
      case rel => exact ⟨k + 1, by omega, by go_num, hown3, hbel3⟩
      case measure => simp [intOf]; omega
    · have HA2 := Hall.out (by omega)
      subst HA2
      have kc := cv_own wr w.heap.size _ _ _ hown
      go_wp2
      go_ret2
      exact ⟨rfl, hbel⟩
theorem one_cells (w : World) : ∀ (j : Nat) (u : Value), [Value.int IntKind.u8 39][j]? = some u → (w.alloc (.cells #[.int .u8 39] 5)).cell? ((⟨w.heap.size, 0, none⟩ : Addr).add j) = some u := by
  intro j u hj
  match j, hj with
  | 0, hj => simp at hj; subst hj; simp [Addr.add]
theorem one_one : ∀ u ∈ [Value.int IntKind.u8 39], u.oneCell' = true := by
  intro u hu; simp at hu; subst hu; rfl
theorem acc_start : acc 19 [] = [39] := by decide
theorem acc_end (l : List UInt8) : escL 19 l = acc 19 l ++ [39] := by simp [escL, pre]
set_option maxHeartbeats 1000000 in
theorem c17code (s : ByteArray) (w : World) (hs : s.size ≤ 1048576) :
    Calls Tryz.prog 19 #[.int .i64 19, .string s] w fun e w' => e = .returned (.tuple #[.string (strOfNums (escL 19 s.data.toList)), .int .i64 0]) ∧ Below w.heap.size w w' := by
  obtain ⟨i0, hi, hz0, hz1, hz2⟩ := info_parts info5
  have h19 : opB 19 = true := by decide
  go_enter Tryz.func19, Tryz.ntmps19
  go_wp2_with (first | (go_at_call 39; refine (c27 _ _).mono ?_; rintro e w' ⟨rfl, hw⟩; obtain rfl := hw.symm) | (at_builtin; refine wpList_append_own _ rfl _ _ 76 rfl w.heap.size 5 i0 (.int .u8 0) 1 1 Tryz.underlying76 hi hz0 hz1 hz2 rfl (by decide) (.slice none 0 0) 0 [] rfl (World.ownsRow_nil _ _ _ _) ⟨w.heap.size, 0, none⟩ 1 1 [.int .u8 39] rfl rfl ?c1 ?c2 ?c3 ?c4 ?c5 ?_))
  case c1 => exact one_cells w
  case c2 => exact one_one
  case c3 => unfold maxLen; omega
  case c4 => omega
  case c5 => simp
  intro v0 w0 hown0 hg0 _
  have hbel0 : Below w.heap.size w w0 := ((Below.refl _ _).alloc (Nat.le_refl _) _).grown hg0 (by simp) (fun k hk => by simp [Value.ownBlock] at hk)
  clear hg0
  go_wp2
  go_loopw [6, 7, 8] (fun v i _ wr => ∃ k : Nat, k ≤ s.size ∧ i = .int .i64 k ∧ wr.ownsRow w.heap.size 5 1 v (acc 19 (s.data.toList.take k)).length ((acc 19 (s.data.toList.take k)).map (Value.int .u8)) ∧ Below w.heap.size w wr) (fun _ i _ _ => s.size - (intOf i).toNat)
  case atStart =>
    refine ⟨0, Nat.zero_le _, rfl, ?_, hbel0⟩
    rw [List.take_zero, acc_start]
    exact hown0
  case round =>
    clear hown0 hbel0
    obtain ⟨k, hk, rfl, hown, hbel⟩ := hrel
    have Hsn := hide (acc_snoc 19 s k)
    have hl1 := acc_len 19 (s.data.toList.take k)
    have hl2 : (s.data.toList.take k).length ≤ k := List.length_take_le _ _
    have Hall : Hid (k = s.size → acc 19 (s.data.toList.take k) = acc 19 s.data.toList) := by
      intro e; rw [List.take_of_length_le (by simp [e])]
    generalize hA : acc 19 (s.data.toList.take k) = A at *
    have HA := hide hA
    clear hA
    by_cases hlt : k < s.size
    · have hpc := hide (pc_ok 19 s[k].toNat ⟨byte_ge _, byte_le _⟩)
      have hsz := hide hbel.size
      go_wp2_with fail
      refine (c28 _ _ _ (byte_ge _) (byte_le _)).mono ?_
      rintro e w2 ⟨rfl, hb2⟩
      have hown2 := owns_below hown hb2
      have hbel2 := hbel.trans (hb2.mono hbel.size)
      clear hown hbel hb2
      have HS := Hsn.out hlt
      clear Hsn
      generalize hP : pc 19 s[k].toNat = P at *
      have HS' := hide HS
      clear HS hP
      go_wp2_with (at_builtin; refine Lib.wpList_append_own_string _ rfl _ _ 76 9 rfl w.heap.size 5 i0 Tryz.underlying76 Tryz.underlying9 hi hz0 hz1 hz2 _ _ _ rfl hown2 (strOfNums P) rfl ?c1 ?c2 ?c3 ?_)
      case c1 => rw [strOfNums_size]; have := hpc.out.2; unfold maxLen; omega
      case c2 => rw [strOfNums_size]; have := hpc.out.2; omega
      case c3 => exact hbel2.size
      intro v' w3 hown3 hg3 _
      rw [nums_cells P hpc.out.1, ← List.map_append, strOfNums_size, ← List.length_append, ← HS'.out] at hown3
      have hbel3 := hbel2.grown hg3 hbel2.size (fun j hj => (hown2.lt j hj).1)
      clear hown2 hbel2 hg3
      go_wp2
      go_roundw
      case rel => exact ⟨k + 1, by omega, by go_num, hown3, hbel3⟩
      case measure => simp [intOf]; omega
    · have HA2 := Hall.out (by omega)
      subst HA2
      have hsz := hbel.size
      go_wp2_with (at_builtin; refine wpList_append_own _ rfl _ _ 76 rfl w.heap.size 5 i0 (.int .u8 0) 1 1 Tryz.underlying76 hi hz0 hz1 hz2 rfl (by decide) _ _ _ rfl (hown.alloc _) ⟨wr.heap.size, 0, none⟩ 1 1 [.int .u8 39] rfl rfl ?c1 ?c2 ?c3 ?c4 ?c5 ?_)
      case c3 => unfold maxLen; omega
      case c4 => omega
      case c5 => omega
      all_goals first | (show (Value.int IntKind.u8 39).oneCell' = true; rfl) | skip
      intro v4 w4 hown4 hg4 _
      have hbel4 : Below w.heap.size w w4 := (hbel.alloc hbel.size _).grown hg4 (by simp; omega) (fun j hj => (hown.lt j hj).1)
      have kc := cv_own w4 w.heap.size v4 (escL 19 s.data.toList) _ (by rw [acc_end, List.map_append]; exact hown4)
      clear hown4 hg4 hown hbel
      go_wp2
      go_ret2
      exact ⟨rfl, hbel4⟩
theorem escL_plain (c : Int) (l : List UInt8) (h : (c == 19) = false) : escL c l = acc c l := by
  have : c ≠ 19 := by simpa using h
  simp [escL, pre, this]
theorem c17 (c : Int) (s : ByteArray) (w : World) (h : opB c = true) (hs : s.size ≤ 1048576) :
    Calls Tryz.prog 19 #[.int .i64 c, .string s] w fun e w' => e = .returned (.tuple #[.string (strOfNums (escL c s.data.toList)), .int .i64 0]) ∧ Below w.heap.size w w' := by
  by_cases hc : c = 19
  · subst hc; exact c17code s w hs
  · have hc' : (c == 19) = false := by simpa using hc
    rw [escL_plain c _ hc']
    exact c17plain c s w h hc' hs
set_option maxHeartbeats 400000 in
theorem c11 (c : Int) (s : ByteArray) (w : World) (h : opB c = true) (hs : s.size ≤ 1048576) :
    Calls Tryz.prog 11 #[.int .i64 c, .string s] w fun e w' => e = .returned (.tuple #[.string (strOfNums (escL c s.data.toList)), .int .i64 0]) ∧ Below w.heap.size w w' := by
  go_enter Tryz.func11, Tryz.ntmps11
  go_wp2_with (go_at_call 19; refine (c17 _ _ _ h hs).mono ?_; rintro e w' ⟨rfl, hb⟩)
  go_ret2
  exact ⟨rfl, hb⟩
set_option maxHeartbeats 400000 in
theorem c11no (c : Int) (s : ByteArray) (w : World) (h : opB c = false) :
    Calls Tryz.prog 11 #[.int .i64 c, .string s] w fun e w' => e = .returned (.tuple #[.string ⟨#[]⟩, .int .i64 10]) ∧ w' = w := by
  go_enter Tryz.func11, Tryz.ntmps11
  go_wp2_with (go_at_call 19; refine (c17no _ _ _ h).mono ?_; rintro e w' ⟨rfl, rfl⟩)
  go_ret2
  exact ⟨rfl, rfl⟩
end Go.Proofs.YtffkejkgkgfnhabGreat
/-
  THE PLAIN MATHEMATICS OF PAGES: what a page is, by its pieces and its data. No Go.
-/
namespace Go.Proofs.YtffkejkgkgfnhabGreat
open Go.RowKit
set_option linter.unusedVariables false
structure Pst where
  out : ByteArray
  steps : Nat
  err : Int
def ctxO (o : ByteArray) : Int := scn 0 o.data.toList
def byt (b : UInt8) : ByteArray := ⟨#[b]⟩
def txtF (tr : Bool) : List UInt8 → Pst → Pst
  | [], st => st
  | b :: r, st => if 2000 ≤ st.out.size then { st with err := 13 } else if tr = true ∧ ctxO (st.out ++ byt b) = -1 then { st with out := st.out ++ byt b, err := 9 } else txtF tr r { st with out := st.out ++ byt b }
def escB (x : Int) (t : ByteArray) : ByteArray := strOfNums (escL x t.data.toList)
def holF (t : ByteArray) (st : Pst) : Pst :=
  if opB (ctxO st.out) = true then (if 2000 < st.out.size + (escB (ctxO st.out) t).size then { st with err := 13 } else { st with out := st.out ++ escB (ctxO st.out) t }) else { st with err := 10 }
def Dat.fnd (nm : ByteArray) : Dat → Option (ByteArray × Bool × ByteArray × Dat)
  | .fld n l t rows r => if nmEq n nm = true then some (n, l, t, rows) else r.fnd nm
  | _ => none
/-- the rows one is in, the innermost last -/
def lkp (nm : ByteArray) (R : List Dat) : Option (ByteArray × Bool × ByteArray × Dat) := R.reverse.findSome? (Dat.fnd nm)
def lopF (B : Nds → List Dat → Pst → Pst) (th : Nds) (R : List Dat) : Dat → Pst → Pst
  | .row f r, st => if st.err ≠ 0 then st else if 500 ≤ st.steps then { st with err := 12 } else lopF B th R r (B th (R ++ [f]) { st with steps := st.steps + 1 })
  | _, st => st
def yesF (l : Bool) (t : ByteArray) (rows : Dat) : Bool := if l = true then decide (0 < rows.len) else decide (0 < t.size)
def fldF (B : Nds → List Dat → Pst → Pst) (R : List Dat) (k : Int) (th el : Nds) (x : ByteArray × Bool × ByteArray × Dat) (st : Pst) : Pst :=
  if k = 2 then (if x.2.1 = true then { st with err := 8 } else holF x.2.2.1 st)
  else if k = 3 then (if yesF x.2.1 x.2.2.1 x.2.2.2 = true then B th R st else B el R st)
  else if k = 4 then (if x.2.1 = true then lopF B th R x.2.2.2 st else { st with err := 8 })
  else st
def insF (B : Nds → List Dat → Pst → Pst) (ts : List Tm) (R : List Dat) (k : Int) (nm : ByteArray) (th el : Nds) (st : Pst) : Pst :=
  if k = 5 then B (bod ts (tno ts nm)) R st else match lkp nm R with
    | none => { st with err := 7 }
    | some x => fldF B R k th el x st
def pceF (B : Nds → List Dat → Pst → Pst) (ts : List Tm) (R : List Dat) (k : Int) (nm : ByteArray) (th el : Nds) (st : Pst) : Pst :=
  if 500 ≤ st.steps then { st with err := 12 } else insF B ts R k nm th el { st with steps := st.steps + 1 }
def bdyF (B : Nds → List Dat → Pst → Pst) (ts : List Tm) (tr : Bool) (R : List Dat) : Nds → Pst → Pst
  | .nil, st => st
  | .cons k _ nm th el _ r, st => if st.err ≠ 0 then st else bdyF B ts tr R r (if k = 1 then txtF tr nm.data.toList st else pceF B ts R k nm th el st)
/-- n: no fewer than the steps that are left -/
def pagF (ts : List Tm) (tr : Bool) : Nat → Nds → List Dat → Pst → Pst
  | 0 => fun b R st => bdyF (fun _ _ s => s) ts tr R b st
  | n + 1 => fun b R st => bdyF (pagF ts tr n) ts tr R b st
def subF (ts : List Tm) (tr : Bool) : Nat → Nds → List Dat → Pst → Pst
  | 0 => fun _ _ s => s
  | n + 1 => pagF ts tr n
theorem pagF_eq (ts : List Tm) (tr : Bool) (n : Nat) (b : Nds) (R : List Dat) (st : Pst) : pagF ts tr n b R st = bdyF (subF ts tr n) ts tr R b st := by cases n <;> rfl
def RisB (B : Nds → List Dat → Pst → Pst) : Prop := ∀ b R st, st.steps ≤ (B b R st).steps
theorem txtF_steps (tr : Bool) (l : List UInt8) (st : Pst) : (txtF tr l st).steps = st.steps := by
  induction l generalizing st with
  | nil => rfl
  | cons b r ih =>
    simp only [txtF]
    (repeat' split) <;> simp [ih]
theorem holF_steps (t : ByteArray) (st : Pst) : (holF t st).steps = st.steps := by
  unfold holF
  (repeat' split) <;> rfl
theorem lopF_steps (B : Nds → List Dat → Pst → Pst) (th : Nds) (R : List Dat) (hB : RisB B) : ∀ (d : Dat) (st : Pst), st.steps ≤ (lopF B th R d st).steps
  | .nil, st => Nat.le_refl _
  | .fld _ _ _ _ _, st => Nat.le_refl _
  | .row f r, st => by
    simp only [lopF]
    split
    · exact Nat.le_refl _
    · split
      · exact Nat.le_refl _
      · have h1 := lopF_steps B th R hB r (B th (R ++ [f]) { st with steps := st.steps + 1 })
        have h2 := hB th (R ++ [f]) { st with steps := st.steps + 1 }
        simp only at h2
        omega
theorem pceF_steps (B : Nds → List Dat → Pst → Pst) (ts : List Tm) (R : List Dat) (hB : RisB B) (k : Int) (nm : ByteArray) (th el : Nds) (st : Pst) : st.steps ≤ (pceF B ts R k nm th el st).steps := by
  unfold pceF
  split
  · exact Nat.le_refl _
  · unfold insF
    split
    · have := hB (bod ts (tno ts nm)) R { st with steps := st.steps + 1 }
      simp only at this; omega
    · split
      · simp
      · unfold fldF
        have h1 := hB th R { st with steps := st.steps + 1 }
        have h2 := hB el R { st with steps := st.steps + 1 }
        rename_i x _
        have h3 := lopF_steps B th R hB x.2.2.2 { st with steps := st.steps + 1 }
        have h4 := holF_steps x.2.2.1 { st with steps := st.steps + 1 }
        simp only at h1 h2 h3 h4
        (repeat' split) <;> first | omega | (simp only; omega)
theorem bdyF_steps (B : Nds → List Dat → Pst → Pst) (ts : List Tm) (tr : Bool) (R : List Dat) (hB : RisB B) : ∀ (b : Nds) (st : Pst), st.steps ≤ (bdyF B ts tr R b st).steps
  | .nil, st => Nat.le_refl _
  | .cons k a nm th el tw r, st => by
    simp only [bdyF]
    split
    · exact Nat.le_refl _
    · refine Nat.le_trans ?_ (bdyF_steps B ts tr R hB r _)
      split
      · rw [txtF_steps]; exact Nat.le_refl _
      · exact pceF_steps B ts R hB k nm th el st
theorem pagF_steps (ts : List Tm) (tr : Bool) (n : Nat) : RisB (pagF ts tr n) := by
  induction n with
  | zero => intro b R st; exact bdyF_steps _ ts tr R (fun _ _ _ => Nat.le_refl _) b st
  | succ n ih => intro b R st; exact bdyF_steps _ ts tr R ih b st
theorem subF_steps (ts : List Tm) (tr : Bool) (n : Nat) : RisB (subF ts tr n) := by
  cases n with
  | zero => intro b R st; exact Nat.le_refl _
  | succ n => exact pagF_steps ts tr n
/-- no more than may be -/
def Fit (st : Pst) : Prop := st.out.size ≤ 2000 ∧ st.steps ≤ 500
theorem byt_size (b : UInt8) : (byt b).size = 1 := rfl
end Go.Proofs.YtffkejkgkgfnhabGreat
namespace Go.Proofs.YtffkejkgkgfnhabGreat
open Go.RowKit
set_option linter.unusedVariables false
set_option maxHeartbeats 400000 in
theorem c66 (b : Int) (w : World) (h0 : 0 ≤ b) (h1 : b ≤ 255) :
    Calls Tryz.prog 41 #[.int .u8 b] w fun e w' => e = .returned (.bool (ltB b)) ∧ w' = w := by
  go_enter Tryz.func41, Tryz.ntmps41
  go_wp2
  all_goals go_ret
  all_goals refine ⟨ret_bool ?_, rfl⟩
  all_goals grind (splits := 40) [ltB]
set_option maxHeartbeats 400000 in
theorem c67 (b : Int) (w : World) (h0 : 0 ≤ b) (h1 : b ≤ 255) :
    Calls Tryz.prog 42 #[.int .u8 b] w fun e w' => e = .returned (.bool (dgB b)) ∧ w' = w := by
  go_enter Tryz.func42, Tryz.ntmps42
  go_wp2
  all_goals go_ret
  all_goals refine ⟨ret_bool ?_, rfl⟩
  all_goals grind (splits := 40) [dgB]
set_option maxHeartbeats 400000 in
theorem c85 (b : Int) (w : World) (h0 : 0 ≤ b) (h1 : b ≤ 255) :
    Calls Tryz.prog 64 #[.int .u8 b] w fun e w' => e = .returned (.bool (spB b)) ∧ w' = w := by
  go_enter Tryz.func64, Tryz.ntmps64
  go_wp2
  all_goals go_ret
  all_goals refine ⟨ret_bool ?_, rfl⟩
  all_goals grind (splits := 40) [spB]
set_option maxHeartbeats 400000 in
theorem c62 (x b : Int) (w : World) (h0 : 0 ≤ b) (h1 : b ≤ 255) (hx : x = 0 ∨ x = 1 ∨ x = 2) :
    Calls Tryz.prog 35 #[.int .i64 x, .int .u8 b] w fun e w' => e = .returned (.int .i64 (stp x b)) ∧ w' = w := by
  go_enter Tryz.func35, Tryz.ntmps35
  go_wp2_with (first | (go_at_call 41; refine (c66 _ _ (by omega) (by omega)).mono ?_; rintro e w' ⟨rfl, rfl⟩))
  all_goals go_ret
  all_goals refine ⟨ret_int ?_, rfl⟩
  all_goals grind (splits := 40) [stp, ltB]
set_option maxHeartbeats 400000 in
theorem c63 (x b : Int) (w : World) (h0 : 0 ≤ b) (h1 : b ≤ 255) (hx : 19 ≤ x ∧ x ≤ 23) :
    Calls Tryz.prog 36 #[.int .i64 x, .int .u8 b] w fun e w' => e = .returned (.int .i64 (cd x b)) ∧ w' = w := by
  go_enter Tryz.func36, Tryz.ntmps36
  go_wp2
  all_goals go_ret
  all_goals refine ⟨ret_int ?_, rfl⟩
  all_goals grind (splits := 40) [cd]
set_option maxHeartbeats 1000000 in
theorem c65 (x b : Int) (w : World) (h0 : 0 ≤ b) (h1 : b ≤ 255) (hx : x = 3 ∨ x = 5 ∨ x = 7 ∨ x = 9 ∨ x = 11 ∨ x = 13 ∨ x = 15 ∨ x = 17) :
    Calls Tryz.prog 38 #[.int .i64 x, .int .u8 b] w fun e w' => e = .returned (.int .i64 (tg x b)) ∧ w' = w := by
  rcases hx with rfl | rfl | rfl | rfl | rfl | rfl | rfl | rfl
  all_goals
    go_enter Tryz.func38, Tryz.ntmps38
    go_wp2_with (first | (go_at_call 41; refine (c66 _ _ (by omega) (by omega)).mono ?_; rintro e w' ⟨rfl, rfl⟩) | (go_at_call 42; refine (c67 _ _ (by omega) (by omega)).mono ?_; rintro e w' ⟨rfl, rfl⟩) | (go_at_call 64; refine (c85 _ _ (by omega) (by omega)).mono ?_; rintro e w' ⟨rfl, rfl⟩))
    all_goals go_ret
    all_goals refine ⟨ret_int ?_, rfl⟩
    all_goals grind (splits := 60) [tg, wdB, ltB, dgB, spB]
end Go.Proofs.YtffkejkgkgfnhabGreat
