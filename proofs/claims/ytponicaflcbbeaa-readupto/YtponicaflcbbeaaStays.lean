import Derived.Test.YtponicaflcbbeaaRows
import Derived.Test.YtponicaflcbbeaaEscape
import Derived.ProofKit
import Derived.OpenShut
import Derived.ShutString
import Derived.JoinedCond
namespace Go.Proofs.Ytponicaflcbbeaa
open Go.ChangeShapes Go.WideShapes Go.ChangeAt Go.RowKit
open Go.ChangeMaps (open_string shut_string)
set_option linter.unusedVariables false
def bts (l : List Int) : List UInt8 := l.map fun n => UInt8.ofNat n.toNat
theorem bts_append (a b : List Int) : bts (a ++ b) = bts a ++ bts b := by simp [bts]
theorem nums_list (l : List Int) : (strOfNums l).data.toList = bts l := strOfNums_data l
def stB (c : Int) : Bool := decide (∀ n : Fin 256, scl c (bts (pc c (n.val : Int))) = c)
theorem st0 : stB 0 = true := by decide +kernel
theorem st15 : stB 15 = true := by decide +kernel
theorem st16 : stB 16 = true := by decide +kernel
theorem st17 : stB 17 = true := by decide +kernel
theorem st18 : stB 18 = true := by decide +kernel
theorem st21 : stB 21 = true := by decide +kernel
theorem st_at (c : Int) (h : stB c = true) (u : UInt8) : scl c (bts (pc c u.toNat)) = c := by
  unfold stB at h
  exact (of_decide_eq_true h) ⟨u.toNat, UInt8.toNat_lt u⟩
theorem st_mid (c : Int) (h : stB c = true) (l : List UInt8) : scl c (bts (mid c l)) = c := by
  induction l with
  | nil => rfl
  | cons u r ih =>
    have e : mid c (u :: r) = pc c u.toNat ++ mid c r := by simp [mid]
    rw [e, bts_append, scl_append, st_at c h, ih]
theorem mid_19 (l : List UInt8) : mid 19 l = mid 21 l := by
  have : ∀ b, pc 19 b = pc 21 b := by intro b; simp [pc]
  simp [mid, this]
theorem st_esc (c : Int) (h : opB c = true) (l : List UInt8) : scl c (bts (escL c l)) = c := by
  by_cases h19 : c = 19
  · subst h19
    have e1 : scl 19 (bts [39]) = 21 := by decide
    have e2 : scl 21 (bts [39]) = 19 := by decide
    have e3 := st_mid 21 st21 l
    have e4 : escL 19 l = [39] ++ (mid 21 l ++ [39]) := by simp [escL, acc, pre, mid_19]
    rw [e4, bts_append, scl_append, e1, bts_append, scl_append, e3, e2]
  · have e : escL c l = mid c l := by simp [escL, acc, pre, h19]
    rw [e]
    simp only [opB, decide_eq_true_eq] at h
    have : stB c = true := by
      rcases h with rfl | rfl | rfl | rfl | rfl | rfl | rfl
      · exact st0
      · exact st15
      · exact st16
      · exact st17
      · exact st18
      · exact absurd rfl h19
      · exact st21
    exact st_mid c this l
theorem opB_range (c : Int) (h : opB c = true) : 0 ≤ c ∧ c ≤ 23 := by
  simp only [opB, decide_eq_true_eq] at h; omega
theorem escL_len (c : Int) (l : List UInt8) : (escL c l).length ≤ 6 * l.length + 2 := by
  have h1 := acc_len c l
  have h2 := (pre_ok c).2
  rw [escL, List.length_append]; omega
set_option maxHeartbeats 400000 in
theorem c12 (c : Int) (w : World) : Calls Try.prog 8 #[.int .i64 c] w fun e w' => e = .returned (.bool (opB c)) ∧ w' = w := by
  go_enter Try.func8, Try.ntmps8
  go_wp2
  all_goals go_ret
  all_goals refine ⟨ret_bool ?_, rfl⟩
  all_goals grind (splits := 40) [opB]
set_option maxHeartbeats 1000000 in
theorem walk7 (c : Int) (s : ByteArray) (w : World) (hs : s.size ≤ 1048576) :
    Calls Try.prog 4 #[.int .i64 c, .string s] w fun e w' => e = .returned (.bool true) ∧ Below w.heap.size w w' := by
  cases ho : opB c
  · go_enter Try.func4, Try.ntmps4
    go_wp2_with (first | (go_at_call 7; refine (c11no _ _ _ ho).mono ?_; rintro e w' ⟨rfl, rfl⟩) | (go_at_call 8; refine (c12 _ _).mono ?_; rintro e w' ⟨rfl, rfl⟩))
    go_ret
    exact ⟨rfl, Below.refl _ _⟩
  · have hst := st_esc c ho s.data.toList
    have hr := opB_range c ho
    have hl := escL_len c s.data.toList
    have hq : (strOfNums (escL c s.data.toList)).size ≤ maxLen := by
      rw [strOfNums_size]; have : s.data.toList.length = s.size := rfl; unfold maxLen; omega
    have hsc : scn c (strOfNums (escL c s.data.toList)).data.toList = c := by
      rw [nums_list, scn_in _ _ hr.1 hr.2, hst]
    clear hst hl
    have Hc := hide (fun w => c11 c s w ho hs)
    generalize strOfNums (escL c s.data.toList) = E at *
    go_enter Try.func4, Try.ntmps4
    go_wp2_with fail
    refine (Hc.out w).mono ?_
    rintro e w' ⟨rfl, hb⟩
    clear Hc
    go_wp2_with (first | (go_at_call 8; refine (c12 _ _).mono ?_; rintro e w' ⟨rfl, rfl⟩) | (go_at_call 6; refine (c10 _ _ _ hq).mono ?_; rintro e w' ⟨rfl, rfl⟩))
    go_ret
    exact ⟨ret_bool (by simp), hb⟩
theorem own7 : ownKnob Try.prog.godebug = none := by kernel_rfl
theorem laid7 : laidOutB Try.prog = true := by kernel_rfl
theorem small_str {H : Type} (n : Int) (l : List UInt8) (hk : Rows.uptoSmall H [.lit (.int .i64 n), .lit (.string l)] = true) : l.length ≤ 1048576 := by
  have h := of_decide_eq_true hk
  simp only [Rows.uptoBulkAll, Rows.uptoBulk] at h
  omega
set_option maxRecDepth 100000 in
theorem lifted7 (os : Os) (started : os.Started) (H : Type) (enc : TypeId × Value → H) (F : Stop.Interp) :
    ReturnsInHanded {} Try.checked os 4 .any ((Rows.OpenSpec.upto Rows.staysSpec).pre6 enc Try.prog Try.f4 Rows.staysUptoRow.domain false) (((Rows.OpenSpec.upto Rows.staysSpec).at F).post enc Try.prog Try.f4 false true false false) := by
  refine returnsInHanded_of_cond (C := Try.checked) (s := Rows.OpenSpec.upto Rows.staysSpec) (k := Rows.uptoSmall) rfl own7 started (by kernel_rfl) Try.func4
    (OpenSpec.witness (enc := enc) (C := Try.checked) (s := Rows.OpenSpec.upto Rows.staysSpec) (k := Rows.uptoSmall) rfl false ⟨#[], #[.int .i64 0, .string ByteArray.empty], []⟩ 8 (by kernel_rfl) (by kernel_rfl) (by kernel_rfl)
      (x := ([.lit (.int .i64 0), .lit (.string [])], [], [])) (by kernel_rfl) rfl (by kernel_rfl)) ?_
  intro W base args ds gs before hval0 hW _ hk _
  have hval : ∀ (j : Nat) t v, Try.f4.params[j]? = some t → args[j]? = some v → Value.okWide Try.prog W .any base t v := hval0
  have hW' := hW
  obtain ⟨p, q, hA0, hV, rfl, hfz, hnd⟩ := hW
  have hA : DataW.TrodAll enc Try.prog W 0 (fun _ => true) true Try.f4.params.toList args.toList ds p := hA0
  rw [Try.params4] at hA hval
  obtain ⟨v0, vs0, d0, ds0, p0, q0, hargs, rfl, rfl, h0, r0⟩ := trodAll_cons hA
  obtain ⟨v1, vs1, d1, ds1, p1, q1, rfl, rfl, rfl, h1, r1⟩ := trodAll_cons r0
  obtain ⟨rfl, rfl, rfl⟩ := trodAll_nil r1
  obtain rfl : args = #[v0, v1] := by cases args; simp_all
  obtain ⟨rfl, rfl⟩ := trodVars_none hV
  obtain ⟨a0, rfl, rfl, rfl, w0⟩ := open_int Try.underlying3 (hval 0 3 v0 rfl rfl) h0
  obtain ⟨a1, rfl, rfl, rfl, w1⟩ := open_string Try.underlying9 (hval 1 9 v1 rfl rfl) h1
  clear hA0 hval0
  have hs : a1.size ≤ 1048576 := small_str a0 a1.data.toList hk
  refine (walk7 a0 a1 W hs).mono fun e W' ⟨he, bel⟩ => ?_
  subst he
  exact ⟨_, rfl, _, _, _, [], _, [], hW', trodAll_mk1 (shut_bool Try.underlying4 _), (trodAll_cons_mk (shut_int Try.underlying3 w0) (trodAll_cons_mk (shut_string Try.underlying9 w1) trodAll_mk0)), rfl, bel.frame _, fun h => by cases h⟩

theorem over7 : Rows.staysUptoRow.holds Try.pinned (Rows.OpenSpec.upto Rows.staysSpec) :=
  OpenClaim.holds_of_cond 4 Try.f4 rfl rfl rfl rfl rfl rfl rfl ⟨rfl, rfl, rfl, rfl, rfl⟩ rfl rfl rfl rfl rfl (by kernel_rfl) Try.func4 (by kernel_rfl)
    (of_decide_eq_true (by kernel_rfl)) (by unfold Func.isWrapper; first | (rw [if_pos (by decide +kernel)]; kernel_rfl) | (rw [if_neg (by decide +kernel)]; exact ⟨rfl, rfl⟩))
    (fun os started H enc _ F => lifted7 os started H enc F)

theorem stays_proved : Rows.StaysUptoSaid := over7
#print axioms stays_proved
end Go.Proofs.Ytponicaflcbbeaa
