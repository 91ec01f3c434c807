import Derived.Test.YtffkejkgkgfnhaaG04
namespace Go.Proofs.Ytffkejkgkgfnhaa
open Go.ChangeShapes Go.WideShapes Go.ChangeAt Go.RowKit
open Go.ChangeMaps (open_string shut_string)
set_option linter.unusedVariables false
theorem c13 (c : Int) (ho : opB c = true) (l : List UInt8) (T : ByteArray) (w : World) (hl : l.length ≤ 1048576) (hT : T.data.toList = bts (mid c l)) :
    Calls Try.prog 13 #[.int .i64 c, .string T] w fun e w' => e = .returned (.tuple #[.string ⟨l.toArray⟩, .bool true]) ∧ Below w.heap.size w w' := by
  simp only [opB, decide_eq_true_eq] at ho
  by_cases h : c = 0 ∨ c = 15 ∨ c = 16
  · exact c13text c h l T w hl hT
  · by_cases h' : c = 17 ∨ c = 18
    · exact c13link c h' l T w hl hT
    · exact c13quote c (by omega) l T w hl hT
set_option maxHeartbeats 1000000 in
theorem walk8no (c : Int) (s : ByteArray) (w : World) (ho : opB c = false) :
    Calls Try.prog 5 #[.int .i64 c, .string s] w fun e w' => e = .returned (.bool true) ∧ Below w.heap.size w w' := by
  go_enter Try.func5, Try.ntmps5
  go_wp2_with (first | (go_at_call 11; refine (c11no _ _ _ ho).mono ?_; rintro e w' ⟨rfl, rfl⟩) | (go_at_call 12; refine (c12 _ _).mono ?_; rintro e w' ⟨rfl, rfl⟩))
  go_ret
  exact ⟨rfl, Below.refl _ _⟩
set_option maxHeartbeats 1000000 in
theorem walk8plain (c : Int) (s : ByteArray) (w : World) (hs : s.size ≤ 1048576) (ho : opB c = true) (hc : (c == 19) = false) :
    Calls Try.prog 5 #[.int .i64 c, .string s] w fun e w' => e = .returned (.bool true) ∧ Below w.heap.size w w' := by
  have Hc := hide (fun w => c11 c s w ho hs)
  have hE : (strOfNums (escL c s.data.toList)).data.toList = bts (mid c s.data.toList) := by
    rw [nums_list, escL_plain c _ hc]
    have : c ≠ 19 := by simpa using hc
    simp [acc, pre, this]
  have Hr := hide (fun w => c13 c ho s.data.toList _ w (by simpa using hs) hE)
  have hss : (⟨s.data.toList.toArray⟩ : ByteArray) = s := rfl
  rw [hss] at Hr
  clear hss hE
  generalize strOfNums (escL c s.data.toList) = E at *
  go_enter Try.func5, Try.ntmps5
  go_wp2_with (go_at_call 12; refine (c12 _ _).mono ?_; rintro e w' ⟨rfl, rfl⟩)
  refine (Hc.out _).mono ?_
  rintro e w1 ⟨rfl, hb⟩
  clear Hc
  go_wp2_with fail
  refine (Hr.out _).mono ?_
  rintro e w2 ⟨rfl, hb2⟩
  clear Hr
  have hb3 := hb.trans (hb2.mono hb.size)
  clear hb hb2
  go_wp2
  go_ret
  exact ⟨ret_bool (by simp), hb3⟩
set_option maxHeartbeats 1000000 in
theorem walk8code (s : ByteArray) (w : World) (hs : s.size ≤ 1048576) :
    Calls Try.prog 5 #[.int .i64 19, .string s] w fun e w' => e = .returned (.bool true) ∧ Below w.heap.size w w' := by
  have ho : opB 19 = true := by decide
  have Hc := hide (fun w => c11 19 s w ho hs)
  have hE : (strOfNums (escL 19 s.data.toList)).data.toList = [39] ++ (bts (mid 19 s.data.toList) ++ [39]) := by
    rw [nums_list]; simp [escL, acc, pre, bts]
  have hl := mid_len 19 s.data.toList
  generalize strOfNums (escL 19 s.data.toList) = E at *
  have hsz : E.size = (mid 19 s.data.toList).length + 2 := by
    have := congrArg List.length hE
    have e : E.data.toList.length = E.size := rfl
    rw [e] at this
    simp [bts_len] at this
    omega
  have hsl : s.data.toList.length = s.size := rfl
  have g2 : 2 ≤ E.size := by omega
  have g0 : 0 < E.size := by omega
  have g1 : E.size - 1 < E.size := by omega
  have i0 : (((E[0]'g0).toNat : Int) != 39) = false := by
    obtain ⟨hk, hi⟩ := idx_drop E 0 0 39 (by rw [hE]; rfl)
    have : E[0]'g0 = 39 := hi
    rw [this]; decide
  have i1 : (((E[E.size - 1]'g1).toNat : Int) != 39) = false := by
    obtain ⟨hk, hi⟩ := idx_drop E 0 (E.size - 1) 39 (by
      rw [hE, hsz]
      have e : (mid 19 s.data.toList).length + 2 - 1 = (bts (mid 19 s.data.toList)).length + 1 := by rw [bts_len]; omega
      rw [e]
      simp)
    have : E[E.size - 1]'g1 = 39 := by simpa using hi
    rw [this]; decide
  have hX : (E.extract 1 (E.size - 1)).data.toList = bts (mid 19 s.data.toList) := by
    rw [Lib.extract_data, hE, hsz]
    have e : (mid 19 s.data.toList).length + 2 - 1 - 1 = (bts (mid 19 s.data.toList)).length := by rw [bts_len]; omega
    rw [e]
    simp
  have Hr := hide (fun w => c13 19 ho s.data.toList _ w (by simpa using hs) hX)
  have hss : (⟨s.data.toList.toArray⟩ : ByteArray) = s := rfl
  rw [hss] at Hr
  have gm : E.size ≤ 6291458 := by omega
  clear hss hE hX hl hsz hsl
  go_enter Try.func5, Try.ntmps5
  go_wp2_with (go_at_call 12; refine (c12 _ _).mono ?_; rintro e w' ⟨rfl, rfl⟩)
  refine (Hc.out _).mono ?_
  rintro e w1 ⟨rfl, hb⟩
  clear Hc
  go_wp2_with fail
  refine (Hr.out _).mono ?_
  rintro e w2 ⟨rfl, hb2⟩
  clear Hr
  have hb3 := hb.trans (hb2.mono hb.size)
  clear hb hb2
  go_wp2
  go_ret
  exact ⟨ret_bool (by simp), hb3⟩
theorem walk8 (c : Int) (s : ByteArray) (w : World) (hs : s.size ≤ 1048576) :
    Calls Try.prog 5 #[.int .i64 c, .string s] w fun e w' => e = .returned (.bool true) ∧ Below w.heap.size w w' := by
  cases ho : opB c
  · exact walk8no c s w ho
  · by_cases hc : c = 19
    · subst hc; exact walk8code s w hs
    · exact walk8plain c s w hs ho (by simpa using hc)
set_option maxRecDepth 100000 in
theorem lifted8 (os : Os) (started : os.Started) (H : Type) (enc : TypeId × Value → H) (F : Stop.Interp) :
    ReturnsInHanded {} Try.checked os 5 .any ((Rows.OpenSpec.upto Rows.readSpec).pre6 enc Try.prog Try.f5 Rows.readUptoRow.domain false) (((Rows.OpenSpec.upto Rows.readSpec).at F).post enc Try.prog Try.f5 false true false false) := by
  refine returnsInHanded_of_cond (C := Try.checked) (s := Rows.OpenSpec.upto Rows.readSpec) (k := Rows.uptoSmall) rfl own7 started (by kernel_rfl) Try.func5
    (OpenSpec.witness (enc := enc) (C := Try.checked) (s := Rows.OpenSpec.upto Rows.readSpec) (k := Rows.uptoSmall) rfl false ⟨#[], #[.int .i64 0, .string ByteArray.empty], []⟩ 8 (by kernel_rfl) (by kernel_rfl) (by kernel_rfl)
      (x := ([.lit (.int .i64 0), .lit (.string [])], [], [])) (by kernel_rfl) rfl (by kernel_rfl)) ?_
  intro W base args ds gs before hval0 hW _ hk _
  have hval : ∀ (j : Nat) t v, Try.f5.params[j]? = some t → args[j]? = some v → Value.okWide Try.prog W .any base t v := hval0
  have hW' := hW
  obtain ⟨p, q, hA0, hV, rfl, hfz, hnd⟩ := hW
  have hA : DataW.TrodAll enc Try.prog W 0 (fun _ => true) true Try.f5.params.toList args.toList ds p := hA0
  rw [Try.params5] at hA hval
  obtain ⟨v0, vs0, d0, ds0, p0, q0, hargs, rfl, rfl, h0, r0⟩ := trodAll_cons hA
  obtain ⟨v1, vs1, d1, ds1, p1, q1, rfl, rfl, rfl, h1, r1⟩ := trodAll_cons r0
  obtain ⟨rfl, rfl, rfl⟩ := trodAll_nil r1
  obtain rfl : args = #[v0, v1] := by cases args; simp_all
  obtain ⟨rfl, rfl⟩ := trodVars_none hV
  obtain ⟨a0, rfl, rfl, rfl, w0⟩ := open_int Try.underlying3 (hval 0 3 v0 rfl rfl) h0
  obtain ⟨a1, rfl, rfl, rfl, w1⟩ := open_string Try.underlying9 (hval 1 9 v1 rfl rfl) h1
  clear hA0 hval0
  have hs : a1.size ≤ 1048576 := small_str a0 a1.data.toList hk
  refine (walk8 a0 a1 W hs).mono fun e W' ⟨he, bel⟩ => ?_
  subst he
  exact ⟨_, rfl, _, _, _, [], _, [], hW', trodAll_mk1 (shut_bool Try.underlying4 _), (trodAll_cons_mk (shut_int Try.underlying3 w0) (trodAll_cons_mk (shut_string Try.underlying9 w1) trodAll_mk0)), rfl, bel.frame _, fun h => by cases h⟩

theorem over8 : Rows.readUptoRow.holds Try.pinned (Rows.OpenSpec.upto Rows.readSpec) :=
  OpenClaim.holds_of_cond 5 Try.f5 rfl rfl rfl rfl rfl rfl rfl ⟨rfl, rfl, rfl, rfl, rfl⟩ rfl rfl rfl rfl rfl (by kernel_rfl) Try.func5 (by kernel_rfl)
    (of_decide_eq_true (by kernel_rfl)) (by unfold Func.isWrapper; first | (rw [if_pos (by decide +kernel)]; kernel_rfl) | (rw [if_neg (by decide +kernel)]; exact ⟨rfl, rfl⟩))
    (fun os started H enc _ F => lifted8 os started H enc F)

theorem read_proved : Rows.ReadUptoSaid := over8
#print axioms read_proved
end Go.Proofs.Ytffkejkgkgfnhaa
