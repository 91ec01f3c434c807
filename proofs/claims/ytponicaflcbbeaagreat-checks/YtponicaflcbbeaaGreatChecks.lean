import Derived.Test.YtponicaflcbbeaaGreatPlays
import Derived.Test.YtponicaflcbbeaaGreatPchk
import Derived.SizedLaws
namespace Go.Proofs.YtponicaflcbbeaaGreat
open Go.ChangeShapes Go.WideShapes Go.ChangeAt Go.RowKit Go.Deep
set_option linter.unusedVariables false
set_option maxHeartbeats 400000 in
theorem c14chk (p : Value) (n : Int) (s t : ByteArray) (d : Value) (w : World) (hs : s.size ≤ maxLen) :
    Calls Tryz.prog 8 #[p, .agg #[.int .i64 1, .int .i64 n, .string s, .string t, d]] w fun e w' => e = .returned (.bool true) ∧ Below w.heap.size w w' := by
  have Hc := hidS (fun w => c20 s w hs)
  have Hr := hidS (fun w => c21 s w hs)
  go_enter Tryz.func8, Tryz.ntmps8
  go_wp2_with fail
  refine (Hc.out _).mono ?_
  rintro e w1 ⟨hb1, x, y, rfl, h1⟩
  have hz : w.heap.size < w1.heap.size := by have := hb1.size; simp at this; omega
  have k2 : w1.cell? ⟨w.heap.size, 2, none⟩ = some (.string s) := (hb1.cell (p := ⟨w.heap.size, 2, none⟩) (by show w.heap.size < _; simp)).trans (by simp)
  have hb1' : Below w.heap.size w w1 := ((Below.refl _ _).alloc (Nat.le_refl _) _).trans (hb1.mono (by simp))
  have H1 := hidS h1
  clear hb1 h1 Hc
  go_wp2_with fail
  refine (Hr.out _).mono ?_
  rintro e w2 ⟨hb2, x', y', rfl, h2⟩
  have hb2' : Below w.heap.size w w2 := hb1'.trans (hb2.mono (by omega))
  obtain ⟨rfl, rfl⟩ := chkS_unique H1.out h2
  clear hb2 k2 h2 H1 Hr
  go_wp2
  go_ret
  exact ⟨ret_bool (by simp), hb2'⟩
set_option maxHeartbeats 400000 in
theorem walk3 (a : Option Addr) (len cap : Nat) (w : World) (hlen : len ≤ maxLen) (h : IsOps w a len (fun _ s _ => s.size ≤ maxLen)) :
    Calls Tryz.prog 3 #[.slice a len cap] w fun e w' => e = .returned (.bool true) ∧ Below w.heap.size w w' := by
  have H := hide h
  clear h
  go_enter Tryz.func3, Tryz.ntmps3
  go_wp2_with fail
  refine (c9ops 1 (fun _ s _ => s.size ≤ maxLen) (fun p n s t d w hs => c14chk p n s t d w hs) w a len cap hlen H.out).mono ?_
  rintro e w' ⟨rfl, hb⟩
  go_wp2
  go_ret
  exact ⟨rfl, hb⟩
theorem own3 : ownKnob Tryz.prog.godebug = none := by kernel_rfl
theorem laid3 : laidOutB Tryz.prog = true := by kernel_rfl
set_option maxRecDepth 100000 in
theorem lifted3 (os : Os) (started : os.Started) (H : Type) (enc : TypeId × Value → H) :
    ReturnsInHanded {} Tryz.checked os 3 .any (Rows.checksSpec.pre6 enc Tryz.prog Tryz.f3 Rows.checksRow.domain false) (Rows.checksSpec.post enc Tryz.prog Tryz.f3 false true false false) := by
  refine returnsInHanded_of_change (C := Tryz.checked) own3 started (by kernel_rfl) Tryz.func3
    (ChangeSpec.witness6 (enc := enc) (C := Tryz.checked) false ⟨#[], #[.slice none 0 0], []⟩ 8 (by kernel_rfl) (by kernel_rfl) (by kernel_rfl) (by kernel_rfl)) ?_
  intro W base args ds gs before hval0 hW hcnd _
  have hval : ∀ (j : Nat) t v, Tryz.f3.params[j]? = some t → args[j]? = some v → Value.okWide Tryz.prog W .any base t v := hval0
  have hW' := hW
  obtain ⟨p, q, hA0, hV, rfl, hfz, hnd⟩ := hW
  have hA : DataW.TrodAll enc Tryz.prog W 0 (fun _ => true) true Tryz.f3.params.toList args.toList ds p := hA0
  rw [Tryz.params3] at hA hval
  obtain ⟨v0, vs0, d0, ds0, p0, q0, hargs, rfl, rfl, h0, r0⟩ := trodAll_cons hA
  obtain ⟨rfl, rfl, rfl⟩ := trodAll_nil r0
  obtain rfl : args = #[v0] := by cases args; simp_all
  obtain ⟨rfl, rfl⟩ := trodVars_none hV
  obtain ⟨a0, len0, cap0, rfl⟩ := okWide_slice Tryz.underlying22 (hval 0 22 v0 rfl rfl)
  have k0 := h0
  have lt0 : ∀ x ∈ p0, x.block < W.heap.size := by obtain ⟨m, hm⟩ := k0; exact DataW.trod_lt m _ _ _ hm
  obtain ⟨hlen, hops⟩ : len0 ≤ maxLen ∧ IsOps W a0 len0 (fun _ s _ => s.size ≤ maxLen) := by
    obtain ⟨fuel, hf⟩ := h0
    obtain ⟨h1, h2⟩ := open_ops hf
    exact ⟨h1, h2.mono fun n s t h => h.1⟩
  clear hA0 hval0
  refine (walk3 a0 len0 cap0 W hlen hops).mono fun e W' ⟨he, bel⟩ => ?_
  subst he
  exact ⟨_, rfl, _, _, _, [], _, [], hW', trodAll_mk1 (shut_bool Tryz.underlying4 _), (trodAll_cons_mk (Below.trod laid3 (by kernel_rfl) (of_decide_eq_true (by kernel_rfl)) k0 bel lt0) trodAll_mk0), rfl, bel.frame _, fun h => by cases h⟩

theorem over3 : Rows.checksRow.holds Tryz.pinned (OpenSpec.ofChange Rows.checksSpec) :=
  OpenClaim.holds_of_wide 3 Tryz.f3 rfl rfl rfl rfl rfl rfl rfl ⟨rfl, rfl, rfl, rfl, rfl⟩ rfl rfl rfl rfl rfl (by kernel_rfl) Tryz.func3 (by kernel_rfl)
    (of_decide_eq_true (by kernel_rfl)) (by unfold Func.isWrapper; first | (rw [if_pos (by decide +kernel)]; kernel_rfl) | (rw [if_neg (by decide +kernel)]; exact ⟨rfl, rfl⟩))
    (fun os started H enc _ => lifted3 os started H enc)

theorem checks_proved : Rows.ChecksSaid := over3
#print axioms checks_proved
end Go.Proofs.YtponicaflcbbeaaGreat
