import Derived.Test.YtffkejkgkgfnhaaG29
import Derived.Test.YtffkejkgkgfnhaaG37
import Derived.SliceStrings
namespace Go.Proofs.Ytffkejkgkgfnhaa
open Go.ChangeShapes Go.WideShapes Go.ChangeAt Go.RowKit Go.Deep
open Go.ChangeMaps (open_string shut_string)
set_option linter.unusedVariables false
theorem cells3F : Try.prog.cellsOf 3 = 1 := by kernel_rfl
theorem cells9F : Try.prog.cellsOf 9 = 1 := by kernel_rfl
theorem add_plain (b off i : Nat) : (⟨b, off, none⟩ : Addr).add i = ⟨b, off + i, none⟩ := by
  unfold Addr.add; split <;> simp_all
theorem open_kinds {H : Type} {enc : TypeId × Value → H} {w : World} {fuel : Nat} {ka : Option Addr} {kl kc : Nat} {x : DataW H × List MemPlace} (h : DataW.trod enc Try.prog w 0 (fun _ => true) true fuel 40 [.slice ka kl kc] = some x) :
    kl = 0 ∨ ∃ b off, ka = some ⟨b, off, none⟩ ∧ b < w.heap.size ∧ ∀ i, i < kl → ∃ n : Int, (-9223372036854775808 ≤ n ∧ n ≤ 9223372036854775807) ∧ w.cell? ⟨b, off + i, none⟩ = some (.int .i64 n) := by
  rcases open_ints Try.underlying40 Try.underlying3 cells3F h with ⟨hcs, _⟩ | ⟨a, len, cap, zs, hcs, _, hl, hm, hz, hx, hcell, hwf⟩
  · simp at hcs; exact .inl hcs.2.1
  · simp at hcs
    obtain ⟨rfl, rfl, rfl⟩ := hcs
    by_cases h0 : kl = 0
    · exact .inl h0
    · right
      have hzl : zs.length = kc := by simpa using hz
      have c0 := hcell 0 (by omega)
      obtain ⟨b, off, spot⟩ := a
      have hsp : spot = none := by
        have := World.cell?_spot c0
        simpa [Addr.add] using this
      subst hsp
      refine ⟨b, off, rfl, ?_, fun i hi => ?_⟩
      · have := World.block_lt_of_cell? w _ c0
        rw [add_plain] at this
        exact this
      · have ci := hcell i (by omega)
        rw [add_plain] at ci
        have hmem : zs.getD i 0 ∈ zs := by
          rw [List.getD_eq_getElem?_getD, List.getElem?_eq_getElem (by omega)]
          exact List.getElem_mem _
        have := hwf _ hmem
        simp only [Lit.wf, Bool.and_eq_true, decide_eq_true_eq] at this
        exact ⟨_, this, ci⟩
theorem open_texts {H : Type} {enc : TypeId × Value → H} {w : World} {fuel : Nat} {ta : Option Addr} {tl tc : Nat} {x : DataW H × List MemPlace} (h : DataW.trod enc Try.prog w 0 (fun _ => true) true fuel 41 [.slice ta tl tc] = some x) (hB : Rows.uptoBulk x.1 ≤ 1048576) :
    tl = 0 ∨ ∃ b off, ta = some ⟨b, off, none⟩ ∧ b < w.heap.size ∧ ∀ i, i < tl → ∃ s : ByteArray, s.size ≤ 1048576 ∧ w.cell? ⟨b, off + i, none⟩ = some (.string s) := by
  rcases open_strings Try.underlying41 Try.underlying9 cells9F h with ⟨hcs, _⟩ | ⟨a, len, cap, ss, hcs, _, hl, hm, hz, hx, hcell, hsz⟩
  · simp at hcs; exact .inl hcs.2.1
  · simp at hcs
    obtain ⟨rfl, rfl, rfl⟩ := hcs
    by_cases h0 : tl = 0
    · exact .inl h0
    · right
      have hzl : ss.length = tc := by simpa using hz
      have c0 := hcell 0 (by omega)
      obtain ⟨b, off, spot⟩ := a
      have hsp : spot = none := by
        have := World.cell?_spot c0
        simpa [Addr.add] using this
      subst hsp
      refine ⟨b, off, rfl, ?_, fun i hi => ?_⟩
      · have := World.block_lt_of_cell? w _ c0
        rw [add_plain] at this
        exact this
      · have ci := hcell i (by omega)
        rw [add_plain] at ci
        refine ⟨_, ?_, ci⟩
        rw [hx] at hB
        simp only [Rows.uptoBulk] at hB
        have hg : ss.getD i ByteArray.empty = ss[i]'(by omega) := by
          rw [List.getD_eq_getElem?_getD, List.getElem?_eq_getElem (by omega)]; rfl
        have hm2 : (.lit (.string (ss[i]'(by omega)).data.toList) : DataW H) ∈ strs (ss.take tl) := by
          refine List.mem_map.2 ⟨ss[i]'(by omega), ?_, rfl⟩
          rw [← List.getElem_take (xs := ss) (j := tl) (i := i) (h := by simp; omega)]
          exact List.getElem_mem _
        have hb1 := bulk_mem _ _ hm2
        simp only [Rows.uptoBulk] at hb1
        rw [hg]
        have e : (ss[i]'(by omega)).data.toList.length = (ss[i]'(by omega)).size := rfl
        omega
set_option maxRecDepth 100000 in
theorem lift_filled (os : Os) (started : os.Started) (H : Type) (enc : TypeId × Value → H) (F : Stop.Interp) :
    ReturnsInHanded {} Try.checked os 8 .any ((Rows.OpenSpec.upto Rows.filledSpec).pre6 enc Try.prog Try.f8 Rows.filledUptoRow.domain false) (((Rows.OpenSpec.upto Rows.filledSpec).at F).post enc Try.prog Try.f8 false true false false) := by
  refine returnsInHanded_of_cond (C := Try.checked) (s := Rows.OpenSpec.upto Rows.filledSpec) (k := Rows.uptoSmall) rfl ownK started (by kernel_rfl) Try.func8
    (OpenSpec.witness (enc := enc) (C := Try.checked) (s := Rows.OpenSpec.upto Rows.filledSpec) (k := Rows.uptoSmall) rfl false ⟨#[], #[.slice none 0 0, .slice none 0 0], []⟩ 8 (by kernel_rfl) (by kernel_rfl) (by kernel_rfl)
      (x := ([.nil, .nil], [], [])) (by kernel_rfl) rfl (by kernel_rfl)) ?_
  intro W base args ds gs before hval0 hW _ hk _
  have hval : ∀ (j : Nat) t v, Try.f8.params[j]? = some t → args[j]? = some v → Value.okWide Try.prog W .any base t v := hval0
  have hW' := hW
  obtain ⟨p, q, hA0, hV, rfl, hfz, hnd⟩ := hW
  have hA : DataW.TrodAll enc Try.prog W 0 (fun _ => true) true Try.f8.params.toList args.toList ds p := hA0
  rw [Try.params8] at hA hval
  obtain ⟨v0, vs0, d0, ds0, p0, q0, hargs, rfl, rfl, h0, r0⟩ := trodAll_cons hA
  obtain ⟨v1, vs1, d1, ds1, p1, q1, rfl, rfl, rfl, h1, r1⟩ := trodAll_cons r0
  obtain ⟨rfl, rfl, rfl⟩ := trodAll_nil r1
  obtain rfl : args = #[v0, v1] := by cases args; simp_all
  obtain ⟨rfl, rfl⟩ := trodVars_none hV
  obtain ⟨ka, kl, kc, rfl⟩ := okWide_slice Try.underlying40 (hval 0 40 v0 rfl rfl)
  obtain ⟨ta, tl, tc, rfl⟩ := okWide_slice Try.underlying41 (hval 1 41 v1 rfl rfl)
  have k0 := h0
  have k1 := h1
  have lt0 : ∀ x ∈ p0, x.block < W.heap.size := by obtain ⟨m, hm⟩ := k0; exact DataW.trod_lt m _ _ _ hm
  have lt1 : ∀ x ∈ p1, x.block < W.heap.size := by obtain ⟨m, hm⟩ := k1; exact DataW.trod_lt m _ _ _ hm
  have hK : kl = 0 ∨ ∃ b off, ka = some ⟨b, off, none⟩ ∧ b < W.heap.size ∧ ∀ i, i < kl → ∃ n : Int, (-9223372036854775808 ≤ n ∧ n ≤ 9223372036854775807) ∧ W.cell? ⟨b, off + i, none⟩ = some (.int .i64 n) := by
    obtain ⟨fuel, hf⟩ := h0
    exact open_kinds hf
  have hT : tl = 0 ∨ ∃ b off, ta = some ⟨b, off, none⟩ ∧ b < W.heap.size ∧ ∀ i, i < tl → ∃ s : ByteArray, s.size ≤ 1048576 ∧ W.cell? ⟨b, off + i, none⟩ = some (.string s) := by
    obtain ⟨fuel, hf⟩ := h1
    refine open_texts hf ?_
    have hb := of_decide_eq_true hk
    simp only [Rows.uptoBulkAll, List.append_nil] at hb
    show Rows.uptoBulk d1 ≤ _
    omega
  clear hA0 hval0
  refine (qfil p25 b30w W ka ta kl kc tl tc hK hT).mono fun e W' ⟨he, bel⟩ => ?_
  subst he
  exact ⟨_, rfl, _, _, _, [], _, [], hW', trodAll_mk1 (shut_bool Try.underlying4 _), (trodAll_cons_mk (Below.trod laidK (by kernel_rfl) (of_decide_eq_true (by kernel_rfl)) k0 bel lt0) (trodAll_cons_mk (Below.trod laidK (by kernel_rfl) (of_decide_eq_true (by kernel_rfl)) k1 bel lt1) trodAll_mk0)), rfl, bel.frame _, fun h => by cases h⟩
theorem over_filled : Rows.filledUptoRow.holds Try.pinned (Rows.OpenSpec.upto Rows.filledSpec) :=
  OpenClaim.holds_of_cond 8 Try.f8 rfl rfl rfl rfl rfl rfl rfl ⟨rfl, rfl, rfl, rfl, rfl⟩ rfl rfl rfl rfl rfl (by kernel_rfl) Try.func8 (by kernel_rfl)
    (of_decide_eq_true (by kernel_rfl)) (by unfold Func.isWrapper; first | (rw [if_pos (by decide +kernel)]; kernel_rfl) | (rw [if_neg (by decide +kernel)]; exact ⟨rfl, rfl⟩))
    (fun os started H enc _ F => lift_filled os started H enc F)
theorem filled_proved : Rows.FilledUptoSaid := over_filled
end Go.Proofs.Ytffkejkgkgfnhaa
