import Derived.Test.YtffkejkgkgfnhabG29
import Derived.Test.YtffkejkgkgfnhabG19
import Derived.Test.YtffkejkgkgfnhabG25
namespace Go.Proofs.Ytffkejkgkgfnhab
open Go.RowKit
set_option linter.unusedVariables false
set_option maxHeartbeats 1000000 in
theorem qesc (c : Int) (s : ByteArray) (w : World) (h : opB c = true) (hs : s.size ≤ 1048576) : Calls Try.prog 15 #[.int .i64 c, .string s] w fun e w' => e = .returned (.string (escB c s)) ∧ Below w.heap.size w w' := by
  have Hc := hidS (c11 c s w h hs)
  clear h
  change Hid (Calls Try.prog 18 _ w fun e w' => e = .returned (.tuple #[.string (escB c s), .int .i64 0]) ∧ _) at Hc
  generalize escB c s = E at *
  go_enter Try.func15, Try.ntmps15
  go_wp2_with fail
  refine Hc.out.mono ?_
  rintro e w1 ⟨rfl, hb⟩
  go_wp2
  go_ret
  exact ⟨rfl, hb⟩
theorem mkB_esc (c : Int) (t : ByteArray) : mkB (btsW (escL c t.data.toList)) = escB c t := by
  apply ByteArray.ext
  apply Array.ext'
  rw [mkB_list]
  exact (numsW _).symm
theorem ca_lit : (⟨#[123, 43, 97, 125, 123, 62, 98, 125, 60, 105, 32, 116, 61, 34, 123, 62, 98, 125, 34, 62, 123, 45, 125, 123, 43, 98, 125, 123, 120, 125, 123, 45, 125]⟩ : ByteArray) = mkB caOut := by decide
theorem ca_want (x : ByteArray) : escB 0 x ++ ⟨#[60, 105, 32, 116, 61, 34]⟩ ++ escB 15 x ++ ⟨#[34, 62]⟩ = mkB (esT x ++ ([60, 105, 32, 116, 61, 34] ++ (esV x ++ [34, 62]))) := by
  simp only [mkB_app, esT, esV, mkB_esc, app_assoc]
  rfl
set_option maxRecDepth 100000 in
set_option maxHeartbeats 4000000 in
theorem qcal (hW : PWOK 16) (hR : PROKW 13) (w : World) (x : ByteArray) (hx : x.size ≤ 1048576) : Calls Try.prog 6 #[.string x] w fun e w' => e = .returned (.bool true) ∧ Below w.heap.size w w' := by
  have HW := hidS (hW (mkB caOut) (mkB [97]) w (by decide))
  rw [← ca_lit] at HW
  have HR := hidS hR
  have HE0 := hidS (fun w' => qesc 0 x w' (by decide) hx)
  have HE1 := hidS (fun w' => qesc 15 x w' (by decide) hx)
  have hl0 := escB_le 0 x
  have hl1 := escB_le 15 x
  have HWT := hidS (ca_want x)
  have HG := hidS (wsp_ok ca_walk)
  have HRen := hidS (fun (way : Int) (o : ByteArray) (y : Int) (hw : way = 0 ∨ way = 1) (h : RenS (mkB caOut) (mkB [97]) way (fDat x) o y) => page_law (m := 2) c_reads (by rw [ca_fa]; decide) (hw.imp id (fun e => ⟨e, HG.out⟩)) (by rw [ca_ta]; exact ca_page x) rfl h)
  clear hW hR
  generalize escB 0 x = E0 at *
  generalize escB 15 x = E1 at *
  go_enter Try.func6, Try.ntmps6
  go_wp2_with fail
  refine HW.out.mono ?_
  rintro e w1 ⟨hb1, a, c, xx, L, rfl, hown, hL, hPW⟩
  rw [ca_lit] at hPW
  obtain ⟨rfl, rfl⟩ := walk_law c_reads ca_walk hPW
  obtain ⟨g, hg, c0, c1⟩ := use_at hown 0 (by simp)
  subst hg
  obtain ⟨g', hg', c2, c3⟩ := use_at hown 1 (by simp)
  simp at hg'
  subst hg'
  have HB1 := hidS hb1
  clear hPW hb1 hown hL HW
  simp only [List.getElem_cons_zero, List.getElem_cons_succ] at c0 c1 c2 c3
  go_wp2_with fail
  refine (q19 _ _ _).mono ?_
  rintro e w2 ⟨rfl, hb2⟩
  have HB2 : Hid (Below w.heap.size w w2) := HB1.out.trans (hb2.mono HB1.out.size)
  clear c0 c1 c2 c3 hb2
  go_wp2_with fail
  refine (q18 _ _ _ _).mono ?_
  rintro e w3 ⟨rfl, hb3⟩
  have HV := hidS (f_dat x hb3)
  have HB3 : Hid (Below w.heap.size w w3) := (HB2.out.alloc HB2.out.size _).trans (hb3.mono (by simp; have := HB2.out.size; omega))
  clear hb3
  generalize w2.heap.size = g1 at *
  go_wp2_with fail
  have hd3 : ∀ o : Obj, Below w3.heap.size w3 (w3.alloc o) := fun o => (Below.refl _ _).alloc (Nat.le_refl _) o
  refine (HE0.out _).mono ?_
  rintro e w4 ⟨rfl, hb4⟩
  have HB4 : Hid (Below w3.heap.size w3 w4) := (hd3 _).trans (hb4.mono (by simp))
  have dc4 : w4.cell? ⟨w3.heap.size, 0, none⟩ = some (.slice (some ⟨g1, 0, none⟩) 1 1) := (hb4.cell (p := ⟨w3.heap.size, 0, none⟩) (by show w3.heap.size < _; simp)).trans (by simp)
  have hz4 : w3.heap.size < w4.heap.size := by have := hb4.size; simp at this; omega
  clear hb4
  go_wp2_with fail
  refine (HE1.out _).mono ?_
  rintro e w5 ⟨rfl, hb5⟩
  have dc5 := (hb5.cell (p := ⟨w3.heap.size, 0, none⟩) hz4).trans dc4
  have HB5 : Hid (Below w3.heap.size w3 w5) := HB4.out.trans (hb5.mono HB4.out.size)
  have hz5 : w3.heap.size < w5.heap.size := by have := hb5.size; omega
  clear hb5 dc4
  have hwl : (E0 ++ ⟨#[60, 105, 32, 116, 61, 34]⟩ ++ E1 ++ ⟨#[34, 62]⟩).size ≤ maxLen := by
    have e1 : (⟨#[60, 105, 32, 116, 61, 34]⟩ : ByteArray).size = 6 := rfl
    have e2 : (⟨#[34, 62]⟩ : ByteArray).size = 2 := rfl
    simp only [ByteArray.size_append, e1, e2]
    unfold maxLen
    omega
  have hb := q21w HR.out w5 (mkB caOut) (E0 ++ ⟨#[60, 105, 32, 116, 61, 34]⟩ ++ E1 ++ ⟨#[34, 62]⟩) (some ⟨g1, 0, none⟩) (fDat x) 1 (by decide) (DatV.mono HV.out HB5.out.size (fun q hq => HB5.out.block q hq)) ⟨trivial, trivial⟩ ⟨by unfold maxLen; omega, trivial, trivial⟩ (by show 1 ≤ 1; decide) (by unfold maxLen; omega) hwl (fun way o y hw h => by
    have t := HRen.out way o y hw h
    rw [HWT.out, mkB_size]
    exact ⟨fun q => t.1 (by decide) q, fun q => t.2.1 (by decide) q⟩)
  rw [← ca_lit] at hb
  have Hb := hidS hb
  clear hb hwl HWT HRen hd3
  go_wp2_with fail
  refine Hb.out.mono ?_
  rintro e w6 ⟨rfl, hb6⟩
  have HB6 : Hid (Below w.heap.size w w6) := HB3.out.trans ((HB5.out.trans (hb6.mono HB5.out.size)).mono HB3.out.size)
  clear hb6
  go_wp2
  go_ret
  exact ⟨rfl, HB6.out⟩
end Go.Proofs.Ytffkejkgkgfnhab
namespace Go.Proofs.Ytffkejkgkgfnhab
open Go.ChangeShapes Go.WideShapes Go.ChangeAt Go.RowKit Go.Deep
open Go.ChangeMaps (open_string shut_string)
set_option linter.unusedVariables false
set_option maxRecDepth 100000 in
theorem lift_called (os : Os) (started : os.Started) (H : Type) (enc : TypeId × Value → H) (F : Stop.Interp) :
    ReturnsInHanded {} Try.checked os 6 .any ((Rows.OpenSpec.upto Rows.calledSpec).pre6 enc Try.prog Try.f6 Rows.calledUptoRow.domain false) (((Rows.OpenSpec.upto Rows.calledSpec).at F).post enc Try.prog Try.f6 false true false false) := by
  refine returnsInHanded_of_cond (C := Try.checked) (s := Rows.OpenSpec.upto Rows.calledSpec) (k := Rows.uptoSmall) rfl ownK started (by kernel_rfl) Try.func6
    (OpenSpec.witness (enc := enc) (C := Try.checked) (s := Rows.OpenSpec.upto Rows.calledSpec) (k := Rows.uptoSmall) rfl false ⟨#[], #[.string ByteArray.empty], []⟩ 8 (by kernel_rfl) (by kernel_rfl) (by kernel_rfl)
      (x := ([.lit (.string [])], [], [])) (by kernel_rfl) rfl (by kernel_rfl)) ?_
  intro W base args ds gs before hval0 hW _ hk _
  have hval : ∀ (j : Nat) t v, Try.f6.params[j]? = some t → args[j]? = some v → Value.okWide Try.prog W .any base t v := hval0
  have hW' := hW
  obtain ⟨p, q, hA0, hV, rfl, hfz, hnd⟩ := hW
  have hA : DataW.TrodAll enc Try.prog W 0 (fun _ => true) true Try.f6.params.toList args.toList ds p := hA0
  rw [Try.params6] at hA hval
  obtain ⟨v0, vs0, d0, ds0, p0, q0, hargs, rfl, rfl, h0, r0⟩ := trodAll_cons hA
  obtain ⟨rfl, rfl, rfl⟩ := trodAll_nil r0
  obtain rfl : args = #[v0] := by cases args; simp_all
  obtain ⟨rfl, rfl⟩ := trodVars_none hV
  obtain ⟨a0, rfl, rfl, rfl, w0⟩ := open_string Try.underlying9 (hval 0 9 v0 rfl rfl) h0
  clear hA0 hval0
  have hb := of_decide_eq_true hk
  simp only [Rows.uptoBulkAll, Rows.uptoBulk, List.append_nil] at hb
  have z0 : a0.size ≤ 1048576 := by
    have e : a0.data.toList.length = a0.size := rfl
    omega
  refine (qcal p25 b30w W a0 z0).mono fun e W' ⟨he, bel⟩ => ?_
  subst he
  exact ⟨_, rfl, _, _, _, [], _, [], hW', trodAll_mk1 (shut_bool Try.underlying4 _), (trodAll_cons_mk (shut_string Try.underlying9 w0) trodAll_mk0), rfl, bel.frame _, fun h => by cases h⟩
theorem over_called : Rows.calledUptoRow.holds Try.pinned (Rows.OpenSpec.upto Rows.calledSpec) :=
  OpenClaim.holds_of_cond 6 Try.f6 rfl rfl rfl rfl rfl rfl rfl ⟨rfl, rfl, rfl, rfl, rfl⟩ rfl rfl rfl rfl rfl (by kernel_rfl) Try.func6 (by kernel_rfl)
    (of_decide_eq_true (by kernel_rfl)) (by unfold Func.isWrapper; first | (rw [if_pos (by decide +kernel)]; kernel_rfl) | (rw [if_neg (by decide +kernel)]; exact ⟨rfl, rfl⟩))
    (fun os started H enc _ F => lift_called os started H enc F)
theorem called_proved : Rows.CalledUptoSaid := over_called
end Go.Proofs.Ytffkejkgkgfnhab
