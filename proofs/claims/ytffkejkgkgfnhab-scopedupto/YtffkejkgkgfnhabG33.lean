import Derived.Test.YtffkejkgkgfnhabG32
import Derived.Test.YtffkejkgkgfnhabG25
namespace Go.Proofs.Ytffkejkgkgfnhab
open Go.RowKit
set_option linter.unusedVariables false
theorem s_src : (mkB [123, 43, 97, 125] ++ ⟨#[123, 120, 125, 123, 42, 114, 125, 123, 120, 125, 123, 121, 125, 123, 47, 125, 123, 120, 125]⟩ ++ mkB [123, 45, 125] : ByteArray) = mkB (tmOut [97] sSr) := by decide
theorem s_want (x y z : ByteArray) : escB 0 x ++ escB 0 z ++ escB 0 y ++ escB 0 x ++ escB 0 y ++ escB 0 x = mkB (esT x ++ (esT z ++ (esT y ++ (esT x ++ (esT y ++ esT x))))) := by
  simp only [mkB_app, esT, mkB_esc, app_assoc]
theorem s_dat {w4 w5 w6 w7 : World} {g1 ty1 ty2 : Nat} (x y z : ByteArray) (hZ : DatV w4 w4.heap.size (some ⟨g1, 0, none⟩) (fDat z)) (hb5 : Below (w4.alloc (.cells #[.slice (some ⟨g1, 0, none⟩) 1 1, .slice none 0 0] ty1)).heap.size (w4.alloc (.cells #[.slice (some ⟨g1, 0, none⟩) 1 1, .slice none 0 0] ty1)) w5) (hb6 : Below w5.heap.size w5 w6)
    (hb7 : Below (w6.alloc (.cells #[.string ⟨#[120]⟩, .bool false, .string x, .slice none 0 0, .string ⟨#[121]⟩, .bool false, .string y, .slice none 0 0, .string ⟨#[114]⟩, .bool true, .string ⟨#[]⟩, .slice (some ⟨w4.heap.size, 0, none⟩) 2 2] ty2)).heap.size (w6.alloc (.cells #[.string ⟨#[120]⟩, .bool false, .string x, .slice none 0 0, .string ⟨#[121]⟩, .bool false, .string y, .slice none 0 0, .string ⟨#[114]⟩, .bool true, .string ⟨#[]⟩, .slice (some ⟨w4.heap.size, 0, none⟩) 2 2] ty2)) w7) :
    DatV w7 w7.heap.size (some ⟨w6.heap.size, 0, none⟩) (sDat x y z) ∧ Below w4.heap.size w4 w7 := by
  have s5 : w4.heap.size + 1 ≤ w5.heap.size := by have := hb5.size; simpa using this
  have s6 := hb6.size
  have s7 : w6.heap.size + 1 ≤ w7.heap.size := by have := hb7.size; simpa using this
  have hR : ∀ j, w7.cell? ⟨w4.heap.size, j, none⟩ = #[Value.slice (some ⟨g1, 0, none⟩) 1 1, .slice none 0 0][j]? := fun j =>
    (hb7.cell (p := ⟨w4.heap.size, j, none⟩) (by show w4.heap.size < _; simp; omega)).trans ((World.cell?_alloc_lt _ _ _ (by show w4.heap.size < _; omega)).trans ((hb6.cell (p := ⟨w4.heap.size, j, none⟩) (by show w4.heap.size < _; omega)).trans ((hb5.cell (p := ⟨w4.heap.size, j, none⟩) (by show w4.heap.size < _; simp)).trans (by simp))))
  have hF : ∀ j, w7.cell? ⟨w6.heap.size, j, none⟩ = #[Value.string ⟨#[120]⟩, .bool false, .string x, .slice none 0 0, .string ⟨#[121]⟩, .bool false, .string y, .slice none 0 0, .string ⟨#[114]⟩, .bool true, .string ⟨#[]⟩, .slice (some ⟨w4.heap.size, 0, none⟩) 2 2][j]? := fun j =>
    (hb7.cell (p := ⟨w6.heap.size, j, none⟩) (by show w6.heap.size < _; simp)).trans (by simp)
  have hB : Below w4.heap.size w4 w7 := (((Below.refl _ _).alloc (Nat.le_refl _) _).trans (hb5.mono (by simp))).trans ((hb6.mono (by omega)).trans (((Below.refl _ _).alloc (by omega) _).trans (hb7.mono (by simp; omega))))
  have hZ7 : DatV w7 w7.heap.size (some ⟨g1, 0, none⟩) (fDat z) := DatV.mono hZ (by omega) (fun q hq => hB.block q hq)
  refine ⟨.inr ⟨w6.heap.size, 0, rfl, by omega, hF 0, hF 1, hF 2, ⟨none, 0, hF 3, Nat.le_refl _, Nat.zero_le _, .inl rfl⟩, hF 4, hF 5, hF 6, ⟨none, 0, hF 7, Nat.le_refl _, Nat.zero_le _, .inl rfl⟩, hF 8, hF 9, hF 10, ⟨some ⟨w4.heap.size, 0, none⟩, 2, hF 11, Nat.le_refl _, by unfold maxLen; omega, ?_⟩, trivial⟩, hB⟩
  exact .inr ⟨w4.heap.size, 0, rfl, by omega, ⟨some ⟨g1, 0, none⟩, 1, hR 0, Nat.le_refl _, by unfold maxLen; omega, hZ7⟩, ⟨none, 0, hR 1, Nat.le_refl _, Nat.zero_le _, .inl rfl⟩, trivial⟩
set_option maxRecDepth 100000 in
set_option maxHeartbeats 4000000 in
theorem qsco (hW : PWOK 16) (hR0 : PROK 13) (hR : PROKW 13) (w : World) (x y z : ByteArray) (hx : x.size ≤ 1048576) (hy : y.size ≤ 1048576) (hz : z.size ≤ 1048576) : Calls Try.prog 5 #[.string x, .string y, .string z] w fun e w' => e = .returned (.bool true) ∧ Below w.heap.size w w' := by
  have Hk := hidS (q13 hW hR0 w)
  have Hp := hidS (fun w' => q17 w' ⟨#[123, 120, 125, 123, 42, 114, 125, 123, 120, 125, 123, 121, 125, 123, 47, 125, 123, 120, 125]⟩ (by decide))
  rw [s_src] at Hp
  have HR := hidS hR
  have HEx := hidS (fun w' => qesc 0 x w' (by decide) hx)
  have HEy := hidS (fun w' => qesc 0 y w' (by decide) hy)
  have HEz := hidS (fun w' => qesc 0 z w' (by decide) hz)
  have hlx := escB_le 0 x
  have hly := escB_le 0 y
  have hlz := escB_le 0 z
  have HWT := hidS (s_want x y z)
  have HG := hidS (wsp_ok s_walk.choose_spec)
  have HRen := hidS (fun (way : Int) (o : ByteArray) (r : Int) (hw : way = 0 ∨ way = 1) (h : RenS (mkB (tmOut [97] sSr)) (mkB [97]) way (sDat x y z) o r) => page_law (m := 2) s_reads (by rw [s_fnd]; decide) (hw.imp id (fun e => ⟨e, HG.out⟩)) (by rw [s_tno]; exact s_page x y z) rfl h)
  clear hW hR hR0
  generalize escB 0 x = Ex at *
  generalize escB 0 y = Ey at *
  generalize escB 0 z = Ez at *
  have hsz : (mkB (tmOut [97] sSr)).size ≤ maxLen := by decide
  generalize mkB (tmOut [97] sSr) = S at *
  go_enter Try.func5, Try.ntmps5
  go_wp2_with fail
  refine Hk.out.mono ?_
  rintro e w1 ⟨rfl, hb1⟩
  have HB1 := hidS hb1
  clear hb1 Hk
  go_wp2_with (go_at_call 10; refine (Hp.out _).mono ?_; rintro e w' ⟨rfl, hw⟩; obtain rfl := hw.symm)
  refine (q19 _ _ _).mono ?_
  rintro e w2 ⟨rfl, hb2⟩
  have HB2 : Hid (Below w.heap.size w w2) := HB1.out.trans (hb2.mono HB1.out.size)
  clear hb2 Hp
  go_wp2_with fail
  refine (q18 _ _ _ _).mono ?_
  rintro e w3 ⟨rfl, hb3⟩
  have HZ := hidS (f_dat z hb3)
  have HB3 : Hid (Below w.heap.size w w3) := (HB2.out.alloc HB2.out.size _).trans (hb3.mono (by simp; have := HB2.out.size; omega))
  clear hb3
  generalize w2.heap.size = g1 at *
  go_wp2_with fail
  refine (q18 _ _ _ _).mono ?_
  rintro e w4 ⟨rfl, hb4⟩
  have HZ4 := hidS (DatV.mono HZ.out hb4.size (fun q hq => hb4.block q hq))
  have HB4 : Hid (Below w.heap.size w w4) := HB3.out.trans (hb4.mono HB3.out.size)
  clear hb4 HZ
  go_wp2_with fail
  refine (q19 _ _ _).mono ?_
  rintro e w5 ⟨rfl, hb5⟩
  go_wp2_with fail
  refine (q19 _ _ _).mono ?_
  rintro e w6 ⟨rfl, hb6⟩
  go_wp2_with fail
  refine (q18 _ _ _ _).mono ?_
  rintro e w7 ⟨rfl, hb7⟩
  obtain ⟨hV, hb47⟩ := s_dat x y z HZ4.out hb5 hb6 hb7
  have HV := hidS hV
  have HB7 : Hid (Below w.heap.size w w7) := HB4.out.trans (hb47.mono HB4.out.size)
  clear hb5 hb6 hb7 hV hb47 HZ4
  generalize w6.heap.size = g2 at *
  go_wp2_with fail
  refine (HEx.out _).mono ?_
  rintro e w8 ⟨rfl, hb8⟩
  have HB8 : Hid (Below w7.heap.size w7 w8) := ((Below.refl _ _).alloc (Nat.le_refl _) _).trans (hb8.mono (by simp))
  have dc8 : w8.cell? ⟨w7.heap.size, 0, none⟩ = some (.slice (some ⟨g2, 0, none⟩) 3 3) := (hb8.cell (p := ⟨w7.heap.size, 0, none⟩) (by show w7.heap.size < _; simp)).trans (by simp)
  have hz8 : w7.heap.size < w8.heap.size := by have := hb8.size; simp at this; omega
  clear hb8
  go_wp2_with fail
  refine (HEy.out _).mono ?_
  rintro e w9 ⟨rfl, hb9⟩
  have dc9 := (hb9.cell (p := ⟨w7.heap.size, 0, none⟩) hz8).trans dc8
  have HB9 : Hid (Below w7.heap.size w7 w9) := HB8.out.trans (hb9.mono HB8.out.size)
  have hz9 : w7.heap.size < w9.heap.size := by have := hb9.size; omega
  clear hb9 dc8
  go_wp2_with fail
  refine (HEz.out _).mono ?_
  rintro e w10 ⟨rfl, hb10⟩
  have dc10 := (hb10.cell (p := ⟨w7.heap.size, 0, none⟩) hz9).trans dc9
  have HB10 : Hid (Below w7.heap.size w7 w10) := HB9.out.trans (hb10.mono HB9.out.size)
  have hz10 : w7.heap.size < w10.heap.size := by have := hb10.size; omega
  clear hb10 dc9
  have hwl : (Ex ++ Ez ++ Ey ++ Ex ++ Ey ++ Ex).size ≤ maxLen := by
    simp only [ByteArray.size_append]
    unfold maxLen
    omega
  have Hb := hidS (q21w HR.out w10 S (Ex ++ Ez ++ Ey ++ Ex ++ Ey ++ Ex) (some ⟨g2, 0, none⟩) (sDat x y z) 3 hsz (DatV.mono HV.out HB10.out.size (fun q hq => HB10.out.block q hq)) ⟨trivial, trivial, ⟨⟨trivial, trivial⟩, trivial, trivial⟩, trivial⟩ ⟨by unfold maxLen; omega, trivial, by unfold maxLen; omega, trivial, by show (0 : Nat) ≤ _; exact Nat.zero_le _, ⟨⟨by unfold maxLen; omega, trivial, trivial⟩, trivial, trivial⟩, trivial⟩ (by show 3 ≤ 3; decide) (by unfold maxLen; omega) hwl (fun way o r hw h => by
    have t := HRen.out way o r hw h
    rw [HWT.out, mkB_size]
    exact ⟨fun q => t.1 (by decide) q, fun q => t.2.1 (by decide) q⟩))
  clear hwl HWT HRen
  go_wp2_with fail
  refine Hb.out.mono ?_
  rintro e w11 ⟨rfl, hb11⟩
  have HB11 : Hid (Below w.heap.size w w11) := HB7.out.trans ((HB10.out.trans (hb11.mono HB10.out.size)).mono HB7.out.size)
  clear hb11
  go_wp2
  go_ret
  exact ⟨rfl, HB11.out⟩
end Go.Proofs.Ytffkejkgkgfnhab
namespace Go.Proofs.Ytffkejkgkgfnhab
open Go.ChangeShapes Go.WideShapes Go.ChangeAt Go.RowKit Go.Deep
open Go.ChangeMaps (open_string shut_string)
set_option linter.unusedVariables false
set_option maxRecDepth 100000 in
theorem lift_scoped (os : Os) (started : os.Started) (H : Type) (enc : TypeId × Value → H) (F : Stop.Interp) :
    ReturnsInHanded {} Try.checked os 5 .any ((Rows.OpenSpec.upto Rows.scopedSpec).pre6 enc Try.prog Try.f5 Rows.scopedUptoRow.domain false) (((Rows.OpenSpec.upto Rows.scopedSpec).at F).post enc Try.prog Try.f5 false true false false) := by
  refine returnsInHanded_of_cond (C := Try.checked) (s := Rows.OpenSpec.upto Rows.scopedSpec) (k := Rows.uptoSmall) rfl ownK started (by kernel_rfl) Try.func5
    (OpenSpec.witness (enc := enc) (C := Try.checked) (s := Rows.OpenSpec.upto Rows.scopedSpec) (k := Rows.uptoSmall) rfl false ⟨#[], #[.string ByteArray.empty, .string ByteArray.empty, .string ByteArray.empty], []⟩ 8 (by kernel_rfl) (by kernel_rfl) (by kernel_rfl)
      (x := ([.lit (.string []), .lit (.string []), .lit (.string [])], [], [])) (by kernel_rfl) rfl (by kernel_rfl)) ?_
  intro W base args ds gs before hval0 hW _ hk _
  have hval : ∀ (j : Nat) t v, Try.f5.params[j]? = some t → args[j]? = some v → Value.okWide Try.prog W .any base t v := hval0
  have hW' := hW
  obtain ⟨p, q, hA0, hV, rfl, hfz, hnd⟩ := hW
  have hA : DataW.TrodAll enc Try.prog W 0 (fun _ => true) true Try.f5.params.toList args.toList ds p := hA0
  rw [Try.params5] at hA hval
  obtain ⟨v0, vs0, d0, ds0, p0, q0, hargs, rfl, rfl, h0, r0⟩ := trodAll_cons hA
  obtain ⟨v1, vs1, d1, ds1, p1, q1, rfl, rfl, rfl, h1, r1⟩ := trodAll_cons r0
  obtain ⟨v2, vs2, d2, ds2, p2, q2, rfl, rfl, rfl, h2, r2⟩ := trodAll_cons r1
  obtain ⟨rfl, rfl, rfl⟩ := trodAll_nil r2
  obtain rfl : args = #[v0, v1, v2] := by cases args; simp_all
  obtain ⟨rfl, rfl⟩ := trodVars_none hV
  obtain ⟨a0, rfl, rfl, rfl, w0⟩ := open_string Try.underlying9 (hval 0 9 v0 rfl rfl) h0
  obtain ⟨a1, rfl, rfl, rfl, w1⟩ := open_string Try.underlying9 (hval 1 9 v1 rfl rfl) h1
  obtain ⟨a2, rfl, rfl, rfl, w2⟩ := open_string Try.underlying9 (hval 2 9 v2 rfl rfl) h2
  clear hA0 hval0
  have hb := of_decide_eq_true hk
  simp only [Rows.uptoBulkAll, Rows.uptoBulk, List.append_nil] at hb
  have z0 : a0.size ≤ 1048576 := by
    have e : a0.data.toList.length = a0.size := rfl
    omega
  have z1 : a1.size ≤ 1048576 := by
    have e : a1.data.toList.length = a1.size := rfl
    omega
  have z2 : a2.size ≤ 1048576 := by
    have e : a2.data.toList.length = a2.size := rfl
    omega
  refine (qsco p25 b30 b30w W a0 a1 a2 z0 z1 z2).mono fun e W' ⟨he, bel⟩ => ?_
  subst he
  exact ⟨_, rfl, _, _, _, [], _, [], hW', trodAll_mk1 (shut_bool Try.underlying4 _), (trodAll_cons_mk (shut_string Try.underlying9 w0) (trodAll_cons_mk (shut_string Try.underlying9 w1) (trodAll_cons_mk (shut_string Try.underlying9 w2) trodAll_mk0))), rfl, bel.frame _, fun h => by cases h⟩
theorem over_scoped : Rows.scopedUptoRow.holds Try.pinned (Rows.OpenSpec.upto Rows.scopedSpec) :=
  OpenClaim.holds_of_cond 5 Try.f5 rfl rfl rfl rfl rfl rfl rfl ⟨rfl, rfl, rfl, rfl, rfl⟩ rfl rfl rfl rfl rfl (by kernel_rfl) Try.func5 (by kernel_rfl)
    (of_decide_eq_true (by kernel_rfl)) (by unfold Func.isWrapper; first | (rw [if_pos (by decide +kernel)]; kernel_rfl) | (rw [if_neg (by decide +kernel)]; exact ⟨rfl, rfl⟩))
    (fun os started H enc _ F => lift_scoped os started H enc F)
theorem scoped_proved : Rows.ScopedUptoSaid := over_scoped
end Go.Proofs.Ytffkejkgkgfnhab
