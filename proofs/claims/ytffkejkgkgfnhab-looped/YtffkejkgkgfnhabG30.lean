import Derived.Test.YtffkejkgkgfnhabG29
import Derived.Deep.AppendLies
import Derived.Deep.RegionLaw
import Derived.Test.YtffkejkgkgfnhabG25
namespace Go.Proofs.Ytffkejkgkgfnhab
open Go.RowKit
set_option linter.unusedVariables false
theorem own_fm {B ty sz : Nat} {w : World} {v : Value} {n : Nat} {xs : List Value} (h : w.ownsRow B ty sz v n xs) : ∃ a c, v = .slice a n c := by
  rcases h.2 with ⟨rfl, rfl⟩ | ⟨g, cap, cur, rfl, _⟩
  · exact ⟨_, _, rfl⟩
  · exact ⟨_, _, rfl⟩
/-- the rows that stand in a list -/
def LR (w : World) (own : Option Nat) (xs : List Value) : Prop := ∀ u ∈ xs, ∃ g, u = .slice (some ⟨g, 0, none⟩) 1 1 ∧ g < w.heap.size ∧ own ≠ some g ∧ w.cell? ⟨g, 0, none⟩ = some (.string ⟨#[120]⟩) ∧ w.cell? ⟨g, 1, none⟩ = some (.bool false) ∧ w.cell? ⟨g, 2, none⟩ = some (.string ⟨#[49]⟩) ∧ w.cell? ⟨g, 3, none⟩ = some (.slice none 0 0)
theorem LR.keep {w w' : World} {own own' : Option Nat} {xs : List Value} (h : LR w own xs) (hs : w.heap.size ≤ w'.heap.size) (hb : ∀ k, k < w.heap.size → some k ≠ own → w'.heap[k]? = w.heap[k]?) (ho : ∀ g, own' = some g → own = some g ∨ w.heap.size ≤ g) : LR w' own' xs := by
  intro u hu
  obtain ⟨g, e, h1, h2, c0, c1, c2, c3⟩ := h u hu
  have eb := hb g h1 (Ne.symm h2)
  exact ⟨g, e, by omega, fun q => by
    rcases ho g q with q | q
    · exact h2 q
    · omega, (World.cell?_of_block eb).trans c0, (World.cell?_of_block eb).trans c1, (World.cell?_of_block eb).trans c2, (World.cell?_of_block eb).trans c3⟩
theorem lr_at {w : World} {own : Option Nat} {xs : List Value} {gb : Nat} (h : LR w own xs) (hc : ∀ i u, xs[i]? = some u → w.cell? ⟨gb, i, none⟩ = some u) : ∀ k i, i + k = xs.length → DatAtA w (fun q => q < w.heap.size) (lRows k) gb i := by
  intro k
  induction k with
  | zero => intro i _; trivial
  | succ k ih =>
    intro i hi
    have hx : xs[i]? = some xs[i] := List.getElem?_eq_getElem (by omega)
    obtain ⟨g, e, h1, _, c0, c1, c2, c3⟩ := h xs[i] (List.getElem_mem _)
    refine ⟨⟨some ⟨g, 0, none⟩, 1, ?_, Nat.le_refl _, by unfold maxLen; omega, .inr ⟨g, 0, rfl, h1, c0, c1, c2, ⟨none, 0, c3, Nat.le_refl _, Nat.zero_le _, .inl rfl⟩, trivial⟩⟩, ih (i + 1) (by omega)⟩
    rw [hc i _ hx, e]; rfl
theorem lRows_len (n : Nat) : (lRows n).len = n := by
  induction n with
  | zero => rfl
  | succ n ih => simp [lRows, Dat.len, ih]
theorem lRows_ok (n : Nat) : (lRows n).ok true := by
  induction n with
  | zero => trivial
  | succ n ih => exact ⟨⟨trivial, trivial⟩, ih⟩
theorem lRows_bulk (n : Nat) : (lRows n).bulk = 9 * n := by
  induction n with
  | zero => rfl
  | succ n ih =>
    show (1 + 1 + 0 + 0 + 5) + (lRows n).bulk + 2 = _
    rw [ih]; omega
theorem infoRw2 : (Try.prog.info? 26).map (fun i => (i.zero, i.size, i.bytes)) = some (some (.agg #[.slice none 0 0]), 1, 24) := by kernel_rfl
theorem row_cells2 (w : World) (a : Option Addr) (n c : Nat) : ∀ (j : Nat) (u : Value), [Value.slice a n c][j]? = some u → (w.alloc (.cells #[.slice a n c] 26)).cell? ((⟨w.heap.size, 0, none⟩ : Addr).add j) = some u := by
  intro j u hj
  match j, hj with
  | 0, hj => simp at hj; subst hj; simp [Addr.add]
  | j + 1, hj => simp at hj
set_option maxRecDepth 100000 in
set_option maxHeartbeats 4000000 in
theorem q3 (hR : PROK 13) (w : World) (c : Int) (hc : -9223372036854775808 ≤ c ∧ c ≤ 9223372036854775807) : Calls Try.prog 3 #[.int .i64 c] w fun e w' => e = .returned (.bool true) ∧ Below w.heap.size w w' := by
  have Hc := hidS (fun w' => q5 w' c 300 hc (by decide) (by decide))
  have HR := hidS hR
  clear hR
  go_enter Try.func3, Try.ntmps3
  go_wp2_with fail
  refine (Hc.out _).mono ?_
  rintro e w' ⟨⟨n, hn, rfl⟩, hw⟩
  obtain rfl := hw.symm
  clear Hc
  go_wp2
  obtain ⟨i0, hi, hz0, hz1, hz2⟩ := info_parts infoRw2
  go_loopw [4, 5] (fun rv iv wr => ∃ (k : Nat) (xs : List Value), k ≤ n ∧ iv = .int .i64 k ∧ wr.ownsRow w.heap.size 26 1 rv k xs ∧ Hid (LR wr rv.ownBlock xs) ∧ Hid (Below w.heap.size w wr)) (fun _ iv _ => n - (intOf iv).toNat)
  case atStart => exact ⟨0, [], Nat.zero_le _, rfl, World.ownsRow_nil _ _ _ _, (fun u hu => by cases hu), Below.refl _ _⟩
  case round =>
    obtain ⟨k, xs, hk, rfl, hown, HL, HB⟩ := hrel
    obtain ⟨ra, rc, rfl⟩ := own_fm hown
    by_cases hlt : k < n
    · go_wp2_with fail
      refine (q19 _ _ _).mono ?_
      rintro e w2 ⟨rfl, hb2⟩
      have hown2 := own_keep hown (fun g hg => hb2.block g (hown.lt g hg).2)
      have HL2 : Hid (LR w2 (Value.slice ra k rc).ownBlock xs) := HL.out.keep hb2.size (fun q hq _ => hb2.block q hq) (fun g q => .inl q)
      have HB2 : Hid (Below w.heap.size w w2) := HB.out.trans (hb2.mono HB.out.size)
      clear hb2 HL HB hown
      go_wp2_with fail
      refine (q18 _ _ _ _).mono ?_
      rintro e w3 ⟨rfl, hb3⟩
      have hz3 : w2.heap.size < w3.heap.size := by have := hb3.size; simp at this; omega
      have f0 : w3.cell? ⟨w2.heap.size, 0, none⟩ = some (.string ⟨#[120]⟩) := (hb3.cell (p := ⟨w2.heap.size, 0, none⟩) (by show w2.heap.size < _; simp)).trans (by simp)
      have f1 : w3.cell? ⟨w2.heap.size, 1, none⟩ = some (.bool false) := (hb3.cell (p := ⟨w2.heap.size, 1, none⟩) (by show w2.heap.size < _; simp)).trans (by simp)
      have f2 : w3.cell? ⟨w2.heap.size, 2, none⟩ = some (.string ⟨#[49]⟩) := (hb3.cell (p := ⟨w2.heap.size, 2, none⟩) (by show w2.heap.size < _; simp)).trans (by simp)
      have f3 : w3.cell? ⟨w2.heap.size, 3, none⟩ = some (.slice none 0 0) := (hb3.cell (p := ⟨w2.heap.size, 3, none⟩) (by show w2.heap.size < _; simp)).trans (by simp)
      have hb23 : Below w2.heap.size w2 w3 := ((Below.refl _ _).alloc (Nat.le_refl _) _).trans (hb3.mono (by simp))
      have hown3 := own_keep hown2 (fun g hg => hb23.block g (hown2.lt g hg).2)
      have hno : (Value.slice ra k rc).ownBlock ≠ some w2.heap.size := fun e => by have := (hown2.lt _ e).2; omega
      have HL3 : Hid (LR w3 (Value.slice ra k rc).ownBlock (xs ++ [.slice (some ⟨w2.heap.size, 0, none⟩) 1 1])) := by
        intro u hu
        rcases List.mem_append.1 hu with q | q
        · exact (HL2.out.keep hb23.size (fun q hq _ => hb23.block q hq) (fun g q => .inl q)) u q
        · simp at q; subst q
          exact ⟨w2.heap.size, rfl, hz3, hno, f0, f1, f2, f3⟩
      have HB3 : Hid (Below w.heap.size w w3) := HB2.out.trans (hb23.mono HB2.out.size)
      have hzw : w.heap.size ≤ w3.heap.size := HB3.out.size
      clear hb3 hb23 f0 f1 f2 f3 hown2 HL2 HB2
      generalize w2.heap.size = g1 at *
      go_wp2_with (at_builtin; refine wpList_append_lies _ rfl _ _ 23 rfl w.heap.size 26 i0 (.agg #[.slice none 0 0]) 1 24 Try.underlying23 hi hz0 hz1 hz2 rfl (by decide) _ _ _ rfl (own_keep (hown3.alloc _) (fun _ _ => rfl)) ⟨w3.heap.size, 0, none⟩ 1 1 [.slice (some ⟨g1, 0, none⟩) 1 1] rfl rfl ?c1 ?c2 (by decide) ?c3 ?c4 ?c5 _ rfl ?_)
      case c1 => exact row_cells2 w3 _ _ _
      case c2 => intro u hu; simp at hu; subst hu; rfl
      case c3 => unfold maxLen; omega
      case c4 => omega
      case c5 => first | omega | (simp; omega)
      intro g cap w4 hown4 hg4 hat4 hlt4
      have HL4 : Hid (LR w4 (Value.slice (some ⟨g, 0, none⟩) (k + 1) cap).ownBlock (xs ++ [.slice (some ⟨g1, 0, none⟩) 1 1])) := HL3.out.keep (by have := hg4.size; simp at this; omega) (fun q h1 h2 => (hg4.block q (by simp; omega) h2).trans (Below.heap_alloc _ _ _ h1)) (fun q hq => by
        simp [Value.ownBlock] at hq
        subst hq
        rcases hat4 with h1 | h1
        · exact .inl h1
        · right; first | omega | (simp at h1; omega))
      have HB4 : Hid (Below w.heap.size w w4) := (HB3.out.alloc (by omega) _).grown hg4 (by simp; omega) (fun q hq => (hown3.lt q hq).1)
      clear hg4 hat4 hown3 HL3 HB3
      go_wp2
      exact ⟨⟨k + 1, _, by omega, by go_num, hown4, HL4.out, HB4.out⟩, by simp [intOf]; omega⟩
    · obtain rfl : k = n := by omega
      obtain ⟨hkc, hcm, hVr⟩ : k ≤ rc ∧ rc ≤ maxLen ∧ DatV wr wr.heap.size ra (lRows k) := by
        have hx := hown.1
        rcases hown.2 with ⟨e, h0⟩ | ⟨g, cap, cur, hv, hb, hg, hn', hm, hs', ht⟩
        · simp at e
          exact ⟨by omega, by unfold maxLen; omega, .inl (by rw [lRows_len]; exact h0)⟩
        · simp at hv
          obtain ⟨rfl, rfl⟩ := hv
          refine ⟨hn', hm, .inr ⟨g, 0, rfl, (hown.lt g rfl).2, lr_at HL.out (fun i u hu => ?_) k 0 (by omega)⟩⟩
          have hil : i < xs.length := by
            rcases Nat.lt_or_ge i xs.length with q | q
            · exact q
            · rw [List.getElem?_eq_none q] at hu; cases hu
          rw [cell_of_heap hg, ← hu, ← ht, List.getElem?_take_of_lt (by omega)]
          simp
      have HVR := hidS hVr
      have Hp := hidS (fun w' => q17 w' ⟨#[123, 42, 114, 125, 123, 120, 125, 123, 47, 125]⟩ (by decide))
      rw [show (mkB [123, 43, 97, 125] ++ ⟨#[123, 42, 114, 125, 123, 120, 125, 123, 47, 125]⟩ ++ mkB [123, 45, 125] : ByteArray) = mkB (tmOut [97] lSr) by decide] at Hp
      have hsz : (mkB (tmOut [97] lSr)).size ≤ maxLen := by decide
      have HRen := hidS (fun (way : Int) (o : ByteArray) (x : Int) (hw : way = 0 ∨ way = 1) (h : RenS (mkB (tmOut [97] lSr)) (mkB [97]) way (lDat k) o x) => page_law (m := 2) l_reads (by rw [l_fnd]; decide) (hw.imp id (fun e => ⟨e, wspec_good l_walk⟩)) (by rw [l_tno]; exact l_page k) rfl h)
      generalize mkB (tmOut [97] lSr) = S at *
      clear hVr hown HL
      go_wp2_with fail
      refine (q18 _ _ _ _).mono ?_
      rintro e w2 ⟨rfl, hb2⟩
      have hz2' : wr.heap.size < w2.heap.size := by have := hb2.size; simp at this; omega
      have f0 : w2.cell? ⟨wr.heap.size, 0, none⟩ = some (.string ⟨#[114]⟩) := (hb2.cell (p := ⟨wr.heap.size, 0, none⟩) (by show wr.heap.size < _; simp)).trans (by simp)
      have f1 : w2.cell? ⟨wr.heap.size, 1, none⟩ = some (.bool true) := (hb2.cell (p := ⟨wr.heap.size, 1, none⟩) (by show wr.heap.size < _; simp)).trans (by simp)
      have f2 : w2.cell? ⟨wr.heap.size, 2, none⟩ = some (.string ⟨#[]⟩) := (hb2.cell (p := ⟨wr.heap.size, 2, none⟩) (by show wr.heap.size < _; simp)).trans (by simp)
      have f3 : w2.cell? ⟨wr.heap.size, 3, none⟩ = some (.slice ra k rc) := (hb2.cell (p := ⟨wr.heap.size, 3, none⟩) (by show wr.heap.size < _; simp)).trans (by simp)
      have hb2' : Below wr.heap.size wr w2 := ((Below.refl _ _).alloc (Nat.le_refl _) _).trans (hb2.mono (by simp))
      have hVr2 : DatV w2 w2.heap.size ra (lRows k) := DatV.mono HVR.out (by omega) (fun q hq => hb2'.block q hq)
      have hV2 : DatV w2 w2.heap.size (some ⟨wr.heap.size, 0, none⟩) (lDat k) := .inr ⟨wr.heap.size, 0, rfl, hz2', f0, f1, f2, ⟨ra, rc, by rw [lRows_len]; exact f3, by rw [lRows_len]; exact hkc, hcm, hVr2⟩, trivial⟩
      have HV2 := hidS hV2
      have HB2 : Hid (Below w.heap.size w w2) := HB.out.trans (hb2'.mono HB.out.size)
      have hok : (lDat k).ok false := ⟨lRows_ok k, trivial⟩
      have hbk : (lDat k).bulk ≤ 1048576 := by show 1 + 0 + (lRows k).bulk + 0 + 5 ≤ _; rw [lRows_bulk]; omega
      clear hb2 hb2' f0 f1 f2 f3 hVr2 hV2 HVR HB hkc hcm hz2'
      generalize wr.heap.size = g1 at *
      go_wp2_with fail
      refine (Hp.out _).mono ?_
      rintro e w' ⟨rfl, hw⟩
      obtain rfl := hw.symm
      clear Hp
      by_cases hsm : 1 + 2 * k ≤ 500
      · have H1 := hidS (fun w' => q10 w' 49 k (by omega))
        have Hb := hidS (fun (w' : World) (hb : Below w2.heap.size w2 w') => q21 HR.out w' S (mkB (List.replicate k 49)) (some ⟨g1, 0, none⟩) (lDat k) 1 hsz (DatV.mono HV2.out hb.size (fun q hq => hb.block q hq)) hok hbk (Nat.le_refl _) (by unfold maxLen; omega) (by rw [mkB_size]; simp; unfold maxLen; omega) (fun way o x hw h => by
          have := HRen.out way o x hw h
          simp only [List.length_replicate] at this
          refine ⟨fun q => this.1 (by omega) (by omega), fun q => ?_⟩
          rw [mkB_size] at q; simp at q; omega))
        generalize mkB (List.replicate k 49) = M at *
        clear HRen
        have hbd : Below w2.heap.size w2 (w2.alloc (.cells #[.slice (some ⟨g1, 0, none⟩) 1 1] 26)).drew := ((Below.refl _ _).alloc (Nat.le_refl _) _).trans ((below_drew _).mono (by simp))
        have Hb' := hidS (Hb.out _ hbd)
        clear hbd Hb
        go_wp2_with fail
        go_region_with (first | (go_at_call 12; refine (H1.out _).mono ?_; rintro e w' ⟨rfl, hw⟩; obtain rfl := hw.symm) | (go_at_call 11; refine Hb'.out.mono ?_; rintro e w4 ⟨rfl, hb4⟩))
        all_goals
          have HB4 : Hid (Below w.heap.size w w4) := (HB2.out.alloc HB2.out.size _).trans (((below_drew _).mono (by simp; have := HB2.out.size; omega)).trans (hb4.mono (by simp; have := HB2.out.size; omega)))
          clear hb4
          go_wp2
          go_ret
          exact ⟨rfl, HB4.out⟩
      · have HQ := hidS (fun (way : Int) (w' : World) (hb : Below w2.heap.size w2 w') => HR.out S (mkB [97]) way w' (some ⟨g1, 0, none⟩) (lDat k) 1 hsz (DatV.mono HV2.out hb.size (fun q hq => hb.block q hq)) hok hbk (Nat.le_refl _) (by unfold maxLen; omega))
        have HRn := hidS (fun (way : Int) (o : ByteArray) (x : Int) (hw : way = 0 ∨ way = 1) (h : RenS S (mkB [97]) way (lDat k) o x) => (HRen.out way o x hw h).2.2 (by show 500 < 2 * k + 1; omega) (by show (List.replicate k (49 : UInt8)).length ≤ 2000; rw [List.length_replicate]; omega))
        clear HRen
        go_wp2_with fail
        refine (HQ.out 0 _ ((Below.refl _ _).alloc (Nat.le_refl _) _)).mono ?_
        rintro e w4 ⟨hb4, o, x, rfl, hr⟩
        obtain ⟨rfl, rfl⟩ := HRn.out 0 o x (.inl rfl) hr
        have HB24 : Hid (Below w2.heap.size w2 w4) := ((Below.refl _ _).alloc (Nat.le_refl _) _).trans (hb4.mono (by simp))
        have kd : w4.cell? ⟨w2.heap.size, 0, none⟩ = some (.slice (some ⟨g1, 0, none⟩) 1 1) := (hb4.cell (p := ⟨w2.heap.size, 0, none⟩) (by show w2.heap.size < _; simp)).trans (by simp)
        clear hb4 hr
        go_wp2_with fail
        refine (HQ.out 1 _ HB24.out).mono ?_
        rintro e w5 ⟨hb5, o, x, rfl, hr⟩
        obtain ⟨rfl, rfl⟩ := HRn.out 1 o x (.inr rfl) hr
        have HB5 : Hid (Below w.heap.size w w5) := HB2.out.trans ((HB24.out.trans (hb5.mono HB24.out.size)).mono HB2.out.size)
        clear hb5 hr kd
        go_wp2
        go_ret
        exact ⟨rfl, HB5.out⟩
end Go.Proofs.Ytffkejkgkgfnhab
namespace Go.Proofs.Ytffkejkgkgfnhab
open Go.ChangeShapes Go.WideShapes Go.ChangeAt Go.RowKit Go.Deep
open Go.ChangeMaps (open_string shut_string)
set_option linter.unusedVariables false
theorem i64_range {a : Int} (h : (Lit.int .i64 a).wf = true) : -9223372036854775808 ≤ a ∧ a ≤ 9223372036854775807 := by
  simp only [Lit.wf, Bool.and_eq_true, decide_eq_true_eq] at h
  exact h
set_option maxRecDepth 100000 in
theorem lift_looped (os : Os) (started : os.Started) (H : Type) (enc : TypeId × Value → H) :
    ReturnsInHanded {} Try.checked os 3 .any (Rows.loopedSpec.pre6 enc Try.prog Try.f3 Rows.loopedRow.domain false) (Rows.loopedSpec.post enc Try.prog Try.f3 false true false false) := by
  refine returnsInHanded_of_change (C := Try.checked) ownK started (by kernel_rfl) Try.func3
    (ChangeSpec.witness6 (enc := enc) (C := Try.checked) false ⟨#[], #[.int .i64 0], []⟩ 8 (by kernel_rfl) (by kernel_rfl) (by kernel_rfl) (by kernel_rfl)) ?_
  intro W base args ds gs before hval0 hW hcnd _
  have hval : ∀ (j : Nat) t v, Try.f3.params[j]? = some t → args[j]? = some v → Value.okWide Try.prog W .any base t v := hval0
  have hW' := hW
  obtain ⟨p, q, hA0, hV, rfl, hfz, hnd⟩ := hW
  have hA : DataW.TrodAll enc Try.prog W 0 (fun _ => true) true Try.f3.params.toList args.toList ds p := hA0
  rw [Try.params3] at hA hval
  obtain ⟨v0, vs0, d0, ds0, p0, q0, hargs, rfl, rfl, h0, r0⟩ := trodAll_cons hA
  obtain ⟨rfl, rfl, rfl⟩ := trodAll_nil r0
  obtain rfl : args = #[v0] := by cases args; simp_all
  obtain ⟨rfl, rfl⟩ := trodVars_none hV
  obtain ⟨a0, rfl, rfl, rfl, w0⟩ := open_int Try.underlying3 (hval 0 3 v0 rfl rfl) h0
  clear hA0 hval0
  refine (q3 b30 W a0 (i64_range w0)).mono fun e W' ⟨he, bel⟩ => ?_
  subst he
  exact ⟨_, rfl, _, _, _, [], _, [], hW', trodAll_mk1 (shut_bool Try.underlying4 _), (trodAll_cons_mk (shut_int Try.underlying3 w0) trodAll_mk0), rfl, bel.frame _, fun h => by cases h⟩
theorem over_looped : Rows.loopedRow.holds Try.pinned (OpenSpec.ofChange Rows.loopedSpec) :=
  OpenClaim.holds_of_wide 3 Try.f3 rfl rfl rfl rfl rfl rfl rfl ⟨rfl, rfl, rfl, rfl, rfl⟩ rfl rfl rfl rfl rfl (by kernel_rfl) Try.func3 (by kernel_rfl)
    (of_decide_eq_true (by kernel_rfl)) (by unfold Func.isWrapper; first | (rw [if_pos (by decide +kernel)]; kernel_rfl) | (rw [if_neg (by decide +kernel)]; exact ⟨rfl, rfl⟩))
    (fun os started H enc _ => lift_looped os started H enc)
theorem looped_proved : Rows.LoopedSaid := over_looped
end Go.Proofs.Ytffkejkgkgfnhab
