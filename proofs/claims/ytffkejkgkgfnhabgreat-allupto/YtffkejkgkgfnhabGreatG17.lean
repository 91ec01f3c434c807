import Derived.Test.YtffkejkgkgfnhabGreatG16
namespace Go.Proofs.YtffkejkgkgfnhabGreat
open Go.RowKit
set_option linter.unusedVariables false
theorem slc_len {w : World} {A : Nat → Prop} {ba : Option Addr} {bn bc ty : Nat} {b : Nds} (h : Slc w A ty (.slice ba bn bc) b) : bn = b.len := by
  rcases h with ⟨h1, h2, _⟩ | ⟨g, cap, cur, h1, _⟩
  · simp at h1; omega
  · simp at h1; exact h1.2.1
theorem cell_new (w : World) (n j : Nat) (cs : Array Value) (ty : Nat) (h : n = w.heap.size) : (w.alloc (.cells cs ty)).cell? ⟨n, j, none⟩ = cs[j]? := by
  subst h; simp
set_option maxRecDepth 100000 in
set_option maxHeartbeats 4000000 in
theorem r77s (w : World) (p : PgP) (ra : Option Addr) (rc : Nat) (R : List Dat) (st : Pst) (k at' : Int) (nm : ByteArray) (ta ea : Option Addr) (tl tc el ec : Nat) (tw : Bool) (hs : ¬ st.steps < 500) (h : PgOK w p ra rc R st) :
   Calls Tryz.prog 76 #[.pointer (some ⟨p.pb, 0, none⟩), .agg #[.int .i64 k, .int .i64 at', .string nm, .slice ta tl tc, .slice ea el ec, .bool tw]] w fun e w' => e = .returned (.tuple #[]) ∧ PgOK w' p ra rc R { st with err := 12 } ∧ ChP p.pb (.slice ra R.length rc) (.slice ra R.length rc) w w' := by
  have HP := hidS h
  have Hst := hidS (fun o => r92no (w.alloc o) p.pb st.steps hs (h.alloc o).c4 _ (h.alloc o).c5 (h.alloc o).f5)
  have hlt := h.lt
  clear h
  go_enter Tryz.func76, Tryz.ntmps76
  go_wp2_with (go_at_call 95; refine (Hst.out _).mono ?_; rintro e w' ⟨rfl, hw⟩; obtain rfl := hw.symm)
  refine bodyPost_ret (results_none rfl _ _ _) rfl ?_
  first
    | exact ⟨rfl, (HP.out.set { st with err := 12 } 5 _ (.inr (.inr ⟨rfl, rfl, rfl, rfl⟩)) HP.out.fit).alloc _, ((ChP.refl _ _ _).set 5 _).alloc _⟩
    | exact ⟨rfl, (HP.out.alloc _).set { st with err := 12 } 5 _ (.inr (.inr ⟨rfl, rfl, rfl, rfl⟩)) HP.out.fit, ((ChP.refl _ _ _).alloc _).set 5 _⟩
set_option maxRecDepth 100000 in
set_option maxHeartbeats 4000000 in
theorem r77c (m : Nat) (hB : BodOK m) (w : World) (p : PgP) (ra : Option Addr) (rc : Nat) (R : List Dat) (st : Pst) (at' : Int) (nm : ByteArray) (ta ea : Option Addr) (tl tc el ec : Nat) (tw : Bool) (hs : st.steps < 500) 
   (hm : 500 ≤ st.steps + 1 + m) (hR : R.length ≤ st.steps + 1) (hT : TmE w p) (hf : 0 ≤ fndF nm p.ts 0) (h : PgOK w p ra rc R st) :
   Calls Tryz.prog 76 #[.pointer (some ⟨p.pb, 0, none⟩), .agg #[.int .i64 5, .int .i64 at', .string nm, .slice ta tl tc, .slice ea el ec, .bool tw]] w fun e w' => e = .returned (.tuple #[]) ∧ ∃ ra' rc', PgOK w' p ra' rc' R (pagF p.ts p.tr m (bod p.ts (tno p.ts nm)) R { st with steps := st.steps + 1 }) ∧ ChP p.pb (.slice ra R.length rc) (.slice ra' R.length rc') w w' := by
  have HP := hidS h
  have Hst := hidS (fun o => r92 (w.alloc o) p.pb st.steps hs (h.alloc o).c4 (h.alloc o).f4)
  have hlt := h.lt
  clear h
  have HB := hidS hB
  have HT := hidS hT
  clear hB hT
  go_enter Tryz.func76, Tryz.ntmps76
  go_wp2_with (go_at_call 95; refine (Hst.out _).mono ?_; rintro e w' ⟨rfl, hw⟩; obtain rfl := hw.symm)
  have hP1 := (HP.out.set { st with steps := st.steps + 1 } 4 (.int .i64 (st.steps + 1)) (.inr (.inl ⟨rfl, rfl, rfl, rfl⟩)) ⟨HP.out.fit.1, by show st.steps + 1 ≤ 500; omega⟩).alloc (.cells #[.int .i64 5, .int .i64 at', .string nm, .slice ta tl tc, .slice ea el ec, .bool tw] 102)
  have hC1 : ChP p.pb (.slice ra R.length rc) (.slice ra R.length rc) w ((w.setCell ⟨p.pb, 4, none⟩ (.int .i64 (st.steps + 1))).alloc (.cells #[.int .i64 5, .int .i64 at', .string nm, .slice ta tl tc, .slice ea el ec, .bool tw] 102)) := ((ChP.refl _ _ _).set 4 _).alloc _
  have k2 : ((w.setCell ⟨p.pb, 4, none⟩ (.int .i64 (st.steps + 1))).alloc (.cells #[.int .i64 5, .int .i64 at', .string nm, .slice ta tl tc, .slice ea el ec, .bool tw] 102)).cell? ⟨w.heap.size, 2, none⟩ = some (.string nm) := cell_new _ _ 2 _ _ (by simp)
  have hz1 : w.heap.size < ((w.setCell ⟨p.pb, 4, none⟩ (.int .i64 (st.steps + 1))).alloc (.cells #[.int .i64 5, .int .i64 at', .string nm, .slice ta tl tc, .slice ea el ec, .bool tw] 102)).heap.size := by rw [World.size_alloc, World.size_setCell]; omega
  generalize (w.setCell ⟨p.pb, 4, none⟩ (.int .i64 (st.steps + 1))).alloc (.cells #[.int .i64 5, .int .i64 at', .string nm, .slice ta tl tc, .slice ea el ec, .bool tw] 102) = w1 at *
  have hT1 := HT.out.mono (hC1.low HP.out)
  have HP1 := hidS hP1
  have HC1 := hidS hC1
  have HT1 := hidS hT1
  have c0 := hP1.c0
  have hfr := fndF_range nm p.ts 0
  have htn : fndF nm p.ts 0 = ((tno p.ts nm : Nat) : Int) := by unfold tno; omega
  have hti : tno p.ts nm < p.ts.length := by omega
  have hb0 := tmAt hT1.tm
  rcases hb0 with h0 | ⟨g, hla, hall⟩
  · omega
  obtain ⟨_, _, ba, bn, bc, ct, hSb⟩ := hall (tno p.ts nm) hti
  have hbn := slc_len hSb
  subst hbn
  have ebd := bod_at (tno p.ts nm) hti
  have hwf := hT1.wf (tno p.ts nm) hti
  rw [← ebd] at ct hSb hwf
  rw [hla] at c0
  have HSb := hidS hSb
  have HWf := hidS hwf
  have HLA := hidS hla
  clear hall hSb hwf ebd hla
  have Hf := hidS (fun wx (hx : TmAt wx (fun k => k < p.N) p.la p.ts) => c60 wx (fun k => k < p.N) p.la p.lc p.ts nm hT1.six hx)
  rw [htn, HLA.out] at Hf
  have HTM := hidS (fun n => tm_drew n hT1.tm)
  rw [HLA.out] at HTM
  generalize hbl : (bod p.ts (tno p.ts nm)).len = bl at *
  have HBL := hidS hbl
  clear hP1 hC1 hT1 Hst hw htn hfr hf hbl
  go_quiet ((go_at_call 32; refine Calls.quiet_of_same (Hf.out _ ?_); exact HTM.out _))
  go_wp2_with fail
  have hbd : Below w1.heap.size w1 (w1.drewN nq) := below_drewN (Below.refl _ _) nq
  have hcall := HB.out (w1.drewN nq) p ra rc R { st with steps := st.steps + 1 } ba bc (bod p.ts (tno p.ts nm)) hm (by simp only; omega) (HT1.out.mono (fun k hk => rfl)) HWf.out.1 HWf.out.2 (by rw [HBL.out]; exact HSb.out.mono (w' := w1.drewN nq) (fun k hk => rfl) (fun _ q => q)) (HP1.out.below hbd)
  rw [HBL.out] at hcall
  refine hcall.mono ?_
  rintro e w2 ⟨rfl, ra2, rc2, hP2, hC2⟩
  have HP2 := hidS hP2
  have HC2 : Hid (ChP p.pb (.slice ra R.length rc) (.slice ra2 R.length rc2) w w2) := (HC1.out.trans (ChP.of_below hbd)).trans hC2
  clear hcall hP2 hC2 hbd
  go_wp2
  refine bodyPost_ret (results_none rfl _ _ _) rfl ?_
  exact ⟨rfl, ra2, rc2, HP2.out, HC2.out⟩
theorem tl_empty (t : ByteArray) : t.toList.isEmpty = decide (t.size = 0) := by
  have h : t.toList = t.data.toList := ByteArray.toList_eq t
  rw [h]
  cases t with | mk d => cases d with | mk l => cases l <;> simp [ByteArray.size]
set_option maxRecDepth 100000 in
set_option maxHeartbeats 4000000 in
theorem r77h (w : World) (p : PgP) (ra : Option Addr) (rc : Nat) (R : List Dat) (st : Pst) (at' : Int) (nm : ByteArray) (ta ea : Option Addr) (tl tc eln ec : Nat) (tw : Bool) (hs : st.steps < 500) (hR : R.length ≤ st.steps + 1) (h : PgOK w p ra rc R st) (B : Nds → List Dat → Pst → Pst) (th el : Nds) :
   Calls Tryz.prog 76 #[.pointer (some ⟨p.pb, 0, none⟩), .agg #[.int .i64 2, .int .i64 at', .string nm, .slice ta tl tc, .slice ea eln ec, .bool tw]] w fun e w' => e = .returned (.tuple #[]) ∧ ∃ ra' rc', PgOK w' p ra' rc' R (insF B p.ts R 2 nm th el { st with steps := st.steps + 1 }) ∧ ChP p.pb (.slice ra R.length rc) (.slice ra' R.length rc') w w' := by
  have HP := hidS h
  have Hst := hidS (fun o => r92 (w.alloc o) p.pb st.steps hs (h.alloc o).c4 (h.alloc o).f4)
  have hlt := h.lt
  clear h
  go_enter Tryz.func76, Tryz.ntmps76
  go_wp2_with (go_at_call 95; refine (Hst.out _).mono ?_; rintro e w' ⟨rfl, hw⟩; obtain rfl := hw.symm)
  have hP1 := (HP.out.set { st with steps := st.steps + 1 } 4 (.int .i64 (st.steps + 1)) (.inr (.inl ⟨rfl, rfl, rfl, rfl⟩)) ⟨HP.out.fit.1, by show st.steps + 1 ≤ 500; omega⟩).alloc (.cells #[.int .i64 2, .int .i64 at', .string nm, .slice ta tl tc, .slice ea eln ec, .bool tw] 102)
  have hC1 : ChP p.pb (.slice ra R.length rc) (.slice ra R.length rc) w ((w.setCell ⟨p.pb, 4, none⟩ (.int .i64 (st.steps + 1))).alloc (.cells #[.int .i64 2, .int .i64 at', .string nm, .slice ta tl tc, .slice ea eln ec, .bool tw] 102)) := ((ChP.refl _ _ _).set 4 _).alloc _
  have k0 : ((w.setCell ⟨p.pb, 4, none⟩ (.int .i64 (st.steps + 1))).alloc (.cells #[.int .i64 2, .int .i64 at', .string nm, .slice ta tl tc, .slice ea eln ec, .bool tw] 102)).cell? ⟨w.heap.size, 0, none⟩ = some (.int .i64 2) := cell_new _ _ 0 _ _ (by simp)
  have k2 : ((w.setCell ⟨p.pb, 4, none⟩ (.int .i64 (st.steps + 1))).alloc (.cells #[.int .i64 2, .int .i64 at', .string nm, .slice ta tl tc, .slice ea eln ec, .bool tw] 102)).cell? ⟨w.heap.size, 2, none⟩ = some (.string nm) := cell_new _ _ 2 _ _ (by simp)
  have k3 : ((w.setCell ⟨p.pb, 4, none⟩ (.int .i64 (st.steps + 1))).alloc (.cells #[.int .i64 2, .int .i64 at', .string nm, .slice ta tl tc, .slice ea eln ec, .bool tw] 102)).cell? ⟨w.heap.size, 3, none⟩ = some (.slice ta tl tc) := cell_new _ _ 3 _ _ (by simp)
  have k4 : ((w.setCell ⟨p.pb, 4, none⟩ (.int .i64 (st.steps + 1))).alloc (.cells #[.int .i64 2, .int .i64 at', .string nm, .slice ta tl tc, .slice ea eln ec, .bool tw] 102)).cell? ⟨w.heap.size, 4, none⟩ = some (.slice ea eln ec) := cell_new _ _ 4 _ _ (by simp)
  have hz1 : w.heap.size < ((w.setCell ⟨p.pb, 4, none⟩ (.int .i64 (st.steps + 1))).alloc (.cells #[.int .i64 2, .int .i64 at', .string nm, .slice ta tl tc, .slice ea eln ec, .bool tw] 102)).heap.size := by rw [World.size_alloc, World.size_setCell]; omega
  generalize ((w.setCell ⟨p.pb, 4, none⟩ (.int .i64 (st.steps + 1))).alloc (.cells #[.int .i64 2, .int .i64 at', .string nm, .slice ta tl tc, .slice ea eln ec, .bool tw] 102)) = w1 at *
  have HP1 := hidS hP1
  have HC1 := hidS hC1
  have Hfd := hidS (r93 w1 p ra rc R _ nm (by omega) hP1)
  clear hP1 hC1 Hst hw
  go_wp2_with fail
  refine Hfd.out.mono ?_
  rintro e w2 ⟨hpost, hb2⟩
  have hP2 := HP1.out.below hb2
  have HP2 := hidS hP2
  have HC2 : Hid (ChP p.pb (.slice ra R.length rc) (.slice ra R.length rc) w w2) := HC1.out.trans (ChP.of_below hb2)
  have j0 := (hb2.cell (p := ⟨w.heap.size, 0, none⟩) hz1).trans k0
  have j2 := (hb2.cell (p := ⟨w.heap.size, 2, none⟩) hz1).trans k2
  have j3 := (hb2.cell (p := ⟨w.heap.size, 3, none⟩) hz1).trans k3
  have j4 := (hb2.cell (p := ⟨w.heap.size, 4, none⟩) hz1).trans k4
  have hz2 : w.heap.size < w2.heap.size := by have := hb2.size; omega
  have hpl2 := hP2.lt
  have c5 := hP2.c5
  have f5 := hP2.f5
  have HB2 := hidS hb2
  clear k0 k2 k3 k4 hP2 hb2 Hfd
  rcases hpost with ⟨hl, rfl⟩ | ⟨n, l, t, rows, a, c, hl, rfl, hV, hok, hbk, hlc, hc⟩
  · have HE : Hid (insF B p.ts R 2 nm th el { st with steps := st.steps + 1 } = { st with steps := st.steps + 1, err := 7 }) := by show _ = _; rw [insF, if_neg (by decide), hl]
    clear hl
    go_wp2
    refine bodyPost_ret (results_none rfl _ _ _) rfl ?_
    exact ⟨rfl, ra, rc, by rw [HE.out]; exact (HP2.out.set { st with steps := st.steps + 1, err := 7 } 5 _ (.inr (.inr ⟨rfl, rfl, rfl, rfl⟩)) HP2.out.fit).alloc _, (HC2.out.set 5 _).alloc _⟩
  · have HE : Hid (insF B p.ts R 2 nm th el { st with steps := st.steps + 1 } = kndF l t { st with steps := st.steps + 1 }) := by show _ = _; rw [insF, if_neg (by decide), hl]; rfl
    clear hl
    have HP3 := hidS (HP2.out.alloc (.cells #[.string n, .bool l, .string t, .slice a rows.len c] 88))
    have Hh := hidS (r94 _ p ra rc R _ n t l a rows.len c (by omega) HP3.out)
    clear hV hok hbk hlc hc c5 f5
    generalize rows.len = rl at *
    go_wp2_with fail
    refine Hh.out.mono ?_
    rintro e w3 ⟨rfl, hP3, hC3⟩
    have HP4 := hidS hP3
    have HC4 := hidS ((HC2.out.alloc _).trans hC3)
    clear hP3 hC3 Hh HP3
    go_wp2
    go_end0
    exact ⟨rfl, ra, rc, by rw [HE.out]; exact HP4.out, HC4.out⟩
set_option maxRecDepth 100000 in
set_option maxHeartbeats 4000000 in
theorem r77l (w : World) (p : PgP) (ra : Option Addr) (rc : Nat) (R : List Dat) (st : Pst) (at' : Int) (nm : ByteArray) (ta ea : Option Addr) (tl tc eln ec : Nat) (tw : Bool) (hs : st.steps < 500) (hR : R.length ≤ st.steps + 1) (h : PgOK w p ra rc R st) (m : Nat) (hB : BodOK m) (th el : Nds) (hm : 500 ≤ st.steps + 1 + m) (hT : TmE w p) (hwt : WfN p.ts th) (hwe : WfN p.ts el) (hst : th.sz ≤ 1000) (hse : el.sz ≤ 1000) (htl : Hid (th.len = tl)) (hel : Hid (el.len = eln)) (hSt : Slc w (fun k => k < p.N) 102 (.slice ta tl tc) th) (hSe : Slc w (fun k => k < p.N) 102 (.slice ea eln ec) el) :
   Calls Tryz.prog 76 #[.pointer (some ⟨p.pb, 0, none⟩), .agg #[.int .i64 4, .int .i64 at', .string nm, .slice ta tl tc, .slice ea eln ec, .bool tw]] w fun e w' => e = .returned (.tuple #[]) ∧ ∃ ra' rc', PgOK w' p ra' rc' R (insF (pagF p.ts p.tr m) p.ts R 4 nm th el { st with steps := st.steps + 1 }) ∧ ChP p.pb (.slice ra R.length rc) (.slice ra' R.length rc') w w' := by
  have HB := hidS hB
  have HT := hidS hT
  have HWt := hidS hwt
  have HWe := hidS hwe
  have HSt := hidS hSt
  have HSe := hidS hSe
  clear hB hT hwt hwe hSt hSe
  have HP := hidS h
  have Hst := hidS (fun o => r92 (w.alloc o) p.pb st.steps hs (h.alloc o).c4 (h.alloc o).f4)
  have hlt := h.lt
  clear h
  go_enter Tryz.func76, Tryz.ntmps76
  go_wp2_with (go_at_call 95; refine (Hst.out _).mono ?_; rintro e w' ⟨rfl, hw⟩; obtain rfl := hw.symm)
  have hP1 := (HP.out.set { st with steps := st.steps + 1 } 4 (.int .i64 (st.steps + 1)) (.inr (.inl ⟨rfl, rfl, rfl, rfl⟩)) ⟨HP.out.fit.1, by show st.steps + 1 ≤ 500; omega⟩).alloc (.cells #[.int .i64 4, .int .i64 at', .string nm, .slice ta tl tc, .slice ea eln ec, .bool tw] 102)
  have hC1 : ChP p.pb (.slice ra R.length rc) (.slice ra R.length rc) w ((w.setCell ⟨p.pb, 4, none⟩ (.int .i64 (st.steps + 1))).alloc (.cells #[.int .i64 4, .int .i64 at', .string nm, .slice ta tl tc, .slice ea eln ec, .bool tw] 102)) := ((ChP.refl _ _ _).set 4 _).alloc _
  have k0 : ((w.setCell ⟨p.pb, 4, none⟩ (.int .i64 (st.steps + 1))).alloc (.cells #[.int .i64 4, .int .i64 at', .string nm, .slice ta tl tc, .slice ea eln ec, .bool tw] 102)).cell? ⟨w.heap.size, 0, none⟩ = some (.int .i64 4) := cell_new _ _ 0 _ _ (by simp)
  have k2 : ((w.setCell ⟨p.pb, 4, none⟩ (.int .i64 (st.steps + 1))).alloc (.cells #[.int .i64 4, .int .i64 at', .string nm, .slice ta tl tc, .slice ea eln ec, .bool tw] 102)).cell? ⟨w.heap.size, 2, none⟩ = some (.string nm) := cell_new _ _ 2 _ _ (by simp)
  have k3 : ((w.setCell ⟨p.pb, 4, none⟩ (.int .i64 (st.steps + 1))).alloc (.cells #[.int .i64 4, .int .i64 at', .string nm, .slice ta tl tc, .slice ea eln ec, .bool tw] 102)).cell? ⟨w.heap.size, 3, none⟩ = some (.slice ta tl tc) := cell_new _ _ 3 _ _ (by simp)
  have k4 : ((w.setCell ⟨p.pb, 4, none⟩ (.int .i64 (st.steps + 1))).alloc (.cells #[.int .i64 4, .int .i64 at', .string nm, .slice ta tl tc, .slice ea eln ec, .bool tw] 102)).cell? ⟨w.heap.size, 4, none⟩ = some (.slice ea eln ec) := cell_new _ _ 4 _ _ (by simp)
  have hz1 : w.heap.size < ((w.setCell ⟨p.pb, 4, none⟩ (.int .i64 (st.steps + 1))).alloc (.cells #[.int .i64 4, .int .i64 at', .string nm, .slice ta tl tc, .slice ea eln ec, .bool tw] 102)).heap.size := by rw [World.size_alloc, World.size_setCell]; omega
  generalize ((w.setCell ⟨p.pb, 4, none⟩ (.int .i64 (st.steps + 1))).alloc (.cells #[.int .i64 4, .int .i64 at', .string nm, .slice ta tl tc, .slice ea eln ec, .bool tw] 102)) = w1 at *
  have HP1 := hidS hP1
  have HC1 := hidS hC1
  have Hfd := hidS (r93 w1 p ra rc R _ nm (by omega) hP1)
  clear hP1 hC1 Hst hw
  go_wp2_with fail
  refine Hfd.out.mono ?_
  rintro e w2 ⟨hpost, hb2⟩
  have hP2 := HP1.out.below hb2
  have HP2 := hidS hP2
  have HC2 : Hid (ChP p.pb (.slice ra R.length rc) (.slice ra R.length rc) w w2) := HC1.out.trans (ChP.of_below hb2)
  have j0 := (hb2.cell (p := ⟨w.heap.size, 0, none⟩) hz1).trans k0
  have j2 := (hb2.cell (p := ⟨w.heap.size, 2, none⟩) hz1).trans k2
  have j3 := (hb2.cell (p := ⟨w.heap.size, 3, none⟩) hz1).trans k3
  have j4 := (hb2.cell (p := ⟨w.heap.size, 4, none⟩) hz1).trans k4
  have hz2 : w.heap.size < w2.heap.size := by have := hb2.size; omega
  have hpl2 := hP2.lt
  have c5 := hP2.c5
  have f5 := hP2.f5
  have HB2 := hidS hb2
  clear k0 k2 k3 k4 hP2 hb2 Hfd
  rcases hpost with ⟨hl, rfl⟩ | ⟨n, l, t, rows, a, c, hl, rfl, hV, hok, hbk, hlc, hc⟩
  · have HE : Hid (insF (pagF p.ts p.tr m) p.ts R 4 nm th el { st with steps := st.steps + 1 } = { st with steps := st.steps + 1, err := 7 }) := by show _ = _; rw [insF, if_neg (by decide), hl]
    clear hl
    go_wp2
    refine bodyPost_ret (results_none rfl _ _ _) rfl ?_
    exact ⟨rfl, ra, rc, by rw [HE.out]; exact (HP2.out.set { st with steps := st.steps + 1, err := 7 } 5 _ (.inr (.inr ⟨rfl, rfl, rfl, rfl⟩)) HP2.out.fit).alloc _, (HC2.out.set 5 _).alloc _⟩
  · have HE : Hid (insF (pagF p.ts p.tr m) p.ts R 4 nm th el { st with steps := st.steps + 1 } = lpsF (pagF p.ts p.tr m) th R l rows { st with steps := st.steps + 1 }) := by show _ = _; rw [insF, if_neg (by decide), hl]; rfl
    clear hl
    have HP3 := hidS (HP2.out.alloc (.cells #[.string n, .bool l, .string t, .slice a rows.len c] 88))
    have HC3 := hidS (HC2.out.alloc (.cells #[.string n, .bool l, .string t, .slice a rows.len c] 88))
    have hlow := HC3.out.low HP.out
    have hV3 : DatV (w2.alloc (.cells #[.string n, .bool l, .string t, .slice a rows.len c] 88)) p.N a rows := hV.mono (Nat.le_refl _) ((ChP.of_below (pb := p.pb) (rv := .slice ra R.length rc) (HB2.out.alloc HB2.out.size _)).low HP1.out)
    have hh := r95 m HB.out _ p ra rc R { st with steps := st.steps + 1 } n t l rows a c ta tc th (by simp only; omega) (by simp only; omega) (HT.out.mono hlow) HWt.out hst (by rw [htl.out]; exact HSt.out.mono hlow (fun _ q => q)) hV3 hok (by omega) hlc hc HP3.out
    rw [htl.out] at hh
    have Hh := hidS hh
    clear hV hok hbk hlc hc c5 f5 hh hV3 hlow
    generalize rows.len = rl at *
    go_wp2_with fail
    refine Hh.out.mono ?_
    rintro e w3 ⟨rfl, ra3, rc3, hP3, hC3⟩
    have HP4 := hidS hP3
    have HC4 := hidS (HC3.out.trans hC3)
    clear hP3 hC3 Hh HP3
    go_wp2
    go_end0
    exact ⟨rfl, ra3, rc3, by rw [HE.out]; exact HP4.out, HC4.out⟩
set_option maxRecDepth 100000 in
set_option maxHeartbeats 4000000 in
theorem r77q (w : World) (p : PgP) (ra : Option Addr) (rc : Nat) (R : List Dat) (st : Pst) (at' : Int) (nm : ByteArray) (ta ea : Option Addr) (tl tc eln ec : Nat) (tw : Bool) (hs : st.steps < 500) (hR : R.length ≤ st.steps + 1) (h : PgOK w p ra rc R st) (m : Nat) (hB : BodOK m) (th el : Nds) (hm : 500 ≤ st.steps + 1 + m) (hT : TmE w p) (hwt : WfN p.ts th) (hwe : WfN p.ts el) (hst : th.sz ≤ 1000) (hse : el.sz ≤ 1000) (htl : Hid (th.len = tl)) (hel : Hid (el.len = eln)) (hSt : Slc w (fun k => k < p.N) 102 (.slice ta tl tc) th) (hSe : Slc w (fun k => k < p.N) 102 (.slice ea eln ec) el) :
   Calls Tryz.prog 76 #[.pointer (some ⟨p.pb, 0, none⟩), .agg #[.int .i64 3, .int .i64 at', .string nm, .slice ta tl tc, .slice ea eln ec, .bool tw]] w fun e w' => e = .returned (.tuple #[]) ∧ ∃ ra' rc', PgOK w' p ra' rc' R (insF (pagF p.ts p.tr m) p.ts R 3 nm th el { st with steps := st.steps + 1 }) ∧ ChP p.pb (.slice ra R.length rc) (.slice ra' R.length rc') w w' := by
  have HB := hidS hB
  have HT := hidS hT
  have HWt := hidS hwt
  have HWe := hidS hwe
  have HSt := hidS hSt
  have HSe := hidS hSe
  clear hB hT hwt hwe hSt hSe
  have HP := hidS h
  have Hst := hidS (fun o => r92 (w.alloc o) p.pb st.steps hs (h.alloc o).c4 (h.alloc o).f4)
  have hlt := h.lt
  clear h
  go_enter Tryz.func76, Tryz.ntmps76
  go_wp2_with (go_at_call 95; refine (Hst.out _).mono ?_; rintro e w' ⟨rfl, hw⟩; obtain rfl := hw.symm)
  have hP1 := (HP.out.set { st with steps := st.steps + 1 } 4 (.int .i64 (st.steps + 1)) (.inr (.inl ⟨rfl, rfl, rfl, rfl⟩)) ⟨HP.out.fit.1, by show st.steps + 1 ≤ 500; omega⟩).alloc (.cells #[.int .i64 3, .int .i64 at', .string nm, .slice ta tl tc, .slice ea eln ec, .bool tw] 102)
  have hC1 : ChP p.pb (.slice ra R.length rc) (.slice ra R.length rc) w ((w.setCell ⟨p.pb, 4, none⟩ (.int .i64 (st.steps + 1))).alloc (.cells #[.int .i64 3, .int .i64 at', .string nm, .slice ta tl tc, .slice ea eln ec, .bool tw] 102)) := ((ChP.refl _ _ _).set 4 _).alloc _
  have k0 : ((w.setCell ⟨p.pb, 4, none⟩ (.int .i64 (st.steps + 1))).alloc (.cells #[.int .i64 3, .int .i64 at', .string nm, .slice ta tl tc, .slice ea eln ec, .bool tw] 102)).cell? ⟨w.heap.size, 0, none⟩ = some (.int .i64 3) := cell_new _ _ 0 _ _ (by simp)
  have k2 : ((w.setCell ⟨p.pb, 4, none⟩ (.int .i64 (st.steps + 1))).alloc (.cells #[.int .i64 3, .int .i64 at', .string nm, .slice ta tl tc, .slice ea eln ec, .bool tw] 102)).cell? ⟨w.heap.size, 2, none⟩ = some (.string nm) := cell_new _ _ 2 _ _ (by simp)
  have k3 : ((w.setCell ⟨p.pb, 4, none⟩ (.int .i64 (st.steps + 1))).alloc (.cells #[.int .i64 3, .int .i64 at', .string nm, .slice ta tl tc, .slice ea eln ec, .bool tw] 102)).cell? ⟨w.heap.size, 3, none⟩ = some (.slice ta tl tc) := cell_new _ _ 3 _ _ (by simp)
  have k4 : ((w.setCell ⟨p.pb, 4, none⟩ (.int .i64 (st.steps + 1))).alloc (.cells #[.int .i64 3, .int .i64 at', .string nm, .slice ta tl tc, .slice ea eln ec, .bool tw] 102)).cell? ⟨w.heap.size, 4, none⟩ = some (.slice ea eln ec) := cell_new _ _ 4 _ _ (by simp)
  have hz1 : w.heap.size < ((w.setCell ⟨p.pb, 4, none⟩ (.int .i64 (st.steps + 1))).alloc (.cells #[.int .i64 3, .int .i64 at', .string nm, .slice ta tl tc, .slice ea eln ec, .bool tw] 102)).heap.size := by rw [World.size_alloc, World.size_setCell]; omega
  generalize ((w.setCell ⟨p.pb, 4, none⟩ (.int .i64 (st.steps + 1))).alloc (.cells #[.int .i64 3, .int .i64 at', .string nm, .slice ta tl tc, .slice ea eln ec, .bool tw] 102)) = w1 at *
  have HP1 := hidS hP1
  have HC1 := hidS hC1
  have Hfd := hidS (r93 w1 p ra rc R _ nm (by omega) hP1)
  clear hP1 hC1 Hst hw
  go_wp2_with fail
  refine Hfd.out.mono ?_
  rintro e w2 ⟨hpost, hb2⟩
  have hP2 := HP1.out.below hb2
  have HP2 := hidS hP2
  have HC2 : Hid (ChP p.pb (.slice ra R.length rc) (.slice ra R.length rc) w w2) := HC1.out.trans (ChP.of_below hb2)
  have j0 := (hb2.cell (p := ⟨w.heap.size, 0, none⟩) hz1).trans k0
  have j2 := (hb2.cell (p := ⟨w.heap.size, 2, none⟩) hz1).trans k2
  have j3 := (hb2.cell (p := ⟨w.heap.size, 3, none⟩) hz1).trans k3
  have j4 := (hb2.cell (p := ⟨w.heap.size, 4, none⟩) hz1).trans k4
  have hz2 : w.heap.size < w2.heap.size := by have := hb2.size; omega
  have hpl2 := hP2.lt
  have c5 := hP2.c5
  have f5 := hP2.f5
  have HB2 := hidS hb2
  clear k0 k2 k3 k4 hP2 hb2 Hfd
  rcases hpost with ⟨hl, rfl⟩ | ⟨n, l, t, rows, a, c, hl, rfl, hV, hok, hbk, hlc, hc⟩
  · have HE : Hid (insF (pagF p.ts p.tr m) p.ts R 3 nm th el { st with steps := st.steps + 1 } = { st with steps := st.steps + 1, err := 7 }) := by show _ = _; rw [insF, if_neg (by decide), hl]
    clear hl
    go_wp2
    refine bodyPost_ret (results_none rfl _ _ _) rfl ?_
    exact ⟨rfl, ra, rc, by rw [HE.out]; exact (HP2.out.set { st with steps := st.steps + 1, err := 7 } 5 _ (.inr (.inr ⟨rfl, rfl, rfl, rfl⟩)) HP2.out.fit).alloc _, (HC2.out.set 5 _).alloc _⟩
  · have HE : Hid (insF (pagF p.ts p.tr m) p.ts R 3 nm th el { st with steps := st.steps + 1 } = if yesF l t rows = true then pagF p.ts p.tr m th R { st with steps := st.steps + 1 } else pagF p.ts p.tr m el R { st with steps := st.steps + 1 }) := by show _ = _; rw [insF, if_neg (by decide), hl]; rfl
    clear hl
    have HP3 := hidS (HP2.out.alloc (.cells #[.string n, .bool l, .string t, .slice a rows.len c] 88))
    have HC3 := hidS (HC2.out.alloc (.cells #[.string n, .bool l, .string t, .slice a rows.len c] 88))
    have hlow := HC3.out.low HP.out
    have ht := HB.out _ p ra rc R { st with steps := st.steps + 1 } ta tc th (by simp only; omega) (by simp only; omega) (HT.out.mono hlow) HWt.out hst (by rw [htl.out]; exact HSt.out.mono hlow (fun _ q => q)) HP3.out
    have he := HB.out _ p ra rc R { st with steps := st.steps + 1 } ea ec el (by simp only; omega) (by simp only; omega) (HT.out.mono hlow) HWe.out hse (by rw [hel.out]; exact HSe.out.mono hlow (fun _ q => q)) HP3.out
    rw [htl.out] at ht
    rw [hel.out] at he
    have Ht := hidS ht
    have He := hidS he
    have hrl : rows.len ≤ 1048576 := Nat.le_trans (Dat.len_bulk _) (by omega)
    clear hV hok hlc hc c5 f5 ht he hlow
    cases l
    · by_cases hy : 0 < t.size
      · have hne : t.toList.isEmpty = false := by rw [tl_empty]; exact decide_eq_false (by omega)
        generalize hrr : rows.len = rl at *
        have HE2 : Hid (insF (pagF p.ts p.tr m) p.ts R 3 nm th el { st with steps := st.steps + 1 } = pagF p.ts p.tr m th R { st with steps := st.steps + 1 }) := by show _ = _; rw [HE.out, if_pos (by simp [yesF, hy])]
        go_wp2_with fail
        refine Ht.out.mono ?_
        rintro e w3 ⟨rfl, ra3, rc3, hP3, hC3⟩
        have HP4 := hidS hP3
        have HC4 := hidS (HC3.out.trans hC3)
        clear hP3 hC3 Ht He HP3
        go_wp2
        go_end0
        exact ⟨rfl, ra3, rc3, by rw [HE2.out]; exact HP4.out, HC4.out⟩
      · have hne : t.toList.isEmpty = true := by rw [tl_empty]; exact decide_eq_true (by omega)
        generalize hrr : rows.len = rl at *
        have HE2 : Hid (insF (pagF p.ts p.tr m) p.ts R 3 nm th el { st with steps := st.steps + 1 } = pagF p.ts p.tr m el R { st with steps := st.steps + 1 }) := by show _ = _; rw [HE.out, if_neg (by simp [yesF, hy])]
        go_wp2_with fail
        refine He.out.mono ?_
        rintro e w3 ⟨rfl, ra3, rc3, hP3, hC3⟩
        have HP4 := hidS hP3
        have HC4 := hidS (HC3.out.trans hC3)
        clear hP3 hC3 Ht He HP3
        go_wp2
        go_end0
        exact ⟨rfl, ra3, rc3, by rw [HE2.out]; exact HP4.out, HC4.out⟩
    · by_cases hy : 0 < rows.len
      · have hy2 := hidS hy
        have HE2 : Hid (insF (pagF p.ts p.tr m) p.ts R 3 nm th el { st with steps := st.steps + 1 } = pagF p.ts p.tr m th R { st with steps := st.steps + 1 }) := by show _ = _; rw [HE.out, if_pos (by simp [yesF, hy])]
        generalize rows.len = rl at *
        clear HE
        go_wp2_with fail
        refine Ht.out.mono ?_
        rintro e w3 ⟨rfl, ra3, rc3, hP3, hC3⟩
        have HP4 := hidS hP3
        have HC4 := hidS (HC3.out.trans hC3)
        clear hP3 hC3 Ht He HP3
        go_wp2
        go_end0
        exact ⟨rfl, ra3, rc3, by rw [HE2.out]; exact HP4.out, HC4.out⟩
      · have hy2 : rows.len = 0 := by omega
        have HE2 : Hid (insF (pagF p.ts p.tr m) p.ts R 3 nm th el { st with steps := st.steps + 1 } = pagF p.ts p.tr m el R { st with steps := st.steps + 1 }) := by show _ = _; rw [HE.out, if_neg (by simp [yesF, hy])]
        clear HE hy
        generalize rows.len = rl at *
        subst hy2
        go_wp2_with fail
        refine He.out.mono ?_
        rintro e w3 ⟨rfl, ra3, rc3, hP3, hC3⟩
        have HP4 := hidS hP3
        have HC4 := hidS (HC3.out.trans hC3)
        clear hP3 hC3 Ht He HP3
        go_wp2
        go_end0
        exact ⟨rfl, ra3, rc3, by rw [HE2.out]; exact HP4.out, HC4.out⟩
end Go.Proofs.YtffkejkgkgfnhabGreat
