import Derived.Test.YtffkejkgkgfnhabGreatG37
namespace Go.Proofs.YtffkejkgkgfnhabGreat
open Go.RowKit
set_option linter.unusedVariables false
theorem pag_nil (ts : List Tm) (tr : Bool) (m : Nat) (R : List Dat) (st : Pst) : pagF ts tr m .nil R st = st := by cases m <;> rfl
theorem WrOK.lt {w : World} {p : WrP} {R : List Dat} {st : Pst} (h : WrOK w p R st) : p.pb < w.heap.size := by obtain ⟨_, _, _, _, hC⟩ := h; exact hC.lt
theorem WrOK.le {w : World} {p : WrP} {R : List Dat} {st : Pst} (h : WrOK w p R st) : p.N ≤ p.pb := by obtain ⟨_, _, _, _, hC⟩ := h; exact hC.le
theorem WrOK.below {w w' : World} {p : WrP} {R : List Dat} {st : Pst} (h : WrOK w p R st) (hb : Below w.heap.size w w') : WrOK w' p R st := by obtain ⟨ra, rc, oa, oc, hC⟩ := h; exact ⟨ra, rc, oa, oc, hC.below hb⟩
theorem WrOK.alloc {w : World} {p : WrP} {R : List Dat} {st : Pst} (h : WrOK w p R st) (o : Obj) : WrOK (w.alloc o) p R st := h.below ((Below.refl _ _).alloc (Nat.le_refl _) _)
theorem WrOK.c0 {w : World} {p : WrP} {R : List Dat} {st : Pst} (h : WrOK w p R st) : w.cell? ⟨p.pb, 0, none⟩ = some (.slice (some ⟨p.g, 0, none⟩) p.A.length p.ac) := by obtain ⟨_, _, _, _, hC⟩ := h; exact hC.c0
theorem WrOK.acts {w : World} {p : WrP} {R : List Dat} {st : Pst} (h : WrOK w p R st) : AkAt p.s w p.g p.A := by obtain ⟨_, _, _, _, hC⟩ := h; exact hC.acts
theorem WrOK.alen {w : World} {p : WrP} {R : List Dat} {st : Pst} (h : WrOK w p R st) : p.A.length ≤ 1000 ∧ p.A.length ≤ p.ac ∧ p.ac ≤ maxLen ∧ p.g < p.pb := by obtain ⟨_, _, _, _, hC⟩ := h; exact ⟨hC.alen, hC.ale, hC.acm, Nat.lt_of_lt_of_le hC.glt hC.le⟩
theorem WrOK.c4 {w : World} {p : WrP} {R : List Dat} {st : Pst} (h : WrOK w p R st) : w.cell? ⟨p.pb, 4, none⟩ = some (.int .i64 st.steps) ∧ w.frozen? ⟨p.pb, 4, none⟩ = false ∧ st.steps ≤ 500 := by obtain ⟨_, _, _, _, hC⟩ := h; exact ⟨hC.c4, hC.f4, hC.fit.2⟩
theorem WrOK.step {w : World} {p : WrP} {R : List Dat} {st : Pst} (h : WrOK w p R st) (hs : st.steps < 500) : WrOK (w.setCell ⟨p.pb, 4, none⟩ (.int .i64 (st.steps + 1))) p R { st with steps := st.steps + 1 } := by obtain ⟨ra, rc, oa, oc, hC⟩ := h; exact ⟨ra, rc, oa, oc, hC.step hs⟩
set_option maxRecDepth 100000 in
set_option maxHeartbeats 1000000 in
theorem b119 (m : Nat) (hB : BodW m) (w : World) (p : WrP) (ts : List Tm) (R : List Dat) (st : Pst) (nm : ByteArray) (b : Nds) (hm : 500 ≤ st.steps + m) (hR : R.length ≤ st.steps + 1) (hS : SrcW p.s p.A ts) (hh : hitB nm p.A = true) (hb : BodAt p.s p.A (idxA nm p.A 0 + 1) b) (he : st.err = 0) (h : WrOK w p R st) :
   Calls Tryz.prog 115 #[.pointer (some ⟨p.pb, 0, none⟩), .string nm] w (WrPost p R (pagF ts true m b R st) w) := by
  have hc := hB w p ts R st _ b hm hR hS hb he h
  have hcast : ((idxA nm p.A 0 + 1 : Nat) : Int) = (idxA nm p.A 0 : Int) + 1 := by omega
  rw [hcast] at hc
  have Hc := hidS hc
  have hil := hb.lt
  have c0 := h.c0
  have hal := h.alen
  have hpl := h.lt
  have hf := c71 p.s w p.g p.ac p.A.length p.A nm (Nat.le_refl _) hal.1 h.acts
  rw [List.take_length, hh] at hf
  have Hf := hidS hf
  clear hB hS hb h hc hf hcast
  generalize idxA nm p.A 0 = ix at *
  go_enter Tryz.func115, Tryz.ntmps115
  go_wp2_with fail
  refine Hf.out.mono ?_
  rintro e w' ⟨rfl, hw⟩
  obtain rfl := hw.symm
  go_wp2_with fail
  refine Hc.out.mono ?_
  rintro e w2 ⟨rfl, h1, h2⟩
  have H1 := hidS h1
  clear h1
  go_wp2
  go_ret
  exact ⟨rfl, H1.out, h2⟩
set_option maxRecDepth 100000 in
set_option maxHeartbeats 4000000 in
theorem b122 (m : Nat) (hB : BodW m) (w : World) (p : WrP) (ts : List Tm) (R : List Dat) (st : Pst) (i : Nat) (th el : Nds) (n t : ByteArray) (l : Bool) (rows : Dat) (fa : Option Addr) (fc : Nat) (hm : 500 ≤ st.steps + m) (hR : R.length ≤ st.steps + 1) (hS : SrcW p.s p.A ts)
   (hth : BodAt p.s p.A i th) (hj : endI p.A i < p.A.length) (ho : (kAt p.A (endI p.A i) = 5 ∧ BodAt p.s p.A (endI p.A i + 1) el) ∨ (kAt p.A (endI p.A i) ≠ 5 ∧ el = .nil)) (he : st.err = 0) (hlc : rows.len ≤ fc) (hfc : fc ≤ maxLen) (h : WrOK w p R st) :
   Calls Tryz.prog 118 #[.pointer (some ⟨p.pb, 0, none⟩), .int .i64 i, .agg #[.string n, .bool l, .string t, .slice fa rows.len fc]] w (WrPost p R (if yesF l t rows = true then pagF ts true m th R st else pagF ts true m el R st) w) := by
  have HW := hidS h
  have hil := hth.lt
  have hal := h.alen
  obtain ⟨S, HSt⟩ : ∃ S, Hid (S = if yesF l t rows = true then pagF ts true m th R st else pagF ts true m el R st) := ⟨_, rfl⟩
  rw [← HSt.out]
  have Hfu := hidS (fun wx => b134 wx n t l fa rows fc hlc hfc)
  have HB := hidS hB
  have HS := hidS hS
  have HTH := hidS hth
  have HOO := hidS ho
  clear hB hS hth ho h
  generalize hY : yesF l t rows = Y at *
  clear hY
  generalize rows.len = rl at *
  go_enter Tryz.func118, Tryz.ntmps118
  go_wp2_with fail
  refine (Hfu.out _).mono ?_
  rintro e w1 ⟨rfl, hb1⟩
  have hb2 : Below w.heap.size w w1 := by first | exact hb1 | exact ((Below.refl _ _).alloc (Nat.le_refl _) _).trans (hb1.mono (by simp))
  have hW1 := HW.out.below hb2
  have HC1 : Hid (ChW p w w1) := ChW.of_below hb2
  clear hb1 hb2 Hfu HW
  have c0 := hW1.c0
  have hp1 := hW1.lt
  have hac := hW1.acts
  cases Y
  · have HSf : Hid (S = pagF ts true m el R st) := by show _ = _; rw [HSt.out, if_neg (by decide)]
    clear HSt
    have hJ := b117 p.s w1 p.g p.ac p.A i (by omega) hal.1 hac
    have HJ := hidS hJ
    have cj := (hac _ hj).1
    rw [← kAt_in p.A _ hj] at cj
    have HW1 := hidS hW1
    clear hJ hac hW1
    have HEL : Hid (BodAt p.s p.A (endI p.A i + 1) el → Calls Tryz.prog 74 #[.pointer (some ⟨p.pb, 0, none⟩), .int .i64 ((endI p.A i : Int) + 1)] w1 (WrPost p R (pagF ts true m el R st) w1)) := fun hq => by
      have := HB.out w1 p ts R st _ el hm hR HS.out hq he HW1.out
      have hcast : ((endI p.A i + 1 : Nat) : Int) = (endI p.A i : Int) + 1 := by omega
      rw [hcast] at this
      exact this
    rcases HOO.out with ⟨k5, hq⟩ | ⟨k5, hq⟩
    · have Hc := hidS (HEL.out hq)
      rw [k5] at cj
      clear HEL HOO hq k5 HTH
      generalize endI p.A i = J at *
      go_wp2_with fail
      refine HJ.out.mono ?_
      rintro e w' ⟨rfl, hw⟩
      obtain rfl := hw.symm
      go_wp2_with fail
      refine Hc.out.mono ?_
      rintro e w2 ⟨rfl, h1, h2⟩
      have H1 := hidS h1
      clear h1
      go_wp2
      go_ret
      exact ⟨by rw [HSf.out]; rfl, by rw [HSf.out]; exact H1.out, HC1.out.trans h2⟩
    · have e5 : (kAt p.A (endI p.A i) == 5) = false := by simpa using k5
      subst hq
      clear HEL HOO k5 HTH
      generalize kAt p.A (endI p.A i) = kj at *
      generalize endI p.A i = J at *
      go_wp2_with fail
      refine HJ.out.mono ?_
      rintro e w' ⟨rfl, hw⟩
      obtain rfl := hw.symm
      go_wp2
      go_ret
      exact wr_ok (by rw [HSf.out, pag_nil]; exact he) (by rw [HSf.out, pag_nil]; exact HW1.out) HC1.out
  · have HSf : Hid (S = pagF ts true m th R st) := by show _ = _; rw [HSt.out, if_pos rfl]
    have Hc := hidS (HB.out w1 p ts R st i th hm hR HS.out HTH.out he hW1)
    clear hac hW1 HOO HSt
    go_wp2_with fail
    refine Hc.out.mono ?_
    rintro e w2 ⟨rfl, h1, h2⟩
    have H1 := hidS h1
    clear h1
    go_wp2
    go_ret
    exact ⟨by rw [HSf.out]; rfl, by rw [HSf.out]; exact H1.out, HC1.out.trans h2⟩
theorem cellQ_new (w : World) (n j : Nat) (cs : Array Value) (ty : Nat) (h : n = w.heap.size) : (w.alloc (.cells cs ty)).cell? ⟨n, j, none⟩ = cs[j]? := by
  subst h; simp
set_option maxRecDepth 100000 in
set_option maxHeartbeats 2000000 in
theorem b98s (w : World) (p : WrP) (R : List Dat) (st st' : Pst) (kd ap nx k : Int) (nm hd : ByteArray) (hs : ¬ st.steps < 500) (hst : st'.err = 12) (h : WrOK w p R st) :
   Calls Tryz.prog 94 #[.pointer (some ⟨p.pb, 0, none⟩), .agg #[.int .i64 kd, .string nm, .int .i64 ap, .int .i64 nx, .string hd], .int .i64 k] w (WrPost p R st' w) := by
  have Hst := hidS (fun o => b118no (w.alloc o) p.pb st.steps hs h.c4.2.2 (h.alloc o).c4.1)
  have hlt := h.lt
  clear h
  go_enter Tryz.func94, Tryz.ntmps94
  go_wp2_with (go_at_call 114; refine (Hst.out _).mono ?_; rintro e w' ⟨rfl, hw⟩; obtain rfl := hw.symm)
  go_ret
  exact wr_stop 12 hst (by decide) ((ChW.refl _ _).alloc _)
set_option maxRecDepth 100000 in
set_option maxHeartbeats 2000000 in
theorem b98c (m : Nat) (hB : BodW m) (w : World) (p : WrP) (ts : List Tm) (R : List Dat) (st : Pst) (ap nx k : Int) (nm hd : ByteArray) (b : Nds) (hs : st.steps < 500) (hm : 500 ≤ st.steps + 1 + m) (hR : R.length ≤ st.steps + 1) (hS : SrcW p.s p.A ts) (hh : hitB nm p.A = true) (hb : BodAt p.s p.A (idxA nm p.A 0 + 1) b) (he : st.err = 0) (h : WrOK w p R st) :
   Calls Tryz.prog 94 #[.pointer (some ⟨p.pb, 0, none⟩), .agg #[.int .i64 8, .string nm, .int .i64 ap, .int .i64 nx, .string hd], .int .i64 k] w (WrPost p R (pagF ts true m b R { st with steps := st.steps + 1 }) w) := by
  have Hst := hidS (fun o => b118 (w.alloc o) p.pb st.steps hs (h.alloc o).c4.1 (h.alloc o).c4.2.1)
  have hW1 := (h.step hs).alloc (.cells #[.int .i64 8, .string nm, .int .i64 ap, .int .i64 nx, .string hd] 121)
  have HC1 : Hid (ChW p w ((w.setCell ⟨p.pb, 4, none⟩ (.int .i64 (st.steps + 1))).alloc (.cells #[.int .i64 8, .string nm, .int .i64 ap, .int .i64 nx, .string hd] 121))) := ((ChW.refl _ _).set 4 _).alloc _
  have hlt := h.lt
  have Hc := hidS (b119 m hB _ p ts R { st with steps := st.steps + 1 } nm b hm (by show R.length ≤ st.steps + 1 + 1; omega) hS hh hb he hW1)
  have k1 : ((w.setCell ⟨p.pb, 4, none⟩ (.int .i64 (st.steps + 1))).alloc (.cells #[.int .i64 8, .string nm, .int .i64 ap, .int .i64 nx, .string hd] 121)).cell? ⟨w.heap.size, 1, none⟩ = some (.string nm) := cellQ_new _ _ 1 _ _ (by simp)
  clear h hB hS hb hW1 he
  go_enter Tryz.func94, Tryz.ntmps94
  go_wp2_with (go_at_call 114; refine (Hst.out _).mono ?_; rintro e w' ⟨rfl, hw⟩; obtain rfl := hw.symm)
  refine Hc.out.mono ?_
  rintro e w2 ⟨rfl, h1, h2⟩
  have H1 := hidS h1
  clear h1
  go_wp2
  go_ret
  exact ⟨rfl, H1.out, HC1.out.trans h2⟩
set_option maxRecDepth 100000 in
set_option maxHeartbeats 4000000 in
theorem b98h (w : World) (p : WrP) (ts : List Tm) (R : List Dat) (st : Pst) (ap nx : Int) (k : Nat) (nm hd : ByteArray) (hs : st.steps < 500) (hR : R.length ≤ st.steps + 1) (he : st.err = 0) (h : WrOK w p R st) (B : Nds → List Dat → Pst → Pst) (th el : Nds) :
   Calls Tryz.prog 94 #[.pointer (some ⟨p.pb, 0, none⟩), .agg #[.int .i64 3, .string nm, .int .i64 ap, .int .i64 nx, .string hd], .int .i64 ((k : Int) + 1)] w (WrPost p R (insF B ts R 2 nm th el { st with steps := st.steps + 1 }) w) := by
  obtain ⟨SS, HSS⟩ : ∃ S, Hid (S = insF B ts R 2 nm th el { st with steps := st.steps + 1 }) := ⟨_, rfl⟩
  rw [← HSS.out]
  have HER := hidS he
  clear he
  have Hst := hidS (fun o => b118 (w.alloc o) p.pb st.steps hs (h.alloc o).c4.1 (h.alloc o).c4.2.1)
  have hW1 := (h.step hs).alloc (.cells #[.int .i64 3, .string nm, .int .i64 ap, .int .i64 nx, .string hd] 121)
  have HC1 : Hid (ChW p w ((w.setCell ⟨p.pb, 4, none⟩ (.int .i64 (st.steps + 1))).alloc (.cells #[.int .i64 3, .string nm, .int .i64 ap, .int .i64 nx, .string hd] 121))) := ((ChW.refl _ _).set 4 _).alloc _
  have hlt := h.lt
  have k0 : ((w.setCell ⟨p.pb, 4, none⟩ (.int .i64 (st.steps + 1))).alloc (.cells #[.int .i64 3, .string nm, .int .i64 ap, .int .i64 nx, .string hd] 121)).cell? ⟨w.heap.size, 0, none⟩ = some (.int .i64 3) := cellQ_new _ _ 0 _ _ (by simp)
  have k1 : ((w.setCell ⟨p.pb, 4, none⟩ (.int .i64 (st.steps + 1))).alloc (.cells #[.int .i64 3, .string nm, .int .i64 ap, .int .i64 nx, .string hd] 121)).cell? ⟨w.heap.size, 1, none⟩ = some (.string nm) := cellQ_new _ _ 1 _ _ (by simp)
  have hz1 : w.heap.size < ((w.setCell ⟨p.pb, 4, none⟩ (.int .i64 (st.steps + 1))).alloc (.cells #[.int .i64 3, .string nm, .int .i64 ap, .int .i64 nx, .string hd] 121)).heap.size := by rw [World.size_alloc, World.size_setCell]; omega
  have HW1 := hidS hW1
  have Hfd := hidS (b120 _ p R _ nm (by omega) hW1)
  clear h hW1
  go_enter Tryz.func94, Tryz.ntmps94
  go_wp2_with (go_at_call 114; refine (Hst.out _).mono ?_; rintro e w' ⟨rfl, hw⟩; obtain rfl := hw.symm)
  generalize ((w.setCell ⟨p.pb, 4, none⟩ (.int .i64 (st.steps + 1))).alloc (.cells #[.int .i64 3, .string nm, .int .i64 ap, .int .i64 nx, .string hd] 121)) = w1 at *
  clear Hst hw
  refine Hfd.out.mono ?_
  rintro e w2 ⟨hpost, hb2⟩
  have hW2 := HW1.out.below hb2
  have HC2 : Hid (ChW p w w2) := HC1.out.trans (ChW.of_below hb2)
  have j0 := (hb2.cell (p := ⟨w.heap.size, 0, none⟩) hz1).trans k0
  have j1 := (hb2.cell (p := ⟨w.heap.size, 1, none⟩) hz1).trans k1
  have hz2 : w.heap.size < w2.heap.size := by have := hb2.size; omega
  have hp2 := hW2.lt
  have HB2 := hidS hb2
  have HW2 := hidS hW2
  clear k0 k1 hW2 hb2 Hfd
  rcases hpost with ⟨hl, rfl⟩ | ⟨n, l, t, rows, a, c, hl, rfl, hV, hok, hbk, hlc, hc⟩
  · have HE : Hid (SS = { st with steps := st.steps + 1, err := 7 }) := by show _ = _; rw [HSS.out, insF, if_neg (by decide), hl]
    clear hl
    go_wp2
    go_ret
    exact wr_stop 7 (by rw [HE.out]) (by decide) (by first | exact HC2.out | exact HC2.out.alloc _)
  · have HE : Hid (SS = filQ l t { st with steps := st.steps + 1 }) := by show _ = _; rw [HSS.out, insF, if_neg (by decide), hl]; rfl
    clear hl
    have HW3 := hidS (HW2.out.alloc (.cells #[.string n, .bool l, .string t, .slice a rows.len c] 88))
    have HC3 := hidS (HC2.out.alloc (.cells #[.string n, .bool l, .string t, .slice a rows.len c] 88))
    have hh := b121 _ p R { st with steps := st.steps + 1 } n t l a rows.len c hbk.2 HER.out HW3.out
    rw [← HE.out] at hh
    have Hh := hidS hh
    clear hh
    clear hV hok hbk hlc hc
    generalize rows.len = rl at *
    go_wp2_with fail
    refine Hh.out.mono ?_
    rintro e w3 ⟨rfl, h1, h2⟩
    have H1 := hidS h1
    clear h1
    go_wp2
    go_ret
    exact ⟨rfl, H1.out, HC3.out.trans h2⟩
set_option maxRecDepth 100000 in
set_option maxHeartbeats 4000000 in
theorem b98l (w : World) (p : WrP) (ts : List Tm) (R : List Dat) (st : Pst) (ap nx : Int) (k : Nat) (nm hd : ByteArray) (hs : st.steps < 500) (hR : R.length ≤ st.steps + 1) (he : st.err = 0) (h : WrOK w p R st) (m : Nat) (hB : BodW m) (hm : 500 ≤ st.steps + 1 + m) (hS : SrcW p.s p.A ts) (th el : Nds) (hth : BodAt p.s p.A (k + 1) th) :
   Calls Tryz.prog 94 #[.pointer (some ⟨p.pb, 0, none⟩), .agg #[.int .i64 6, .string nm, .int .i64 ap, .int .i64 nx, .string hd], .int .i64 ((k : Int) + 1)] w (WrPost p R (insF (pagF ts true m) ts R 4 nm th el { st with steps := st.steps + 1 }) w) := by
  obtain ⟨SS, HSS⟩ : ∃ S, Hid (S = insF (pagF ts true m) ts R 4 nm th el { st with steps := st.steps + 1 }) := ⟨_, rfl⟩
  rw [← HSS.out]
  have HER := hidS he
  clear he
  have Hst := hidS (fun o => b118 (w.alloc o) p.pb st.steps hs (h.alloc o).c4.1 (h.alloc o).c4.2.1)
  have hW1 := (h.step hs).alloc (.cells #[.int .i64 6, .string nm, .int .i64 ap, .int .i64 nx, .string hd] 121)
  have HC1 : Hid (ChW p w ((w.setCell ⟨p.pb, 4, none⟩ (.int .i64 (st.steps + 1))).alloc (.cells #[.int .i64 6, .string nm, .int .i64 ap, .int .i64 nx, .string hd] 121))) := ((ChW.refl _ _).set 4 _).alloc _
  have hlt := h.lt
  have k0 : ((w.setCell ⟨p.pb, 4, none⟩ (.int .i64 (st.steps + 1))).alloc (.cells #[.int .i64 6, .string nm, .int .i64 ap, .int .i64 nx, .string hd] 121)).cell? ⟨w.heap.size, 0, none⟩ = some (.int .i64 6) := cellQ_new _ _ 0 _ _ (by simp)
  have k1 : ((w.setCell ⟨p.pb, 4, none⟩ (.int .i64 (st.steps + 1))).alloc (.cells #[.int .i64 6, .string nm, .int .i64 ap, .int .i64 nx, .string hd] 121)).cell? ⟨w.heap.size, 1, none⟩ = some (.string nm) := cellQ_new _ _ 1 _ _ (by simp)
  have hz1 : w.heap.size < ((w.setCell ⟨p.pb, 4, none⟩ (.int .i64 (st.steps + 1))).alloc (.cells #[.int .i64 6, .string nm, .int .i64 ap, .int .i64 nx, .string hd] 121)).heap.size := by rw [World.size_alloc, World.size_setCell]; omega
  have HW1 := hidS hW1
  have Hfd := hidS (b120 _ p R _ nm (by omega) hW1)
  clear h hW1
  have HB := hidS hB
  have HS := hidS hS
  have HTH := hidS hth
  clear hB hS hth
  go_enter Tryz.func94, Tryz.ntmps94
  go_wp2_with (go_at_call 114; refine (Hst.out _).mono ?_; rintro e w' ⟨rfl, hw⟩; obtain rfl := hw.symm)
  generalize ((w.setCell ⟨p.pb, 4, none⟩ (.int .i64 (st.steps + 1))).alloc (.cells #[.int .i64 6, .string nm, .int .i64 ap, .int .i64 nx, .string hd] 121)) = w1 at *
  clear Hst hw
  refine Hfd.out.mono ?_
  rintro e w2 ⟨hpost, hb2⟩
  have hW2 := HW1.out.below hb2
  have HC2 : Hid (ChW p w w2) := HC1.out.trans (ChW.of_below hb2)
  have j0 := (hb2.cell (p := ⟨w.heap.size, 0, none⟩) hz1).trans k0
  have j1 := (hb2.cell (p := ⟨w.heap.size, 1, none⟩) hz1).trans k1
  have hz2 : w.heap.size < w2.heap.size := by have := hb2.size; omega
  have hp2 := hW2.lt
  have HB2 := hidS hb2
  have HW2 := hidS hW2
  clear k0 k1 hW2 hb2 Hfd
  rcases hpost with ⟨hl, rfl⟩ | ⟨n, l, t, rows, a, c, hl, rfl, hV, hok, hbk, hlc, hc⟩
  · have HE : Hid (SS = { st with steps := st.steps + 1, err := 7 }) := by show _ = _; rw [HSS.out, insF, if_neg (by decide), hl]
    clear hl
    go_wp2
    go_ret
    exact wr_stop 7 (by rw [HE.out]) (by decide) (by first | exact HC2.out | exact HC2.out.alloc _)
  · have HE : Hid (SS = lpsF (pagF ts true m) th R l rows { st with steps := st.steps + 1 }) := by show _ = _; rw [HSS.out, insF, if_neg (by decide), hl]; rfl
    clear hl
    have HW3 := hidS (HW2.out.alloc (.cells #[.string n, .bool l, .string t, .slice a rows.len c] 88))
    have HC3 := hidS (HC2.out.alloc (.cells #[.string n, .bool l, .string t, .slice a rows.len c] 88))
    have hV3 : DatV (w2.alloc (.cells #[.string n, .bool l, .string t, .slice a rows.len c] 88)) p.N a rows := hV.mono (Nat.le_refl _) (fun q hq => (Below.heap_alloc _ _ _ (by have := HW1.out.le; omega)).trans (HB2.out.block q (by have := HW1.out.lt; have := HW1.out.le; omega)))
    have hh := b123 m HB.out _ p ts R { st with steps := st.steps + 1 } (k + 1) th n t l rows a c hm (by show R.length ≤ st.steps + 1 + 1; omega) HS.out HTH.out HER.out hV3 hok hbk.1 hlc hc HW3.out
    have hcast : ((k + 1 : Nat) : Int) = (k : Int) + 1 := by omega
    rw [hcast, ← HE.out] at hh
    have Hh := hidS hh
    clear hV hok hbk hlc hc hh hV3
    generalize rows.len = rl at *
    go_wp2_with fail
    refine Hh.out.mono ?_
    rintro e w3 ⟨rfl, h1, h2⟩
    have H1 := hidS h1
    clear h1
    go_wp2
    go_ret
    exact ⟨rfl, H1.out, HC3.out.trans h2⟩
set_option maxRecDepth 100000 in
set_option maxHeartbeats 4000000 in
theorem b98q (w : World) (p : WrP) (ts : List Tm) (R : List Dat) (st : Pst) (ap nx : Int) (k : Nat) (nm hd : ByteArray) (hs : st.steps < 500) (hR : R.length ≤ st.steps + 1) (he : st.err = 0) (h : WrOK w p R st) (m : Nat) (hB : BodW m) (hm : 500 ≤ st.steps + 1 + m) (hS : SrcW p.s p.A ts) (th el : Nds) (hth : BodAt p.s p.A (k + 1) th) (hj : endI p.A (k + 1) < p.A.length) (ho : (kAt p.A (endI p.A (k + 1)) = 5 ∧ BodAt p.s p.A (endI p.A (k + 1) + 1) el) ∨ (kAt p.A (endI p.A (k + 1)) ≠ 5 ∧ el = .nil)) :
   Calls Tryz.prog 94 #[.pointer (some ⟨p.pb, 0, none⟩), .agg #[.int .i64 4, .string nm, .int .i64 ap, .int .i64 nx, .string hd], .int .i64 ((k : Int) + 1)] w (WrPost p R (insF (pagF ts true m) ts R 3 nm th el { st with steps := st.steps + 1 }) w) := by
  obtain ⟨SS, HSS⟩ : ∃ S, Hid (S = insF (pagF ts true m) ts R 3 nm th el { st with steps := st.steps + 1 }) := ⟨_, rfl⟩
  rw [← HSS.out]
  have HER := hidS he
  clear he
  have Hst := hidS (fun o => b118 (w.alloc o) p.pb st.steps hs (h.alloc o).c4.1 (h.alloc o).c4.2.1)
  have hW1 := (h.step hs).alloc (.cells #[.int .i64 4, .string nm, .int .i64 ap, .int .i64 nx, .string hd] 121)
  have HC1 : Hid (ChW p w ((w.setCell ⟨p.pb, 4, none⟩ (.int .i64 (st.steps + 1))).alloc (.cells #[.int .i64 4, .string nm, .int .i64 ap, .int .i64 nx, .string hd] 121))) := ((ChW.refl _ _).set 4 _).alloc _
  have hlt := h.lt
  have k0 : ((w.setCell ⟨p.pb, 4, none⟩ (.int .i64 (st.steps + 1))).alloc (.cells #[.int .i64 4, .string nm, .int .i64 ap, .int .i64 nx, .string hd] 121)).cell? ⟨w.heap.size, 0, none⟩ = some (.int .i64 4) := cellQ_new _ _ 0 _ _ (by simp)
  have k1 : ((w.setCell ⟨p.pb, 4, none⟩ (.int .i64 (st.steps + 1))).alloc (.cells #[.int .i64 4, .string nm, .int .i64 ap, .int .i64 nx, .string hd] 121)).cell? ⟨w.heap.size, 1, none⟩ = some (.string nm) := cellQ_new _ _ 1 _ _ (by simp)
  have hz1 : w.heap.size < ((w.setCell ⟨p.pb, 4, none⟩ (.int .i64 (st.steps + 1))).alloc (.cells #[.int .i64 4, .string nm, .int .i64 ap, .int .i64 nx, .string hd] 121)).heap.size := by rw [World.size_alloc, World.size_setCell]; omega
  have HW1 := hidS hW1
  have Hfd := hidS (b120 _ p R _ nm (by omega) hW1)
  clear h hW1
  have HB := hidS hB
  have HS := hidS hS
  have HTH := hidS hth
  have HOO := hidS ho
  have HJ := hidS hj
  clear hB hS hth ho hj
  go_enter Tryz.func94, Tryz.ntmps94
  go_wp2_with (go_at_call 114; refine (Hst.out _).mono ?_; rintro e w' ⟨rfl, hw⟩; obtain rfl := hw.symm)
  generalize ((w.setCell ⟨p.pb, 4, none⟩ (.int .i64 (st.steps + 1))).alloc (.cells #[.int .i64 4, .string nm, .int .i64 ap, .int .i64 nx, .string hd] 121)) = w1 at *
  clear Hst hw
  refine Hfd.out.mono ?_
  rintro e w2 ⟨hpost, hb2⟩
  have hW2 := HW1.out.below hb2
  have HC2 : Hid (ChW p w w2) := HC1.out.trans (ChW.of_below hb2)
  have j0 := (hb2.cell (p := ⟨w.heap.size, 0, none⟩) hz1).trans k0
  have j1 := (hb2.cell (p := ⟨w.heap.size, 1, none⟩) hz1).trans k1
  have hz2 : w.heap.size < w2.heap.size := by have := hb2.size; omega
  have hp2 := hW2.lt
  have HB2 := hidS hb2
  have HW2 := hidS hW2
  clear k0 k1 hW2 hb2 Hfd
  rcases hpost with ⟨hl, rfl⟩ | ⟨n, l, t, rows, a, c, hl, rfl, hV, hok, hbk, hlc, hc⟩
  · have HE : Hid (SS = { st with steps := st.steps + 1, err := 7 }) := by show _ = _; rw [HSS.out, insF, if_neg (by decide), hl]
    clear hl
    go_wp2
    go_ret
    exact wr_stop 7 (by rw [HE.out]) (by decide) (by first | exact HC2.out | exact HC2.out.alloc _)
  · have HE : Hid (SS = if yesF l t rows = true then pagF ts true m th R { st with steps := st.steps + 1 } else pagF ts true m el R { st with steps := st.steps + 1 }) := by show _ = _; rw [HSS.out, insF, if_neg (by decide), hl]; rfl
    clear hl
    have HW3 := hidS (HW2.out.alloc (.cells #[.string n, .bool l, .string t, .slice a rows.len c] 88))
    have HC3 := hidS (HC2.out.alloc (.cells #[.string n, .bool l, .string t, .slice a rows.len c] 88))
    have hh := b122 m HB.out _ p ts R { st with steps := st.steps + 1 } (k + 1) th el n t l rows a c hm (by show R.length ≤ st.steps + 1 + 1; omega) HS.out HTH.out HJ.out HOO.out HER.out hlc hc HW3.out
    have hcast : ((k + 1 : Nat) : Int) = (k : Int) + 1 := by omega
    rw [hcast, ← HE.out] at hh
    have Hh := hidS hh
    clear hV hok hbk hlc hc hh
    generalize rows.len = rl at *
    go_wp2_with fail
    refine Hh.out.mono ?_
    rintro e w3 ⟨rfl, h1, h2⟩
    have H1 := hidS h1
    clear h1
    go_wp2
    go_ret
    exact ⟨rfl, H1.out, HC3.out.trans h2⟩
end Go.Proofs.YtffkejkgkgfnhabGreat
namespace Go.Proofs.YtffkejkgkgfnhabGreat
open Go.RowKit
set_option linter.unusedVariables false
theorem b98 (n : Nat) (hB : ∀ m, n = m + 1 → BodW m) (w : World) (p : WrP) (ts : List Tm) (R : List Dat) (st : Pst) (k : Nat) (hk : k < p.A.length) (kd at' : Int) (nm : ByteArray) (th el r : Nds) (tw : Bool) (hH : HdQ p.s p.A k p.A[k] (.cons kd at' nm th el tw r)) (ap nx : Int) (hd : ByteArray)
   (hn : 500 ≤ st.steps + n) (hR : R.length ≤ st.steps + 1) (hS : SrcW p.s p.A ts) (he : st.err = 0) (h : WrOK w p R st) :
   Calls Tryz.prog 94 #[.pointer (some ⟨p.pb, 0, none⟩), .agg #[.int .i64 p.A[k].kind, .string p.A[k].name, .int .i64 ap, .int .i64 nx, .string hd], .int .i64 ((k : Int) + 1)] w (WrPost p R (pceF (subF ts true n) ts R kd nm th el st) w) := by
  by_cases hs : st.steps < 500
  · have hp : pceF (subF ts true n) ts R kd nm th el st = insF (subF ts true n) ts R kd nm th el { st with steps := st.steps + 1 } := by rw [pceF, if_neg (by omega)]
    rw [hp]
    obtain ⟨m, rfl⟩ : ∃ m, n = m + 1 := ⟨n - 1, by omega⟩
    have hBm := hB m rfl
    have hsub : subF ts true (m + 1) = pagF ts true m := rfl
    rw [hsub]
    cases hH with
    | hole hq _ _ hr =>
      rw [hq]
      exact b98h w p ts R st ap nx k _ hd hs hR he h _ _ _
    | call hq _ _ hr =>
      obtain ⟨c1, c2⟩ := hS.call k hk hq
      have e5 : insF (pagF ts true m) ts R 5 p.A[k].name .nil .nil { st with steps := st.steps + 1 } = pagF ts true m (bod ts (tno ts p.A[k].name)) R { st with steps := st.steps + 1 } := by rw [insF, if_pos rfl]
      rw [hq, e5]
      exact b98c m hBm w p ts R st ap nx _ _ hd _ hs (by omega) hR hS c1 c2 he h
    | loop hq _ _ _ k1 hr =>
      rw [hq]
      exact b98l w p ts R st ap nx k _ hd hs hR he h m hBm (by omega) hS _ _ k1
    | choice hq _ _ _ _ _ k1 hr hj ho =>
      rw [hq]
      exact b98q w p ts R st ap nx k _ hd hs hR he h m hBm (by omega) hS _ _ k1 hj ho
  · have hp : pceF (subF ts true n) ts R kd nm th el st = { st with err := 12 } := by rw [pceF, if_pos (by omega)]
    rw [hp]
    exact b98s w p R st _ _ ap nx _ _ hd hs rfl h
/-- what stands at an action, and what the body is behind it -/
theorem HdQ.parts {s : ByteArray} {A : List Ak} {i : Nat} {a : Ak} {b : Nds} (h : HdQ s A i a b) : (ebK a.kind = true ∧ b = .nil) ∨ (ebK a.kind = false ∧ ∃ kd at' nm th el tw r, b = .cons kd at' nm th el tw r ∧ kd ≠ 1 ∧ BodAt s A (behF A i) r) := by
  cases h with
  | stop h => exact .inl ⟨h, rfl⟩
  | hole h at' r k => exact .inr ⟨by rw [h]; decide, _, _, _, _, _, _, _, rfl, by decide, k⟩
  | call h at' r k => exact .inr ⟨by rw [h]; decide, _, _, _, _, _, _, _, rfl, by decide, k⟩
  | loop h at' th r k1 k => exact .inr ⟨by rw [h]; decide, _, _, _, _, _, _, _, rfl, by decide, k⟩
  | choice h at' th el r tw k1 k hj ho => exact .inr ⟨by rw [h]; decide, _, _, _, _, _, _, _, rfl, by decide, k⟩
set_option maxRecDepth 100000 in
set_option maxHeartbeats 4000000 in
theorem b78 (n : Nat) (hB : ∀ m, n = m + 1 → BodW m) : BodW n := by
  intro w p ts R st i b hn hR hS hb he h
  have HW0 := hidS h
  have HB := hidS hB
  have HS := hidS hS
  have HB0 := hidS hb
  have hal := h.alen
  have hil := hb.lt
  rw [pagF_eq]
  clear h hB hS hb
  go_enter Tryz.func74, Tryz.ntmps74
  go_wp2
  go_loopw [5, 6] (fun iv _ wr => ∃ (k : Nat) (s1 : Pst) (b1 : Nds), k < p.A.length ∧ iv = .int .i64 k ∧ s1.err = 0 ∧ st.steps ≤ s1.steps ∧ Hid (BodAt p.s p.A k b1) ∧ Hid (WrOK wr p R s1) ∧ Hid (bdyF (subF ts true n) ts true R b st = bdyF (subF ts true n) ts true R b1 s1) ∧ Hid (ChW p w wr)) (fun iv _ _ => p.A.length - (intOf iv).toNat)
  case atStart => exact ⟨i, st, b, hil, rfl, he, Nat.le_refl _, HB0.out, HW0.out, rfl, ChW.refl _ _⟩
  case round =>
    clear HW0 HB0
    obtain ⟨k, s1, b1, hk, rfl, he1, hst, HBA, HW, HF, HC⟩ := hrel
    obtain ⟨_, r0, hHd, htz, hstep⟩ := body_step HBA.out
    have hs400 := HS.out.sz
    have hW := HW.out
    have c0 := hW.c0
    have hpl := hW.lt
    obtain ⟨a0, a1, a2, a4, a3⟩ := hW.acts k hk
    have Ht := hidS (b96 wr p R s1 (hdA p.s p.A k) (by omega) he1 hW)
    have HFt : Hid (bdyF (subF ts true n) ts true R b st = bdyF (subF ts true n) ts true R r0 (txtF true (hdA p.s p.A k).data.toList s1)) := by show _ = _; rw [HF.out]; exact hstep _ _ _ _ he1
    have hts := txtF_steps true (hdA p.s p.A k).data.toList s1
    have HHd := hidS hHd
    clear hW hstep hHd HF HBA
    generalize txtF true (hdA p.s p.A k).data.toList s1 = s2 at *
    generalize hdA p.s p.A k = T at *
    go_wp2_with fail
    refine Ht.out.mono ?_
    rintro e w2 ⟨rfl, h2, hc2⟩
    by_cases he2 : s2.err = 0
    · have hW2 := h2 he2
      have HC2 := hidS (HC.out.trans hc2)
      clear h2 hc2 Ht a0 a1 a2 a3 a4 c0 HW HC hpl
      have c0 := hW2.c0
      have hpl := hW2.lt
      have HW2 := hidS hW2
      obtain ⟨a0, a1, a2, a4, a3⟩ := hW2.acts k hk
      have Heb := hidS (b97 p.A[k].kind w2)
      rw [he2]
      rcases HHd.out.parts with ⟨hk1, hr0⟩ | ⟨hk1, kd, at', nm, th, el, tw, r, hr0, hkd, hbeh⟩
      · have HFF : Hid (bdyF (subF ts true n) ts true R b st = s2) := by show _ = _; rw [HFt.out, hr0]; rfl
        rw [hk1] at Heb
        clear HFt HHd a1 a2 a3 a4 hW2
        go_wp2_with (go_at_call 93; refine Heb.out.mono ?_; rintro e w' ⟨rfl, hw⟩; obtain rfl := hw.symm)
        go_ret
        exact wr_ok (by rw [HFF.out]; exact he2) (by rw [HFF.out]; exact HW2.out) HC2.out
      · subst hr0
        have Hp := hidS (b98 n HB.out w2 p ts R s2 k hk kd at' nm th el r tw HHd.out p.A[k].at' (act p.s p.A[k].at').next (hdA p.s p.A k) (by omega) (by omega) HS.out he2 hW2)
        have HFp : Hid (bdyF (subF ts true n) ts true R b st = bdyF (subF ts true n) ts true R r (pceF (subF ts true n) ts R kd nm th el s2)) := by show _ = _; rw [HFt.out, body_go _ _ _ _ _ _ _ _ _ _ _ he2 hkd]
        have hps := pceF_steps (subF ts true n) ts R (subF_steps ts true n) kd nm th el s2
        generalize pceF (subF ts true n) ts R kd nm th el s2 = s4 at *
        rw [hk1] at Heb
        have HBE := hidS hbeh
        have hbl := hbeh.lt
        have hbg := behF_gt p.A k
        clear HFt HHd hW2 hbeh
        generalize hdA p.s p.A k = T2 at *
        generalize p.A[k].kind = kk at *
        generalize p.A[k].name = kn at *
        generalize (act p.s p.A[k].at').next = nx at *
        generalize p.A[k].at' = ka at *
        go_wp2_with (go_at_call 93; refine Heb.out.mono ?_; rintro e w' ⟨rfl, hw⟩; obtain rfl := hw.symm)
        refine Hp.out.mono ?_
        rintro e w3 ⟨rfl, h3, hc3⟩
        have HC3 := hidS (HC2.out.trans hc3)
        by_cases he4 : s4.err = 0
        · have hW3 := h3 he4
          have Hbh := hidS (b95 p.s w3 p.g p.ac p.A k hk hal.1 hW3.acts)
          clear h3 hc3 Hp a0 a1 a2 a3 a4 c0 HW2 HC2 hpl
          have c0 := hW3.c0
          have hpl := hW3.lt
          have HW3 := hidS hW3
          clear hW3
          generalize behF p.A k = bh at *
          rw [he4]
          go_wp2_with (go_at_call 91; refine Hbh.out.mono ?_; rintro e w' ⟨rfl, hw⟩; obtain rfl := hw.symm)
          exact ⟨⟨bh, s4, r, hbl, rfl, he4, by omega, HBE.out, HW3.out, HFp.out, HC3.out⟩, by simp [intOf]; omega⟩
        · have HFF : Hid (bdyF (subF ts true n) ts true R b st = s4) := by show _ = _; rw [HFp.out, body_err _ _ _ _ _ he4]
          have he4' : (s4.err != 0) = true := by simpa using he4
          clear h3 hc3 Hp a0 a1 a2 a3 a4 c0
          go_wp2
          go_ret
          exact wr_stop s4.err (by rw [HFF.out]) he4 HC3.out
    · have HFF : Hid (bdyF (subF ts true n) ts true R b st = s2) := by show _ = _; rw [HFt.out, body_err _ _ _ _ _ he2]
      have he2' : (s2.err != 0) = true := by simpa using he2
      have HC2 := hidS (HC.out.trans hc2)
      clear h2 hc2 Ht a0 a1 a2 a3 a4 c0
      go_wp2
      go_ret
      exact wr_stop s2.err (by rw [HFF.out]) he2 HC2.out
theorem bodW_all (n : Nat) : BodW n := by
  induction n with
  | zero => exact b78 0 (fun m h => by omega)
  | succ n ih => exact b78 (n + 1) (fun m h => (show m = n by omega) ▸ ih)
end Go.Proofs.YtffkejkgkgfnhabGreat
