import Derived.Test.YtffkejkgkgfnhaaG26
namespace Go.Proofs.Ytffkejkgkgfnhaa
open Go.RowKit
set_option linter.unusedVariables false
theorem call_gs (A : List Ak) (nm : ByteArray) (x : Int) (fs : FS) : ∃ l, (callF A nm x fs).2.gs = fs.gs ++ l ∧ l.length ≤ 1 ∧ ∀ g ∈ l, g.en = -1 := by
  unfold callF
  split
  · unfold meetF
    split
    · exact ⟨[], by simp, by simp, fun g hg => absurd hg (by simp)⟩
    · exact ⟨[_], rfl, by simp, fun g hg => by simp at hg; subst hg; rfl⟩
  · exact ⟨[], by simp, by simp, fun g hg => absurd hg (by simp)⟩
theorem take_gs {A : List Ak} {i : Nat} {k : Int} {nm : ByteArray} {ps ps' : PS} {fs fs' : FS} (h : takeF A i k nm ps fs = some (ps', fs')) : (∃ l, fs'.gs = fs.gs ++ l ∧ l.length ≤ 1 ∧ ∀ g ∈ l, g.en = -1) ∧ ps'.op.length ≤ ps.op.length + 1 := by
  have nl : ∃ l : List Gp, fs.gs = fs.gs ++ l ∧ l.length ≤ 1 ∧ ∀ g ∈ l, g.en = -1 := ⟨[], by simp, by simp, fun g hg => absurd hg (by simp)⟩
  unfold takeF at h
  split at h
  · split at h
    · cases h; exact ⟨nl, by omega⟩
    · split at h
      · cases h; exact ⟨nl, by omega⟩
      · cases h
  · split at h
    · cases h; exact ⟨call_gs A nm ps.now fs, by show ps.op.length ≤ _; omega⟩
    · split at h
      · cases h; exact ⟨nl, by simp [enterF]⟩
      · split at h
        · cases h
          refine ⟨nl, ?_⟩
          unfold turnF
          split
          · simp <;> omega
          · omega
        · split at h
          · split at h
            · cases h
              refine ⟨nl, ?_⟩
              unfold leaveF
              split
              · simp <;> omega
              · simp
            · cases h
          · cases h; exact ⟨nl, by omega⟩
theorem runF_drop (s : ByteArray) (A : List Ak) (k : Nat) (hk : k < A.length) (ps : PS) (fs : FS) : runF s A (A.drop k) k ps fs =
    if ps.now ≠ -1 ∧ rdF ps.now (hdA s A k) = -1 then none
    else if A[k].kind = 2 then some (rdF ps.now (hdA s A k), fs)
    else match takeF A k A[k].kind A[k].name { ps with now := rdF ps.now (hdA s A k) } fs with
      | none => none
      | some (ps', fs') => runF s A (A.drop (k + 1)) (k + 1) ps' fs' := by
  rw [List.drop_eq_getElem_cons hk]; rfl
/-- what is left of a follow -/
def goF (s : ByteArray) (A : List Ak) (i k : Nat) (ps : PS) (fs : FS) : Option FS := match runF s A (A.drop k) k ps fs with
  | none => none
  | some (x, fs') => endF fs' i x
def FlPost (s : ByteArray) (A : List Ak) (f : Fp) (w : World) (R : Option FS) (e : Ending) (w' : World) : Prop :=
  Fr f w w' ∧ ((R = none ∧ e = .returned (.bool false)) ∨ ∃ fs' ga gc, R = some fs' ∧ e = .returned (.bool true) ∧ FkOK s A w' f ga gc fs')
theorem Fr.of_chg {s : ByteArray} {A : List Ak} {w w' : World} {f : Fp} {ga : Option Addr} {gc : Nat} {fs : FS} (h : FkOK s A w f ga gc fs) (c : ChgF f (.slice ga fs.gs.length gc) w w') : Fr f w w' :=
  ⟨c.os, c.tape, c.output, c.size, fun k h1 h2 h3 => c.block k (by have := h.l3; omega) h2 h3 (fun e => by have := (h.own.lt k e.symm).1; omega)⟩
theorem hd_size (s : ByteArray) (A : List Ak) (i : Nat) : (hdA s A i).size ≤ s.size := by unfold hdA; exact ext_le s _ _
set_option maxRecDepth 100000 in
set_option maxHeartbeats 4000000 in
theorem p90 (s : ByteArray) (A : List Ak) (w : World) (f : Fp) (ga : Option Addr) (gc : Nat) (fs : FS) (i : Nat) (hs : s.size ≤ 400) (hi : i < fs.gs.length) (hb : fs.gs[i].b < A.length) (hf : fs.gs[i].f < 24) (hl : fs.gs.length ≤ 24000) (hgr : ∀ g ∈ fs.gs, -1 ≤ g.en ∧ g.en ≤ 23) (h : FkOK s A w f ga gc fs) :
    Calls Try.prog 58 #[.pointer (some ⟨f.F, 0, none⟩), .int .i64 i] w fun e w' => FlPost s A f w (followF s A fs i) e w' := by
  have hA := h.la
  obtain ⟨R, hR⟩ : ∃ R, R = followF s A fs i := ⟨_, rfl⟩
  rw [← hR]
  have hR2 : R = goF s A i (fs.gs[i].b + 1) ⟨fs.gs[i].f, []⟩ fs := by rw [hR]; unfold followF goF; rw [List.getElem?_eq_getElem hi]; rfl
  have c1 := h.c1
  have l0 := h.l0
  have l3 := h.l3
  obtain ⟨g, rfl, k0, k1, k2, kf, hgB, hgl⟩ := gp_at h.own i hi
  have i1 : (0 : Int) ≤ (i : Int) := by omega
  have i2 : (i : Int) < (fs.gs.length : Int) := by omega
  have HC : Hid (Cm s A (w.alloc (.cells #[.int .i64 fs.gs[i].f, .slice none 0 0] 103)) f (some ⟨g, 0, none⟩) gc fs w.heap.size (w.heap.size + 1) none 0 ⟨fs.gs[i].f, []⟩) := by
    have hb' : ∀ k, k < w.heap.size → (w.alloc (.cells #[.int .i64 fs.gs[i].f, .slice none 0 0] 103)).heap[k]? = w.heap[k]? := fun k hk => Below.heap_alloc _ _ _ hk
    refine ⟨h.far (by simp) (hb' _ (by omega)) (hb' _ (by have := h.l1; omega)) (hb' _ (by have := h.l2; omega)) (fun q hq => hb' q (h.own.lt q hq).2), ⟨by simp, by simp, by simp, by simp, World.ownsRow_nil _ _ _ _, by omega, by simp, by simp, by show (-1 : Int) ≤ ((fs.gs[i].f : Nat) : Int) ∧ ((fs.gs[i].f : Nat) : Int) ≤ 23; omega⟩, fun q hq => ⟨by have := (h.own.lt q hq).2; omega, by simp [Value.ownBlock]⟩, l3, fun q hq => absurd hq (by simp)⟩
  have HR := hidS hR2
  have HGR := hidS hgr
  have HFR0 : Hid (Fr f w (w.alloc (.cells #[.int .i64 fs.gs[i].f, .slice none 0 0] 103))) := ⟨rfl, rfl, rfl, by simp, fun k h1 _ _ => Below.heap_alloc _ _ _ (by omega)⟩
  clear h hR hR2 hgr
  generalize fs.gs[i].f = FF at *
  generalize fs.gs[i].b = BB at *
  have hFl : f.F < w.heap.size := by omega
  have c1' : (w.alloc (.cells #[.int .i64 FF, .slice none 0 0] 103)).cell? ⟨f.F, 1, none⟩ = some (.slice (some ⟨g, 0, none⟩) fs.gs.length gc) := (World.cell?_alloc_lt _ _ _ hFl).trans c1
  have k0' : (w.alloc (.cells #[.int .i64 FF, .slice none 0 0] 103)).cell? ⟨g, i * 3, none⟩ = some (.int .i64 BB) := (World.cell?_alloc_lt _ _ _ hgl).trans k0
  go_enter Try.func58, Try.ntmps58
  go_wp2
  go_loopw [6, 7] (fun kv _ wr => ∃ (k : Nat) (ps : PS) (fs1 : FS), k ≤ A.length ∧ kv = .int .i64 k ∧ Hid (Cmb s A wr f fs1 w.heap.size (w.heap.size + 1) ps) ∧ Hid (Fr f w wr) ∧ Hid (R = goF s A i k ps fs1) ∧ ps.op.length ≤ k ∧ fs1.gs.length ≤ 24000 + k ∧ i < fs1.gs.length ∧ Hid (∀ g ∈ fs1.gs, -1 ≤ g.en ∧ g.en ≤ 23)) (fun kv _ _ => A.length - (intOf kv).toNat)
  case atStart => exact ⟨BB + 1, ⟨FF, []⟩, fs, by omega, by go_num, ⟨_, _, _, _, HC.out⟩, HFR0.out, HR.out, by simp, by omega, hi, HGR.out⟩
  case round =>
    clear HC HR HGR HFR0
    obtain ⟨k, ps, fs1, hk, rfl, HC, HFR, HR, hop, hgl1, hig, HGR⟩ := hrel
    obtain ⟨ga', gc', oa, oc, hC⟩ := HC.out
    have c0 := hC.fk.c0
    by_cases hlt : k < A.length
    · obtain ⟨a0, a1, a2, a4, _⟩ := hC.fk.act k hlt
      have HCm := hidS hC
      have Hrd := hidS (p105 wr w.heap.size (w.heap.size + 1) oa oc ps (hdA s A k) (by have := hd_size s A k; unfold maxLen; omega) hC.pk)
      have HSt := hidS (runF_drop s A k hlt ps fs1)
      have j1 : (0 : Int) ≤ (k : Int) := by omega
      have j2 : (k : Int) < (A.length : Int) := by omega
      clear hC
      by_cases hbad : ps.now ≠ -1 ∧ rdF ps.now (hdA s A k) = -1
      · have HN : Hid (R = none) := by show R = none; rw [HR.out]; unfold goF; rw [HSt.out, if_pos hbad]
        have hd : decide (ps.now = -1 ∨ rdF ps.now (hdA s A k) ≠ -1) = false := by simp; exact hbad
        rw [hd] at Hrd
        clear hd hbad HSt HR
        go_wp2_with fail
        refine Hrd.out.mono ?_
        rintro e w1 ⟨rfl, hch, hpk⟩
        all_goals
          obtain ⟨hcm1, hfr1⟩ := HCm.out.path (POut.of_read hch hpk rfl) HCm.out.opr
          have HFR1 := hidS (HFR.out.trans hfr1)
          clear hch hpk hcm1 hfr1 Hrd
          go_wp2
          go_ret
          exact ⟨HFR1.out, .inl ⟨HN.out, rfl⟩⟩
      · have hd : decide (ps.now = -1 ∨ rdF ps.now (hdA s A k) ≠ -1) = true := by
          simp
          by_cases q : ps.now = -1
          · exact .inl q
          · exact .inr fun q2 => hbad ⟨q, q2⟩
        rw [hd] at Hrd
        have HSt2 := HSt.out
        rw [if_neg hbad] at HSt2
        generalize hT : hdA s A k = T at *
        generalize hX : rdF ps.now T = X at *
        clear hd hbad HSt hT hX
        by_cases hk2 : A[k].kind = 2
        · rw [if_pos hk2] at HSt2
          have HN : Hid (R = endF fs1 i X) := by show R = _; rw [HR.out]; unfold goF; rw [HSt2]
          clear HSt2 HR
          go_wp2_with fail
          refine Hrd.out.mono ?_
          rintro e w1 ⟨rfl, hch, hpk⟩
          obtain ⟨⟨ga1, gc1, oa1, oc1, hcm1⟩, hfr1⟩ := HCm.out.path (POut.of_read hch hpk rfl) HCm.out.opr
          have HFR1 := hidS (HFR.out.trans hfr1)
          have HC1 := hidS hcm1
          have c0' := hcm1.fk.c0
          have p0' := hcm1.pk.c0
          have a0' := (hcm1.fk.act k hlt).1
          have hran := hcm1.pk.ran
          rw [hk2] at a0'
          have He := hidS (p106 s A w1 f ga1 gc1 fs1 i X hig hran (by omega) hcm1.fk)
          have HFk := hidS hcm1.fk
          clear hch hpk hcm1 hfr1 Hrd hk2
          go_wp2_with fail
          refine He.out.mono ?_
          rintro e w2 ⟨rfl, hch2, hfo⟩
          have HFR2 := hidS (HFR1.out.trans (Fr.of_chg HFk.out hch2))
          have HFO := hidS hfo
          clear hch2 hfo He
          go_wp2
          go_ret
          refine ⟨HFR2.out, ?_⟩
          rw [HN.out]
          cases hq : endF fs1 i X with
          | none => exact .inl ⟨rfl, rfl⟩
          | some fs2 =>
            obtain ⟨_, ga2, gc2, hk2, _⟩ := HFO.out fs2 hq
            exact .inr ⟨fs2, ga2, gc2, rfl, rfl, hk2⟩
        · rw [if_neg hk2] at HSt2
          have hk2' : (A[k].kind == 2) = false := by simp [hk2]
          go_wp2_with fail
          refine Hrd.out.mono ?_
          rintro e w1 ⟨rfl, hch, hpk⟩
          obtain ⟨hcmb, hfr1⟩ := HCm.out.path (POut.of_read hch hpk rfl) HCm.out.opr
          have Ht := hidS (p107 s A w1 f fs1 w.heap.size (w.heap.size + 1) ⟨X, ps.op⟩ k hlt (by show ps.op.length < 1000; omega) (by omega) HGR.out hcmb)
          obtain ⟨ga1, gc1, oa1, oc1, hcm1⟩ := hcmb
          have HFR1 := hidS (HFR.out.trans hfr1)
          have c0' := hcm1.fk.c0
          have a0' := (hcm1.fk.act k hlt).1
          generalize A[k].kind = KK at *
          generalize A[k].name = NN at *
          have HSt3 := hidS HSt2
          clear hch hpk hcm1 hfr1 Hrd hk2 HSt2
          go_wp2_with fail
          refine Ht.out.mono ?_
          rintro e w2 ⟨hfr2, hor⟩
          have HFR2 := hidS (HFR1.out.trans hfr2)
          rcases hor with ⟨hn, rfl⟩ | ⟨ps2, fs2, hn, rfl, hcm2⟩
          · have HN : Hid (R = none) := by show R = none; rw [HR.out]; unfold goF; rw [HSt3.out, hn]
            clear hfr2 hn Ht
            go_wp2
            go_ret
            exact ⟨HFR2.out, .inl ⟨HN.out, rfl⟩⟩
          · have HN : Hid (R = goF s A i (k + 1) ps2 fs2) := by show R = _; rw [HR.out]; unfold goF; rw [HSt3.out, hn]
            obtain ⟨⟨lg, g1, g2, g3⟩, g4⟩ := take_gs hn
            have HC2 := hidS hcm2
            have HGR2 : Hid (∀ g ∈ fs2.gs, -1 ≤ g.en ∧ g.en ≤ 23) := fun q hq => by
              rw [g1] at hq
              rcases List.mem_append.1 hq with hq | hq
              · exact HGR.out q hq
              · have := g3 q hq; omega
            have g5 : fs2.gs.length = fs1.gs.length + lg.length := by rw [g1]; simp
            have g6 : ps2.op.length ≤ ps.op.length + 1 := g4
            have HX : Hid (ps2.op.length ≤ k + 1 ∧ fs2.gs.length ≤ 24000 + (k + 1) ∧ i < fs2.gs.length) := ⟨by omega, by omega, by omega⟩
            clear hfr2 hn Ht hcm2 g1 g2 g3 g4 g5 g6
            go_wp2
            refine ⟨⟨k + 1, ps2, fs2, by omega, by go_num, HC2.out, HFR2.out, HN.out, HX.out.1, HX.out.2.1, HX.out.2.2, HGR2.out⟩, ?_⟩
            simp only [intOf]
            omega
    · have hkl : k = A.length := by omega
      have HN : Hid (R = some fs1) := by
        show R = _
        rw [HR.out]; unfold goF
        rw [hkl, List.drop_length]
        show endF fs1 i (-1) = _
        unfold endF
        rw [if_pos rfl]
      have hge : (k : Int) ≥ (A.length : Int) := by omega
      have HCm := hidS hC
      clear hC HR hkl
      go_wp2
      go_ret
      exact ⟨HFR.out, .inr ⟨fs1, _, _, HN.out, rfl, HCm.out.fk⟩⟩
end Go.Proofs.Ytffkejkgkgfnhaa
namespace Go.Proofs.Ytffkejkgkgfnhaa
open Go.RowKit
set_option linter.unusedVariables false
theorem FkOK.uniq {s : ByteArray} {A : List Ak} {w : World} {f : Fp} {ga ga' : Option Addr} {gc gc' : Nat} {fs fs' : FS} (h : FkOK s A w f ga gc fs) (k : FkOK s A w f ga' gc' fs') : fs.gs = fs'.gs ∧ fs.grew = fs'.grew := by
  have e1 := h.c1.symm.trans k.c1
  have e3 := h.c3.symm.trans k.c3
  injection e1 with e1
  injection e1 with e1 e2 e4
  injection e3 with e3
  injection e3 with e3
  refine ⟨?_, e3⟩
  subst e1
  apply List.ext_getElem e2
  intro i h1 h2
  obtain ⟨g, rfl, k0, k1, k2, _⟩ := gp_at h.own i h1
  obtain ⟨g', e, k0', k1', k2', _⟩ := gp_at k.own i h2
  cases e
  have q0 := k0.symm.trans k0'
  have q1 := k1.symm.trans k1'
  have q2 := k2.symm.trans k2'
  simp only [Option.some.injEq, Value.int.injEq, true_and] at q0 q1 q2
  cases hx : fs.gs[i]
  cases hy : fs'.gs[i]
  rw [hx, hy] at q0 q1 q2
  simp only at q0 q1 q2
  rw [Gp.mk.injEq]
  exact ⟨by omega, by omega, q2⟩
def meaF (fs : FS) : Nat := 2 * (48001 - pot fs.gs) + (if fs.grew = true then 1 else 0)
open Classical in
noncomputable def meaW (s : ByteArray) (A : List Ak) (f : Fp) (w : World) : Nat :=
  if h : ∃ n fs ga gc, FkOK s A w f ga gc fs ∧ n = meaF fs then h.choose else 0
theorem meaW_eq {s : ByteArray} {A : List Ak} {w : World} {f : Fp} {ga : Option Addr} {gc : Nat} {fs : FS} (h : FkOK s A w f ga gc fs) : meaW s A f w = meaF fs := by
  unfold meaW
  have q : ∃ n fs ga gc, FkOK s A w f ga gc fs ∧ n = meaF fs := ⟨_, fs, ga, gc, h, rfl⟩
  rw [dif_pos q]
  obtain ⟨fs', ga', gc', h', e⟩ := q.choose_spec
  rw [e]
  obtain ⟨e1, e2⟩ := h.uniq h'
  unfold meaF
  rw [e1, e2]
theorem FkOK.setGrew {s : ByteArray} {A : List Ak} {w : World} {f : Fp} {ga : Option Addr} {gc : Nat} {fs : FS} (h : FkOK s A w f ga gc fs) (b : Bool) : FkOK s A (w.setCell ⟨f.F, 3, none⟩ (.bool b)) f ga gc { fs with grew := b } := by
  obtain ⟨c0, c1, c2, c3, f1, f3, own, act, com, n1, n2, n3, l0, l1, l2, l3, la⟩ := h
  have fb : ∀ j, 3 ≠ j → (w.setCell ⟨f.F, 3, none⟩ (.bool b)).cell? ⟨f.F, j, none⟩ = w.cell? ⟨f.F, j, none⟩ := fun j hj => cellO _ _ _ _ _ hj
  have fa : ∀ k, k ≠ f.F → (w.setCell ⟨f.F, 3, none⟩ (.bool b)).heap[k]? = w.heap[k]? := fun k h1 => set_far _ f.F 3 _ k h1
  exact ⟨(fb 0 (by decide)).trans c0, (fb 1 (by decide)).trans c1, (fb 2 (by decide)).trans c2, cellS (u := .bool fs.grew) _ c3, by simpa using f1, by simpa using f3, own_far own (fun k hk => fa k (by have := (own.lt k hk).1; omega)), act.far (fa _ n1.symm), fun j hj c hc => ⟨(World.cell?_of_block (fa _ n2.symm)).trans (com j hj c hc).1, (World.frozen?_of_block (fa _ n2.symm)).trans (com j hj c hc).2⟩, n1, n2, n3, l0, l1, l2, by simpa using l3, la⟩
theorem Fr.setF (f : Fp) (w : World) (j : Nat) (v : Value) : Fr f w (w.setCell ⟨f.F, j, none⟩ v) := ⟨rfl, rfl, rfl, by simp, fun k h1 h2 h3 => set_far _ f.F j _ k h2⟩
structure Good (s : ByteArray) (A : List Ak) (b0 : Nat) (ts : List Tm) (β : Nat → Nat) (t0 : Nat) : Prop where
  plc : Plc s ts A β
  wf : ∀ i (hi : i < ts.length), WfN ts ts[i].body
  lt : t0 < ts.length
  beg : β t0 = b0
def FaPost (s : ByteArray) (A : List Ak) (b0 : Nat) (f : Fp) (w : World) (e : Ending) (w' : World) : Prop :=
  Fr f w w' ∧ (((∀ ts β t0, Good s A b0 ts β t0 → TBad ts t0) ∧ e = .returned (.bool false)) ∨ ∃ fs' ga gc, e = .returned (.bool true) ∧ FkOK s A w' f ga gc fs' ∧ (∀ ts β t0, Good s A b0 ts β t0 → RInv s A ts β t0 fs'.gs.length fs') ∧ fs'.grew = false)
theorem RInv.start {s : ByteArray} {A : List Ak} {ts : List Tm} {β : Nat → Nat} {t0 : Nat} {fs : FS} (h : FInv s A ts β t0 fs) (b : Bool) : RInv s A ts β t0 0 { fs with grew := b } :=
  ⟨⟨h.i1, h.i2, h.i3, h.i4, h.i5, h.i6, h.i7⟩, fun _ i g hi => absurd hi (by omega)⟩
set_option maxRecDepth 100000 in
set_option maxHeartbeats 4000000 in
theorem p73 (s : ByteArray) (A : List Ak) (b0 : Nat) (hex : ∃ ts β t0, Good s A b0 ts β t0) (w : World) (f : Fp) (ga : Option Addr) (gc : Nat) (fs : FS) (hs : s.size ≤ 400) (h : FkOK s A w f ga gc fs) (hI : ∀ ts β t0, Good s A b0 ts β t0 → FInv s A ts β t0 fs) (hgr : fs.grew = true) :
    Calls Try.prog 39 #[.pointer (some ⟨f.F, 0, none⟩)] w fun e w' => FaPost s A b0 f w e w' := by
  have hA := h.la
  obtain ⟨ts, β, t0, hG⟩ := hex
  have HP := hidS hG
  have HK0 := hidS h
  have HI0 := hidS hI
  have HGR := hidS hgr
  clear hG h hI hgr
  go_enter Try.func39, Try.ntmps39
  go_wp2
  go_loopw [3, 4] (fun _ _ wr => ∃ (fs1 : FS) (ga1 : Option Addr) (gc1 : Nat), Hid (FkOK s A wr f ga1 gc1 fs1) ∧ Hid (Fr f w wr) ∧ Hid (∀ ts β t0, Good s A b0 ts β t0 → FInv s A ts β t0 fs1) ∧ Hid (fs1.grew = false → ∀ ts β t0, Good s A b0 ts β t0 → RInv s A ts β t0 fs1.gs.length fs1)) (fun _ _ wr => meaW s A f wr)
  case atStart => exact ⟨fs, ga, gc, HK0.out, Fr.refl _ _, HI0.out, fun q => by rw [HGR.out] at q; cases q⟩
  case round =>
    obtain ⟨fs1, ga1, gc1, HK, HFR, HI, HRI⟩ := hrel
    have c3 := HK.out.c3
    have f3 := HK.out.f3
    have HM := hidS (meaW_eq HK.out)
    clear HK0 HI0 HGR
    cases hg : fs1.grew
    · rw [hg] at c3
      have HR := hidS (HRI.out hg)
      have HG := hidS hg
      clear HM hg HRI
      go_wp2
      go_ret
      exact ⟨HFR.out, .inr ⟨fs1, ga1, gc1, rfl, HK.out, HR.out, HG.out⟩⟩
    · rw [hg] at c3
      have HK1 := hidS (HK.out.setGrew false)
      have HFR1 := hidS (HFR.out.trans (Fr.setF f wr 3 (.bool false)))
      have HR1 : Hid (∀ ts β t0, Good s A b0 ts β t0 → RInv s A ts β t0 0 { fs1 with grew := false }) := fun ts β t0 q => RInv.start (HI.out ts β t0 q) false
      have HMF : Hid (meaF fs1 = 2 * (48001 - pot fs1.gs) + 1) := by show _ = _; unfold meaF; rw [if_pos hg]
      clear hg HRI HI HFR
      generalize wr = w1 at *
      go_wp2
      clear c3 f3
      go_loopw [3, 4] (fun iv _ wr => ∃ (k : Nat) (fs2 : FS) (ga2 : Option Addr) (gc2 : Nat), iv = .int .i64 k ∧ k ≤ fs2.gs.length ∧ Hid (FkOK s A wr f ga2 gc2 fs2) ∧ Hid (Fr f w wr) ∧ Hid (∀ ts β t0, Good s A b0 ts β t0 → RInv s A ts β t0 k fs2) ∧ Hid (pot fs1.gs ≤ pot fs2.gs ∧ (fs2.grew = true → pot fs1.gs + 1 ≤ pot fs2.gs))) (fun iv _ wr => 24001 - (intOf iv).toNat)
      case atStart => exact ⟨0, { fs1 with grew := false }, ga1, gc1, rfl, by omega, HK1.out, HFR1.out, HR1.out, Nat.le_refl _, fun q => by cases q⟩
      case round =>
        clear HK1 HFR1 HR1 HK
        obtain ⟨k, fs2, ga2, gc2, rfl, hk, HK, HFR, HR, HPT⟩ := hrel
        have c1 := HK.out.c1
        have h24 := gs_len (HR.out ts β t0 HP.out).inv HP.out.plc hA
        by_cases hlt : k < fs2.gs.length
        · have hgk : fs2.gs[k]? = some fs2.gs[k] := List.getElem?_eq_getElem hlt
          obtain ⟨⟨t, ht, hb⟩, hf24, _⟩ := (HR.out ts β t0 HP.out).inv.i1 fs2.gs[k] (List.getElem_mem hlt)
          have Hfo := hidS (p90 s A wr f ga2 gc2 fs2 k hs hlt (by rw [hb]; exact beta_lt HP.out.plc t ht) hf24 h24 (fun g hg => ((HR.out ts β t0 HP.out).inv.i1 g hg).2.2) HK.out)
          have HBad : Hid (followF s A fs2 k = none → ∀ ts β t0, Good s A b0 ts β t0 → TBad ts t0) := fun q ts β t0 g => follow_bad g.plc g.wf g.lt (HR.out ts β t0 g).inv q
          have HOk : Hid (∀ fs3, followF s A fs2 k = some fs3 → ∀ ts β t0, Good s A b0 ts β t0 → _) := fun fs3 q ts β t0 g => (HR.out ts β t0 g).step g.plc g.wf g.lt hgk q
          generalize followF s A fs2 k = RR at *
          have j1 : (k : Int) < (fs2.gs.length : Int) := by omega
          clear hgk hb hf24
          go_wp2_with fail
          refine Hfo.out.mono ?_
          rintro e w2 ⟨hfr, hor⟩
          have HFR2 := hidS (HFR.out.trans hfr)
          rcases hor with ⟨rfl, rfl⟩ | ⟨fs3, ga3, gc3, rfl, rfl, hfk⟩
          · clear hfr Hfo
            go_wp2
            go_ret
            exact ⟨HFR2.out, .inl ⟨(by first | exact HBad.out rfl | exact HBad.out trivial), rfl⟩⟩
          · have HK3 := hidS hfk
            obtain ⟨_, q2, q3, q4⟩ := HOk.out fs3 rfl ts β t0 HP.out
            have HR3 : Hid (∀ ts β t0, Good s A b0 ts β t0 → RInv s A ts β t0 (k + 1) fs3) := fun ts β t0 g => (HOk.out fs3 rfl ts β t0 g).1
            have HPT3 : Hid (pot fs1.gs ≤ pot fs3.gs ∧ (fs3.grew = true → pot fs1.gs + 1 ≤ pot fs3.gs)) := ⟨by have := HPT.out.1; omega, fun q => by
              rcases q4 q with q5 | q5
              · have := HPT.out.2 q5; omega
              · have := HPT.out.1; omega⟩
            clear hfr Hfo hfk q3 q4
            go_wp2
            exact ⟨⟨k + 1, fs3, ga3, gc3, by go_num, by omega, HK3.out, HFR2.out, HR3.out, HPT3.out⟩, by simp only [intOf]; omega⟩
        · have hkl : k = fs2.gs.length := by omega
          have hge : (k : Int) ≥ (fs2.gs.length : Int) := by omega
          have HR4 : Hid (∀ ts β t0, Good s A b0 ts β t0 → RInv s A ts β t0 fs2.gs.length fs2) := by rw [← hkl]; exact HR.out
          clear hkl
          go_wp2
          refine ⟨⟨fs2, ga2, gc2, HK.out, HFR.out, fun ts β t0 g => (HR.out ts β t0 g).inv, fun _ => HR4.out⟩, ?_⟩
          show meaW s A f wr < meaW s A f w1
          rw [HM.out, meaW_eq HK.out, HMF.out]
          unfold meaF
          have := (pot_len fs2.gs).2
          have := HPT.out.1
          by_cases q : fs2.grew = true
          · have := HPT.out.2 q
            rw [if_pos q]; omega
          · rw [if_neg q]; omega
end Go.Proofs.Ytffkejkgkgfnhaa
