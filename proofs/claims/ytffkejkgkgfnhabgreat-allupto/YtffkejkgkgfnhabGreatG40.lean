import Derived.Test.YtffkejkgkgfnhabGreatG34
import Derived.Test.YtffkejkgkgfnhabGreatG39
namespace Go.Proofs.YtffkejkgkgfnhabGreat
open Go.RowKit
set_option linter.unusedVariables false
structure Fr (f : Fp) (w w' : World) : Prop where
  os : w'.os = w.os
  tape : w'.tape = w.tape
  output : w'.output = w.output
  size : w.heap.size ≤ w'.heap.size
  block : ∀ k, k < f.B → k ≠ f.F → k ≠ f.cg → w'.heap[k]? = w.heap[k]?
theorem Fr.refl (f : Fp) (w : World) : Fr f w w := ⟨rfl, rfl, rfl, Nat.le_refl _, fun _ _ _ _ => rfl⟩
theorem Fr.trans {f : Fp} {a b c : World} (h : Fr f a b) (k : Fr f b c) : Fr f a c := ⟨k.os.trans h.os, k.tape.trans h.tape, k.output.trans h.output, Nat.le_trans h.size k.size, fun i h1 h2 h3 => (k.block i h1 h2 h3).trans (h.block i h1 h2 h3)⟩
theorem PkOK.far {w w' : World} {P B : Nat} {oa : Option Addr} {oc : Nat} {ps : PS} (h : PkOK w P B oa oc ps) (hs : w.heap.size ≤ w'.heap.size) (h0 : w'.heap[P]? = w.heap[P]?) (h1 : ∀ g, (Value.slice oa ps.op.length oc).ownBlock = some g → w'.heap[g]? = w.heap[g]?) : PkOK w' P B oa oc ps :=
  ⟨(World.cell?_of_block h0).trans h.c0, (World.cell?_of_block h0).trans h.c1, (World.frozen?_of_block h0).trans h.f0, (World.frozen?_of_block h0).trans h.f1, own_far h.own h1, h.lt, by have := h.le; omega, h.len, h.ran⟩
/-- the finder and the path, apart from one another -/
structure Cm (s : ByteArray) (A : List Ak) (w : World) (f : Fp) (ga : Option Addr) (gc : Nat) (fs : FS) (P B : Nat) (oa : Option Addr) (oc : Nat) (ps : PS) : Prop where
  fk : FkOK s A w f ga gc fs
  pk : PkOK w P B oa oc ps
  dj : ∀ g, (Value.slice ga fs.gs.length gc).ownBlock = some g → g ≠ P ∧ some g ≠ (Value.slice oa ps.op.length oc).ownBlock
  le : f.B ≤ P
  opr : ∀ q ∈ ps.op, (-1 ≤ q.1 ∧ q.1 ≤ 23) ∧ -1 ≤ q.2 ∧ q.2 ≤ 23
def Cmb (s : ByteArray) (A : List Ak) (w : World) (f : Fp) (fs : FS) (P B : Nat) (ps : PS) : Prop := ∃ ga gc oa oc, Cm s A w f ga gc fs P B oa oc ps
theorem Cm.path {s : ByteArray} {A : List Ak} {w w' : World} {f : Fp} {ga : Option Addr} {gc : Nat} {fs : FS} {P B : Nat} {oa : Option Addr} {oc : Nat} {ps ps' : PS} (h : Cm s A w f ga gc fs P B oa oc ps) (k : POut w w' P B oa oc ps.op.length ps') (ho : ∀ q ∈ ps'.op, (-1 ≤ q.1 ∧ q.1 ≤ 23) ∧ -1 ≤ q.2 ∧ q.2 ≤ 23) : Cmb s A w' f fs P B ps' ∧ Fr f w w' := by
  obtain ⟨hc, oa', oc', hp, hor⟩ := k
  have l0 := h.fk.l0
  have l1 := h.fk.l1
  have l2 := h.fk.l2
  have l3 := h.fk.l3
  have hlt := h.pk.lt
  have hle := h.le
  have nb : ∀ k, k < P → some k ≠ (Value.slice oa ps.op.length oc).ownBlock := fun k hk e => by have := (h.pk.own.lt k e.symm).1; omega
  have same : ∀ k, k < w.heap.size → k < P → w'.heap[k]? = w.heap[k]? := fun k h1 h2 => hc.block k h1 (by omega) (nb k h2)
  refine ⟨⟨ga, gc, oa', oc', h.fk.far hc.size (same _ (by omega) (by omega)) (same _ (by omega) (by omega)) (same _ (by omega) (by omega)) (fun g hg => hc.block g (h.fk.own.lt g hg).2 (h.dj g hg).1 (h.dj g hg).2), hp, fun g hg => ⟨(h.dj g hg).1, fun e => ?_⟩, h.le, ho⟩, ⟨hc.os, hc.tape, hc.output, hc.size, fun k h1 h2 h3 => same k (by omega) (by omega)⟩⟩
  rcases hor with q | ⟨g', q1, q2⟩
  · exact (h.dj g hg).2 (e.trans q)
  · rw [q2] at e
    cases e
    have := (h.fk.own.lt g hg).2
    omega
theorem Cm.fin {s : ByteArray} {A : List Ak} {w w' : World} {f : Fp} {ga : Option Addr} {gc : Nat} {fs fs' : FS} {P B : Nat} {oa : Option Addr} {oc : Nat} {ps : PS} (h : Cm s A w f ga gc fs P B oa oc ps) (k : FOut s A f ga gc fs.gs.length w w' fs') : Cmb s A w' f fs' P B ps ∧ Fr f w w' := by
  obtain ⟨hc, ga', gc', hp, hor⟩ := k
  have l0 := h.fk.l0
  have l1 := h.fk.l1
  have l2 := h.fk.l2
  have l3 := h.fk.l3
  have hlt := h.pk.lt
  have hle := h.le
  have hpl := h.pk.le
  refine ⟨⟨ga', gc', oa, oc, hp, h.pk.far hc.size (hc.block P (by omega) (by omega) (by omega) (fun e => (h.dj P e.symm).1 rfl)) (fun g hg => hc.block g (h.pk.own.lt g hg).2 (by have := (h.pk.own.lt g hg).1; omega) (by have := (h.pk.own.lt g hg).1; omega) (fun e => (h.dj g e.symm).2 hg.symm)), fun g hg => ?_, h.le, h.opr⟩, ⟨hc.os, hc.tape, hc.output, hc.size, fun k h1 h2 h3 => hc.block k (by omega) h2 h3 (fun e => by have := (h.fk.own.lt k e.symm).1; omega)⟩⟩
  rcases hor with q | ⟨g', q1, q2⟩
  · exact h.dj g (by rw [← q]; exact hg)
  · rw [q2] at hg
    have hgg : g' = g := by simpa using hg
    refine ⟨by omega, fun e => ?_⟩
    have := (h.pk.own.lt g e.symm).2
    omega
theorem FOut.of_fill {s : ByteArray} {A : List Ak} {f : Fp} {ga : Option Addr} {gc n : Nat} {w w' : World} {fs : FS} (h : ChgF f (.slice none 0 0) w w') (k : FkOK s A w' f ga gc fs) (hn : fs.gs.length = n) : FOut s A f ga gc n w w' fs :=
  ⟨⟨h.os, h.tape, h.output, h.size, fun i h1 h2 h3 h4 => h.block i h1 h2 h3 (by simp [Value.ownBlock])⟩, ga, gc, k, .inl (by rw [hn])⟩
theorem POut.of_read {w w' : World} {P B : Nat} {oa : Option Addr} {oc n : Nat} {ps : PS} (h : ChgB w w' P (.slice none 0 0)) (k : PkOK w' P B oa oc ps) (hn : ps.op.length = n) : POut w w' P B oa oc n ps :=
  ⟨⟨h.os, h.tape, h.output, h.size, fun i h1 h2 h3 => h.block i h1 h2 (by simp [Value.ownBlock])⟩, oa, oc, k, .inl (by rw [hn])⟩
end Go.Proofs.YtffkejkgkgfnhabGreat
namespace Go.Proofs.YtffkejkgkgfnhabGreat
open Go.RowKit
set_option linter.unusedVariables false
theorem FkOK.drew {s : ByteArray} {A : List Ak} {w : World} {f : Fp} {ga : Option Addr} {gc : Nat} {fs : FS} (h : FkOK s A w f ga gc fs) : FkOK s A w.drew f ga gc fs := h.far (Nat.le_refl _) rfl rfl rfl (fun _ _ => rfl)
theorem Cm.drew {s : ByteArray} {A : List Ak} {w : World} {f : Fp} {ga : Option Addr} {gc : Nat} {fs : FS} {P B : Nat} {oa : Option Addr} {oc : Nat} {ps : PS} (h : Cm s A w f ga gc fs P B oa oc ps) : Cm s A w.drew f ga gc fs P B oa oc ps := ⟨h.fk.drew, h.pk.drew, h.dj, h.le, h.opr⟩
theorem Fr.drew (f : Fp) (w : World) : Fr f w w.drew := ⟨rfl, rfl, rfl, Nat.le_refl _, fun _ _ _ _ => rfl⟩
def TkPost (s : ByteArray) (A : List Ak) (f : Fp) (P B : Nat) (w : World) (R : Option (PS × FS)) (e : Ending) (w' : World) : Prop :=
  Fr f w w' ∧ ((R = none ∧ e = .returned (.bool false)) ∨ ∃ ps' fs', R = some (ps', fs') ∧ e = .returned (.bool true) ∧ Cmb s A w' f fs' P B ps')
set_option maxRecDepth 100000 in
set_option maxHeartbeats 2000000 in
theorem p107 (s : ByteArray) (A : List Ak) (w : World) (f : Fp) (fs : FS) (P B : Nat) (ps : PS) (i : Nat) (hi : i < A.length) (hop : ps.op.length < 1000) (hl : fs.gs.length ≤ 30000) (hgr : ∀ g ∈ fs.gs, -1 ≤ g.en ∧ g.en ≤ 23) (h : Cmb s A w f fs P B ps) :
    Calls Tryz.prog 110 #[.pointer (some ⟨f.F, 0, none⟩), .pointer (some ⟨P, 0, none⟩), .int .i64 i] w fun e w' => TkPost s A f P B w (takeF A i A[i].kind A[i].name ps fs) e w' := by
  obtain ⟨ga, gc, oa, oc, hC⟩ := h
  have H := hidS hC
  have c0 := hC.fk.c0
  have d0 := hC.pk.c0
  obtain ⟨a0, a1, _, _⟩ := hC.fk.act i hi
  have hran := hC.pk.ran
  have hA := hC.fk.la
  have i1 : (0 : Int) ≤ (i : Int) := by omega
  have i2 : (i : Int) < (A.length : Int) := by omega
  have Hfill := hidS (p111 s A w f ga gc fs i ps.now hi hran hC.fk)
  have Hcall := hidS (fun nm => p112 s A w.drew f ga gc fs nm ps.now hran hl hC.fk.drew)
  have HCR := hidS (call_range (A := A) (nm := A[i].name) (x0 := ps.now) hgr)
  have Hent := hidS (p113 w P B oa oc ps hop hC.pk)
  have Htrn := hidS (p114 w P B oa oc ps (fun q hq => (hC.opr q hq).1) hC.pk)
  have Hlea := hidS (p115 w P B oa oc ps (fun q hq => (hC.opr q hq).2) hC.pk)
  clear hC
  obtain ⟨R, hR⟩ : ∃ R, R = takeF A i A[i].kind A[i].name ps fs := ⟨_, rfl⟩
  rw [← hR]
  generalize A[i].kind = k at *
  generalize A[i].name = nm at *
  unfold takeF at hR
  by_cases h3 : k = 3
  · rw [if_pos h3] at hR
    have HF : Hid ((fillB ps.now = true → R = some (ps, fillF fs i ps.now)) ∧ (fillB ps.now = false → R = none)) := by
      show (fillB ps.now = true → R = some (ps, fillF fs i ps.now)) ∧ (fillB ps.now = false → R = none)
      rw [hR]
      by_cases q : ps.now = -1
      · simp [q, fillB, fillF]
      · cases ho : opS ps.now.toNat <;> simp [q, fillB, fillF, ho]
    have e3 : (k == 3) = true := by simp [h3]
    clear hR h3
    go_enter Tryz.func110, Tryz.ntmps110
    go_wp2_with fail
    refine Hfill.out.mono ?_
    rintro e w1 ⟨rfl, hch, hfk⟩
    have hgs : (fillF fs i ps.now).gs = fs.gs := by unfold fillF; split <;> (try split) <;> rfl
    obtain ⟨hcm, hfr⟩ := H.out.fin (FOut.of_fill hch hfk (by rw [hgs]))
    have HCM := hidS hcm
    have HFR := hidS hfr
    clear hch hfk hcm hfr Hfill Hcall Hent Htrn Hlea
    go_wp2
    go_ret
    refine ⟨HFR.out, ?_⟩
    cases hb : fillB ps.now
    · exact .inl ⟨HF.out.2 hb, rfl⟩
    · exact .inr ⟨ps, _, HF.out.1 hb, rfl, HCM.out⟩
  · have e3 : (k == 3) = false := by simp [h3]
    rw [if_neg h3] at hR
    by_cases h8 : k = 8
    · rw [if_pos h8] at hR
      have e8 : (k == 8) = true := by simp [h8]
      have HF := hidS hR
      clear hR h3 h8
      go_enter Tryz.func110, Tryz.ntmps110
      go_wp2
      go_region_with (first | (go_at_call 122; refine (Hcall.out nm).mono ?_; rintro e w1 ⟨rfl, ho⟩; obtain ⟨⟨ga', gc', oa', oc', hcm'⟩, hfr⟩ := H.out.drew.fin ho; have q0 := hcm'.pk.c0; have q1 := hcm'.pk.f0))
      all_goals
        have hcr : -1 ≤ (callF A nm ps.now fs).1 ∧ (callF A nm ps.now fs).1 ≤ 23 := HCR.out
        have hp2 : POut w1 (w1.setCell ⟨P, 0, none⟩ (.int .i64 (callF A nm ps.now fs).1)) P B oa' oc' ps.op.length { ps with now := (callF A nm ps.now fs).1 } := ⟨(ChgB.refl _ _ _).set 0 _, oa', oc', hcm'.pk.setNow _ hcr, .inl rfl⟩
        obtain ⟨hcm2, hfr2⟩ := hcm'.path hp2 hcm'.opr
        have HCM := hidS hcm2
        have HFR := hidS (((Fr.drew f w).trans hfr).trans hfr2)
        clear ho hcm' hp2 hcm2 hfr hfr2 Hfill Hcall Hent Htrn Hlea
        go_wp2
        go_ret
        refine ⟨HFR.out, .inr ⟨_, _, HF.out, rfl, HCM.out⟩⟩
    · have e8 : (k == 8) = false := by simp [h8]
      rw [if_neg h8] at hR
      by_cases h46 : k = 4 ∨ k = 6
      · rw [if_pos h46] at hR
        have HF := hidS hR
        have hro : ∀ q ∈ (enterF ps).op, (-1 ≤ q.1 ∧ q.1 ≤ 23) ∧ -1 ≤ q.2 ∧ q.2 ≤ 23 := fun q hq => by
          simp only [enterF] at hq
          rcases List.mem_append.1 hq with hq | hq
          · exact H.out.opr q hq
          · simp at hq; subst hq; exact ⟨hran, hran⟩
        have HRO := hidS hro
        have e46 : (k == 4) = true ∨ (k == 4) = false ∧ (k == 6) = true := by simp; omega
        clear hR h3 h8 h46 hro
        rcases e46 with e4 | ⟨e4, e6⟩
        all_goals
          go_enter Tryz.func110, Tryz.ntmps110
          go_wp2_with fail
          refine Hent.out.mono ?_
          rintro e w1 ⟨rfl, ho⟩
          obtain ⟨hcm, hfr⟩ := H.out.path ho HRO.out
          have HCM := hidS hcm
          have HFR := hidS hfr
          clear ho hcm hfr Hfill Hcall Hent Htrn Hlea
          go_wp2
          go_ret
          exact ⟨HFR.out, .inr ⟨_, _, HF.out, rfl, HCM.out⟩⟩
      · rw [if_neg h46] at hR
        have e4 : (k == 4) = false := by simp; omega
        have e6 : (k == 6) = false := by simp; omega
        by_cases h5 : k = 5
        · rw [if_pos h5] at hR
          have HF := hidS hR
          have e5 : (k == 5) = true := by simp [h5]
          have hro : ∀ q ∈ (turnF ps).op, (-1 ≤ q.1 ∧ q.1 ≤ 23) ∧ -1 ≤ q.2 ∧ q.2 ≤ 23 := fun q hq => by
            unfold turnF at hq
            split at hq
            · rename_i l hl'
              have hm := List.mem_of_getLast? hl'
              simp only at hq
              rcases List.mem_append.1 hq with hq | hq
              · exact H.out.opr q (List.dropLast_subset _ hq)
              · simp at hq; subst hq; exact ⟨(H.out.opr l hm).1, hran⟩
            · exact H.out.opr q hq
          have HRO := hidS hro
          clear hR h3 h8 h46 h5 hro
          go_enter Tryz.func110, Tryz.ntmps110
          go_wp2_with fail
          refine Htrn.out.mono ?_
          rintro e w1 ⟨rfl, ho⟩
          obtain ⟨hcm, hfr⟩ := H.out.path ho HRO.out
          have HCM := hidS hcm
          have HFR := hidS hfr
          clear ho hcm hfr Hfill Hcall Hent Htrn Hlea
          go_wp2
          go_ret
          exact ⟨HFR.out, .inr ⟨_, _, HF.out, rfl, HCM.out⟩⟩
        · rw [if_neg h5] at hR
          have e5 : (k == 5) = false := by simp [h5]
          by_cases h7 : k = 7
          · rw [if_pos h7] at hR
            have e7 : (k == 7) = true := by simp [h7]
            have HF : Hid (((leaveF ps).2 = true → R = some ((leaveF ps).1, fs)) ∧ ((leaveF ps).2 = false → R = none)) := by
              show ((leaveF ps).2 = true → R = some ((leaveF ps).1, fs)) ∧ ((leaveF ps).2 = false → R = none)
              rw [hR]
              cases (leaveF ps).2 <;> simp
            have hro : ∀ q ∈ (leaveF ps).1.op, (-1 ≤ q.1 ∧ q.1 ≤ 23) ∧ -1 ≤ q.2 ∧ q.2 ≤ 23 := fun q hq => by
              unfold leaveF at hq
              split at hq
              · exact H.out.opr q (List.dropLast_subset _ hq)
              · exact H.out.opr q hq
            have HRO := hidS hro
            clear hR h3 h8 h46 h5 h7 hro
            go_enter Tryz.func110, Tryz.ntmps110
            go_wp2_with fail
            refine Hlea.out.mono ?_
            rintro e w1 ⟨rfl, ho⟩
            obtain ⟨hcm, hfr⟩ := H.out.path ho HRO.out
            have HCM := hidS hcm
            have HFR := hidS hfr
            clear ho hcm hfr Hfill Hcall Hent Htrn Hlea
            go_wp2
            go_ret
            refine ⟨HFR.out, ?_⟩
            cases hb : (leaveF ps).2
            · exact .inl ⟨HF.out.2 hb, rfl⟩
            · exact .inr ⟨_, _, HF.out.1 hb, rfl, HCM.out⟩
          · rw [if_neg h7] at hR
            have e7 : (k == 7) = false := by simp [h7]
            have HF := hidS hR
            clear hR h3 h8 h46 h5 h7 Hfill Hcall Hent Htrn Hlea
            go_enter Tryz.func110, Tryz.ntmps110
            go_wp2
            go_ret
            exact ⟨Fr.refl _ _, .inr ⟨_, _, HF.out, rfl, ga, gc, oa, oc, H.out⟩⟩
end Go.Proofs.YtffkejkgkgfnhabGreat
namespace Go.Proofs.YtffkejkgkgfnhabGreat
open Go.RowKit
set_option linter.unusedVariables false
theorem call_gs (A : List Ak) (nm : ByteArray) (x : Int) (fs : FS) : ∃ l, (callF A nm x fs).2.gs = fs.gs ++ l ∧ l.length ≤ 1 ∧ ∀ g ∈ l, g.en = -1 := by
  unfold callF
  split
  · unfold meetF
    split
    · exact ⟨[], by simp, by simp, fun g hg => absurd hg (by simp)⟩
    · exact ⟨[_], rfl, by simp, fun g hg => by simp at hg; subst hg; rfl⟩
  · exact ⟨[], by simp, by simp, fun g hg => absurd hg (by simp)⟩
theorem take_gs {A : List Ak} {i : Nat} {k : Int} {nm : ByteArray} {ps ps' : PS} {fs fs' : FS} (h : takeF A i k nm ps fs = some (ps', fs')) : (∃ l, fs'.gs = fs.gs ++ l ∧ l.length ≤ 1 ∧ ∀ g ∈ l, g.en = -1) ∧ ps'.op.length ≤ ps.op.length + 1 := by
  have nl : ∃ l : List Gp, fs.gs = fs.gs ++ l ∧ l.length ≤ 1 ∧ ∀ g ∈ l, g.en = -1 := ⟨[], by simp, by simp, fun g hg => absurd hg (by simp)⟩
  unfold takeF at h
  split at h
  · split at h
    · cases h; exact ⟨nl, by omega⟩
    · split at h
      · cases h; exact ⟨nl, by omega⟩
      · cases h
  · split at h
    · cases h; exact ⟨call_gs A nm ps.now fs, by show ps.op.length ≤ _; omega⟩
    · split at h
      · cases h; exact ⟨nl, by simp [enterF]⟩
      · split at h
        · cases h
          refine ⟨nl, ?_⟩
          unfold turnF
          split
          · simp <;> omega
          · omega
        · split at h
          · split at h
            · cases h
              refine ⟨nl, ?_⟩
              unfold leaveF
              split
              · simp <;> omega
              · simp
            · cases h
          · cases h; exact ⟨nl, by omega⟩
theorem runF_drop (s : ByteArray) (A : List Ak) (k : Nat) (hk : k < A.length) (ps : PS) (fs : FS) : runF s A (A.drop k) k ps fs =
    if ps.now ≠ -1 ∧ rdF ps.now (hdA s A k) = -1 then none
    else if A[k].kind = 2 then some (rdF ps.now (hdA s A k), fs)
    else match takeF A k A[k].kind A[k].name { ps with now := rdF ps.now (hdA s A k) } fs with
      | none => none
      | some (ps', fs') => runF s A (A.drop (k + 1)) (k + 1) ps' fs' := by
  rw [List.drop_eq_getElem_cons hk]; rfl
/-- what is left of a follow -/
def goF (s : ByteArray) (A : List Ak) (i k : Nat) (ps : PS) (fs : FS) : Option FS := match runF s A (A.drop k) k ps fs with
  | none => none
  | some (x, fs') => endF fs' i x
def FlPost (s : ByteArray) (A : List Ak) (f : Fp) (w : World) (R : Option FS) (e : Ending) (w' : World) : Prop :=
  Fr f w w' ∧ ((R = none ∧ e = .returned (.bool false)) ∨ ∃ fs' ga gc, R = some fs' ∧ e = .returned (.bool true) ∧ FkOK s A w' f ga gc fs')
theorem Fr.of_chg {s : ByteArray} {A : List Ak} {w w' : World} {f : Fp} {ga : Option Addr} {gc : Nat} {fs : FS} (h : FkOK s A w f ga gc fs) (c : ChgF f (.slice ga fs.gs.length gc) w w') : Fr f w w' :=
  ⟨c.os, c.tape, c.output, c.size, fun k h1 h2 h3 => c.block k (by have := h.l3; omega) h2 h3 (fun e => by have := (h.own.lt k e.symm).1; omega)⟩
theorem hd_size (s : ByteArray) (A : List Ak) (i : Nat) : (hdA s A i).size ≤ s.size := by unfold hdA; exact ext_le s _ _
set_option maxRecDepth 100000 in
set_option maxHeartbeats 4000000 in
theorem p90 (s : ByteArray) (A : List Ak) (w : World) (f : Fp) (ga : Option Addr) (gc : Nat) (fs : FS) (i : Nat) (hs : s.size ≤ 400) (hi : i < fs.gs.length) (hb : fs.gs[i].b < A.length) (hf : fs.gs[i].f < 24) (hl : fs.gs.length ≤ 24000) (hgr : ∀ g ∈ fs.gs, -1 ≤ g.en ∧ g.en ≤ 23) (h : FkOK s A w f ga gc fs) :
    Calls Tryz.prog 89 #[.pointer (some ⟨f.F, 0, none⟩), .int .i64 i] w fun e w' => FlPost s A f w (followF s A fs i) e w' := by
  have hA := h.la
  obtain ⟨R, hR⟩ : ∃ R, R = followF s A fs i := ⟨_, rfl⟩
  rw [← hR]
  have hR2 : R = goF s A i (fs.gs[i].b + 1) ⟨fs.gs[i].f, []⟩ fs := by rw [hR]; unfold followF goF; rw [List.getElem?_eq_getElem hi]; rfl
  have c1 := h.c1
  have l0 := h.l0
  have l3 := h.l3
  obtain ⟨g, rfl, k0, k1, k2, kf, hgB, hgl⟩ := gp_at h.own i hi
  have i1 : (0 : Int) ≤ (i : Int) := by omega
  have i2 : (i : Int) < (fs.gs.length : Int) := by omega
  have HC : Hid (Cm s A (w.alloc (.cells #[.int .i64 fs.gs[i].f, .slice none 0 0] 146)) f (some ⟨g, 0, none⟩) gc fs w.heap.size (w.heap.size + 1) none 0 ⟨fs.gs[i].f, []⟩) := by
    have hb' : ∀ k, k < w.heap.size → (w.alloc (.cells #[.int .i64 fs.gs[i].f, .slice none 0 0] 146)).heap[k]? = w.heap[k]? := fun k hk => Below.heap_alloc _ _ _ hk
    refine ⟨h.far (by simp) (hb' _ (by omega)) (hb' _ (by have := h.l1; omega)) (hb' _ (by have := h.l2; omega)) (fun q hq => hb' q (h.own.lt q hq).2), ⟨by simp, by simp, by simp, by simp, World.ownsRow_nil _ _ _ _, by omega, by simp, by simp, by show (-1 : Int) ≤ ((fs.gs[i].f : Nat) : Int) ∧ ((fs.gs[i].f : Nat) : Int) ≤ 23; omega⟩, fun q hq => ⟨by have := (h.own.lt q hq).2; omega, by simp [Value.ownBlock]⟩, l3, fun q hq => absurd hq (by simp)⟩
  have HR := hidS hR2
  have HGR := hidS hgr
  have HFR0 : Hid (Fr f w (w.alloc (.cells #[.int .i64 fs.gs[i].f, .slice none 0 0] 146))) := ⟨rfl, rfl, rfl, by simp, fun k h1 _ _ => Below.heap_alloc _ _ _ (by omega)⟩
  clear h hR hR2 hgr
  generalize fs.gs[i].f = FF at *
  generalize fs.gs[i].b = BB at *
  have hFl : f.F < w.heap.size := by omega
  have c1' : (w.alloc (.cells #[.int .i64 FF, .slice none 0 0] 146)).cell? ⟨f.F, 1, none⟩ = some (.slice (some ⟨g, 0, none⟩) fs.gs.length gc) := (World.cell?_alloc_lt _ _ _ hFl).trans c1
  have k0' : (w.alloc (.cells #[.int .i64 FF, .slice none 0 0] 146)).cell? ⟨g, i * 3, none⟩ = some (.int .i64 BB) := (World.cell?_alloc_lt _ _ _ hgl).trans k0
  go_enter Tryz.func89, Tryz.ntmps89
  go_wp2
  go_loopw [6, 7] (fun kv _ wr => ∃ (k : Nat) (ps : PS) (fs1 : FS), k ≤ A.length ∧ kv = .int .i64 k ∧ Hid (Cmb s A wr f fs1 w.heap.size (w.heap.size + 1) ps) ∧ Hid (Fr f w wr) ∧ Hid (R = goF s A i k ps fs1) ∧ ps.op.length ≤ k ∧ fs1.gs.length ≤ 24000 + k ∧ i < fs1.gs.length ∧ Hid (∀ g ∈ fs1.gs, -1 ≤ g.en ∧ g.en ≤ 23)) (fun kv _ _ => A.length - (intOf kv).toNat)
  case atStart => exact ⟨BB + 1, ⟨FF, []⟩, fs, by omega, by go_num, ⟨_, _, _, _, HC.out⟩, HFR0.out, HR.out, by simp, by omega, hi, HGR.out⟩
  case round =>
    clear HC HR HGR HFR0
    obtain ⟨k, ps, fs1, hk, rfl, HC, HFR, HR, hop, hgl1, hig, HGR⟩ := hrel
    obtain ⟨ga', gc', oa, oc, hC⟩ := HC.out
    have c0 := hC.fk.c0
    by_cases hlt : k < A.length
    · obtain ⟨a0, a1, a2, a4, _⟩ := hC.fk.act k hlt
      have HCm := hidS hC
      have Hrd := hidS (p105 wr w.heap.size (w.heap.size + 1) oa oc ps (hdA s A k) (by have := hd_size s A k; unfold maxLen; omega) hC.pk)
      have HSt := hidS (runF_drop s A k hlt ps fs1)
      have j1 : (0 : Int) ≤ (k : Int) := by omega
      have j2 : (k : Int) < (A.length : Int) := by omega
      clear hC
      by_cases hbad : ps.now ≠ -1 ∧ rdF ps.now (hdA s A k) = -1
      · have HN : Hid (R = none) := by show R = none; rw [HR.out]; unfold goF; rw [HSt.out, if_pos hbad]
        have hd : decide (ps.now = -1 ∨ rdF ps.now (hdA s A k) ≠ -1) = false := by simp; exact hbad
        rw [hd] at Hrd
        clear hd hbad HSt HR
        go_wp2_with fail
        refine Hrd.out.mono ?_
        rintro e w1 ⟨rfl, hch, hpk⟩
        all_goals
          obtain ⟨hcm1, hfr1⟩ := HCm.out.path (POut.of_read hch hpk rfl) HCm.out.opr
          have HFR1 := hidS (HFR.out.trans hfr1)
          clear hch hpk hcm1 hfr1 Hrd
          go_wp2
          go_ret
          exact ⟨HFR1.out, .inl ⟨HN.out, rfl⟩⟩
      · have hd : decide (ps.now = -1 ∨ rdF ps.now (hdA s A k) ≠ -1) = true := by
          simp
          by_cases q : ps.now = -1
          · exact .inl q
          · exact .inr fun q2 => hbad ⟨q, q2⟩
        rw [hd] at Hrd
        have HSt2 := HSt.out
        rw [if_neg hbad] at HSt2
        generalize hT : hdA s A k = T at *
        generalize hX : rdF ps.now T = X at *
        clear hd hbad HSt hT hX
        by_cases hk2 : A[k].kind = 2
        · rw [if_pos hk2] at HSt2
          have HN : Hid (R = endF fs1 i X) := by show R = _; rw [HR.out]; unfold goF; rw [HSt2]
          clear HSt2 HR
          go_wp2_with fail
          refine Hrd.out.mono ?_
          rintro e w1 ⟨rfl, hch, hpk⟩
          obtain ⟨⟨ga1, gc1, oa1, oc1, hcm1⟩, hfr1⟩ := HCm.out.path (POut.of_read hch hpk rfl) HCm.out.opr
          have HFR1 := hidS (HFR.out.trans hfr1)
          have HC1 := hidS hcm1
          have c0' := hcm1.fk.c0
          have p0' := hcm1.pk.c0
          have a0' := (hcm1.fk.act k hlt).1
          have hran := hcm1.pk.ran
          rw [hk2] at a0'
          have He := hidS (p106 s A w1 f ga1 gc1 fs1 i X hig hran (by omega) hcm1.fk)
          have HFk := hidS hcm1.fk
          clear hch hpk hcm1 hfr1 Hrd hk2
          go_wp2_with fail
          refine He.out.mono ?_
          rintro e w2 ⟨rfl, hch2, hfo⟩
          have HFR2 := hidS (HFR1.out.trans (Fr.of_chg HFk.out hch2))
          have HFO := hidS hfo
          clear hch2 hfo He
          go_wp2
          go_ret
          refine ⟨HFR2.out, ?_⟩
          rw [HN.out]
          cases hq : endF fs1 i X with
          | none => exact .inl ⟨rfl, rfl⟩
          | some fs2 =>
            obtain ⟨_, ga2, gc2, hk2, _⟩ := HFO.out fs2 hq
            exact .inr ⟨fs2, ga2, gc2, rfl, rfl, hk2⟩
        · rw [if_neg hk2] at HSt2
          have hk2' : (A[k].kind == 2) = false := by simp [hk2]
          go_wp2_with fail
          refine Hrd.out.mono ?_
          rintro e w1 ⟨rfl, hch, hpk⟩
          obtain ⟨hcmb, hfr1⟩ := HCm.out.path (POut.of_read hch hpk rfl) HCm.out.opr
          have Ht := hidS (p107 s A w1 f fs1 w.heap.size (w.heap.size + 1) ⟨X, ps.op⟩ k hlt (by show ps.op.length < 1000; omega) (by omega) HGR.out hcmb)
          obtain ⟨ga1, gc1, oa1, oc1, hcm1⟩ := hcmb
          have HFR1 := hidS (HFR.out.trans hfr1)
          have c0' := hcm1.fk.c0
          have a0' := (hcm1.fk.act k hlt).1
          generalize A[k].kind = KK at *
          generalize A[k].name = NN at *
          have HSt3 := hidS HSt2
          clear hch hpk hcm1 hfr1 Hrd hk2 HSt2
          go_wp2_with fail
          refine Ht.out.mono ?_
          rintro e w2 ⟨hfr2, hor⟩
          have HFR2 := hidS (HFR1.out.trans hfr2)
          rcases hor with ⟨hn, rfl⟩ | ⟨ps2, fs2, hn, rfl, hcm2⟩
          · have HN : Hid (R = none) := by show R = none; rw [HR.out]; unfold goF; rw [HSt3.out, hn]
            clear hfr2 hn Ht
            go_wp2
            go_ret
            exact ⟨HFR2.out, .inl ⟨HN.out, rfl⟩⟩
          · have HN : Hid (R = goF s A i (k + 1) ps2 fs2) := by show R = _; rw [HR.out]; unfold goF; rw [HSt3.out, hn]
            obtain ⟨⟨lg, g1, g2, g3⟩, g4⟩ := take_gs hn
            have HC2 := hidS hcm2
            have HGR2 : Hid (∀ g ∈ fs2.gs, -1 ≤ g.en ∧ g.en ≤ 23) := fun q hq => by
              rw [g1] at hq
              rcases List.mem_append.1 hq with hq | hq
              · exact HGR.out q hq
              · have := g3 q hq; omega
            have g5 : fs2.gs.length = fs1.gs.length + lg.length := by rw [g1]; simp
            have g6 : ps2.op.length ≤ ps.op.length + 1 := g4
            have HX : Hid (ps2.op.length ≤ k + 1 ∧ fs2.gs.length ≤ 24000 + (k + 1) ∧ i < fs2.gs.length) := ⟨by omega, by omega, by omega⟩
            clear hfr2 hn Ht hcm2 g1 g2 g3 g4 g5 g6
            go_wp2
            refine ⟨⟨k + 1, ps2, fs2, by omega, by go_num, HC2.out, HFR2.out, HN.out, HX.out.1, HX.out.2.1, HX.out.2.2, HGR2.out⟩, ?_⟩
            simp only [intOf]
            omega
    · have hkl : k = A.length := by omega
      have HN : Hid (R = some fs1) := by
        show R = _
        rw [HR.out]; unfold goF
        rw [hkl, List.drop_length]
        show endF fs1 i (-1) = _
        unfold endF
        rw [if_pos rfl]
      have hge : (k : Int) ≥ (A.length : Int) := by omega
      have HCm := hidS hC
      clear hC HR hkl
      go_wp2
      go_ret
      exact ⟨HFR.out, .inr ⟨fs1, _, _, HN.out, rfl, HCm.out.fk⟩⟩
end Go.Proofs.YtffkejkgkgfnhabGreat
