import Derived.Test.YtffkejkgkgfnhabGreatG40
import Derived.Test.YtffkejkgkgfnhabGreatG14
namespace Go.Proofs.YtffkejkgkgfnhabGreat
open Go.RowKit
set_option linter.unusedVariables false
theorem FkOK.uniq {s : ByteArray} {A : List Ak} {w : World} {f : Fp} {ga ga' : Option Addr} {gc gc' : Nat} {fs fs' : FS} (h : FkOK s A w f ga gc fs) (k : FkOK s A w f ga' gc' fs') : fs.gs = fs'.gs ∧ fs.grew = fs'.grew := by
  have e1 := h.c1.symm.trans k.c1
  have e3 := h.c3.symm.trans k.c3
  injection e1 with e1
  injection e1 with e1 e2 e4
  injection e3 with e3
  injection e3 with e3
  refine ⟨?_, e3⟩
  subst e1
  apply List.ext_getElem e2
  intro i h1 h2
  obtain ⟨g, rfl, k0, k1, k2, _⟩ := gp_at h.own i h1
  obtain ⟨g', e, k0', k1', k2', _⟩ := gp_at k.own i h2
  cases e
  have q0 := k0.symm.trans k0'
  have q1 := k1.symm.trans k1'
  have q2 := k2.symm.trans k2'
  simp only [Option.some.injEq, Value.int.injEq, true_and] at q0 q1 q2
  cases hx : fs.gs[i]
  cases hy : fs'.gs[i]
  rw [hx, hy] at q0 q1 q2
  simp only at q0 q1 q2
  rw [Gp.mk.injEq]
  exact ⟨by omega, by omega, q2⟩
def meaF (fs : FS) : Nat := 2 * (48001 - pot fs.gs) + (if fs.grew = true then 1 else 0)
open Classical in
noncomputable def meaW (s : ByteArray) (A : List Ak) (f : Fp) (w : World) : Nat :=
  if h : ∃ n fs ga gc, FkOK s A w f ga gc fs ∧ n = meaF fs then h.choose else 0
theorem meaW_eq {s : ByteArray} {A : List Ak} {w : World} {f : Fp} {ga : Option Addr} {gc : Nat} {fs : FS} (h : FkOK s A w f ga gc fs) : meaW s A f w = meaF fs := by
  unfold meaW
  have q : ∃ n fs ga gc, FkOK s A w f ga gc fs ∧ n = meaF fs := ⟨_, fs, ga, gc, h, rfl⟩
  rw [dif_pos q]
  obtain ⟨fs', ga', gc', h', e⟩ := q.choose_spec
  rw [e]
  obtain ⟨e1, e2⟩ := h.uniq h'
  unfold meaF
  rw [e1, e2]
theorem FkOK.setGrew {s : ByteArray} {A : List Ak} {w : World} {f : Fp} {ga : Option Addr} {gc : Nat} {fs : FS} (h : FkOK s A w f ga gc fs) (b : Bool) : FkOK s A (w.setCell ⟨f.F, 3, none⟩ (.bool b)) f ga gc { fs with grew := b } := by
  obtain ⟨c0, c1, c2, c3, f1, f3, own, act, com, n1, n2, n3, l0, l1, l2, l3, la⟩ := h
  have fb : ∀ j, 3 ≠ j → (w.setCell ⟨f.F, 3, none⟩ (.bool b)).cell? ⟨f.F, j, none⟩ = w.cell? ⟨f.F, j, none⟩ := fun j hj => cellO _ _ _ _ _ hj
  have fa : ∀ k, k ≠ f.F → (w.setCell ⟨f.F, 3, none⟩ (.bool b)).heap[k]? = w.heap[k]? := fun k h1 => set_far _ f.F 3 _ k h1
  exact ⟨(fb 0 (by decide)).trans c0, (fb 1 (by decide)).trans c1, (fb 2 (by decide)).trans c2, cellS (u := .bool fs.grew) _ c3, by simpa using f1, by simpa using f3, own_far own (fun k hk => fa k (by have := (own.lt k hk).1; omega)), act.far (fa _ n1.symm), fun j hj c hc => ⟨(World.cell?_of_block (fa _ n2.symm)).trans (com j hj c hc).1, (World.frozen?_of_block (fa _ n2.symm)).trans (com j hj c hc).2⟩, n1, n2, n3, l0, l1, l2, by simpa using l3, la⟩
theorem Fr.setF (f : Fp) (w : World) (j : Nat) (v : Value) : Fr f w (w.setCell ⟨f.F, j, none⟩ v) := ⟨rfl, rfl, rfl, by simp, fun k h1 h2 h3 => set_far _ f.F j _ k h2⟩
structure Good (s : ByteArray) (A : List Ak) (b0 : Nat) (ts : List Tm) (β : Nat → Nat) (t0 : Nat) : Prop where
  plc : Plc s ts A β
  wf : ∀ i (hi : i < ts.length), WfN ts ts[i].body
  lt : t0 < ts.length
  beg : β t0 = b0
def FaPost (s : ByteArray) (A : List Ak) (b0 : Nat) (f : Fp) (w : World) (e : Ending) (w' : World) : Prop :=
  Fr f w w' ∧ (((∀ ts β t0, Good s A b0 ts β t0 → TBad ts t0) ∧ e = .returned (.bool false)) ∨ ∃ fs' ga gc, e = .returned (.bool true) ∧ FkOK s A w' f ga gc fs' ∧ (∀ ts β t0, Good s A b0 ts β t0 → RInv s A ts β t0 fs'.gs.length fs') ∧ fs'.grew = false)
theorem RInv.start {s : ByteArray} {A : List Ak} {ts : List Tm} {β : Nat → Nat} {t0 : Nat} {fs : FS} (h : FInv s A ts β t0 fs) (b : Bool) : RInv s A ts β t0 0 { fs with grew := b } :=
  ⟨⟨h.i1, h.i2, h.i3, h.i4, h.i5, h.i6, h.i7⟩, fun _ i g hi => absurd hi (by omega)⟩
set_option maxRecDepth 100000 in
set_option maxHeartbeats 4000000 in
theorem p73 (s : ByteArray) (A : List Ak) (b0 : Nat) (hex : ∃ ts β t0, Good s A b0 ts β t0) (w : World) (f : Fp) (ga : Option Addr) (gc : Nat) (fs : FS) (hs : s.size ≤ 400) (h : FkOK s A w f ga gc fs) (hI : ∀ ts β t0, Good s A b0 ts β t0 → FInv s A ts β t0 fs) (hgr : fs.grew = true) :
    Calls Tryz.prog 71 #[.pointer (some ⟨f.F, 0, none⟩)] w fun e w' => FaPost s A b0 f w e w' := by
  have hA := h.la
  obtain ⟨ts, β, t0, hG⟩ := hex
  have HP := hidS hG
  have HK0 := hidS h
  have HI0 := hidS hI
  have HGR := hidS hgr
  clear hG h hI hgr
  go_enter Tryz.func71, Tryz.ntmps71
  go_wp2
  go_loopw [3, 4] (fun _ _ wr => ∃ (fs1 : FS) (ga1 : Option Addr) (gc1 : Nat), Hid (FkOK s A wr f ga1 gc1 fs1) ∧ Hid (Fr f w wr) ∧ Hid (∀ ts β t0, Good s A b0 ts β t0 → FInv s A ts β t0 fs1) ∧ Hid (fs1.grew = false → ∀ ts β t0, Good s A b0 ts β t0 → RInv s A ts β t0 fs1.gs.length fs1)) (fun _ _ wr => meaW s A f wr)
  case atStart => exact ⟨fs, ga, gc, HK0.out, Fr.refl _ _, HI0.out, fun q => by rw [HGR.out] at q; cases q⟩
  case round =>
    obtain ⟨fs1, ga1, gc1, HK, HFR, HI, HRI⟩ := hrel
    have c3 := HK.out.c3
    have f3 := HK.out.f3
    have HM := hidS (meaW_eq HK.out)
    clear HK0 HI0 HGR
    cases hg : fs1.grew
    · rw [hg] at c3
      have HR := hidS (HRI.out hg)
      have HG := hidS hg
      clear HM hg HRI
      go_wp2
      go_ret
      exact ⟨HFR.out, .inr ⟨fs1, ga1, gc1, rfl, HK.out, HR.out, HG.out⟩⟩
    · rw [hg] at c3
      have HK1 := hidS (HK.out.setGrew false)
      have HFR1 := hidS (HFR.out.trans (Fr.setF f wr 3 (.bool false)))
      have HR1 : Hid (∀ ts β t0, Good s A b0 ts β t0 → RInv s A ts β t0 0 { fs1 with grew := false }) := fun ts β t0 q => RInv.start (HI.out ts β t0 q) false
      have HMF : Hid (meaF fs1 = 2 * (48001 - pot fs1.gs) + 1) := by show _ = _; unfold meaF; rw [if_pos hg]
      clear hg HRI HI HFR
      generalize wr = w1 at *
      go_wp2
      clear c3 f3
      go_loopw [3, 4] (fun iv _ wr => ∃ (k : Nat) (fs2 : FS) (ga2 : Option Addr) (gc2 : Nat), iv = .int .i64 k ∧ k ≤ fs2.gs.length ∧ Hid (FkOK s A wr f ga2 gc2 fs2) ∧ Hid (Fr f w wr) ∧ Hid (∀ ts β t0, Good s A b0 ts β t0 → RInv s A ts β t0 k fs2) ∧ Hid (pot fs1.gs ≤ pot fs2.gs ∧ (fs2.grew = true → pot fs1.gs + 1 ≤ pot fs2.gs))) (fun iv _ wr => 24001 - (intOf iv).toNat)
      case atStart => exact ⟨0, { fs1 with grew := false }, ga1, gc1, rfl, by omega, HK1.out, HFR1.out, HR1.out, Nat.le_refl _, fun q => by cases q⟩
      case round =>
        clear HK1 HFR1 HR1 HK
        obtain ⟨k, fs2, ga2, gc2, rfl, hk, HK, HFR, HR, HPT⟩ := hrel
        have c1 := HK.out.c1
        have h24 := gs_len (HR.out ts β t0 HP.out).inv HP.out.plc hA
        by_cases hlt : k < fs2.gs.length
        · have hgk : fs2.gs[k]? = some fs2.gs[k] := List.getElem?_eq_getElem hlt
          obtain ⟨⟨t, ht, hb⟩, hf24, _⟩ := (HR.out ts β t0 HP.out).inv.i1 fs2.gs[k] (List.getElem_mem hlt)
          have Hfo := hidS (p90 s A wr f ga2 gc2 fs2 k hs hlt (by rw [hb]; exact beta_lt HP.out.plc t ht) hf24 h24 (fun g hg => ((HR.out ts β t0 HP.out).inv.i1 g hg).2.2) HK.out)
          have HBad : Hid (followF s A fs2 k = none → ∀ ts β t0, Good s A b0 ts β t0 → TBad ts t0) := fun q ts β t0 g => follow_bad g.plc g.wf g.lt (HR.out ts β t0 g).inv q
          have HOk : Hid (∀ fs3, followF s A fs2 k = some fs3 → ∀ ts β t0, Good s A b0 ts β t0 → _) := fun fs3 q ts β t0 g => (HR.out ts β t0 g).step g.plc g.wf g.lt hgk q
          generalize followF s A fs2 k = RR at *
          have j1 : (k : Int) < (fs2.gs.length : Int) := by omega
          clear hgk hb hf24
          go_wp2_with fail
          refine Hfo.out.mono ?_
          rintro e w2 ⟨hfr, hor⟩
          have HFR2 := hidS (HFR.out.trans hfr)
          rcases hor with ⟨rfl, rfl⟩ | ⟨fs3, ga3, gc3, rfl, rfl, hfk⟩
          · clear hfr Hfo
            go_wp2
            go_ret
            exact ⟨HFR2.out, .inl ⟨(by first | exact HBad.out rfl | exact HBad.out trivial), rfl⟩⟩
          · have HK3 := hidS hfk
            obtain ⟨_, q2, q3, q4⟩ := HOk.out fs3 rfl ts β t0 HP.out
            have HR3 : Hid (∀ ts β t0, Good s A b0 ts β t0 → RInv s A ts β t0 (k + 1) fs3) := fun ts β t0 g => (HOk.out fs3 rfl ts β t0 g).1
            have HPT3 : Hid (pot fs1.gs ≤ pot fs3.gs ∧ (fs3.grew = true → pot fs1.gs + 1 ≤ pot fs3.gs)) := ⟨by have := HPT.out.1; omega, fun q => by
              rcases q4 q with q5 | q5
              · have := HPT.out.2 q5; omega
              · have := HPT.out.1; omega⟩
            clear hfr Hfo hfk q3 q4
            go_wp2
            exact ⟨⟨k + 1, fs3, ga3, gc3, by go_num, by omega, HK3.out, HFR2.out, HR3.out, HPT3.out⟩, by simp only [intOf]; omega⟩
        · have hkl : k = fs2.gs.length := by omega
          have hge : (k : Int) ≥ (fs2.gs.length : Int) := by omega
          have HR4 : Hid (∀ ts β t0, Good s A b0 ts β t0 → RInv s A ts β t0 fs2.gs.length fs2) := by rw [← hkl]; exact HR.out
          clear hkl
          go_wp2
          refine ⟨⟨fs2, ga2, gc2, HK.out, HFR.out, fun ts β t0 g => (HR.out ts β t0 g).inv, fun _ => HR4.out⟩, ?_⟩
          show meaW s A f wr < meaW s A f w1
          rw [HM.out, meaW_eq HK.out, HMF.out]
          unfold meaF
          have := (pot_len fs2.gs).2
          have := HPT.out.1
          by_cases q : fs2.grew = true
          · have := HPT.out.2 q
            rw [if_pos q]; omega
          · rw [if_neg q]; omega
end Go.Proofs.YtffkejkgkgfnhabGreat
namespace Go.Proofs.YtffkejkgkgfnhabGreat
open Go.RowKit
set_option linter.unusedVariables false
def Ris (A : List Ak) (n : Nat) : Prop := A.Pairwise (fun a b => a.at' < b.at') ∧ ∀ a ∈ A, a.at' < n
theorem takeS_kind {inb : Bool} {nt : Nat} {op : List Int} {k : Int} {r : Bool × Nat × List Int} (h : takeS inb nt op k = some r) : k ≠ 0 := by
  rintro rfl
  unfold takeS at h
  cases inb <;> simp at h
theorem ris_step {s : ByteArray} {c d : Cfg} (h : stepC s c = .go d) (hr : Ris c.acts c.p) (hp : c.p ≤ s.size) : Ris d.acts d.p ∧ d.p ≤ s.size := by
  unfold stepC at h
  split at h
  · rename_i hlt
    split at h
    · cases h
      exact ⟨⟨hr.1, fun a ha => by have := hr.2 a ha; show a.at' < c.p + 1; omega⟩, hlt⟩
    · split at h
      · cases h
      · rename_i i n o ht
        cases h
        obtain ⟨q1, q2, q3, _⟩ := act_next s c.p (takeS_kind ht)
        refine ⟨⟨?_, fun a ha => ?_⟩, q2⟩
        · rw [List.pairwise_append]
          refine ⟨hr.1, by simp, fun a ha b hb => ?_⟩
          simp at hb; subst hb
          exact hr.2 a ha
        · show a.at' < (act s c.p).next
          rcases List.mem_append.1 ha with ha | ha
          · have := hr.2 a ha; omega
          · simp at ha; subst ha; show c.p < _; omega
  · split at h <;> cases h
theorem ris_reach {s : ByteArray} {c d : Cfg} (h : Reach s c d) : Ris c.acts c.p → c.p ≤ s.size → Ris d.acts d.p ∧ d.p ≤ s.size := by
  induction h with
  | refl c => exact fun h k => ⟨h, k⟩
  | step h r ih => intro hr hp; obtain ⟨a, b⟩ := ris_step h hr hp; exact ih a b
theorem ris_ends {s : ByteArray} {A : List Ak} (h : Ends s init (.fin A)) : Ris A s.size := by
  obtain ⟨d, hr, hs, _⟩ := h
  obtain ⟨h1, h2⟩ := ris_reach hr ⟨by simp [init], fun a ha => by simp [init] at ha⟩ (Nat.zero_le _)
  unfold stepC at hs
  split at hs
  · split at hs
    · cases hs
    · split at hs <;> cases hs
  · split at hs
    · cases hs
    · cases hs
      exact ⟨h1.1, fun a ha => by have := h1.2 a ha; omega⟩
theorem ris_len {A : List Ak} {n : Nat} (h : Ris A n) : A.length ≤ n := by
  have e : (A.map (·.at')).length ≤ n := nodup_len n _ (by
    rw [List.pairwise_map]
    exact h.1.imp (fun q => by omega)) (fun x hx => by
    obtain ⟨a, ha, rfl⟩ := List.mem_map.1 hx
    exact h.2 a ha)
  simpa using e
def atA (A : List Ak) (i : Nat) : Nat := ((A[i]?).map (·.at')).getD 0
def usA (A : List Ak) (cm : Nat → Nat → Bool) (n : Nat) : List (Nat × Nat) := ((List.range n).filter fun k => cm (k / 24) (k % 24)).map fun k => (atA A (k / 24), k % 24)
theorem usA_len (A : List Ak) (cm : Nat → Nat → Bool) (n : Nat) : (usA A cm n).length ≤ n := by
  unfold usA
  rw [List.length_map]
  exact Nat.le_trans (List.length_filter_le _ _) (by simp)
theorem usA_succ (A : List Ak) (cm : Nat → Nat → Bool) (i c : Nat) (hi : i < A.length) (hc : c < 24) : usA A cm (i * 24 + c + 1) = if cm i c = true then usA A cm (i * 24 + c) ++ [(A[i].at', c)] else usA A cm (i * 24 + c) := by
  have e1 : (i * 24 + c) / 24 = i := by omega
  have e2 : (i * 24 + c) % 24 = c := by omega
  unfold usA
  rw [List.range_succ, List.filter_append, List.map_append]
  have e3 : atA A i = A[i].at' := by simp [atA, List.getElem?_eq_getElem hi]
  by_cases h : cm i c = true
  · rw [if_pos h]; simp [e1, e2, h, e3]
  · rw [if_neg h]; simp [e1, e2, h]
theorem usA_mem (A : List Ak) (cm : Nat → Nat → Bool) (p : Nat × Nat) : p ∈ usA A cm (A.length * 24) ↔ ∃ i a, A[i]? = some a ∧ p.2 < 24 ∧ p.1 = a.at' ∧ cm i p.2 = true := by
  unfold usA
  simp only [List.mem_map, List.mem_filter, List.mem_range]
  constructor
  · rintro ⟨k, ⟨h1, h2⟩, rfl⟩
    have hk : k / 24 < A.length := by omega
    refine ⟨k / 24, A[k / 24], List.getElem?_eq_getElem hk, Nat.mod_lt _ (by decide), ?_, h2⟩
    simp [atA, List.getElem?_eq_getElem hk]
  · rintro ⟨i, a, h1, h2, h3, h4⟩
    have hi := (List.getElem?_eq_some_iff.1 h1).1
    have e1 : (i * 24 + p.2) / 24 = i := by omega
    have e2 : (i * 24 + p.2) % 24 = p.2 := by omega
    refine ⟨i * 24 + p.2, ⟨by omega, by rw [e1, e2]; exact h4⟩, ?_⟩
    rw [e1, e2]
    simp [atA, h1, ← h3]
theorem usA_srt {A : List Ak} {n : Nat} (h : Ris A n) (cm : Nat → Nat → Bool) : ∀ m, m ≤ A.length * 24 → Srt (usA A cm m) := by
  intro m hm
  unfold usA Srt
  rw [List.pairwise_map]
  refine List.Pairwise.imp_of_mem ?_ ((List.pairwise_lt_range (n := m)).sublist List.filter_sublist)
  intro a b ha hb hab
  have ha' := (List.mem_filter.1 ha).1
  have hb' := (List.mem_filter.1 hb).1
  simp at ha' hb'
  have ia : a / 24 < A.length := by omega
  have ib : b / 24 < A.length := by omega
  have ea : atA A (a / 24) = A[a / 24].at' := by simp [atA, List.getElem?_eq_getElem ia]
  have eb : atA A (b / 24) = A[b / 24].at' := by simp [atA, List.getElem?_eq_getElem ib]
  rw [ea, eb]
  show A[a / 24].at' * 24 + a % 24 < A[b / 24].at' * 24 + b % 24
  by_cases e : a / 24 = b / 24
  · have : A[a / 24].at' = A[b / 24].at' := by congr 1; exact getElem_congr_idx e
    omega
  · have := List.pairwise_iff_getElem.1 h.1 (a / 24) (b / 24) ia ib (by omega)
    omega
theorem usA_list {s : ByteArray} {A : List Ak} {b0 : Nat} {ts : List Tm} {β : Nat → Nat} {t0 : Nat} (hG : Good s A b0 ts β t0) {n : Nat} (hr : Ris A n) {fs : FS} (h : RInv s A ts β t0 fs.gs.length fs) (hn : fs.grew = false) : ¬ TBad ts t0 ∧ UseList ts t0 (usA A fs.cm (A.length * 24)) := by
  obtain ⟨h1, h2⟩ := h.true' hG.plc hG.lt hn
  refine ⟨h1, usA_srt hr _ _ (Nat.le_refl _), fun p => ?_⟩
  rw [usA_mem]
  constructor
  · rintro ⟨i, a, q1, q2, q3, q4⟩
    obtain ⟨a', e1, e2⟩ := h.inv.i5 i p.2 q4
    rw [q1] at e1; cases e1
    exact ⟨q2, by rw [q3]; exact e2⟩
  · rintro ⟨q1, q2⟩
    obtain ⟨j, a, e1, e2, e3, _⟩ := (h2 _ _).1 q2
    exact ⟨j, a, e1, q1, e2.symm, e3⟩
def UsPost (A : List Ak) (cm : Nat → Nat → Bool) (w : World) (e : Ending) (w' : World) : Prop :=
  Below w.heap.size w w' ∧ ∃ a c, e = .returned (.slice a (usA A cm (A.length * 24)).length c) ∧ w'.ownsRow w.heap.size 46 2 (.slice a (usA A cm (A.length * 24)).length c) (usA A cm (A.length * 24)).length (useC (usA A cm (A.length * 24)))
set_option maxRecDepth 100000 in
set_option maxHeartbeats 4000000 in
theorem p74 (s : ByteArray) (A : List Ak) (w : World) (f : Fp) (ga : Option Addr) (gc : Nat) (fs : FS) (h : FkOK s A w f ga gc fs) :
    Calls Tryz.prog 72 #[.pointer (some ⟨f.F, 0, none⟩)] w fun e w' => UsPost A fs.cm w e w' := by
  obtain ⟨i0, hi, hz0, hz1, hz2x⟩ := info_parts infoUse
  have hA := h.la
  have c0 := h.c0
  have c2 := h.c2
  have l0 : f.F < w.heap.size := by have := h.l0; have := h.l3; omega
  have l1 : f.ag < w.heap.size := by have := h.l1; have := h.l3; omega
  have l2 : f.cg < w.heap.size := by have := h.l2; have := h.l3; omega
  have HK := hidS h
  clear h
  go_enter Tryz.func72, Tryz.ntmps72
  go_wp2
  go_loopw [3, 4, 5] (fun lv iv _ wr => ∃ (i : Nat) (oa : Option Addr) (oc : Nat), i ≤ A.length ∧ iv = .int .i64 i ∧ lv = .slice oa (usA A fs.cm (i * 24)).length oc ∧ Hid (wr.ownsRow w.heap.size 46 2 (.slice oa (usA A fs.cm (i * 24)).length oc) (usA A fs.cm (i * 24)).length (useC (usA A fs.cm (i * 24)))) ∧ Below w.heap.size w wr) (fun _ iv _ _ => A.length - (intOf iv).toNat)
  case atStart => exact ⟨0, none, 0, by omega, rfl, rfl, World.ownsRow_nil _ _ _ _, Below.refl _ _⟩
  case round =>
    obtain ⟨i, oa, oc, hi', rfl, rfl, HO, hbel⟩ := hrel
    have d0 : wr.cell? ⟨f.F, 0, none⟩ = some (.slice (some ⟨f.ag, 0, none⟩) A.length f.ac) := (hbel.cell (p := ⟨f.F, 0, none⟩) l0).trans c0
    have d2 : wr.cell? ⟨f.F, 2, none⟩ = some (.slice (some ⟨f.cg, 0, none⟩) A.length f.cc) := (hbel.cell (p := ⟨f.F, 2, none⟩) l0).trans c2
    by_cases hlt : i < A.length
    · generalize wr = w1 at *
      go_wp2
      go_loopw [3, 5] (fun lv cv wr => ∃ (c : Nat) (oa : Option Addr) (oc : Nat), c ≤ 24 ∧ cv = .int .i64 c ∧ lv = .slice oa (usA A fs.cm (i * 24 + c)).length oc ∧ Hid (wr.ownsRow w.heap.size 46 2 (.slice oa (usA A fs.cm (i * 24 + c)).length oc) (usA A fs.cm (i * 24 + c)).length (useC (usA A fs.cm (i * 24 + c)))) ∧ Below w.heap.size w wr) (fun _ cv _ => 24 - (intOf cv).toNat)
      case atStart => exact ⟨0, oa, oc, by omega, rfl, rfl, HO.out, hbel⟩
      case round =>
        clear d0 d2 HO hbel
        obtain ⟨c, oa, oc, hc', rfl, rfl, HO, hbel⟩ := hrel
        have d0 : wr.cell? ⟨f.F, 0, none⟩ = some (.slice (some ⟨f.ag, 0, none⟩) A.length f.ac) := (hbel.cell (p := ⟨f.F, 0, none⟩) l0).trans c0
        have d2 : wr.cell? ⟨f.F, 2, none⟩ = some (.slice (some ⟨f.cg, 0, none⟩) A.length f.cc) := (hbel.cell (p := ⟨f.F, 2, none⟩) l0).trans c2
        by_cases hlc : c < 24
        · have du : wr.cell? ⟨f.cg, i * 24 + c, none⟩ = some (.bool (fs.cm i c)) := (hbel.cell (p := ⟨f.cg, i * 24 + c, none⟩) l2).trans (HK.out.com i hlt c hlc).1
          have da : wr.cell? ⟨f.ag, i * 5 + 2, none⟩ = some (.int .i64 A[i].at') := (hbel.cell (p := ⟨f.ag, i * 5 + 2, none⟩) l1).trans (HK.out.act i hlt).2.2.1
          have HS := hidS (usA_succ A fs.cm i c hlt hlc)
          have hul := usA_len A fs.cm (i * 24 + c)
          have hbs := hbel.size
          have j1 : (0 : Int) ≤ (i : Int) := by omega
          have j2 : (i : Int) < (A.length : Int) := by omega
          have j3 : (c : Int) < 24 := by omega
          have j4 : (0 : Int) ≤ (c : Int) := by omega
          cases hu : fs.cm i c
          · rw [hu] at du
            have HSe : Hid (usA A fs.cm (i * 24 + c + 1) = usA A fs.cm (i * 24 + c)) := by show _ = _; rw [HS.out, if_neg (by rw [hu]; decide)]
            clear HS
            go_wp2
            exact ⟨⟨c + 1, oa, oc, by omega, by go_num, by rw [← Nat.add_assoc, HSe.out], by rw [← Nat.add_assoc, HSe.out]; exact HO.out, hbel⟩, by simp [intOf]; omega⟩
          · rw [hu] at du
            have HSe : Hid (usA A fs.cm (i * 24 + c + 1) = usA A fs.cm (i * 24 + c) ++ [(A[i].at', c)]) := by show _ = _; rw [HS.out, if_pos hu]
            clear HS hu
            generalize A[i].at' = AT at *
            generalize hLL : usA A fs.cm (i * 24 + c) = LL at *
            have hown := HO.out
            go_wp2_with (at_builtin; refine wpList_append_lies _ rfl _ _ 42 rfl w.heap.size 46 i0 (.agg #[.int .i64 0, .int .i64 0]) 2 16 Tryz.underlying42 hi hz0 hz1 hz2x rfl (by decide) _ _ _ rfl (hown.alloc _) ⟨wr.heap.size, 0, none⟩ 1 1 [.int .i64 AT, .int .i64 c] rfl rfl ?c1 ?c2 (by decide) ?c3 ?c4 ?c5 _ rfl ?_)
            case c1 => exact use_cells wr AT c
            case c2 => exact use_one _ _
            case c3 => unfold maxLen; omega
            case c4 => omega
            case c5 => simp; omega
            intro g cap w3 hown3 hg3 hat3 hlt3
            have hbel3 : Below w.heap.size w w3 := (hbel.alloc (by omega) _).grown hg3 (by simp; omega) (fun j hj => by have := (hown.lt j hj).1; omega)
            have HO3 : Hid (w3.ownsRow w.heap.size 46 2 (.slice (some ⟨g, 0, none⟩) (LL ++ [(AT, c)]).length cap) (LL ++ [(AT, c)]).length (useC (LL ++ [(AT, c)]))) := by
              show World.ownsRow _ _ _ _ _ _ _
              rw [List.length_append, useC, List.flatMap_append]
              simpa [useC] using hown3
            clear hown3 hg3 hat3 hown d0 d2 du da HO
            go_wp2
            exact ⟨⟨c + 1, some ⟨g, 0, none⟩, cap, by omega, by go_num, by rw [← Nat.add_assoc, HSe.out]; simp, by rw [← Nat.add_assoc, HSe.out]; exact HO3.out, hbel3⟩, by simp [intOf]; omega⟩
        · have e : c = 24 := by omega
          subst e
          have e2 : i * 24 + 24 = (i + 1) * 24 := by omega
          rw [e2] at HO
          rw [e2]
          go_wp2
          exact ⟨⟨i + 1, oa, oc, by omega, by go_num, rfl, HO.out, hbel⟩, by simp [intOf]; omega⟩
    · have e : i = A.length := by omega
      subst e
      go_wp2
      go_ret
      exact ⟨hbel, oa, oc, rfl, HO.out⟩
end Go.Proofs.YtffkejkgkgfnhabGreat
