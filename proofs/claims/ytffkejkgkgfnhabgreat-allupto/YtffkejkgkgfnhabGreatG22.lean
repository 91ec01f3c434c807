import Derived.Test.YtffkejkgkgfnhabGreatG21
import Derived.Test.YtffkejkgkgfnhabGreatG20
namespace Go.Proofs.YtffkejkgkgfnhabGreat
open Go.RowKit
set_option linter.unusedVariables false
/-- the copy of a list of rows -/
def RwC (w : World) (A : Nat → Prop) (d : Dat) (g j : Nat) : Prop :=
  ∃ f a c, d.drop j = .row f (d.drop (j + 1)) ∧ w.cell? ⟨g, j, none⟩ = some (.slice a f.len c) ∧ f.len ≤ c ∧ c ≤ maxLen ∧ DatW A a f.len (DatAtA w A f)
theorem RwC.set {w : World} {A A' : Nat → Prop} {d : Dat} {g j m : Nat} {v : Value} (h : RwC w A d g j) (hA : ∀ k, A k → A' k) (hg : ∀ k, A k → k ≠ g) (hm : m ≠ j) : RwC (w.setCell ⟨g, m, none⟩ v) A' d g j := by
  obtain ⟨f, a, c, e, h3, h4, h5, h6⟩ := h
  exact ⟨f, a, c, e, (cellO w _ _ _ _ hm).trans h3, h4, h5, DatVA.mono (a := a) (d := f) h6 hA (fun k hk => set_far w _ _ _ k (hg k hk))⟩
theorem RwC.wid {w : World} {A A' : Nat → Prop} {d : Dat} {g j : Nat} (h : RwC w A d g j) (hA : ∀ k, A k → A' k) : RwC w A' d g j := by
  obtain ⟨f, a, c, e, h3, h4, h5, h6⟩ := h
  exact ⟨f, a, c, e, h3, h4, h5, DatVA.mono (a := a) (d := f) h6 hA (fun _ _ => rfl)⟩
theorem rows_at {w : World} {A : Nat → Prop} {d : Dat} {g : Nat} (h : ∀ j, j < d.len → RwC w A d g j) : ∀ k i, i + k = d.len → DatAtA w A (d.drop i) g i := by
  intro k
  induction k with
  | zero => intro i hi; rw [Dat.drop_end d i (by omega)]; trivial
  | succ k ih =>
    intro i hi
    obtain ⟨f, a, c, e, h3, h4, h5, h6⟩ := h i (by omega)
    have r := ih (i + 1) (by omega)
    rw [e]
    exact ⟨⟨a, c, h3, h4, h5, h6⟩, r⟩
theorem rows_all {w : World} {A : Nat → Prop} {d : Dat} {g : Nat} (h : ∀ j, j < d.len → RwC w A d g j) : DatAtA w A d g 0 := by
  have := rows_at h d.len 0 (by omega)
  rwa [Dat.drop_zero] at this
/-- what stands while a list of rows is copied: k rows are done -/
structure LI (w wr : World) (ab : Nat) (fv rv : Value) (Fs : List (Nat × Nat)) (Rs : List (Nat × Nat × Nat)) (d : Dat) (k : Nat) (fv1 rv1 : Value) (Fs1 : List (Nat × Nat)) (Rs1 : List (Nat × Nat × Nat)) : Prop where
  ag : AgOK wr ab fv1 rv1 Fs1 Rs1
  ch : ChA ab fv rv fv1 rv1 w wr
  b0 : Frb wr ab fv1 rv1 w.heap.size
  cp : ∀ j, j < k → RwC wr (Nw wr ab fv1 rv1 (w.heap.size + 1)) d w.heap.size j
  zr : ∀ j, k ≤ j → j ≤ d.len → wr.cell? ⟨w.heap.size, j, none⟩ = some (.slice none 0 0)
  fz : ∀ m, wr.frozen? ⟨w.heap.size, m, none⟩ = false
  nF : NwF Fs Fs1 (w.heap.size + 1)
  nR : NwR Rs Rs1 (w.heap.size + 1)
  oF : ∀ x ∈ Fs, x.1 < w.heap.size
  oR : ∀ x ∈ Rs, x.1 < w.heap.size ∧ x.2.2 < w.heap.size
theorem LI.set {w wr : World} {ab : Nat} {fv rv fv1 rv1 : Value} {Fs Fs1 : List (Nat × Nat)} {Rs Rs1 : List (Nat × Nat × Nat)} {d : Dat} {k : Nat} (h : LI w wr ab fv rv Fs Rs d k fv1 rv1 Fs1 Rs1) (v : Value) (K : Nat) (hK : K = k ∨ K = k + 1) (hf : K = k + 1 → RwC (wr.setCell ⟨w.heap.size, k, none⟩ v) (Nw (wr.setCell ⟨w.heap.size, k, none⟩ v) ab fv1 rv1 (w.heap.size + 1)) d w.heap.size k) (hz : K = k → d.len ≤ k) :
    (K = k + 1 → LI w (wr.setCell ⟨w.heap.size, k, none⟩ v) ab fv rv Fs Rs d (k + 1) fv1 rv1 Fs1 Rs1) ∧ AgOK (wr.setCell ⟨w.heap.size, k, none⟩ v) ab fv1 rv1 Fs1 Rs1 ∧ ChA ab fv rv fv1 rv1 w (wr.setCell ⟨w.heap.size, k, none⟩ v) ∧ Frb (wr.setCell ⟨w.heap.size, k, none⟩ v) ab fv1 rv1 w.heap.size ∧ (∀ j, j < k → RwC (wr.setCell ⟨w.heap.size, k, none⟩ v) (Nw (wr.setCell ⟨w.heap.size, k, none⟩ v) ab fv1 rv1 (w.heap.size + 1)) d w.heap.size j) := by
  obtain ⟨ag, ch, b0, cp, zr, fz, nF, nR, oF, oR⟩ := h
  have fr : ∀ q, Frb wr ab fv1 rv1 q → Frb (wr.setCell ⟨w.heap.size, k, none⟩ v) ab fv1 rv1 q := fun q hq => ⟨hq.lo, by simpa using hq.hi, hq.nf, hq.nr⟩
  have hag : AgOK (wr.setCell ⟨w.heap.size, k, none⟩ v) ab fv1 rv1 Fs1 Rs1 := ag.setFar _ _ _ (by have := b0.lo; omega) b0.nf b0.nr (fun x hx => by
    rcases nF x hx with q | q
    · have := oF x q; omega
    · omega) (fun x hx => by
    rcases nR x hx with q | q
    · have := oR x q; omega
    · omega)
  have hcp : ∀ j, j < k → RwC (wr.setCell ⟨w.heap.size, k, none⟩ v) (Nw (wr.setCell ⟨w.heap.size, k, none⟩ v) ab fv1 rv1 (w.heap.size + 1)) d w.heap.size j := fun j hj => (cp j hj).set (fun q hq => ⟨fr _ hq.1, hq.2⟩) (fun q hq => by have := hq.2; omega) (by omega)
  refine ⟨fun e => ⟨hag, ch.setNew _ _ _ (Nat.le_refl _), fr _ b0, fun j hj => ?_, fun j hj hl => (cellO wr _ _ _ _ (by omega)).trans (zr j (by omega) hl), fun q => by simpa using fz q, nF, nR, oF, oR⟩, hag, ch.setNew _ _ _ (Nat.le_refl _), fr _ b0, hcp⟩
  by_cases e2 : j = k
  · subst e2; exact hf e
  · exact hcp j (by omega)
theorem LI.call {w wr w5 : World} {ab : Nat} {fv rv fv1 rv1 fv2 rv2 : Value} {Fs Fs1 Fs2 : List (Nat × Nat)} {Rs Rs1 Rs2 : List (Nat × Nat × Nat)} {d : Dat} {k : Nat} (h : LI w wr ab fv rv Fs Rs d k fv1 rv1 Fs1 Rs1)
    (c : ChA ab fv1 rv1 fv2 rv2 wr w5) (ag2 : AgOK w5 ab fv2 rv2 Fs2 Rs2) (nF2 : NwF Fs1 Fs2 wr.heap.size) (nR2 : NwR Rs1 Rs2 wr.heap.size) : LI w w5 ab fv rv Fs Rs d k fv2 rv2 Fs2 Rs2 := by
  obtain ⟨ag, ch, b0, cp, zr, fz, nF, nR, oF, oR⟩ := h
  have hz := b0.hi
  exact ⟨ag2, ch.trans c, b0.step c,
    fun j hj => by
      obtain ⟨f, a, c', e, h3, h4, h5, h6⟩ := cp j hj
      exact ⟨f, a, c', e, (World.cell?_of_block (b0.same c)).trans h3, h4, h5, DatVA.mono (a := a) (d := f) h6 (fun q hq => hq.step c) (fun q hq => hq.same c)⟩,
    fun j hj hl => (World.cell?_of_block (b0.same c)).trans (zr j hj hl), fun m => (World.frozen?_of_block (b0.same c)).trans (fz m), nF.trans nF2 (by omega), nR.trans nR2 (by omega), oF, oR⟩
theorem li_start {w : World} {ab : Nat} {fv rv : Value} {Fs : List (Nat × Nat)} {Rs : List (Nat × Nat × Nat)} (d : Dat) (h : AgOK w ab fv rv Fs Rs) :
    LI w (w.alloc (.cells (zR (d.len + 1)) 31)) ab fv rv Fs Rs d 0 fv rv Fs Rs := by
  have hb : Below w.heap.size w (w.alloc (.cells (zR (d.len + 1)) 31)) := (Below.refl _ _).alloc (Nat.le_refl _) _
  have hlt := h.lt
  refine ⟨h.below hb.block hb.size, ChA.of_below hb, ⟨by omega, by simp, fun e => by have := (h.o0.lt _ e).2; omega, fun e => by have := (h.o1.lt _ e).2; omega⟩, fun j hj => by omega, fun j _ hl => (cellNew _ _ j _ _ rfl).trans (zR_at _ _ (by omega)), fun m => frNew _ _ m _ _ rfl, fun x hx => .inl hx, fun x hx => .inl hx, fun x hx => (h.sF x hx).2.hi, fun x hx => ⟨(h.sR x hx).2.1.hi, (h.sR x hx).2.2.hi⟩⟩
theorem li_end {w wr : World} {ab : Nat} {fv rv fv1 rv1 : Value} {Fs Fs1 : List (Nat × Nat)} {Rs Rs1 : List (Nat × Nat × Nat)} {d : Dat} (h : LI w wr ab fv rv Fs Rs d d.len fv1 rv1 Fs1 Rs1) (hl : d.len ≤ 1048576) :
    let W1 := (wr.setCell ⟨w.heap.size, d.len, none⟩ (.slice (some ⟨wr.heap.size, 0, none⟩) 1 1)).alloc (.cells #[.string ⟨#[115, 112, 97, 114, 101]⟩, .bool false, .string ⟨#[]⟩, .slice none 0 0] 88)
    AgOK W1 ab fv1 rv1 Fs1 Rs1 ∧ ChA ab fv rv fv1 rv1 w W1 ∧ Frb W1 ab fv1 rv1 w.heap.size ∧ Frb W1 ab fv1 rv1 wr.heap.size ∧ SpR W1 (w.heap.size, d.len, wr.heap.size) ∧ (∀ j, j < d.len → RwC W1 (Nw W1 ab fv1 rv1 (w.heap.size + 1)) d w.heap.size j) := by
  intro W1
  have u3 := h.zr d.len (Nat.le_refl _) (Nat.le_refl _)
  have hag := h.ag
  have hb0 := h.b0
  have hw := h.ch.size
  obtain ⟨_, k1, k2, k3, k4⟩ := h.set (.slice (some ⟨wr.heap.size, 0, none⟩) 1 1) d.len (.inl rfl) (fun e => by omega) (fun _ => Nat.le_refl _)
  have hb : Below (wr.setCell ⟨w.heap.size, d.len, none⟩ (.slice (some ⟨wr.heap.size, 0, none⟩) 1 1)).heap.size (wr.setCell ⟨w.heap.size, d.len, none⟩ (.slice (some ⟨wr.heap.size, 0, none⟩) 1 1)) W1 := (Below.refl _ _).alloc (Nat.le_refl _) _
  have c := ChA.of_below (ab := ab) (fv := fv1) (rv := rv1) hb
  refine ⟨k1.below hb.block hb.size, k2.trans c, k3.step c, ⟨by have := hag.lt; omega, by simp [W1], fun e => by have := (hag.o0.lt _ e).2; omega, fun e => by have := (hag.o1.lt _ e).2; omega⟩, ⟨?_, ?_, hl⟩, fun j hj => ?_⟩
  · exact (World.cell?_of_block (k3.same c)).trans (cellS _ u3)
  · exact cellNew _ _ 0 _ _ (by simp)
  · obtain ⟨f, a, c', e, h3, h4, h5, h6⟩ := k4 j hj
    exact ⟨f, a, c', e, (World.cell?_of_block (k3.same c)).trans h3, h4, h5, DatVA.mono (a := a) (d := f) h6 (fun q hq => hq.step c) (fun q hq => hq.same c)⟩
set_option maxRecDepth 100000 in
set_option maxHeartbeats 4000000 in
theorem l50 (n : Nat) (hL : RowC n) : LstC (n + 1) := by
  intro d hdn hok w ab fv rv Fs Rs da dc hA hV hsum hbk
  obtain ⟨i0, hi, hz0, hz1, hz2⟩ := info_parts infoLR
  have hl : d.len ≤ 1048576 := Nat.le_trans (Dat.len_bulk _) hbk
  have M := fun wx : World => make86 wx (d.len + 1) (by omega)
  have hab := hA.lt
  have HL := hidS hL
  have HA := hidS hA
  have HV := hidS hV
  have HO := hidS hok
  clear hL hA hV hok
  have M' : ∀ wx : World, (Instr.makeSlice 86 (.int .i64 ((d.len : Int) + 1)) (.int .i64 ((d.len : Int) + 1))).run Tryz.prog wx = .ok (.slice (some ⟨wx.heap.size, 0, none⟩) (d.len + 1) (d.len + 1)) (wx.alloc (.cells (zR (d.len + 1)) 31)) := fun wx => by have := M wx; simpa using this
  clear M
  go_enter Tryz.func47, Tryz.ntmps47
  go_wp2
  have hLI := li_start d HA.out
  generalize w.alloc (.cells (zR (d.len + 1)) 31) = w3 at *
  have HLI := hidS hLI
  clear hLI M'
  go_loopw [7, 8] (fun iv _ wr => ∃ (k : Nat) (fv1 rv1 : Value) (Fs1 : List (Nat × Nat)) (Rs1 : List (Nat × Nat × Nat)), k ≤ d.len ∧ iv = .int .i64 k ∧ Fs1.length + Rs1.length + (d.drop k).bulk ≤ Fs.length + Rs.length + d.bulk ∧ Hid (LI w wr ab fv rv Fs Rs d k fv1 rv1 Fs1 Rs1)) (fun iv _ _ => d.len - (intOf iv).toNat)
  case atStart => exact ⟨0, fv, rv, Fs, Rs, Nat.zero_le _, rfl, by rw [Dat.drop_zero]; exact Nat.le_refl _, HLI.out⟩
  case round =>
    clear HLI
    obtain ⟨k, fv1, rv1, Fs1, Rs1, hk, rfl, hcnt, HI⟩ := hrel
    by_cases hlt : k < d.len
    · have hV1 : DatV wr ab da d := DatV.mono HV.out (Nat.le_refl _) (fun q hq => HI.out.ch.block q (by omega) (by omega) (fun e => by have := (HA.out.o0.lt q e).1; omega) (fun e => by have := (HA.out.o1.lt q e).1; omega))
      rcases hV1 with h0 | ⟨b, off, hda, hbl, hat⟩
      · omega
      obtain ⟨f, e1, ho1, hb1, ra, rc, s3, l1, l2, hVr⟩ := DatAt.rowAt d b off k HO.out hlt hat
      subst hda
      have hbd : (d.drop k).bulk = f.bulk + (d.drop (k + 1)).bulk + 2 := by rw [e1]; rfl
      have hcall := HL.out f (by omega) ho1 _ ab fv1 rv1 Fs1 Rs1 ra rc HI.out.ag hVr (by omega) (by omega)
      generalize hrl : f.len = fl at *
      have HFL := hidS hrl
      have Hcall := hidS hcall
      have HE1 := hidS e1
      clear hcall hVr e1 hat hrl
      go_wp2_with fail
      refine Hcall.out.mono ?_
      clear Hcall
      rintro e w5 ⟨g5, rfl, fv5, rv5, Fs5, Rs5, hag5, hch5, hcn5, hnw5, hdt5, hnF5, hnR5⟩
      have hI5 := HI.out.call hch5 hag5 hnF5 hnR5
      have u3 := hI5.zr k (by omega) (by omega)
      have y3 := hI5.fz k
      have hz5 := hI5.b0.hi
      have hrl5 : fl ≤ 1048576 := by rw [← HFL.out]; exact Nat.le_trans (Dat.len_bulk _) (by omega)
      have HI5 := hidS hI5
      clear hI5
      have hfld : RwC (w5.setCell ⟨w.heap.size, k, none⟩ (.slice (some ⟨g5, 0, none⟩) fl (fl + 1))) (Nw (w5.setCell ⟨w.heap.size, k, none⟩ (.slice (some ⟨g5, 0, none⟩) fl (fl + 1))) ab fv5 rv5 (w.heap.size + 1)) d w.heap.size k := by
        have hzr := HI.out.b0.hi
        refine ⟨f, some ⟨g5, 0, none⟩, fl + 1, HE1.out, by rw [HFL.out]; exact cellS _ u3, by rw [HFL.out]; omega, by unfold maxLen; omega, ?_⟩
        have fr : ∀ q, Nw w5 ab fv5 rv5 wr.heap.size q → Nw (w5.setCell ⟨w.heap.size, k, none⟩ (.slice (some ⟨g5, 0, none⟩) fl (fl + 1))) ab fv5 rv5 (w.heap.size + 1) q := fun q hq => ⟨⟨hq.1.lo, by simpa using hq.1.hi, hq.1.nf, hq.1.nr⟩, by have := hq.2; omega⟩
        exact .inr ⟨g5, 0, rfl, fr _ hnw5, DatAtA.mono fr (fun q hq => set_far w5 _ _ _ q (by have := hq.2; omega)) f g5 0 hnw5 hdt5⟩
      have hI6 := (HI5.out.set (.slice (some ⟨g5, 0, none⟩) fl (fl + 1)) (k + 1) (.inr rfl) (fun _ => hfld) (fun e => by omega)).1 rfl
      have HI7 := hidS (hI6.call (w5 := (w5.setCell ⟨w.heap.size, k, none⟩ (.slice (some ⟨g5, 0, none⟩) fl (fl + 1))).alloc (.cells #[.slice (some ⟨g5, 0, none⟩) fl (fl + 1)] 31)) (ChA.of_below ((Below.refl _ _).alloc (Nat.le_refl _) _)) (hI6.ag.below (fun q hq => Below.heap_alloc _ _ _ hq) (by simp)) (fun x hx => .inl hx) (fun x hx => .inl hx))
      clear hfld hI6 hag5 hch5 hnw5 hdt5 hnF5 hnR5 s3
      go_wp2
      exact ⟨⟨k + 1, fv5, rv5, Fs5, Rs5, by omega, by go_num, by omega, HI7.out⟩, by simp [intOf]; omega⟩
    · obtain rfl : k = d.len := by omega
      have u3 := HI.out.zr d.len (by omega) (by omega)
      have y3 := HI.out.fz d.len
      have hg := HI.out.b0.hi
      have c1 := HI.out.ag.c1
      have z1 := HI.out.ag.z1
      obtain ⟨ra1, rc1, rfl⟩ := ownT_form HI.out.ag.o1
      have hpl := HI.out.ag.lt
      have hRl : Rs1.length ≤ 2000000 := by omega
      obtain ⟨hag1, hch1, hfr1, hfh, hsp1, hcp1⟩ := li_end HI.out hl
      have o1 : ((wr.setCell ⟨w.heap.size, d.len, none⟩ (.slice (some ⟨wr.heap.size, 0, none⟩) 1 1)).alloc (.cells #[.string ⟨#[115, 112, 97, 114, 101]⟩, .bool false, .string ⟨#[]⟩, .slice none 0 0] 88)).ownsRow (ab + 1) 86 1 (.slice ra1 Rs1.length rc1) Rs1.length (Rs1.map slR) := hag1.o1
      have HAG := hidS hag1
      have HCH := hidS hch1
      have HFR := hidS hfr1
      have HFH := hidS hfh
      have HSP := hidS hsp1
      have HCP := hidS hcp1
      have hneA : some ab ≠ (Value.slice ra1 Rs1.length rc1).ownBlock := fun e => by have := (o1.lt _ e.symm).1; omega
      clear hag1 hch1 hfr1 hfh hsp1 hcp1
      go_wp2_with (at_builtin; refine wpList_append_lies _ rfl _ _ 58 rfl (ab + 1) 86 i0 (.slice none 0 0) 1 24 Tryz.underlying58 hi hz0 hz1 hz2 rfl (by decide) _ _ _ rfl (own_keep (o1.alloc _) (fun _ _ => rfl)) ⟨wr.heap.size + 1, 0, none⟩ 1 1 [.slice (some ⟨w.heap.size, 0, none⟩) (d.len + 1) (d.len + 1)] rfl rfl ?c1 ?c2 (by decide) ?c3 ?c4 ?c5 _ rfl ?_)
      case c1 => exact lst_cells ((wr.setCell ⟨w.heap.size, d.len, none⟩ (.slice (some ⟨wr.heap.size, 0, none⟩) 1 1)).alloc (.cells #[.string ⟨#[115, 112, 97, 114, 101]⟩, .bool false, .string ⟨#[]⟩, .slice none 0 0] 88)) _ _ _ (by simp)
      case c2 => exact row_oneL _ _ _
      case c3 => unfold maxLen; omega
      case c4 => omega
      case c5 => simp; omega
      intro g cap w3 hown3 hg3 hat3 hlt3
      have hsz3 : ((wr.setCell ⟨w.heap.size, d.len, none⟩ (.slice (some ⟨wr.heap.size, 0, none⟩) 1 1)).alloc (.cells #[.string ⟨#[115, 112, 97, 114, 101]⟩, .bool false, .string ⟨#[]⟩, .slice none 0 0] 88)).heap.size ≤ w3.heap.size := by have := hg3.size; simp at this ⊢; omega
      have hblk3 : ∀ q, q < ((wr.setCell ⟨w.heap.size, d.len, none⟩ (.slice (some ⟨wr.heap.size, 0, none⟩) 1 1)).alloc (.cells #[.string ⟨#[115, 112, 97, 114, 101]⟩, .bool false, .string ⟨#[]⟩, .slice none 0 0] 88)).heap.size → some q ≠ (Value.slice ra1 Rs1.length rc1).ownBlock → w3.heap[q]? = ((wr.setCell ⟨w.heap.size, d.len, none⟩ (.slice (some ⟨wr.heap.size, 0, none⟩) 1 1)).alloc (.cells #[.string ⟨#[115, 112, 97, 114, 101]⟩, .bool false, .string ⟨#[]⟩, .slice none 0 0] 88)).heap[q]? := fun q h1 h2 => (hg3.block q (by simp at h1 ⊢; omega) h2).trans (Below.heap_alloc _ _ _ h1)
      obtain ⟨hA4, hC4⟩ := ag_pushR (w := (wr.setCell ⟨w.heap.size, d.len, none⟩ (.slice (some ⟨wr.heap.size, 0, none⟩) 1 1)).alloc (.cells #[.string ⟨#[115, 112, 97, 114, 101]⟩, .bool false, .string ⟨#[]⟩, .slice none 0 0] 88)) (w1 := w3) (x := (w.heap.size, d.len, wr.heap.size)) HAG.out hg3.os hg3.tape hg3.output hsz3 hblk3 hown3 (by rcases hat3 with h1 | h1; exact .inl h1; right; simp; omega) HSP.out HFR.out HFH.out
      have hab3 := hblk3 ab (by simp; omega) hneA
      have v1 : w3.cell? ⟨ab, 1, none⟩ = some (.slice ra1 Rs1.length rc1) := (World.cell?_of_block hab3).trans HAG.out.c1
      have v2 : w3.frozen? ⟨ab, 1, none⟩ = false := (World.frozen?_of_block hab3).trans HAG.out.z1
      have HA4 := hidS hA4
      have HC4 := hidS hC4
      clear hown3 hg3 hat3 hA4 hC4 hblk3 hab3 o1 c1 z1 hneA u3 y3
      go_wp2
      go_ret
      refine ⟨w.heap.size, rfl, _, _, _, _, HA4.out, HCH.out.trans HC4.out, by simp; omega, ⟨HFR.out.step HC4.out, Nat.le_refl _⟩, ?_, fun x hx => ?_, fun x hx => ?_⟩
      · exact DatAtA.mono (fun q hq => hq.step HC4.out) (fun q hq => hq.same HC4.out) d _ 0 ⟨HFR.out, Nat.le_refl _⟩ (rows_all (fun j hj => (HCP.out j hj).wid (fun q hq => hq.mono (by omega))))
      · rcases HI.out.nF x hx with q | q
        · exact .inl q
        · right; omega
      · rcases List.mem_append.1 hx with q | q
        · rcases HI.out.nR x q with q | q
          · exact .inl q
          · right; omega
        · simp at q; subst q; right; simp; omega
theorem cpy_all (n : Nat) : RowC n ∧ LstC n := by
  induction n with
  | zero => exact ⟨fun d h => by omega, fun d h => by omega⟩
  | succ n ih => exact ⟨l28 n ih.2, l50 n ih.1⟩
end Go.Proofs.YtffkejkgkgfnhabGreat
namespace Go.Proofs.YtffkejkgkgfnhabGreat
open Go.RowKit
set_option linter.unusedVariables false
def SmC (n : Nat) : Prop := ∀ (d : Dat), d.bulk < n → d.ok false → d.bulk ≤ 1048576 → ∀ (w : World) (a1 a2 : Option Addr) (c1 c2 : Nat), DatV w w.heap.size a1 d → DatV w w.heap.size a2 d →
  Calls Tryz.prog 28 #[.agg #[.slice a1 d.len c1], .agg #[.slice a2 d.len c2]] w fun e w' => e = .returned (.bool true) ∧ Below w.heap.size w w'
set_option maxRecDepth 100000 in
set_option maxHeartbeats 4000000 in
theorem l31 (n : Nat) (hS : SmC n) : SmC (n + 1) := by
  intro d hdn hok hbk w a1 a2 c1 c2 hV1 hV2
  have hl : d.len ≤ 1048576 := Nat.le_trans (Dat.len_bulk _) hbk
  have HS := hidS hS
  have HV1 := hidS hV1
  have HV2 := hidS hV2
  have HO := hidS hok
  clear hS hV1 hV2 hok
  go_enter Tryz.func28, Tryz.ntmps28
  go_wp2
  have p1 : ((w.alloc (.cells #[.slice a1 d.len c1] 31)).alloc (.cells #[.slice a2 d.len c2] 31)).cell? ⟨w.heap.size, 0, none⟩ = some (.slice a1 d.len c1) := by rw [World.cell?_alloc_lt _ _ _ (by simp)]; simp
  have p2 : ((w.alloc (.cells #[.slice a1 d.len c1] 31)).alloc (.cells #[.slice a2 d.len c2] 31)).cell? ⟨w.heap.size + 1, 0, none⟩ = some (.slice a2 d.len c2) := cellNew _ _ 0 _ _ (by simp)
  have HB2 : Hid (Below w.heap.size w ((w.alloc (.cells #[.slice a1 d.len c1] 31)).alloc (.cells #[.slice a2 d.len c2] 31))) := ((Below.refl _ _).alloc (Nat.le_refl _) _).alloc (by simp) _
  have hz2 : ((w.alloc (.cells #[.slice a1 d.len c1] 31)).alloc (.cells #[.slice a2 d.len c2] 31)).heap.size = w.heap.size + 2 := by simp
  generalize (w.alloc (.cells #[.slice a1 d.len c1] 31)).alloc (.cells #[.slice a2 d.len c2] 31) = w2 at *
  have HZ2 := hidS hz2
  clear hz2
  go_loopw [5, 6, 7, 8, 9] (fun iv _ _ _ _ wr => ∃ (k : Nat), k ≤ d.len ∧ iv = .int .i64 k ∧ Hid (Below w2.heap.size w2 wr)) (fun iv _ _ _ _ _ => d.len - (intOf iv).toNat)
  case atStart => exact ⟨0, Nat.zero_le _, rfl, Below.refl _ _⟩
  case round =>
    obtain ⟨k, hk, rfl, HB⟩ := hrel
    have hzr := HB.out.size
    have hz2 := HZ2.out
    have q1 : wr.cell? ⟨w.heap.size, 0, none⟩ = some (.slice a1 d.len c1) := (HB.out.cell (p := ⟨w.heap.size, 0, none⟩) (by show w.heap.size < _; omega)).trans p1
    have q2 : wr.cell? ⟨w.heap.size + 1, 0, none⟩ = some (.slice a2 d.len c2) := (HB.out.cell (p := ⟨w.heap.size + 1, 0, none⟩) (by show w.heap.size + 1 < _; omega)).trans p2
    have HBw : Hid (Below w.heap.size w wr) := HB2.out.trans (HB.out.mono (by omega))
    have hzw : w.heap.size + 2 ≤ wr.heap.size := by omega
    clear hz2 hzr
    by_cases hlt : k < d.len
    · rcases DatV.below HV1.out HBw.out with h0 | ⟨b1, o1, ha1, hb1, hat1⟩
      · omega
      rcases DatV.below HV2.out HBw.out with h0 | ⟨b2, o2, ha2, hb2, hat2⟩
      · omega
      subst ha1 ha2
      obtain ⟨nm, li, tx, rows, e1, ho1, hbd1, s0, s1, s2, ra1, rc1, s3, l1, l2, hr1⟩ := DatAt.field d b1 o1 k HO.out hlt hat1
      obtain ⟨nm', li', tx', rows', e1', _, _, t0, t1, t2, ra2, rc2, t3, m1, m2, hr2⟩ := DatAt.field d b2 o2 k HO.out hlt hat2
      rw [e1] at e1'
      cases e1'
      clear hat1 hat2 e1
      have HR1 := hidS hr1
      have HR2 := hidS hr2
      have HO1 := hidS ho1
      have hrb : rows.bulk < n := by omega
      have hrl : rows.len ≤ 1048576 := Nat.le_trans (Dat.len_bulk _) (by omega)
      have hb1' : b1 < wr.heap.size := by omega
      have hb2' : b2 < wr.heap.size := by omega
      clear hr1 hr2 ho1
      have hzA : w.heap.size < wr.heap.size := by omega
      have hzB : w.heap.size + 1 < wr.heap.size := by omega
      generalize hrr : rows.len = rl at *
      have HRL := hidS hrr
      clear hrr
      generalize wr = w4 at *
      go_wp2
      have x1 : ((w4.alloc (.cells #[.string nm, .bool li, .string tx, .slice ra1 rl rc1] 88)).alloc (.cells #[.string nm, .bool li, .string tx, .slice ra2 rl rc2] 88)).cell? ⟨w4.heap.size, 3, none⟩ = some (.slice ra1 rl rc1) := by rw [World.cell?_alloc_lt _ _ _ (by simp)]; simp
      have x2 : ((w4.alloc (.cells #[.string nm, .bool li, .string tx, .slice ra1 rl rc1] 88)).alloc (.cells #[.string nm, .bool li, .string tx, .slice ra2 rl rc2] 88)).cell? ⟨w4.heap.size + 1, 3, none⟩ = some (.slice ra2 rl rc2) := cellNew _ _ 3 _ _ (by simp)
      have HBA : Hid (Below w4.heap.size w4 ((w4.alloc (.cells #[.string nm, .bool li, .string tx, .slice ra1 rl rc1] 88)).alloc (.cells #[.string nm, .bool li, .string tx, .slice ra2 rl rc2] 88))) := ((Below.refl _ _).alloc (Nat.le_refl _) _).alloc (by simp) _
      have hzC : ((w4.alloc (.cells #[.string nm, .bool li, .string tx, .slice ra1 rl rc1] 88)).alloc (.cells #[.string nm, .bool li, .string tx, .slice ra2 rl rc2] 88)).heap.size = w4.heap.size + 2 := by simp
      generalize (w4.alloc (.cells #[.string nm, .bool li, .string tx, .slice ra1 rl rc1] 88)).alloc (.cells #[.string nm, .bool li, .string tx, .slice ra2 rl rc2] 88) = w5 at *
      have HZC := hidS hzC
      clear hzC s0 s1 s2 s3 t0 t1 t2 t3
      go_loopw [8, 9] (fun jv _ wr => ∃ (j : Nat), j ≤ rl ∧ jv = .int .i64 j ∧ Hid (Below w5.heap.size w5 wr)) (fun jv _ _ => rl - (intOf jv).toNat)
      case atStart => exact ⟨0, Nat.zero_le _, rfl, Below.refl _ _⟩
      case round =>
        obtain ⟨j, hj, rfl, HBI⟩ := hrel
        have hz5 := HZC.out
        have hzr := HBI.out.size
        have y1 : wr.cell? ⟨w4.heap.size, 3, none⟩ = some (.slice ra1 rl rc1) := (HBI.out.cell (p := ⟨w4.heap.size, 3, none⟩) (by show w4.heap.size < _; omega)).trans x1
        have y2 : wr.cell? ⟨w4.heap.size + 1, 3, none⟩ = some (.slice ra2 rl rc2) := (HBI.out.cell (p := ⟨w4.heap.size + 1, 3, none⟩) (by show w4.heap.size + 1 < _; omega)).trans x2
        have HBX : Hid (Below w4.heap.size w4 wr) := HBA.out.trans (HBI.out.mono (by omega))
        have hzX : w4.heap.size + 2 ≤ wr.heap.size := by omega
        clear hz5 hzr
        by_cases hjl : j < rl
        · have hw4 : w.heap.size ≤ w4.heap.size := by omega
          have hrv1 := DatVA.mono HR1.out (fun _ q => q) (fun q hq => HBX.out.block q (Nat.lt_of_lt_of_le hq hw4))
          have hrv2 := DatVA.mono HR2.out (fun _ q => q) (fun q hq => HBX.out.block q (Nat.lt_of_lt_of_le hq hw4))
          rcases hrv1 with h0 | ⟨g1, f1, hg1, hgl1, gat1⟩
          · rw [HRL.out] at h0; omega
          rcases hrv2 with h0 | ⟨g2, f2, hg2, hgl2, gat2⟩
          · rw [HRL.out] at h0; omega
          subst hg1 hg2
          obtain ⟨f, e2, ho2, hbd2, fa1, fc1, v1, _, _, hf1⟩ := DatAt.rowAt rows g1 f1 j HO1.out (by rw [HRL.out]; exact hjl) gat1
          obtain ⟨f', e2', _, _, fa2, fc2, v2, _, _, hf2⟩ := DatAt.rowAt rows g2 f2 j HO1.out (by rw [HRL.out]; exact hjl) gat2
          rw [e2] at e2'
          cases e2'
          have hwr : w.heap.size ≤ wr.heap.size := by omega
          have Hc := hidS (HS.out f (by omega) ho2 (by omega) wr.drew fa1 fa2 fc1 fc2 (DatVA.mono (w' := wr.drew) (A' := fun k => k < wr.drew.heap.size) hf1 (fun q hq => Nat.lt_of_lt_of_le hq hwr) (fun _ _ => rfl)) (DatVA.mono (w' := wr.drew) (A' := fun k => k < wr.drew.heap.size) hf2 (fun q hq => Nat.lt_of_lt_of_le hq hwr) (fun _ _ => rfl)))
          clear hf1 hf2 gat1 gat2 e2 ho2 hbd2
          generalize f.len = fl at *
          go_wp2_with fail
          go_region_with (first | (go_at_call 28; refine Hc.out.mono ?_; rintro e w6 ⟨rfl, hb6⟩))
          go_wp2
          all_goals exact ⟨⟨j + 1, by omega, by go_num, (HBI.out.trans ((below_drew wr).mono HBI.out.size)).trans (hb6.mono HBI.out.size)⟩, by simp [intOf]; omega⟩
        · have HBY : Hid (Below w2.heap.size w2 wr) := HB.out.trans (HBX.out.mono HB.out.size)
          go_wp2
          exact ⟨⟨k + 1, by omega, by go_num, HBY.out⟩, by simp [intOf]; omega⟩
    · go_wp2
      go_ret
      exact ⟨rfl, HBw.out⟩
theorem sm_all (n : Nat) : SmC n := by
  induction n with
  | zero => exact fun d h => by omega
  | succ n ih => exact l31 n ih
end Go.Proofs.YtffkejkgkgfnhabGreat
namespace Go.Proofs.YtffkejkgkgfnhabGreat
open Go.RowKit
set_option linter.unusedVariables false
theorem own_elem {w : World} {B ty n i : Nat} {v u : Value} {xs : List Value} (h : w.ownsRow B ty 1 v n xs) (hi : xs[i]? = some u) (hn : i < n) : ∃ g c, v = .slice (some ⟨g, 0, none⟩) n c ∧ w.cell? ⟨g, i, none⟩ = some u ∧ g < w.heap.size := by
  have hlt := h.lt
  rcases h.2 with ⟨_, h0⟩ | ⟨g, cap, cur, hv, hb, hg, hn', hm, hs, ht⟩
  · omega
  · refine ⟨g, cap, hv, ?_, (hlt g (by rw [hv]; rfl)).2⟩
    rw [cell_of_heap hg, ← hi, ← ht, List.getElem?_take_of_lt (by omega)]
    simp
theorem AgOK.fldAt {w : World} {ab : Nat} {fv rv : Value} {Fs : List (Nat × Nat)} {Rs : List (Nat × Nat × Nat)} (h : AgOK w ab fv rv Fs Rs) (i : Nat) (hi : i < Fs.length) : ∃ g c x, fv = .slice (some ⟨g, 0, none⟩) Fs.length c ∧ w.cell? ⟨g, i, none⟩ = some (slF x) ∧ g < w.heap.size ∧ SpF w x ∧ x.1 < w.heap.size := by
  obtain ⟨g, c, e1, e2, e3⟩ := own_elem h.o0 (u := slF Fs[i]) (by simp [List.getElem?_map, List.getElem?_eq_getElem hi]) hi
  have := h.sF Fs[i] (List.getElem_mem hi)
  exact ⟨g, c, Fs[i], e1, e2, e3, this.1, this.2.hi⟩
theorem AgOK.rowAt {w : World} {ab : Nat} {fv rv : Value} {Fs : List (Nat × Nat)} {Rs : List (Nat × Nat × Nat)} (h : AgOK w ab fv rv Fs Rs) (i : Nat) (hi : i < Rs.length) : ∃ g c x, rv = .slice (some ⟨g, 0, none⟩) Rs.length c ∧ w.cell? ⟨g, i, none⟩ = some (slR x) ∧ g < w.heap.size ∧ SpR w x ∧ x.1 < w.heap.size ∧ x.2.2 < w.heap.size := by
  obtain ⟨g, c, e1, e2, e3⟩ := own_elem h.o1 (u := slR Rs[i]) (by simp [List.getElem?_map, List.getElem?_eq_getElem hi]) hi
  have := h.sR Rs[i] (List.getElem_mem hi)
  exact ⟨g, c, Rs[i], e1, e2, e3, this.1, this.2.1.hi, this.2.2.hi⟩
set_option maxRecDepth 100000 in
set_option maxHeartbeats 4000000 in
theorem l32 (w : World) (ab : Nat) (fv rv : Value) (Fs : List (Nat × Nat)) (Rs : List (Nat × Nat × Nat)) (h : AgOK w ab fv rv Fs Rs) (hF : Fs.length ≤ 4000000) (hR : Rs.length ≤ 4000000) :
    Calls Tryz.prog 29 #[.pointer (some ⟨ab, 0, none⟩)] w fun e w' => e = .returned (.bool true) ∧ Below w.heap.size w w' := by
  have hspr : sprB.toList = [115, 112, 97, 114, 101] := by rw [ByteArray.toList_eq]; rfl
  obtain ⟨fa, fc, rfl⟩ := ownT_form h.o0
  obtain ⟨ra, rc, rfl⟩ := ownT_form h.o1
  have HA := hidS h
  have hab := h.lt
  clear h
  go_enter Tryz.func29, Tryz.ntmps29
  go_wp2
  go_loopw [3, 4] (fun iv _ wr => ∃ (k : Nat), k ≤ Fs.length ∧ iv = .int .i64 k ∧ Hid (Below w.heap.size w wr)) (fun iv _ _ => Fs.length - (intOf iv).toNat)
  case atStart => exact ⟨0, Nat.zero_le _, rfl, Below.refl _ _⟩
  case round =>
    obtain ⟨k, hk, rfl, HB⟩ := hrel
    have hA := HA.out.below HB.out.block HB.out.size
    have c0 := hA.c0
    have c1 := hA.c1
    have hpl := hA.lt
    by_cases hlt : k < Fs.length
    · obtain ⟨g, c, x, e1, e2, e3, ⟨s0, s1, s2, s3, s4⟩, e5⟩ := hA.fldAt k hlt
      simp at e1
      obtain ⟨rfl, rfl⟩ := e1
      obtain ⟨xb, xn⟩ := x
      simp only [slF] at e2 s0 s1 s2 s3 s4 e5
      have hx1 : ((xn : Int) + 1 - 1) = (xn : Int) := by omega
      have hx2 : (xn : Int) < (xn : Int) + 1 := by omega
      clear hA c1
      go_wp2
      go_region
      go_wp2
      exact ⟨⟨k + 1, by omega, by go_num, (HB.out.alloc HB.out.size _).trans ((below_drew _).mono (by simp; have := HB.out.size; omega))⟩, by simp [intOf]; omega⟩
    · clear hA
      generalize wr = w4 at *
      go_wp2
      clear c0
      go_loopw [5, 6] (fun iv _ wr => ∃ (k : Nat), k ≤ Rs.length ∧ iv = .int .i64 k ∧ Hid (Below w.heap.size w wr)) (fun iv _ _ => Rs.length - (intOf iv).toNat)
      case atStart => exact ⟨0, Nat.zero_le _, rfl, HB.out⟩
      case round =>
        clear HB c1 hpl
        obtain ⟨j, hj, rfl, HB⟩ := hrel
        have hA := HA.out.below HB.out.block HB.out.size
        have c1 := hA.c1
        have hpl := hA.lt
        by_cases hlt2 : j < Rs.length
        · obtain ⟨g, c, x, e1, e2, e3, ⟨s0, s1, s2⟩, e5, e6⟩ := hA.rowAt j hlt2
          simp at e1
          obtain ⟨rfl, rfl⟩ := e1
          obtain ⟨xb, xn, xh⟩ := x
          simp only [slR] at e2 s0 s1 s2 e5 e6
          have hx1 : ((xn : Int) + 1 - 1) = (xn : Int) := by omega
          have hx2 : (xn : Int) < (xn : Int) + 1 := by omega
          clear hA
          go_wp2
          go_region
          go_wp2
          exact ⟨⟨j + 1, by omega, by go_num, (HB.out.alloc HB.out.size _).trans ((below_drew _).mono (by simp; have := HB.out.size; omega))⟩, by simp [intOf]; omega⟩
        · go_wp2
          go_ret
          exact ⟨rfl, HB.out⟩
end Go.Proofs.YtffkejkgkgfnhabGreat
