import Derived.Test.YtffkejkgkgfnhabGreatG36
import Derived.Test.YtffkejkgkgfnhabGreatG16
namespace Go.Proofs.YtffkejkgkgfnhabGreat
open Go.RowKit
set_option linter.unusedVariables false
theorem not_ty {o : Option Obj} {cs : Array Value} {ty : Nat} {fr : Nat × Nat} (h : o = some (.cells cs ty fr)) (h1 : ty ≠ 31) (h2 : ty ≠ 5) : ¬ tyIn o := by
  rintro ⟨cur, fr', q | q⟩
  · rw [h] at q; simp at q; exact h1 q.2.1
  · rw [h] at q; simp at q; exact h2 q.2.1
/-- a row more -/
theorem WrC.push {w w1 : World} {p : WrP} {ra oa a1 : Option Addr} {rc oc c1 g cap : Nat} {R : List Dat} {s : Pst} {f : Dat} {xs : List Value} (hP : WrC w p ra rc oa oc R s) (hE : EnvQ w p.N R xs) (o1 : w.ownsRow p.N 31 1 (.slice ra R.length rc) R.length xs) (hos : w1.os = w.os) (htp : w1.tape = w.tape) (hou : w1.output = w.output) (hsz : w.heap.size ≤ w1.heap.size)
    (hblk : ∀ k, k < w.heap.size → some k ≠ (Value.slice ra R.length rc).ownBlock → w1.heap[k]? = w.heap[k]?) (hown : w1.ownsRow p.N 31 1 (.slice (some ⟨g, 0, none⟩) (R.length + 1) cap) (R.length + 1) (xs ++ [.slice a1 f.len c1]))
    (hgp : g ≠ p.pb) (hV : DatV w p.N a1 f) (hok : f.ok false) (hbk : f.fits) (hl : f.len ≤ c1) (hc : c1 ≤ maxLen) :
    WrC (w1.setCell ⟨p.pb, 1, none⟩ (.slice (some ⟨g, 0, none⟩) (R.length + 1) cap)) p (some ⟨g, 0, none⟩) cap oa oc (R ++ [f]) s ∧ ChW p w (w1.setCell ⟨p.pb, 1, none⟩ (.slice (some ⟨g, 0, none⟩) (R.length + 1) cap)) := by
  obtain ⟨c0, c1', c2, c3, c4, f1, f2, f3, f4, _, neR, oO, lt, acts, glt, le, alen, ale, acm, fit, ctx⟩ := hP
  have hpb : w1.heap[p.pb]? = w.heap[p.pb]? := hblk p.pb lt (fun e => neR e.symm)
  have hlow : ∀ k, k < p.N → w1.heap[k]? = w.heap[k]? := fun k hk => hblk k (by omega) (fun e => by have := (o1.lt _ e.symm).1; omega)
  have hh : ∀ k, k < p.N → (w1.setCell ⟨p.pb, 1, none⟩ (.slice (some ⟨g, 0, none⟩) (R.length + 1) cap)).heap[k]? = w.heap[k]? := fun k hk => (set_far w1 _ _ _ k (by omega)).trans (hlow k hk)
  have eL : (R ++ [f]).length = R.length + 1 := by simp
  have cc : ∀ {j v}, w.cell? ⟨p.pb, j, none⟩ = some v → j ≠ 1 → (w1.setCell ⟨p.pb, 1, none⟩ (.slice (some ⟨g, 0, none⟩) (R.length + 1) cap)).cell? ⟨p.pb, j, none⟩ = some v := fun h hj => (cellO w1 _ _ _ _ (Ne.symm hj)).trans ((World.cell?_of_block hpb).trans h)
  have ff : ∀ {j}, w.frozen? ⟨p.pb, j, none⟩ = false → (w1.setCell ⟨p.pb, 1, none⟩ (.slice (some ⟨g, 0, none⟩) (R.length + 1) cap)).frozen? ⟨p.pb, j, none⟩ = false := fun h => by
    have := (World.frozen?_of_block hpb).trans h
    simpa using this
  constructor
  · refine ⟨cc c0 (by decide), ?_, cc c2 (by decide), cc c3 (by decide), cc c4 (by decide), ff f1, ff f2, ff f3, ff f4, ⟨xs ++ [.slice a1 f.len c1], ?_, ?_⟩, (by simp [Value.ownBlock]; exact hgp), ?_, by simp; omega, acts.far (hh p.g glt), glt, le, alen, ale, acm, fit, ctx⟩
    · rw [eL]; exact cellS _ ((World.cell?_of_block hpb).trans c1')
    · rw [eL]; exact own_keep hown (fun k hk => set_far w1 _ _ _ k (fun e => by simp [Value.ownBlock] at hk; omega))
    · exact EnvQ.snoc (hV.mono (Nat.le_refl _) hh) hok hbk hl hc R xs (EnvQ.mono hh R xs hE)
    · exact own_keep oO (fun k hk => (set_far w1 _ _ _ k (by have := (oO.lt k hk).1; omega)).trans (hblk k (oO.lt k hk).2 (fun e => own_apart o1 oO k e.symm hk)))
  · refine ⟨hos, htp, hou, by simpa using hsz, fun k h1 h2 h3 => (set_far w1 _ _ _ k h2).trans (hblk k h1 (fun e => ?_))⟩
    rcases h3 with h3 | h3
    · have := (o1.lt k e.symm).1; omega
    · obtain ⟨cur, q⟩ := ownO_ty o1 e.symm
      exact h3 ⟨cur, _, .inl q⟩
/-- a row fewer -/
theorem WrC.pop {w : World} {p : WrP} {ra oa : Option Addr} {rc oc : Nat} {R : List Dat} {s : Pst} {f : Dat} (hP : WrC w p ra rc oa oc (R ++ [f]) s) : WrC (w.setCell ⟨p.pb, 1, none⟩ (.slice ra R.length rc)) p ra rc oa oc R s := by
  obtain ⟨c0, c1', c2, c3, c4, f1, f2, f3, f4, ⟨xs, o1, o2⟩, neR, oO, lt, acts, glt, le, alen, ale, acm, fit, ctx⟩ := hP
  have eL : (R ++ [f]).length = R.length + 1 := by simp
  have ob : (Value.slice ra R.length rc).ownBlock = (Value.slice ra (R ++ [f]).length rc).ownBlock := by cases ra <;> rfl
  have cc : ∀ {j v}, w.cell? ⟨p.pb, j, none⟩ = some v → j ≠ 1 → (w.setCell ⟨p.pb, 1, none⟩ (.slice ra R.length rc)).cell? ⟨p.pb, j, none⟩ = some v := fun h hj => (cellO w _ _ _ _ (Ne.symm hj)).trans h
  have fr : ∀ k, k ≠ p.pb → (w.setCell ⟨p.pb, 1, none⟩ (.slice ra R.length rc)).heap[k]? = w.heap[k]? := fun k hk => set_far w _ _ _ k hk
  refine ⟨cc c0 (by decide), cellS _ c1', cc c2 (by decide), cc c3 (by decide), cc c4 (by decide), by simpa using f1, by simpa using f2, by simpa using f3, by simpa using f4, ⟨xs.take R.length, ?_, ?_⟩, (by rw [ob]; exact neR), own_keep oO (fun k hk => fr k (by have := (oO.lt k hk).1; omega)), by simpa using lt, acts.far (fr p.g (by omega)), glt, le, alen, ale, acm, fit, ctx⟩
  · have o1' : w.ownsRow p.N 31 1 (.slice ra R.length rc) R.length (xs.take R.length) := by
      refine ⟨?_, ?_⟩
      · have := o1.1; rw [eL] at this; simp [this]
      · rcases o1.2 with ⟨_, h0⟩ | ⟨g, cap, cur, hv, hb, hg, hn, hm, hs, ht⟩
        · rw [eL] at h0; omega
        · rw [eL] at hv hn ht
          simp at hv
          obtain ⟨rfl, rfl⟩ := hv
          refine .inr ⟨g, rc, cur, rfl, hb, hg, by omega, hm, hs, ?_⟩
          rw [← ht, List.take_take]
          congr 1
          omega
    exact own_keep o1' (fun k hk => fr k (fun e => neR (by rw [← ob, hk, e])))
  · exact EnvQ.mono (fun k hk => fr k (by omega)) R _ (EnvQ.front R xs o2)
set_option maxRecDepth 100000 in
set_option maxHeartbeats 1000000 in
theorem b135 (w : World) (p : WrP) (ra oa : Option Addr) (rc oc : Nat) (R : List Dat) (f : Dat) (s : Pst) (hR : R.length ≤ 1000) (h : WrC w p ra rc oa oc (R ++ [f]) s) :
   Calls Tryz.prog 131 #[.pointer (some ⟨p.pb, 0, none⟩)] w fun e w' => e = .returned (.tuple #[]) ∧ w' = w.setCell ⟨p.pb, 1, none⟩ (.slice ra R.length rc) := by
  obtain ⟨g, rfl, hrc, _⟩ := h.rowAt R.length (by simp)
  have hrm : rc ≤ maxLen := by
    obtain ⟨xs, o1, _⟩ := h.ownR
    rcases o1.2 with ⟨h0, _⟩ | ⟨g', cap, cur, hv, _, _, _, hm, _⟩
    · cases h0
    · simp at hv; omega
  have c1 := h.c1
  have f1 := h.f1
  have hlt := h.lt
  have eL : (R ++ [f]).length = R.length + 1 := by simp
  rw [eL] at c1 hrc
  clear h eL
  unfold maxLen at hrm
  go_enter Tryz.func131, Tryz.ntmps131
  go_wp2
  go_end0
  exact ⟨rfl, rfl⟩
structure SrcW (s : ByteArray) (A : List Ak) (ts : List Tm) : Prop where
  sz : s.size ≤ 400
  call : ∀ (i : Nat) (hi : i < A.length), A[i].kind = 8 → hitB A[i].name A = true ∧ BodAt s A (idxA A[i].name A 0 + 1) (bod ts (tno ts A[i].name))
def BodW (n : Nat) : Prop := ∀ (w : World) (p : WrP) (ts : List Tm) (R : List Dat) (st : Pst) (i : Nat) (b : Nds), 500 ≤ st.steps + n → R.length ≤ st.steps + 1 → SrcW p.s p.A ts → BodAt p.s p.A i b → st.err = 0 → WrOK w p R st →
  Calls Tryz.prog 74 #[.pointer (some ⟨p.pb, 0, none⟩), .int .i64 i] w (WrPost p R (pagF ts true n b R st) w)
theorem BodAt.lt {s : ByteArray} {A : List Ak} {i : Nat} {b : Nds} (h : BodAt s A i b) : i < A.length := by
  obtain ⟨pre, B, rest, t, d, e, hA, rfl, _⟩ := h
  rw [hA]; simp; omega
set_option maxRecDepth 100000 in
set_option maxHeartbeats 4000000 in
theorem b123 (m : Nat) (hB : BodW m) (w : World) (p : WrP) (ts : List Tm) (R : List Dat) (st : Pst) (i : Nat) (b : Nds) (n t : ByteArray) (l : Bool) (rows : Dat) (fa : Option Addr) (fc : Nat)
   (hm : 500 ≤ st.steps + m) (hR : R.length ≤ st.steps + 1) (hS : SrcW p.s p.A ts) (hb : BodAt p.s p.A i b) (he : st.err = 0)
   (hV : DatV w p.N fa rows) (hok : rows.ok true) (hbk : rows.fits) (hlc : rows.len ≤ fc) (hfc : fc ≤ maxLen) (h : WrOK w p R st) :
   Calls Tryz.prog 119 #[.pointer (some ⟨p.pb, 0, none⟩), .int .i64 i, .agg #[.string n, .bool l, .string t, .slice fa rows.len fc]] w (WrPost p R (lpsF (pagF ts true m) b R l rows st) w) := by
  obtain ⟨i0, hi, hz0, hz1, hzz⟩ := info_parts infoRow
  have hrl : rows.len ≤ maxLen := Nat.le_trans hlc hfc
  unfold maxLen at hrl
  have hil := hb.lt
  have hpl : p.pb < w.heap.size := by obtain ⟨_, _, _, _, hC⟩ := h; exact hC.lt
  have hal : p.A.length ≤ 1000 := by obtain ⟨_, _, _, _, hC⟩ := h; exact hC.alen
  have hNl : p.N ≤ p.pb := by obtain ⟨_, _, _, _, hC⟩ := h; exact hC.le
  have HW0 : Hid (WrOK (w.alloc (.cells #[.string n, .bool l, .string t, .slice fa rows.len fc] 88)) p R st) := by
    obtain ⟨ra, rc, oa, oc, hC⟩ := h
    exact ⟨ra, rc, oa, oc, hC.alloc _⟩
  clear h
  unfold maxLen at hfc
  cases l
  · have HE : Hid (lpsF (pagF ts true m) b R false rows st = { st with err := 8 }) := rfl
    clear hS hV hok hbk hb
    generalize rows.len = rl at *
    go_enter Tryz.func119, Tryz.ntmps119
    go_wp2
    go_ret
    exact wr_stop 8 (by rw [HE.out]) (by decide) ((ChW.refl _ _).alloc _)
  · have HE : Hid (lpsF (pagF ts true m) b R true rows st = lopF (pagF ts true m) b R rows st) := rfl
    have HB := hidS hB
    have HS := hidS hS
    have HBA := hidS hb
    have HV := hidS hV
    have HO := hidS hok
    have HBK := hidS hbk
    have HFB : Hid ((w.alloc (.cells #[.string n, .bool true, .string t, .slice fa rows.len fc] 88)).heap[w.heap.size]? = some (.cells #[.string n, .bool true, .string t, .slice fa rows.len fc] 88)) := heap_new _ _
    clear hB hS hb hV hok hbk
    go_enter Tryz.func119, Tryz.ntmps119
    go_wp2
    go_loopw [7, 8] (fun rv _ wr => ∃ (k : Nat) (s1 : Pst), k ≤ rows.len ∧ rv = .int .i64 k ∧ s1.err = 0 ∧ st.steps ≤ s1.steps ∧ w.heap.size < wr.heap.size ∧ Hid (WrOK wr p R s1) ∧ Hid (lopF (pagF ts true m) b R rows st = lopF (pagF ts true m) b R (rows.drop k) s1) ∧ Hid (ChW p w wr) ∧
      Hid (wr.heap[w.heap.size]? = some (.cells #[.string n, .bool true, .string t, .slice fa rows.len fc] 88))) (fun rv _ _ => rows.len - (intOf rv).toNat)
    case atStart => exact ⟨0, st, Nat.zero_le _, rfl, he, Nat.le_refl _, by simp, HW0.out, by rw [Dat.drop_zero]; exact rfl, (ChW.refl _ _).alloc _, HFB.out⟩
    case round =>
      clear HW0 HFB
      obtain ⟨k, s1, hk, rfl, he1, hst, hzw, HW, HF, HC, HFB⟩ := hrel
      have fcell : wr.cell? ⟨w.heap.size, 3, none⟩ = some (.slice fa rows.len fc) := cell_of_heap HFB.out
      obtain ⟨ra, rc, oa, oc, hC⟩ := HW.out
      have hp1 := hC.lt
      have c1 := hC.c1
      have c4 := hC.c4
      have f4 := hC.f4
      have hfit1 := hC.fit.2
      by_cases hlt2 : k < rows.len
      · have hV1 := HV.out.mono (Nat.le_refl _) (HC.out.low hpl hNl)
        rcases hV1 with h0 | ⟨fb, fo, rfl, hfbl, hat⟩
        · omega
        obtain ⟨f, e1, ho1, hb1, a1, c1', k0, k1, k2, k3⟩ := DatAt.rowAt rows fb fo k HO.out hlt2 hat
        have HLS := hidS (lopF_at (B := pagF ts true m) (th := b) (R := R) e1 s1)
        have HK3 := hidS k3
        have HO1 := hidS ho1
        have HB1 : Hid f.fits := by
          have q := Dat.fits_drop rows k HBK.out
          rw [e1] at q
          exact q.1
        clear hat k3 ho1 hb1 e1
        by_cases hst5 : s1.steps < 500
        · have Hst := hidS (b118 wr p.pb s1.steps hst5 c4 f4)
          have hC2 := hC.step hst5
          go_wp2_with (go_at_call 114; refine Hst.out.mono ?_; rintro e w' ⟨rfl, hw⟩; obtain rfl := hw.symm)
          have fcell2 : (wr.setCell ⟨p.pb, 4, none⟩ (.int .i64 (s1.steps + 1))).cell? ⟨w.heap.size, 3, none⟩ = some (.slice (some ⟨fb, fo, none⟩) rows.len fc) := (cellF wr _ _ _ _ _ (by omega)).trans fcell
          have k02 : (wr.setCell ⟨p.pb, 4, none⟩ (.int .i64 (s1.steps + 1))).cell? ⟨fb, fo + k, none⟩ = some (.slice a1 f.len c1') := (cellF wr _ _ _ _ _ (by omega)).trans k0
          have hz2 : w.heap.size < (wr.setCell ⟨p.pb, 4, none⟩ (.int .i64 (s1.steps + 1))).heap.size := by simpa using hzw
          have hfb2 : fb < (wr.setCell ⟨p.pb, 4, none⟩ (.int .i64 (s1.steps + 1))).heap.size := by simp; omega
          have HC2 : Hid (ChW p w (wr.setCell ⟨p.pb, 4, none⟩ (.int .i64 (s1.steps + 1)))) := HC.out.set 4 _
          have HFB2 : Hid ((wr.setCell ⟨p.pb, 4, none⟩ (.int .i64 (s1.steps + 1))).heap[w.heap.size]? = some (.cells #[.string n, .bool true, .string t, .slice (some ⟨fb, fo, none⟩) rows.len fc] 88)) := (set_far wr _ _ _ _ (by omega)).trans HFB.out
          have HKV : Hid (DatV (wr.setCell ⟨p.pb, 4, none⟩ (.int .i64 (s1.steps + 1))) p.N a1 f) := DatV.mono HK3.out (Nat.le_refl _) (fun q hq => set_far wr _ _ _ q (by omega))
          generalize wr.setCell ⟨p.pb, 4, none⟩ (.int .i64 (s1.steps + 1)) = w2 at *
          clear Hst hw c1 c4 f4 k0 fcell hC HC HFB HK3
          have c1 := hC2.c1
          have f1 := hC2.f1
          have hp2 := hC2.lt
          obtain ⟨xs, o1, o2⟩ := hC2.ownR
          have HE2 := hidS o2
          have HO2 := hidS o1
          have HWC2 := hidS hC2
          have hRl : R.length ≤ 1000 := by omega
          have hneP : some p.pb ≠ (Value.slice ra R.length rc).ownBlock := fun e => hC2.neR e.symm
          generalize hfl : f.len = fln at *
          have HFL := hidS hfl
          clear hC2 o2 hfl
          go_region_law (refine step_append_lies _ rfl _ _ 86 rfl p.N 31 i0 (.agg #[.slice none 0 0]) 1 24 Tryz.underlying86 hi hz0 hz1 hzz rfl (by decide) _ _ _ rfl (by first | exact own_keep (o1.alloc _) (fun _ _ => rfl) | exact own_keep o1 (fun _ _ => rfl)) ⟨w2.heap.size, 0, none⟩ 1 1 [.slice a1 fln c1'] rfl rfl (by exact row_cells w2 _ _ _) (row_one _ _ _) (by decide) (by unfold maxLen; omega) (by omega) (by simp; omega) _ rfl ?_; intro g cap w3 hown3 hg3 hat3 hlt3; have hbk : w3.heap[p.pb]? = w2.heap[p.pb]? := (hg3.block p.pb (by simp; omega) hneP).trans (Below.heap_alloc _ _ _ hp2); have q1 : w3.cell? ⟨p.pb, 1, none⟩ = some (.slice ra R.length rc) := (World.cell?_of_block hbk).trans c1; have p1 : w3.frozen? ⟨p.pb, 1, none⟩ = false := (World.frozen?_of_block hbk).trans f1)
          all_goals
            have hgp : g ≠ p.pb := by
              rcases hat3 with h1 | h1
              · intro e; subst e; exact hneP h1.symm
              · simp at h1; omega
            have hown4 : w3.ownsRow p.N 31 1 (.slice (some ⟨g, 0, none⟩) (R.length + 1) cap) (R.length + 1) (xs ++ [.slice a1 f.len c1']) := by rw [HFL.out]; exact hown3
            have hsz3 : w2.heap.size ≤ w3.heap.size := by have := hg3.size; simp at this; omega
            have hpp := WrC.push (w := w2) (w1 := w3) (f := f) HWC2.out HE2.out HO2.out hg3.os hg3.tape hg3.output hsz3 (fun j h1 h2 => (hg3.block j (by simp; omega) h2).trans (Below.heap_alloc _ _ _ h1)) hown4 hgp HKV.out HO1.out HB1.out (by rw [HFL.out]; exact k1) k2
            obtain ⟨hC4, hch4⟩ := hpp
            have HFB4 : Hid ((w3.setCell ⟨p.pb, 1, none⟩ (.slice (some ⟨g, 0, none⟩) (R.length + 1) cap)).heap[w.heap.size]? = some (.cells #[.string n, .bool true, .string t, .slice (some ⟨fb, fo, none⟩) rows.len fc] 88)) := (hch4.block w.heap.size hz2 (by omega) (.inr (not_ty HFB2.out (by decide) (by decide)))).trans HFB2.out
            have hz4 : w.heap.size < (w3.setCell ⟨p.pb, 1, none⟩ (.slice (some ⟨g, 0, none⟩) (R.length + 1) cap)).heap.size := by simp; omega
            have HC4 : Hid (ChW p w (w3.setCell ⟨p.pb, 1, none⟩ (.slice (some ⟨g, 0, none⟩) (R.length + 1) cap))) := HC2.out.trans hch4
            clear hown3 hown4 hg3 hat3 hbk q1 p1 o1 c1 f1 hch4 fcell2 k02
            generalize w3.setCell ⟨p.pb, 1, none⟩ (.slice (some ⟨g, 0, none⟩) (R.length + 1) cap) = w4 at *
            have hcall := HB.out w4 p ts (R ++ [f]) { s1 with steps := s1.steps + 1 } i b (by simp only; omega) (by simp; omega) HS.out HBA.out he1 ⟨_, _, _, _, hC4⟩
            have Hcall := hidS hcall
            have hstp := pagF_steps ts true m b (R ++ [f]) { s1 with steps := s1.steps + 1 }
            have HFF : Hid (lopF (pagF ts true m) b R rows st = lopF (pagF ts true m) b R (rows.drop (k + 1)) (pagF ts true m b (R ++ [f]) { s1 with steps := s1.steps + 1 })) := by
              show _ = _
              rw [HF.out, HLS.out, if_neg (by simp [he1]), if_neg (by omega)]
            simp only at hstp
            generalize pagF ts true m b (R ++ [f]) { s1 with steps := s1.steps + 1 } = s5 at *
            have hp4 := hC4.lt
            clear hcall hC4 HLS HF HW
            go_wp2_with fail
            refine Hcall.out.mono ?_
            rintro e w5 ⟨rfl, h5, hch5⟩
            by_cases he5 : s5.err = 0
            · obtain ⟨ra5, rc5, oa5, oc5, hC5⟩ := h5 he5
              have Hlv := hidS (b135 w5 p ra5 oa5 rc5 oc5 R f _ hRl hC5)
              have HPOP := hidS hC5.pop
              have HFB5 : Hid (w5.heap[w.heap.size]? = some (.cells #[.string n, .bool true, .string t, .slice (some ⟨fb, fo, none⟩) rows.len fc] 88)) := (hch5.block w.heap.size hz4 (by omega) (.inr (not_ty HFB4.out (by decide) (by decide)))).trans HFB4.out
              have hz5 : w.heap.size < w5.heap.size := by have := hch5.size; omega
              have HC5 := hidS (HC4.out.trans hch5)
              rw [he5]
              clear h5 hC5 hch5 Hcall
              go_wp2_with (go_at_call 131; refine Hlv.out.mono ?_; rintro e w' ⟨rfl, hw⟩; obtain rfl := hw.symm)
              go_roundw
              case rel => exact ⟨k + 1, s5, by omega, by go_num, he5, by omega, by simpa using hz5, ⟨_, _, _, _, HPOP.out⟩, HFF.out, HC5.out.set 1 _, (set_far w5 _ _ _ _ (by omega)).trans HFB5.out⟩
              case measure => simp [intOf]; omega
            · have HFE : Hid (lopF (pagF ts true m) b R rows st = s5) := by
                show _ = _
                rw [HFF.out]
                cases rows.drop (k + 1) <;> simp [lopF, he5]
              have he5' : (s5.err != 0) = true := by simpa using he5
              have HC5 := hidS (HC4.out.trans hch5)
              clear h5 hch5 Hcall
              go_wp2
              go_ret
              exact wr_stop s5.err (by rw [HE.out, HFE.out]) he5 HC5.out
        · have Hst := hidS (b118no wr p.pb s1.steps hst5 hfit1 c4)
          have HFF : Hid (lopF (pagF ts true m) b R rows st = { s1 with err := 12 }) := by
            show _ = _
            rw [HF.out, HLS.out, if_neg (by simp [he1]), if_pos (by omega)]
          go_wp2_with (go_at_call 114; refine Hst.out.mono ?_; rintro e w' ⟨rfl, hw⟩; obtain rfl := hw.symm)
          go_ret
          exact wr_stop 12 (by rw [HE.out, HFF.out]) (by decide) HC.out
      · have HFF : Hid (lopF (pagF ts true m) b R rows st = s1) := by
          show _ = _
          rw [HF.out, Dat.drop_end _ _ (by omega)]; rfl
        go_wp2
        go_ret
        exact wr_ok (by rw [HE.out, HFF.out]; exact he1) (by rw [HE.out, HFF.out]; exact HW.out) HC.out
end Go.Proofs.YtffkejkgkgfnhabGreat
