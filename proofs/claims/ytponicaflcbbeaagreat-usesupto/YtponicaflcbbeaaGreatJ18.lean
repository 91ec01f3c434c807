import Derived.Test.YtponicaflcbbeaaGreatJ17
import Derived.Test.YtponicaflcbbeaaGreatJ15
import Derived.Deep.RegionLaw
namespace Go.Proofs.YtponicaflcbbeaaGreat
open Go.RowKit
set_option linter.unusedVariables false
theorem infoGp : (Tryz.prog.info? 128).map (fun i => (i.zero, i.size, i.bytes)) = some (some (.agg #[.int .i64 0, .int .i64 0, .int .i64 0]), 3, 24) := by kernel_rfl
theorem gsC_len (gs : List Gp) : (gsC gs).length = gs.length * 3 := by
  induction gs with
  | nil => rfl
  | cons a r ih => simp [gsC] at ih ⊢; omega
theorem gsC_at (gs : List Gp) : ∀ (i : Nat) (hi : i < gs.length), (gsC gs)[i * 3]? = some (.int .i64 gs[i].b) ∧ (gsC gs)[i * 3 + 1]? = some (.int .i64 gs[i].f) ∧ (gsC gs)[i * 3 + 2]? = some (.int .i64 gs[i].en) := by
  induction gs with
  | nil => intro i hi; simp at hi
  | cons h r ih =>
    intro i hi
    cases i with
    | zero => exact ⟨rfl, rfl, rfl⟩
    | succ i =>
      have := ih i (by simpa using hi)
      have e : gsC (h :: r) = [.int .i64 h.b, .int .i64 h.f, .int .i64 h.en] ++ gsC r := rfl
      rw [e, List.getElem?_append_right (by simp; omega), List.getElem?_append_right (by simp; omega), List.getElem?_append_right (by simp; omega)]
      simpa [show (i + 1) * 3 - 3 = i * 3 by omega, show (i + 1) * 3 + 1 - 3 = i * 3 + 1 by omega, show (i + 1) * 3 + 2 - 3 = i * 3 + 2 by omega] using this
theorem gp_at {w : World} {B : Nat} {a : Option Addr} {c : Nat} {gs : List Gp} (h : w.ownsRow B 128 3 (.slice a gs.length c) gs.length (gsC gs)) (i : Nat) (hi : i < gs.length) : ∃ g, a = some ⟨g, 0, none⟩ ∧ w.cell? ⟨g, i * 3, none⟩ = some (.int .i64 gs[i].b) ∧ w.cell? ⟨g, i * 3 + 1, none⟩ = some (.int .i64 gs[i].f) ∧ w.cell? ⟨g, i * 3 + 2, none⟩ = some (.int .i64 gs[i].en) ∧ w.frozen? ⟨g, i * 3 + 2, none⟩ = false ∧ B ≤ g ∧ g < w.heap.size := by
  obtain ⟨g, cap, hv, hb, hl⟩ := h.form (by omega)
  simp at hv
  obtain ⟨h1, h2, h3⟩ := gsC_at gs i hi
  have e : ∀ j, (⟨g, 0, none⟩ : Addr).add j = ⟨g, j, none⟩ := by intro j; unfold Addr.add; split <;> simp_all
  have q := h.cells (g := g) (by rw [hv.1]; rfl)
  have q1 := q _ _ h1
  have q2 := q _ _ h2
  have q3 := q _ _ h3
  rw [e] at q1 q2 q3
  obtain ⟨rfl, rfl⟩ := hv
  exact ⟨g, rfl, q1, q2, q3, h.frozenAt _, hb, hl⟩
theorem hasG_drop (gs : List Gp) (b f k : Nat) (hk : k < gs.length) : hasG (gs.drop k) b f = if gs[k].b = b ∧ gs[k].f = f then some gs[k] else hasG (gs.drop (k + 1)) b f := by
  rw [List.drop_eq_getElem_cons hk]
  unfold hasG
  rw [List.find?_cons]
  by_cases h : gs[k].b = b ∧ gs[k].f = f
  · simp [h]
  · rw [if_neg h]; simp only [h, decide_false]
theorem gp_cells (w : World) (a b c : Int) : ∀ (j : Nat) (u : Value), [Value.int .i64 a, .int .i64 b, .int .i64 c][j]? = some u → (w.alloc (.cells #[.int .i64 a, .int .i64 b, .int .i64 c] 128)).cell? ((⟨w.heap.size, 0, none⟩ : Addr).add j) = some u := by
  intro j u hj
  match j, hj with
  | 0, hj => simp at hj; subst hj; simp [Addr.add]
  | 1, hj => simp at hj; subst hj; simp [Addr.add]
  | 2, hj => simp at hj; subst hj; simp [Addr.add]
  | j + 3, hj => simp at hj
theorem gp_one (a b c : Int) : ∀ u ∈ [Value.int .i64 a, .int .i64 b, .int .i64 c], u.oneCell' = true := by
  intro u hu; simp at hu; rcases hu with rfl | rfl | rfl <;> rfl
def FOut (s : ByteArray) (A : List Ak) (f : Fp) (ga : Option Addr) (gc n : Nat) (w w' : World) (fs' : FS) : Prop :=
  ChgF f (.slice ga n gc) w w' ∧ ∃ ga' gc', FkOK s A w' f ga' gc' fs' ∧ ((Value.slice ga' fs'.gs.length gc').ownBlock = (Value.slice ga n gc).ownBlock ∨ ∃ g, w.heap.size ≤ g ∧ (Value.slice ga' fs'.gs.length gc').ownBlock = some g)
theorem meet_some {fs : FS} {b x : Nat} {g : Gp} (h : hasG fs.gs b x = some g) : meetF fs b x = (g.en, fs) := by unfold meetF; rw [h]
theorem meet_none {fs : FS} {b x : Nat} (h : hasG fs.gs b x = none) : meetF fs b x = (-1, { fs with gs := fs.gs ++ [⟨b, x, -1⟩], grew := true }) := by unfold meetF; rw [h]
set_option maxRecDepth 100000 in
set_option maxHeartbeats 2000000 in
theorem p72 (s : ByteArray) (A : List Ak) (w : World) (f : Fp) (ga : Option Addr) (gc : Nat) (fs : FS) (b x : Nat) (hb : b ≤ 1000) (hx : x < 24) (hl : fs.gs.length ≤ 30000) (h : FkOK s A w f ga gc fs) :
    Calls Tryz.prog 72 #[.pointer (some ⟨f.F, 0, none⟩), .int .i64 b, .int .i64 x] w fun e w' => e = .returned (.int .i64 (meetF fs b x).1) ∧ FOut s A f ga gc fs.gs.length w w' (meetF fs b x).2 := by
  obtain ⟨i0, hi, hz0, hz1, hz2⟩ := info_parts infoGp
  have H := hidS h
  have c1 := h.c1
  have c3 := h.c3
  have f1 := h.f1
  have f3 := h.f3
  have hown := h.own
  have l0 := h.l0
  have l3 := h.l3
  clear h
  have HO := hidS hown
  obtain ⟨R, hR⟩ : ∃ R, R = meetF fs b x := ⟨_, rfl⟩
  rw [← hR]
  have HR := hidS hR
  clear hR
  go_enter Tryz.func72, Tryz.ntmps72
  go_wp2
  go_loopw [7] (fun iv wr => ∃ k : Nat, k ≤ fs.gs.length ∧ iv = .int .i64 k ∧ Hid (hasG fs.gs b x = hasG (fs.gs.drop k) b x) ∧ Hid (wr = w)) (fun iv _ => fs.gs.length - (intOf iv).toNat)
  case atStart => exact ⟨0, Nat.zero_le _, rfl, rfl, rfl⟩
  case round =>
    obtain ⟨k, hk, rfl, HH, HD⟩ := hrel
    have hD : w = wr := HD.out.symm
    subst hD
    clear HD
    by_cases hlt : k < fs.gs.length
    · obtain ⟨g, rfl, k0, k1, k2, _⟩ := gp_at HO.out k hlt
      have HS := hidS (hasG_drop fs.gs b x k hlt)
      by_cases hm : fs.gs[k].b = b ∧ fs.gs[k].f = x
      · have HF : Hid (R = (fs.gs[k].en, fs)) := by show _ = _; rw [HR.out]; exact meet_some (by rw [HH.out, HS.out, if_pos hm])
        rw [hm.1] at k0
        rw [hm.2] at k1
        clear HS hm hown
        generalize fs.gs[k].en = EN at *
        go_wp2
        go_ret
        refine ⟨retS_int (by rw [HF.out]), ?_⟩
        rw [HF.out]
        exact ⟨ChgF.refl _ _ _, some ⟨g, 0, none⟩, gc, H.out, .inl rfl⟩
      · have HF : Hid (hasG fs.gs b x = hasG (fs.gs.drop (k + 1)) b x) := by show _ = _; rw [HH.out, HS.out, if_neg hm]
        clear HS HH hown
        by_cases hb1 : fs.gs[k].b = b
        · have e1 : (((fs.gs[k].b : Nat) : Int) == (b : Int)) = true := by simp [hb1]
          have e2 : (((fs.gs[k].f : Nat) : Int) == (x : Int)) = false := by
            have : fs.gs[k].f ≠ x := fun q => hm ⟨hb1, q⟩
            simp; omega
          clear hm hb1
          generalize fs.gs[k].b = g1 at *
          generalize fs.gs[k].f = g2 at *
          go_wp2
          exact ⟨⟨k + 1, by omega, by go_num, HF.out, by first | trivial | rfl⟩, by simp [intOf]; omega⟩
        · have e1 : (((fs.gs[k].b : Nat) : Int) == (b : Int)) = false := by simp; omega
          clear hm hb1
          generalize fs.gs[k].b = g1 at *
          go_wp2
          exact ⟨⟨k + 1, by omega, by go_num, HF.out, by first | trivial | rfl⟩, by simp [intOf]; omega⟩
    · have HF : Hid (R = (-1, { fs with gs := fs.gs ++ [⟨b, x, -1⟩], grew := true })) := by
        show _ = _
        rw [HR.out]
        refine meet_none ?_
        rw [HH.out, List.drop_eq_nil_of_le (by omega)]; rfl
      clear HR HH
      have hbw : f.F < w.heap.size := by omega
      go_wp2_with (at_builtin; refine wpList_append_lies _ rfl _ _ 108 rfl f.B 128 i0 (.agg #[.int .i64 0, .int .i64 0, .int .i64 0]) 3 24 Tryz.underlying108 hi hz0 hz1 hz2 rfl (by decide) _ _ _ rfl (hown.alloc _) ⟨w.heap.size, 0, none⟩ 1 1 [.int .i64 b, .int .i64 x, .int .i64 (-1)] rfl rfl ?c1 ?c2 (by decide) ?c3 ?c4 ?c5 _ rfl ?_)
      case c1 => exact gp_cells w b x (-1)
      case c2 => exact gp_one _ _ _
      case c3 => unfold maxLen; omega
      case c4 => omega
      case c5 => simp; omega
      intro g cap w1 hown1 hg1 hat1 hlt1
      have hsz := hg1.size
      simp only [World.size_alloc] at hsz
      have blk : ∀ k, k < w.heap.size → some k ≠ (Value.slice ga fs.gs.length gc).ownBlock → w1.heap[k]? = w.heap[k]? := fun k h1 h2 => (hg1.block k (by simp; omega) h2).trans (Below.heap_alloc _ _ _ h1)
      have hF1 := H.out.l1
      have hF2 := H.out.l2
      have nb : ∀ k, k < f.B → some k ≠ (Value.slice ga fs.gs.length gc).ownBlock := fun k hk e => by have := (hown.lt k e.symm).1; omega
      have b0 := blk f.F hbw (nb _ l0)
      have b1 := blk f.ag (by omega) (nb _ hF1)
      have b2 := blk f.cg (by omega) (nb _ hF2)
      have q1 : w1.cell? ⟨f.F, 1, none⟩ = some (.slice ga fs.gs.length gc) := (World.cell?_of_block b0).trans c1
      have q3 : w1.cell? ⟨f.F, 3, none⟩ = some (.bool fs.grew) := (World.cell?_of_block b0).trans c3
      have p1 : w1.frozen? ⟨f.F, 1, none⟩ = false := (World.frozen?_of_block b0).trans f1
      have p3 : w1.frozen? ⟨f.F, 3, none⟩ = false := (World.frozen?_of_block b0).trans f3
      have HW : Hid (FkOK s A ((w1.setCell ⟨f.F, 1, none⟩ (.slice (some ⟨g, 0, none⟩) (fs.gs.length + 1) cap)).setCell ⟨f.F, 3, none⟩ (.bool true)) f (some ⟨g, 0, none⟩) cap { fs with gs := fs.gs ++ [⟨b, x, -1⟩], grew := true }) := by
        have hh := H.out
        have len : (fs.gs ++ [(⟨b, x, -1⟩ : Gp)]).length = fs.gs.length + 1 := by simp
        have fa : ∀ k, k ≠ f.F → ((w1.setCell ⟨f.F, 1, none⟩ (.slice (some ⟨g, 0, none⟩) (fs.gs.length + 1) cap)).setCell ⟨f.F, 3, none⟩ (.bool true)).heap[k]? = w1.heap[k]? := fun k hk => (set_far _ f.F 3 _ k hk).trans (set_far _ f.F 1 _ k hk)
        have fb : ∀ j, 1 ≠ j → 3 ≠ j → ((w1.setCell ⟨f.F, 1, none⟩ (.slice (some ⟨g, 0, none⟩) (fs.gs.length + 1) cap)).setCell ⟨f.F, 3, none⟩ (.bool true)).cell? ⟨f.F, j, none⟩ = w.cell? ⟨f.F, j, none⟩ := fun j h1 h3 => ((cellO _ _ _ _ _ h3).trans (cellO _ _ _ _ _ h1)).trans (World.cell?_of_block b0)
        refine ⟨(fb 0 (by decide) (by decide)).trans hh.c0, ?_, (fb 2 (by decide) (by decide)).trans hh.c2, cellS (u := .bool fs.grew) _ ((cellO _ _ _ _ _ (by decide)).trans q3), by simpa using p1, by simpa using p3, ?_, hh.act.far ((fa _ hh.n1.symm).trans b1), fun i hi' c hc => ?_, hh.n1, hh.n2, hh.n3, hh.l0, hh.l1, hh.l2, by simp; omega, hh.la⟩
        · show _ = some (Value.slice _ (fs.gs ++ [(⟨b, x, -1⟩ : Gp)]).length cap)
          rw [len]; exact (cellO _ _ _ _ _ (by decide)).trans (cellS _ q1)
        · show World.ownsRow _ _ _ _ (.slice _ (fs.gs ++ [(⟨b, x, -1⟩ : Gp)]).length cap) (fs.gs ++ [(⟨b, x, -1⟩ : Gp)]).length (gsC (fs.gs ++ [(⟨b, x, -1⟩ : Gp)]))
          rw [len]
          have e : gsC (fs.gs ++ [(⟨b, x, -1⟩ : Gp)]) = gsC fs.gs ++ [.int .i64 b, .int .i64 x, .int .i64 (-1)] := by simp [gsC]
          rw [e]
          exact own_far hown1 (fun k hk => fa k (by have := (hown1.lt k hk).1; omega))
        · have h2 := (fa _ hh.n2.symm).trans b2
          exact ⟨(World.cell?_of_block h2).trans (hh.com i hi' c hc).1, (World.frozen?_of_block h2).trans (hh.com i hi' c hc).2⟩
      have HC : Hid (ChgF f (.slice ga fs.gs.length gc) w ((w1.setCell ⟨f.F, 1, none⟩ (.slice (some ⟨g, 0, none⟩) (fs.gs.length + 1) cap)).setCell ⟨f.F, 3, none⟩ (.bool true))) :=
        ⟨hg1.os, hg1.tape, hg1.output, by simp; omega, fun k h1 h2 h3 h4 => (set_far _ f.F 3 _ k h2).trans ((set_far _ f.F 1 _ k h2).trans (blk k h1 h4))⟩
      have HAt := hidS hat1
      have q3' : (w1.setCell ⟨f.F, 1, none⟩ (.slice (some ⟨g, 0, none⟩) (fs.gs.length + 1) cap)).cell? ⟨f.F, 3, none⟩ = some (.bool fs.grew) := (cellO _ _ _ _ _ (by decide)).trans q3
      clear hown1 hg1 hat1 hown c1 c3 f1 f3 b0 b1 b2 blk nb
      go_wp2
      go_ret
      refine ⟨retS_int (by rw [HF.out]), ?_⟩
      rw [HF.out]
      refine ⟨HC.out, some ⟨g, 0, none⟩, cap, HW.out, ?_⟩
      rcases HAt.out with h1 | h1
      · exact .inl h1.symm
      · exact .inr ⟨g, by omega, rfl⟩
end Go.Proofs.YtponicaflcbbeaaGreat
namespace Go.Proofs.YtponicaflcbbeaaGreat
open Go.RowKit
set_option linter.unusedVariables false
theorem idx_le (nm : ByteArray) (A : List Ak) (k : Nat) : idxA nm A k ≤ k + A.length := by
  induction A generalizing k with
  | nil => simp [idxA]
  | cons a r ih =>
    simp only [idxA]
    split
    · simp
    · have := ih (k + 1); simp; omega
theorem call_no' {A : List Ak} {nm : ByteArray} {x : Int} {fs : FS} (h : ¬ (hitB nm A = true ∧ x ≠ -1)) : callF A nm x fs = (-1, fs) := by unfold callF; rw [if_neg h]
set_option maxRecDepth 100000 in
set_option maxHeartbeats 2000000 in
theorem p112 (s : ByteArray) (A : List Ak) (w : World) (f : Fp) (ga : Option Addr) (gc : Nat) (fs : FS) (nm : ByteArray) (x : Int) (hx : -1 ≤ x ∧ x ≤ 23) (hl : fs.gs.length ≤ 30000) (h : FkOK s A w f ga gc fs) :
    Calls Tryz.prog 112 #[.pointer (some ⟨f.F, 0, none⟩), .string nm, .int .i64 x] w fun e w' => e = .returned (.int .i64 (callF A nm x fs).1) ∧ FOut s A f ga gc fs.gs.length w w' (callF A nm x fs).2 := by
  have H := hidS h
  have c0 := h.c0
  have hA := h.la
  have hfd : Hid (∀ wx, AkAt s wx f.ag A → Calls Tryz.prog 71 #[.slice (some ⟨f.ag, 0, none⟩) A.length f.ac, .string nm] wx fun e w' => e = .returned (.tuple #[.int .i64 (idxA nm A 0), .bool (hitB nm A)]) ∧ w' = wx) := fun wx hw => by
    have := c71 s wx f.ag f.ac A.length A nm (Nat.le_refl _) hA hw
    rw [List.take_length] at this
    exact this
  have hil := idx_le nm A 0
  have HAK := hidS h.act
  obtain ⟨R, hR⟩ : ∃ R, R = callF A nm x fs := ⟨_, rfl⟩
  rw [← hR]
  by_cases hc : hitB nm A = true ∧ x ≠ -1
  · obtain ⟨n, rfl⟩ : ∃ n : Nat, x = n := ⟨x.toNat, by omega⟩
    have HF : Hid (R = meetF fs (idxA nm A 0) n) := by show _ = _; rw [hR]; unfold callF; rw [if_pos hc]; simp
    have Hm := hidS (fun wx (hw : FkOK s A wx f ga gc fs) => p72 s A wx f ga gc fs (idxA nm A 0) n (by omega) (by omega) hl hw)
    have hh : hitB nm A = true := hc.1
    rw [hh] at hfd
    have e1 : ((n : Int) == -1) = false := by simp
    clear hR hc h
    generalize idxA nm A 0 = I at *
    go_enter Tryz.func112, Tryz.ntmps112
    go_wp2_with fail
    refine (hfd.out _ HAK.out).mono ?_
    rintro e w1 ⟨rfl, hw⟩
    obtain rfl := hw.symm
    go_wp2_with fail
    refine (Hm.out _ H.out).mono ?_
    rintro e w1 ⟨rfl, ho⟩
    have HO := hidS ho
    clear ho Hm
    rw [← HF.out] at HO
    rw [← HF.out]
    go_wp2
    go_ret
    exact ⟨rfl, HO.out⟩
  · have HF : Hid (R = (-1, fs)) := by show _ = _; rw [hR]; exact call_no' hc
    cases hh : hitB nm A
    · rw [hh] at hfd
      clear hR hc h
      generalize idxA nm A 0 = I at *
      go_enter Tryz.func112, Tryz.ntmps112
      go_wp2_with fail
      refine (hfd.out _ HAK.out).mono ?_
      rintro e w1 ⟨rfl, hw⟩
      obtain rfl := hw.symm
      go_wp2
      go_ret
      refine ⟨retS_int (by rw [HF.out]), ?_⟩
      rw [HF.out]
      exact ⟨ChgF.refl _ _ _, ga, gc, H.out, .inl rfl⟩
    · have hx1 : x = -1 := by apply Decidable.byContradiction; intro q; exact hc ⟨hh, q⟩
      have e1 : (x == -1) = true := by simp [hx1]
      rw [hh] at hfd
      clear hR hc h hx1
      generalize idxA nm A 0 = I at *
      go_enter Tryz.func112, Tryz.ntmps112
      go_wp2_with fail
      refine (hfd.out _ HAK.out).mono ?_
      rintro e w1 ⟨rfl, hw⟩
      obtain rfl := hw.symm
      go_wp2
      go_ret
      refine ⟨retS_int (by rw [HF.out]), ?_⟩
      rw [HF.out]
      exact ⟨ChgF.refl _ _ _, ga, gc, H.out, .inl rfl⟩
end Go.Proofs.YtponicaflcbbeaaGreat
namespace Go.Proofs.YtponicaflcbbeaaGreat
open Go.RowKit
set_option linter.unusedVariables false
theorem opC_snoc (o : List (Int × Int)) (a b : Int) : opC (o ++ [(a, b)]) = opC o ++ [.int .i64 a, .int .i64 b] := by simp [opC]
theorem opC_len (o : List (Int × Int)) : (opC o).length = o.length * 2 := by
  induction o with
  | nil => rfl
  | cons a r ih => simp [opC] at ih ⊢; omega
theorem last2 (op : List (Int × Int)) (h : op ≠ []) : ∃ o a b, op = o ++ [(a, b)] := ⟨op.dropLast, (op.getLast h).1, (op.getLast h).2, (List.dropLast_concat_getLast h).symm⟩
theorem pk_form {w : World} {P B : Nat} {oa : Option Addr} {oc : Nat} {x a b : Int} {o : List (Int × Int)} (h : PkOK w P B oa oc ⟨x, o ++ [(a, b)]⟩) : ∃ g, oa = some ⟨g, 0, none⟩ ∧ B ≤ g ∧ g < w.heap.size ∧ o.length + 1 ≤ oc ∧ oc ≤ maxLen ∧ w.cell? ⟨g, o.length * 2, none⟩ = some (.int .i64 a) ∧ w.cell? ⟨g, o.length * 2 + 1, none⟩ = some (.int .i64 b) ∧ w.frozen? ⟨g, o.length * 2 + 1, none⟩ = false := by
  have hl := opC_len o
  rcases h.own.2 with ⟨_, h0⟩ | ⟨g, cap, cur, hv, hb, hg, hn, hm, hs, ht⟩
  · simp at h0
  · simp at hv
    obtain ⟨hv1, rfl⟩ := hv
    have own := h.own
    have e : (o ++ [(a, b)]).length = o.length + 1 := by simp
    simp only [e] at hn own
    subst hv1
    have k0 := own.cellAt (o.length * 2) (by omega)
    have k1 := own.cellAt (o.length * 2 + 1) (by omega)
    rw [opC_snoc, List.getElem?_append_right (by omega), hl] at k0 k1
    refine ⟨g, rfl, hb, (own.lt g rfl).2, hn, hm, by simpa using k0, ?_, own.frozenAt _⟩
    rw [k1]
    have : o.length * 2 + 1 - o.length * 2 = 1 := by omega
    rw [this]; rfl
theorem PkOK.drew {w : World} {P B : Nat} {oa : Option Addr} {oc : Nat} {ps : PS} (h : PkOK w P B oa oc ps) : PkOK w.drew P B oa oc ps := ⟨h.c0, h.c1, h.f0, h.f1, own_far h.own (fun _ _ => rfl), h.lt, h.le, h.len, h.ran⟩
theorem ChgB.drew {w w' : World} {b : Nat} {v : Value} (h : ChgB w w' b v) : ChgB w w'.drew b v := ⟨h.os, h.tape, h.output, h.size, h.block⟩
set_option maxHeartbeats 1000000 in
theorem p114 (w : World) (P B : Nat) (oa : Option Addr) (oc : Nat) (ps : PS) (hp : ∀ q ∈ ps.op, -1 ≤ q.1 ∧ q.1 ≤ 23) (h : PkOK w P B oa oc ps) :
    Calls Tryz.prog 114 #[.pointer (some ⟨P, 0, none⟩)] w fun e w' => e = .returned (.tuple #[]) ∧ POut w w' P B oa oc ps.op.length (turnF ps) := by
  by_cases ho : ps.op = []
  · have H := hidS h
    obtain ⟨c0, c1, f0, f1, _⟩ := h
    have hl : (ps.op.length : Int) = 0 := by simp [ho]
    have HT : Hid (turnF ps = ps) := by show _ = _; simp [turnF, ho]
    have hl' : ps.op.length ≤ 0 := by simp [ho]
    clear ho hl hp
    go_enter Tryz.func114, Tryz.ntmps114
    go_wp2
    (try simp only [Exit.inBlock, Exit.then])
    refine bodyPost_ret (results_none rfl _ _ _) rfl ?_
    refine ⟨rfl, ChgB.refl _ _ _, oa, oc, by rw [HT.out]; exact H.out, .inl (by rw [HT.out])⟩
  · obtain ⟨o, a, b, ho'⟩ := last2 ps.op ho
    obtain ⟨x, op⟩ := ps
    simp only at ho' ho
    subst ho'
    obtain ⟨g, rfl, hg1, hg2, hc1, hc2, k0, k1, kf⟩ := pk_form h
    have hpa := hp (a, b) (by simp)
    have H := hidS h
    obtain ⟨c0, c1, f0, f1, hown, hlt, hle, hlen, hran⟩ := h
    simp only [List.length_append, List.length_cons, List.length_nil, Nat.zero_add] at c1 hlen
    have hne : P ≠ g := by omega
    have HS : Hid (((w.setCell ⟨g, o.length * 2 + 1, none⟩ (.int .i64 x)).setCell ⟨P, 0, none⟩ (.int .i64 a)) = ((w.setCell ⟨g, o.length * 2 + 1, none⟩ (.int .i64 x)).setCell ⟨P, 0, none⟩ (.int .i64 a))) := rfl
    have HW : Hid (PkOK ((w.setCell ⟨g, o.length * 2 + 1, none⟩ (.int .i64 x)).setCell ⟨P, 0, none⟩ (.int .i64 a)) P B (some ⟨g, 0, none⟩) oc ⟨a, o ++ [(a, x)]⟩) := by
      have s1 := (hown.stored (o.length * 2 + 1) (.int .i64 x)).1
      have e : (opC (o ++ [(a, b)])).set (o.length * 2 + 1) (.int .i64 x) = opC (o ++ [(a, x)]) := by
        rw [opC_snoc, opC_snoc, List.set_append_right _ _ (by rw [opC_len]; omega), opC_len]
        have : o.length * 2 + 1 - o.length * 2 = 1 := by omega
        rw [this]; rfl
      have s1' : (w.setCell ⟨g, o.length * 2 + 1, none⟩ (.int .i64 x)).ownsRow B 147 2 (.slice (some ⟨g, 0, none⟩) (o ++ [(a, x)]).length oc) (o ++ [(a, x)]).length (opC (o ++ [(a, x)])) := by
        rw [← e]; simpa using s1
      have q1 : PkOK (w.setCell ⟨g, o.length * 2 + 1, none⟩ (.int .i64 x)) P B (some ⟨g, 0, none⟩) oc ⟨x, o ++ [(a, x)]⟩ :=
        ⟨(cellF _ _ _ _ _ _ hne).trans c0, ((cellF _ _ _ _ _ _ hne).trans c1).trans (by simp), by simpa using f0, by simpa using f1, s1', hlt, by simpa using hle, by simpa using hlen, hran⟩
      exact q1.setNow a hpa
    have HC : Hid (ChgB w ((w.setCell ⟨g, o.length * 2 + 1, none⟩ (.int .i64 x)).setCell ⟨P, 0, none⟩ (.int .i64 a)) P (.slice (some ⟨g, 0, none⟩) (o.length + 1) oc)) :=
      ⟨rfl, rfl, rfl, by simp, fun j h1 h2 h3 => (set_far _ P 0 _ j h2).trans (set_far _ g _ _ j (fun e => h3 (by rw [e]; rfl)))⟩
    have HT : Hid (turnF ⟨x, o ++ [(a, b)]⟩ = ⟨a, o ++ [(a, x)]⟩) := by show _ = _; simp [turnF, List.getLast?_append]
    have k0' : (w.setCell ⟨g, o.length * 2 + 1, none⟩ (.int .i64 x)).cell? ⟨g, o.length * 2, none⟩ = some (.int .i64 a) := (cellO w _ _ _ _ (by omega)).trans k0
    have c0' : (w.setCell ⟨g, o.length * 2 + 1, none⟩ (.int .i64 x)).cell? ⟨P, 0, none⟩ = some (.int .i64 x) := (cellF _ _ _ _ _ _ hne).trans c0
    have c1' : (w.setCell ⟨g, o.length * 2 + 1, none⟩ (.int .i64 x)).cell? ⟨P, 1, none⟩ = some (.slice (some ⟨g, 0, none⟩) (o.length + 1) oc) := (cellF _ _ _ _ _ _ hne).trans c1
    clear hown hp HS
    unfold maxLen at hc2
    have i1 : (0 : Int) ≤ (o.length : Int) := by omega
    go_enter Tryz.func114, Tryz.ntmps114
    go_wp2
    go_region
    go_wp2
    go_end0
    refine ⟨rfl, ?_, some ⟨g, 0, none⟩, oc, by rw [HT.out]; exact HW.out.drew, .inl (by rw [HT.out]; rfl)⟩
    have := HC.out.drew
    simpa using this
set_option maxHeartbeats 1000000 in
theorem p115 (w : World) (P B : Nat) (oa : Option Addr) (oc : Nat) (ps : PS) (hp : ∀ q ∈ ps.op, -1 ≤ q.2 ∧ q.2 ≤ 23) (h : PkOK w P B oa oc ps) :
    Calls Tryz.prog 115 #[.pointer (some ⟨P, 0, none⟩)] w fun e w' => e = .returned (.bool (leaveF ps).2) ∧ POut w w' P B oa oc ps.op.length (leaveF ps).1 := by
  by_cases ho : ps.op = []
  · have H := hidS h
    obtain ⟨c0, c1, f0, f1, _⟩ := h
    have hl : (ps.op.length : Int) = 0 := by simp [ho]
    have HT : Hid (leaveF ps = (ps, true)) := by show _ = _; simp [leaveF, ho]
    have hl' : ps.op.length ≤ 0 := by simp [ho]
    clear ho hl hp
    go_enter Tryz.func115, Tryz.ntmps115
    go_wp2
    go_ret
    refine ⟨retS_bool (by rw [HT.out]), ChgB.refl _ _ _, oa, oc, by rw [HT.out]; exact H.out, .inl (by rw [HT.out])⟩
  · obtain ⟨o, a, b, ho'⟩ := last2 ps.op ho
    obtain ⟨x, op⟩ := ps
    simp only at ho' ho
    subst ho'
    obtain ⟨g, rfl, hg1, hg2, hc1, hc2, k0, k1, kf⟩ := pk_form h
    have hpb := hp (a, b) (by simp)
    have H := hidS h
    obtain ⟨c0, c1, f0, f1, hown, hlt, hle, hlen, hran⟩ := h
    simp only [List.length_append, List.length_cons, List.length_nil, Nat.zero_add] at c1 hown
    have hlen' : o.length < 1000 := by simp at hlen; omega
    have hran' : -1 ≤ x ∧ x ≤ 23 := hran
    have HT : Hid (leaveF ⟨x, o ++ [(a, b)]⟩ = (⟨if x = -1 then b else x, o⟩, decide (b = -1 ∨ b = (if x = -1 then b else x)))) := by show _ = _; simp [leaveF, List.getLast?_append]
    generalize leaveF ⟨x, o ++ [(a, b)]⟩ = R at *
    have HW : Hid (PkOK (w.setCell ⟨P, 1, none⟩ (.slice (some ⟨g, 0, none⟩) o.length oc)) P B (some ⟨g, 0, none⟩) oc ⟨x, o⟩) := by
      have ho2 : w.ownsRow B 147 2 (.slice (some ⟨g, 0, none⟩) o.length oc) o.length (opC o) := by
        rw [opC_snoc] at hown
        exact ownsRow_pop (opC_len o) hown
      exact ⟨(cellO w _ _ _ _ (by decide)).trans c0, cellS _ c1, by simpa using f0, by simpa using f1, own_far ho2 (fun k hk => set_far w P 1 _ k (by have := (ho2.lt k hk).1; omega)), hlt, by simpa using hle, by show o.length ≤ 1000; omega, hran'⟩
    have HC : Hid (ChgB w (w.setCell ⟨P, 1, none⟩ (.slice (some ⟨g, 0, none⟩) o.length oc)) P (.slice (some ⟨g, 0, none⟩) (o.length + 1) oc)) := (ChgB.refl _ _ _).set 1 _
    have c0' : (w.setCell ⟨P, 1, none⟩ (.slice (some ⟨g, 0, none⟩) o.length oc)).cell? ⟨P, 0, none⟩ = some (.int .i64 x) := (cellO w _ _ _ _ (by decide)).trans c0
    have f0' : (w.setCell ⟨P, 1, none⟩ (.slice (some ⟨g, 0, none⟩) o.length oc)).frozen? ⟨P, 0, none⟩ = false := by simpa using f0
    clear hown hp
    unfold maxLen at hc2
    have i1 : (0 : Int) ≤ (o.length : Int) := by omega
    have i2 : (o.length : Int) ≤ (oc : Int) := by omega
    by_cases hx : x = -1
    · have e1 : (x == -1) = true := by simp [hx]
      have HW2 := hidS (HW.out.setNow b hpb)
      have HF : Hid (R = (⟨b, o⟩, true)) := by show _ = _; rw [HT.out]; simp [hx]
      clear hx HT
      go_enter Tryz.func115, Tryz.ntmps115
      go_wp2
      all_goals
        go_ret
        refine ⟨retS_bool (by rw [HF.out]), ?_, some ⟨g, 0, none⟩, oc, by rw [HF.out]; first | exact HW2.out | (have := HW2.out; simp_all), .inl (by rw [HF.out]; rfl)⟩
        exact HC.out.set 0 _
    · have e1 : (x == -1) = false := by simp [hx]
      have HF : Hid (R = (⟨x, o⟩, decide (b = -1 ∨ b = x))) := by show _ = _; rw [HT.out]; simp [hx]
      clear HT
      go_enter Tryz.func115, Tryz.ntmps115
      go_wp2
      all_goals
        go_ret
        refine ⟨retS_bool (by rw [HF.out]; grind), HC.out, some ⟨g, 0, none⟩, oc, by rw [HF.out]; exact HW.out, .inl (by rw [HF.out]; rfl)⟩
end Go.Proofs.YtponicaflcbbeaaGreat
namespace Go.Proofs.YtponicaflcbbeaaGreat
open Go.RowKit
set_option linter.unusedVariables false
theorem gsC_set (gs : List Gp) : ∀ (i : Nat) (g : Gp) (x : Int), gs[i]? = some g → (gsC gs).set (i * 3 + 2) (.int .i64 x) = gsC (gs.set i ⟨g.b, g.f, x⟩) := by
  induction gs with
  | nil => intro i g x h; simp at h
  | cons a r ih =>
    intro i g x h
    have e : ∀ u l, gsC (u :: l) = [.int .i64 u.b, .int .i64 u.f, .int .i64 u.en] ++ gsC l := fun _ _ => rfl
    cases i with
    | zero => simp at h; subst h; rw [List.set_cons_zero, e, e]; rfl
    | succ i =>
      rw [List.set_cons_succ, e, e, ← ih i g x (by simpa using h), List.set_append_right _ _ (by simp; omega)]
      congr 1
      congr 1
      simp; omega
theorem FkOK.setEnd {s : ByteArray} {A : List Ak} {w : World} {f : Fp} {g gc : Nat} {fs : FS} (h : FkOK s A w f (some ⟨g, 0, none⟩) gc fs) (i : Nat) (q : Gp) (hq : fs.gs[i]? = some q) (x : Int) : FkOK s A ((w.setCell ⟨g, i * 3 + 2, none⟩ (.int .i64 x)).setCell ⟨f.F, 3, none⟩ (.bool true)) f (some ⟨g, 0, none⟩) gc { fs with gs := fs.gs.set i ⟨q.b, q.f, x⟩, grew := true } := by
  have hg := h.own.lt g rfl
  obtain ⟨c0, c1, c2, c3, f1, f3, own, act, com, n1, n2, n3, l0, l1, l2, l3, la⟩ := h
  have m0 : f.F ≠ g := by omega
  have m1 : f.ag ≠ g := by omega
  have m2 : f.cg ≠ g := by omega
  have len : (fs.gs.set i ⟨q.b, q.f, x⟩).length = fs.gs.length := by simp
  have fb : ∀ j, 3 ≠ j → ((w.setCell ⟨g, i * 3 + 2, none⟩ (.int .i64 x)).setCell ⟨f.F, 3, none⟩ (.bool true)).cell? ⟨f.F, j, none⟩ = w.cell? ⟨f.F, j, none⟩ := fun j hj => (cellO _ _ _ _ _ hj).trans (cellF _ _ _ _ _ _ m0)
  have fa : ∀ k, k ≠ f.F → k ≠ g → ((w.setCell ⟨g, i * 3 + 2, none⟩ (.int .i64 x)).setCell ⟨f.F, 3, none⟩ (.bool true)).heap[k]? = w.heap[k]? := fun k h1 h2 => (set_far _ f.F 3 _ k h1).trans (set_far _ g _ _ k h2)
  have s1 := (own.stored (i * 3 + 2) (.int .i64 x)).1
  rw [gsC_set fs.gs i q x hq] at s1
  refine ⟨(fb 0 (by decide)).trans c0, ?_, (fb 2 (by decide)).trans c2, cellS (u := .bool fs.grew) _ ((cellF _ _ _ _ _ _ m0).trans c3), by simpa using f1, by simpa using f3, ?_, act.far (fa _ n1.symm m1), fun j hj c hc => ⟨(World.cell?_of_block (fa _ n2.symm m2)).trans (com j hj c hc).1, (World.frozen?_of_block (fa _ n2.symm m2)).trans (com j hj c hc).2⟩, n1, n2, n3, l0, l1, l2, by simpa using l3, la⟩
  · show _ = some (Value.slice _ (fs.gs.set i ⟨q.b, q.f, x⟩).length gc)
    rw [len]; exact (fb 1 (by decide)).trans c1
  · show World.ownsRow _ _ _ _ (.slice _ (fs.gs.set i ⟨q.b, q.f, x⟩).length gc) (fs.gs.set i ⟨q.b, q.f, x⟩).length _
    rw [len]
    exact own_far s1 (fun k hk => set_far _ f.F 3 _ k (by simp [Value.ownBlock] at hk; omega))
set_option maxHeartbeats 2000000 in
theorem p106 (s : ByteArray) (A : List Ak) (w : World) (f : Fp) (ga : Option Addr) (gc : Nat) (fs : FS) (i : Nat) (x : Int) (hi : i < fs.gs.length) (hx : -1 ≤ x ∧ x ≤ 23) (hl : fs.gs.length ≤ 30000) (h : FkOK s A w f ga gc fs) :
    Calls Tryz.prog 106 #[.pointer (some ⟨f.F, 0, none⟩), .int .i64 i, .int .i64 x] w fun e w' => e = .returned (.bool (endF fs i x).isSome) ∧ ChgF f (.slice ga fs.gs.length gc) w w' ∧ ∀ fs', endF fs i x = some fs' → FOut s A f ga gc fs.gs.length w w' fs' := by
  have H := hidS h
  obtain ⟨R, hR⟩ : ∃ R, R = endF fs i x := ⟨_, rfl⟩
  rw [← hR]
  by_cases hn : x = -1
  · have e1 : (x == -1) = true := by simp [hn]
    have HF : Hid (R = some fs) := by show _ = _; rw [hR]; unfold endF; rw [if_pos hn]
    clear h hR
    go_enter Tryz.func106, Tryz.ntmps106
    go_wp2
    go_ret
    refine ⟨retS_bool (by rw [HF.out]; rfl), ChgF.refl _ _ _, fun fs' q => ?_⟩
    rw [HF.out] at q
    cases q
    exact ⟨ChgF.refl _ _ _, ga, gc, H.out, .inl rfl⟩
  · have e1 : (x == -1) = false := by simp [hn]
    have hgi : fs.gs[i]? = some fs.gs[i] := List.getElem?_eq_getElem hi
    have hR2 : R = if i ≠ 0 ∨ x = 0 then some (setEn fs i fs.gs[i] x) else none := by rw [hR]; unfold endF; rw [if_neg hn, hgi]
    obtain ⟨g, rfl, k0, k1, k2, kf, hgB, hgl⟩ := gp_at h.own i hi
    have c1 := h.c1
    have c3 := h.c3
    have f3 := h.f3
    have hne : f.F ≠ g := by have := h.l0; omega
    have HS := hidS (h.setEnd i fs.gs[i] hgi x)
    have i1 : (0 : Int) ≤ (i : Int) := by omega
    have i2 : (i : Int) < (fs.gs.length : Int) := by omega
    have hRb : R.isSome = decide (i ≠ 0 ∨ x = 0) := by
      rw [hR2]
      by_cases q : i ≠ 0 ∨ x = 0
      · rw [if_pos q]; exact (decide_eq_true q).symm
      · rw [if_neg q]; exact (decide_eq_false q).symm
    have HRb := hidS hRb
    by_cases he : fs.gs[i].en = -1
    · have HF : Hid (∀ fs', R = some fs' → fs' = { fs with gs := fs.gs.set i ⟨fs.gs[i].b, fs.gs[i].f, x⟩, grew := true }) := fun fs' q => by
        rw [hR2] at q
        split at q
        · cases q; unfold setEn; rw [if_pos he]
        · cases q
      rw [he] at k2
      have q3 : (w.setCell ⟨g, i * 3 + 2, none⟩ (.int .i64 x)).cell? ⟨f.F, 3, none⟩ = some (.bool fs.grew) := (cellF _ _ _ _ _ _ hne).trans c3
      clear h hR hR2 hRb he hgi
      have HC : Hid (ChgF f (.slice (some ⟨g, 0, none⟩) fs.gs.length gc) w ((w.setCell ⟨g, i * 3 + 2, none⟩ (.int .i64 x)).setCell ⟨f.F, 3, none⟩ (.bool true))) :=
        ⟨rfl, rfl, rfl, by simp, fun k h1 h2 h3 h4 => (set_far _ f.F 3 _ k h2).trans (set_far _ g _ _ k (fun e => h4 (by rw [e]; rfl)))⟩
      go_enter Tryz.func106, Tryz.ntmps106
      go_wp2
      all_goals
        go_ret
        refine ⟨retS_bool (by rw [HRb.out]; grind), (by first | exact HC.out | (have hcc := HC.out; have e0 : i * 3 + 2 = 2 := (by omega); rw [e0] at hcc; exact hcc)), fun fs' q => ?_⟩
        rw [HF.out fs' q]
        refine ⟨(by first | exact HC.out | (have hcc := HC.out; have e0 : i * 3 + 2 = 2 := (by omega); rw [e0] at hcc; exact hcc)), some ⟨g, 0, none⟩, gc, by first | exact HS.out | (have hss := HS.out; have e0 : i * 3 + 2 = 2 := (by omega); rw [e0] at hss; exact hss), .inl (by simp [Value.ownBlock])⟩
    · have e2 : (fs.gs[i].en == -1) = false := by simp [he]
      have HF : Hid (∀ fs', R = some fs' → fs' = fs) := fun fs' q => by
        rw [hR2] at q
        split at q
        · cases q; unfold setEn; rw [if_neg he]
        · cases q
      clear h hR hR2 hRb hgi HS
      generalize fs.gs[i].en = EN at *
      go_enter Tryz.func106, Tryz.ntmps106
      go_wp2
      all_goals
        go_ret
        refine ⟨retS_bool (by rw [HRb.out]; grind), ChgF.refl _ _ _, fun fs' q => ?_⟩
        rw [HF.out fs' q]
        exact ⟨ChgF.refl _ _ _, some ⟨g, 0, none⟩, gc, H.out, .inl rfl⟩
end Go.Proofs.YtponicaflcbbeaaGreat
namespace Go.Proofs.YtponicaflcbbeaaGreat
open Go.RowKit
set_option linter.unusedVariables false
structure Fr (f : Fp) (w w' : World) : Prop where
  os : w'.os = w.os
  tape : w'.tape = w.tape
  output : w'.output = w.output
  size : w.heap.size ≤ w'.heap.size
  block : ∀ k, k < f.B → k ≠ f.F → k ≠ f.cg → w'.heap[k]? = w.heap[k]?
theorem Fr.refl (f : Fp) (w : World) : Fr f w w := ⟨rfl, rfl, rfl, Nat.le_refl _, fun _ _ _ _ => rfl⟩
theorem Fr.trans {f : Fp} {a b c : World} (h : Fr f a b) (k : Fr f b c) : Fr f a c := ⟨k.os.trans h.os, k.tape.trans h.tape, k.output.trans h.output, Nat.le_trans h.size k.size, fun i h1 h2 h3 => (k.block i h1 h2 h3).trans (h.block i h1 h2 h3)⟩
theorem PkOK.far {w w' : World} {P B : Nat} {oa : Option Addr} {oc : Nat} {ps : PS} (h : PkOK w P B oa oc ps) (hs : w.heap.size ≤ w'.heap.size) (h0 : w'.heap[P]? = w.heap[P]?) (h1 : ∀ g, (Value.slice oa ps.op.length oc).ownBlock = some g → w'.heap[g]? = w.heap[g]?) : PkOK w' P B oa oc ps :=
  ⟨(World.cell?_of_block h0).trans h.c0, (World.cell?_of_block h0).trans h.c1, (World.frozen?_of_block h0).trans h.f0, (World.frozen?_of_block h0).trans h.f1, own_far h.own h1, h.lt, by have := h.le; omega, h.len, h.ran⟩
/-- the finder and the path, apart from one another -/
structure Cm (s : ByteArray) (A : List Ak) (w : World) (f : Fp) (ga : Option Addr) (gc : Nat) (fs : FS) (P B : Nat) (oa : Option Addr) (oc : Nat) (ps : PS) : Prop where
  fk : FkOK s A w f ga gc fs
  pk : PkOK w P B oa oc ps
  dj : ∀ g, (Value.slice ga fs.gs.length gc).ownBlock = some g → g ≠ P ∧ some g ≠ (Value.slice oa ps.op.length oc).ownBlock
  le : f.B ≤ P
  opr : ∀ q ∈ ps.op, (-1 ≤ q.1 ∧ q.1 ≤ 23) ∧ -1 ≤ q.2 ∧ q.2 ≤ 23
def Cmb (s : ByteArray) (A : List Ak) (w : World) (f : Fp) (fs : FS) (P B : Nat) (ps : PS) : Prop := ∃ ga gc oa oc, Cm s A w f ga gc fs P B oa oc ps
theorem Cm.path {s : ByteArray} {A : List Ak} {w w' : World} {f : Fp} {ga : Option Addr} {gc : Nat} {fs : FS} {P B : Nat} {oa : Option Addr} {oc : Nat} {ps ps' : PS} (h : Cm s A w f ga gc fs P B oa oc ps) (k : POut w w' P B oa oc ps.op.length ps') (ho : ∀ q ∈ ps'.op, (-1 ≤ q.1 ∧ q.1 ≤ 23) ∧ -1 ≤ q.2 ∧ q.2 ≤ 23) : Cmb s A w' f fs P B ps' ∧ Fr f w w' := by
  obtain ⟨hc, oa', oc', hp, hor⟩ := k
  have l0 := h.fk.l0
  have l1 := h.fk.l1
  have l2 := h.fk.l2
  have l3 := h.fk.l3
  have hlt := h.pk.lt
  have hle := h.le
  have nb : ∀ k, k < P → some k ≠ (Value.slice oa ps.op.length oc).ownBlock := fun k hk e => by have := (h.pk.own.lt k e.symm).1; omega
  have same : ∀ k, k < w.heap.size → k < P → w'.heap[k]? = w.heap[k]? := fun k h1 h2 => hc.block k h1 (by omega) (nb k h2)
  refine ⟨⟨ga, gc, oa', oc', h.fk.far hc.size (same _ (by omega) (by omega)) (same _ (by omega) (by omega)) (same _ (by omega) (by omega)) (fun g hg => hc.block g (h.fk.own.lt g hg).2 (h.dj g hg).1 (h.dj g hg).2), hp, fun g hg => ⟨(h.dj g hg).1, fun e => ?_⟩, h.le, ho⟩, ⟨hc.os, hc.tape, hc.output, hc.size, fun k h1 h2 h3 => same k (by omega) (by omega)⟩⟩
  rcases hor with q | ⟨g', q1, q2⟩
  · exact (h.dj g hg).2 (e.trans q)
  · rw [q2] at e
    cases e
    have := (h.fk.own.lt g hg).2
    omega
theorem Cm.fin {s : ByteArray} {A : List Ak} {w w' : World} {f : Fp} {ga : Option Addr} {gc : Nat} {fs fs' : FS} {P B : Nat} {oa : Option Addr} {oc : Nat} {ps : PS} (h : Cm s A w f ga gc fs P B oa oc ps) (k : FOut s A f ga gc fs.gs.length w w' fs') : Cmb s A w' f fs' P B ps ∧ Fr f w w' := by
  obtain ⟨hc, ga', gc', hp, hor⟩ := k
  have l0 := h.fk.l0
  have l1 := h.fk.l1
  have l2 := h.fk.l2
  have l3 := h.fk.l3
  have hlt := h.pk.lt
  have hle := h.le
  have hpl := h.pk.le
  refine ⟨⟨ga', gc', oa, oc, hp, h.pk.far hc.size (hc.block P (by omega) (by omega) (by omega) (fun e => (h.dj P e.symm).1 rfl)) (fun g hg => hc.block g (h.pk.own.lt g hg).2 (by have := (h.pk.own.lt g hg).1; omega) (by have := (h.pk.own.lt g hg).1; omega) (fun e => (h.dj g e.symm).2 hg.symm)), fun g hg => ?_, h.le, h.opr⟩, ⟨hc.os, hc.tape, hc.output, hc.size, fun k h1 h2 h3 => hc.block k (by omega) h2 h3 (fun e => by have := (h.fk.own.lt k e.symm).1; omega)⟩⟩
  rcases hor with q | ⟨g', q1, q2⟩
  · exact h.dj g (by rw [← q]; exact hg)
  · rw [q2] at hg
    have hgg : g' = g := by simpa using hg
    refine ⟨by omega, fun e => ?_⟩
    have := (h.pk.own.lt g e.symm).2
    omega
theorem FOut.of_fill {s : ByteArray} {A : List Ak} {f : Fp} {ga : Option Addr} {gc n : Nat} {w w' : World} {fs : FS} (h : ChgF f (.slice none 0 0) w w') (k : FkOK s A w' f ga gc fs) (hn : fs.gs.length = n) : FOut s A f ga gc n w w' fs :=
  ⟨⟨h.os, h.tape, h.output, h.size, fun i h1 h2 h3 h4 => h.block i h1 h2 h3 (by simp [Value.ownBlock])⟩, ga, gc, k, .inl (by rw [hn])⟩
theorem POut.of_read {w w' : World} {P B : Nat} {oa : Option Addr} {oc n : Nat} {ps : PS} (h : ChgB w w' P (.slice none 0 0)) (k : PkOK w' P B oa oc ps) (hn : ps.op.length = n) : POut w w' P B oa oc n ps :=
  ⟨⟨h.os, h.tape, h.output, h.size, fun i h1 h2 h3 => h.block i h1 h2 (by simp [Value.ownBlock])⟩, oa, oc, k, .inl (by rw [hn])⟩
end Go.Proofs.YtponicaflcbbeaaGreat
