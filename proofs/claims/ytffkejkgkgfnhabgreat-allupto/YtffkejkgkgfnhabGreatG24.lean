import Derived.Test.YtffkejkgkgfnhabGreatG15
import Derived.Deep.RegionHeld3
namespace Go.Proofs.YtffkejkgkgfnhabGreat
open Go.RowKit
set_option linter.unusedVariables false
theorem infoHold : (Tryz.prog.info? 44).map (fun i => (i.zero, i.size, i.bytes)) = some (some (.agg #[.slice none 0 0, .int .i64 0]), 2, 32) := by kernel_rfl
/-- the first k of a row bear the mark -/
def Mkd (M : Nat) (ys : List Value) (k : Nat) : Prop := ∀ j, j < k → ys[j * 2]? = some (.int .i64 M) ∧ ys[j * 2 + 1]? = some (.int .i64 (-(M : Int)))
theorem Mkd.next {M : Nat} {ys : List Value} {k : Nat} (h : Mkd M ys k) (hl : k * 2 + 1 < ys.length) : Mkd M ((ys.set (k * 2) (.int .i64 M)).set (k * 2 + 1) (.int .i64 (-(M : Int)))) (k + 1) := by
  intro j hj
  by_cases e : j = k
  · subst e
    refine ⟨?_, ?_⟩
    · rw [List.getElem?_set_ne (by omega), List.getElem?_set_self (by omega)]
    · rw [List.getElem?_set_self (by simp; omega)]
  · obtain ⟨h1, h2⟩ := h j (by omega)
    refine ⟨?_, ?_⟩
    · rw [List.getElem?_set_ne (by omega), List.getElem?_set_ne (by omega)]; exact h1
    · rw [List.getElem?_set_ne (by omega), List.getElem?_set_ne (by omega)]; exact h2
theorem Mkd.snoc {M : Nat} {ys : List Value} {n : Nat} (h : Mkd M ys n) (hl : ys.length = n * 2) : Mkd M (ys ++ [.int .i64 M, .int .i64 (-(M : Int))]) (n + 1) := by
  intro j hj
  by_cases e : j = n
  · subst e
    rw [List.getElem?_append_right (by omega), List.getElem?_append_right (by omega), hl]
    simp
  · rw [List.getElem?_append_left (by omega), List.getElem?_append_left (by omega)]
    exact h j (by omega)
theorem mkd_at {w : World} {B n c : Nat} {a : Option Addr} {ys : List Value} {M : Nat} (h : w.ownsRow B 46 2 (.slice a n c) n ys) (hm : Mkd M ys n) : HdAt w ⟨a, n, c, M⟩ := by
  by_cases h0 : n = 0
  · exact .inl h0
  · obtain ⟨g, cap, hv, _, _⟩ := h.form (by omega)
    simp at hv
    right
    refine ⟨g, hv.1, fun k hk => ?_⟩
    obtain ⟨h1, h2⟩ := hm k hk
    have e : ∀ j, (⟨g, 0, none⟩ : Addr).add j = ⟨g, j, none⟩ := by intro j; unfold Addr.add; split <;> simp_all
    have q := h.cells (g := g) (by rw [hv.1]; rfl)
    have q1 := q _ _ h1
    have q2 := q _ _ h2
    rw [e] at q1 q2
    exact ⟨q1, q2⟩
theorem hold_cells (w : World) (la : Option Addr) (n c : Nat) (b : Int) : ∀ (j : Nat) (u : Value), [Value.slice la n c, .int .i64 b][j]? = some u → (w.alloc (.cells #[.slice la n c, .int .i64 b] 44)).cell? ((⟨w.heap.size, 0, none⟩ : Addr).add j) = some u := by
  intro j u hj
  match j, hj with
  | 0, hj => simp at hj; subst hj; simp [Addr.add]
  | 1, hj => simp at hj; subst hj; simp [Addr.add]
  | j + 2, hj => simp at hj
theorem hold_one (la : Option Addr) (n c : Nat) (b : Int) : ∀ u ∈ [Value.slice la n c, .int .i64 b], u.oneCell' = true := by
  intro u hu; simp at hu; rcases hu with rfl | rfl <;> rfl
set_option maxRecDepth 100000 in
set_option maxHeartbeats 4000000 in
theorem w27 (w : World) (wb : Nat) (ha : Option Addr) (hc : Nat) (hs : List Hd) (la : Option Addr) (n lc Bl : Nat) (xs : List Value) (hl : hs.length ≤ 4500000) (hW : WdOK w wb ha hc hs) (hr : w.ownsRow Bl 46 2 (.slice la n lc) n xs) (hn : n ≤ 9624) (hB : Bl ≤ w.heap.size)
    (hb0 : wb < Bl) (hb1 : ∀ g, (Value.slice ha hs.length hc).ownBlock = some g → g < Bl) (hb2 : ∀ h ∈ hs, ∀ g, (Value.slice h.a h.n h.c).ownBlock = some g → g < Bl) :
    Calls Tryz.prog 24 #[.pointer (some ⟨wb, 0, none⟩), .slice la n lc] w fun e w' => e = .returned (.tuple #[]) ∧ Below wb w w' ∧ ∃ ha' hc' hs', hs'.length = hs.length + 4 ∧ WdOK w' wb ha' hc' hs' := by
  obtain ⟨i0, hi, hz0, hz1, hz2x⟩ := info_parts infoUse
  obtain ⟨ih, hj, hy0, hy1, hy2x⟩ := info_parts infoHold
  have H := hidS hW
  have HR := hidS hr
  have HB1 := hidS hb1
  have HB2 := hidS hb2
  have c0 := hW.c
  have f0 := hW.f
  have hwl := hW.lt
  clear hW hr hb1 hb2
  go_enter Tryz.func24, Tryz.ntmps24
  go_wp2
  obtain ⟨M, hM⟩ : ∃ M : Nat, M = 1099511627776 + hs.length := ⟨_, rfl⟩
  have hMi : (1099511627776 : Int) + (hs.length : Int) = (M : Int) := by omega
  have hMl : M < 2 ^ 50 := by omega
  have hneg : IntKind.i64.wrap (-(M : Int)) = -(M : Int) := by rw [IntKind.wrap_i64]; omega
  rw [hMi]
  have HM := hidS hM
  clear hMi hM
  go_loopw [5] (fun iv wr => ∃ (k : Nat) (ys : List Value), k ≤ n ∧ iv = .int .i64 k ∧ wr.ownsRow Bl 46 2 (.slice la n lc) n ys ∧ Hid (Mkd M ys k) ∧ Hid (w.grownBy wr (Value.slice la n lc).ownBlock)) (fun iv _ => n - (intOf iv).toNat)
  case atStart => exact ⟨0, xs, Nat.zero_le _, rfl, HR.out, (fun j hj => absurd hj (by omega)), ⟨rfl, rfl, rfl, Nat.le_refl _, fun _ _ _ => rfl⟩⟩
  case round =>
    obtain ⟨k, ys, hk, rfl, hown, HMk, HG⟩ := hrel
    by_cases hlt : k < n
    · obtain ⟨g, cap, hv, hg1, hg2⟩ := hown.form (by omega)
      simp at hv
      obtain ⟨hv1, hv2⟩ := hv
      subst hv1 hv2
      have hyl : ys.length = n * 2 := hown.1
      have s1 := (hown.stored (k * 2) (.int .i64 M)).1
      have s2 := (s1.stored (k * 2 + 1) (.int .i64 (-(M : Int)))).1
      have HG2 : Hid (w.grownBy ((wr.setCell ⟨g, k * 2, none⟩ (.int .i64 M)).setCell ⟨g, k * 2 + 1, none⟩ (.int .i64 (-(M : Int)))) (some g)) :=
        ⟨HG.out.os, HG.out.tape, HG.out.output, by simpa using HG.out.size, fun j h1 h2 => (set_far _ g _ _ j (fun e => h2 (by rw [e]))).trans ((set_far _ g _ _ j (fun e => h2 (by rw [e]))).trans (HG.out.block j h1 h2))⟩
      have HMk2 := hidS (HMk.out.next (by omega))
      have d0 : wr.cell? ⟨g, k * 2, none⟩ = some (ys[k * 2]'(by omega)) := (hown.cellAt (k * 2) (by omega)).trans (List.getElem?_eq_getElem _)
      have d1 : wr.cell? ⟨g, k * 2 + 1, none⟩ = some (ys[k * 2 + 1]'(by omega)) := (hown.cellAt (k * 2 + 1) (by omega)).trans (List.getElem?_eq_getElem _)
      have e0 : wr.frozen? ⟨g, k * 2, none⟩ = false := hown.frozenAt (k * 2)
      have e1 : wr.frozen? ⟨g, k * 2 + 1, none⟩ = false := hown.frozenAt (k * 2 + 1)
      have HS2 := hidS s2
      clear s1 s2 hown
      generalize (ys[k * 2]'(by omega)) = y0 at *
      generalize (ys[k * 2 + 1]'(by omega)) = y1 at *
      have i1 : (0 : Int) ≤ (k : Int) := by omega
      have i2 : (k : Int) < (n : Int) := by omega
      go_wp2
      exact ⟨⟨k + 1, _, by omega, by go_num, HS2.out, HMk2.out, HG2.out⟩, by simp [intOf]; omega⟩
    · have e : k = n := by omega
      subst e
      have hlb : ∀ g, (Value.slice la k lc).ownBlock = some g → Bl ≤ g ∧ g < wr.heap.size := fun g hg => hown.lt g hg
      have HWr : Hid (WdOK wr wb ha hc hs) := H.out.keep HG.out.size (HG.out.block wb hwl (fun e => by have := (hlb wb e.symm).1; omega)) (fun g hg => HG.out.block g (H.out.own.lt g hg).2 (fun e => by have := (hlb g e.symm).1; have := HB1.out g hg; omega))
        (fun x hx => (H.out.all x hx).cells (fun g j hg _ => World.cell?_of_block (HG.out.block g (H.out.far x hx g hg).2.2 (fun e => by have := (hlb g e.symm).1; have := HB2.out x hx g hg; omega))))
      have HBw : Hid (Below wb w wr) := ⟨HG.out.os, HG.out.tape, HG.out.output, HG.out.size, fun j hj => HG.out.block j (by omega) (fun e => by have := (hlb j e.symm).1; omega)⟩
      have hsz := HG.out.size
      have HO := hidS hown
      have HLB := hidS hlb
      have cw : wr.cell? ⟨wb, 0, none⟩ = some (.slice ha hs.length hc) := HWr.out.c
      have fw : wr.frozen? ⟨wb, 0, none⟩ = false := HWr.out.f
      have hwr : wb < wr.heap.size := HWr.out.lt
      have hoH := HWr.out.own
      clear c0 f0 H HR HG hown hlb
      go_wp2_with (at_builtin; refine wpList_append_lies _ rfl _ _ 26 rfl (wb + 1) 44 ih (.agg #[.slice none 0 0, .int .i64 0]) 2 32 Tryz.underlying26 hj hy0 hy1 hy2x rfl (by decide) _ _ _ rfl (hoH.alloc _) ⟨wr.heap.size, 0, none⟩ 1 1 [.slice la k lc, .int .i64 M] rfl rfl ?c1 ?c2 (by decide) ?c3 ?c4 ?c5 _ rfl ?_)
      case c1 => exact hold_cells wr la k lc M
      case c2 => exact hold_one la k lc M
      case c3 => unfold maxLen; omega
      case c4 => omega
      case c5 => simp; omega
      intro g cap w3 hown3 hg3 hat3 hlt3
      have hlbk := HLB.out
      have HW4 : Hid (WdOK (w3.setCell ⟨wb, 0, none⟩ (.slice (some ⟨g, 0, none⟩) (hs.length + 1) cap)) wb (some ⟨g, 0, none⟩) cap (hs ++ [⟨la, k, lc, M⟩])) :=
        wd_add HWr.out ⟨la, k, lc, M⟩ (mkd_at HO.out HMk.out) (fun g' hg' => ⟨by have := (hlbk g' hg').1; omega, fun e => by have := HB1.out g' e.symm; have := (hlbk g' hg').1; omega, (hlbk g' hg').2⟩) ⟨hMl, by show k < 20000; omega⟩ g cap _ hown3 hg3 (by simpa using hat3)
      have HO4 : Hid ((w3.setCell ⟨wb, 0, none⟩ (.slice (some ⟨g, 0, none⟩) (hs.length + 1) cap)).ownsRow Bl 46 2 (.slice la k lc) k ys) :=
        own_keep HO.out (fun g' hg' => (set_far w3 wb 0 _ g' (by have := (hlbk g' hg').1; omega)).trans ((hg3.block g' (by simp; have := (hlbk g' hg').2; omega) (fun e => by have := HB1.out g' e.symm; have := (hlbk g' hg').1; omega)).trans (Below.heap_alloc _ _ _ (hlbk g' hg').2)))
      have HD4 : Hid (∀ g', (Value.slice la k lc).ownBlock = some g' → g' ≠ wb ∧ some g' ≠ (Value.slice (some ⟨g, 0, none⟩) (hs ++ [(⟨la, k, lc, M⟩ : Hd)]).length cap).ownBlock) := fun g' hg' => by
        have h1 := hlbk g' hg'
        refine ⟨by omega, fun e => ?_⟩
        simp [Value.ownBlock] at e
        rcases hat3 with h | h
        · have := HB1.out g h; omega
        · omega
      have HL4 : Hid (∀ h ∈ hs ++ [(⟨la, k, lc, M⟩ : Hd)], ∀ g', (Value.slice h.a h.n h.c).ownBlock = some g' → (Value.slice la k lc).ownBlock = some g' → h.n ≤ k) := fun h hh g' h1 h2 => by
        rcases List.mem_append.1 hh with hh | hh
        · have := HB2.out h hh g' h1; have := (hlbk g' h2).1; omega
        · simp at hh; subst hh; exact Nat.le_refl _
      have HB4 : Hid (Below wb w (w3.setCell ⟨wb, 0, none⟩ (.slice (some ⟨g, 0, none⟩) (hs.length + 1) cap))) := by
        have h1 := hg3.size
        simp at h1
        refine HBw.out.trans ⟨hg3.os, hg3.tape, hg3.output, by simp; omega, fun j hj => ?_⟩
        exact (set_far w3 wb 0 _ j (by omega)).trans ((hg3.block j (by simp; omega) (fun e => by have := (hoH.lt j e.symm).1; omega)).trans (Below.heap_alloc _ _ _ (by omega)))
      have hbk : w3.heap[wb]? = wr.heap[wb]? := (hg3.block wb (by simp; omega) (fun e => by have := (hoH.lt wb e.symm).1; omega)).trans (Below.heap_alloc _ _ _ hwr)
      have cw3 : w3.cell? ⟨wb, 0, none⟩ = some (.slice ha hs.length hc) := (World.cell?_of_block hbk).trans cw
      have fw3 : w3.frozen? ⟨wb, 0, none⟩ = false := (World.frozen?_of_block hbk).trans fw
      have hBl3 : Bl ≤ w3.heap.size := by have := hg3.size; simp at this; omega
      clear hown3 hg3 hat3 hoH cw fw hlbk HBw HWr HO HLB hbk
      go_wp2
      clear cw3 fw3
      go_loopw [1, 6] (fun lv nv wq => ∃ (q : Nat) (hs' : List Hd) (ha' : Option Addr) (hc' : Nat) (la' : Option Addr) (lc' : Nat) (zs : List Value), q ≤ 3 ∧ nv = .int .i64 q ∧ lv = .slice la' (k + q) lc' ∧ hs'.length = hs.length + 1 + q ∧ Hid (WdOK wq wb ha' hc' hs') ∧ wq.ownsRow Bl 46 2 (.slice la' (k + q) lc') (k + q) zs ∧ Hid (Mkd M zs (k + q)) ∧
        Hid (∀ g', (Value.slice la' (k + q) lc').ownBlock = some g' → g' ≠ wb ∧ some g' ≠ (Value.slice ha' hs'.length hc').ownBlock) ∧ Hid (∀ h ∈ hs', ∀ g', (Value.slice h.a h.n h.c).ownBlock = some g' → (Value.slice la' (k + q) lc').ownBlock = some g' → h.n ≤ k + q) ∧ Hid (Below wb w wq) ∧ Bl ≤ wq.heap.size) (fun _ nv _ => 3 - (intOf nv).toNat)
      case atStart => exact ⟨0, (hs ++ [(⟨la, k, lc, M⟩ : Hd)]), some ⟨g, 0, none⟩, cap, la, lc, ys, by omega, rfl, rfl, by simp, HW4.out, HO4.out, HMk.out, HD4.out, HL4.out, HB4.out, by simpa using hBl3⟩
      case round =>
        clear HW4 HO4 HD4 HL4 HB4 HMk hBl3
        obtain ⟨q, hs', ha', hc', la', lc', zs, hq, rfl, rfl, hhl, HW, hown, HMk, HD, HL, HB, hBl⟩ := hrel
        have HHL := hidS hhl
        have hhb : hs'.length ≤ 4600000 := by omega
        clear hhl
        by_cases hq3 : q < 3
        · have HO := hidS hown
          have hzl : zs.length = (k + q) * 2 := hown.1
          go_wp2_with (at_builtin; refine wpList_append_keep _ rfl _ _ 42 rfl Bl 46 i0 (.agg #[.int .i64 0, .int .i64 0]) 2 16 Tryz.underlying42 hi hz0 hz1 hz2x rfl (by decide) _ _ _ rfl (hown.alloc _) ⟨wr.heap.size, 0, none⟩ 1 1 [.int .i64 M, .int .i64 (-(M : Int))] rfl rfl ?c1 ?c2 (by decide) ?c3 ?c4 ?c5 _ rfl ?_)
          case c1 => exact use_cells wr M (-(M : Int))
          case c2 => exact use_one _ _
          case c3 => unfold maxLen; omega
          case c4 => omega
          case c5 => simp; omega
          intro gg cc w5 hown5 hg5 hat5 hlt5 hkp5
          have hsz5 := hg5.size
          simp only [World.size_alloc] at hsz5
          have hWl := HW.out.lt
          have HW5 : Hid (WdOK w5 wb ha' hc' hs') := by
            refine HW.out.keep (by omega) ((hg5.block wb (by simp; omega) (fun e => (HD.out wb e.symm).1 rfl)).trans (Below.heap_alloc _ _ _ hWl)) (fun g' hg' => (hg5.block g' (by simp; have := (HW.out.own.lt g' hg').2; omega) (fun e => (HD.out g' e.symm).2 hg'.symm)).trans (Below.heap_alloc _ _ _ (HW.out.own.lt g' hg').2)) (fun x hx => (HW.out.all x hx).cells (fun g' j hg' hj => ?_))
            have hl' := (HW.out.far x hx g' hg').2.2
            by_cases hbk : (Value.slice la' (k + q) lc').ownBlock = some g'
            · have hn' := HL.out x hx g' hg' hbk
              have hu : zs[j]? = some (zs[j]'(by omega)) := List.getElem?_eq_getElem _
              have q1 := hkp5 g' j _ hbk hu
              have q2 := HO.out.cells hbk j _ hu
              have e : (⟨g', 0, none⟩ : Addr).add j = ⟨g', j, none⟩ := by unfold Addr.add; split <;> simp_all
              rw [e] at q2
              rw [q1, q2]
            · exact World.cell?_of_block ((hg5.block g' (by simp; omega) (fun e => hbk e.symm)).trans (Below.heap_alloc _ _ _ hl'))
          have HMk5 : Hid (Mkd M (zs ++ [.int .i64 M, .int .i64 (-(M : Int))]) (k + q + 1)) := HMk.out.snoc hzl
          have HO5 := hidS hown5
          have HD5 : Hid (gg ≠ wb ∧ some gg ≠ (Value.slice ha' hs'.length hc').ownBlock) := by
            rcases hat5 with h | h
            · exact HD.out gg h
            · refine ⟨by omega, fun e => by have := (HW.out.own.lt gg e.symm).2; omega⟩
          have HL5 : Hid (∀ h ∈ hs', ∀ g', (Value.slice h.a h.n h.c).ownBlock = some g' → g' = gg → h.n ≤ k + q + 1) := fun h hh g' h1 h2 => by
            rcases hat5 with h3 | h3
            · have := HL.out h hh g' h1 (by rw [h2]; exact h3); omega
            · have := (HW.out.far h hh g' h1).2.2; omega
          have HB5 : Hid (Below wb w w5) := by
            refine HB.out.trans ⟨hg5.os, hg5.tape, hg5.output, by omega, fun j hj => ?_⟩
            exact (hg5.block j (by simp; omega) (fun e => by have := (HO.out.lt j e.symm).1; omega)).trans (Below.heap_alloc _ _ _ (by omega))
          have hBl5 : Bl ≤ w5.heap.size := by omega
          have cw : w5.cell? ⟨wb, 0, none⟩ = some (.slice ha' hs'.length hc') := HW5.out.c
          have fw : w5.frozen? ⟨wb, 0, none⟩ = false := HW5.out.f
          have hwr5 : wb < w5.heap.size := HW5.out.lt
          have hoH := HW5.out.own
          clear hown5 hg5 hat5 hkp5 hown HW HD HL HB HMk HO hsz5
          go_wp2_with (at_builtin; refine wpList_append_lies _ rfl _ _ 26 rfl (wb + 1) 44 ih (.agg #[.slice none 0 0, .int .i64 0]) 2 32 Tryz.underlying26 hj hy0 hy1 hy2x rfl (by decide) _ _ _ rfl (hoH.alloc _) ⟨w5.heap.size, 0, none⟩ 1 1 [.slice (some ⟨gg, 0, none⟩) (k + q + 1) cc, .int .i64 M] rfl rfl ?c1 ?c2 (by decide) ?c3 ?c4 ?c5 _ rfl ?_)
          case c1 => exact hold_cells w5 _ _ _ M
          case c2 => exact hold_one _ _ _ M
          case c3 => unfold maxLen; omega
          case c4 => omega
          case c5 => simp; omega
          intro g2 cap2 w6 hown6 hg6 hat6 hlt6
          have hsz6 := hg6.size
          simp only [World.size_alloc] at hsz6
          have HW6 : Hid (WdOK (w6.setCell ⟨wb, 0, none⟩ (.slice (some ⟨g2, 0, none⟩) (hs'.length + 1) cap2)) wb (some ⟨g2, 0, none⟩) cap2 (hs' ++ [(⟨some ⟨gg, 0, none⟩, k + q + 1, cc, M⟩ : Hd)])) :=
            wd_add HW5.out ⟨some ⟨gg, 0, none⟩, k + q + 1, cc, M⟩ (mkd_at HO5.out HMk5.out) (fun g' hg' => by simp [Value.ownBlock] at hg'; subst hg'; exact ⟨HD5.out.1, HD5.out.2, hlt5⟩) ⟨hMl, by show k + q + 1 < 20000; omega⟩ g2 cap2 _ hown6 hg6 (by simpa using hat6)
          have HO6 : Hid ((w6.setCell ⟨wb, 0, none⟩ (.slice (some ⟨g2, 0, none⟩) (hs'.length + 1) cap2)).ownsRow Bl 46 2 (.slice (some ⟨gg, 0, none⟩) (k + q + 1) cc) (k + q + 1) (zs ++ [.int .i64 M, .int .i64 (-(M : Int))])) :=
            own_keep HO5.out (fun g' hg' => by
              simp [Value.ownBlock] at hg'
              subst hg'
              exact (set_far w6 wb 0 _ _ HD5.out.1).trans ((hg6.block _ (by simp; omega) HD5.out.2).trans (Below.heap_alloc _ _ _ hlt5)))
          have HD6 : Hid (∀ g', (Value.slice (some ⟨gg, 0, none⟩) (k + (q + 1)) cc).ownBlock = some g' → g' ≠ wb ∧ some g' ≠ (Value.slice (some ⟨g2, 0, none⟩) (hs' ++ [(⟨some ⟨gg, 0, none⟩, k + q + 1, cc, M⟩ : Hd)]).length cap2).ownBlock) := fun g' hg' => by
            simp [Value.ownBlock] at hg'
            subst hg'
            refine ⟨HD5.out.1, fun e => ?_⟩
            simp [Value.ownBlock] at e
            rcases hat6 with h | h
            · exact HD5.out.2 (by rw [h, e])
            · omega
          have HL6 : Hid (∀ h ∈ hs' ++ [(⟨some ⟨gg, 0, none⟩, k + q + 1, cc, M⟩ : Hd)], ∀ g', (Value.slice h.a h.n h.c).ownBlock = some g' → (Value.slice (some ⟨gg, 0, none⟩) (k + (q + 1)) cc).ownBlock = some g' → h.n ≤ k + (q + 1)) := fun h hh g' h1 h2 => by
            simp [Value.ownBlock] at h2
            rcases List.mem_append.1 hh with hh | hh
            · have := HL5.out h hh g' h1 h2.symm; omega
            · simp at hh; subst hh; show k + q + 1 ≤ _; omega
          have HB6 : Hid (Below wb w (w6.setCell ⟨wb, 0, none⟩ (.slice (some ⟨g2, 0, none⟩) (hs'.length + 1) cap2))) := by
            refine HB5.out.trans ⟨hg6.os, hg6.tape, hg6.output, by simp; omega, fun j hj => ?_⟩
            exact (set_far w6 wb 0 _ j (by omega)).trans ((hg6.block j (by simp; omega) (fun e => by have := (hoH.lt j e.symm).1; omega)).trans (Below.heap_alloc _ _ _ (by omega)))
          have hbk : w6.heap[wb]? = w5.heap[wb]? := (hg6.block wb (by simp; omega) (fun e => by have := (hoH.lt wb e.symm).1; omega)).trans (Below.heap_alloc _ _ _ hwr5)
          have cw6 : w6.cell? ⟨wb, 0, none⟩ = some (.slice ha' hs'.length hc') := (World.cell?_of_block hbk).trans cw
          have fw6 : w6.frozen? ⟨wb, 0, none⟩ = false := (World.frozen?_of_block hbk).trans fw
          have hBl6 : Bl ≤ w6.heap.size := by omega
          clear hown6 hg6 hat6 hoH cw fw hbk
          go_wp2
          exact ⟨⟨q + 1, _, _, _, _, _, _, by omega, by go_num, by rw [Nat.add_assoc], (by have := HHL.out; simp; omega), HW6.out, HO6.out, HMk5.out, HD6.out, HL6.out, HB6.out, by simpa using hBl6⟩, by simp [intOf]; omega⟩
        · go_wp2
          go_end0
          exact ⟨rfl, HB.out, ha', hc', hs', (by have := HHL.out; omega), HW.out⟩
end Go.Proofs.YtffkejkgkgfnhabGreat
namespace Go.Proofs.YtffkejkgkgfnhabGreat
open Go.RowKit
set_option linter.unusedVariables false
/-- what the program's Walks answers -/
def PWalk (s nm : ByteArray) (x : Int) (L : List (Nat × Nat)) : Prop :=
  (∃ y, ChkS s x y ∧ x ≠ 0 ∧ L = []) ∨ (∃ A, s.size ≤ 400 ∧ Ends s init (.fin A) ∧ twA [] A = -1 ∧ unA (seenB (names A)) A < 0 ∧ ∀ ts, TFlat s ts A s.size → WSpec ts nm x L)
def PWPost (s nm : ByteArray) (w : World) (e : Ending) (w' : World) : Prop :=
  ∃ (a : Option Addr) (c : Nat) (x : Int) (L : List (Nat × Nat)), e = .returned (.tuple #[.slice a L.length c, .int .i64 x]) ∧ w'.ownsRow w.heap.size 46 2 (.slice a L.length c) L.length (useC L) ∧ L.length ≤ 9624 ∧ PWalk s nm x L
def PWOK (f : Nat) : Prop := ∀ (s nm : ByteArray) (w : World), s.size ≤ maxLen → Calls Tryz.prog f #[.string s, .string nm] w fun e w' => Below w.heap.size w w' ∧ PWPost s nm w e w'
theorem walks_agree {s nm : ByteArray} {x y : Int} {L M : List (Nat × Nat)} (h : PWalk s nm x L) (k : (∃ z, ChkS s y z ∧ y ≠ 0 ∧ M = []) ∨ (∃ ts A, TFlat s ts A s.size ∧ s.size ≤ 400 ∧ Ends s init (.fin A) ∧ twA [] A = -1 ∧ unA (seenB (names A)) A < 0 ∧ WSpec ts nm y M)) : x = y ∧ L = M := by
  rcases h with ⟨z, h1, h2, h3⟩ | ⟨A, h1, h2, h3, h4, h5⟩ <;> rcases k with ⟨z', k1, k2, k3⟩ | ⟨ts, A', k0, k1, k2, k3, k4, k5⟩
  · exact ⟨(chkS_unique h1 k1).1, by rw [h3, k3]⟩
  · exact absurd (chkS_unique h1 (.inr ⟨k1, .inr ⟨A', k2, .inr (.inr ⟨k3, k4, rfl, rfl⟩)⟩⟩)).1 h2
  · exact absurd (chkS_unique k1 (.inr ⟨h1, .inr ⟨A, h2, .inr (.inr ⟨h3, h4, rfl, rfl⟩)⟩⟩)).1 k2
  · have e := ends_unique h2 k2
    cases e
    exact wspec_unique (h5 ts k0) k5
theorem useC_at (L : List (Nat × Nat)) : ∀ (i : Nat) (hi : i < L.length), (useC L)[i * 2]? = some (.int .i64 L[i].1) ∧ (useC L)[i * 2 + 1]? = some (.int .i64 L[i].2) := by
  induction L with
  | nil => intro i hi; simp at hi
  | cons h r ih =>
    intro i hi
    cases i with
    | zero => exact ⟨rfl, rfl⟩
    | succ i =>
      have := ih i (by simpa using hi)
      have e : useC (h :: r) = [.int .i64 h.1, .int .i64 h.2] ++ useC r := rfl
      rw [e, List.getElem?_append_right (by simp; omega), List.getElem?_append_right (by simp; omega)]
      simpa [show (i + 1) * 2 - 2 = i * 2 by omega, show (i + 1) * 2 + 1 - 2 = i * 2 + 1 by omega] using this
theorem use_at {w : World} {B : Nat} {a : Option Addr} {c : Nat} {L : List (Nat × Nat)} (h : w.ownsRow B 46 2 (.slice a L.length c) L.length (useC L)) (i : Nat) (hi : i < L.length) : ∃ g, a = some ⟨g, 0, none⟩ ∧ w.cell? ⟨g, i * 2, none⟩ = some (.int .i64 L[i].1) ∧ w.cell? ⟨g, i * 2 + 1, none⟩ = some (.int .i64 L[i].2) := by
  obtain ⟨g, cap, hv, _, _⟩ := h.form (by omega)
  simp at hv
  obtain ⟨h1, h2⟩ := useC_at L i hi
  have e : ∀ j, (⟨g, 0, none⟩ : Addr).add j = ⟨g, j, none⟩ := by intro j; unfold Addr.add; split <;> simp_all
  have q := h.cells (g := g) (by rw [hv.1]; rfl)
  have q1 := q _ _ h1
  have q2 := q _ _ h2
  rw [e] at q1 q2
  exact ⟨g, hv.1, q1, q2⟩
set_option maxRecDepth 100000 in
set_option maxHeartbeats 4000000 in
theorem w16 (hP : PWOK 22) (w : World) (wb : Nat) (ha : Option Addr) (hc : Nat) (hs : List Hd) (n : Int) (s t : ByteArray) (d : Value) (hsz : s.size ≤ maxLen) (hl : hs.length ≤ 4500000) (hW : WdOK w wb ha hc hs) :
    Calls Tryz.prog 13 #[.pointer (some ⟨wb, 0, none⟩), .agg #[.int .i64 4, .int .i64 n, .string s, .string t, d]] w fun e w' => e = .returned (.bool true) ∧ Below wb w w' ∧ ∃ ha' hc' hs', hs'.length = hs.length + 4 ∧ WdOK w' wb ha' hc' hs' := by
  have H := hidS hW
  have Hp := hidS (hP s t (w.alloc (.cells #[.int .i64 4, .int .i64 n, .string s, .string t, d] 33)) hsz)
  have Hr := hidS (fun wx => w26 s t wx hsz)
  have hwl := hW.lt
  clear hW hP
  go_enter Tryz.func13, Tryz.ntmps13
  go_wp2_with fail
  refine Hp.out.mono ?_
  clear Hp
  rintro e w1 ⟨hb1, a, c, x, L, rfl, hown, hLl, hpw⟩
  have k2 : w1.cell? ⟨w.heap.size, 2, none⟩ = some (.string s) := (hb1.cell (p := ⟨w.heap.size, 2, none⟩) (by show w.heap.size < _; simp)).trans (by simp)
  have k3 : w1.cell? ⟨w.heap.size, 3, none⟩ = some (.string t) := (hb1.cell (p := ⟨w.heap.size, 3, none⟩) (by show w.heap.size < _; simp)).trans (by simp)
  have hb1' : Below w.heap.size w w1 := ((Below.refl _ _).alloc (Nat.le_refl _) _).trans (hb1.mono (by simp))
  have hsz1 := hb1'.size
  have HO : Hid (w1.ownsRow w.heap.size 46 2 (.slice a L.length c) L.length (useC L)) := own_base hown (by simp)
  have HPW := hidS hpw
  clear hb1 hown hpw
  go_wp2_with fail
  refine (Hr.out w1).mono ?_
  clear Hr
  rintro e w2 ⟨hb2, a2, c2, y, L2, rfl, hown2, hLl2, hrw⟩
  obtain ⟨hxy, hLL⟩ := walks_agree HPW.out hrw
  subst hxy hLL
  have hb3 : Below w.heap.size w w2 := hb1'.trans (hb2.mono hsz1)
  have hsz2 := hb3.size
  have hown1 : w2.ownsRow w.heap.size 46 2 (.slice a L.length c) L.length (useC L) := own_keep HO.out (fun g hg => hb2.block g (HO.out.lt g hg).2)
  have HW2 := hidS (H.out.below hb3)
  have Hk := hidS (fun wx (hx : Below w2.heap.size w2 wx) => w27 wx wb ha hc hs a L.length c w.heap.size (useC L) hl (HW2.out.below hx) (own_keep hown1 (fun g hg => hx.block g (hown1.lt g hg).2)) hLl (Nat.le_trans hsz2 hx.size) hwl (fun g hg => (H.out.own.lt g hg).2) (fun h hh g hg => (H.out.far h hh g hg).2.2))
  have HU1 := hidS (fun wx (hx : Below w2.heap.size w2 wx) i hi => use_at (own_keep (w' := wx) hown1 (fun g hg => hx.block g (hown1.lt g hg).2)) i hi)
  have HU2 := hidS (fun wx (hx : Below w2.heap.size w2 wx) i hi => use_at (own_keep (w' := wx) hown2 (fun g hg => hx.block g (hown2.lt g hg).2)) i hi)
  clear hrw HPW HO hown1 hown2 k2 k3 hb1' hb2 H hLl2
  go_wp2
  go_loopw [9, 10] (fun sv iv wr => ∃ k : Nat, k ≤ L.length ∧ iv = .int .i64 k ∧ sv = .bool true ∧ Hid (Below w2.heap.size w2 wr)) (fun _ iv _ => L.length - (intOf iv).toNat)
  case atStart => exact ⟨0, Nat.zero_le _, rfl, by simp, Below.refl _ _⟩
  case round =>
    obtain ⟨k, hk, rfl, rfl, HE⟩ := hrel
    by_cases hlt : k < L.length
    · obtain ⟨g, rfl, q0, q1⟩ := HU1.out wr HE.out k hlt
      obtain ⟨g2, rfl, r0, r1⟩ := HU2.out wr HE.out k hlt
      have i1 : (0 : Int) ≤ (k : Int) := by omega
      have i2 : (k : Int) < (L.length : Int) := by omega
      generalize L[k].1 = u1 at *
      generalize L[k].2 = u2 at *
      go_wp2
      go_quiet (fail)
      go_wp2
      exact ⟨⟨k + 1, by omega, by go_num, by simp, below_drewN HE.out _⟩, by simp [intOf]; omega⟩
    · go_wp2_with fail
      refine (Hk.out _ HE.out).mono ?_
      rintro e w3 ⟨rfl, hb4, ha', hc', hs', hh, hw⟩
      have HW3 := hidS hw
      have HH := hidS hh
      clear hw hh Hk
      go_wp2
      go_ret
      exact ⟨by simp, ((hb3.trans (HE.out.mono hsz2)).mono (by omega)).trans hb4, ha', hc', hs', HH.out, HW3.out⟩
end Go.Proofs.YtffkejkgkgfnhabGreat
