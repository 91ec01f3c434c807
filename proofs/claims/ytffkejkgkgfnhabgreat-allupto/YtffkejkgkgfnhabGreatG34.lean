import Derived.Test.YtffkejkgkgfnhabGreatG32
import Derived.Test.YtffkejkgkgfnhabGreatG33
import Derived.Test.YtffkejkgkgfnhabGreatG07
import Derived.Test.YtffkejkgkgfnhabGreatG15
import Derived.Test.YtffkejkgkgfnhabGreatG23
namespace Go.Proofs.YtffkejkgkgfnhabGreat
open Go.RowKit
set_option linter.unusedVariables false
structure Fp where
  (F ag ac cg cc B : Nat)
def gsC (gs : List Gp) : List Value := gs.flatMap fun g => [.int .i64 g.b, .int .i64 g.f, .int .i64 g.en]
structure FkOK (s : ByteArray) (A : List Ak) (w : World) (f : Fp) (ga : Option Addr) (gc : Nat) (fs : FS) : Prop where
  c0 : w.cell? ⟨f.F, 0, none⟩ = some (.slice (some ⟨f.ag, 0, none⟩) A.length f.ac)
  c1 : w.cell? ⟨f.F, 1, none⟩ = some (.slice ga fs.gs.length gc)
  c2 : w.cell? ⟨f.F, 2, none⟩ = some (.slice (some ⟨f.cg, 0, none⟩) A.length f.cc)
  c3 : w.cell? ⟨f.F, 3, none⟩ = some (.bool fs.grew)
  f1 : w.frozen? ⟨f.F, 1, none⟩ = false
  f3 : w.frozen? ⟨f.F, 3, none⟩ = false
  own : w.ownsRow f.B 131 3 (.slice ga fs.gs.length gc) fs.gs.length (gsC fs.gs)
  act : AkAt s w f.ag A
  com : ∀ i, i < A.length → ∀ c, c < 24 → w.cell? ⟨f.cg, i * 24 + c, none⟩ = some (.bool (fs.cm i c)) ∧ w.frozen? ⟨f.cg, i * 24 + c, none⟩ = false
  n1 : f.F ≠ f.ag
  n2 : f.F ≠ f.cg
  n3 : f.ag ≠ f.cg
  l0 : f.F < f.B
  l1 : f.ag < f.B
  l2 : f.cg < f.B
  l3 : f.B ≤ w.heap.size
  la : A.length ≤ 1000
/-- what is not the finder's is as it was -/
structure ChgF (f : Fp) (v : Value) (w w' : World) : Prop where
  os : w'.os = w.os
  tape : w'.tape = w.tape
  output : w'.output = w.output
  size : w.heap.size ≤ w'.heap.size
  block : ∀ k, k < w.heap.size → k ≠ f.F → k ≠ f.cg → some k ≠ v.ownBlock → w'.heap[k]? = w.heap[k]?
theorem ChgF.refl (f : Fp) (v : Value) (w : World) : ChgF f v w w := ⟨rfl, rfl, rfl, Nat.le_refl _, fun _ _ _ _ _ => rfl⟩
theorem AkAt.far {s : ByteArray} {A : List Ak} {w w' : World} {g : Nat} (h : AkAt s w g A) (hb : w'.heap[g]? = w.heap[g]?) : AkAt s w' g A := fun i hi => by
  obtain ⟨a, b, c, d, e⟩ := h i hi
  exact ⟨(World.cell?_of_block hb).trans a, (World.cell?_of_block hb).trans b, (World.cell?_of_block hb).trans c, (World.cell?_of_block hb).trans d, (World.cell?_of_block hb).trans e⟩
theorem FkOK.far {s : ByteArray} {A : List Ak} {w w' : World} {f : Fp} {ga : Option Addr} {gc : Nat} {fs : FS} (h : FkOK s A w f ga gc fs) (hs : w.heap.size ≤ w'.heap.size) (h0 : w'.heap[f.F]? = w.heap[f.F]?) (h1 : w'.heap[f.ag]? = w.heap[f.ag]?) (h2 : w'.heap[f.cg]? = w.heap[f.cg]?) (h3 : ∀ g, (Value.slice ga fs.gs.length gc).ownBlock = some g → w'.heap[g]? = w.heap[g]?) : FkOK s A w' f ga gc fs := by
  obtain ⟨c0, c1, c2, c3, f1, f3, own, act, com, n1, n2, n3, l0, l1, l2, l3, la⟩ := h
  exact ⟨(World.cell?_of_block h0).trans c0, (World.cell?_of_block h0).trans c1, (World.cell?_of_block h0).trans c2, (World.cell?_of_block h0).trans c3, (World.frozen?_of_block h0).trans f1, (World.frozen?_of_block h0).trans f3, own_far own h3, act.far h1,
    fun i hi c hc => ⟨(World.cell?_of_block h2).trans (com i hi c hc).1, (World.frozen?_of_block h2).trans (com i hi c hc).2⟩, n1, n2, n3, l0, l1, l2, by omega, la⟩
theorem FkOK.setCm {s : ByteArray} {A : List Ak} {w : World} {f : Fp} {ga : Option Addr} {gc : Nat} {fs : FS} (h : FkOK s A w f ga gc fs) (i c : Nat) (hi : i < A.length) (hc : c < 24) : FkOK s A (w.setCell ⟨f.cg, i * 24 + c, none⟩ (.bool true)) f ga gc { fs with cm := upd2 fs.cm i c } := by
  obtain ⟨c0, c1, c2, c3, f1, f3, own, act, com, n1, n2, n3, l0, l1, l2, l3, la⟩ := h
  refine ⟨(cellF _ _ _ _ _ _ n2).trans c0, (cellF _ _ _ _ _ _ n2).trans c1, (cellF _ _ _ _ _ _ n2).trans c2, (cellF _ _ _ _ _ _ n2).trans c3, by simpa using f1, by simpa using f3, own_far own (fun g hg => set_far w f.cg _ _ g (by have := (own.lt g hg).1; omega)), act.far (set_far w f.cg _ _ _ n3), fun j hj d hd => ?_, n1, n2, n3, l0, l1, l2, by simpa using l3, la⟩
  refine ⟨?_, by simpa using (com j hj d hd).2⟩
  by_cases e : j = i ∧ d = c
  · obtain ⟨rfl, rfl⟩ := e
    rw [cellS _ (com j hj d hd).1]; simp [upd2]
  · have hne : i * 24 + c ≠ j * 24 + d := by omega
    rw [cellO w _ _ _ _ hne, (com j hj d hd).1]
    simp [upd2, e]
def fillF (fs : FS) (i : Nat) (x : Int) : FS := if x = -1 then fs else if opS x.toNat = true then { fs with cm := upd2 fs.cm i x.toNat } else fs
def fillB (x : Int) : Bool := decide (x = -1 ∨ opS x.toNat = true)
set_option maxHeartbeats 1000000 in
theorem p111 (s : ByteArray) (A : List Ak) (w : World) (f : Fp) (ga : Option Addr) (gc : Nat) (fs : FS) (i : Nat) (x : Int) (hi : i < A.length) (hx : -1 ≤ x ∧ x ≤ 23) (h : FkOK s A w f ga gc fs) :
    Calls Tryz.prog 121 #[.pointer (some ⟨f.F, 0, none⟩), .int .i64 i, .int .i64 x] w fun e w' => e = .returned (.bool (fillB x)) ∧ ChgF f (.slice none 0 0) w w' ∧ FkOK s A w' f ga gc (fillF fs i x) := by
  have H := hidS h
  have hA := h.la
  by_cases hn : x = -1
  · have e1 : (x == -1) = true := by simp [hn]
    have HR : Hid (fillF fs i x = fs) := by show _ = _; unfold fillF; rw [if_pos hn]
    have HB : Hid (fillB x = true) := by show _ = _; simp [fillB, hn]
    generalize fillF fs i x = R at *
    generalize fillB x = RB at *
    clear h
    go_enter Tryz.func121, Tryz.ntmps121
    go_wp2
    go_ret
    exact ⟨retS_bool HB.out.symm, ChgF.refl _ _ _, by rw [HR.out]; exact H.out⟩
  · have e1 : (x == -1) = false := by simp [hn]
    obtain ⟨n, rfl⟩ : ∃ n : Nat, x = n := ⟨x.toNat, by omega⟩
    have Ho := hidS (fun wx => c27 (n : Int) wx)
    rw [opS_opB] at Ho
    cases ho : opS n
    · have HR : Hid (fillF fs i n = fs) := by show _ = _; unfold fillF; rw [if_neg hn, if_neg (by simp [ho])]
      have HB : Hid (fillB n = false) := by show _ = _; simp [fillB, ho]
      generalize fillF fs i n = R at *
      generalize fillB n = RB at *
      rw [ho] at Ho
      clear h
      go_enter Tryz.func121, Tryz.ntmps121
      go_wp2_with fail
      refine (Ho.out _).mono ?_
      rintro e w1 ⟨rfl, hw⟩
      obtain rfl := hw.symm
      go_wp2
      go_ret
      exact ⟨retS_bool HB.out.symm, ChgF.refl _ _ _, by rw [HR.out]; exact H.out⟩
    · have HR : Hid (fillF fs i n = { fs with cm := upd2 fs.cm i n }) := by show _ = _; unfold fillF; rw [if_neg hn, if_pos (by simpa using ho)]; simp
      have HB : Hid (fillB n = true) := by show _ = _; simp [fillB, ho]
      generalize fillF fs i n = R at *
      generalize fillB n = RB at *
      rw [ho] at Ho
      have HW := hidS (h.setCm i n hi (by omega))
      have c2 := h.c2
      obtain ⟨cc, cf⟩ := h.com i hi n (by omega)
      have i1 : (0 : Int) ≤ (i : Int) := by omega
      have i2 : (i : Int) < (A.length : Int) := by omega
      have i3 : (n : Int) < 24 := by omega
      clear h
      go_enter Tryz.func121, Tryz.ntmps121
      go_wp2_with fail
      refine (Ho.out _).mono ?_
      rintro e w1 ⟨rfl, hw⟩
      obtain rfl := hw.symm
      go_wp2
      go_ret
      refine ⟨retS_bool HB.out.symm, ⟨rfl, rfl, rfl, by simp, fun k h1 h2 h3 h4 => set_far w f.cg _ _ k h3⟩, by rw [HR.out]; exact HW.out⟩
end Go.Proofs.YtffkejkgkgfnhabGreat
namespace Go.Proofs.YtffkejkgkgfnhabGreat
open Go.RowKit
set_option linter.unusedVariables false
theorem infoGp : (Tryz.prog.info? 131).map (fun i => (i.zero, i.size, i.bytes)) = some (some (.agg #[.int .i64 0, .int .i64 0, .int .i64 0]), 3, 24) := by kernel_rfl
theorem gsC_at (gs : List Gp) : ∀ (i : Nat) (hi : i < gs.length), (gsC gs)[i * 3]? = some (.int .i64 gs[i].b) ∧ (gsC gs)[i * 3 + 1]? = some (.int .i64 gs[i].f) ∧ (gsC gs)[i * 3 + 2]? = some (.int .i64 gs[i].en) := by
  induction gs with
  | nil => intro i hi; simp at hi
  | cons h r ih =>
    intro i hi
    cases i with
    | zero => exact ⟨rfl, rfl, rfl⟩
    | succ i =>
      have := ih i (by simpa using hi)
      have e : gsC (h :: r) = [.int .i64 h.b, .int .i64 h.f, .int .i64 h.en] ++ gsC r := rfl
      rw [e, List.getElem?_append_right (by simp; omega), List.getElem?_append_right (by simp; omega), List.getElem?_append_right (by simp; omega)]
      simpa [show (i + 1) * 3 - 3 = i * 3 by omega, show (i + 1) * 3 + 1 - 3 = i * 3 + 1 by omega, show (i + 1) * 3 + 2 - 3 = i * 3 + 2 by omega] using this
theorem gp_at {w : World} {B : Nat} {a : Option Addr} {c : Nat} {gs : List Gp} (h : w.ownsRow B 131 3 (.slice a gs.length c) gs.length (gsC gs)) (i : Nat) (hi : i < gs.length) : ∃ g, a = some ⟨g, 0, none⟩ ∧ w.cell? ⟨g, i * 3, none⟩ = some (.int .i64 gs[i].b) ∧ w.cell? ⟨g, i * 3 + 1, none⟩ = some (.int .i64 gs[i].f) ∧ w.cell? ⟨g, i * 3 + 2, none⟩ = some (.int .i64 gs[i].en) ∧ w.frozen? ⟨g, i * 3 + 2, none⟩ = false ∧ B ≤ g ∧ g < w.heap.size := by
  obtain ⟨g, cap, hv, hb, hl⟩ := h.form (by omega)
  simp at hv
  obtain ⟨h1, h2, h3⟩ := gsC_at gs i hi
  have e : ∀ j, (⟨g, 0, none⟩ : Addr).add j = ⟨g, j, none⟩ := by intro j; unfold Addr.add; split <;> simp_all
  have q := h.cells (g := g) (by rw [hv.1]; rfl)
  have q1 := q _ _ h1
  have q2 := q _ _ h2
  have q3 := q _ _ h3
  rw [e] at q1 q2 q3
  obtain ⟨rfl, rfl⟩ := hv
  exact ⟨g, rfl, q1, q2, q3, h.frozenAt _, hb, hl⟩
theorem hasG_drop (gs : List Gp) (b f k : Nat) (hk : k < gs.length) : hasG (gs.drop k) b f = if gs[k].b = b ∧ gs[k].f = f then some gs[k] else hasG (gs.drop (k + 1)) b f := by
  rw [List.drop_eq_getElem_cons hk]
  unfold hasG
  rw [List.find?_cons]
  by_cases h : gs[k].b = b ∧ gs[k].f = f
  · simp [h]
  · rw [if_neg h]; simp only [h, decide_false]
theorem gp_cells (w : World) (a b c : Int) : ∀ (j : Nat) (u : Value), [Value.int .i64 a, .int .i64 b, .int .i64 c][j]? = some u → (w.alloc (.cells #[.int .i64 a, .int .i64 b, .int .i64 c] 131)).cell? ((⟨w.heap.size, 0, none⟩ : Addr).add j) = some u := by
  intro j u hj
  match j, hj with
  | 0, hj => simp at hj; subst hj; simp [Addr.add]
  | 1, hj => simp at hj; subst hj; simp [Addr.add]
  | 2, hj => simp at hj; subst hj; simp [Addr.add]
  | j + 3, hj => simp at hj
theorem gp_one (a b c : Int) : ∀ u ∈ [Value.int .i64 a, .int .i64 b, .int .i64 c], u.oneCell' = true := by
  intro u hu; simp at hu; rcases hu with rfl | rfl | rfl <;> rfl
def FOut (s : ByteArray) (A : List Ak) (f : Fp) (ga : Option Addr) (gc n : Nat) (w w' : World) (fs' : FS) : Prop :=
  ChgF f (.slice ga n gc) w w' ∧ ∃ ga' gc', FkOK s A w' f ga' gc' fs' ∧ ((Value.slice ga' fs'.gs.length gc').ownBlock = (Value.slice ga n gc).ownBlock ∨ ∃ g, w.heap.size ≤ g ∧ (Value.slice ga' fs'.gs.length gc').ownBlock = some g)
theorem meet_some {fs : FS} {b x : Nat} {g : Gp} (h : hasG fs.gs b x = some g) : meetF fs b x = (g.en, fs) := by unfold meetF; rw [h]
theorem meet_none {fs : FS} {b x : Nat} (h : hasG fs.gs b x = none) : meetF fs b x = (-1, { fs with gs := fs.gs ++ [⟨b, x, -1⟩], grew := true }) := by unfold meetF; rw [h]
set_option maxRecDepth 100000 in
set_option maxHeartbeats 2000000 in
theorem p72 (s : ByteArray) (A : List Ak) (w : World) (f : Fp) (ga : Option Addr) (gc : Nat) (fs : FS) (b x : Nat) (hb : b ≤ 1000) (hx : x < 24) (hl : fs.gs.length ≤ 30000) (h : FkOK s A w f ga gc fs) :
    Calls Tryz.prog 70 #[.pointer (some ⟨f.F, 0, none⟩), .int .i64 b, .int .i64 x] w fun e w' => e = .returned (.int .i64 (meetF fs b x).1) ∧ FOut s A f ga gc fs.gs.length w w' (meetF fs b x).2 := by
  obtain ⟨i0, hi, hz0, hz1, hz2⟩ := info_parts infoGp
  have H := hidS h
  have c1 := h.c1
  have c3 := h.c3
  have f1 := h.f1
  have f3 := h.f3
  have hown := h.own
  have l0 := h.l0
  have l3 := h.l3
  clear h
  have HO := hidS hown
  obtain ⟨R, hR⟩ : ∃ R, R = meetF fs b x := ⟨_, rfl⟩
  rw [← hR]
  have HR := hidS hR
  clear hR
  go_enter Tryz.func70, Tryz.ntmps70
  go_wp2
  go_loopw [7] (fun iv wr => ∃ k : Nat, k ≤ fs.gs.length ∧ iv = .int .i64 k ∧ Hid (hasG fs.gs b x = hasG (fs.gs.drop k) b x) ∧ Hid (wr = w)) (fun iv _ => fs.gs.length - (intOf iv).toNat)
  case atStart => exact ⟨0, Nat.zero_le _, rfl, rfl, rfl⟩
  case round =>
    obtain ⟨k, hk, rfl, HH, HD⟩ := hrel
    have hD : w = wr := HD.out.symm
    subst hD
    clear HD
    by_cases hlt : k < fs.gs.length
    · obtain ⟨g, rfl, k0, k1, k2, _⟩ := gp_at HO.out k hlt
      have HS := hidS (hasG_drop fs.gs b x k hlt)
      by_cases hm : fs.gs[k].b = b ∧ fs.gs[k].f = x
      · have HF : Hid (R = (fs.gs[k].en, fs)) := by show _ = _; rw [HR.out]; exact meet_some (by rw [HH.out, HS.out, if_pos hm])
        rw [hm.1] at k0
        rw [hm.2] at k1
        clear HS hm hown
        generalize fs.gs[k].en = EN at *
        go_wp2
        go_ret
        refine ⟨retS_int (by rw [HF.out]), ?_⟩
        rw [HF.out]
        exact ⟨ChgF.refl _ _ _, some ⟨g, 0, none⟩, gc, H.out, .inl rfl⟩
      · have HF : Hid (hasG fs.gs b x = hasG (fs.gs.drop (k + 1)) b x) := by show _ = _; rw [HH.out, HS.out, if_neg hm]
        clear HS HH hown
        by_cases hb1 : fs.gs[k].b = b
        · have e1 : (((fs.gs[k].b : Nat) : Int) == (b : Int)) = true := by simp [hb1]
          have e2 : (((fs.gs[k].f : Nat) : Int) == (x : Int)) = false := by
            have : fs.gs[k].f ≠ x := fun q => hm ⟨hb1, q⟩
            simp; omega
          clear hm hb1
          generalize fs.gs[k].b = g1 at *
          generalize fs.gs[k].f = g2 at *
          go_wp2
          exact ⟨⟨k + 1, by omega, by go_num, HF.out, by first | trivial | rfl⟩, by simp [intOf]; omega⟩
        · have e1 : (((fs.gs[k].b : Nat) : Int) == (b : Int)) = false := by simp; omega
          clear hm hb1
          generalize fs.gs[k].b = g1 at *
          go_wp2
          exact ⟨⟨k + 1, by omega, by go_num, HF.out, by first | trivial | rfl⟩, by simp [intOf]; omega⟩
    · have HF : Hid (R = (-1, { fs with gs := fs.gs ++ [⟨b, x, -1⟩], grew := true })) := by
        show _ = _
        rw [HR.out]
        refine meet_none ?_
        rw [HH.out, List.drop_eq_nil_of_le (by omega)]; rfl
      clear HR HH
      have hbw : f.F < w.heap.size := by omega
      go_wp2_with (at_builtin; refine wpList_append_lies _ rfl _ _ 108 rfl f.B 131 i0 (.agg #[.int .i64 0, .int .i64 0, .int .i64 0]) 3 24 Tryz.underlying108 hi hz0 hz1 hz2 rfl (by decide) _ _ _ rfl (hown.alloc _) ⟨w.heap.size, 0, none⟩ 1 1 [.int .i64 b, .int .i64 x, .int .i64 (-1)] rfl rfl ?c1 ?c2 (by decide) ?c3 ?c4 ?c5 _ rfl ?_)
      case c1 => exact gp_cells w b x (-1)
      case c2 => exact gp_one _ _ _
      case c3 => unfold maxLen; omega
      case c4 => omega
      case c5 => simp; omega
      intro g cap w1 hown1 hg1 hat1 hlt1
      have hsz := hg1.size
      simp only [World.size_alloc] at hsz
      have blk : ∀ k, k < w.heap.size → some k ≠ (Value.slice ga fs.gs.length gc).ownBlock → w1.heap[k]? = w.heap[k]? := fun k h1 h2 => (hg1.block k (by simp; omega) h2).trans (Below.heap_alloc _ _ _ h1)
      have hF1 := H.out.l1
      have hF2 := H.out.l2
      have nb : ∀ k, k < f.B → some k ≠ (Value.slice ga fs.gs.length gc).ownBlock := fun k hk e => by have := (hown.lt k e.symm).1; omega
      have b0 := blk f.F hbw (nb _ l0)
      have b1 := blk f.ag (by omega) (nb _ hF1)
      have b2 := blk f.cg (by omega) (nb _ hF2)
      have q1 : w1.cell? ⟨f.F, 1, none⟩ = some (.slice ga fs.gs.length gc) := (World.cell?_of_block b0).trans c1
      have q3 : w1.cell? ⟨f.F, 3, none⟩ = some (.bool fs.grew) := (World.cell?_of_block b0).trans c3
      have p1 : w1.frozen? ⟨f.F, 1, none⟩ = false := (World.frozen?_of_block b0).trans f1
      have p3 : w1.frozen? ⟨f.F, 3, none⟩ = false := (World.frozen?_of_block b0).trans f3
      have HW : Hid (FkOK s A ((w1.setCell ⟨f.F, 1, none⟩ (.slice (some ⟨g, 0, none⟩) (fs.gs.length + 1) cap)).setCell ⟨f.F, 3, none⟩ (.bool true)) f (some ⟨g, 0, none⟩) cap { fs with gs := fs.gs ++ [⟨b, x, -1⟩], grew := true }) := by
        have hh := H.out
        have len : (fs.gs ++ [(⟨b, x, -1⟩ : Gp)]).length = fs.gs.length + 1 := by simp
        have fa : ∀ k, k ≠ f.F → ((w1.setCell ⟨f.F, 1, none⟩ (.slice (some ⟨g, 0, none⟩) (fs.gs.length + 1) cap)).setCell ⟨f.F, 3, none⟩ (.bool true)).heap[k]? = w1.heap[k]? := fun k hk => (set_far _ f.F 3 _ k hk).trans (set_far _ f.F 1 _ k hk)
        have fb : ∀ j, 1 ≠ j → 3 ≠ j → ((w1.setCell ⟨f.F, 1, none⟩ (.slice (some ⟨g, 0, none⟩) (fs.gs.length + 1) cap)).setCell ⟨f.F, 3, none⟩ (.bool true)).cell? ⟨f.F, j, none⟩ = w.cell? ⟨f.F, j, none⟩ := fun j h1 h3 => ((cellO _ _ _ _ _ h3).trans (cellO _ _ _ _ _ h1)).trans (World.cell?_of_block b0)
        refine ⟨(fb 0 (by decide) (by decide)).trans hh.c0, ?_, (fb 2 (by decide) (by decide)).trans hh.c2, cellS (u := .bool fs.grew) _ ((cellO _ _ _ _ _ (by decide)).trans q3), by simpa using p1, by simpa using p3, ?_, hh.act.far ((fa _ hh.n1.symm).trans b1), fun i hi' c hc => ?_, hh.n1, hh.n2, hh.n3, hh.l0, hh.l1, hh.l2, by simp; omega, hh.la⟩
        · show _ = some (Value.slice _ (fs.gs ++ [(⟨b, x, -1⟩ : Gp)]).length cap)
          rw [len]; exact (cellO _ _ _ _ _ (by decide)).trans (cellS _ q1)
        · show World.ownsRow _ _ _ _ (.slice _ (fs.gs ++ [(⟨b, x, -1⟩ : Gp)]).length cap) (fs.gs ++ [(⟨b, x, -1⟩ : Gp)]).length (gsC (fs.gs ++ [(⟨b, x, -1⟩ : Gp)]))
          rw [len]
          have e : gsC (fs.gs ++ [(⟨b, x, -1⟩ : Gp)]) = gsC fs.gs ++ [.int .i64 b, .int .i64 x, .int .i64 (-1)] := by simp [gsC]
          rw [e]
          exact own_far hown1 (fun k hk => fa k (by have := (hown1.lt k hk).1; omega))
        · have h2 := (fa _ hh.n2.symm).trans b2
          exact ⟨(World.cell?_of_block h2).trans (hh.com i hi' c hc).1, (World.frozen?_of_block h2).trans (hh.com i hi' c hc).2⟩
      have HC : Hid (ChgF f (.slice ga fs.gs.length gc) w ((w1.setCell ⟨f.F, 1, none⟩ (.slice (some ⟨g, 0, none⟩) (fs.gs.length + 1) cap)).setCell ⟨f.F, 3, none⟩ (.bool true))) :=
        ⟨hg1.os, hg1.tape, hg1.output, by simp; omega, fun k h1 h2 h3 h4 => (set_far _ f.F 3 _ k h2).trans ((set_far _ f.F 1 _ k h2).trans (blk k h1 h4))⟩
      have HAt := hidS hat1
      have q3' : (w1.setCell ⟨f.F, 1, none⟩ (.slice (some ⟨g, 0, none⟩) (fs.gs.length + 1) cap)).cell? ⟨f.F, 3, none⟩ = some (.bool fs.grew) := (cellO _ _ _ _ _ (by decide)).trans q3
      clear hown1 hg1 hat1 hown c1 c3 f1 f3 b0 b1 b2 blk nb
      go_wp2
      go_ret
      refine ⟨retS_int (by rw [HF.out]), ?_⟩
      rw [HF.out]
      refine ⟨HC.out, some ⟨g, 0, none⟩, cap, HW.out, ?_⟩
      rcases HAt.out with h1 | h1
      · exact .inl h1.symm
      · exact .inr ⟨g, by omega, rfl⟩
end Go.Proofs.YtffkejkgkgfnhabGreat
namespace Go.Proofs.YtffkejkgkgfnhabGreat
open Go.RowKit
set_option linter.unusedVariables false
theorem idx_le (nm : ByteArray) (A : List Ak) (k : Nat) : idxA nm A k ≤ k + A.length := by
  induction A generalizing k with
  | nil => simp [idxA]
  | cons a r ih =>
    simp only [idxA]
    split
    · simp
    · have := ih (k + 1); simp; omega
theorem call_no' {A : List Ak} {nm : ByteArray} {x : Int} {fs : FS} (h : ¬ (hitB nm A = true ∧ x ≠ -1)) : callF A nm x fs = (-1, fs) := by unfold callF; rw [if_neg h]
set_option maxRecDepth 100000 in
set_option maxHeartbeats 2000000 in
theorem p112 (s : ByteArray) (A : List Ak) (w : World) (f : Fp) (ga : Option Addr) (gc : Nat) (fs : FS) (nm : ByteArray) (x : Int) (hx : -1 ≤ x ∧ x ≤ 23) (hl : fs.gs.length ≤ 30000) (h : FkOK s A w f ga gc fs) :
    Calls Tryz.prog 122 #[.pointer (some ⟨f.F, 0, none⟩), .string nm, .int .i64 x] w fun e w' => e = .returned (.int .i64 (callF A nm x fs).1) ∧ FOut s A f ga gc fs.gs.length w w' (callF A nm x fs).2 := by
  have H := hidS h
  have c0 := h.c0
  have hA := h.la
  have hfd : Hid (∀ wx, AkAt s wx f.ag A → Calls Tryz.prog 69 #[.slice (some ⟨f.ag, 0, none⟩) A.length f.ac, .string nm] wx fun e w' => e = .returned (.tuple #[.int .i64 (idxA nm A 0), .bool (hitB nm A)]) ∧ w' = wx) := fun wx hw => by
    have := c71 s wx f.ag f.ac A.length A nm (Nat.le_refl _) hA hw
    rw [List.take_length] at this
    exact this
  have hil := idx_le nm A 0
  have HAK := hidS h.act
  obtain ⟨R, hR⟩ : ∃ R, R = callF A nm x fs := ⟨_, rfl⟩
  rw [← hR]
  by_cases hc : hitB nm A = true ∧ x ≠ -1
  · obtain ⟨n, rfl⟩ : ∃ n : Nat, x = n := ⟨x.toNat, by omega⟩
    have HF : Hid (R = meetF fs (idxA nm A 0) n) := by show _ = _; rw [hR]; unfold callF; rw [if_pos hc]; simp
    have Hm := hidS (fun wx (hw : FkOK s A wx f ga gc fs) => p72 s A wx f ga gc fs (idxA nm A 0) n (by omega) (by omega) hl hw)
    have hh : hitB nm A = true := hc.1
    rw [hh] at hfd
    have e1 : ((n : Int) == -1) = false := by simp
    clear hR hc h
    generalize idxA nm A 0 = I at *
    go_enter Tryz.func122, Tryz.ntmps122
    go_wp2_with fail
    refine (hfd.out _ HAK.out).mono ?_
    rintro e w1 ⟨rfl, hw⟩
    obtain rfl := hw.symm
    go_wp2_with fail
    refine (Hm.out _ H.out).mono ?_
    rintro e w1 ⟨rfl, ho⟩
    have HO := hidS ho
    clear ho Hm
    rw [← HF.out] at HO
    rw [← HF.out]
    go_wp2
    go_ret
    exact ⟨rfl, HO.out⟩
  · have HF : Hid (R = (-1, fs)) := by show _ = _; rw [hR]; exact call_no' hc
    cases hh : hitB nm A
    · rw [hh] at hfd
      clear hR hc h
      generalize idxA nm A 0 = I at *
      go_enter Tryz.func122, Tryz.ntmps122
      go_wp2_with fail
      refine (hfd.out _ HAK.out).mono ?_
      rintro e w1 ⟨rfl, hw⟩
      obtain rfl := hw.symm
      go_wp2
      go_ret
      refine ⟨retS_int (by rw [HF.out]), ?_⟩
      rw [HF.out]
      exact ⟨ChgF.refl _ _ _, ga, gc, H.out, .inl rfl⟩
    · have hx1 : x = -1 := by apply Decidable.byContradiction; intro q; exact hc ⟨hh, q⟩
      have e1 : (x == -1) = true := by simp [hx1]
      rw [hh] at hfd
      clear hR hc h hx1
      generalize idxA nm A 0 = I at *
      go_enter Tryz.func122, Tryz.ntmps122
      go_wp2_with fail
      refine (hfd.out _ HAK.out).mono ?_
      rintro e w1 ⟨rfl, hw⟩
      obtain rfl := hw.symm
      go_wp2
      go_ret
      refine ⟨retS_int (by rw [HF.out]), ?_⟩
      rw [HF.out]
      exact ⟨ChgF.refl _ _ _, ga, gc, H.out, .inl rfl⟩
end Go.Proofs.YtffkejkgkgfnhabGreat
namespace Go.Proofs.YtffkejkgkgfnhabGreat
open Go.RowKit
set_option linter.unusedVariables false
/-- texts no longer than any can be -/
def Dat.fits : Dat → Prop
  | .nil => True
  | .fld nm li tx rows r => tx.size ≤ maxLen ∧ rows.fits ∧ r.fits
  | .row f r => f.fits ∧ r.fits
theorem Dat.fits_bulk : ∀ d : Dat, d.bulk ≤ maxLen → d.fits
  | .nil, _ => trivial
  | .fld nm li tx rows r, h => by
    simp only [Dat.bulk] at h
    exact ⟨by omega, Dat.fits_bulk rows (by omega), Dat.fits_bulk r (by omega)⟩
  | .row f r, h => by
    simp only [Dat.bulk] at h
    exact ⟨Dat.fits_bulk f (by omega), Dat.fits_bulk r (by omega)⟩
theorem Dat.fits_drop : ∀ (d : Dat) (i : Nat), d.fits → (d.drop i).fits
  | d, 0, h => by rw [Dat.drop_zero]; exact h
  | .nil, i + 1, h => trivial
  | .fld _ _ _ _ r, i + 1, h => Dat.fits_drop r i h.2.2
  | .row _ r, i + 1, h => Dat.fits_drop r i h.2
def EnvQ (w : World) (N : Nat) : List Dat → List Value → Prop
  | [], xs => xs = []
  | d :: R, xs => ∃ (a : Option Addr) (c : Nat) (ys : List Value), xs = .slice a d.len c :: ys ∧ DatV w N a d ∧ d.ok false ∧ d.fits ∧ d.len ≤ c ∧ c ≤ maxLen ∧ EnvQ w N R ys
theorem EnvQ.mono {w w' : World} {N : Nat} (hw : ∀ k, k < N → w'.heap[k]? = w.heap[k]?) : ∀ (R : List Dat) (xs : List Value), EnvQ w N R xs → EnvQ w' N R xs
  | [], xs, h => h
  | d :: R, xs, h => by
    obtain ⟨a, c, ys, h1, h2, h3, h4, h5, h6, h7⟩ := h
    exact ⟨a, c, ys, h1, h2.mono (Nat.le_refl _) hw, h3, h4, h5, h6, EnvQ.mono hw R ys h7⟩
theorem EnvQ.snoc {w : World} {N : Nat} {d : Dat} {a : Option Addr} {c : Nat} (h1 : DatV w N a d) (h2 : d.ok false) (h3 : d.fits) (h4 : d.len ≤ c) (h5 : c ≤ maxLen) : ∀ (R : List Dat) (xs : List Value), EnvQ w N R xs → EnvQ w N (R ++ [d]) (xs ++ [.slice a d.len c])
  | [], xs, h => by
    have h' : xs = [] := h
    subst h'
    exact ⟨a, c, [], rfl, h1, h2, h3, h4, h5, rfl⟩
  | e :: R, xs, h => by
    obtain ⟨a', c', ys, rfl, k2, k3, k4, k5, k6, k7⟩ := h
    exact ⟨a', c', ys ++ [.slice a d.len c], rfl, k2, k3, k4, k5, k6, EnvQ.snoc h1 h2 h3 h4 h5 R ys k7⟩
theorem EnvQ.length {w : World} {N : Nat} : ∀ (R : List Dat) (xs : List Value), EnvQ w N R xs → xs.length = R.length
  | [], xs, h => by
    have h' : xs = [] := h
    subst h'; rfl
  | d :: R, xs, h => by
    obtain ⟨a, c, ys, rfl, _, _, _, _, _, h7⟩ := h
    simp [EnvQ.length R ys h7]
theorem EnvQ.at {w : World} {N : Nat} : ∀ (R : List Dat) (xs : List Value) (i : Nat) (hi : i < R.length), EnvQ w N R xs → ∃ a c, xs[i]? = some (.slice a R[i].len c) ∧ DatV w N a R[i] ∧ R[i].ok false ∧ R[i].fits ∧ R[i].len ≤ c ∧ c ≤ maxLen
  | [], xs, i, hi, h => absurd hi (by simp)
  | d :: R, xs, 0, hi, h => by
    obtain ⟨a, c, ys, rfl, h2, h3, h4, h5, h6, h7⟩ := h
    exact ⟨a, c, rfl, h2, h3, h4, h5, h6⟩
  | d :: R, xs, i + 1, hi, h => by
    obtain ⟨a, c, ys, rfl, h2, h3, h4, h5, h6, h7⟩ := h
    exact EnvQ.at R ys i (by simpa using hi) h7
theorem EnvQ.front {w : World} {N : Nat} {f : Dat} : ∀ (R : List Dat) (xs : List Value), EnvQ w N (R ++ [f]) xs → EnvQ w N R (xs.take R.length)
  | [], xs, h => by simp [EnvQ]
  | d :: R, xs, h => by
    obtain ⟨a, c, ys, rfl, h2, h3, h4, h5, h6, h7⟩ := h
    exact ⟨a, c, ys.take R.length, by simp, h2, h3, h4, h5, h6, EnvQ.front R ys h7⟩
def FldQ (w : World) (N : Nat) (nm : ByteArray) (R : List Dat) (e : Ending) : Prop :=
  (lkp nm R = none ∧ e = .returned (.tuple #[.agg #[.string ⟨#[]⟩, .bool false, .string ⟨#[]⟩, .slice none 0 0], .bool false])) ∨
  (∃ n l t rows a c, lkp nm R = some (n, l, t, rows) ∧ e = .returned (.tuple #[.agg #[.string n, .bool l, .string t, .slice a rows.len c], .bool true]) ∧ DatV w N a rows ∧ rows.ok true ∧ (rows.fits ∧ t.size ≤ maxLen) ∧ rows.len ≤ c ∧ c ≤ maxLen)
/-- what is asked of a Render, whatever the data's bulk -/
def PROKW (f : Nat) : Prop := ∀ (s nm : ByteArray) (way : Int) (w : World) (da : Option Addr) (d : Dat) (dc : Nat), s.size ≤ maxLen → DatV w w.heap.size da d → d.ok false → d.fits → d.len ≤ dc → dc ≤ maxLen →
  Calls Tryz.prog f #[.int .i64 way, .string s, .string nm, .agg #[.slice da d.len dc]] w fun e w' => Below w.heap.size w w' ∧ RenPost s nm way d e
theorem PROKW.small {f : Nat} (h : PROKW f) : PROK f := fun s nm way w da d dc h1 h2 h3 h4 h5 h6 => h s nm way w da d dc h1 h2 h3 (Dat.fits_bulk d (by unfold maxLen; omega)) h5 h6
end Go.Proofs.YtffkejkgkgfnhabGreat
