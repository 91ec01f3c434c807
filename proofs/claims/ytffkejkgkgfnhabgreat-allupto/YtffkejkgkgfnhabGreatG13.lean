import Derived.Test.YtffkejkgkgfnhabGreatG12
import Derived.Test.YtffkejkgkgfnhabGreatG10
namespace Go.Proofs.YtffkejkgkgfnhabGreat
open Go.RowKit
set_option linter.unusedVariables false
def zB (n : Nat) : Array Value := madeCells (Value.bool false).cells n
def zI (n : Nat) : Array Value := madeCells (Value.int .i64 0).cells n
theorem infoInt : (Tryz.prog.info? 3).map (fun i => (i.zero, i.size, i.bytes)) = some (some (.int .i64 0), 1, 8) := by kernel_rfl
theorem infoBool : (Tryz.prog.info? 4).map (fun i => (i.zero, i.size, i.bytes)) = some (some (.bool false), 1, 1) := by kernel_rfl
theorem make82 (w : World) (n : Nat) (hn : n ≤ 10000) : (Instr.makeSlice 82 (.int .i64 n) (.int .i64 n)).run Tryz.prog w = .ok (.slice (some ⟨w.heap.size, 0, none⟩) n n) (w.alloc (.cells (zB n) 4)) := by
  obtain ⟨i0, hi, hz0, hz1, hz2⟩ := info_parts infoBool
  have := run_make (P := Tryz.prog) w 82 4 i0 (.bool false) Tryz.underlying82 hi hz0 .i64 .i64 n n (by omega) (by omega) (by rw [hz2]; omega) (by omega)
  rw [hz1] at this
  simpa [zB] using this
theorem make83 (w : World) (n : Nat) (hn : n ≤ 10000) : (Instr.makeSlice 83 (.int .i64 n) (.int .i64 n)).run Tryz.prog w = .ok (.slice (some ⟨w.heap.size, 0, none⟩) n n) (w.alloc (.cells (zI n) 3)) := by
  obtain ⟨i0, hi, hz0, hz1, hz2⟩ := info_parts infoInt
  have := run_make (P := Tryz.prog) w 83 3 i0 (.int .i64 0) Tryz.underlying83 hi hz0 .i64 .i64 n n (by omega) (by omega) (by rw [hz2]; omega) (by omega)
  rw [hz1] at this
  simpa [zI] using this
theorem zB_at (n k : Nat) (h : k < n) : (zB n)[k]? = some (.bool false) := by simp [zB, madeCells, h, Value.cells, Nat.mod_one]
theorem zI_at (n k : Nat) (h : k < n) : (zI n)[k]? = some (.int .i64 0) := by simp [zI, madeCells, h, Value.cells, Nat.mod_one]
def st00 : RS := ⟨fun _ => false, fun _ => 0, fun _ => false, false, false⟩
theorem heap_new (w : World) (o : Obj) : (w.alloc o).heap[w.heap.size]? = some o := by
  show (w.heap.push o)[w.heap.size]? = some o
  simp
theorem four (w : World) (o1 o2 o3 o4 : Obj) : ((((w.alloc o1).alloc o2).alloc o3).alloc o4).drew.heap[w.heap.size]? = some o1 ∧ ((((w.alloc o1).alloc o2).alloc o3).alloc o4).drew.heap[w.heap.size + 1]? = some o2 ∧
    ((((w.alloc o1).alloc o2).alloc o3).alloc o4).drew.heap[w.heap.size + 1 + 1]? = some o3 ∧ ((((w.alloc o1).alloc o2).alloc o3).alloc o4).drew.heap[w.heap.size + 1 + 1 + 1]? = some o4 := by
  have s1 : (w.alloc o1).heap.size = w.heap.size + 1 := by simp
  have s2 : ((w.alloc o1).alloc o2).heap.size = w.heap.size + 1 + 1 := by simp
  have s3 : (((w.alloc o1).alloc o2).alloc o3).heap.size = w.heap.size + 1 + 1 + 1 := by simp
  have n1 := heap_new w o1
  have n2 := heap_new (w.alloc o1) o2
  have n3 := heap_new ((w.alloc o1).alloc o2) o3
  have n4 := heap_new (((w.alloc o1).alloc o2).alloc o3) o4
  rw [s1] at n2
  rw [s2] at n3
  rw [s3] at n4
  show _ ∧ _ ∧ _ ∧ (((((w.alloc o1).alloc o2).alloc o3).alloc o4)).heap[w.heap.size + 1 + 1 + 1]? = some o4
  refine ⟨?_, ?_, ?_, n4⟩
  · exact ((Below.heap_alloc _ _ _ (by omega)).trans ((Below.heap_alloc _ _ _ (by omega)).trans (Below.heap_alloc _ _ _ (by omega)))).trans n1
  · exact ((Below.heap_alloc _ _ _ (by omega)).trans (Below.heap_alloc _ _ _ (by omega))).trans n2
  · exact (Below.heap_alloc _ _ _ (by omega)).trans n3
theorem wk0 (W : World) (p : Wp) (B0 I0 U0 : Array Value) (h0 : W.heap[p.b]? = some (.cells #[.slice p.la p.tl p.lc, .slice (some ⟨p.gb, 0, none⟩) p.n p.nc, .slice (some ⟨p.ge, 0, none⟩) p.n p.ec, .slice (some ⟨p.gu, 0, none⟩) 9624 p.uc, .bool false, .bool false] 85 (0, 0)))
    (h1 : W.heap[p.gb]? = some (.cells B0 4 (0, 0))) (h2 : W.heap[p.ge]? = some (.cells I0 3 (0, 0))) (h3 : W.heap[p.gu]? = some (.cells U0 4 (0, 0)))
    (hB : ∀ k, k < p.n → B0[k]? = some (.bool false)) (hI : ∀ k, k < p.n → I0[k]? = some (.int .i64 0)) (hU : ∀ k, k < 9624 → U0[k]? = some (.bool false))
    (hn : p.b ≠ p.gb ∧ p.b ≠ p.ge ∧ p.b ≠ p.gu ∧ p.gb ≠ p.ge ∧ p.gb ≠ p.gu ∧ p.ge ≠ p.gu) (hl : p.b < W.heap.size ∧ p.gb < W.heap.size ∧ p.ge < W.heap.size ∧ p.gu < W.heap.size) (h24 : p.n ≤ 144) : WkOK W p st00 := by
  have c := fun j => cell_of_heap (j := j) h0
  have f : ∀ {g : Nat} {cur : Array Value} {ty : Nat} (j : Nat), W.heap[g]? = some (.cells cur ty (0, 0)) → W.frozen? ⟨g, j, none⟩ = false := by
    intro g cur ty j h
    simp [World.frozen?, h]
  exact ⟨c 0, c 1, c 2, c 3, c 4, c 5, f 4 h0, f 5 h0, fun k hk => ⟨(cell_of_heap h1).trans (hB k hk), f k h1⟩, fun k hk => ⟨(cell_of_heap h2).trans (hI k hk), f k h2⟩, fun k hk => ⟨(cell_of_heap h3).trans (hU k hk), f k h3⟩,
    hn.1, hn.2.1, hn.2.2.1, hn.2.2.2.1, hn.2.2.2.2.1, hn.2.2.2.2.2, hl.1, hl.2.1, hl.2.2.1, hl.2.2.2, h24⟩
theorem andn64 (m : Nat) (hm : m < 2 ^ 24) : (bits .andNot .i64 (m : Int) 1 != 0) = true ↔ ∃ y, y ≠ 0 ∧ bt m y := by
  have h1 : (BitVec.ofInt 64 (m : Int)).toNat = m := by
    rw [BitVec.ofInt_natCast, BitVec.toNat_ofNat]; exact Nat.mod_eq_of_lt (by omega)
  have e : bits .andNot .i64 (m : Int) 1 = ((m &&& (2 ^ 64 - (1 + 1)) : Nat) : Int) := by
    have hx : m &&& (2 ^ 64 - (1 + 1)) < 2 ^ 24 := by
      rw [Nat.and_comm]; exact Nat.and_lt_two_pow _ hm
    show IntKind.i64.wrap ((BitVec.ofInt 64 (m : Int) &&& ~~~ BitVec.ofInt 64 1).toNat : Int) = _
    rw [BitVec.toNat_and, h1, IntKind.wrap_i64]
    have e2 : (~~~ BitVec.ofInt 64 1).toNat = 2 ^ 64 - (1 + 1) := by decide
    rw [e2]
    omega
  rw [e]
  have e3 : ((((m &&& (2 ^ 64 - (1 + 1)) : Nat) : Int)) != 0) = true ↔ m &&& (2 ^ 64 - (1 + 1)) ≠ 0 := by
    rw [bne_iff_ne]; omega
  rw [e3]
  constructor
  · intro h
    obtain ⟨y, hy⟩ := Nat.exists_testBit_of_ne_zero h
    rw [Nat.testBit_and, Nat.testBit_two_pow_sub_succ (by decide)] at hy
    simp only [Bool.and_eq_true, decide_eq_true_eq, Bool.not_eq_true'] at hy
    refine ⟨y, fun e => ?_, hy.1⟩
    subst e
    simp at hy
  · rintro ⟨y, h0, hy⟩ h
    have hl := bt_lt m y hm hy
    have : (m &&& (2 ^ 64 - (1 + 1))).testBit y = true := by
      rw [Nat.testBit_and, Nat.testBit_two_pow_sub_succ (by decide)]
      rw [bt] at hy
      rw [hy]
      have : (1 : Nat).testBit y = false := by
        cases h' : (1 : Nat).testBit y
        · rfl
        · have := (bt_pow 0 y).1 (by simpa [bt] using h'); omega
      simp [this]; omega
    rw [h] at this; simp at this
def st01 (t0 : Nat) : RS := { st00 with beg := upd st00.beg (t0 * 24), new := true }
theorem wst0 (ts : List Tm) (t0 : Nat) (ht : t0 < ts.length) : Wst ts t0 0 (st01 t0) := by
  have g : Grw st00 (st01 t0) := ⟨fun k h => absurd h (by simp [st00]), fun _ _ h => h⟩
  refine ⟨⟨fun t x hx hb => ?_, fun t x y hx hy => absurd hy (bt_zero y), fun a x hx hu => (by cases hu), fun h => (by cases h), fun j => (by show 0 < 2 ^ 24; decide)⟩, ?_, fun j hj => ?_, fun _ => ?_, fun h => by cases h⟩
  · have hb' : upd st00.beg (t0 * 24) (t * 24 + x) = true := hb
    unfold upd at hb'
    split at hb'
    · have : t = t0 ∧ x = 0 := by omega
      rw [this.1, this.2]
      exact fun B E h => h.start
    · cases hb'
  · exact upd_at _ _
  · have hj' : upd st00.beg (t0 * 24) j = true := hj
    unfold upd at hj'
    split at hj'
    · omega
    · cases hj'
  · have := phi_strict g (ts.length * 24) (.inl ⟨t0 * 24, by omega, rfl, upd_at _ _⟩)
    omega
def WalkedPost (ts : List Tm) (t0 : Nat) (w : World) (e : Ending) (w' : World) : Prop :=
  ∃ (p : Wp) (st : RS), e = .returned (.pointer (some ⟨p.b, 0, none⟩)) ∧ WkOK w' p st ∧ Below w.heap.size w w' ∧ (st.wrong = true ↔ TBad ts t0) ∧ (st.wrong = false → ∀ a x, x < 24 → (st.used (a * 24 + x) = true ↔ Evs ts t0 (.use a x)))
theorem Chg.below {p : Wp} {w W w' : World} (h : Chg p W w') (hb : Below w.heap.size w W) (l0 : w.heap.size ≤ p.b) (l1 : w.heap.size ≤ p.gb) (l2 : w.heap.size ≤ p.ge) (l3 : w.heap.size ≤ p.gu) : Below w.heap.size w w' :=
  hb.trans ⟨h.os, h.tape, h.output, h.size, fun k hk => h.block k (by have := hb.size; omega) (by omega) (by omega) (by omega) (by omega)⟩
set_option maxRecDepth 100000 in
set_option maxHeartbeats 4000000 in
theorem w49 (ts : List Tm) (w : World) (A : Nat → Prop) (la : Option Addr) (lc t0 N : Nat) (hN : N = ts.length * 24) (hT : WfT ts) (h6 : ts.length ≤ 6) (ht : t0 < ts.length) (hd : ∀ k, A k → k < w.heap.size) (hS : SlcX w A 72 3 (.slice la ts.length lc) ts.length (RowT w A ts)) :
    Calls Tryz.prog 46 #[.slice la ts.length lc, .int .i64 t0] w fun e w' => WalkedPost ts t0 w e w' := by
  have HT := hidS hT
  have HS := hidS hS
  have HD := hidS hd
  clear hT hS hd
  go_enter Tryz.func46, Tryz.ntmps46
  go_wp2
  have hN' : (ts.length : Int) * 24 = (N : Int) := by omega
  rw [hN']
  have M1 := fun wx : World => make82 wx N (by omega)
  have M2 := fun wx : World => make83 wx N (by omega)
  have M3 := fun wx : World => make82 wx 9624 (by omega)
  change ∀ wx : World, (Instr.makeSlice 82 (.int .i64 9624) (.int .i64 9624)).run Tryz.prog wx = _ at M3
  have HN := hidS hN
  have hlt : t0 * 24 < N := by omega
  have h144 : N ≤ 144 := by omega
  clear hN' hN
  have HB := hidS (zB_at N)
  have HI := hidS (zI_at N)
  have HU := hidS (zB_at 9624)
  generalize zB 9624 = U0 at *
  generalize zB N = B0 at *
  generalize zI N = I0 at *
  rename_i Q' K hK
  have tail : ∀ (b gb ge gu : Nat) (W : World), WkOK W ⟨b, gb, ge, gu, N, N, N, 9624, la, ts.length, lc⟩ st00 → Below w.heap.size w W → w.heap.size ≤ b → w.heap.size ≤ gb → w.heap.size ≤ ge → w.heap.size ≤ gu → Exit.then K Q' Exit.normal { tmps := #[.slice la ts.length lc, .int .i64 t0, undef, undef, .pointer none, .int .i64 N, .pointer (some ⟨b, 0, none⟩), undef, .slice la ts.length lc, .int .i64 ts.length, .int .i64 N, .slice la ts.length lc, .int .i64 N, .slice (some ⟨gb, 0, none⟩) N N, .int .i64 N, .slice (some ⟨ge, 0, none⟩) N N, .slice (some ⟨gu, 0, none⟩) 9624 9624, .agg #[.slice la ts.length lc, .slice (some ⟨gb, 0, none⟩) N N, .slice (some ⟨ge, 0, none⟩) N N, .slice (some ⟨gu, 0, none⟩) 9624 9624, .bool false, .bool false], .pointer (some ⟨b, 0, none⟩), undef, undef, undef, undef, undef, undef, undef, undef, undef, undef, undef, undef, undef, undef, undef, undef, undef, undef, undef, undef, undef, undef, undef, undef, undef, undef, undef, undef, undef, undef, undef, undef, undef, undef, undef, undef, undef, undef, undef, undef, undef], defers := [] } W := by
    clear M1 M2 M3
    intro b gb ge gu W hw hb l0 l1 l2 l3
    have HW := hidS hw
    have HBe := hidS hb
    have c1 : W.cell? ⟨b, 1, none⟩ = some (.slice (some ⟨gb, 0, none⟩) N N) := hw.c1
    have c5 : W.cell? ⟨b, 5, none⟩ = some (.bool false) := hw.c5
    have f5 : W.frozen? ⟨b, 5, none⟩ = false := hw.f5
    obtain ⟨ce, fe⟩ : W.cell? ⟨gb, t0 * 24, none⟩ = some (.bool false) ∧ W.frozen? ⟨gb, t0 * 24, none⟩ = false := hw.beg (t0 * 24) hlt
    have n1 : b ≠ gb := hw.n1
    have i1 : (0 : Int) ≤ (t0 : Int) * 24 := by omega
    have i2 : (t0 : Int) * 24 < (N : Int) := by omega
    have c5' : (W.setCell ⟨gb, t0 * 24, none⟩ (.bool true)).cell? ⟨b, 5, none⟩ = some (.bool false) := (cellF _ _ _ _ _ _ n1).trans c5
    have HW1 : Hid (WkOK ((W.setCell ⟨gb, t0 * 24, none⟩ (.bool true)).setCell ⟨b, 5, none⟩ (.bool true)) (⟨b, gb, ge, gu, N, N, N, 9624, la, ts.length, lc⟩ : Wp) (st01 t0)) := (hw.setBeg (t0 * 24) hlt).setNew true
    have HB1 : Hid (Below w.heap.size w ((W.setCell ⟨gb, t0 * 24, none⟩ (.bool true)).setCell ⟨b, 5, none⟩ (.bool true))) :=
      (((Chg.refl (⟨b, gb, ge, gu, N, N, N, 9624, la, ts.length, lc⟩ : Wp) W).set gb _ _ (.inr (.inl rfl))).set b _ _ (.inl rfl)).below hb l0 l1 l2 l3
    have HEV : Hid (∀ wx, Below w.heap.size w wx → Evn wx (⟨b, gb, ge, gu, N, N, N, 9624, la, ts.length, lc⟩ : Wp) A ts) := fun wx hx =>
      ⟨fun k hk => (by have := HD.out k hk; have := hx.size; show k < wx.heap.size ∧ k ≠ b ∧ k ≠ gb ∧ k ≠ ge ∧ k ≠ gu; omega), SlcX.mono HS.out (fun k hk => hx.block k (HD.out k hk)) (fun _ q => q) (fun xs => RowT.mono (fun k hk => hx.block k (HD.out k hk)) (fun _ q => q) ts xs), rfl, HN.out, h6, by omega⟩
    clear hw hb
    go_wp2
    clear c1 c5 f5 ce fe c5' i1 i2
    go_loopw [7] (fun kv wr => ∃ (k : Nat) (st : RS), k ≤ 3601 ∧ kv = .int .i64 k ∧ Hid (Wst ts t0 k st) ∧ Hid (WkOK wr (⟨b, gb, ge, gu, N, N, N, 9624, la, ts.length, lc⟩ : Wp) st) ∧ Hid (Below w.heap.size w wr)) (fun kv _ => 3601 - (intOf kv).toNat)
    case atStart => exact ⟨0, st01 t0, by omega, rfl, wst0 ts t0 ht, HW1.out, HB1.out⟩
    case round =>
      clear HW1 HB1 HW HBe
      obtain ⟨k, st, hk, rfl, HS1, HW, HBe⟩ := hrel
      have c5 : wr.cell? ⟨b, 5, none⟩ = some (.bool st.new) := HW.out.c5
      have f5 : wr.frozen? ⟨b, 5, none⟩ = false := HW.out.f5
      by_cases hgo : k < 3601 ∧ st.new = true
      · obtain ⟨hk1, hnew⟩ := hgo
        rw [hnew] at c5
        have HW2 : Hid (WkOK (wr.setCell ⟨b, 5, none⟩ (.bool false)) (⟨b, gb, ge, gu, N, N, N, 9624, la, ts.length, lc⟩ : Wp) { st with new := false }) := HW.out.setNew false
        have HB2 : Hid (Below w.heap.size w (wr.setCell ⟨b, 5, none⟩ (.bool false))) := ((Chg.refl (⟨b, gb, ge, gu, N, N, N, 9624, la, ts.length, lc⟩ : Wp) wr).set b _ _ (.inl rfl)).below HBe.out l0 l1 l2 l3
        have Hr := hidS (w75 ts _ (⟨b, gb, ge, gu, N, N, N, 9624, la, ts.length, lc⟩ : Wp) A { st with new := false } (HEV.out _ HB2.out) HW2.out HS1.out.snd.size HT.out)
        go_wp2_with fail
        refine Hr.out.mono ?_
        rintro e w1 ⟨st', rfl, hr, hc, hw⟩
        have HF : Hid (Wst ts t0 (k + 1) st') := wst_round HS1.out ht hnew hr
        have HW3 := hidS hw
        have HB3 : Hid (Below w.heap.size w w1) := hc.below HB2.out l0 l1 l2 l3
        clear hr hc hw Hr
        go_wp2
        exact ⟨⟨k + 1, st', by omega, by go_num, HF.out, HW3.out, HB3.out⟩, by simp [intOf]; omega⟩
      · have hend : st.new = false := wst_end HS1.out h6 (fun h => by
          cases hn : st.new
          · rfl
          · exact absurd ⟨h, hn⟩ hgo)
        rw [hend] at c5
        have c2 : wr.cell? ⟨b, 2, none⟩ = some (.slice (some ⟨ge, 0, none⟩) N N) := HW.out.c2
        obtain ⟨ce, _⟩ : wr.cell? ⟨ge, t0 * 24, none⟩ = some (.int .i64 (st.en (t0 * 24))) ∧ wr.frozen? ⟨ge, t0 * 24, none⟩ = false := HW.out.en (t0 * 24) hlt
        have c4 : wr.cell? ⟨b, 4, none⟩ = some (.bool st.wrong) := HW.out.c4
        have f4 : wr.frozen? ⟨b, 4, none⟩ = false := HW.out.f4
        have hAN := andn64 (st.en (t0 * 24)) (HS1.out.snd.size _)
        have i1 : (0 : Int) ≤ (t0 : Int) * 24 := by omega
        have i2 : (t0 : Int) * 24 < (N : Int) := by omega
        have HTR := hidS (fun W hW => wst_true HS1.out hend W hW)
        clear hgo
        cases hA : (bits .andNot .i64 ((st.en (t0 * 24) : Nat) : Int) 1 != 0)
        · have HF : Hid ((st.wrong = true ↔ TBad ts t0) ∧ (st.wrong = false → ∀ a x, x < 24 → (st.used (a * 24 + x) = true ↔ Evs ts t0 (.use a x)))) := HTR.out st.wrong (by
            constructor
            · exact .inl
            · rintro (h | h)
              · exact h
              · rw [hAN.2 h] at hA; cases hA)
          clear hAN HTR
          generalize st.en (t0 * 24) = EE at *
          by_cases hk1 : k < 3601
          all_goals
            go_wp2
            go_ret
            exact ⟨(⟨b, gb, ge, gu, N, N, N, 9624, la, ts.length, lc⟩ : Wp), st, rfl, HW.out, HBe.out, HF.out.1, HF.out.2⟩
        · have HF : Hid ((true = true ↔ TBad ts t0) ∧ (true = false → ∀ a x, x < 24 → (st.used (a * 24 + x) = true ↔ Evs ts t0 (.use a x)))) := HTR.out true (by
            constructor
            · intro _; exact .inr (hAN.1 hA)
            · intro _; rfl)
          clear hAN HTR
          generalize st.en (t0 * 24) = EE at *
          by_cases hk1 : k < 3601
          all_goals
            go_wp2
            go_ret
            exact ⟨(⟨b, gb, ge, gu, N, N, N, 9624, la, ts.length, lc⟩ : Wp), { st with wrong := true }, rfl, HW.out.setWrong true, ((Chg.refl (⟨b, gb, ge, gu, N, N, N, 9624, la, ts.length, lc⟩ : Wp) wr).set b _ _ (.inl rfl)).below HBe.out l0 l1 l2 l3, (by simpa using HF.out.1), (fun h => by cases h)⟩
  go_region
  all_goals clear M1 M2 M3
  all_goals
    refine tail _ _ _ _ _ (wk0 _ _ B0 I0 U0 ?_ ?_ ?_ ?_ HB.out HI.out HU.out ?_ ?_ h144) ?_ ?_ ?_ ?_ ?_
    · first | exact (four w _ _ _ _).1 | exact (four w _ _ _ _).2.1 | exact (four w _ _ _ _).2.2.1 | exact (four w _ _ _ _).2.2.2
    · first | exact (four w _ _ _ _).1 | exact (four w _ _ _ _).2.1 | exact (four w _ _ _ _).2.2.1 | exact (four w _ _ _ _).2.2.2
    · first | exact (four w _ _ _ _).1 | exact (four w _ _ _ _).2.1 | exact (four w _ _ _ _).2.2.1 | exact (four w _ _ _ _).2.2.2
    · first | exact (four w _ _ _ _).1 | exact (four w _ _ _ _).2.1 | exact (four w _ _ _ _).2.2.1 | exact (four w _ _ _ _).2.2.2
    · dsimp only; omega
    · simp; omega
    · exact below_drewN (((((Below.refl _ _).alloc (Nat.le_refl _) _).alloc (by simp) _).alloc (by simp; omega) _).alloc (by simp; omega) _) 1
    · omega
    · omega
    · omega
    · omega
end Go.Proofs.YtffkejkgkgfnhabGreat
namespace Go.Proofs.YtffkejkgkgfnhabGreat
open Go.RowKit
set_option linter.unusedVariables false
theorem nmEq_refl (a : ByteArray) : nmEq a a = true := by simp [nmEq]
def names (A : List Ak) : List ByteArray := (A.filter fun a => decide (a.kind = 1)).map (·.name)
theorem names_append (A B : List Ak) : names (A ++ B) = names A ++ names B := by simp [names]
def seenB (seen : List ByteArray) (nm : ByteArray) : Bool := seen.any fun x => nmEq x nm
def twA : List ByteArray → List Ak → Int
  | _, [] => -1
  | seen, a :: r => if a.kind = 1 then (if seenB seen a.name then a.at' else twA (seen ++ [a.name]) r) else twA seen r
def twL : List ByteArray → List Tm → Int
  | _, [] => -1
  | seen, t :: r => if seenB seen t.name then t.at' else twL (seen ++ [t.name]) r
def orE (x y : Int) : Int := if 0 ≤ x then x else y
theorem orE_pos (x y : Int) (h : 0 ≤ x) : orE x y = x := by rw [orE, if_pos h]
theorem orE_neg (x y : Int) (h : ¬ 0 ≤ x) : orE x y = y := by rw [orE, if_neg h]
theorem orE_minus (y : Int) : orE (-1) y = y := orE_neg _ _ (by omega)
theorem orE_assoc (x y z : Int) : orE (orE x y) z = orE x (orE y z) := by
  by_cases h : 0 ≤ x
  · rw [orE_pos x y h, orE_pos x z h, orE_pos x _ h]
  · rw [orE_neg x y h, orE_neg x _ h]
theorem twA_yes (seen : List ByteArray) (a : Ak) (r : List Ak) (h1 : a.kind = 1) (h2 : seenB seen a.name = true) : twA seen (a :: r) = a.at' := by simp only [twA, h1, h2, if_true]
theorem twA_go (seen : List ByteArray) (a : Ak) (r : List Ak) (h1 : a.kind = 1) (h2 : seenB seen a.name = false) : twA seen (a :: r) = twA (seen ++ [a.name]) r := by simp only [twA, h1, h2, if_true, Bool.false_eq_true, if_false]
theorem twA_no (seen : List ByteArray) (a : Ak) (r : List Ak) (h1 : a.kind ≠ 1) : twA seen (a :: r) = twA seen r := by simp only [twA, h1, if_false]
theorem twA_append (seen : List ByteArray) (A B : List Ak) : twA seen (A ++ B) = orE (twA seen A) (twA (seen ++ names A) B) := by
  induction A generalizing seen with
  | nil => simp [twA, names, orE]
  | cons a r ih =>
    rw [List.cons_append]
    by_cases h1 : a.kind = 1
    · have hn : names (a :: r) = a.name :: names r := by simp [names, h1]
      cases h2 : seenB seen a.name
      · rw [twA_go _ _ _ h1 h2, twA_go _ _ _ h1 h2, ih, hn]; simp [List.append_assoc]
      · rw [twA_yes _ _ _ h1 h2, twA_yes _ _ _ h1 h2, orE_pos _ _ (by omega)]
    · have hn : names (a :: r) = names r := by simp [names, h1]
      rw [twA_no _ _ _ h1, twA_no _ _ _ h1, ih, hn]
theorem twL_yes (seen : List ByteArray) (a : Tm) (r : List Tm) (h2 : seenB seen a.name = true) : twL seen (a :: r) = a.at' := by simp only [twL, h2, if_true]
theorem twL_go (seen : List ByteArray) (a : Tm) (r : List Tm) (h2 : seenB seen a.name = false) : twL seen (a :: r) = twL (seen ++ [a.name]) r := by simp only [twL, h2, Bool.false_eq_true, if_false]
theorem twL_append (seen : List ByteArray) (A B : List Tm) : twL seen (A ++ B) = orE (twL seen A) (twL (seen ++ A.map (·.name)) B) := by
  induction A generalizing seen with
  | nil => simp [twL, orE]
  | cons a r ih =>
    rw [List.cons_append]
    cases h2 : seenB seen a.name
    · rw [twL_go _ _ _ h2, twL_go _ _ _ h2, ih]; simp [List.append_assoc]
    · rw [twL_yes _ _ _ h2, twL_yes _ _ _ h2, orE_pos _ _ (by omega)]
theorem no_begin (A : List Ak) (h : ∀ a ∈ A, a.kind ≠ 1) : names A = [] ∧ ∀ seen, twA seen A = -1 := by
  induction A with
  | nil => exact ⟨rfl, fun _ => rfl⟩
  | cons a r ih =>
    have h1 := h a (by simp)
    obtain ⟨i1, i2⟩ := ih (fun b hb => h b (by simp [hb]))
    refine ⟨?_, fun seen => ?_⟩
    · have : names (a :: r) = names r := by simp [names, h1]
      rw [this, i1]
    · simp only [twA]; rw [if_neg h1]; exact i2 seen
theorem Flat.kinds {s : ByteArray} {d p e : Nat} {a : Nds} {A : List Ak} (h : Flat s d a p A e) : ∀ x ∈ A, x.kind ≠ 1 := by
  induction h with
  | nil d p => intro x hx; cases hx
  | text h _ ih => exact ih
  | hole h _ ih => 
    intro x hx
    rcases List.mem_cons.1 hx with rfl | hx
    · simp
    · exact ih x hx
  | call h _ ih => 
    intro x hx
    rcases List.mem_cons.1 hx with rfl | hx
    · simp
    · exact ih x hx
  | loop hd h k1 h1 _ ih1 ih =>
    intro x hx
    simp only [List.mem_cons, List.mem_append] at hx
    rcases hx with rfl | hx | rfl | hx
    · simp
    · exact ih1 x hx
    · simp
    · exact ih x hx
  | one hd h k1 h1 _ ih1 ih =>
    intro x hx
    simp only [List.mem_cons, List.mem_append] at hx
    rcases hx with rfl | hx | rfl | hx
    · simp
    · exact ih1 x hx
    · simp
    · exact ih x hx
  | two hd h k1 h1 k2 h2 _ ih1 ih2 ih =>
    intro x hx
    simp only [List.mem_cons, List.mem_append] at hx
    rcases hx with rfl | hx | rfl | hx | rfl | hx
    · simp
    · exact ih1 x hx
    · simp
    · exact ih2 x hx
    · simp
    · exact ih x hx
theorem TFlat.tw {s : ByteArray} {ts : List Tm} {A : List Ak} {p : Nat} (h : TFlat s ts A p) : twA [] A = twL [] ts ∧ names A = ts.map (·.name) := by
  induction h with
  | nil => exact ⟨rfl, rfl⟩
  | @snoc ts A B p e b h hl hk hb he ih =>
    obtain ⟨i1, i2⟩ := ih
    have hB := no_begin (B ++ [⟨2, (act s e).name, e⟩]) (by
      intro x hx
      rcases List.mem_append.1 hx with hx | hx
      · exact hb.kinds x hx
      · simp at hx; subst hx; simp)
    have hn : names (⟨1, (act s p).name, p⟩ :: (B ++ [⟨2, (act s e).name, e⟩])) = [(act s p).name] := by
      have : names (⟨1, (act s p).name, p⟩ :: (B ++ [⟨2, (act s e).name, e⟩])) = (act s p).name :: names (B ++ [⟨2, (act s e).name, e⟩]) := by simp [names]
      rw [this, hB.1]
    refine ⟨?_, by rw [names_append, hn, i2]; simp⟩
    rw [twA_append, twL_append, i1, i2]
    congr 1
    simp only [List.nil_append]
    cases h2 : seenB (ts.map (·.name)) (act s p).name
    · rw [twA_go _ _ _ rfl h2, twL_go _ _ _ h2, hB.2]; rfl
    · rw [twA_yes _ _ _ rfl h2, twL_yes _ _ _ h2]
theorem fndF_skip (nm : ByteArray) (pre rest : List Tm) (i : Nat) (h : (pre.any fun t => nmEq t.name nm) = false) : fndF nm (pre ++ rest) i = fndF nm rest (i + pre.length) := by
  induction pre generalizing i with
  | nil => simp
  | cons t r ih =>
    simp only [List.any_cons, Bool.or_eq_false_iff] at h
    simp only [List.cons_append, fndF]
    rw [if_neg (by rw [h.1]; decide), ih (i + 1) h.2]
    congr 1
    simp; omega
theorem fndF_hit (nm : ByteArray) (pre rest : List Tm) (i : Nat) (h : (pre.any fun t => nmEq t.name nm) = true) : 0 ≤ fndF nm (pre ++ rest) i ∧ fndF nm (pre ++ rest) i < i + pre.length := by
  induction pre generalizing i with
  | nil => simp at h
  | cons t r ih =>
    simp only [List.cons_append, fndF]
    by_cases h1 : nmEq t.name nm = true
    · rw [if_pos h1]; simp; omega
    · rw [if_neg h1]
      have h1' : nmEq t.name nm = false := by simpa using h1
      simp only [List.any_cons, h1', Bool.false_or] at h
      have := ih (i + 1) h
      simp; omega
theorem twF_twL (pre us : List Tm) : twF (pre ++ us) us pre.length = twL (pre.map (·.name)) us := by
  induction us generalizing pre with
  | nil => rfl
  | cons t r ih =>
    simp only [twF, twL]
    have hs : seenB (pre.map (·.name)) t.name = pre.any fun x => nmEq x.name t.name := by simp [seenB, List.any_map, Function.comp_def]
    rw [hs]
    cases hb : pre.any fun x => nmEq x.name t.name
    · have h1 := fndF_skip t.name pre (t :: r) 0 hb
      have h2 : fndF t.name (pre ++ t :: r) 0 = pre.length := by rw [h1]; simp [fndF, nmEq_refl]
      rw [if_neg (by rw [h2]; omega), if_neg (by decide)]
      have := ih (pre ++ [t])
      simpa [List.append_assoc] using this
    · have h1 := (fndF_hit t.name pre (t :: r) 0 hb).2
      rw [if_pos (by omega), if_pos rfl]
theorem TFlat.twice {s : ByteArray} {ts : List Tm} {A : List Ak} {p : Nat} (h : TFlat s ts A p) : twF ts ts 0 = twA [] A := by
  rw [h.tw.1]; exact twF_twL [] ts
def unA (has : ByteArray → Bool) : List Ak → Int
  | [] => -1
  | a :: r => if a.kind = 8 ∧ has a.name = false then a.at' else unA has r
theorem unA_yes (has : ByteArray → Bool) (a : Ak) (r : List Ak) (h : a.kind = 8 ∧ has a.name = false) : unA has (a :: r) = a.at' := by simp only [unA]; rw [if_pos h]
theorem unA_no (has : ByteArray → Bool) (a : Ak) (r : List Ak) (h : ¬ (a.kind = 8 ∧ has a.name = false)) : unA has (a :: r) = unA has r := by simp only [unA]; rw [if_neg h]
theorem unA_append (has : ByteArray → Bool) (A B : List Ak) : unA has (A ++ B) = orE (unA has A) (unA has B) := by
  induction A with
  | nil => simp [unA, orE]
  | cons a r ih =>
    rw [List.cons_append]
    by_cases h : a.kind = 8 ∧ has a.name = false
    · rw [unA_yes _ _ _ h, unA_yes _ _ _ h, orE_pos _ _ (by omega)]
    · rw [unA_no _ _ _ h, unA_no _ _ _ h, ih]
def hasF (ts : List Tm) (nm : ByteArray) : Bool := decide (0 ≤ fndF nm ts 0)
theorem unk_cons (ts : List Tm) (k a : Int) (nm : ByteArray) (th el : Nds) (two : Bool) (r : Nds) (h : ¬ (k = 5 ∧ fndF nm ts 0 < 0)) : unk ts (.cons k a nm th el two r) = orE (unk ts th) (orE (unk ts el) (unk ts r)) := by
  simp only [unk, orE]; rw [if_neg h]
theorem unk_nil (ts : List Tm) : unk ts .nil = -1 := rfl
theorem k8 {k : Int} {p : Prop} (h : k ≠ 8) : ¬ (k = 8 ∧ p) := fun q => h q.1
theorem k5 {k : Int} {p : Prop} (h : k ≠ 5) : ¬ (k = 5 ∧ p) := fun q => h q.1
theorem unk_range (ts : List Tm) (s : ByteArray) {d p e : Nat} {a : Nds} {A : List Ak} (h : Flat s d a p A e) : unk ts a = unA (hasF ts) A := by
  induction h with
  | nil d p => rfl
  | text h _ ih => rw [unk_cons _ _ _ _ _ _ _ _ (k5 (by decide)), unk_nil, orE_minus, orE_minus, ih]
  | hole h _ ih => rw [unk_cons _ _ _ _ _ _ _ _ (k5 (by decide)), unk_nil, orE_minus, orE_minus, ih, unA_no _ _ _ (k8 (by simp))]
  | @call d p e r A h _ ih =>
    by_cases hf : fndF (act s p).name ts 0 < 0
    · rw [unA_yes (hasF ts) ⟨8, (act s p).name, p⟩ _ ⟨rfl, by simp [hasF]; omega⟩]
      simp only [unk]; rw [if_pos ⟨trivial, hf⟩]
    · rw [unk_cons _ _ _ _ _ _ _ _ (fun h => hf h.2), unk_nil, orE_minus, orE_minus, ih, unA_no _ _ _ (by rintro ⟨_, h⟩; simp [hasF] at h; omega)]
  | loop hd h k1 h1 _ ih1 ih =>
    rw [unk_cons _ _ _ _ _ _ _ _ (k5 (by decide)), unk_nil, orE_minus, ih1, ih, unA_no _ _ _ (k8 (by simp)), unA_append, unA_no _ _ _ (k8 (by simp))]
  | one hd h k1 h1 _ ih1 ih =>
    rw [unk_cons _ _ _ _ _ _ _ _ (k5 (by decide)), unk_nil, orE_minus, ih1, ih, unA_no _ _ _ (k8 (by simp)), unA_append, unA_no _ _ _ (k8 (by simp))]
  | two hd h k1 h1 k2 h2 _ ih1 ih2 ih =>
    rw [unk_cons _ _ _ _ _ _ _ _ (k5 (by decide)), ih1, ih2, ih, unA_no _ _ _ (k8 (by simp)), unA_append, unA_no _ _ _ (k8 (by simp)), unA_append, unA_no _ _ _ (k8 (by simp))]
theorem unF_cons (ts : List Tm) (t : Tm) (r : List Tm) : unF ts (t :: r) = orE (unk ts t.body) (unF ts r) := rfl
theorem unF_append (ts us vs : List Tm) : unF ts (us ++ vs) = orE (unF ts us) (unF ts vs) := by
  induction us with
  | nil => simp [unF, orE]
  | cons a r ih => rw [List.cons_append, unF_cons, unF_cons, ih, orE_assoc]
theorem TFlat.un {s : ByteArray} {us : List Tm} {A : List Ak} {p : Nat} (ts : List Tm) (h : TFlat s us A p) : unF ts us = unA (hasF ts) A := by
  induction h with
  | nil => rfl
  | @snoc us A B p e b h hl hk hb he ih =>
    rw [unF_append, ih, unA_append]
    congr 1
    rw [unA_no _ _ _ (k8 (by simp)), unA_append, unF_cons, unk_range ts s hb, unA_no _ _ _ (k8 (by simp))]
    rfl
theorem TFlat.has {s : ByteArray} {ts : List Tm} {A : List Ak} {p : Nat} (h : TFlat s ts A p) (nm : ByteArray) : hasF ts nm = seenB (names A) nm := by
  rw [h.tw.2]
  have hs : seenB (ts.map (·.name)) nm = ts.any fun x => nmEq x.name nm := by simp [seenB, List.any_map, Function.comp_def]
  rw [hs]
  cases hb : ts.any fun x => nmEq x.name nm
  · have := fndF_skip nm ts [] 0 hb
    simp [fndF] at this
    simp [hasF, this]
  · have := fndF_hit nm ts [] 0 hb
    simp at this
    simp [hasF]; omega
/-- what Check answers for the actions of a source -/
def ChkA (A : List Ak) (x y : Int) : Prop :=
  (0 ≤ twA [] A ∧ x = 3 ∧ y = twA [] A) ∨ (twA [] A = -1 ∧ 0 ≤ unA (seenB (names A)) A ∧ x = 4 ∧ y = unA (seenB (names A)) A) ∨ (twA [] A = -1 ∧ unA (seenB (names A)) A < 0 ∧ x = 0 ∧ y = 0)
def ChkS (s : ByteArray) (x y : Int) : Prop :=
  (400 < s.size ∧ x = 1 ∧ y = 0) ∨ (s.size ≤ 400 ∧ ((∃ wr : Nat, Ends s init (.err wr) ∧ x = 2 ∧ y = wr) ∨ (∃ A, Ends s init (.fin A) ∧ ChkA A x y)))
theorem chkA_unique {A : List Ak} {x y x' y' : Int} (h : ChkA A x y) (h' : ChkA A x' y') : x = x' ∧ y = y' := by
  unfold ChkA at *; omega
theorem chkS_unique {s : ByteArray} {x y x' y' : Int} (h : ChkS s x y) (h' : ChkS s x' y') : x = x' ∧ y = y' := by
  rcases h with ⟨h1, rfl, rfl⟩ | ⟨h1, ⟨wr, h2, rfl, rfl⟩ | ⟨A, h2, h3⟩⟩ <;> rcases h' with ⟨k1, rfl, rfl⟩ | ⟨k1, ⟨wr', k2, rfl, rfl⟩ | ⟨A', k2, k3⟩⟩
  · exact ⟨rfl, rfl⟩
  · omega
  · omega
  · omega
  · have := ends_unique h2 k2; cases this; exact ⟨rfl, rfl⟩
  · have := ends_unique h2 k2; cases this
  · omega
  · have := ends_unique h2 k2; cases this
  · have := ends_unique h2 k2; cases this; exact chkA_unique h3 k3
theorem chk_of_read (s : ByteArray) (ts : List Tm) (A : List Ak) (a : Option Addr) (c : Nat) (e : Ending) (h : TFlat s ts A s.size) (k : ReadOut ts a c e) : ∃ v x y, e = .returned (.tuple #[v, .int .i64 x, .int .i64 y]) ∧ ChkA A x y := by
  have e1 := h.twice
  have e2 := h.un ts
  have e3 : hasF ts = seenB (names A) := funext h.has
  rw [e3] at e2
  unfold ReadOut at k
  rw [e1, e2] at k
  rcases k with ⟨k1, k2⟩ | ⟨k1, k2, k3⟩ | ⟨k1, k2, k3⟩
  · exact ⟨_, _, _, k2, .inl ⟨k1, rfl, rfl⟩⟩
  · exact ⟨_, _, _, k3, .inr (.inl ⟨k1, k2, rfl, rfl⟩)⟩
  · exact ⟨_, _, _, k3, .inr (.inr ⟨k1, k2, rfl, rfl⟩)⟩
end Go.Proofs.YtffkejkgkgfnhabGreat
