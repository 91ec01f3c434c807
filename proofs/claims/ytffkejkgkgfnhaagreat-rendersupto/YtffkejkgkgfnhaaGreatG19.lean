import Derived.Test.YtffkejkgkgfnhaaGreatG18
import Derived.Test.YtffkejkgkgfnhaaGreatG11
namespace Go.Proofs.YtffkejkgkgfnhaaGreat
open Go.RowKit
set_option linter.unusedVariables false
def zB (n : Nat) : Array Value := madeCells (Value.bool false).cells n
def zI (n : Nat) : Array Value := madeCells (Value.int .i64 0).cells n
theorem infoInt : (Tryz.prog.info? 3).map (fun i => (i.zero, i.size, i.bytes)) = some (some (.int .i64 0), 1, 8) := by kernel_rfl
theorem infoBool : (Tryz.prog.info? 4).map (fun i => (i.zero, i.size, i.bytes)) = some (some (.bool false), 1, 1) := by kernel_rfl
theorem make82 (w : World) (n : Nat) (hn : n ≤ 10000) : (Instr.makeSlice 82 (.int .i64 n) (.int .i64 n)).run Tryz.prog w = .ok (.slice (some ⟨w.heap.size, 0, none⟩) n n) (w.alloc (.cells (zB n) 4)) := by
  obtain ⟨i0, hi, hz0, hz1, hz2⟩ := info_parts infoBool
  have := run_make (P := Tryz.prog) w 82 4 i0 (.bool false) Tryz.underlying82 hi hz0 .i64 .i64 n n (by omega) (by omega) (by rw [hz2]; omega) (by omega)
  rw [hz1] at this
  simpa [zB] using this
theorem make83 (w : World) (n : Nat) (hn : n ≤ 10000) : (Instr.makeSlice 83 (.int .i64 n) (.int .i64 n)).run Tryz.prog w = .ok (.slice (some ⟨w.heap.size, 0, none⟩) n n) (w.alloc (.cells (zI n) 3)) := by
  obtain ⟨i0, hi, hz0, hz1, hz2⟩ := info_parts infoInt
  have := run_make (P := Tryz.prog) w 83 3 i0 (.int .i64 0) Tryz.underlying83 hi hz0 .i64 .i64 n n (by omega) (by omega) (by rw [hz2]; omega) (by omega)
  rw [hz1] at this
  simpa [zI] using this
theorem zB_at (n k : Nat) (h : k < n) : (zB n)[k]? = some (.bool false) := by simp [zB, madeCells, h, Value.cells, Nat.mod_one]
theorem zI_at (n k : Nat) (h : k < n) : (zI n)[k]? = some (.int .i64 0) := by simp [zI, madeCells, h, Value.cells, Nat.mod_one]
def st00 : RS := ⟨fun _ => false, fun _ => 0, fun _ => false, false, false⟩
theorem heap_new (w : World) (o : Obj) : (w.alloc o).heap[w.heap.size]? = some o := by
  show (w.heap.push o)[w.heap.size]? = some o
  simp
theorem four (w : World) (o1 o2 o3 o4 : Obj) : ((((w.alloc o1).alloc o2).alloc o3).alloc o4).drew.heap[w.heap.size]? = some o1 ∧ ((((w.alloc o1).alloc o2).alloc o3).alloc o4).drew.heap[w.heap.size + 1]? = some o2 ∧
    ((((w.alloc o1).alloc o2).alloc o3).alloc o4).drew.heap[w.heap.size + 1 + 1]? = some o3 ∧ ((((w.alloc o1).alloc o2).alloc o3).alloc o4).drew.heap[w.heap.size + 1 + 1 + 1]? = some o4 := by
  have s1 : (w.alloc o1).heap.size = w.heap.size + 1 := by simp
  have s2 : ((w.alloc o1).alloc o2).heap.size = w.heap.size + 1 + 1 := by simp
  have s3 : (((w.alloc o1).alloc o2).alloc o3).heap.size = w.heap.size + 1 + 1 + 1 := by simp
  have n1 := heap_new w o1
  have n2 := heap_new (w.alloc o1) o2
  have n3 := heap_new ((w.alloc o1).alloc o2) o3
  have n4 := heap_new (((w.alloc o1).alloc o2).alloc o3) o4
  rw [s1] at n2
  rw [s2] at n3
  rw [s3] at n4
  show _ ∧ _ ∧ _ ∧ (((((w.alloc o1).alloc o2).alloc o3).alloc o4)).heap[w.heap.size + 1 + 1 + 1]? = some o4
  refine ⟨?_, ?_, ?_, n4⟩
  · exact ((Below.heap_alloc _ _ _ (by omega)).trans ((Below.heap_alloc _ _ _ (by omega)).trans (Below.heap_alloc _ _ _ (by omega)))).trans n1
  · exact ((Below.heap_alloc _ _ _ (by omega)).trans (Below.heap_alloc _ _ _ (by omega))).trans n2
  · exact (Below.heap_alloc _ _ _ (by omega)).trans n3
theorem wk0 (W : World) (p : Wp) (B0 I0 U0 : Array Value) (h0 : W.heap[p.b]? = some (.cells #[.slice p.la p.tl p.lc, .slice (some ⟨p.gb, 0, none⟩) p.n p.nc, .slice (some ⟨p.ge, 0, none⟩) p.n p.ec, .slice (some ⟨p.gu, 0, none⟩) 9624 p.uc, .bool false, .bool false] 85 (0, 0)))
    (h1 : W.heap[p.gb]? = some (.cells B0 4 (0, 0))) (h2 : W.heap[p.ge]? = some (.cells I0 3 (0, 0))) (h3 : W.heap[p.gu]? = some (.cells U0 4 (0, 0)))
    (hB : ∀ k, k < p.n → B0[k]? = some (.bool false)) (hI : ∀ k, k < p.n → I0[k]? = some (.int .i64 0)) (hU : ∀ k, k < 9624 → U0[k]? = some (.bool false))
    (hn : p.b ≠ p.gb ∧ p.b ≠ p.ge ∧ p.b ≠ p.gu ∧ p.gb ≠ p.ge ∧ p.gb ≠ p.gu ∧ p.ge ≠ p.gu) (hl : p.b < W.heap.size ∧ p.gb < W.heap.size ∧ p.ge < W.heap.size ∧ p.gu < W.heap.size) (h24 : p.n ≤ 144) : WkOK W p st00 := by
  have c := fun j => cell_of_heap (j := j) h0
  have f : ∀ {g : Nat} {cur : Array Value} {ty : Nat} (j : Nat), W.heap[g]? = some (.cells cur ty (0, 0)) → W.frozen? ⟨g, j, none⟩ = false := by
    intro g cur ty j h
    simp [World.frozen?, h]
  exact ⟨c 0, c 1, c 2, c 3, c 4, c 5, f 4 h0, f 5 h0, fun k hk => ⟨(cell_of_heap h1).trans (hB k hk), f k h1⟩, fun k hk => ⟨(cell_of_heap h2).trans (hI k hk), f k h2⟩, fun k hk => ⟨(cell_of_heap h3).trans (hU k hk), f k h3⟩,
    hn.1, hn.2.1, hn.2.2.1, hn.2.2.2.1, hn.2.2.2.2.1, hn.2.2.2.2.2, hl.1, hl.2.1, hl.2.2.1, hl.2.2.2, h24⟩
theorem andn64 (m : Nat) (hm : m < 2 ^ 24) : (bits .andNot .i64 (m : Int) 1 != 0) = true ↔ ∃ y, y ≠ 0 ∧ bt m y := by
  have h1 : (BitVec.ofInt 64 (m : Int)).toNat = m := by
    rw [BitVec.ofInt_natCast, BitVec.toNat_ofNat]; exact Nat.mod_eq_of_lt (by omega)
  have e : bits .andNot .i64 (m : Int) 1 = ((m &&& (2 ^ 64 - (1 + 1)) : Nat) : Int) := by
    have hx : m &&& (2 ^ 64 - (1 + 1)) < 2 ^ 24 := by
      rw [Nat.and_comm]; exact Nat.and_lt_two_pow _ hm
    show IntKind.i64.wrap ((BitVec.ofInt 64 (m : Int) &&& ~~~ BitVec.ofInt 64 1).toNat : Int) = _
    rw [BitVec.toNat_and, h1, IntKind.wrap_i64]
    have e2 : (~~~ BitVec.ofInt 64 1).toNat = 2 ^ 64 - (1 + 1) := by decide
    rw [e2]
    omega
  rw [e]
  have e3 : ((((m &&& (2 ^ 64 - (1 + 1)) : Nat) : Int)) != 0) = true ↔ m &&& (2 ^ 64 - (1 + 1)) ≠ 0 := by
    rw [bne_iff_ne]; omega
  rw [e3]
  constructor
  · intro h
    obtain ⟨y, hy⟩ := Nat.exists_testBit_of_ne_zero h
    rw [Nat.testBit_and, Nat.testBit_two_pow_sub_succ (by decide)] at hy
    simp only [Bool.and_eq_true, decide_eq_true_eq, Bool.not_eq_true'] at hy
    refine ⟨y, fun e => ?_, hy.1⟩
    subst e
    simp at hy
  · rintro ⟨y, h0, hy⟩ h
    have hl := bt_lt m y hm hy
    have : (m &&& (2 ^ 64 - (1 + 1))).testBit y = true := by
      rw [Nat.testBit_and, Nat.testBit_two_pow_sub_succ (by decide)]
      rw [bt] at hy
      rw [hy]
      have : (1 : Nat).testBit y = false := by
        cases h' : (1 : Nat).testBit y
        · rfl
        · have := (bt_pow 0 y).1 (by simpa [bt] using h'); omega
      simp [this]; omega
    rw [h] at this; simp at this
def st01 (t0 : Nat) : RS := { st00 with beg := upd st00.beg (t0 * 24), new := true }
theorem wst0 (ts : List Tm) (t0 : Nat) (ht : t0 < ts.length) : Wst ts t0 0 (st01 t0) := by
  have g : Grw st00 (st01 t0) := ⟨fun k h => absurd h (by simp [st00]), fun _ _ h => h⟩
  refine ⟨⟨fun t x hx hb => ?_, fun t x y hx hy => absurd hy (bt_zero y), fun a x hx hu => (by cases hu), fun h => (by cases h), fun j => (by show 0 < 2 ^ 24; decide)⟩, ?_, fun j hj => ?_, fun _ => ?_, fun h => by cases h⟩
  · have hb' : upd st00.beg (t0 * 24) (t * 24 + x) = true := hb
    unfold upd at hb'
    split at hb'
    · have : t = t0 ∧ x = 0 := by omega
      rw [this.1, this.2]
      exact fun B E h => h.start
    · cases hb'
  · exact upd_at _ _
  · have hj' : upd st00.beg (t0 * 24) j = true := hj
    unfold upd at hj'
    split at hj'
    · omega
    · cases hj'
  · have := phi_strict g (ts.length * 24) (.inl ⟨t0 * 24, by omega, rfl, upd_at _ _⟩)
    omega
def WalkedPost (ts : List Tm) (t0 : Nat) (w : World) (e : Ending) (w' : World) : Prop :=
  ∃ (p : Wp) (st : RS), e = .returned (.pointer (some ⟨p.b, 0, none⟩)) ∧ WkOK w' p st ∧ Below w.heap.size w w' ∧ (st.wrong = true ↔ TBad ts t0) ∧ (st.wrong = false → ∀ a x, x < 24 → (st.used (a * 24 + x) = true ↔ Evs ts t0 (.use a x)))
theorem Chg.below {p : Wp} {w W w' : World} (h : Chg p W w') (hb : Below w.heap.size w W) (l0 : w.heap.size ≤ p.b) (l1 : w.heap.size ≤ p.gb) (l2 : w.heap.size ≤ p.ge) (l3 : w.heap.size ≤ p.gu) : Below w.heap.size w w' :=
  hb.trans ⟨h.os, h.tape, h.output, h.size, fun k hk => h.block k (by have := hb.size; omega) (by omega) (by omega) (by omega) (by omega)⟩
set_option maxRecDepth 100000 in
set_option maxHeartbeats 4000000 in
theorem w49 (ts : List Tm) (w : World) (A : Nat → Prop) (la : Option Addr) (lc t0 N : Nat) (hN : N = ts.length * 24) (hT : WfT ts) (h6 : ts.length ≤ 6) (ht : t0 < ts.length) (hd : ∀ k, A k → k < w.heap.size) (hS : SlcX w A 72 3 (.slice la ts.length lc) ts.length (RowT w A ts)) :
    Calls Tryz.prog 50 #[.slice la ts.length lc, .int .i64 t0] w fun e w' => WalkedPost ts t0 w e w' := by
  have HT := hidS hT
  have HS := hidS hS
  have HD := hidS hd
  clear hT hS hd
  go_enter Tryz.func50, Tryz.ntmps50
  go_wp2
  have hN' : (ts.length : Int) * 24 = (N : Int) := by omega
  rw [hN']
  have M1 := fun wx : World => make82 wx N (by omega)
  have M2 := fun wx : World => make83 wx N (by omega)
  have M3 := fun wx : World => make82 wx 9624 (by omega)
  change ∀ wx : World, (Instr.makeSlice 82 (.int .i64 9624) (.int .i64 9624)).run Tryz.prog wx = _ at M3
  have HN := hidS hN
  have hlt : t0 * 24 < N := by omega
  have h144 : N ≤ 144 := by omega
  clear hN' hN
  have HB := hidS (zB_at N)
  have HI := hidS (zI_at N)
  have HU := hidS (zB_at 9624)
  generalize zB 9624 = U0 at *
  generalize zB N = B0 at *
  generalize zI N = I0 at *
  rename_i Q' K hK
  have tail : ∀ (b gb ge gu : Nat) (W : World), WkOK W ⟨b, gb, ge, gu, N, N, N, 9624, la, ts.length, lc⟩ st00 → Below w.heap.size w W → w.heap.size ≤ b → w.heap.size ≤ gb → w.heap.size ≤ ge → w.heap.size ≤ gu → Exit.then K Q' Exit.normal { tmps := #[.slice la ts.length lc, .int .i64 t0, undef, undef, .pointer none, .int .i64 N, .pointer (some ⟨b, 0, none⟩), undef, .slice la ts.length lc, .int .i64 ts.length, .int .i64 N, .slice la ts.length lc, .int .i64 N, .slice (some ⟨gb, 0, none⟩) N N, .int .i64 N, .slice (some ⟨ge, 0, none⟩) N N, .slice (some ⟨gu, 0, none⟩) 9624 9624, .agg #[.slice la ts.length lc, .slice (some ⟨gb, 0, none⟩) N N, .slice (some ⟨ge, 0, none⟩) N N, .slice (some ⟨gu, 0, none⟩) 9624 9624, .bool false, .bool false], .pointer (some ⟨b, 0, none⟩), undef, undef, undef, undef, undef, undef, undef, undef, undef, undef, undef, undef, undef, undef, undef, undef, undef, undef, undef, undef, undef, undef, undef, undef, undef, undef, undef, undef, undef, undef, undef, undef, undef, undef, undef, undef, undef, undef, undef, undef, undef], defers := [] } W := by
    clear M1 M2 M3
    intro b gb ge gu W hw hb l0 l1 l2 l3
    have HW := hidS hw
    have HBe := hidS hb
    have c1 : W.cell? ⟨b, 1, none⟩ = some (.slice (some ⟨gb, 0, none⟩) N N) := hw.c1
    have c5 : W.cell? ⟨b, 5, none⟩ = some (.bool false) := hw.c5
    have f5 : W.frozen? ⟨b, 5, none⟩ = false := hw.f5
    obtain ⟨ce, fe⟩ : W.cell? ⟨gb, t0 * 24, none⟩ = some (.bool false) ∧ W.frozen? ⟨gb, t0 * 24, none⟩ = false := hw.beg (t0 * 24) hlt
    have n1 : b ≠ gb := hw.n1
    have i1 : (0 : Int) ≤ (t0 : Int) * 24 := by omega
    have i2 : (t0 : Int) * 24 < (N : Int) := by omega
    have c5' : (W.setCell ⟨gb, t0 * 24, none⟩ (.bool true)).cell? ⟨b, 5, none⟩ = some (.bool false) := (cellF _ _ _ _ _ _ n1).trans c5
    have HW1 : Hid (WkOK ((W.setCell ⟨gb, t0 * 24, none⟩ (.bool true)).setCell ⟨b, 5, none⟩ (.bool true)) (⟨b, gb, ge, gu, N, N, N, 9624, la, ts.length, lc⟩ : Wp) (st01 t0)) := (hw.setBeg (t0 * 24) hlt).setNew true
    have HB1 : Hid (Below w.heap.size w ((W.setCell ⟨gb, t0 * 24, none⟩ (.bool true)).setCell ⟨b, 5, none⟩ (.bool true))) :=
      (((Chg.refl (⟨b, gb, ge, gu, N, N, N, 9624, la, ts.length, lc⟩ : Wp) W).set gb _ _ (.inr (.inl rfl))).set b _ _ (.inl rfl)).below hb l0 l1 l2 l3
    have HEV : Hid (∀ wx, Below w.heap.size w wx → Evn wx (⟨b, gb, ge, gu, N, N, N, 9624, la, ts.length, lc⟩ : Wp) A ts) := fun wx hx =>
      ⟨fun k hk => (by have := HD.out k hk; have := hx.size; show k < wx.heap.size ∧ k ≠ b ∧ k ≠ gb ∧ k ≠ ge ∧ k ≠ gu; omega), SlcX.mono HS.out (fun k hk => hx.block k (HD.out k hk)) (fun _ q => q) (fun xs => RowT.mono (fun k hk => hx.block k (HD.out k hk)) (fun _ q => q) ts xs), rfl, HN.out, h6, by omega⟩
    clear hw hb
    go_wp2
    clear c1 c5 f5 ce fe c5' i1 i2
    go_loopw [7] (fun kv wr => ∃ (k : Nat) (st : RS), k ≤ 3601 ∧ kv = .int .i64 k ∧ Hid (Wst ts t0 k st) ∧ Hid (WkOK wr (⟨b, gb, ge, gu, N, N, N, 9624, la, ts.length, lc⟩ : Wp) st) ∧ Hid (Below w.heap.size w wr)) (fun kv _ => 3601 - (intOf kv).toNat)
    case atStart => exact ⟨0, st01 t0, by omega, rfl, wst0 ts t0 ht, HW1.out, HB1.out⟩
    case round =>
      clear HW1 HB1 HW HBe
      obtain ⟨k, st, hk, rfl, HS1, HW, HBe⟩ := hrel
      have c5 : wr.cell? ⟨b, 5, none⟩ = some (.bool st.new) := HW.out.c5
      have f5 : wr.frozen? ⟨b, 5, none⟩ = false := HW.out.f5
      by_cases hgo : k < 3601 ∧ st.new = true
      · obtain ⟨hk1, hnew⟩ := hgo
        rw [hnew] at c5
        have HW2 : Hid (WkOK (wr.setCell ⟨b, 5, none⟩ (.bool false)) (⟨b, gb, ge, gu, N, N, N, 9624, la, ts.length, lc⟩ : Wp) { st with new := false }) := HW.out.setNew false
        have HB2 : Hid (Below w.heap.size w (wr.setCell ⟨b, 5, none⟩ (.bool false))) := ((Chg.refl (⟨b, gb, ge, gu, N, N, N, 9624, la, ts.length, lc⟩ : Wp) wr).set b _ _ (.inl rfl)).below HBe.out l0 l1 l2 l3
        have Hr := hidS (w75 ts _ (⟨b, gb, ge, gu, N, N, N, 9624, la, ts.length, lc⟩ : Wp) A { st with new := false } (HEV.out _ HB2.out) HW2.out HS1.out.snd.size HT.out)
        go_wp2_with fail
        refine Hr.out.mono ?_
        rintro e w1 ⟨st', rfl, hr, hc, hw⟩
        have HF : Hid (Wst ts t0 (k + 1) st') := wst_round HS1.out ht hnew hr
        have HW3 := hidS hw
        have HB3 : Hid (Below w.heap.size w w1) := hc.below HB2.out l0 l1 l2 l3
        clear hr hc hw Hr
        go_wp2
        exact ⟨⟨k + 1, st', by omega, by go_num, HF.out, HW3.out, HB3.out⟩, by simp [intOf]; omega⟩
      · have hend : st.new = false := wst_end HS1.out h6 (fun h => by
          cases hn : st.new
          · rfl
          · exact absurd ⟨h, hn⟩ hgo)
        rw [hend] at c5
        have c2 : wr.cell? ⟨b, 2, none⟩ = some (.slice (some ⟨ge, 0, none⟩) N N) := HW.out.c2
        obtain ⟨ce, _⟩ : wr.cell? ⟨ge, t0 * 24, none⟩ = some (.int .i64 (st.en (t0 * 24))) ∧ wr.frozen? ⟨ge, t0 * 24, none⟩ = false := HW.out.en (t0 * 24) hlt
        have c4 : wr.cell? ⟨b, 4, none⟩ = some (.bool st.wrong) := HW.out.c4
        have f4 : wr.frozen? ⟨b, 4, none⟩ = false := HW.out.f4
        have hAN := andn64 (st.en (t0 * 24)) (HS1.out.snd.size _)
        have i1 : (0 : Int) ≤ (t0 : Int) * 24 := by omega
        have i2 : (t0 : Int) * 24 < (N : Int) := by omega
        have HTR := hidS (fun W hW => wst_true HS1.out hend W hW)
        clear hgo
        cases hA : (bits .andNot .i64 ((st.en (t0 * 24) : Nat) : Int) 1 != 0)
        · have HF : Hid ((st.wrong = true ↔ TBad ts t0) ∧ (st.wrong = false → ∀ a x, x < 24 → (st.used (a * 24 + x) = true ↔ Evs ts t0 (.use a x)))) := HTR.out st.wrong (by
            constructor
            · exact .inl
            · rintro (h | h)
              · exact h
              · rw [hAN.2 h] at hA; cases hA)
          clear hAN HTR
          generalize st.en (t0 * 24) = EE at *
          by_cases hk1 : k < 3601
          all_goals
            go_wp2
            go_ret
            exact ⟨(⟨b, gb, ge, gu, N, N, N, 9624, la, ts.length, lc⟩ : Wp), st, rfl, HW.out, HBe.out, HF.out.1, HF.out.2⟩
        · have HF : Hid ((true = true ↔ TBad ts t0) ∧ (true = false → ∀ a x, x < 24 → (st.used (a * 24 + x) = true ↔ Evs ts t0 (.use a x)))) := HTR.out true (by
            constructor
            · intro _; exact .inr (hAN.1 hA)
            · intro _; rfl)
          clear hAN HTR
          generalize st.en (t0 * 24) = EE at *
          by_cases hk1 : k < 3601
          all_goals
            go_wp2
            go_ret
            exact ⟨(⟨b, gb, ge, gu, N, N, N, 9624, la, ts.length, lc⟩ : Wp), { st with wrong := true }, rfl, HW.out.setWrong true, ((Chg.refl (⟨b, gb, ge, gu, N, N, N, 9624, la, ts.length, lc⟩ : Wp) wr).set b _ _ (.inl rfl)).below HBe.out l0 l1 l2 l3, (by simpa using HF.out.1), (fun h => by cases h)⟩
  go_region
  all_goals clear M1 M2 M3
  all_goals
    refine tail _ _ _ _ _ (wk0 _ _ B0 I0 U0 ?_ ?_ ?_ ?_ HB.out HI.out HU.out ?_ ?_ h144) ?_ ?_ ?_ ?_ ?_
    · first | exact (four w _ _ _ _).1 | exact (four w _ _ _ _).2.1 | exact (four w _ _ _ _).2.2.1 | exact (four w _ _ _ _).2.2.2
    · first | exact (four w _ _ _ _).1 | exact (four w _ _ _ _).2.1 | exact (four w _ _ _ _).2.2.1 | exact (four w _ _ _ _).2.2.2
    · first | exact (four w _ _ _ _).1 | exact (four w _ _ _ _).2.1 | exact (four w _ _ _ _).2.2.1 | exact (four w _ _ _ _).2.2.2
    · first | exact (four w _ _ _ _).1 | exact (four w _ _ _ _).2.1 | exact (four w _ _ _ _).2.2.1 | exact (four w _ _ _ _).2.2.2
    · dsimp only; omega
    · simp; omega
    · exact below_drewN (((((Below.refl _ _).alloc (Nat.le_refl _) _).alloc (by simp) _).alloc (by simp; omega) _).alloc (by simp; omega) _) 1
    · omega
    · omega
    · omega
    · omega
end Go.Proofs.YtffkejkgkgfnhaaGreat
namespace Go.Proofs.YtffkejkgkgfnhaaGreat
open Go.RowKit
set_option linter.unusedVariables false
theorem orE_lt {x y : Int} (h : orE x y < 0) : x < 0 ∧ y < 0 := by
  unfold orE at h; split at h <;> omega
theorem ext_le (s : ByteArray) (a b : Nat) : (s.extract a b).size ≤ s.size := by
  have e : (s.extract a b).data.toList.length = (s.extract a b).size := rfl
  have e2 : s.data.toList.length = s.size := rfl
  rw [← e, Lib.extract_data, List.length_take, List.length_drop]
  omega
theorem act_name_le (s : ByteArray) (p : Nat) : (act s p).name.size ≤ s.size := by
  unfold act; split
  · exact ext_le s _ _
  · show (noAc p).name.size ≤ _
    exact Nat.zero_le _
theorem wf_cons {ts : List Tm} {k : Int} {p : Nat} {nm : ByteArray} {th el r : Nds} {tw : Bool} (hk : k = 1 ∨ k = 2 ∨ k = 3 ∨ k = 4 ∨ k = 5) (hp : p ≤ 400) (hn : nm.size ≤ 400) (hu : unk ts (.cons k p nm th el tw r) < 0)
    (h1 : unk ts th < 0 → WfN ts th) (h2 : unk ts el < 0 → WfN ts el) (h3 : unk ts r < 0 → WfN ts r) : WfN ts (.cons k p nm th el tw r) := by
  by_cases hc : k = 5 ∧ fndF nm ts 0 < 0
  · simp only [unk] at hu; rw [if_pos hc] at hu; omega
  · rw [unk_cons _ _ _ _ _ _ _ _ hc] at hu
    obtain ⟨u1, u2⟩ := orE_lt hu
    obtain ⟨u2, u3⟩ := orE_lt u2
    refine ⟨hk, ⟨by omega, by omega⟩, hn, fun e => ?_, h1 u1, h2 u2, h3 u3⟩
    apply Decidable.byContradiction
    intro hf
    exact hc ⟨e, by omega⟩
theorem Flat.wf {s : ByteArray} {d p e : Nat} {b : Nds} {A : List Ak} (h : Flat s d b p A e) (ts : List Tm) (hs : s.size ≤ 400) : unk ts b < 0 → WfN ts b := by
  have nm := fun p => Nat.le_trans (act_name_le s p) hs
  induction h with
  | nil d p => intro _; trivial
  | @text d p e r A h k ih =>
    intro hu
    have hp := (skp_all s txB p p (Nat.le_refl _) h).1
    exact wf_cons (by omega) (by omega) (Nat.le_trans (ext_le s _ _) hs) hu (fun _ => trivial) (fun _ => trivial) ih
  | @hole d p e r A h k ih => intro hu; have := act_next s p (by omega); exact wf_cons (by omega) (by omega) (nm p) hu (fun _ => trivial) (fun _ => trivial) ih
  | @call d p e r A h k ih => intro hu; have := act_next s p (by omega); exact wf_cons (by omega) (by omega) (nm p) hu (fun _ => trivial) (fun _ => trivial) ih
  | @loop d p e e1 th r A1 A hd h k1 h1 k2 ih1 ih => intro hu; have := act_next s p (by omega); exact wf_cons (by omega) (by omega) (nm p) hu ih1 (fun _ => trivial) ih
  | @one d p e e1 th r A1 A hd h k1 h1 k2 ih1 ih => intro hu; have := act_next s p (by omega); exact wf_cons (by omega) (by omega) (nm p) hu ih1 (fun _ => trivial) ih
  | @two d p e e1 e2 th el r A1 A2 A hd h k1 h1 k2 h2 k3 ih1 ih2 ih => intro hu; have := act_next s p (by omega); exact wf_cons (by omega) (by omega) (nm p) hu ih1 ih2 ih
theorem unF_all (ts : List Tm) : ∀ us, unF ts us < 0 → ∀ t ∈ us, unk ts t.body < 0
  | [], _, t, ht => by cases ht
  | u :: r, h, t, ht => by
    rw [unF_cons] at h
    obtain ⟨h1, h2⟩ := orE_lt h
    rcases List.mem_cons.1 ht with rfl | ht
    · exact h1
    · exact unF_all ts r h2 t ht
theorem TFlat.flats {s : ByteArray} {ts : List Tm} {A : List Ak} {p : Nat} (h : TFlat s ts A p) : ∀ t ∈ ts, ∃ q B e, Flat s 0 t.body q B e ∧ e ≤ s.size := by
  induction h with
  | nil => intro t ht; cases ht
  | @snoc ts A B p e b h hl hk hb he ih =>
    intro t ht
    rcases List.mem_append.1 ht with ht | ht
    · exact ih t ht
    · simp at ht; subst ht
      have := act_next s e (by omega)
      exact ⟨_, _, _, hb, by omega⟩
theorem TFlat.wf {s : ByteArray} {ts : List Tm} {A : List Ak} {p : Nat} (h : TFlat s ts A p) (hs : s.size ≤ 400) (hu : unF ts ts < 0) : ∀ i (hi : i < ts.length), WfN ts ts[i].body ∧ ts[i].body.sz ≤ 1000 := by
  intro i hi
  have hm := List.getElem_mem hi
  obtain ⟨q, B, e, hf, he⟩ := h.flats _ hm
  exact ⟨hf.wf ts hs (unF_all ts ts hu _ hm), by have := hf.szle; omega⟩
/-! ### Lists of uses -/
def useC (L : List (Nat × Nat)) : List Value := L.flatMap fun p => [.int .i64 p.1, .int .i64 p.2]
def Srt : List (Nat × Nat) → Prop := List.Pairwise fun p q => p.1 * 24 + p.2 < q.1 * 24 + q.2
theorem srt_unique : ∀ (L M : List (Nat × Nat)), Srt L → Srt M → (∀ p ∈ L, p.2 < 24) → (∀ p ∈ M, p.2 < 24) → (∀ p, p ∈ L ↔ p ∈ M) → L = M
  | [], M, _, _, _, _, h => by
    cases M with
    | nil => rfl
    | cons q N => exact absurd ((h q).2 (by simp)) (by simp)
  | p :: L, [], _, _, _, _, h => absurd ((h p).1 (by simp)) (by simp)
  | p :: L, q :: M, hL, hM, h1, h2, h => by
    obtain ⟨a1, a2⟩ := List.pairwise_cons.1 hL
    obtain ⟨b1, b2⟩ := List.pairwise_cons.1 hM
    have e : p = q := by
      rcases List.mem_cons.1 ((h p).1 (by simp)) with e | e
      · exact e
      · rcases List.mem_cons.1 ((h q).2 (by simp)) with e' | e'
        · exact e'.symm
        · have := a1 q e'
          have := b1 p e
          omega
    subst e
    have hn : p ∉ L := fun hp => by have := a1 p hp; omega
    have hn' : p ∉ M := fun hp => by have := b1 p hp; omega
    rw [srt_unique L M a2 b2 (fun x hx => h1 x (by simp [hx])) (fun x hx => h2 x (by simp [hx])) (fun x => by
      have := h x
      simp only [List.mem_cons] at this
      constructor
      · intro hx
        rcases this.1 (.inr hx) with e | e
        · subst e; exact absurd hx hn
        · exact e
      · intro hx
        rcases this.2 (.inr hx) with e | e
        · subst e; exact absurd hx hn'
        · exact e)]
def UseList (ts : List Tm) (t0 : Nat) (L : List (Nat × Nat)) : Prop := Srt L ∧ ∀ p, p ∈ L ↔ p.2 < 24 ∧ Evs ts t0 (.use p.1 p.2)
theorem useList_unique {ts : List Tm} {t0 : Nat} {L M : List (Nat × Nat)} (h : UseList ts t0 L) (k : UseList ts t0 M) : L = M :=
  srt_unique L M h.1 k.1 (fun p hp => ((h.2 p).1 hp).1) (fun p hp => ((k.2 p).1 hp).1) (fun p => (h.2 p).trans (k.2 p).symm)
/-- what Walks answers for templates -/
def WSpec (ts : List Tm) (nm : ByteArray) (x : Int) (L : List (Nat × Nat)) : Prop :=
  (fndF nm ts 0 < 0 ∧ x = 4 ∧ L = []) ∨ (0 ≤ fndF nm ts 0 ∧ ((TBad ts (tno ts nm) ∧ x = 6 ∧ L = []) ∨ (¬ TBad ts (tno ts nm) ∧ x = 0 ∧ UseList ts (tno ts nm) L)))
theorem wspec_unique {ts : List Tm} {nm : ByteArray} {x y : Int} {L M : List (Nat × Nat)} (h : WSpec ts nm x L) (k : WSpec ts nm y M) : x = y ∧ L = M := by
  rcases h with ⟨h1, rfl, rfl⟩ | ⟨h1, ⟨h2, rfl, rfl⟩ | ⟨h2, rfl, h3⟩⟩ <;> rcases k with ⟨k1, rfl, rfl⟩ | ⟨k1, ⟨k2, rfl, rfl⟩ | ⟨k2, rfl, k3⟩⟩
  · exact ⟨rfl, rfl⟩
  · omega
  · omega
  · omega
  · exact ⟨rfl, rfl⟩
  · exact absurd h2 k2
  · omega
  · exact absurd k2 h2
  · exact ⟨rfl, useList_unique h3 k3⟩
theorem evt_use (ts : List Tm) (E : En) (a x : Nat) (b : Nds) : ∀ S, WfN ts b → evt ts E b S (.use a x) → a ≤ 400 ∧ x < 24 := by
  induction b with
  | nil => intro S _ h; cases h.1
  | cons k a' nm th el tw r iht ihe ih =>
    intro S hw h
    obtain ⟨hk, ha, hn, hc, w1, w2, w3⟩ := hw
    rcases h with ⟨h, _⟩ | h | h
    · cases h
    · unfold pevt at h
      split at h
      · cases h.1
      · split at h
        · obtain ⟨y, _, h⟩ := h
          split at h
          · rename_i ho
            cases h
            simp only [opS, decide_eq_true_eq] at ho
            omega
          · cases h
        · split at h
          · rcases h with h | ⟨_, h⟩
            · exact iht _ w1 h
            · exact ihe _ w2 h
          · split at h
            · exact iht _ w1 h
            · obtain ⟨y, _, h⟩ := h; cases h
    · exact ih _ w3 h
def usesOf (f : Nat → Bool) (n : Nat) : List (Nat × Nat) := ((List.range n).filter f).map fun k => (k / 24, k % 24)
theorem usesOf_succ (f : Nat → Bool) (n : Nat) : usesOf f (n + 1) = if f n = true then usesOf f n ++ [(n / 24, n % 24)] else usesOf f n := by
  unfold usesOf
  rw [List.range_succ, List.filter_append, List.map_append]
  by_cases h : f n = true
  · rw [if_pos h]; simp [h]
  · rw [if_neg h]; simp [h]
theorem usesOf_len (f : Nat → Bool) (n : Nat) : (usesOf f n).length ≤ n := by
  unfold usesOf
  rw [List.length_map]
  exact Nat.le_trans (List.length_filter_le _ _) (by simp)
theorem usesOf_mem (f : Nat → Bool) (n : Nat) (p : Nat × Nat) : p ∈ usesOf f n ↔ p.2 < 24 ∧ p.1 * 24 + p.2 < n ∧ f (p.1 * 24 + p.2) = true := by
  unfold usesOf
  simp only [List.mem_map, List.mem_filter, List.mem_range]
  constructor
  · rintro ⟨k, ⟨h1, h2⟩, rfl⟩
    have : k / 24 * 24 + k % 24 = k := by omega
    simp only [this]
    exact ⟨Nat.mod_lt _ (by decide), h1, h2⟩
  · rintro ⟨h1, h2, h3⟩
    exact ⟨p.1 * 24 + p.2, ⟨h2, h3⟩, by ext <;> simp <;> omega⟩
theorem usesOf_srt (f : Nat → Bool) (n : Nat) : Srt (usesOf f n) := by
  induction n with
  | zero => simp [usesOf, Srt]
  | succ n ih =>
    rw [usesOf_succ]
    split
    · unfold Srt at *
      rw [List.pairwise_append]
      refine ⟨ih, by simp, ?_⟩
      intro p hp q hq
      simp at hq; subst hq
      have := ((usesOf_mem f n p).1 hp).2.1
      omega
    · exact ih
end Go.Proofs.YtffkejkgkgfnhaaGreat
