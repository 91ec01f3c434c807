import Derived.Test.YtffkejkgkgfnhabGreatG09
import Derived.Test.YtffkejkgkgfnhabGreatG10
import Derived.Test.YtffkejkgkgfnhabGreatG08
import Derived.Test.YtffkejkgkgfnhabGreatG01
namespace Go.Proofs.YtffkejkgkgfnhabGreat
open Go.RowKit
set_option linter.unusedVariables false
theorem and64 (a b : Nat) (ha : a < 2 ^ 62) (hb : b < 2 ^ 62) : bits .and .i64 (a : Int) (b : Int) = ((a &&& b : Nat) : Int) := by
  have hx : a &&& b < 2 ^ 62 := Nat.and_lt_two_pow _ (by omega)
  have h1 : (BitVec.ofInt 64 (a : Int)).toNat = a := by
    rw [BitVec.ofInt_natCast, BitVec.toNat_ofNat]; exact Nat.mod_eq_of_lt (by omega)
  have h2 : (BitVec.ofInt 64 (b : Int)).toNat = b := by
    rw [BitVec.ofInt_natCast, BitVec.toNat_ofNat]; exact Nat.mod_eq_of_lt (by omega)
  show IntKind.i64.wrap ((BitVec.ofInt 64 (a : Int) &&& BitVec.ofInt 64 (b : Int)).toNat : Int) = _
  rw [BitVec.toNat_and, h1, h2, IntKind.wrap_i64]
  omega
theorem or64 (a b : Nat) (ha : a < 2 ^ 62) (hb : b < 2 ^ 62) : bits .or .i64 (a : Int) (b : Int) = ((a ||| b : Nat) : Int) := by
  have hx : a ||| b < 2 ^ 62 := Nat.or_lt_two_pow (by omega) (by omega)
  have h1 : (BitVec.ofInt 64 (a : Int)).toNat = a := by
    rw [BitVec.ofInt_natCast, BitVec.toNat_ofNat]; exact Nat.mod_eq_of_lt (by omega)
  have h2 : (BitVec.ofInt 64 (b : Int)).toNat = b := by
    rw [BitVec.ofInt_natCast, BitVec.toNat_ofNat]; exact Nat.mod_eq_of_lt (by omega)
  show IntKind.i64.wrap ((BitVec.ofInt 64 (a : Int) ||| BitVec.ofInt 64 (b : Int)).toNat : Int) = _
  rw [BitVec.toNat_or, h1, h2, IntKind.wrap_i64]
  omega
theorem cellF (w : World) (g j k i : Nat) (v : Value) (h : k ≠ g) : (w.setCell ⟨g, j, none⟩ v).cell? ⟨k, i, none⟩ = w.cell? ⟨k, i, none⟩ := World.cell?_of_block (set_far w g j v k h)
theorem cellO (w : World) (g j i : Nat) (v : Value) (h : j ≠ i) : (w.setCell ⟨g, j, none⟩ v).cell? ⟨g, i, none⟩ = w.cell? ⟨g, i, none⟩ := by
  apply World.cell?_setCell_other
  intro e
  injection e with e1 e2
  exact h e2
theorem cellS {w : World} {a : Addr} {u : Value} (v : Value) (h : w.cell? a = some u) : (w.setCell a v).cell? a = some v := World.cell?_setCell_same w a v h
theorem has64 (m x : Nat) (hm : m < 2 ^ 24) : (bits .and .i64 ((m : Int) / 2 ^ x) 1 == 1) = m.testBit x := by
  have e : ((m : Int) / 2 ^ x) = ((m / 2 ^ x : Nat) : Int) := by simp
  have hl : m / 2 ^ x < 2 ^ 62 := Nat.lt_of_le_of_lt (Nat.div_le_self _ _) (by omega)
  rw [e, show (1 : Int) = ((1 : Nat) : Int) from rfl, and64 _ _ hl (by decide), Nat.and_one_is_mod, Nat.testBit_eq_decide_div_mod_eq]
  rw [Bool.eq_iff_iff]; simp; omega
theorem many64 (m : Nat) (hm : m < 2 ^ 24) : (bits .and .i64 (m : Int) ((m : Int) - 1) != 0) = manyB m := by
  by_cases h : m = 0
  · subst h; decide
  · have e : ((m : Int) - 1) = ((m - 1 : Nat) : Int) := by omega
    rw [e, and64 _ _ (by omega) (by omega)]
    unfold manyB
    rw [Bool.eq_iff_iff]; simp
set_option maxHeartbeats 400000 in
theorem c120 (m x : Nat) (w : World) (hm : m < 2 ^ 24) (hx : x < 24) : Calls Tryz.prog 132 #[.int .i64 m, .int .i64 x] w fun e w' => e = .returned (.bool (m.testBit x)) ∧ w' = w := by
  go_enter Tryz.func132, Tryz.ntmps132
  go_wp2
  go_ret
  refine ⟨retS_bool ?_, rfl⟩
  exact has64 m x hm
structure Wp where
  (b gb ge gu n nc ec uc : Nat)
  la : Option Addr
  (tl lc : Nat)
structure WkOK (w : World) (p : Wp) (st : RS) : Prop where
  c0 : w.cell? ⟨p.b, 0, none⟩ = some (.slice p.la p.tl p.lc)
  c1 : w.cell? ⟨p.b, 1, none⟩ = some (.slice (some ⟨p.gb, 0, none⟩) p.n p.nc)
  c2 : w.cell? ⟨p.b, 2, none⟩ = some (.slice (some ⟨p.ge, 0, none⟩) p.n p.ec)
  c3 : w.cell? ⟨p.b, 3, none⟩ = some (.slice (some ⟨p.gu, 0, none⟩) 9624 p.uc)
  c4 : w.cell? ⟨p.b, 4, none⟩ = some (.bool st.wrong)
  c5 : w.cell? ⟨p.b, 5, none⟩ = some (.bool st.new)
  f4 : w.frozen? ⟨p.b, 4, none⟩ = false
  f5 : w.frozen? ⟨p.b, 5, none⟩ = false
  beg : ∀ k, k < p.n → w.cell? ⟨p.gb, k, none⟩ = some (.bool (st.beg k)) ∧ w.frozen? ⟨p.gb, k, none⟩ = false
  en : ∀ k, k < p.n → w.cell? ⟨p.ge, k, none⟩ = some (.int .i64 (st.en k)) ∧ w.frozen? ⟨p.ge, k, none⟩ = false
  used : ∀ k, k < 9624 → w.cell? ⟨p.gu, k, none⟩ = some (.bool (st.used k)) ∧ w.frozen? ⟨p.gu, k, none⟩ = false
  n1 : p.b ≠ p.gb
  n2 : p.b ≠ p.ge
  n3 : p.b ≠ p.gu
  n4 : p.gb ≠ p.ge
  n5 : p.gb ≠ p.gu
  n6 : p.ge ≠ p.gu
  l0 : p.b < w.heap.size
  l1 : p.gb < w.heap.size
  l2 : p.ge < w.heap.size
  l3 : p.gu < w.heap.size
  n24 : p.n ≤ 144
structure Chg (p : Wp) (w w' : World) : Prop where
  os : w'.os = w.os
  tape : w'.tape = w.tape
  output : w'.output = w.output
  size : w.heap.size ≤ w'.heap.size
  block : ∀ k, k < w.heap.size → k ≠ p.b → k ≠ p.gb → k ≠ p.ge → k ≠ p.gu → w'.heap[k]? = w.heap[k]?
theorem Chg.refl (p : Wp) (w : World) : Chg p w w := ⟨rfl, rfl, rfl, Nat.le_refl _, fun _ _ _ _ _ _ => rfl⟩
theorem Chg.trans {p : Wp} {a b c : World} (h : Chg p a b) (k : Chg p b c) : Chg p a c :=
  ⟨k.os.trans h.os, k.tape.trans h.tape, k.output.trans h.output, Nat.le_trans h.size k.size, fun i h1 h2 h3 h4 h5 => (k.block i (Nat.lt_of_lt_of_le h1 h.size) h2 h3 h4 h5).trans (h.block i h1 h2 h3 h4 h5)⟩
theorem Chg.of_below {p : Wp} {w w' : World} (h : Below w.heap.size w w') : Chg p w w' := ⟨h.os, h.tape, h.output, h.size, fun k h1 _ _ _ _ => h.block k h1⟩
theorem Chg.alloc {p : Wp} {w w' : World} (h : Chg p w w') (o : Obj) : Chg p w (w'.alloc o) := h.trans (Chg.of_below ((Below.refl _ _).alloc (Nat.le_refl _) _))
theorem WkOK.far {w w' : World} {p : Wp} {st : RS} (h : WkOK w p st) (hs : w.heap.size ≤ w'.heap.size) (hb : ∀ k, k = p.b ∨ k = p.gb ∨ k = p.ge ∨ k = p.gu → w'.heap[k]? = w.heap[k]?) : WkOK w' p st := by
  have e0 := hb p.b (.inl rfl)
  have e1 := hb p.gb (.inr (.inl rfl))
  have e2 := hb p.ge (.inr (.inr (.inl rfl)))
  have e3 := hb p.gu (.inr (.inr (.inr rfl)))
  obtain ⟨c0, c1, c2, c3, c4, c5, f4, f5, beg, en, used, n1, n2, n3, n4, n5, n6, l0, l1, l2, l3, n24⟩ := h
  exact ⟨(World.cell?_of_block e0).trans c0, (World.cell?_of_block e0).trans c1, (World.cell?_of_block e0).trans c2, (World.cell?_of_block e0).trans c3, (World.cell?_of_block e0).trans c4, (World.cell?_of_block e0).trans c5, (World.frozen?_of_block e0).trans f4, (World.frozen?_of_block e0).trans f5,
    fun k hk => ⟨(World.cell?_of_block e1).trans (beg k hk).1, (World.frozen?_of_block e1).trans (beg k hk).2⟩, fun k hk => ⟨(World.cell?_of_block e2).trans (en k hk).1, (World.frozen?_of_block e2).trans (en k hk).2⟩, fun k hk => ⟨(World.cell?_of_block e3).trans (used k hk).1, (World.frozen?_of_block e3).trans (used k hk).2⟩,
    n1, n2, n3, n4, n5, n6, by omega, by omega, by omega, by omega, n24⟩
theorem WkOK.below {w w' : World} {p : Wp} {st : RS} (h : WkOK w p st) (hb : Below w.heap.size w w') : WkOK w' p st :=
  h.far hb.size (fun k hk => hb.block k (by have := h.l0; have := h.l1; have := h.l2; have := h.l3; rcases hk with rfl | rfl | rfl | rfl <;> assumption))
theorem WkOK.alloc {w : World} {p : Wp} {st : RS} (h : WkOK w p st) (o : Obj) : WkOK (w.alloc o) p st := h.below ((Below.refl _ _).alloc (Nat.le_refl _) _)
theorem WkOK.setWrong {w : World} {p : Wp} {st : RS} (h : WkOK w p st) (v : Bool) : WkOK (w.setCell ⟨p.b, 4, none⟩ (.bool v)) p { st with wrong := v } := by
  have far : ∀ g j, p.b ≠ g → (w.setCell ⟨p.b, 4, none⟩ (.bool v)).cell? ⟨g, j, none⟩ = w.cell? ⟨g, j, none⟩ := fun g j hg => cellF w _ _ _ _ _ (Ne.symm hg)
  have oth : ∀ j, 4 ≠ j → (w.setCell ⟨p.b, 4, none⟩ (.bool v)).cell? ⟨p.b, j, none⟩ = w.cell? ⟨p.b, j, none⟩ := fun j hj => cellO w _ _ _ _ hj
  obtain ⟨c0, c1, c2, c3, c4, c5, f4, f5, beg, en, used, n1, n2, n3, n4, n5, n6, l0, l1, l2, l3, n24⟩ := h
  refine ⟨(oth 0 (by decide)).trans c0, (oth 1 (by decide)).trans c1, (oth 2 (by decide)).trans c2, (oth 3 (by decide)).trans c3, cellS _ c4, (oth 5 (by decide)).trans c5, by simpa using f4, by simpa using f5,
    fun k hk => ⟨(far _ k n1).trans (beg k hk).1, by simpa using (beg k hk).2⟩, fun k hk => ⟨(far _ k n2).trans (en k hk).1, by simpa using (en k hk).2⟩, fun k hk => ⟨(far _ k n3).trans (used k hk).1, by simpa using (used k hk).2⟩,
    n1, n2, n3, n4, n5, n6, by simpa using l0, by simpa using l1, by simpa using l2, by simpa using l3, n24⟩
theorem WkOK.setNew {w : World} {p : Wp} {st : RS} (h : WkOK w p st) (v : Bool) : WkOK (w.setCell ⟨p.b, 5, none⟩ (.bool v)) p { st with new := v } := by
  have far : ∀ g j, p.b ≠ g → (w.setCell ⟨p.b, 5, none⟩ (.bool v)).cell? ⟨g, j, none⟩ = w.cell? ⟨g, j, none⟩ := fun g j hg => cellF w _ _ _ _ _ (Ne.symm hg)
  have oth : ∀ j, 5 ≠ j → (w.setCell ⟨p.b, 5, none⟩ (.bool v)).cell? ⟨p.b, j, none⟩ = w.cell? ⟨p.b, j, none⟩ := fun j hj => cellO w _ _ _ _ hj
  obtain ⟨c0, c1, c2, c3, c4, c5, f4, f5, beg, en, used, n1, n2, n3, n4, n5, n6, l0, l1, l2, l3, n24⟩ := h
  refine ⟨(oth 0 (by decide)).trans c0, (oth 1 (by decide)).trans c1, (oth 2 (by decide)).trans c2, (oth 3 (by decide)).trans c3, (oth 4 (by decide)).trans c4, cellS _ c5, by simpa using f4, by simpa using f5,
    fun k hk => ⟨(far _ k n1).trans (beg k hk).1, by simpa using (beg k hk).2⟩, fun k hk => ⟨(far _ k n2).trans (en k hk).1, by simpa using (en k hk).2⟩, fun k hk => ⟨(far _ k n3).trans (used k hk).1, by simpa using (used k hk).2⟩,
    n1, n2, n3, n4, n5, n6, by simpa using l0, by simpa using l1, by simpa using l2, by simpa using l3, n24⟩
theorem WkOK.setBeg {w : World} {p : Wp} {st : RS} (h : WkOK w p st) (i : Nat) (hi : i < p.n) : WkOK (w.setCell ⟨p.gb, i, none⟩ (.bool true)) p { st with beg := upd st.beg i } := by
  have far : ∀ g j, p.gb ≠ g → (w.setCell ⟨p.gb, i, none⟩ (.bool true)).cell? ⟨g, j, none⟩ = w.cell? ⟨g, j, none⟩ := fun g j hg => cellF w _ _ _ _ _ (Ne.symm hg)
  obtain ⟨c0, c1, c2, c3, c4, c5, f4, f5, beg, en, used, n1, n2, n3, n4, n5, n6, l0, l1, l2, l3, n24⟩ := h
  refine ⟨(far _ 0 n1.symm).trans c0, (far _ 1 n1.symm).trans c1, (far _ 2 n1.symm).trans c2, (far _ 3 n1.symm).trans c3, (far _ 4 n1.symm).trans c4, (far _ 5 n1.symm).trans c5, by simpa using f4, by simpa using f5,
    fun k hk => ⟨?_, by simpa using (beg k hk).2⟩, fun k hk => ⟨(far _ k n4).trans (en k hk).1, by simpa using (en k hk).2⟩, fun k hk => ⟨(far _ k n5).trans (used k hk).1, by simpa using (used k hk).2⟩,
    n1, n2, n3, n4, n5, n6, by simpa using l0, by simpa using l1, by simpa using l2, by simpa using l3, n24⟩
  by_cases e : k = i
  · subst e
    rw [cellS _ (beg k hk).1]; simp [upd]
  · rw [cellO w _ _ _ _ (Ne.symm e), (beg k hk).1]; simp [upd, e]
theorem WkOK.setUsed {w : World} {p : Wp} {st : RS} (h : WkOK w p st) (i : Nat) (hi : i < 9624) : WkOK (w.setCell ⟨p.gu, i, none⟩ (.bool true)) p { st with used := upd st.used i } := by
  have far : ∀ g j, p.gu ≠ g → (w.setCell ⟨p.gu, i, none⟩ (.bool true)).cell? ⟨g, j, none⟩ = w.cell? ⟨g, j, none⟩ := fun g j hg => cellF w _ _ _ _ _ (Ne.symm hg)
  obtain ⟨c0, c1, c2, c3, c4, c5, f4, f5, beg, en, used, n1, n2, n3, n4, n5, n6, l0, l1, l2, l3, n24⟩ := h
  refine ⟨(far _ 0 n3.symm).trans c0, (far _ 1 n3.symm).trans c1, (far _ 2 n3.symm).trans c2, (far _ 3 n3.symm).trans c3, (far _ 4 n3.symm).trans c4, (far _ 5 n3.symm).trans c5, by simpa using f4, by simpa using f5,
    fun k hk => ⟨(far _ k n5.symm).trans (beg k hk).1, by simpa using (beg k hk).2⟩, fun k hk => ⟨(far _ k n6.symm).trans (en k hk).1, by simpa using (en k hk).2⟩, fun k hk => ⟨?_, by simpa using (used k hk).2⟩,
    n1, n2, n3, n4, n5, n6, by simpa using l0, by simpa using l1, by simpa using l2, by simpa using l3, n24⟩
  by_cases e : k = i
  · subst e
    rw [cellS _ (used k hk).1]; simp [upd]
  · rw [cellO w _ _ _ _ (Ne.symm e), (used k hk).1]; simp [upd, e]
theorem WkOK.setEn {w : World} {p : Wp} {st : RS} (h : WkOK w p st) (i v : Nat) (hi : i < p.n) : WkOK (w.setCell ⟨p.ge, i, none⟩ (.int .i64 v)) p { st with en := updN st.en i v } := by
  have far : ∀ g j, p.ge ≠ g → (w.setCell ⟨p.ge, i, none⟩ (.int .i64 v)).cell? ⟨g, j, none⟩ = w.cell? ⟨g, j, none⟩ := fun g j hg => cellF w _ _ _ _ _ (Ne.symm hg)
  obtain ⟨c0, c1, c2, c3, c4, c5, f4, f5, beg, en, used, n1, n2, n3, n4, n5, n6, l0, l1, l2, l3, n24⟩ := h
  refine ⟨(far _ 0 n2.symm).trans c0, (far _ 1 n2.symm).trans c1, (far _ 2 n2.symm).trans c2, (far _ 3 n2.symm).trans c3, (far _ 4 n2.symm).trans c4, (far _ 5 n2.symm).trans c5, by simpa using f4, by simpa using f5,
    fun k hk => ⟨(far _ k n4.symm).trans (beg k hk).1, by simpa using (beg k hk).2⟩, fun k hk => ⟨?_, by simpa using (en k hk).2⟩, fun k hk => ⟨(far _ k n6).trans (used k hk).1, by simpa using (used k hk).2⟩,
    n1, n2, n3, n4, n5, n6, by simpa using l0, by simpa using l1, by simpa using l2, by simpa using l3, n24⟩
  by_cases e : k = i
  · subst e
    rw [cellS _ (en k hk).1]; simp [updN]
  · rw [cellO w _ _ _ _ (Ne.symm e), (en k hk).1]; simp [updN, e]
theorem Chg.set {p : Wp} {w w' : World} (h : Chg p w w') (g j : Nat) (v : Value) (hg : g = p.b ∨ g = p.gb ∨ g = p.ge ∨ g = p.gu) : Chg p w (w'.setCell ⟨g, j, none⟩ v) :=
  h.trans ⟨rfl, rfl, rfl, by simp, fun k h1 h2 h3 h4 h5 => set_far w' g j v k (by rcases hg with rfl | rfl | rfl | rfl <;> assumption)⟩
set_option maxHeartbeats 400000 in
theorem c108 (m : Nat) (w : World) (p : Wp) (st : RS) (hm : m < 2 ^ 24) (h : WkOK w p st) : Calls Tryz.prog 111 #[.pointer (some ⟨p.b, 0, none⟩), .int .i64 m] w fun e w' => e = .returned (.tuple #[]) ∧ Chg p w w' ∧ WkOK w' p (placeR m st) := by
  have H := hidS h
  obtain ⟨c0, c1, c2, c3, c4, c5, f4, f5, _⟩ := h
  have hb := many64 m hm
  cases hx : manyB m
  · have HP : Hid (placeR m st = st) := by show _ = _; simp [placeR, hx]
    rw [hx] at hb
    go_enter Tryz.func111, Tryz.ntmps111
    go_wp2
    go_end0
    exact ⟨rfl, Chg.refl _ _, by rw [HP.out]; exact H.out⟩
  · have HP : Hid (placeR m st = { st with wrong := true }) := by show _ = _; simp [placeR, hx]
    rw [hx] at hb
    go_enter Tryz.func111, Tryz.ntmps111
    go_wp2
    go_end0
    exact ⟨rfl, (Chg.refl _ _).set _ _ _ (.inl rfl), by rw [HP.out]; exact H.out.setWrong true⟩
theorem pow24 (y : Nat) (h : y < 24) : 2 ^ y < 2 ^ 24 := Nat.pow_lt_pow_right (by decide) h
theorem shl64 (y : Nat) (h : y < 24) : wrap64 ((2 : Int) ^ y) = ((2 ^ y : Nat) : Int) := by
  have h1 := pow24 y h
  have e : ((2 : Int) ^ y) = ((2 ^ y : Nat) : Int) := by simp
  rw [e]
  generalize 2 ^ y = z at *
  unfold wrap64
  omega
theorem scn_nat (x : Nat) (l : List UInt8) (h : scn x l ≠ -1) : ∃ y : Nat, scn x l = (y : Int) ∧ y < 24 := by
  have := scn_range x l
  exact ⟨(scn x l).toNat, by omega, by omega⟩
theorem tOut_no (l : List UInt8) (m k : Nat) (h : m.testBit k = false) : tOut l m (k + 1) = tOut l m k ∧ tBad l m (k + 1) = tBad l m k := by simp [tOut, tBad, h]
theorem tOut_bad (l : List UInt8) (m k : Nat) (h : m.testBit k = true) (h2 : scn k l = -1) : tOut l m (k + 1) = tOut l m k ∧ tBad l m (k + 1) = true := by simp [tOut, tBad, h, h2]
theorem tOut_yes (l : List UInt8) (m k y : Nat) (h : m.testBit k = true) (h2 : scn k l = (y : Int)) : tOut l m (k + 1) = tOut l m k ||| 2 ^ y ∧ tBad l m (k + 1) = tBad l m k := by
  have : (y : Int) ≠ -1 := by omega
  simp [tOut, tBad, h, h2, this]
set_option maxHeartbeats 1000000 in
theorem c116 (m : Nat) (t : ByteArray) (w : World) (p : Wp) (st : RS) (hm : m < 2 ^ 24) (hs : t.size ≤ maxLen) (h : WkOK w p st) : Calls Tryz.prog 126 #[.pointer (some ⟨p.b, 0, none⟩), .int .i64 m, .string t] w fun e w' => e = .returned (.int .i64 (tOut t.data.toList m 24)) ∧ Chg p w w' ∧ WkOK w' p { st with wrong := st.wrong || tBad t.data.toList m 24 } := by
  have H := hidS h
  have Hs := hidS (fun x wx => c22 x t wx hs)
  clear h
  go_enter Tryz.func126, Tryz.ntmps126
  go_wp2
  go_loopw [7, 8, 9, 10] (fun o x _ _ wr => ∃ k : Nat, k ≤ 24 ∧ x = .int .i64 k ∧ o = .int .i64 (tOut t.data.toList m k) ∧ Hid (Chg p w wr) ∧ Hid (WkOK wr p { st with wrong := st.wrong || tBad t.data.toList m k })) (fun _ x _ _ _ => 24 - (intOf x).toNat)
  case atStart => exact ⟨0, by omega, rfl, rfl, Chg.refl _ _, (by show WkOK _ _ _; simpa [tBad] using H.out)⟩
  case round =>
    obtain ⟨k, hk, rfl, rfl, HC, HW⟩ := hrel
    by_cases hlt : k < 24
    · have Hh := hidS (c120 m k wr hm hlt)
      go_wp2_with fail
      refine Hh.out.mono ?_
      rintro e w1 ⟨rfl, hw⟩
      obtain rfl := hw.symm
      clear Hh
      have f4 := HW.out.f4
      have c4 := HW.out.c4
      cases hb : m.testBit k
      · obtain ⟨t1, t2⟩ := tOut_no t.data.toList m k hb
        have HW2 : Hid (WkOK wr p { st with wrong := st.wrong || tBad t.data.toList m (k + 1) }) := by show WkOK _ _ _; rw [t2]; exact HW.out
        have T1 := hidS t1
        clear t1 t2
        go_wp2
        exact ⟨⟨k + 1, by omega, by go_num, by rw [T1.out], HC.out, HW2.out⟩, by simp [intOf]; omega⟩
      · by_cases hl : scn k t.data.toList = -1
        · obtain ⟨t1, t2⟩ := tOut_bad t.data.toList m k hb hl
          have HW2 : Hid (WkOK (wr.setCell ⟨p.b, 4, none⟩ (.bool true)) p { st with wrong := st.wrong || tBad t.data.toList m (k + 1) }) := by show WkOK _ _ _; rw [t2, Bool.or_true]; exact HW.out.setWrong true
          have T1 := hidS t1
          have hl' : (scn k t.data.toList == -1) = true := by simp [hl]
          clear t1 t2 hl
          go_wp2_with fail
          refine (Hs.out _ _).mono ?_
          rintro e w1 ⟨rfl, hw⟩
          obtain rfl := hw.symm
          generalize scn k t.data.toList = Y at *
          go_wp2
          exact ⟨⟨k + 1, by omega, by go_num, by rw [T1.out], HC.out.set _ _ _ (.inl rfl), HW2.out⟩, by simp [intOf]; omega⟩
        · obtain ⟨y, hy, hy24⟩ := scn_nat k t.data.toList hl
          obtain ⟨t1, t2⟩ := tOut_yes t.data.toList m k y hb hy
          have HW2 : Hid (WkOK wr p { st with wrong := st.wrong || tBad t.data.toList m (k + 1) }) := by show WkOK _ _ _; rw [t2]; exact HW.out
          have T1 := hidS t1
          have TL := tOut_lt t.data.toList m k
          have hy' : ((y : Int) == -1) = false := by simp
          clear t1 t2 hl
          go_wp2_with fail
          refine (Hs.out _ _).mono ?_
          rw [hy]
          rintro e w1 ⟨rfl, hw⟩
          obtain rfl := hw.symm
          clear hy
          go_wp2
          refine ⟨⟨k + 1, by omega, by go_num, ?_, HC.out, HW2.out⟩, by simp [intOf]; omega⟩
          rw [shl64 y hy24, or64 _ _ (by omega) (by have := pow24 y hy24; omega), T1.out]
    · have e : k = 24 := by omega
      subst e
      go_wp2
      go_ret
      exact ⟨rfl, HC.out, HW.out⟩
theorem opS_opB (x : Nat) : opB (x : Int) = opS x := by
  unfold opB opS
  rw [Bool.eq_iff_iff]; simp; omega
theorem hUse_no (a m : Nat) (f : Nat → Bool) (k : Nat) (h : m.testBit k = false) : hUse a m f (k + 1) = hUse a m f k ∧ hBad m (k + 1) = hBad m k := by simp [hUse, hBad, h]
theorem hUse_bad (a m : Nat) (f : Nat → Bool) (k : Nat) (h : m.testBit k = true) (h2 : opS k = false) : hUse a m f (k + 1) = hUse a m f k ∧ hBad m (k + 1) = true := by simp [hUse, hBad, h, h2]
theorem hUse_yes (a m : Nat) (f : Nat → Bool) (k : Nat) (h : m.testBit k = true) (h2 : opS k = true) : hUse a m f (k + 1) = upd (hUse a m f k) (a * 24 + k) ∧ hBad m (k + 1) = hBad m k := by simp [hUse, hBad, h, h2]
set_option maxHeartbeats 1000000 in
theorem c117 (m a : Nat) (w : World) (p : Wp) (st : RS) (hm : m < 2 ^ 24) (ha : a ≤ 400) (h : WkOK w p st) : Calls Tryz.prog 127 #[.pointer (some ⟨p.b, 0, none⟩), .int .i64 m, .int .i64 a] w fun e w' => e = .returned (.tuple #[]) ∧ Chg p w w' ∧ WkOK w' p { st with wrong := st.wrong || hBad m 24, used := hUse a m st.used 24 } := by
  have H := hidS h
  clear h
  go_enter Tryz.func127, Tryz.ntmps127
  go_wp2
  go_loopw [6, 7, 8] (fun x _ _ wr => ∃ k : Nat, k ≤ 24 ∧ x = .int .i64 k ∧ Hid (Chg p w wr) ∧ Hid (WkOK wr p { st with wrong := st.wrong || hBad m k, used := hUse a m st.used k })) (fun x _ _ _ => 24 - (intOf x).toNat)
  case atStart => exact ⟨0, by omega, rfl, Chg.refl _ _, (by show WkOK _ _ _; simpa [hBad, hUse] using H.out)⟩
  case round =>
    obtain ⟨k, hk, rfl, HC, HW⟩ := hrel
    by_cases hlt : k < 24
    · have Hh := hidS (c120 m k wr hm hlt)
      have Ho := hidS (c33 k wr)
      go_wp2_with fail
      refine Hh.out.mono ?_
      rintro e w1 ⟨rfl, hw⟩
      obtain rfl := hw.symm
      clear Hh
      go_wp2_with fail
      refine Ho.out.mono ?_
      rw [opS_opB]
      rintro e w1 ⟨rfl, hw⟩
      obtain rfl := hw.symm
      clear Ho
      have f4 := HW.out.f4
      have c4 := HW.out.c4
      have c3 := HW.out.c3
      obtain ⟨cu, fu⟩ := HW.out.used (a * 24 + k) (by omega)
      cases hb : m.testBit k
      · obtain ⟨t1, t2⟩ := hUse_no a m st.used k hb
        have HW2 : Hid (WkOK wr p { st with wrong := st.wrong || hBad m (k + 1), used := hUse a m st.used (k + 1) }) := by show WkOK _ _ _; rw [t1, t2]; exact HW.out
        clear t1 t2
        generalize opS k = O at *
        go_wp2
        all_goals exact ⟨⟨k + 1, by omega, by go_num, HC.out, HW2.out⟩, by simp [intOf]; omega⟩
      · cases ho : opS k
        · obtain ⟨t1, t2⟩ := hUse_bad a m st.used k hb ho
          have HW2 : Hid (WkOK (wr.setCell ⟨p.b, 4, none⟩ (.bool true)) p { st with wrong := st.wrong || hBad m (k + 1), used := hUse a m st.used (k + 1) }) := by show WkOK _ _ _; rw [t1, t2, Bool.or_true]; exact HW.out.setWrong true
          clear t1 t2
          go_wp2
          exact ⟨⟨k + 1, by omega, by go_num, HC.out.set _ _ _ (.inl rfl), HW2.out⟩, by simp [intOf]; omega⟩
        · obtain ⟨t1, t2⟩ := hUse_yes a m st.used k hb ho
          have HW2 : Hid (WkOK (wr.setCell ⟨p.gu, a * 24 + k, none⟩ (.bool true)) p { st with wrong := st.wrong || hBad m (k + 1), used := hUse a m st.used (k + 1) }) := by show WkOK _ _ _; rw [t1, t2]; exact HW.out.setUsed _ (by omega)
          clear t1 t2
          go_wp2
          exact ⟨⟨k + 1, by omega, by go_num, HC.out.set _ _ _ (.inr (.inr (.inr rfl))), HW2.out⟩, by simp [intOf]; omega⟩
    · have e : k = 24 := by omega
      subst e
      go_wp2
      go_end0
      exact ⟨rfl, HC.out, HW.out⟩
end Go.Proofs.YtffkejkgkgfnhabGreat
namespace Go.Proofs.YtffkejkgkgfnhabGreat
open Go.RowKit
set_option linter.unusedVariables false
set_option maxHeartbeats 400000 in
theorem c9nil (K : Int) (a : Option Addr) (cap : Nat) (w : World) :
    Calls Tryz.prog 4 #[.slice a 0 cap, .int .i64 K, .int .i64 K] w fun e w' => e = .returned (.int .i64 (-1)) ∧ Below w.heap.size w w' := by
  go_enter Tryz.func4, Tryz.ntmps4
  go_wp2
  refine wp_loop_rounds 1 ?_
  rw [rounds_succ]
  go_wp2
  go_ret
  exact ⟨rfl, (Below.refl _ _).alloc (Nat.le_refl _) _⟩
theorem IsOps.mono {w : World} {a : Option Addr} {len : Nat} {Q G : Int → ByteArray → ByteArray → Prop} (h : IsOps w a len Q) (k : ∀ n s t, Q n s t → G n s t) : IsOps w a len G := by
  rcases h with rfl | ⟨b, off, Kd, Nn, Ss, Ts, Ds, rfl, hb, h0, h1, h2, h3, h4, hG⟩
  · exact .inl rfl
  · exact .inr ⟨b, off, Kd, Nn, Ss, Ts, Ds, rfl, hb, h0, h1, h2, h3, h4, fun i hi => k _ _ _ (hG i hi)⟩
end Go.Proofs.YtffkejkgkgfnhabGreat
namespace Go.Proofs.YtffkejkgkgfnhabGreat
open Go.RowKit
set_option linter.unusedVariables false
theorem cBeg_at (t m : Nat) (f : Nat → Bool) (k : Nat) : cBeg t m f k (t * 24 + k) = f (t * 24 + k) := by
  rw [Bool.eq_iff_iff, cBeg_iff]
  constructor
  · rintro (h | ⟨x, h1, _, h3⟩)
    · exact h
    · omega
  · exact .inl
theorem upd_id (f : Nat → Bool) (k : Nat) (h : f k = true) : upd f k = f := by
  funext j; unfold upd; split
  · rename_i e; rw [e, h]
  · rfl
theorem call_no (t m : Nat) (f : Nat → Bool) (n : Bool) (en : Nat → Nat) (k : Nat) (h : m.testBit k = false) : cBeg t m f (k + 1) = cBeg t m f k ∧ cNew t m f n (k + 1) = cNew t m f n k ∧ cOut t m en (k + 1) = cOut t m en k := by simp [cBeg, cNew, cOut, h]
theorem call_old (t m : Nat) (f : Nat → Bool) (n : Bool) (en : Nat → Nat) (k : Nat) (h : m.testBit k = true) (h2 : f (t * 24 + k) = true) : cBeg t m f (k + 1) = cBeg t m f k ∧ cNew t m f n (k + 1) = cNew t m f n k ∧ cOut t m en (k + 1) = cOut t m en k ||| en (t * 24 + k) := by
  refine ⟨?_, by simp [cNew, h, h2], by simp [cOut, h]⟩
  simp only [cBeg]
  rw [if_pos h, upd_id]
  rw [cBeg_at]; exact h2
theorem call_new (t m : Nat) (f : Nat → Bool) (n : Bool) (en : Nat → Nat) (k : Nat) (h : m.testBit k = true) (h2 : f (t * 24 + k) = false) : cBeg t m f (k + 1) = upd (cBeg t m f k) (t * 24 + k) ∧ cNew t m f n (k + 1) = true ∧ cOut t m en (k + 1) = cOut t m en k ||| en (t * 24 + k) := by
  refine ⟨?_, by simp [cNew, h, h2], by simp [cOut, h]⟩
  simp only [cBeg]
  rw [if_pos h]
set_option maxHeartbeats 1000000 in
theorem c119 (m t : Nat) (w : World) (p : Wp) (st : RS) (hm : m < 2 ^ 24) (ht : t * 24 + 24 ≤ p.n) (hz : ∀ j, st.en j < 2 ^ 24) (h : WkOK w p st) : Calls Tryz.prog 129 #[.pointer (some ⟨p.b, 0, none⟩), .int .i64 m, .int .i64 t] w fun e w' => e = .returned (.int .i64 (cOut t m st.en 24)) ∧ Chg p w w' ∧ WkOK w' p { st with beg := cBeg t m st.beg 24, new := cNew t m st.beg st.new 24 } := by
  have H := hidS h
  have hn := h.n24
  clear h
  go_enter Tryz.func129, Tryz.ntmps129
  go_wp2
  go_loopw [7, 8, 9, 10] (fun o x _ _ wr => ∃ k : Nat, k ≤ 24 ∧ x = .int .i64 k ∧ o = .int .i64 (cOut t m st.en k) ∧ Hid (Chg p w wr) ∧ Hid (WkOK wr p { st with beg := cBeg t m st.beg k, new := cNew t m st.beg st.new k })) (fun _ x _ _ _ => 24 - (intOf x).toNat)
  case atStart => exact ⟨0, by omega, rfl, rfl, Chg.refl _ _, (by show WkOK _ _ _; simpa [cBeg, cNew] using H.out)⟩
  case round =>
    obtain ⟨k, hk, rfl, rfl, HC, HW⟩ := hrel
    by_cases hlt : k < 24
    · have Hh := hidS (c120 m k wr hm hlt)
      go_wp2_with fail
      refine Hh.out.mono ?_
      rintro e w1 ⟨rfl, hw⟩
      obtain rfl := hw.symm
      clear Hh
      have f5 := HW.out.f5
      have c5 := HW.out.c5
      have c1 := HW.out.c1
      have c2 := HW.out.c2
      have d1 := HW.out.n1
      have d2 := HW.out.n2
      have d4 := HW.out.n4
      obtain ⟨cu, fu⟩ := HW.out.beg (t * 24 + k) (by omega)
      obtain ⟨ce, fe⟩ := HW.out.en (t * 24 + k) (by omega)
      simp only [cBeg_at] at cu
      have TL := cOut_lt t m st.en hz k
      have TE := hz (t * 24 + k)
      cases hb : m.testBit k
      · obtain ⟨t1, t2, t3⟩ := call_no t m st.beg st.new st.en k hb
        have HW2 : Hid (WkOK wr p { st with beg := cBeg t m st.beg (k + 1), new := cNew t m st.beg st.new (k + 1) }) := by show WkOK _ _ _; rw [t1, t2]; exact HW.out
        have T3 := hidS t3
        clear t1 t2 t3
        go_wp2
        exact ⟨⟨k + 1, by omega, by go_num, by rw [T3.out], HC.out, HW2.out⟩, by simp [intOf]; omega⟩
      · cases ho : st.beg (t * 24 + k)
        · obtain ⟨t1, t2, t3⟩ := call_new t m st.beg st.new st.en k hb ho
          have HW2 : Hid (WkOK ((wr.setCell ⟨p.gb, t * 24 + k, none⟩ (.bool true)).setCell ⟨p.b, 5, none⟩ (.bool true)) p { st with beg := cBeg t m st.beg (k + 1), new := cNew t m st.beg st.new (k + 1) }) := by show WkOK _ _ _; rw [t1, t2]; exact (HW.out.setBeg _ (by omega)).setNew true
          have T3 := hidS t3
          have q1 : (wr.setCell ⟨p.gb, t * 24 + k, none⟩ (.bool true)).cell? ⟨p.b, 5, none⟩ = some (.bool (cNew t m st.beg st.new k)) := (cellF _ _ _ _ _ _ d1).trans c5
          rw [ho] at cu
          clear t1 t2 t3 ho
          generalize cOut t m st.en k = O at *
          go_wp2
          refine ⟨⟨k + 1, by omega, by go_num, ?_, (HC.out.set _ _ _ (.inr (.inl rfl))).set _ _ _ (.inl rfl), HW2.out⟩, by simp [intOf]; omega⟩
          rw [or64 _ _ (by omega) (by omega), T3.out]
        · obtain ⟨t1, t2, t3⟩ := call_old t m st.beg st.new st.en k hb ho
          have HW2 : Hid (WkOK wr p { st with beg := cBeg t m st.beg (k + 1), new := cNew t m st.beg st.new (k + 1) }) := by show WkOK _ _ _; rw [t1, t2]; exact HW.out
          have T3 := hidS t3
          rw [ho] at cu
          clear t1 t2 t3 ho
          generalize cOut t m st.en k = O at *
          go_wp2
          refine ⟨⟨k + 1, by omega, by go_num, ?_, HC.out, HW2.out⟩, by simp [intOf]; omega⟩
          rw [or64 _ _ (by omega) (by omega), T3.out]
    · have e : k = 24 := by omega
      subst e
      go_wp2
      go_ret
      exact ⟨rfl, HC.out, HW.out⟩
end Go.Proofs.YtffkejkgkgfnhabGreat
