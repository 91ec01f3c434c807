import Derived.Test.YtponicaflcbbeaaGreatJ10
import Derived.Test.YtponicaflcbbeaaGreatJ13
namespace Go.Proofs.YtponicaflcbbeaaGreat
open Go.RowKit
set_option linter.unusedVariables false
structure ChgB (w w' : World) (b : Nat) (v : Value) : Prop where
  os : w'.os = w.os
  tape : w'.tape = w.tape
  output : w'.output = w.output
  size : w.heap.size ≤ w'.heap.size
  block : ∀ k, k < w.heap.size → k ≠ b → some k ≠ v.ownBlock → w'.heap[k]? = w.heap[k]?
structure StOK (w : World) (b B nt : Nat) (inb : Bool) (op : List Int) (oa : Option Addr) (oc : Nat) : Prop where
  c0 : w.cell? ⟨b, 0, none⟩ = some (.int .i64 nt)
  c1 : w.cell? ⟨b, 1, none⟩ = some (.bool inb)
  c2 : w.cell? ⟨b, 2, none⟩ = some (.slice oa op.length oc)
  f0 : w.frozen? ⟨b, 0, none⟩ = false
  f1 : w.frozen? ⟨b, 1, none⟩ = false
  f2 : w.frozen? ⟨b, 2, none⟩ = false
  own : w.ownsRow B 3 1 (.slice oa op.length oc) op.length (op.map (Value.int .i64))
  lt : b < B
  le : B ≤ w.heap.size
  len : op.length ≤ 8
  nts : nt ≤ 6
def TakePost (w : World) (b B nt : Nat) (inb : Bool) (op : List Int) (oa : Option Addr) (oc : Nat) (k : Int) (e : Ending) (w' : World) : Prop :=
  ChgB w w' b (.slice oa op.length oc) ∧
  ((takeS inb nt op k = none ∧ e = .returned (.bool false)) ∨
   ∃ i n o oa' oc', takeS inb nt op k = some (i, n, o) ∧ e = .returned (.bool true) ∧ StOK w' b B n i o oa' oc' ∧ ((Value.slice oa' o.length oc').ownBlock = (Value.slice oa op.length oc).ownBlock ∨ ∃ g, w.heap.size ≤ g ∧ (Value.slice oa' o.length oc').ownBlock = some g))
theorem ChgB.refl (w : World) (b : Nat) (v : Value) : ChgB w w b v := ⟨rfl, rfl, rfl, Nat.le_refl _, fun _ _ _ _ => rfl⟩
theorem ChgB.set {w w' : World} {b : Nat} {v : Value} (h : ChgB w w' b v) (j : Nat) (u : Value) : ChgB w (w'.setCell ⟨b, j, none⟩ u) b v :=
  ⟨h.os, h.tape, h.output, by have := h.size; simpa using this, fun k h1 h2 h3 => (Below.heap_setCell w' ⟨b, j, none⟩ u k h2).trans (h.block k h1 h2 h3)⟩
theorem own_set {w : World} {B b j : Nat} {v : Value} {n : Nat} {xs : List Value} (h : w.ownsRow B 3 1 v n xs) (hb : b < B) (u : Value) : (w.setCell ⟨b, j, none⟩ u).ownsRow B 3 1 v n xs :=
  ownsRow_setCell_below h hb u
theorem st_begin {w : World} {b B nt : Nat} {op : List Int} {oa : Option Addr} {oc : Nat} (h : StOK w b B nt false op oa oc) (hl : nt < 6) :
    StOK ((w.setCell ⟨b, 0, none⟩ (.int .i64 ((nt : Int) + 1))).setCell ⟨b, 1, none⟩ (.bool true)) b B (nt + 1) true op oa oc := by
  have ho := own_set (j := 1) (own_set (j := 0) h.own h.lt (.int .i64 ((nt : Int) + 1))) h.lt (.bool true)
  have hle := h.le
  obtain ⟨c0, c1, c2, f0, f1, f2, _, hlt, _, hlen, hn⟩ := h
  refine ⟨?_, ?_, ?_, ?_, ?_, ?_, ho, hlt, by simpa using hle, hlen, by omega⟩ <;> go_simp
theorem st_end {w : World} {b B nt : Nat} {op : List Int} {oa : Option Addr} {oc : Nat} (h : StOK w b B nt true op oa oc) :
    StOK (w.setCell ⟨b, 1, none⟩ (.bool false)) b B nt false op oa oc := by
  have ho := own_set (j := 1) h.own h.lt (.bool false)
  have hle := h.le
  obtain ⟨c0, c1, c2, f0, f1, f2, _, hlt, _, hlen, hn⟩ := h
  refine ⟨?_, ?_, ?_, ?_, ?_, ?_, ho, hlt, by simpa using hle, hlen, hn⟩ <;> go_simp
set_option maxHeartbeats 1000000 in
theorem take_begin (w : World) (b B nt : Nat) (op : List Int) (oa : Option Addr) (oc : Nat) (k : Int) (h : StOK w b B nt false op oa oc) :
    Calls Tryz.prog 79 #[.pointer (some ⟨b, 0, none⟩), .int .i64 k] w fun e w' => TakePost w b B nt false op oa oc k e w' := by
  have H := hidS h
  obtain ⟨c0, c1, c2, f0, f1, f2, _, _, _, _, hn⟩ := h
  by_cases hk : k = 1
  · have hk1 : (k == 1) = true := by simp [hk]
    have hk2 : (k != 1) = false := by simp [hk]
    by_cases hl : nt < 6
    · have HT : Hid (takeS false nt op k = some (true, nt + 1, op)) := by show _ = _; simp [takeS, hk, hl]
      clear hk
      go_enter Tryz.func79, Tryz.ntmps79
      go_wp2
      go_ret
      exact ⟨((ChgB.refl _ _ _).set 0 _).set 1 _, .inr ⟨true, nt + 1, op, oa, oc, HT.out, rfl, st_begin H.out hl, .inl rfl⟩⟩
    · have HT : Hid (takeS false nt op k = none) := by show _ = _; simp [takeS, hl]
      clear hk
      go_enter Tryz.func79, Tryz.ntmps79
      go_wp2
      go_ret
      exact ⟨ChgB.refl _ _ _, .inl ⟨HT.out, rfl⟩⟩
  · have HT : Hid (takeS false nt op k = none) := by show _ = _; simp [takeS, hk]
    have hk2 : (k != 1) = true := by simp [hk]
    clear hk
    go_enter Tryz.func79, Tryz.ntmps79
    go_wp2
    go_ret
    exact ⟨ChgB.refl _ _ _, .inl ⟨HT.out, rfl⟩⟩
set_option maxHeartbeats 1000000 in
theorem take_pass (w : World) (b B nt : Nat) (op : List Int) (oa : Option Addr) (oc : Nat) (k : Int) (h : StOK w b B nt true op oa oc) (hk : k = 3 ∨ k = 8 ∨ k = 0 ∨ k = 1) :
    Calls Tryz.prog 79 #[.pointer (some ⟨b, 0, none⟩), .int .i64 k] w fun e w' => TakePost w b B nt true op oa oc k e w' := by
  have H := hidS h
  obtain ⟨c0, c1, c2, f0, f1, f2, _, _, _, _, hn⟩ := h
  rcases hk with rfl | rfl | rfl | rfl
  · go_enter Tryz.func79, Tryz.ntmps79
    go_wp2
    go_ret
    exact ⟨ChgB.refl _ _ _, .inr ⟨true, nt, op, oa, oc, by simp [takeS], rfl, H.out, .inl rfl⟩⟩
  · go_enter Tryz.func79, Tryz.ntmps79
    go_wp2
    go_ret
    exact ⟨ChgB.refl _ _ _, .inr ⟨true, nt, op, oa, oc, by simp [takeS], rfl, H.out, .inl rfl⟩⟩
  · go_enter Tryz.func79, Tryz.ntmps79
    go_wp2
    go_ret
    exact ⟨ChgB.refl _ _ _, .inl ⟨by simp [takeS], rfl⟩⟩
  · go_enter Tryz.func79, Tryz.ntmps79
    go_wp2
    go_ret
    exact ⟨ChgB.refl _ _ _, .inl ⟨by simp [takeS], rfl⟩⟩
set_option maxHeartbeats 1000000 in
theorem take_end (w : World) (b B nt : Nat) (op : List Int) (oa : Option Addr) (oc : Nat) (h : StOK w b B nt true op oa oc) :
    Calls Tryz.prog 79 #[.pointer (some ⟨b, 0, none⟩), .int .i64 2] w fun e w' => TakePost w b B nt true op oa oc 2 e w' := by
  have H := hidS h
  obtain ⟨c0, c1, c2, f0, f1, f2, _, _, _, _, hn⟩ := h
  by_cases ho : op = []
  · have hl : ¬ (0 : Int) < (op.length : Int) := by simp [ho]
    have HT : Hid (takeS true nt op 2 = some (false, nt, op)) := by show _ = _; simp [takeS, ho]
    clear ho
    go_enter Tryz.func79, Tryz.ntmps79
    go_wp2
    go_ret
    exact ⟨(ChgB.refl _ _ _).set 1 _, .inr ⟨false, nt, op, oa, oc, HT.out, rfl, st_end H.out, .inl rfl⟩⟩
  · have hl : (0 : Int) < (op.length : Int) := by have := List.length_pos_iff.2 ho; omega
    have HT : Hid (takeS true nt op 2 = none) := by show _ = _; simp [takeS, ho]
    clear ho
    go_enter Tryz.func79, Tryz.ntmps79
    go_wp2
    go_ret
    exact ⟨ChgB.refl _ _ _, .inl ⟨HT.out, rfl⟩⟩
theorem last_split (op : List Int) (h : op ≠ []) : ∃ o x, op = o ++ [x] := ⟨op.dropLast, op.getLast h, (List.dropLast_concat_getLast h).symm⟩
theorem own_some {w : World} {B n c : Nat} {oa : Option Addr} {xs : List Value} (h : w.ownsRow B 3 1 (.slice oa n c) n xs) (hn : 0 < n) : ∃ g, oa = some ⟨g, 0, none⟩ ∧ B ≤ g ∧ g < w.heap.size := by
  obtain ⟨g, cap, hv, h1, h2⟩ := h.form hn
  simp at hv
  exact ⟨g, hv.1, h1, h2⟩
theorem st_leave {w : World} {b B nt : Nat} {o : List Int} {x : Int} {g oc : Nat} (h : StOK w b B nt true (o ++ [x]) (some ⟨g, 0, none⟩) oc) :
    StOK (w.setCell ⟨b, 2, none⟩ (.slice (some ⟨g, 0, none⟩) o.length oc)) b B nt true o (some ⟨g, 0, none⟩) oc := by
  have ho : w.ownsRow B 3 1 (.slice (some ⟨g, 0, none⟩) o.length oc) o.length (o.map (Value.int .i64)) := by
    have := h.own
    rw [List.length_append, List.map_append] at this
    exact ownsRow_pop (by simp) this
  have ho2 := own_set (j := 2) ho h.lt (.slice (some ⟨g, 0, none⟩) o.length oc)
  have hle := h.le
  obtain ⟨c0, c1, c2, f0, f1, f2, _, hlt, _, hlen, hn⟩ := h
  rw [List.length_append] at hlen
  refine ⟨?_, ?_, ?_, ?_, ?_, ?_, ho2, hlt, by simpa using hle, by omega, hn⟩ <;> go_simp
set_option maxHeartbeats 1000000 in
theorem take_leave (w : World) (b B nt : Nat) (op : List Int) (oa : Option Addr) (oc : Nat) (h : StOK w b B nt true op oa oc) :
    Calls Tryz.prog 79 #[.pointer (some ⟨b, 0, none⟩), .int .i64 7] w fun e w' => TakePost w b B nt true op oa oc 7 e w' := by
  by_cases ho : op = []
  · have H := hidS h
    obtain ⟨c0, c1, c2, f0, f1, f2, _, _, _, _, hn⟩ := h
    have hl : (op.length : Int) = 0 := by simp [ho]
    have HT : Hid (takeS true nt op 7 = none) := by show _ = _; simp [takeS, ho]
    have hl' : op.length ≤ 0 := by omega
    clear ho hl
    go_enter Tryz.func79, Tryz.ntmps79
    go_wp2
    go_ret
    exact ⟨ChgB.refl _ _ _, .inl ⟨HT.out, rfl⟩⟩
  · obtain ⟨o, x, rfl⟩ := last_split op ho
    obtain ⟨g, rfl, hg1, hg2⟩ := own_some h.own (by simp)
    have H := hidS h
    have HT : Hid (takeS true nt (o ++ [x]) 7 = some (true, nt, o)) := by show _ = _; simp [takeS]
    obtain ⟨c0, c1, c2, f0, f1, f2, hown, _, _, hlen, hn⟩ := h
    have hcap : o.length + 1 ≤ oc := by
      rcases hown.2 with ⟨h0, _⟩ | ⟨g', cap, cur, hv, _, _, h1, _⟩
      · cases h0
      · simp at hv; obtain ⟨_, rfl⟩ := hv; simpa using h1
    have hcm : oc ≤ maxLen := by
      rcases hown.2 with ⟨h0, _⟩ | ⟨g', cap, cur, hv, _, _, _, h1, _⟩
      · cases h0
      · simp at hv; obtain ⟨_, rfl⟩ := hv; exact h1
    unfold maxLen at hcm
    rw [List.length_append] at c2 hlen
    simp at c2 hlen
    clear hown ho
    go_enter Tryz.func79, Tryz.ntmps79
    go_wp2
    go_ret
    exact ⟨(ChgB.refl _ _ _).set 2 _, .inr ⟨true, nt, o, _, oc, HT.out, rfl, st_leave H.out, .inl rfl⟩⟩
theorem ChgB.setOwn {w : World} {b g n c : Nat} (j : Nat) (u : Value) : ChgB w (w.setCell ⟨g, j, none⟩ u) b (.slice (some ⟨g, 0, none⟩) n c) :=
  ⟨rfl, rfl, rfl, by simp, fun k h1 h2 h3 => Below.heap_setCell w ⟨g, j, none⟩ u k (fun e => h3 (by rw [e]; rfl))⟩
theorem st_turn {w : World} {b B nt : Nat} {o : List Int} {x : Int} {g oc : Nat} (h : StOK w b B nt true (o ++ [x]) (some ⟨g, 0, none⟩) oc) (hg : B ≤ g) :
    StOK (w.setCell ⟨g, o.length, none⟩ (.int .i64 5)) b B nt true (o ++ [5]) (some ⟨g, 0, none⟩) oc := by
  have ho : (w.setCell ⟨g, o.length, none⟩ (.int .i64 5)).ownsRow B 3 1 (.slice (some ⟨g, 0, none⟩) (o ++ [5]).length oc) (o ++ [5]).length ((o ++ [5]).map (Value.int .i64)) := by
    have := (h.own.stored o.length (.int .i64 5)).1
    have e : ((o ++ [x]).map (Value.int .i64)).set o.length (.int .i64 5) = (o ++ [5]).map (Value.int .i64) := by simp
    rw [e] at this
    simpa using this
  have hle := h.le
  have hb := h.lt
  have hne : b ≠ g := by omega
  have far : ∀ j, (w.setCell ⟨g, o.length, none⟩ (.int .i64 5)).cell? ⟨b, j, none⟩ = w.cell? ⟨b, j, none⟩ := fun j => World.cell?_of_block (Below.heap_setCell w _ _ b hne)
  have farf : ∀ j, (w.setCell ⟨g, o.length, none⟩ (.int .i64 5)).frozen? ⟨b, j, none⟩ = w.frozen? ⟨b, j, none⟩ := fun j => World.frozen?_of_block (Below.heap_setCell w _ _ b hne)
  obtain ⟨c0, c1, c2, f0, f1, f2, _, hlt, _, hlen, hn⟩ := h
  exact ⟨(far 0).trans c0, (far 1).trans c1, (far 2).trans (by simpa using c2), (farf 0).trans f0, (farf 1).trans f1, (farf 2).trans f2, ho, hlt, by simpa using hle, by simpa using hlen, hn⟩
set_option maxHeartbeats 1000000 in
theorem take_turn (w : World) (b B nt : Nat) (op : List Int) (oa : Option Addr) (oc : Nat) (h : StOK w b B nt true op oa oc) :
    Calls Tryz.prog 79 #[.pointer (some ⟨b, 0, none⟩), .int .i64 5] w fun e w' => TakePost w b B nt true op oa oc 5 e w' := by
  by_cases ho : op = []
  · have H := hidS h
    obtain ⟨c0, c1, c2, f0, f1, f2, _, _, _, _, hn⟩ := h
    have HT : Hid (takeS true nt op 5 = none) := by show _ = _; simp [takeS, ho]
    have hl' : op.length ≤ 0 := by simp [ho]
    clear ho
    go_enter Tryz.func79, Tryz.ntmps79
    go_wp2
    go_ret
    exact ⟨ChgB.refl _ _ _, .inl ⟨HT.out, rfl⟩⟩
  · obtain ⟨o, x, rfl⟩ := last_split op ho
    obtain ⟨g, rfl, hg1, hg2⟩ := own_some h.own (by simp)
    have H := hidS h
    have kx : w.cell? ⟨g, o.length, none⟩ = some (.int .i64 x) := by
      have := h.own.cellAt o.length (by simp)
      simpa using this
    have kf : w.frozen? ⟨g, o.length, none⟩ = false := h.own.frozenAt o.length
    obtain ⟨c0, c1, c2, f0, f1, f2, hown, _, _, hlen, hn⟩ := h
    rw [List.length_append] at c2 hlen
    simp at c2 hlen
    clear hown ho
    by_cases hx : x = 4
    · have HT : Hid (takeS true nt (o ++ [x]) 5 = some (true, nt, o ++ [5])) := by show _ = _; simp [takeS, hx]
      have hx1 : (x != 4) = false := by simp [hx]
      clear hx
      go_enter Tryz.func79, Tryz.ntmps79
      go_wp2
      go_ret
      exact ⟨ChgB.setOwn _ _, .inr ⟨true, nt, o ++ [5], _, oc, HT.out, rfl, st_turn H.out hg1, .inl rfl⟩⟩
    · have HT : Hid (takeS true nt (o ++ [x]) 5 = none) := by show _ = _; simp [takeS, hx]
      have hx1 : (x != 4) = true := by simp [hx]
      clear hx
      go_enter Tryz.func79, Tryz.ntmps79
      go_wp2
      go_ret
      exact ⟨ChgB.refl _ _ _, .inl ⟨HT.out, rfl⟩⟩
theorem info3 : (Tryz.prog.info? 3).map (fun i => (i.zero, i.size, i.bytes)) = some (some (.int .i64 0), 1, 8) := by kernel_rfl
theorem int_cells (w : World) (k : Int) : ∀ (j : Nat) (u : Value), [Value.int .i64 k][j]? = some u → (w.alloc (.cells #[.int .i64 k] 3)).cell? ((⟨w.heap.size, 0, none⟩ : Addr).add j) = some u := by
  intro j u hj
  match j, hj with
  | 0, hj => simp at hj; subst hj; simp [Addr.add]
theorem int_one (k : Int) : ∀ u ∈ [Value.int .i64 k], u.oneCell' = true := by
  intro u hu; simp at hu; subst hu; rfl
theorem st_enter {w1 : World} {b B nt : Nat} {op : List Int} {k : Int} {oa : Option Addr} {oc g cap : Nat} (q0 : w1.cell? ⟨b, 0, none⟩ = some (.int .i64 nt)) (q1 : w1.cell? ⟨b, 1, none⟩ = some (.bool true)) (q2 : w1.cell? ⟨b, 2, none⟩ = some (.slice oa op.length oc))
    (p0 : w1.frozen? ⟨b, 0, none⟩ = false) (p1 : w1.frozen? ⟨b, 1, none⟩ = false) (p2 : w1.frozen? ⟨b, 2, none⟩ = false)
    (hown1 : w1.ownsRow B 3 1 (.slice (some ⟨g, 0, none⟩) (op.length + 1) cap) (op.length + 1) (op.map (Value.int .i64) ++ [.int .i64 k])) (hlt : b < B) (hle : B ≤ w1.heap.size) (hl : op.length < 8) (hn : nt ≤ 6) :
    StOK (w1.setCell ⟨b, 2, none⟩ (.slice (some ⟨g, 0, none⟩) (op.length + 1) cap)) b B nt true (op ++ [k]) (some ⟨g, 0, none⟩) cap := by
  have ho : (w1.setCell ⟨b, 2, none⟩ (.slice (some ⟨g, 0, none⟩) (op.length + 1) cap)).ownsRow B 3 1 (.slice (some ⟨g, 0, none⟩) (op ++ [k]).length cap) (op ++ [k]).length ((op ++ [k]).map (Value.int .i64)) := by
    have := own_set (j := 2) hown1 hlt (.slice (some ⟨g, 0, none⟩) (op.length + 1) cap)
    simpa using this
  refine ⟨?_, ?_, ?_, ?_, ?_, ?_, ho, hlt, by simpa using hle, by simp; omega, hn⟩
  · go_simp
  · go_simp
  · rw [List.length_append]; go_simp
  · go_simp
  · go_simp
  · go_simp
set_option maxRecDepth 100000 in
set_option maxHeartbeats 1000000 in
theorem take_enter (w : World) (b B nt : Nat) (op : List Int) (oa : Option Addr) (oc : Nat) (k : Int) (hk : k = 4 ∨ k = 6) (h : StOK w b B nt true op oa oc) :
    Calls Tryz.prog 79 #[.pointer (some ⟨b, 0, none⟩), .int .i64 k] w fun e w' => TakePost w b B nt true op oa oc k e w' := by
  obtain ⟨i0, hi, hz0, hz1, hz2⟩ := info_parts info3
  have H := hidS h
  obtain ⟨c0, c1, c2, f0, f1, f2, hown, hlt, hle, hlen, hn⟩ := h
  have hbw : b < w.heap.size := by omega
  by_cases hl : op.length < 8
  · have HT : Hid (takeS true nt op k = some (true, nt, op ++ [k])) := take_open nt op k hk hl
    have e3 : (k == 3) = false := by simp; omega
    have e8 : (k == 8) = false := by simp; omega
    have e46 : (k == 4) = true ∨ (k == 4) = false ∧ (k == 6) = true := by simp; omega
    clear hk
    rcases e46 with e4 | ⟨e4, e6⟩
    all_goals
      go_enter Tryz.func79, Tryz.ntmps79
      go_wp2_with (first | (at_builtin; refine wpList_append_lies _ rfl _ _ 83 rfl B 3 i0 (.int .i64 0) 1 8 Tryz.underlying83 hi hz0 hz1 hz2 rfl (by decide) _ _ _ rfl (hown.alloc _) ⟨w.heap.size, 0, none⟩ 1 1 [.int .i64 k] rfl rfl ?c1 ?c2 (by decide) ?c3 ?c4 ?c5 _ rfl ?_) | go_in)
      case c1 => exact int_cells w k
      case c2 => exact int_one k
      case c3 => unfold maxLen; omega
      case c4 => omega
      case c5 => simp; omega
      intro g cap w1 hown1 hg1 hat1 hlt1
      have hne : some b ≠ (Value.slice oa op.length oc).ownBlock := by
        intro e
        have := (hown.lt b e.symm).1
        omega
      have hbk : w1.heap[b]? = w.heap[b]? := (hg1.block b (by simp; omega) hne).trans (Below.heap_alloc _ _ _ hbw)
      have q0 : w1.cell? ⟨b, 0, none⟩ = some (.int .i64 nt) := (World.cell?_of_block hbk).trans c0
      have q1 : w1.cell? ⟨b, 1, none⟩ = some (.bool true) := (World.cell?_of_block hbk).trans c1
      have q2 : w1.cell? ⟨b, 2, none⟩ = some (.slice oa op.length oc) := (World.cell?_of_block hbk).trans c2
      have p0 : w1.frozen? ⟨b, 0, none⟩ = false := (World.frozen?_of_block hbk).trans f0
      have p1 : w1.frozen? ⟨b, 1, none⟩ = false := (World.frozen?_of_block hbk).trans f1
      have p2 : w1.frozen? ⟨b, 2, none⟩ = false := (World.frozen?_of_block hbk).trans f2
      have HC : Hid (ChgB w w1 b (.slice oa op.length oc)) := by
        refine ⟨hg1.os, hg1.tape, hg1.output, by have := hg1.size; simp at this; omega, fun j h1 h2 h3 => ?_⟩
        exact (hg1.block j (by simp; omega) h3).trans (Below.heap_alloc _ _ _ h1)
      have hsz : w.heap.size ≤ w1.heap.size := by have := hg1.size; simp at this; omega
      have HST : Hid (StOK (w1.setCell ⟨b, 2, none⟩ (.slice (some ⟨g, 0, none⟩) (op.length + 1) cap)) b B nt true (op ++ [k]) (some ⟨g, 0, none⟩) cap) :=
        st_enter q0 q1 q2 p0 p1 p2 hown1 hlt (by omega) hl hn
      have HO := hidS hat1
      clear hown1 hg1 hbk hown c0 c1 c2 f0 f1 f2 hat1
      go_wp2
      go_ret
      refine ⟨HC.out.set 2 _, .inr ⟨true, nt, op ++ [k], _, cap, HT.out, rfl, HST.out, ?_⟩⟩
      rcases HO.out with h1 | h1
      · exact .inl h1.symm
      · exact .inr ⟨g, by omega, rfl⟩
  · have HT : Hid (takeS true nt op k = none) := by show _ = _; rcases hk with rfl | rfl <;> simp [takeS, hl]
    rcases hk with rfl | rfl
    all_goals
      go_enter Tryz.func79, Tryz.ntmps79
      go_wp2
      go_ret
      exact ⟨ChgB.refl _ _ _, .inl ⟨HT.out, rfl⟩⟩
theorem c81 (w : World) (b B nt : Nat) (inb : Bool) (op : List Int) (oa : Option Addr) (oc : Nat) (k : Int) (hk : 0 ≤ k ∧ k ≤ 8) (h : StOK w b B nt inb op oa oc) :
    Calls Tryz.prog 79 #[.pointer (some ⟨b, 0, none⟩), .int .i64 k] w fun e w' => TakePost w b B nt inb op oa oc k e w' := by
  cases inb with
  | false => exact take_begin w b B nt op oa oc k h
  | true =>
    obtain rfl | rfl | rfl | rfl | rfl | rfl | rfl | rfl | rfl : k = 0 ∨ k = 1 ∨ k = 2 ∨ k = 3 ∨ k = 4 ∨ k = 5 ∨ k = 6 ∨ k = 7 ∨ k = 8 := by omega
    · exact take_pass w b B nt op oa oc 0 h (by omega)
    · exact take_pass w b B nt op oa oc 1 h (by omega)
    · exact take_end w b B nt op oa oc h
    · exact take_pass w b B nt op oa oc 3 h (by omega)
    · exact take_enter w b B nt op oa oc 4 (by omega) h
    · exact take_turn w b B nt op oa oc h
    · exact take_enter w b B nt op oa oc 6 (by omega) h
    · exact take_leave w b B nt op oa oc h
    · exact take_pass w b B nt op oa oc 8 h (by omega)
end Go.Proofs.YtponicaflcbbeaaGreat
namespace Go.Proofs.YtponicaflcbbeaaGreat
open Go.RowKit
set_option linter.unusedVariables false
/-- the cells of an action whose text ahead begins at p -/
def akC (s : ByteArray) (p : Nat) (a : Ak) : List Value := [.int .i64 a.kind, .string a.name, .int .i64 a.at', .int .i64 (act s a.at').next, .string (s.extract p a.at')]
def actsC (s : ByteArray) : Nat → List Ak → List Value
  | _, [] => []
  | p, a :: r => akC s p a ++ actsC s (act s a.at').next r
def lastN (s : ByteArray) : Nat → List Ak → Nat
  | p, [] => p
  | _, a :: r => lastN s (act s a.at').next r
theorem lastN_app (s : ByteArray) (p : Nat) (A B : List Ak) : lastN s p (A ++ B) = lastN s (lastN s p A) B := by
  induction A generalizing p with
  | nil => rfl
  | cons a r ih => exact ih _
theorem actsC_app (s : ByteArray) (p : Nat) (A B : List Ak) : actsC s p (A ++ B) = actsC s p A ++ actsC s (lastN s p A) B := by
  induction A generalizing p with
  | nil => rfl
  | cons a r ih => simp only [List.cons_append, actsC, lastN, ih, List.append_assoc]
theorem actsC_len (s : ByteArray) (p : Nat) (A : List Ak) : (actsC s p A).length = A.length * 5 := by
  induction A generalizing p with
  | nil => rfl
  | cons a r ih => simp [actsC, akC, ih]; omega
def Disj (a b : Value) : Prop := ∀ g, a.ownBlock = some g → b.ownBlock ≠ some g
theorem st_far {w w' : World} {b B nt : Nat} {inb : Bool} {op : List Int} {oa : Option Addr} {oc : Nat} (h : StOK w b B nt inb op oa oc) (hb : w'.heap[b]? = w.heap[b]?) (hs : w.heap.size ≤ w'.heap.size)
    (ho : ∀ g, (Value.slice oa op.length oc).ownBlock = some g → w'.heap[g]? = w.heap[g]?) : StOK w' b B nt inb op oa oc := by
  have own' : w'.ownsRow B 3 1 (.slice oa op.length oc) op.length (op.map (Value.int .i64)) := by
    obtain ⟨h1, h2⟩ := h.own
    refine ⟨h1, ?_⟩
    rcases h2 with h2 | ⟨g, cap, cur, hv, hg, hh, r⟩
    · exact .inl h2
    · refine .inr ⟨g, cap, cur, hv, hg, ?_, r⟩
      rw [ho g (by rw [hv]; rfl)]; exact hh
  obtain ⟨c0, c1, c2, f0, f1, f2, _, hlt, hle, hlen, hn⟩ := h
  exact ⟨(World.cell?_of_block hb).trans c0, (World.cell?_of_block hb).trans c1, (World.cell?_of_block hb).trans c2, (World.frozen?_of_block hb).trans f0, (World.frozen?_of_block hb).trans f1, (World.frozen?_of_block hb).trans f2, own', hlt, by omega, hlen, hn⟩
theorem own_far {w w' : World} {B ty sz : Nat} {v : Value} {n : Nat} {xs : List Value} (h : w.ownsRow B ty sz v n xs) (ho : ∀ g, v.ownBlock = some g → w'.heap[g]? = w.heap[g]?) : w'.ownsRow B ty sz v n xs := by
  obtain ⟨h1, h2⟩ := h
  refine ⟨h1, ?_⟩
  rcases h2 with h2 | ⟨g, cap, cur, hv, hg, hh, r⟩
  · exact .inl h2
  · refine .inr ⟨g, cap, cur, hv, hg, ?_, r⟩
    rw [ho g (by rw [hv]; rfl)]; exact hh
theorem info113 : (Tryz.prog.info? 118).map (fun i => (i.zero, i.size, i.bytes)) = some (some (.agg #[.int .i64 0, .string ⟨#[]⟩, .int .i64 0, .int .i64 0, .string ⟨#[]⟩]), 5, 56) := by kernel_rfl
def PreadPost (s : ByteArray) (w : World) (e : Ending) (w' : World) : Prop :=
  (∃ wr : Nat, e = .returned (.tuple #[.slice none 0 0, .int .i64 wr, .bool false]) ∧ Ends s init (.err wr)) ∨
  (∃ (aa : Option Addr) (ac : Nat) (A : List Ak), e = .returned (.tuple #[.slice aa A.length ac, .int .i64 0, .bool true]) ∧ Ends s init (.fin A) ∧ w'.ownsRow (w.heap.size + 1) 118 5 (.slice aa A.length ac) A.length (actsC s 0 A) ∧ A.length ≤ 1000)
theorem st0 (w : World) : StOK (w.alloc (.cells #[.int .i64 0, .bool false, .slice none 0 0] 116)) w.heap.size (w.heap.size + 1) 0 false [] none 0 := by
  refine ⟨?_, ?_, ?_, ?_, ?_, ?_, World.ownsRow_nil _ _ _ _, by omega, by simp, by simp, by omega⟩ <;> simp
theorem ak_cells (w : World) (k : Int) (nm : ByteArray) (a nx : Int) (hd : ByteArray) : ∀ (j : Nat) (u : Value), [Value.int .i64 k, .string nm, .int .i64 a, .int .i64 nx, .string hd][j]? = some u → (w.alloc (.cells #[.int .i64 k, .string nm, .int .i64 a, .int .i64 nx, .string hd] 118)).cell? ((⟨w.heap.size, 0, none⟩ : Addr).add j) = some u := by
  intro j u hj
  match j, hj with
  | 0, hj => simp at hj; subst hj; simp [Addr.add]
  | 1, hj => simp at hj; subst hj; simp [Addr.add]
  | 2, hj => simp at hj; subst hj; simp [Addr.add]
  | 3, hj => simp at hj; subst hj; simp [Addr.add]
  | 4, hj => simp at hj; subst hj; simp [Addr.add]
  | j + 5, hj => simp at hj
theorem ak_one (k : Int) (nm : ByteArray) (a nx : Int) (hd : ByteArray) : ∀ u ∈ [Value.int .i64 k, .string nm, .int .i64 a, .int .i64 nx, .string hd], u.oneCell' = true := by
  intro u hu; simp at hu; rcases hu with rfl | rfl | rfl | rfl | rfl <;> rfl
theorem pr_err (s : ByteArray) (q nt : Nat) (inb : Bool) (op : List Int) (A : List Ak) (h : Reach s init ⟨q, inb, nt, op, A⟩) (hq : q < s.size) (hb : inb = true → txB (gb s q) = false) (ht : takeS inb nt op (act s q).kind = none) : Ends s init (.err q) :=
  Ends.of h (ends_err (step_err s q nt op A inb hq hb ht))
theorem take_zero (inb : Bool) (nt : Nat) (op : List Int) : takeS inb nt op 0 = none := by cases inb <;> simp [takeS]
theorem pr_end (s : ByteArray) (q nt : Nat) (inb : Bool) (op : List Int) (A : List Ak) (h : Reach s init ⟨q, inb, nt, op, A⟩) (hq : ¬ q < s.size) (hb : inb = true ∨ nt = 0) : Ends s init (.err s.size) := by
  refine Ends.of h (ends_err ?_)
  have hb' : (inb = true ∨ nt = 0) := hb
  simp only [stepC, hq, if_false]
  rw [if_pos hb']
theorem pr_fin (s : ByteArray) (q nt : Nat) (op : List Int) (A : List Ak) (h : Reach s init ⟨q, false, nt, op, A⟩) (hq : ¬ q < s.size) (hb : nt ≠ 0) : Ends s init (.fin A) :=
  ⟨_, h, by simp [stepC, hq, hb], trivial⟩
set_option maxRecDepth 100000 in
set_option maxHeartbeats 8000000 in
theorem c56 (s : ByteArray) (w : World) (hs : s.size ≤ 1000) : Calls Tryz.prog 52 #[.string s] w fun e w' => Below w.heap.size w w' ∧ PreadPost s w e w' := by
  obtain ⟨i0, hi, hz0, hz1, hz2x⟩ := info_parts info113
  go_enter Tryz.func52, Tryz.ntmps52
  go_wp2
  go_loopw [5, 7, 8, 9, 10] (fun av pv tv _ _ wr => ∃ (q nt tf : Nat) (inb : Bool) (op : List Int) (A : List Ak) (oa : Option Addr) (oc : Nat) (aa : Option Addr) (ac : Nat), q ≤ s.size ∧ tf ≤ q ∧ pv = .int .i64 q ∧ tv = .int .i64 tf ∧ av = .slice aa A.length ac ∧ Hid (lastN s 0 A = tf) ∧
      Hid (Reach s init ⟨q, inb, nt, op, A⟩) ∧ A.length ≤ q ∧ StOK wr w.heap.size (w.heap.size + 1) nt inb op oa oc ∧ wr.ownsRow (w.heap.size + 1) 118 5 (.slice aa A.length ac) A.length (actsC s 0 A) ∧ Hid (Disj (.slice oa op.length oc) (.slice aa A.length ac)) ∧ Below w.heap.size w wr) (fun _ pv _ _ _ _ => s.size - (intOf pv).toNat)
  case atStart => exact ⟨0, 0, 0, false, [], [], none, 0, none, 0, Nat.zero_le _, Nat.le_refl _, rfl, rfl, rfl, rfl, Reach.refl _, by simp, st0 w, World.ownsRow_nil _ _ _ _, (fun g h => by cases h), (Below.refl _ _).alloc (Nat.le_refl _) _⟩
  case round =>
    obtain ⟨q, nt, tf, inb, op, A, oa, oc, aa, ac, hq, htf, rfl, rfl, rfl, HA, HR, hAq, hst, hown, HD, hbel⟩ := hrel
    have hbs := hbel.size
    have HST := hidS hst
    obtain ⟨c0, c1, c2, f0, f1, f2, _, _, hle, _, hn⟩ := hst
    by_cases hlt : q < s.size
    · have hg := gb_in s q hlt
      by_cases htx : inb = true ∧ txB (gb s q) = true
      · obtain ⟨rfl, htx⟩ := htx
        have HR2 := hidS (HR.out.trans (Reach.one (step_text s q nt op A hlt htx)))
        have ht1 : (((s[q]'hlt).toNat : Int) != 123) = true := by rw [← hg]; simp [txB] at htx; simp; omega
        have ht2 : (((s[q]'hlt).toNat : Int) != 125) = true := by rw [← hg]; simp [txB] at htx; simp; omega
        clear htx hg HR c0 c2 f0 f1 f2
        have HO := hidS hown
        clear hown
        go_wp2
        exact ⟨⟨q + 1, nt, tf, true, op, A, oa, oc, aa, ac, by omega, by omega, by go_num, rfl, rfl, HA.out, HR2.out, by omega, HST.out, HO.out, HD.out, hbel⟩, by simp [intOf]; omega⟩
      · have Htb : Hid (inb = true → txB (gb s q) = false) := fun h => by
          cases hx : txB (gb s q)
          · rfl
          · exact absurd ⟨h, hx⟩ htx
        have key : (inb = false) ∨ (inb = true ∧ (((s[q]'hlt).toNat : Int) != 123) = false) ∨ (inb = true ∧ (((s[q]'hlt).toNat : Int) != 123) = true ∧ (((s[q]'hlt).toNat : Int) != 125) = false) := by
          cases hib : inb
          · exact .inl rfl
          · right
            have hx := Htb.out hib
            rw [hg] at hx
            simp [txB] at hx
            by_cases h1 : ((s[q]'hlt).toNat : Int) = 123
            · left; simp [h1]
            · right; refine ⟨rfl, by simpa using h1, ?_⟩
              have := hx (by omega)
              simp; omega
        have hkr := act_range s q
        have Hc := hidS (c80 s q wr hs hlt)
        have HO := hidS hown
        clear htx hown hg c2 f0 f1 f2 c0
        rcases key with hib | ⟨hib, g1⟩ | ⟨hib, g1, g2⟩
        all_goals
          subst hib
          go_wp2_with fail
          refine Hc.out.mono ?_
          clear Hc c1
          rintro e w1 ⟨rfl, hb1⟩
          have hb1s := hb1.size
          have HST1 := hidS (st_far HST.out (hb1.block _ (by omega)) hb1.size (fun g hg => hb1.block g (by have := (HST.out.own.lt g hg).2; omega)))
          have hown1 := own_below HO.out hb1
          have HL1 := hidS (fun g hg => (HO.out.lt g hg).2)
          have HLo := hidS (fun g hg => (HST.out.own.lt g hg).2)
          have hbel1 := hbel.trans (hb1.mono hbs)
          clear HO HST hbel hb1
          by_cases hk0 : (act s q).kind = 0
          · rw [agV_no s q hk0]
            have HE := hidS (pr_err s q nt _ op A HR.out hlt (fun h => by first | exact Htb.out h | exact Htb.out trivial | cases h) (by rw [hk0]; exact take_zero _ _ _))
            have HSTa : Hid (StOK (w1.alloc (.cells #[.int .i64 0, .string ⟨#[]⟩, .int .i64 0, .int .i64 0, .string ⟨#[]⟩] 118)) w.heap.size (w.heap.size + 1) nt _ op oa oc) :=
              st_far HST1.out (Below.heap_alloc _ _ _ (by omega)) (by simp) (fun g hg => Below.heap_alloc _ _ _ (HST1.out.own.lt g hg).2)
            have Ht := hidS (c81 _ w.heap.size (w.heap.size + 1) nt _ op oa oc 0 (by omega) HSTa.out)
            clear hown1 hk0
            go_wp2_with fail
            refine Ht.out.mono ?_
            rintro e w2 ⟨hch, hor⟩
            have hbel2 : Below w.heap.size w w2 := by
              refine (hbel1.alloc (by omega) _).trans ⟨hch.os, hch.tape, hch.output, hch.size, fun k hk => hch.block k (by simp; omega) (by omega) ?_⟩
              intro e
              have := (HST1.out.own.lt k e.symm).1
              omega
            rcases hor with ⟨_, rfl⟩ | ⟨i, n, o, oa', oc', h1, _⟩
            · clear hch Ht
              go_wp2
              go_ret3
              exact ⟨hbel2, .inl ⟨q, rfl, HE.out⟩⟩
            · rw [take_zero] at h1; cases h1
          · have HAV : Hid (agV s q = #[.int .i64 (act s q).kind, .string (act s q).name, .int .i64 q, .int .i64 (act s q).next, .string ⟨#[]⟩]) := by show _ = _; rw [agV, if_neg hk0]
            rw [HAV.out]
            obtain ⟨m1, m2, _, _⟩ := act_next s q hk0
            have HSTa : Hid (StOK (w1.alloc (.cells #[.int .i64 (act s q).kind, .string (act s q).name, .int .i64 q, .int .i64 (act s q).next, .string ⟨#[]⟩] 118)) w.heap.size (w.heap.size + 1) nt _ op oa oc) :=
              st_far HST1.out (Below.heap_alloc _ _ _ (by omega)) (by simp) (fun g hg => Below.heap_alloc _ _ _ (HST1.out.own.lt g hg).2)
            have Ht := hidS (c81 _ w.heap.size (w.heap.size + 1) nt _ op oa oc (act s q).kind hkr HSTa.out)
            have HSA := hidS (step_act s q nt op A)
            have HPE := hidS (pr_err s q nt _ op A HR.out hlt (fun h => by first | exact Htb.out h | exact Htb.out trivial | cases h))
            clear HAV HSTa
            generalize (act s q).kind = kk at *
            generalize (act s q).name = nm at *
            generalize hnx : (act s q).next = nx at *
            have HNX := hidS hnx
            clear hnx
            go_wp2_with fail
            refine Ht.out.mono ?_
            clear Ht
            rintro e w2 ⟨hch, hor⟩
            have hz2 := hch.size
            simp only [World.size_alloc] at hz2
            have hnb : ∀ k, w.heap.size < k → k ≠ w.heap.size := fun k h => by omega
            have hact : w2.heap[w1.heap.size]? = (w1.alloc (.cells #[.int .i64 kk, .string nm, .int .i64 q, .int .i64 nx, .string ⟨#[]⟩] 118)).heap[w1.heap.size]? := by
              refine hch.block _ (by simp) (by omega) ?_
              intro e
              have := (HST1.out.own.lt _ e.symm).2
              omega
            have a0 : w2.cell? ⟨w1.heap.size, 0, none⟩ = some (.int .i64 kk) := (World.cell?_of_block hact).trans (by simp)
            have a1 : w2.cell? ⟨w1.heap.size, 1, none⟩ = some (.string nm) := (World.cell?_of_block hact).trans (by simp)
            have a2 : w2.cell? ⟨w1.heap.size, 2, none⟩ = some (.int .i64 q) := (World.cell?_of_block hact).trans (by simp)
            have a3 : w2.cell? ⟨w1.heap.size, 3, none⟩ = some (.int .i64 nx) := (World.cell?_of_block hact).trans (by simp)
            have hbel2 : Below w.heap.size w w2 := by
              refine (hbel1.alloc (by omega) _).trans ⟨hch.os, hch.tape, hch.output, hch.size, fun k hk => hch.block k (by simp; omega) (by omega) ?_⟩
              intro e
              have := (HST1.out.own.lt k e.symm).1
              omega
            have hown2 : w2.ownsRow (w.heap.size + 1) 118 5 (.slice aa A.length ac) A.length (actsC s 0 A) := by
              refine own_far hown1 (fun g hg => ?_)
              have h1 := hown1.lt g hg
              refine (hch.block g (by simp; omega) (by omega) (fun e => HD.out g e.symm hg)).trans (Below.heap_alloc _ _ _ h1.2)
            rcases hor with ⟨hno, rfl⟩ | ⟨i, n, o, oa', oc', hsome, rfl, hst2, hob⟩
            · have HE := hidS (HPE.out hno)
              clear hch hown1 hown2 hact
              go_wp2
              go_ret3
              exact ⟨hbel2, .inl ⟨q, rfl, HE.out⟩⟩
            · have HR2 := hidS (HR.out.trans (Reach.one (HSA.out i n o _ hk0 hsome)))
              have HST2 := hidS hst2
              have HOB := hidS hob
              have a4 : w2.cell? ⟨w1.heap.size, 4, none⟩ = some (.string ⟨#[]⟩) := (World.cell?_of_block hact).trans (by simp)
              have f4 : w2.frozen? ⟨w1.heap.size, 4, none⟩ = false := (World.frozen?_of_block hact).trans (by simp)
              have hsa : w1.heap.size < w2.heap.size := by omega
              have hownS : (w2.setCell ⟨w1.heap.size, 4, none⟩ (.string (s.extract tf q))).ownsRow (w.heap.size + 1) 118 5 (.slice aa A.length ac) A.length (actsC s 0 A) :=
                own_far hown2 (fun g hg => set_far w2 w1.heap.size 4 _ g (by have := HL1.out g hg; omega))
              have hbelS : Below w.heap.size w (w2.setCell ⟨w1.heap.size, 4, none⟩ (.string (s.extract tf q))) := hbel2.trans ⟨rfl, rfl, rfl, by simp, fun k hk => set_far w2 w1.heap.size 4 _ k (by omega)⟩
              clear hch hown1 hact hst2 hob hsome HPE HSA hk0
              go_wp2_with (at_builtin; refine wpList_append_lies _ rfl _ _ 64 rfl (w.heap.size + 1) 118 i0 (.agg #[.int .i64 0, .string ⟨#[]⟩, .int .i64 0, .int .i64 0, .string ⟨#[]⟩]) 5 56 Tryz.underlying64 hi hz0 hz1 hz2x rfl (by decide) _ _ _ rfl (hownS.alloc _) ⟨w2.heap.size, 0, none⟩ 1 1 [.int .i64 kk, .string nm, .int .i64 q, .int .i64 nx, .string (s.extract tf q)] rfl rfl ?c1 ?c2 (by decide) ?c3 ?c4 ?c5 _ rfl ?_)
              case c1 =>
                have hc1 := ak_cells (w2.setCell ⟨w1.heap.size, 4, none⟩ (.string (s.extract tf q))) kk nm q nx (s.extract tf q)
                rw [World.size_setCell] at hc1
                exact hc1
              case c2 => exact ak_one kk nm q nx _
              case c3 => unfold maxLen; omega
              case c4 => omega
              case c5 => simp; omega
              intro g cap w3 hown3 hg3 hat3 hlt3
              have hbel3 : Below w.heap.size w w3 := (hbelS.alloc (by simp; omega) _).grown hg3 (by simp; omega) (fun j hj => by have := (hown2.lt j hj).1; omega)
              have hsz3 := hg3.size
              simp only [World.size_alloc, World.size_setCell] at hsz3
              have hkeep : ∀ j, j < w2.heap.size → j ≠ w1.heap.size → some j ≠ (Value.slice aa A.length ac).ownBlock → w3.heap[j]? = w2.heap[j]? := fun j h1 h0 h2 => ((hg3.block j (by simp; omega) h2).trans (Below.heap_alloc _ _ _ (by simpa using h1))).trans (set_far w2 w1.heap.size 4 _ j h0)
              have b3 : w3.cell? ⟨w1.heap.size, 3, none⟩ = some (.int .i64 nx) := (World.cell?_of_block ((hg3.block w1.heap.size (by simp; omega) (fun e => by have := HL1.out w1.heap.size e.symm; omega)).trans (Below.heap_alloc _ _ _ (by simpa using hsa)))).trans (by have ha3 := a3; go_simp)
              have HD2 : Hid (∀ g', (Value.slice oa' o.length oc').ownBlock = some g' → (Value.slice aa A.length ac).ownBlock ≠ some g') := by
                intro g' h1 h2
                rcases HOB.out with h3 | ⟨g4, h4, h5⟩
                · rw [h3] at h1; exact HD.out g' h1 h2
                · rw [h5] at h1; cases h1
                  have := HL1.out _ h2
                  simp at h4; omega
              have HNO : Hid (∀ g', (Value.slice oa' o.length oc').ownBlock = some g' → g' ≠ w1.heap.size) := by
                intro g' h1
                rcases HOB.out with h3 | ⟨g4, h4, h5⟩
                · rw [h3] at h1; have := HLo.out g' h1; omega
                · rw [h5] at h1; cases h1
                  simp at h4; omega
              have HST3 : Hid (StOK w3 w.heap.size (w.heap.size + 1) n i o oa' oc') :=
                st_far HST2.out (hkeep _ (by omega) (by omega) (fun e => by have := (hown2.lt _ e.symm).1; omega)) (by omega) (fun g' hg' => hkeep g' (HST2.out.own.lt g' hg').2 (HNO.out g' hg') (fun e => HD2.out g' hg' e.symm))
              have HD3 : Hid (Disj (.slice oa' o.length oc') (.slice (some ⟨g, 0, none⟩) (A ++ [Ak.mk kk nm q]).length cap)) := by
                intro g' h1 h2
                simp [Value.ownBlock] at h2
                subst h2
                rcases hat3 with h3 | h3
                · exact HD2.out _ h1 h3
                · have := (HST2.out.own.lt _ h1).2; omega
              have HO3 : Hid (w3.ownsRow (w.heap.size + 1) 118 5 (.slice (some ⟨g, 0, none⟩) (A ++ [Ak.mk kk nm q]).length cap) (A ++ [Ak.mk kk nm q]).length (actsC s 0 (A ++ [Ak.mk kk nm q]))) := by
                show World.ownsRow _ _ _ _ _ _ _
                rw [List.length_append, actsC_app, HA.out]
                have e : actsC s tf [Ak.mk kk nm q] = [.int .i64 kk, .string nm, .int .i64 q, .int .i64 nx, .string (s.extract tf q)] := by simp [actsC, akC, HNX.out]
                rw [e]; exact hown3
              have HA3 : Hid (lastN s 0 (A ++ [Ak.mk kk nm q]) = nx) := by
                show _ = _
                rw [lastN_app]; exact HNX.out
              clear hown3 hg3 hat3 hown2 hkeep a0 a1 a2 a3 a4 f4 hbel2 hownS hbelS
              go_wp2
              exact ⟨⟨nx, n, nx, i, o, A ++ [Ak.mk kk nm q], oa', oc', some ⟨g, 0, none⟩, cap, by omega, Nat.le_refl _, rfl, rfl, by simp, HA3.out, HR2, by simp; omega, HST3.out, HO3.out, HD3, hbel3⟩, by simp [intOf]; omega⟩
    · have HO := hidS hown
      clear hown
      cases inb with
      | true =>
        have HE := hidS (pr_end s q nt true op A HR.out hlt (.inl rfl))
        go_wp2
        go_ret3
        exact ⟨hbel, .inl ⟨s.size, rfl, HE.out⟩⟩
      | false =>
        by_cases h0 : nt = 0
        · have HE := hidS (pr_end s q nt false op A HR.out hlt (.inr h0))
          have hn0 : ((nt : Int) == 0) = true := by simp [h0]
          clear h0
          go_wp2
          go_ret3
          exact ⟨hbel, .inl ⟨s.size, rfl, HE.out⟩⟩
        · have HE := hidS (pr_fin s q nt op A HR.out hlt h0)
          have hn0 : ((nt : Int) == 0) = false := by simp [h0]
          clear h0
          go_wp2
          go_ret3
          exact ⟨hbel, .inr ⟨aa, ac, A, rfl, HE.out, HO.out, by omega⟩⟩
end Go.Proofs.YtponicaflcbbeaaGreat
