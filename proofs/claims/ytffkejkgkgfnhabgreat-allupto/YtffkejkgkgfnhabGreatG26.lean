import Derived.Test.YtffkejkgkgfnhabGreatG13
namespace Go.Proofs.YtffkejkgkgfnhabGreat
open Go.RowKit
set_option linter.unusedVariables false
structure ChgB (w w' : World) (b : Nat) (v : Value) : Prop where
  os : w'.os = w.os
  tape : w'.tape = w.tape
  output : w'.output = w.output
  size : w.heap.size ≤ w'.heap.size
  block : ∀ k, k < w.heap.size → k ≠ b → some k ≠ v.ownBlock → w'.heap[k]? = w.heap[k]?
structure StOK (w : World) (b B nt : Nat) (inb : Bool) (op : List Int) (oa : Option Addr) (oc : Nat) : Prop where
  c0 : w.cell? ⟨b, 0, none⟩ = some (.int .i64 nt)
  c1 : w.cell? ⟨b, 1, none⟩ = some (.bool inb)
  c2 : w.cell? ⟨b, 2, none⟩ = some (.slice oa op.length oc)
  f0 : w.frozen? ⟨b, 0, none⟩ = false
  f1 : w.frozen? ⟨b, 1, none⟩ = false
  f2 : w.frozen? ⟨b, 2, none⟩ = false
  own : w.ownsRow B 3 1 (.slice oa op.length oc) op.length (op.map (Value.int .i64))
  lt : b < B
  le : B ≤ w.heap.size
  len : op.length ≤ 8
  nts : nt ≤ 6
def TakePost (w : World) (b B nt : Nat) (inb : Bool) (op : List Int) (oa : Option Addr) (oc : Nat) (k : Int) (e : Ending) (w' : World) : Prop :=
  ChgB w w' b (.slice oa op.length oc) ∧
  ((takeS inb nt op k = none ∧ e = .returned (.bool false)) ∨
   ∃ i n o oa' oc', takeS inb nt op k = some (i, n, o) ∧ e = .returned (.bool true) ∧ StOK w' b B n i o oa' oc' ∧ ((Value.slice oa' o.length oc').ownBlock = (Value.slice oa op.length oc).ownBlock ∨ ∃ g, w.heap.size ≤ g ∧ (Value.slice oa' o.length oc').ownBlock = some g))
theorem ChgB.refl (w : World) (b : Nat) (v : Value) : ChgB w w b v := ⟨rfl, rfl, rfl, Nat.le_refl _, fun _ _ _ _ => rfl⟩
theorem ChgB.set {w w' : World} {b : Nat} {v : Value} (h : ChgB w w' b v) (j : Nat) (u : Value) : ChgB w (w'.setCell ⟨b, j, none⟩ u) b v :=
  ⟨h.os, h.tape, h.output, by have := h.size; simpa using this, fun k h1 h2 h3 => (Below.heap_setCell w' ⟨b, j, none⟩ u k h2).trans (h.block k h1 h2 h3)⟩
theorem own_set {w : World} {B b j : Nat} {v : Value} {n : Nat} {xs : List Value} (h : w.ownsRow B 3 1 v n xs) (hb : b < B) (u : Value) : (w.setCell ⟨b, j, none⟩ u).ownsRow B 3 1 v n xs :=
  ownsRow_setCell_below h hb u
theorem st_begin {w : World} {b B nt : Nat} {op : List Int} {oa : Option Addr} {oc : Nat} (h : StOK w b B nt false op oa oc) (hl : nt < 6) :
    StOK ((w.setCell ⟨b, 0, none⟩ (.int .i64 ((nt : Int) + 1))).setCell ⟨b, 1, none⟩ (.bool true)) b B (nt + 1) true op oa oc := by
  have ho := own_set (j := 1) (own_set (j := 0) h.own h.lt (.int .i64 ((nt : Int) + 1))) h.lt (.bool true)
  have hle := h.le
  obtain ⟨c0, c1, c2, f0, f1, f2, _, hlt, _, hlen, hn⟩ := h
  refine ⟨?_, ?_, ?_, ?_, ?_, ?_, ho, hlt, by simpa using hle, hlen, by omega⟩ <;> go_simp
theorem st_end {w : World} {b B nt : Nat} {op : List Int} {oa : Option Addr} {oc : Nat} (h : StOK w b B nt true op oa oc) :
    StOK (w.setCell ⟨b, 1, none⟩ (.bool false)) b B nt false op oa oc := by
  have ho := own_set (j := 1) h.own h.lt (.bool false)
  have hle := h.le
  obtain ⟨c0, c1, c2, f0, f1, f2, _, hlt, _, hlen, hn⟩ := h
  refine ⟨?_, ?_, ?_, ?_, ?_, ?_, ho, hlt, by simpa using hle, hlen, hn⟩ <;> go_simp
set_option maxHeartbeats 1000000 in
theorem take_begin (w : World) (b B nt : Nat) (op : List Int) (oa : Option Addr) (oc : Nat) (k : Int) (h : StOK w b B nt false op oa oc) :
    Calls Tryz.prog 78 #[.pointer (some ⟨b, 0, none⟩), .int .i64 k] w fun e w' => TakePost w b B nt false op oa oc k e w' := by
  have H := hidS h
  obtain ⟨c0, c1, c2, f0, f1, f2, _, _, _, _, hn⟩ := h
  by_cases hk : k = 1
  · have hk1 : (k == 1) = true := by simp [hk]
    have hk2 : (k != 1) = false := by simp [hk]
    by_cases hl : nt < 6
    · have HT : Hid (takeS false nt op k = some (true, nt + 1, op)) := by show _ = _; simp [takeS, hk, hl]
      clear hk
      go_enter Tryz.func78, Tryz.ntmps78
      go_wp2
      go_ret
      exact ⟨((ChgB.refl _ _ _).set 0 _).set 1 _, .inr ⟨true, nt + 1, op, oa, oc, HT.out, rfl, st_begin H.out hl, .inl rfl⟩⟩
    · have HT : Hid (takeS false nt op k = none) := by show _ = _; simp [takeS, hl]
      clear hk
      go_enter Tryz.func78, Tryz.ntmps78
      go_wp2
      go_ret
      exact ⟨ChgB.refl _ _ _, .inl ⟨HT.out, rfl⟩⟩
  · have HT : Hid (takeS false nt op k = none) := by show _ = _; simp [takeS, hk]
    have hk2 : (k != 1) = true := by simp [hk]
    clear hk
    go_enter Tryz.func78, Tryz.ntmps78
    go_wp2
    go_ret
    exact ⟨ChgB.refl _ _ _, .inl ⟨HT.out, rfl⟩⟩
set_option maxHeartbeats 1000000 in
theorem take_pass (w : World) (b B nt : Nat) (op : List Int) (oa : Option Addr) (oc : Nat) (k : Int) (h : StOK w b B nt true op oa oc) (hk : k = 3 ∨ k = 8 ∨ k = 0 ∨ k = 1) :
    Calls Tryz.prog 78 #[.pointer (some ⟨b, 0, none⟩), .int .i64 k] w fun e w' => TakePost w b B nt true op oa oc k e w' := by
  have H := hidS h
  obtain ⟨c0, c1, c2, f0, f1, f2, _, _, _, _, hn⟩ := h
  rcases hk with rfl | rfl | rfl | rfl
  · go_enter Tryz.func78, Tryz.ntmps78
    go_wp2
    go_ret
    exact ⟨ChgB.refl _ _ _, .inr ⟨true, nt, op, oa, oc, by simp [takeS], rfl, H.out, .inl rfl⟩⟩
  · go_enter Tryz.func78, Tryz.ntmps78
    go_wp2
    go_ret
    exact ⟨ChgB.refl _ _ _, .inr ⟨true, nt, op, oa, oc, by simp [takeS], rfl, H.out, .inl rfl⟩⟩
  · go_enter Tryz.func78, Tryz.ntmps78
    go_wp2
    go_ret
    exact ⟨ChgB.refl _ _ _, .inl ⟨by simp [takeS], rfl⟩⟩
  · go_enter Tryz.func78, Tryz.ntmps78
    go_wp2
    go_ret
    exact ⟨ChgB.refl _ _ _, .inl ⟨by simp [takeS], rfl⟩⟩
set_option maxHeartbeats 1000000 in
theorem take_end (w : World) (b B nt : Nat) (op : List Int) (oa : Option Addr) (oc : Nat) (h : StOK w b B nt true op oa oc) :
    Calls Tryz.prog 78 #[.pointer (some ⟨b, 0, none⟩), .int .i64 2] w fun e w' => TakePost w b B nt true op oa oc 2 e w' := by
  have H := hidS h
  obtain ⟨c0, c1, c2, f0, f1, f2, _, _, _, _, hn⟩ := h
  by_cases ho : op = []
  · have hl : ¬ (0 : Int) < (op.length : Int) := by simp [ho]
    have HT : Hid (takeS true nt op 2 = some (false, nt, op)) := by show _ = _; simp [takeS, ho]
    clear ho
    go_enter Tryz.func78, Tryz.ntmps78
    go_wp2
    go_ret
    exact ⟨(ChgB.refl _ _ _).set 1 _, .inr ⟨false, nt, op, oa, oc, HT.out, rfl, st_end H.out, .inl rfl⟩⟩
  · have hl : (0 : Int) < (op.length : Int) := by have := List.length_pos_iff.2 ho; omega
    have HT : Hid (takeS true nt op 2 = none) := by show _ = _; simp [takeS, ho]
    clear ho
    go_enter Tryz.func78, Tryz.ntmps78
    go_wp2
    go_ret
    exact ⟨ChgB.refl _ _ _, .inl ⟨HT.out, rfl⟩⟩
theorem last_split (op : List Int) (h : op ≠ []) : ∃ o x, op = o ++ [x] := ⟨op.dropLast, op.getLast h, (List.dropLast_concat_getLast h).symm⟩
theorem own_some {w : World} {B n c : Nat} {oa : Option Addr} {xs : List Value} (h : w.ownsRow B 3 1 (.slice oa n c) n xs) (hn : 0 < n) : ∃ g, oa = some ⟨g, 0, none⟩ ∧ B ≤ g ∧ g < w.heap.size := by
  obtain ⟨g, cap, hv, h1, h2⟩ := h.form hn
  simp at hv
  exact ⟨g, hv.1, h1, h2⟩
theorem st_leave {w : World} {b B nt : Nat} {o : List Int} {x : Int} {g oc : Nat} (h : StOK w b B nt true (o ++ [x]) (some ⟨g, 0, none⟩) oc) :
    StOK (w.setCell ⟨b, 2, none⟩ (.slice (some ⟨g, 0, none⟩) o.length oc)) b B nt true o (some ⟨g, 0, none⟩) oc := by
  have ho : w.ownsRow B 3 1 (.slice (some ⟨g, 0, none⟩) o.length oc) o.length (o.map (Value.int .i64)) := by
    have := h.own
    rw [List.length_append, List.map_append] at this
    exact ownsRow_pop (by simp) this
  have ho2 := own_set (j := 2) ho h.lt (.slice (some ⟨g, 0, none⟩) o.length oc)
  have hle := h.le
  obtain ⟨c0, c1, c2, f0, f1, f2, _, hlt, _, hlen, hn⟩ := h
  rw [List.length_append] at hlen
  refine ⟨?_, ?_, ?_, ?_, ?_, ?_, ho2, hlt, by simpa using hle, by omega, hn⟩ <;> go_simp
set_option maxHeartbeats 1000000 in
theorem take_leave (w : World) (b B nt : Nat) (op : List Int) (oa : Option Addr) (oc : Nat) (h : StOK w b B nt true op oa oc) :
    Calls Tryz.prog 78 #[.pointer (some ⟨b, 0, none⟩), .int .i64 7] w fun e w' => TakePost w b B nt true op oa oc 7 e w' := by
  by_cases ho : op = []
  · have H := hidS h
    obtain ⟨c0, c1, c2, f0, f1, f2, _, _, _, _, hn⟩ := h
    have hl : (op.length : Int) = 0 := by simp [ho]
    have HT : Hid (takeS true nt op 7 = none) := by show _ = _; simp [takeS, ho]
    have hl' : op.length ≤ 0 := by omega
    clear ho hl
    go_enter Tryz.func78, Tryz.ntmps78
    go_wp2
    go_ret
    exact ⟨ChgB.refl _ _ _, .inl ⟨HT.out, rfl⟩⟩
  · obtain ⟨o, x, rfl⟩ := last_split op ho
    obtain ⟨g, rfl, hg1, hg2⟩ := own_some h.own (by simp)
    have H := hidS h
    have HT : Hid (takeS true nt (o ++ [x]) 7 = some (true, nt, o)) := by show _ = _; simp [takeS]
    obtain ⟨c0, c1, c2, f0, f1, f2, hown, _, _, hlen, hn⟩ := h
    have hcap : o.length + 1 ≤ oc := by
      rcases hown.2 with ⟨h0, _⟩ | ⟨g', cap, cur, hv, _, _, h1, _⟩
      · cases h0
      · simp at hv; obtain ⟨_, rfl⟩ := hv; simpa using h1
    have hcm : oc ≤ maxLen := by
      rcases hown.2 with ⟨h0, _⟩ | ⟨g', cap, cur, hv, _, _, _, h1, _⟩
      · cases h0
      · simp at hv; obtain ⟨_, rfl⟩ := hv; exact h1
    unfold maxLen at hcm
    rw [List.length_append] at c2 hlen
    simp at c2 hlen
    clear hown ho
    go_enter Tryz.func78, Tryz.ntmps78
    go_wp2
    go_ret
    exact ⟨(ChgB.refl _ _ _).set 2 _, .inr ⟨true, nt, o, _, oc, HT.out, rfl, st_leave H.out, .inl rfl⟩⟩
theorem ChgB.setOwn {w : World} {b g n c : Nat} (j : Nat) (u : Value) : ChgB w (w.setCell ⟨g, j, none⟩ u) b (.slice (some ⟨g, 0, none⟩) n c) :=
  ⟨rfl, rfl, rfl, by simp, fun k h1 h2 h3 => Below.heap_setCell w ⟨g, j, none⟩ u k (fun e => h3 (by rw [e]; rfl))⟩
theorem st_turn {w : World} {b B nt : Nat} {o : List Int} {x : Int} {g oc : Nat} (h : StOK w b B nt true (o ++ [x]) (some ⟨g, 0, none⟩) oc) (hg : B ≤ g) :
    StOK (w.setCell ⟨g, o.length, none⟩ (.int .i64 5)) b B nt true (o ++ [5]) (some ⟨g, 0, none⟩) oc := by
  have ho : (w.setCell ⟨g, o.length, none⟩ (.int .i64 5)).ownsRow B 3 1 (.slice (some ⟨g, 0, none⟩) (o ++ [5]).length oc) (o ++ [5]).length ((o ++ [5]).map (Value.int .i64)) := by
    have := (h.own.stored o.length (.int .i64 5)).1
    have e : ((o ++ [x]).map (Value.int .i64)).set o.length (.int .i64 5) = (o ++ [5]).map (Value.int .i64) := by simp
    rw [e] at this
    simpa using this
  have hle := h.le
  have hb := h.lt
  have hne : b ≠ g := by omega
  have far : ∀ j, (w.setCell ⟨g, o.length, none⟩ (.int .i64 5)).cell? ⟨b, j, none⟩ = w.cell? ⟨b, j, none⟩ := fun j => World.cell?_of_block (Below.heap_setCell w _ _ b hne)
  have farf : ∀ j, (w.setCell ⟨g, o.length, none⟩ (.int .i64 5)).frozen? ⟨b, j, none⟩ = w.frozen? ⟨b, j, none⟩ := fun j => World.frozen?_of_block (Below.heap_setCell w _ _ b hne)
  obtain ⟨c0, c1, c2, f0, f1, f2, _, hlt, _, hlen, hn⟩ := h
  exact ⟨(far 0).trans c0, (far 1).trans c1, (far 2).trans (by simpa using c2), (farf 0).trans f0, (farf 1).trans f1, (farf 2).trans f2, ho, hlt, by simpa using hle, by simpa using hlen, hn⟩
set_option maxHeartbeats 1000000 in
theorem take_turn (w : World) (b B nt : Nat) (op : List Int) (oa : Option Addr) (oc : Nat) (h : StOK w b B nt true op oa oc) :
    Calls Tryz.prog 78 #[.pointer (some ⟨b, 0, none⟩), .int .i64 5] w fun e w' => TakePost w b B nt true op oa oc 5 e w' := by
  by_cases ho : op = []
  · have H := hidS h
    obtain ⟨c0, c1, c2, f0, f1, f2, _, _, _, _, hn⟩ := h
    have HT : Hid (takeS true nt op 5 = none) := by show _ = _; simp [takeS, ho]
    have hl' : op.length ≤ 0 := by simp [ho]
    clear ho
    go_enter Tryz.func78, Tryz.ntmps78
    go_wp2
    go_ret
    exact ⟨ChgB.refl _ _ _, .inl ⟨HT.out, rfl⟩⟩
  · obtain ⟨o, x, rfl⟩ := last_split op ho
    obtain ⟨g, rfl, hg1, hg2⟩ := own_some h.own (by simp)
    have H := hidS h
    have kx : w.cell? ⟨g, o.length, none⟩ = some (.int .i64 x) := by
      have := h.own.cellAt o.length (by simp)
      simpa using this
    have kf : w.frozen? ⟨g, o.length, none⟩ = false := h.own.frozenAt o.length
    obtain ⟨c0, c1, c2, f0, f1, f2, hown, _, _, hlen, hn⟩ := h
    rw [List.length_append] at c2 hlen
    simp at c2 hlen
    clear hown ho
    by_cases hx : x = 4
    · have HT : Hid (takeS true nt (o ++ [x]) 5 = some (true, nt, o ++ [5])) := by show _ = _; simp [takeS, hx]
      have hx1 : (x != 4) = false := by simp [hx]
      clear hx
      go_enter Tryz.func78, Tryz.ntmps78
      go_wp2
      go_ret
      exact ⟨ChgB.setOwn _ _, .inr ⟨true, nt, o ++ [5], _, oc, HT.out, rfl, st_turn H.out hg1, .inl rfl⟩⟩
    · have HT : Hid (takeS true nt (o ++ [x]) 5 = none) := by show _ = _; simp [takeS, hx]
      have hx1 : (x != 4) = true := by simp [hx]
      clear hx
      go_enter Tryz.func78, Tryz.ntmps78
      go_wp2
      go_ret
      exact ⟨ChgB.refl _ _ _, .inl ⟨HT.out, rfl⟩⟩
theorem info3 : (Tryz.prog.info? 3).map (fun i => (i.zero, i.size, i.bytes)) = some (some (.int .i64 0), 1, 8) := by kernel_rfl
theorem int_cells (w : World) (k : Int) : ∀ (j : Nat) (u : Value), [Value.int .i64 k][j]? = some u → (w.alloc (.cells #[.int .i64 k] 3)).cell? ((⟨w.heap.size, 0, none⟩ : Addr).add j) = some u := by
  intro j u hj
  match j, hj with
  | 0, hj => simp at hj; subst hj; simp [Addr.add]
theorem int_one (k : Int) : ∀ u ∈ [Value.int .i64 k], u.oneCell' = true := by
  intro u hu; simp at hu; subst hu; rfl
theorem st_enter {w1 : World} {b B nt : Nat} {op : List Int} {k : Int} {oa : Option Addr} {oc g cap : Nat} (q0 : w1.cell? ⟨b, 0, none⟩ = some (.int .i64 nt)) (q1 : w1.cell? ⟨b, 1, none⟩ = some (.bool true)) (q2 : w1.cell? ⟨b, 2, none⟩ = some (.slice oa op.length oc))
    (p0 : w1.frozen? ⟨b, 0, none⟩ = false) (p1 : w1.frozen? ⟨b, 1, none⟩ = false) (p2 : w1.frozen? ⟨b, 2, none⟩ = false)
    (hown1 : w1.ownsRow B 3 1 (.slice (some ⟨g, 0, none⟩) (op.length + 1) cap) (op.length + 1) (op.map (Value.int .i64) ++ [.int .i64 k])) (hlt : b < B) (hle : B ≤ w1.heap.size) (hl : op.length < 8) (hn : nt ≤ 6) :
    StOK (w1.setCell ⟨b, 2, none⟩ (.slice (some ⟨g, 0, none⟩) (op.length + 1) cap)) b B nt true (op ++ [k]) (some ⟨g, 0, none⟩) cap := by
  have ho : (w1.setCell ⟨b, 2, none⟩ (.slice (some ⟨g, 0, none⟩) (op.length + 1) cap)).ownsRow B 3 1 (.slice (some ⟨g, 0, none⟩) (op ++ [k]).length cap) (op ++ [k]).length ((op ++ [k]).map (Value.int .i64)) := by
    have := own_set (j := 2) hown1 hlt (.slice (some ⟨g, 0, none⟩) (op.length + 1) cap)
    simpa using this
  refine ⟨?_, ?_, ?_, ?_, ?_, ?_, ho, hlt, by simpa using hle, by simp; omega, hn⟩
  · go_simp
  · go_simp
  · rw [List.length_append]; go_simp
  · go_simp
  · go_simp
  · go_simp
set_option maxRecDepth 100000 in
set_option maxHeartbeats 1000000 in
theorem take_enter (w : World) (b B nt : Nat) (op : List Int) (oa : Option Addr) (oc : Nat) (k : Int) (hk : k = 4 ∨ k = 6) (h : StOK w b B nt true op oa oc) :
    Calls Tryz.prog 78 #[.pointer (some ⟨b, 0, none⟩), .int .i64 k] w fun e w' => TakePost w b B nt true op oa oc k e w' := by
  obtain ⟨i0, hi, hz0, hz1, hz2⟩ := info_parts info3
  have H := hidS h
  obtain ⟨c0, c1, c2, f0, f1, f2, hown, hlt, hle, hlen, hn⟩ := h
  have hbw : b < w.heap.size := by omega
  by_cases hl : op.length < 8
  · have HT : Hid (takeS true nt op k = some (true, nt, op ++ [k])) := take_open nt op k hk hl
    have e3 : (k == 3) = false := by simp; omega
    have e8 : (k == 8) = false := by simp; omega
    have e46 : (k == 4) = true ∨ (k == 4) = false ∧ (k == 6) = true := by simp; omega
    clear hk
    rcases e46 with e4 | ⟨e4, e6⟩
    all_goals
      go_enter Tryz.func78, Tryz.ntmps78
      go_wp2_with (first | (at_builtin; refine wpList_append_lies _ rfl _ _ 83 rfl B 3 i0 (.int .i64 0) 1 8 Tryz.underlying83 hi hz0 hz1 hz2 rfl (by decide) _ _ _ rfl (hown.alloc _) ⟨w.heap.size, 0, none⟩ 1 1 [.int .i64 k] rfl rfl ?c1 ?c2 (by decide) ?c3 ?c4 ?c5 _ rfl ?_) | go_in)
      case c1 => exact int_cells w k
      case c2 => exact int_one k
      case c3 => unfold maxLen; omega
      case c4 => omega
      case c5 => simp; omega
      intro g cap w1 hown1 hg1 hat1 hlt1
      have hne : some b ≠ (Value.slice oa op.length oc).ownBlock := by
        intro e
        have := (hown.lt b e.symm).1
        omega
      have hbk : w1.heap[b]? = w.heap[b]? := (hg1.block b (by simp; omega) hne).trans (Below.heap_alloc _ _ _ hbw)
      have q0 : w1.cell? ⟨b, 0, none⟩ = some (.int .i64 nt) := (World.cell?_of_block hbk).trans c0
      have q1 : w1.cell? ⟨b, 1, none⟩ = some (.bool true) := (World.cell?_of_block hbk).trans c1
      have q2 : w1.cell? ⟨b, 2, none⟩ = some (.slice oa op.length oc) := (World.cell?_of_block hbk).trans c2
      have p0 : w1.frozen? ⟨b, 0, none⟩ = false := (World.frozen?_of_block hbk).trans f0
      have p1 : w1.frozen? ⟨b, 1, none⟩ = false := (World.frozen?_of_block hbk).trans f1
      have p2 : w1.frozen? ⟨b, 2, none⟩ = false := (World.frozen?_of_block hbk).trans f2
      have HC : Hid (ChgB w w1 b (.slice oa op.length oc)) := by
        refine ⟨hg1.os, hg1.tape, hg1.output, by have := hg1.size; simp at this; omega, fun j h1 h2 h3 => ?_⟩
        exact (hg1.block j (by simp; omega) h3).trans (Below.heap_alloc _ _ _ h1)
      have hsz : w.heap.size ≤ w1.heap.size := by have := hg1.size; simp at this; omega
      have HST : Hid (StOK (w1.setCell ⟨b, 2, none⟩ (.slice (some ⟨g, 0, none⟩) (op.length + 1) cap)) b B nt true (op ++ [k]) (some ⟨g, 0, none⟩) cap) :=
        st_enter q0 q1 q2 p0 p1 p2 hown1 hlt (by omega) hl hn
      have HO := hidS hat1
      clear hown1 hg1 hbk hown c0 c1 c2 f0 f1 f2 hat1
      go_wp2
      go_ret
      refine ⟨HC.out.set 2 _, .inr ⟨true, nt, op ++ [k], _, cap, HT.out, rfl, HST.out, ?_⟩⟩
      rcases HO.out with h1 | h1
      · exact .inl h1.symm
      · exact .inr ⟨g, by omega, rfl⟩
  · have HT : Hid (takeS true nt op k = none) := by show _ = _; rcases hk with rfl | rfl <;> simp [takeS, hl]
    rcases hk with rfl | rfl
    all_goals
      go_enter Tryz.func78, Tryz.ntmps78
      go_wp2
      go_ret
      exact ⟨ChgB.refl _ _ _, .inl ⟨HT.out, rfl⟩⟩
theorem c81 (w : World) (b B nt : Nat) (inb : Bool) (op : List Int) (oa : Option Addr) (oc : Nat) (k : Int) (hk : 0 ≤ k ∧ k ≤ 8) (h : StOK w b B nt inb op oa oc) :
    Calls Tryz.prog 78 #[.pointer (some ⟨b, 0, none⟩), .int .i64 k] w fun e w' => TakePost w b B nt inb op oa oc k e w' := by
  cases inb with
  | false => exact take_begin w b B nt op oa oc k h
  | true =>
    obtain rfl | rfl | rfl | rfl | rfl | rfl | rfl | rfl | rfl : k = 0 ∨ k = 1 ∨ k = 2 ∨ k = 3 ∨ k = 4 ∨ k = 5 ∨ k = 6 ∨ k = 7 ∨ k = 8 := by omega
    · exact take_pass w b B nt op oa oc 0 h (by omega)
    · exact take_pass w b B nt op oa oc 1 h (by omega)
    · exact take_end w b B nt op oa oc h
    · exact take_pass w b B nt op oa oc 3 h (by omega)
    · exact take_enter w b B nt op oa oc 4 (by omega) h
    · exact take_turn w b B nt op oa oc h
    · exact take_enter w b B nt op oa oc 6 (by omega) h
    · exact take_leave w b B nt op oa oc h
    · exact take_pass w b B nt op oa oc 8 h (by omega)
end Go.Proofs.YtffkejkgkgfnhabGreat
