import Derived.Test.YtffkejkgkgfnhabGreatG19
import Derived.Test.YtffkejkgkgfnhabGreatG22
import Derived.Test.YtffkejkgkgfnhabGreatG05
namespace Go.Proofs.YtffkejkgkgfnhabGreat
open Go.RowKit
set_option linter.unusedVariables false
/-- what is asked of a Render -/
def PROK (f : Nat) : Prop := ∀ (s nm : ByteArray) (way : Int) (w : World) (da : Option Addr) (d : Dat) (dc : Nat), s.size ≤ maxLen → DatV w w.heap.size da d → d.ok false → d.bulk ≤ 1048576 → d.len ≤ dc → dc ≤ maxLen →
  Calls Tryz.prog f #[.int .i64 way, .string s, .string nm, .agg #[.slice da d.len dc]] w fun e w' => Below w.heap.size w w' ∧ RenPost s nm way d e
theorem r30ok : PROK 27 := fun s nm way w da d dc h1 h2 h3 h4 h5 h6 => r30 s nm way w da d dc h1 h2 h3 h4 h5 h6
theorem ag0 (w : World) : AgOK (w.alloc (.cells #[.slice none 0 0, .slice none 0 0] 60)) w.heap.size (.slice none 0 0) (.slice none 0 0) [] [] := by
  refine ⟨by simp, by simp, by simp, by simp, World.ownsRow_nil _ _ _ _, World.ownsRow_nil _ _ _ _, (fun g hg => by cases hg), by simp, fun x hx => absurd hx (by simp), fun x hx => absurd hx (by simp)⟩
set_option maxRecDepth 100000 in
set_option maxHeartbeats 4000000 in
theorem l17 (hP : PROK 26) (w : World) (k n : Int) (s t : ByteArray) (da : Option Addr) (d : Dat) (dc : Nat) (hs : s.size ≤ maxLen) (hV : DatV w w.heap.size da d) (hok : d.ok false) (hbk : d.bulk ≤ 1048576) (hlc : d.len ≤ dc) (hdc : dc ≤ maxLen) :
    Calls Tryz.prog 14 #[.agg #[.int .i64 k, .int .i64 n, .string s, .string t, .slice da d.len dc]] w fun e w' => e = .returned (.bool true) ∧ Below w.heap.size w w' := by
  have HP := hidS hP
  have HV := hidS hV
  have HO := hidS hok
  have HBK := hidS hbk
  have hl : d.len ≤ 1048576 := Nat.le_trans (Dat.len_bulk _) hbk
  clear hP hV hok hbk
  go_enter Tryz.func14, Tryz.ntmps14
  go_wp2_with fail
  have hV1 : DatV ((w.alloc (.cells #[.int .i64 k, .int .i64 n, .string s, .string t, .slice da d.len dc] 33)).alloc (.cells #[.slice none 0 0, .slice none 0 0] 60)) (w.heap.size + 1) da d := DatV.mono HV.out (by omega) (fun q hq => (Below.heap_alloc _ _ _ (by simp; omega)).trans (Below.heap_alloc _ _ _ hq))
  have hag0 := ag0 (w.alloc (.cells #[.int .i64 k, .int .i64 n, .string s, .string t, .slice da d.len dc] 33))
  have hcall := (cpy_all (d.bulk + 1)).1 d (by omega) HO.out _ (w.heap.size + 1) _ _ [] [] da dc (by simpa using hag0) hV1 (by simp; have := HBK.out; omega) HBK.out
  refine hcall.mono ?_
  clear hcall hag0
  rintro e w2 ⟨g, rfl, fv, rv, Fs, Rs, hag, hch, hcn, hnw, hdt, hnF, hnR⟩
  have hz2 : w.heap.size + 2 ≤ w2.heap.size := by have := hch.size; simp at this; omega
  have hb2 : Below w.heap.size w w2 := (((Below.refl _ _).alloc (Nat.le_refl _) _).alloc (by simp) _).trans ⟨hch.os, hch.tape, hch.output, hch.size, fun q hq => hch.block q (by simp; omega) (by omega) (fun e => by cases e) (fun e => by cases e)⟩
  have hop : ∀ m, w2.cell? ⟨w.heap.size, m, none⟩ = #[Value.int .i64 k, .int .i64 n, .string s, .string t, .slice da d.len dc][m]? := fun m => (World.cell?_of_block (hch.block w.heap.size (by simp; omega) (by omega) (fun e => by cases e) (fun e => by cases e))).trans ((World.cell?_alloc_lt _ _ _ (by simp)).trans (cellNew _ _ m _ _ rfl))
  have k1 : w2.cell? ⟨w.heap.size, 1, none⟩ = some (.int .i64 n) := hop 1
  have k2 : w2.cell? ⟨w.heap.size, 2, none⟩ = some (.string s) := hop 2
  have k3 : w2.cell? ⟨w.heap.size, 3, none⟩ = some (.string t) := hop 3
  have k4 : w2.cell? ⟨w.heap.size, 4, none⟩ = some (.slice da d.len dc) := hop 4
  have hVg : DatV w2 w2.heap.size (some ⟨g, 0, none⟩) d := .inr ⟨g, 0, rfl, hnw.1.hi, DatAtA.mono (A' := fun q => q < w2.heap.size) (fun q hq => hq.1.hi) (fun _ _ => rfl) d g 0 hnw hdt⟩
  have hVo : DatV w2 w2.heap.size da d := DatV.mono HV.out (by omega) (fun q hq => hb2.block q hq)
  have hFl : Fs.length ≤ 4000000 := by simp at hcn; have := HBK.out; omega
  have hRl : Rs.length ≤ 4000000 := by simp at hcn; have := HBK.out; omega
  have HVG := hidS hVg
  have HVO := hidS hVo
  have HAG := hidS hag
  have HB2 := hidS hb2
  have hzA : w.heap.size < w2.heap.size := by omega
  clear hop hV1 hag hch hcn hnw hdt hnF hnR hVg hVo hb2
  have hc29 := HP.out s t n (w2.alloc (.cells #[.slice (some ⟨g, 0, none⟩) d.len (d.len + 1)] 31)) (some ⟨g, 0, none⟩) d (d.len + 1) hs (DatV.mono HVG.out (by simp) (fun q hq => Below.heap_alloc _ _ _ hq)) HO.out HBK.out (by omega) (by unfold maxLen; omega)
  have H29 := hidS hc29
  clear hc29
  go_wp2_with fail
  refine H29.out.mono ?_
  clear H29
  rintro e w4 ⟨hb4, out, x, rfl, hren⟩
  have HRE := hidS hren
  have HB4 : Hid (Below w2.heap.size w2 w4) := ((Below.refl _ _).alloc (Nat.le_refl _) _).trans (hb4.mono (by simp))
  have hz4 : w2.heap.size < w4.heap.size := by have := hb4.size; simp at this; omega
  have m1 := (HB4.out.cell (p := ⟨w.heap.size, 1, none⟩) hzA).trans k1
  have m2 := (HB4.out.cell (p := ⟨w.heap.size, 2, none⟩) hzA).trans k2
  have m3 := (HB4.out.cell (p := ⟨w.heap.size, 3, none⟩) hzA).trans k3
  have m4 := (HB4.out.cell (p := ⟨w.heap.size, 4, none⟩) hzA).trans k4
  have md : w4.cell? ⟨w2.heap.size, 0, none⟩ = some (.slice (some ⟨g, 0, none⟩) d.len (d.len + 1)) := (hb4.cell (p := ⟨w2.heap.size, 0, none⟩) (by show w2.heap.size < _; simp)).trans (by simp)
  have hc30 := r30ok s t n w4 da d dc hs (DatV.mono HVO.out (by omega) (fun q hq => HB4.out.block q hq)) HO.out HBK.out hlc hdc
  have H30 := hidS hc30
  clear hc30 k1 k2 k3 k4 hb4 hren
  go_wp2_with fail
  refine H30.out.mono ?_
  clear H30
  rintro e w5 ⟨hb5, out', x', rfl, hren'⟩
  obtain ⟨hoo, hxx⟩ := renS_unique HRE.out hren'
  subst hoo hxx
  have HB5 : Hid (Below w2.heap.size w2 w5) := HB4.out.trans (hb5.mono (by omega))
  have hz5 : w2.heap.size < w5.heap.size := by have := hb5.size; omega
  have n4 := (hb5.cell (p := ⟨w.heap.size, 4, none⟩) (by show w.heap.size < _; omega)).trans m4
  have nd := (hb5.cell (p := ⟨w2.heap.size, 0, none⟩) hz4).trans md
  have hc31 := sm_all (d.bulk + 1) d (by omega) HO.out HBK.out w5 (some ⟨g, 0, none⟩) da (d.len + 1) dc (DatV.mono HVG.out (by omega) (fun q hq => HB5.out.block q hq)) (DatV.mono HVO.out (by omega) (fun q hq => HB5.out.block q hq))
  have H31 := hidS hc31
  clear hc31 m1 m2 m3 m4 md hb5 hren'
  go_wp2_with fail
  refine H31.out.mono ?_
  clear H31
  rintro e w6 ⟨rfl, hb6⟩
  have HB6 : Hid (Below w2.heap.size w2 w6) := HB5.out.trans (hb6.mono (by omega))
  have hc32 := l32 w6 (w.heap.size + 1) fv rv Fs Rs (HAG.out.below HB6.out.block HB6.out.size) hFl hRl
  have H32 := hidS hc32
  clear hc32 n4 nd hb6
  go_wp2_with fail
  refine H32.out.mono ?_
  clear H32
  rintro e w7 ⟨rfl, hb7⟩
  have HB7 : Hid (Below w.heap.size w w7) := HB2.out.trans ((HB6.out.trans (hb7.mono HB6.out.size)).mono (by omega))
  clear hb7
  go_wp2
  go_ret
  exact ⟨rfl, HB7.out⟩
end Go.Proofs.YtffkejkgkgfnhabGreat
namespace Go.Proofs.YtffkejkgkgfnhabGreat
open Go.ChangeShapes Go.WideShapes Go.ChangeAt Go.RowKit Go.Deep
set_option linter.unusedVariables false
theorem fourL {α : Type} (l : List α) (h : l.length = 4) : ∃ a b c d, l = [a, b, c, d] := by
  match l, h with
  | [a, b, c, d], _ => exact ⟨a, b, c, d, rfl⟩
theorem oneL {α : Type} (l : List α) (h : l.length = 1) : ∃ a, l = [a] := by
  match l, h with
  | [a], _ => exact ⟨a, rfl⟩
theorem cellsF : Tryz.prog.cellsOf 88 = 4 := by kernel_rfl
theorem cellsR : Tryz.prog.cellsOf 31 = 1 := by kernel_rfl
theorem cellsLR : Tryz.prog.cellsOf 86 = 1 := by kernel_rfl
theorem cellsLF : Tryz.prog.cellsOf 29 = 1 := by kernel_rfl
theorem cellsB : Tryz.prog.cellsOf 4 = 1 := by kernel_rfl
theorem at_cellsN {w : World} {b off i n : Nat} {cs : List Value} (h : ∀ j, j < n → w.cell? ((Addr.add ⟨b, off, none⟩ (i * n)).add j) = cs[j]?) : ∀ j, j < n → w.cell? ⟨b, off + i * n + j, none⟩ = cs[j]? := by
  intro j hj
  rw [← h j hj, add_add]
  by_cases e : i * n + j = 0
  · have e1 : i * n = 0 := by omega
    have e2 : j = 0 := by omega
    simp [Addr.add, e1, e2]
  · rw [Addr.add, if_neg e, Nat.add_assoc]
theorem open_fld {H : Type} {enc : TypeId × Value → H} {w : World} {base : Nat} {spare : Nat → Bool} {held : Bool} {fuel : Nat} {cs : List Value} {x : DataW H × List MemPlace}
    (h : DataW.trod enc Tryz.prog w base spare held fuel 88 cs = some x) :
    ∃ (nm : ByteArray) (li : Bool) (tx : ByteArray) (rv : Value) (m : Nat) (x3 : DataW H × List MemPlace), cs = [.string nm, .bool li, .string tx, rv] ∧ DataW.trod enc Tryz.prog w base spare held m 86 [rv] = some x3 ∧
      Rows.uptoBulk x.1 = nm.size + tx.size + Rows.uptoBulk x3.1 + 4 := by
  obtain ⟨xs, m, _, rfl, hl, hlen, hf⟩ := DataW.trod_struct Tryz.underlying88 h
  rw [cellsF] at hl
  obtain ⟨c0, c1, c2, c3, rfl⟩ := fourL cs hl
  obtain ⟨x0, x1, x2, x3, rfl⟩ := fourL xs hlen
  have f0 : DataW.trod enc Tryz.prog w base spare held m 9 (([c0, c1, c2, c3].drop 0).take (Tryz.prog.cellsOf 9)) = some x0 := hf 0 _ rfl
  have f1 : DataW.trod enc Tryz.prog w base spare held m 4 (([c0, c1, c2, c3].drop 1).take (Tryz.prog.cellsOf 4)) = some x1 := hf 1 _ rfl
  have f2 : DataW.trod enc Tryz.prog w base spare held m 9 (([c0, c1, c2, c3].drop 2).take (Tryz.prog.cellsOf 9)) = some x2 := hf 2 _ rfl
  have f3 : DataW.trod enc Tryz.prog w base spare held m 86 (([c0, c1, c2, c3].drop 3).take (Tryz.prog.cellsOf 86)) = some x3 := hf 3 _ rfl
  rw [cells9] at f0 f2
  rw [cellsB] at f1
  rw [cellsLR] at f3
  obtain ⟨nm, e0, rfl, hs0⟩ := DataW.trod_string Tryz.underlying9 f0
  obtain ⟨li, e1, rfl⟩ := DataW.trod_bool Tryz.underlying4 f1
  obtain ⟨tx, e2, rfl, hs2⟩ := DataW.trod_string Tryz.underlying9 f2
  simp at e0 e1 e2
  subst e0 e1 e2
  refine ⟨nm, li, tx, c3, m, x3, rfl, f3, ?_⟩
  simp [Rows.uptoBulk, Rows.uptoBulkAll]
  omega
theorem open_rw {H : Type} {enc : TypeId × Value → H} {w : World} {base : Nat} {spare : Nat → Bool} {held : Bool} {fuel : Nat} {cs : List Value} {x : DataW H × List MemPlace}
    (h : DataW.trod enc Tryz.prog w base spare held fuel 31 cs = some x) :
    ∃ (fv : Value) (m : Nat) (x3 : DataW H × List MemPlace), cs = [fv] ∧ DataW.trod enc Tryz.prog w base spare held m 29 [fv] = some x3 ∧ Rows.uptoBulk x.1 = Rows.uptoBulk x3.1 + 1 := by
  obtain ⟨xs, m, _, rfl, hl, hlen, hf⟩ := DataW.trod_struct Tryz.underlying31 h
  rw [cellsR] at hl
  obtain ⟨c0, rfl⟩ := oneL cs hl
  obtain ⟨x0, rfl⟩ := oneL xs hlen
  have f0 : DataW.trod enc Tryz.prog w base spare held m 29 (([c0].drop 0).take (Tryz.prog.cellsOf 29)) = some x0 := hf 0 _ rfl
  rw [cellsLF] at f0
  refine ⟨c0, m, x0, rfl, f0, ?_⟩
  simp [Rows.uptoBulk, Rows.uptoBulkAll]
theorem bulk_mem {H : Type} (l : List (DataW H)) (d : DataW H) (h : d ∈ l) : Rows.uptoBulk d ≤ Rows.uptoBulkAll l := by
  induction l with
  | nil => simp at h
  | cons x r ih =>
    simp only [Rows.uptoBulkAll]
    rcases List.mem_cons.1 h with rfl | h
    · omega
    · have := ih h; omega
theorem build_flds {H : Type} {w : World} {N b off len : Nat} {D : Nat → DataW H} (h : ∀ i, i < len → ∃ nm li tx rows a c, w.cell? ⟨b, off + i * 4, none⟩ = some (.string nm) ∧ w.cell? ⟨b, off + i * 4 + 1, none⟩ = some (.bool li) ∧ w.cell? ⟨b, off + i * 4 + 2, none⟩ = some (.string tx) ∧
      w.cell? ⟨b, off + i * 4 + 3, none⟩ = some (.slice a rows.len c) ∧ rows.len ≤ c ∧ c ≤ maxLen ∧ DatV w N a rows ∧ rows.ok true ∧ nm.size + tx.size + rows.bulk + 5 ≤ Rows.uptoBulk (D i)) :
    ∀ k i, i + k = len → ∃ d : Dat, d.len = k ∧ d.ok false ∧ DatAt w N d b (off + i * 4) ∧ d.bulk ≤ Rows.uptoBulkAll ((List.range' i k).map D) := by
  intro k
  induction k with
  | zero => intro i _; exact ⟨.nil, rfl, trivial, trivial, Nat.zero_le _⟩
  | succ k ih =>
    intro i hi
    obtain ⟨d, h1, h2, h3, h4⟩ := ih (i + 1) (by omega)
    obtain ⟨nm, li, tx, rows, a, c, k0, k1, k2, k3, k4, k5, k6, k7, k8⟩ := h i (by omega)
    refine ⟨.fld nm li tx rows d, by simp [Dat.len, h1], ⟨k7, h2⟩, ⟨k0, k1, k2, ⟨a, c, k3, k4, k5, k6⟩, by rw [show off + i * 4 + 4 = off + (i + 1) * 4 by omega]; exact h3⟩, ?_⟩
    simp only [Dat.bulk, List.range'_succ, List.map_cons, Rows.uptoBulkAll]
    omega
theorem build_rows {H : Type} {w : World} {N b off len : Nat} {D : Nat → DataW H} (h : ∀ i, i < len → ∃ (f : Dat) (a : Option Addr) (c : Nat), w.cell? ⟨b, off + i, none⟩ = some (.slice a f.len c) ∧ f.len ≤ c ∧ c ≤ maxLen ∧ DatV w N a f ∧ f.ok false ∧ f.bulk + 2 ≤ Rows.uptoBulk (D i)) :
    ∀ k i, i + k = len → ∃ d : Dat, d.len = k ∧ d.ok true ∧ DatAt w N d b (off + i) ∧ d.bulk ≤ Rows.uptoBulkAll ((List.range' i k).map D) := by
  intro k
  induction k with
  | zero => intro i _; exact ⟨.nil, rfl, trivial, trivial, Nat.zero_le _⟩
  | succ k ih =>
    intro i hi
    obtain ⟨d, h1, h2, h3, h4⟩ := ih (i + 1) (by omega)
    obtain ⟨f, a, c, k3, k4, k5, k6, k7, k8⟩ := h i (by omega)
    refine ⟨.row f d, by simp [Dat.len, h1], ⟨k7, h2⟩, ⟨⟨a, c, k3, k4, k5, k6⟩, h3⟩, ?_⟩
    simp only [Dat.bulk, List.range'_succ, List.map_cons, Rows.uptoBulkAll]
    omega
def DatOf (w : World) (b : Bool) (v : Value) (B : Nat) : Prop := ∃ (a : Option Addr) (d : Dat) (c : Nat), v = .slice a d.len c ∧ d.ok b ∧ d.len ≤ c ∧ c ≤ maxLen ∧ DatV w w.heap.size a d ∧ d.bulk + 1 ≤ B
theorem open_dat {H : Type} {enc : TypeId × Value → H} {w : World} (B : Nat) : ∀ (fuel : Nat) (v : Value) (x : DataW H × List MemPlace), Rows.uptoBulk x.1 ≤ B →
    (DataW.trod enc Tryz.prog w 0 (fun _ => true) true fuel 29 [v] = some x → DatOf w false v (Rows.uptoBulk x.1)) ∧ (DataW.trod enc Tryz.prog w 0 (fun _ => true) true fuel 86 [v] = some x → DatOf w true v (Rows.uptoBulk x.1)) := by
  induction B with
  | zero =>
    intro fuel v x hB
    have : 0 < Rows.uptoBulk x.1 := by cases x.1 <;> first | (rename_i l; cases l <;> simp [Rows.uptoBulk]) | simp [Rows.uptoBulk]
    omega
  | succ B ih =>
    intro fuel v x hB
    constructor
    · intro h
      rcases open_slice Tryz.underlying29 h with ⟨hcs, hx⟩ | ⟨a', len, cap, m, n, D, Pl, hcs, _, hl, hm, hmm, hx, hall⟩
      · simp at hcs; subst hcs
        exact ⟨none, .nil, 0, rfl, trivial, Nat.zero_le _, Nat.zero_le _, .inl rfl, by rw [hx]; simp [Rows.uptoBulk, Dat.bulk]⟩
      · simp at hcs; subst hcs
        simp at hmm
        subst hmm
        rw [cellsF] at hall
        rw [hx] at hB ⊢
        simp only [Rows.uptoBulk] at hB ⊢
        by_cases h0 : len = 0
        · subst h0
          exact ⟨some a', .nil, m, rfl, trivial, Nat.zero_le _, hm, .inl rfl, by simp [Dat.bulk]⟩
        · obtain ⟨b, off, spot⟩ := a'
          have key : spot = none ∧ b < w.heap.size := by
            obtain ⟨cs', hc, ht⟩ := hall 0 (by omega)
            obtain ⟨nm, li, tx, rv, m', x3, rfl, _, _⟩ := open_fld ht
            have h1 := (World.cells?_some hc).2.2 0 (by omega)
            have h2 := World.cells?_block hc (by omega)
            simp [Addr.add] at h1 h2
            exact ⟨by simpa using World.cell?_spot h1, h2⟩
          obtain ⟨rfl, hb⟩ := key
          have hel : ∀ i, i < len → ∃ nm li tx rows a c, w.cell? ⟨b, off + i * 4, none⟩ = some (.string nm) ∧ w.cell? ⟨b, off + i * 4 + 1, none⟩ = some (.bool li) ∧ w.cell? ⟨b, off + i * 4 + 2, none⟩ = some (.string tx) ∧
              w.cell? ⟨b, off + i * 4 + 3, none⟩ = some (.slice a rows.len c) ∧ rows.len ≤ c ∧ c ≤ maxLen ∧ DatV w w.heap.size a rows ∧ rows.ok true ∧ nm.size + tx.size + rows.bulk + 5 ≤ Rows.uptoBulk (D i) := by
            intro i hi
            obtain ⟨cs', hc, ht⟩ := hall i (by omega)
            obtain ⟨nm, li, tx, rv, m', x3, rfl, h3, hbk⟩ := open_fld ht
            have hcc := at_cellsN (World.cells?_some hc).2.2
            have hDi : Rows.uptoBulk (D i) ≤ Rows.uptoBulkAll ((List.range len).map D) := bulk_mem _ _ (List.mem_map.2 ⟨i, List.mem_range.2 hi, rfl⟩)
            simp only at hbk
            obtain ⟨a, d, c, rfl, h4, h5, h6, h7, h8⟩ := (ih m' rv x3 (by omega)).2 h3
            exact ⟨nm, li, tx, d, a, c, hcc 0 (by omega), hcc 1 (by omega), hcc 2 (by omega), hcc 3 (by omega), h5, h6, h7, h4, by omega⟩
          obtain ⟨d, e1, e2, e3, e4⟩ := build_flds hel len 0 (by omega)
          subst e1
          refine ⟨some ⟨b, off, none⟩, d, m, rfl, e2, hl, hm, .inr ⟨b, off, rfl, hb, by simpa using e3⟩, ?_⟩
          rw [List.range_eq_range']
          omega
    · intro h
      rcases open_slice Tryz.underlying86 h with ⟨hcs, hx⟩ | ⟨a', len, cap, m, n, D, Pl, hcs, _, hl, hm, hmm, hx, hall⟩
      · simp at hcs; subst hcs
        exact ⟨none, .nil, 0, rfl, trivial, Nat.zero_le _, Nat.zero_le _, .inl rfl, by rw [hx]; simp [Rows.uptoBulk, Dat.bulk]⟩
      · simp at hcs; subst hcs
        simp at hmm
        subst hmm
        rw [cellsR] at hall
        rw [hx] at hB ⊢
        simp only [Rows.uptoBulk] at hB ⊢
        by_cases h0 : len = 0
        · subst h0
          exact ⟨some a', .nil, m, rfl, trivial, Nat.zero_le _, hm, .inl rfl, by simp [Dat.bulk]⟩
        · obtain ⟨b, off, spot⟩ := a'
          have key : spot = none ∧ b < w.heap.size := by
            obtain ⟨cs', hc, ht⟩ := hall 0 (by omega)
            obtain ⟨fv, m', x3, rfl, _, _⟩ := open_rw ht
            have h1 := (World.cells?_some hc).2.2 0 (by omega)
            have h2 := World.cells?_block hc (by omega)
            simp [Addr.add] at h1 h2
            exact ⟨by simpa using World.cell?_spot h1, h2⟩
          obtain ⟨rfl, hb⟩ := key
          have hel : ∀ i, i < len → ∃ (f : Dat) (a : Option Addr) (c : Nat), w.cell? ⟨b, off + i, none⟩ = some (.slice a f.len c) ∧ f.len ≤ c ∧ c ≤ maxLen ∧ DatV w w.heap.size a f ∧ f.ok false ∧ f.bulk + 2 ≤ Rows.uptoBulk (D i) := by
            intro i hi
            obtain ⟨cs', hc, ht⟩ := hall i (by omega)
            obtain ⟨fv, m', x3, rfl, h3, hbk⟩ := open_rw ht
            have hcc := at_cellsN (World.cells?_some hc).2.2
            have hDi : Rows.uptoBulk (D i) ≤ Rows.uptoBulkAll ((List.range len).map D) := bulk_mem _ _ (List.mem_map.2 ⟨i, List.mem_range.2 hi, rfl⟩)
            simp only at hbk
            obtain ⟨a, d, c, rfl, h4, h5, h6, h7, h8⟩ := (ih m' fv x3 (by omega)).1 h3
            exact ⟨d, a, c, by simpa using hcc 0 (by omega), h5, h6, h7, h4, by omega⟩
          obtain ⟨d, e1, e2, e3, e4⟩ := build_rows hel len 0 (by omega)
          subst e1
          refine ⟨some ⟨b, off, none⟩, d, m, rfl, e2, hl, hm, .inr ⟨b, off, rfl, hb, by simpa using e3⟩, ?_⟩
          rw [List.range_eq_range']
          omega
end Go.Proofs.YtffkejkgkgfnhabGreat
