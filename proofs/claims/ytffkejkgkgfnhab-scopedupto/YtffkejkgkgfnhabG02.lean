import Derived.Test.YtffkejkgkgfnhabG01
import Derived.WalkKit
namespace Go.Proofs.Ytffkejkgkgfnhab
open Go.ChangeShapes Go.WideShapes Go.ChangeAt Go.RowKit Go.Deep
set_option linter.unusedVariables false
inductive Dat where
  | nil
  | fld (nm : ByteArray) (li : Bool) (tx : ByteArray) (rows next : Dat)
  | row (fields next : Dat)
def Dat.len : Dat → Nat
  | .nil => 0
  | .fld _ _ _ _ r => r.len + 1
  | .row _ r => r.len + 1
/-- true: rows; false: fields -/
def Dat.ok : Bool → Dat → Prop
  | _, .nil => True
  | false, .fld _ _ _ rows r => Dat.ok true rows ∧ Dat.ok false r
  | true, .row f r => Dat.ok false f ∧ Dat.ok true r
  | true, .fld _ _ _ _ _ => False
  | false, .row _ _ => False
def Dat.bulk : Dat → Nat
  | .nil => 0
  | .fld nm _ tx rows r => nm.size + tx.size + rows.bulk + r.bulk + 5
  | .row f r => f.bulk + r.bulk + 2
def Dat.cells : Dat → Nat
  | .nil => 0
  | .fld _ _ _ _ _ => 4
  | .row _ _ => 1
def DatW (A : Nat → Prop) (a : Option Addr) (n : Nat) (R : Nat → Nat → Prop) : Prop := n = 0 ∨ ∃ b off, a = some ⟨b, off, none⟩ ∧ A b ∧ R b off
/-- a list from a place of a block on; A: the blocks that it leads to -/
def DatAtA (w : World) (A : Nat → Prop) : Dat → Nat → Nat → Prop
  | .nil => fun _ _ => True
  | .fld nm li tx rows r => fun b off => w.cell? ⟨b, off, none⟩ = some (.string nm) ∧ w.cell? ⟨b, off + 1, none⟩ = some (.bool li) ∧ w.cell? ⟨b, off + 2, none⟩ = some (.string tx) ∧
      (∃ a c, w.cell? ⟨b, off + 3, none⟩ = some (.slice a rows.len c) ∧ rows.len ≤ c ∧ c ≤ maxLen ∧ DatW A a rows.len (DatAtA w A rows)) ∧ DatAtA w A r b (off + 4)
  | .row f r => fun b off => (∃ a c, w.cell? ⟨b, off, none⟩ = some (.slice a f.len c) ∧ f.len ≤ c ∧ c ≤ maxLen ∧ DatW A a f.len (DatAtA w A f)) ∧ DatAtA w A r b (off + 1)
abbrev DatAt (w : World) (N : Nat) : Dat → Nat → Nat → Prop := DatAtA w (fun k => k < N)
/-- what a list's address leads to -/
def DatVA (w : World) (A : Nat → Prop) (a : Option Addr) (d : Dat) : Prop := DatW A a d.len (DatAtA w A d)
abbrev DatV (w : World) (N : Nat) (a : Option Addr) (d : Dat) : Prop := DatVA w (fun k => k < N) a d
theorem DatAtA.mono {w w' : World} {A A' : Nat → Prop} (hA : ∀ k, A k → A' k) (hw : ∀ k, A k → w'.heap[k]? = w.heap[k]?) : ∀ (d : Dat) (b off : Nat), A b → DatAtA w A d b off → DatAtA w' A' d b off
  | .nil, b, off, hb, h => trivial
  | .fld nm li tx rows r, b, off, hb, h => by
    obtain ⟨h0, h1, h2, ⟨a, c, h3, hl, hc, hd⟩, h4⟩ := h
    have e := hw b hb
    refine ⟨(World.cell?_of_block e).trans h0, (World.cell?_of_block e).trans h1, (World.cell?_of_block e).trans h2, ⟨a, c, (World.cell?_of_block e).trans h3, hl, hc, ?_⟩, DatAtA.mono hA hw r b (off + 4) hb h4⟩
    rcases hd with h | ⟨b', off', ha, hb', hd⟩
    · exact .inl h
    · exact .inr ⟨b', off', ha, hA _ hb', DatAtA.mono hA hw rows b' off' hb' hd⟩
  | .row f r, b, off, hb, h => by
    obtain ⟨⟨a, c, h3, hl, hc, hd⟩, h4⟩ := h
    have e := hw b hb
    refine ⟨⟨a, c, (World.cell?_of_block e).trans h3, hl, hc, ?_⟩, DatAtA.mono hA hw r b (off + 1) hb h4⟩
    rcases hd with h | ⟨b', off', ha, hb', hd⟩
    · exact .inl h
    · exact .inr ⟨b', off', ha, hA _ hb', DatAtA.mono hA hw f b' off' hb' hd⟩
theorem DatVA.mono {w w' : World} {A A' : Nat → Prop} {a : Option Addr} {d : Dat} (h : DatVA w A a d) (hA : ∀ k, A k → A' k) (hw : ∀ k, A k → w'.heap[k]? = w.heap[k]?) : DatVA w' A' a d := by
  rcases h with h | ⟨b', off', ha, hb', hd⟩
  · exact .inl h
  · exact .inr ⟨b', off', ha, hA _ hb', DatAtA.mono hA hw d b' off' hb' hd⟩
theorem DatV.mono {w w' : World} {N N' : Nat} {a : Option Addr} {d : Dat} (h : DatV w N a d) (hN : N ≤ N') (hw : ∀ k, k < N → w'.heap[k]? = w.heap[k]?) : DatV w' N' a d :=
  DatVA.mono (A' := fun k => k < N') h (fun k hk => Nat.lt_of_lt_of_le hk hN) hw
theorem DatV.below {w w' : World} {N : Nat} {a : Option Addr} {d : Dat} (h : DatV w N a d) (hb : Below N w w') : DatV w' N a d := DatV.mono h (Nat.le_refl _) (fun k hk => hb.block k hk)
def Dat.drop : Dat → Nat → Dat
  | d, 0 => d
  | .nil, _ + 1 => .nil
  | .fld _ _ _ _ r, i + 1 => r.drop i
  | .row _ r, i + 1 => r.drop i
theorem Dat.drop_zero (d : Dat) : d.drop 0 = d := by cases d <;> rfl
theorem Dat.len_zero {d : Dat} (h : d.len = 0) : d = .nil := by cases d <;> simp_all [Dat.len]
theorem Dat.drop_end : ∀ (d : Dat) (i : Nat), d.len ≤ i → d.drop i = .nil
  | d, 0, h => by rw [Dat.drop_zero]; exact Dat.len_zero (by omega)
  | .nil, i + 1, _ => rfl
  | .fld _ _ _ _ r, i + 1, h => Dat.drop_end r i (by simp [Dat.len] at h; omega)
  | .row _ r, i + 1, h => Dat.drop_end r i (by simp [Dat.len] at h; omega)
/-- the i-th field of a list of fields -/
theorem DatAt.field {w : World} {A : Nat → Prop} : ∀ (d : Dat) (b off i : Nat), d.ok false → i < d.len → DatAtA w A d b off →
    ∃ nm li tx rows, d.drop i = .fld nm li tx rows (d.drop (i + 1)) ∧ rows.ok true ∧ (rows.bulk + nm.size + tx.size < d.bulk) ∧ w.cell? ⟨b, off + i * 4, none⟩ = some (.string nm) ∧ w.cell? ⟨b, off + i * 4 + 1, none⟩ = some (.bool li) ∧ w.cell? ⟨b, off + i * 4 + 2, none⟩ = some (.string tx) ∧
      ∃ a c, w.cell? ⟨b, off + i * 4 + 3, none⟩ = some (.slice a rows.len c) ∧ rows.len ≤ c ∧ c ≤ maxLen ∧ DatVA w A a rows
  | .nil, b, off, i, _, hi, _ => absurd hi (by simp [Dat.len])
  | .row _ _, b, off, i, ho, _, _ => ho.elim
  | .fld nm li tx rows r, b, off, 0, ho, hi, h => by
    obtain ⟨h0, h1, h2, h3, h4⟩ := h
    exact ⟨nm, li, tx, rows, by simp [Dat.drop, Dat.drop_zero], ho.1, by simp only [Dat.bulk]; omega, by simpa using h0, by simpa using h1, by simpa using h2, by rw [Nat.zero_mul, Nat.add_zero]; exact h3⟩
  | .fld nm li tx rows r, b, off, i + 1, ho, hi, h => by
    obtain ⟨h0, h1, h2, h3, h4⟩ := h
    obtain ⟨nm', li', tx', rows', e, k1, kb, k2, k3, k4, k5⟩ := DatAt.field r b (off + 4) i ho.2 (by simp [Dat.len] at hi; omega) h4
    have ee : off + 4 + i * 4 = off + (i + 1) * 4 := by omega
    rw [ee] at k2 k3 k4 k5
    exact ⟨nm', li', tx', rows', e, k1, by simp only [Dat.bulk]; omega, k2, k3, k4, k5⟩
theorem DatAt.rowAt {w : World} {A : Nat → Prop} : ∀ (d : Dat) (b off i : Nat), d.ok true → i < d.len → DatAtA w A d b off →
    ∃ f, d.drop i = .row f (d.drop (i + 1)) ∧ f.ok false ∧ f.bulk < d.bulk ∧ ∃ a c, w.cell? ⟨b, off + i, none⟩ = some (.slice a f.len c) ∧ f.len ≤ c ∧ c ≤ maxLen ∧ DatVA w A a f
  | .nil, b, off, i, _, hi, _ => absurd hi (by simp [Dat.len])
  | .fld _ _ _ _ _, b, off, i, ho, _, _ => ho.elim
  | .row f r, b, off, 0, ho, hi, h => by
    obtain ⟨h3, h4⟩ := h
    exact ⟨f, by simp [Dat.drop, Dat.drop_zero], ho.1, by simp only [Dat.bulk]; omega, by rw [Nat.add_zero]; exact h3⟩
  | .row f r, b, off, i + 1, ho, hi, h => by
    obtain ⟨h3, h4⟩ := h
    obtain ⟨f', e, k1, kb, k2⟩ := DatAt.rowAt r b (off + 1) i ho.2 (by simp [Dat.len] at hi; omega) h4
    have ee : off + 1 + i = off + (i + 1) := by omega
    rw [ee] at k2
    exact ⟨f', e, k1, by simp only [Dat.bulk]; omega, k2⟩
theorem Dat.len_bulk : ∀ d : Dat, d.len ≤ d.bulk
  | .nil => Nat.le_refl _
  | .fld _ _ _ _ r => by have := Dat.len_bulk r; simp only [Dat.len, Dat.bulk]; omega
  | .row _ r => by have := Dat.len_bulk r; simp only [Dat.len, Dat.bulk]; omega
end Go.Proofs.Ytffkejkgkgfnhab
namespace Go.Proofs.Ytffkejkgkgfnhab
open Go.ChangeShapes Go.WideShapes Go.ChangeAt Go.RowKit Go.Deep
set_option linter.unusedVariables false
theorem fourL {α : Type} (l : List α) (h : l.length = 4) : ∃ a b c d, l = [a, b, c, d] := by
  match l, h with
  | [a, b, c, d], _ => exact ⟨a, b, c, d, rfl⟩
theorem oneL {α : Type} (l : List α) (h : l.length = 1) : ∃ a, l = [a] := by
  match l, h with
  | [a], _ => exact ⟨a, rfl⟩
theorem cellsF : Try.prog.cellsOf 29 = 4 := by kernel_rfl
theorem cellsR : Try.prog.cellsOf 26 = 1 := by kernel_rfl
theorem cellsLR : Try.prog.cellsOf 23 = 1 := by kernel_rfl
theorem cellsLF : Try.prog.cellsOf 24 = 1 := by kernel_rfl
theorem cellsB : Try.prog.cellsOf 4 = 1 := by kernel_rfl
theorem at_cellsN {w : World} {b off i n : Nat} {cs : List Value} (h : ∀ j, j < n → w.cell? ((Addr.add ⟨b, off, none⟩ (i * n)).add j) = cs[j]?) : ∀ j, j < n → w.cell? ⟨b, off + i * n + j, none⟩ = cs[j]? := by
  intro j hj
  rw [← h j hj, add_add]
  by_cases e : i * n + j = 0
  · have e1 : i * n = 0 := by omega
    have e2 : j = 0 := by omega
    simp [Addr.add, e1, e2]
  · rw [Addr.add, if_neg e, Nat.add_assoc]
theorem open_fld {H : Type} {enc : TypeId × Value → H} {w : World} {base : Nat} {spare : Nat → Bool} {held : Bool} {fuel : Nat} {cs : List Value} {x : DataW H × List MemPlace}
    (h : DataW.trod enc Try.prog w base spare held fuel 29 cs = some x) :
    ∃ (nm : ByteArray) (li : Bool) (tx : ByteArray) (rv : Value) (m : Nat) (x3 : DataW H × List MemPlace), cs = [.string nm, .bool li, .string tx, rv] ∧ DataW.trod enc Try.prog w base spare held m 23 [rv] = some x3 ∧
      Rows.uptoBulk x.1 = nm.size + tx.size + Rows.uptoBulk x3.1 + 4 := by
  obtain ⟨xs, m, _, rfl, hl, hlen, hf⟩ := DataW.trod_struct Try.underlying29 h
  rw [cellsF] at hl
  obtain ⟨c0, c1, c2, c3, rfl⟩ := fourL cs hl
  obtain ⟨x0, x1, x2, x3, rfl⟩ := fourL xs hlen
  have f0 : DataW.trod enc Try.prog w base spare held m 9 (([c0, c1, c2, c3].drop 0).take (Try.prog.cellsOf 9)) = some x0 := hf 0 _ rfl
  have f1 : DataW.trod enc Try.prog w base spare held m 4 (([c0, c1, c2, c3].drop 1).take (Try.prog.cellsOf 4)) = some x1 := hf 1 _ rfl
  have f2 : DataW.trod enc Try.prog w base spare held m 9 (([c0, c1, c2, c3].drop 2).take (Try.prog.cellsOf 9)) = some x2 := hf 2 _ rfl
  have f3 : DataW.trod enc Try.prog w base spare held m 23 (([c0, c1, c2, c3].drop 3).take (Try.prog.cellsOf 23)) = some x3 := hf 3 _ rfl
  rw [cells9] at f0 f2
  rw [cellsB] at f1
  rw [cellsLR] at f3
  obtain ⟨nm, e0, rfl, hs0⟩ := DataW.trod_string Try.underlying9 f0
  obtain ⟨li, e1, rfl⟩ := DataW.trod_bool Try.underlying4 f1
  obtain ⟨tx, e2, rfl, hs2⟩ := DataW.trod_string Try.underlying9 f2
  simp at e0 e1 e2
  subst e0 e1 e2
  refine ⟨nm, li, tx, c3, m, x3, rfl, f3, ?_⟩
  simp [Rows.uptoBulk, Rows.uptoBulkAll]
  omega
theorem open_rw {H : Type} {enc : TypeId × Value → H} {w : World} {base : Nat} {spare : Nat → Bool} {held : Bool} {fuel : Nat} {cs : List Value} {x : DataW H × List MemPlace}
    (h : DataW.trod enc Try.prog w base spare held fuel 26 cs = some x) :
    ∃ (fv : Value) (m : Nat) (x3 : DataW H × List MemPlace), cs = [fv] ∧ DataW.trod enc Try.prog w base spare held m 24 [fv] = some x3 ∧ Rows.uptoBulk x.1 = Rows.uptoBulk x3.1 + 1 := by
  obtain ⟨xs, m, _, rfl, hl, hlen, hf⟩ := DataW.trod_struct Try.underlying26 h
  rw [cellsR] at hl
  obtain ⟨c0, rfl⟩ := oneL cs hl
  obtain ⟨x0, rfl⟩ := oneL xs hlen
  have f0 : DataW.trod enc Try.prog w base spare held m 24 (([c0].drop 0).take (Try.prog.cellsOf 24)) = some x0 := hf 0 _ rfl
  rw [cellsLF] at f0
  refine ⟨c0, m, x0, rfl, f0, ?_⟩
  simp [Rows.uptoBulk, Rows.uptoBulkAll]
theorem bulk_mem {H : Type} (l : List (DataW H)) (d : DataW H) (h : d ∈ l) : Rows.uptoBulk d ≤ Rows.uptoBulkAll l := by
  induction l with
  | nil => simp at h
  | cons x r ih =>
    simp only [Rows.uptoBulkAll]
    rcases List.mem_cons.1 h with rfl | h
    · omega
    · have := ih h; omega
theorem build_flds {H : Type} {w : World} {N b off len : Nat} {D : Nat → DataW H} (h : ∀ i, i < len → ∃ nm li tx rows a c, w.cell? ⟨b, off + i * 4, none⟩ = some (.string nm) ∧ w.cell? ⟨b, off + i * 4 + 1, none⟩ = some (.bool li) ∧ w.cell? ⟨b, off + i * 4 + 2, none⟩ = some (.string tx) ∧
      w.cell? ⟨b, off + i * 4 + 3, none⟩ = some (.slice a rows.len c) ∧ rows.len ≤ c ∧ c ≤ maxLen ∧ DatV w N a rows ∧ rows.ok true ∧ nm.size + tx.size + rows.bulk + 5 ≤ Rows.uptoBulk (D i)) :
    ∀ k i, i + k = len → ∃ d : Dat, d.len = k ∧ d.ok false ∧ DatAt w N d b (off + i * 4) ∧ d.bulk ≤ Rows.uptoBulkAll ((List.range' i k).map D) := by
  intro k
  induction k with
  | zero => intro i _; exact ⟨.nil, rfl, trivial, trivial, Nat.zero_le _⟩
  | succ k ih =>
    intro i hi
    obtain ⟨d, h1, h2, h3, h4⟩ := ih (i + 1) (by omega)
    obtain ⟨nm, li, tx, rows, a, c, k0, k1, k2, k3, k4, k5, k6, k7, k8⟩ := h i (by omega)
    refine ⟨.fld nm li tx rows d, by simp [Dat.len, h1], ⟨k7, h2⟩, ⟨k0, k1, k2, ⟨a, c, k3, k4, k5, k6⟩, by rw [show off + i * 4 + 4 = off + (i + 1) * 4 by omega]; exact h3⟩, ?_⟩
    simp only [Dat.bulk, List.range'_succ, List.map_cons, Rows.uptoBulkAll]
    omega
theorem build_rows {H : Type} {w : World} {N b off len : Nat} {D : Nat → DataW H} (h : ∀ i, i < len → ∃ (f : Dat) (a : Option Addr) (c : Nat), w.cell? ⟨b, off + i, none⟩ = some (.slice a f.len c) ∧ f.len ≤ c ∧ c ≤ maxLen ∧ DatV w N a f ∧ f.ok false ∧ f.bulk + 2 ≤ Rows.uptoBulk (D i)) :
    ∀ k i, i + k = len → ∃ d : Dat, d.len = k ∧ d.ok true ∧ DatAt w N d b (off + i) ∧ d.bulk ≤ Rows.uptoBulkAll ((List.range' i k).map D) := by
  intro k
  induction k with
  | zero => intro i _; exact ⟨.nil, rfl, trivial, trivial, Nat.zero_le _⟩
  | succ k ih =>
    intro i hi
    obtain ⟨d, h1, h2, h3, h4⟩ := ih (i + 1) (by omega)
    obtain ⟨f, a, c, k3, k4, k5, k6, k7, k8⟩ := h i (by omega)
    refine ⟨.row f d, by simp [Dat.len, h1], ⟨k7, h2⟩, ⟨⟨a, c, k3, k4, k5, k6⟩, h3⟩, ?_⟩
    simp only [Dat.bulk, List.range'_succ, List.map_cons, Rows.uptoBulkAll]
    omega
def DatOf (w : World) (b : Bool) (v : Value) (B : Nat) : Prop := ∃ (a : Option Addr) (d : Dat) (c : Nat), v = .slice a d.len c ∧ d.ok b ∧ d.len ≤ c ∧ c ≤ maxLen ∧ DatV w w.heap.size a d ∧ d.bulk + 1 ≤ B
theorem open_dat {H : Type} {enc : TypeId × Value → H} {w : World} (B : Nat) : ∀ (fuel : Nat) (v : Value) (x : DataW H × List MemPlace), Rows.uptoBulk x.1 ≤ B →
    (DataW.trod enc Try.prog w 0 (fun _ => true) true fuel 24 [v] = some x → DatOf w false v (Rows.uptoBulk x.1)) ∧ (DataW.trod enc Try.prog w 0 (fun _ => true) true fuel 23 [v] = some x → DatOf w true v (Rows.uptoBulk x.1)) := by
  induction B with
  | zero =>
    intro fuel v x hB
    have : 0 < Rows.uptoBulk x.1 := by cases x.1 <;> first | (rename_i l; cases l <;> simp [Rows.uptoBulk]) | simp [Rows.uptoBulk]
    omega
  | succ B ih =>
    intro fuel v x hB
    constructor
    · intro h
      rcases open_slice Try.underlying24 h with ⟨hcs, hx⟩ | ⟨a', len, cap, m, n, D, Pl, hcs, _, hl, hm, hmm, hx, hall⟩
      · simp at hcs; subst hcs
        exact ⟨none, .nil, 0, rfl, trivial, Nat.zero_le _, Nat.zero_le _, .inl rfl, by rw [hx]; simp [Rows.uptoBulk, Dat.bulk]⟩
      · simp at hcs; subst hcs
        simp at hmm
        subst hmm
        rw [cellsF] at hall
        rw [hx] at hB ⊢
        simp only [Rows.uptoBulk] at hB ⊢
        by_cases h0 : len = 0
        · subst h0
          exact ⟨some a', .nil, m, rfl, trivial, Nat.zero_le _, hm, .inl rfl, by simp [Dat.bulk]⟩
        · obtain ⟨b, off, spot⟩ := a'
          have key : spot = none ∧ b < w.heap.size := by
            obtain ⟨cs', hc, ht⟩ := hall 0 (by omega)
            obtain ⟨nm, li, tx, rv, m', x3, rfl, _, _⟩ := open_fld ht
            have h1 := (World.cells?_some hc).2.2 0 (by omega)
            have h2 := World.cells?_block hc (by omega)
            simp [Addr.add] at h1 h2
            exact ⟨by simpa using World.cell?_spot h1, h2⟩
          obtain ⟨rfl, hb⟩ := key
          have hel : ∀ i, i < len → ∃ nm li tx rows a c, w.cell? ⟨b, off + i * 4, none⟩ = some (.string nm) ∧ w.cell? ⟨b, off + i * 4 + 1, none⟩ = some (.bool li) ∧ w.cell? ⟨b, off + i * 4 + 2, none⟩ = some (.string tx) ∧
              w.cell? ⟨b, off + i * 4 + 3, none⟩ = some (.slice a rows.len c) ∧ rows.len ≤ c ∧ c ≤ maxLen ∧ DatV w w.heap.size a rows ∧ rows.ok true ∧ nm.size + tx.size + rows.bulk + 5 ≤ Rows.uptoBulk (D i) := by
            intro i hi
            obtain ⟨cs', hc, ht⟩ := hall i (by omega)
            obtain ⟨nm, li, tx, rv, m', x3, rfl, h3, hbk⟩ := open_fld ht
            have hcc := at_cellsN (World.cells?_some hc).2.2
            have hDi : Rows.uptoBulk (D i) ≤ Rows.uptoBulkAll ((List.range len).map D) := bulk_mem _ _ (List.mem_map.2 ⟨i, List.mem_range.2 hi, rfl⟩)
            simp only at hbk
            obtain ⟨a, d, c, rfl, h4, h5, h6, h7, h8⟩ := (ih m' rv x3 (by omega)).2 h3
            exact ⟨nm, li, tx, d, a, c, hcc 0 (by omega), hcc 1 (by omega), hcc 2 (by omega), hcc 3 (by omega), h5, h6, h7, h4, by omega⟩
          obtain ⟨d, e1, e2, e3, e4⟩ := build_flds hel len 0 (by omega)
          subst e1
          refine ⟨some ⟨b, off, none⟩, d, m, rfl, e2, hl, hm, .inr ⟨b, off, rfl, hb, by simpa using e3⟩, ?_⟩
          rw [List.range_eq_range']
          omega
    · intro h
      rcases open_slice Try.underlying23 h with ⟨hcs, hx⟩ | ⟨a', len, cap, m, n, D, Pl, hcs, _, hl, hm, hmm, hx, hall⟩
      · simp at hcs; subst hcs
        exact ⟨none, .nil, 0, rfl, trivial, Nat.zero_le _, Nat.zero_le _, .inl rfl, by rw [hx]; simp [Rows.uptoBulk, Dat.bulk]⟩
      · simp at hcs; subst hcs
        simp at hmm
        subst hmm
        rw [cellsR] at hall
        rw [hx] at hB ⊢
        simp only [Rows.uptoBulk] at hB ⊢
        by_cases h0 : len = 0
        · subst h0
          exact ⟨some a', .nil, m, rfl, trivial, Nat.zero_le _, hm, .inl rfl, by simp [Dat.bulk]⟩
        · obtain ⟨b, off, spot⟩ := a'
          have key : spot = none ∧ b < w.heap.size := by
            obtain ⟨cs', hc, ht⟩ := hall 0 (by omega)
            obtain ⟨fv, m', x3, rfl, _, _⟩ := open_rw ht
            have h1 := (World.cells?_some hc).2.2 0 (by omega)
            have h2 := World.cells?_block hc (by omega)
            simp [Addr.add] at h1 h2
            exact ⟨by simpa using World.cell?_spot h1, h2⟩
          obtain ⟨rfl, hb⟩ := key
          have hel : ∀ i, i < len → ∃ (f : Dat) (a : Option Addr) (c : Nat), w.cell? ⟨b, off + i, none⟩ = some (.slice a f.len c) ∧ f.len ≤ c ∧ c ≤ maxLen ∧ DatV w w.heap.size a f ∧ f.ok false ∧ f.bulk + 2 ≤ Rows.uptoBulk (D i) := by
            intro i hi
            obtain ⟨cs', hc, ht⟩ := hall i (by omega)
            obtain ⟨fv, m', x3, rfl, h3, hbk⟩ := open_rw ht
            have hcc := at_cellsN (World.cells?_some hc).2.2
            have hDi : Rows.uptoBulk (D i) ≤ Rows.uptoBulkAll ((List.range len).map D) := bulk_mem _ _ (List.mem_map.2 ⟨i, List.mem_range.2 hi, rfl⟩)
            simp only at hbk
            obtain ⟨a, d, c, rfl, h4, h5, h6, h7, h8⟩ := (ih m' fv x3 (by omega)).1 h3
            exact ⟨d, a, c, by simpa using hcc 0 (by omega), h5, h6, h7, h4, by omega⟩
          obtain ⟨d, e1, e2, e3, e4⟩ := build_rows hel len 0 (by omega)
          subst e1
          refine ⟨some ⟨b, off, none⟩, d, m, rfl, e2, hl, hm, .inr ⟨b, off, rfl, hb, by simpa using e3⟩, ?_⟩
          rw [List.range_eq_range']
          omega
end Go.Proofs.Ytffkejkgkgfnhab
/-
  THE PLAIN MATHEMATICS OF CONTEXTS: no Go, no program.
-/
namespace Go.Proofs.Ytffkejkgkgfnhab
set_option linter.unusedVariables false
def ltB (b : Int) : Bool := decide ((97 ≤ b ∧ b ≤ 122) ∨ (65 ≤ b ∧ b ≤ 90))
def dgB (b : Int) : Bool := decide (48 ≤ b ∧ b ≤ 57)
def wdB (b : Int) : Bool := ltB b || dgB b
def spB (b : Int) : Bool := decide (b = 32 ∨ b = 10)
/-- behind a word -/
def bw (b : Int) : Int := if spB b then 5 else if b = 62 then 0 else -1
def tg (x b : Int) : Int :=
  if x = 3 then (if wdB b then 3 else if spB b then 5 else if b = 62 then 0 else -1)
  else if x = 5 then (if spB b then 5 else if b = 62 then 0 else if b = 117 then 9 else if ltB b then 7 else -1)
  else if x = 7 then (if wdB b then 7 else if b = 61 then 11 else if spB b then 5 else if b = 62 then 0 else -1)
  else if x = 9 then (if wdB b then 7 else if b = 61 then 13 else if spB b then 5 else if b = 62 then 0 else -1)
  else if x = 11 then (if b = 34 then 15 else -1)
  else if x = 13 then (if b = 34 then 17 else -1)
  else if x = 15 then (if b = 34 then 5 else 15)
  else if x = 17 then (if b = 34 then 5 else 17)
  else -1
def up (y : Int) : Int := if y = 0 then 19 else if y = -1 then -1 else y + 1
def ws (y : Int) : Int := if y = 0 then 19 else if y = 5 then 6 else if y = 7 then 8 else if y = 9 then 10 else if y = 11 then 12 else if y = 13 then 14 else if y = 15 then 16 else if y = 17 then 18 else y
def wo (y : Int) : Int := if y = 6 then 5 else if y = 8 then 7 else if y = 10 then 9 else if y = 12 then 11 else if y = 14 then 13 else if y = 16 then 15 else if y = 18 then 17 else y
def ba (b q : Int) : Int := if wdB b then 7 else if b = 61 then q else bw b
def be (b q : Int) : Int := if b = 34 then q else -1
def cd (c b : Int) : Int :=
  if c = 19 then (if b = 39 then 21 else if b = 60 then 20 else 19)
  else if c = 20 then (if b = 47 then 2 else if b = 39 then 21 else if b = 60 then 20 else 19)
  else if c = 21 then (if b = 39 then 19 else if b = 92 then 22 else if b = 60 then 23 else if b = 10 then -1 else 21)
  else if c = 22 then (if b = 60 then 23 else if b = 10 then -1 else 21)
  else if c = 23 then (if b = 47 then 2 else if b = 39 then 19 else if b = 92 then 22 else if b = 60 then 23 else if b = 10 then -1 else 21)
  else -1
/-- what a byte makes of a context, by the document's table -/
def stp (c b : Int) : Int :=
  if c = 0 then (if b = 60 then 1 else 0)
  else if c = 1 then (if b = 115 then 4 else if ltB b then 3 else if b = 47 then 2 else if b = 60 then 1 else 0)
  else if c = 2 then (if b = 62 then 0 else 2)
  else if c = 4 then (if wdB b then 3 else up (tg 3 b))
  else if c = 3 ∨ c = 5 ∨ c = 7 ∨ c = 9 ∨ c = 11 ∨ c = 13 ∨ c = 15 ∨ c = 17 then tg c b
  else if c = 6 ∨ c = 8 ∨ c = 10 ∨ c = 12 ∨ c = 14 ∨ c = 16 ∨ c = 18 then up (tg (c - 1) b)
  else cd c b
theorem stp_lost (b : Int) : stp (-1) b = -1 := by simp [stp, cd]
theorem up_range (y : Int) (h : -1 ≤ y ∧ y ≤ 17) : -1 ≤ up y ∧ up y ≤ 23 := by unfold up; repeat' split <;> omega
theorem tg_range (x b : Int) : -1 ≤ tg x b ∧ tg x b ≤ 17 := by unfold tg; repeat' split <;> omega
theorem cd_range (x b : Int) : -1 ≤ cd x b ∧ cd x b ≤ 23 := by unfold cd; repeat' split <;> omega
theorem stp_range (c b : Int) : -1 ≤ stp c b ∧ stp c b ≤ 23 := by
  have h1 := tg_range c b
  have h2 := up_range _ (tg_range (c - 1) b)
  have h3 := up_range _ (tg_range 3 b)
  have h4 := cd_range c b
  unfold stp
  repeat' split <;> omega
/-- behind a list of bytes; what is lost stays lost -/
def scl (c : Int) : List UInt8 → Int
  | [] => c
  | b :: r => scl (stp c b.toNat) r
theorem scl_append (c : Int) (a b : List UInt8) : scl c (a ++ b) = scl (scl c a) b := by
  induction a generalizing c with
  | nil => rfl
  | cons x r ih => simp [scl, ih]
theorem scl_lost (l : List UInt8) : scl (-1) l = -1 := by
  induction l with
  | nil => rfl
  | cons x r ih => simp [scl, stp_lost, ih]
theorem scl_range (c : Int) (l : List UInt8) (h : -1 ≤ c ∧ c ≤ 23) : -1 ≤ scl c l ∧ scl c l ≤ 23 := by
  induction l generalizing c with
  | nil => exact h
  | cons x r ih => exact ih _ (stp_range _ _)
def scn (c : Int) (l : List UInt8) : Int := if c < 0 ∨ 24 ≤ c then -1 else scl c l
theorem scn_range (c : Int) (l : List UInt8) : -1 ≤ scn c l ∧ scn c l ≤ 23 := by
  unfold scn
  split
  · omega
  · exact scl_range _ _ (by omega)
theorem stp_name (b : Int) : tg 3 b = stp 3 b := by grind (splits := 40) [stp]
theorem stp_nameS (b : Int) : ws (tg 3 b) = stp 4 b := by grind (splits := 40) [stp, ws, up, tg, spB]
theorem stp_code (c b : Int) (h : c = 19 ∨ c = 20 ∨ c = 21 ∨ c = 22 ∨ c = 23) : cd c b = stp c b := by grind (splits := 40) [stp]
theorem wo_ne (c : Int) (h : c ≠ 3) : wo c ≠ 3 := by grind (splits := 40) [wo]
theorem stp_plain (c b : Int) (h : 5 ≤ c ∧ c ≤ 18) (e : wo c = c) : tg (wo c) b = stp c b := by grind (splits := 40) [stp, wo]
theorem tg_vals (x b : Int) : tg x b = -1 ∨ tg x b = 0 ∨ tg x b = 3 ∨ tg x b = 5 ∨ tg x b = 7 ∨ tg x b = 9 ∨ tg x b = 11 ∨ tg x b = 13 ∨ tg x b = 15 ∨ tg x b = 17 := by
  grind (splits := 40) [tg]
theorem tg_3 (x b : Int) (h : x ≠ 3) : tg x b ≠ 3 := by unfold tg; repeat' split <;> omega
theorem ws_up (y : Int) (h : y = -1 ∨ y = 0 ∨ y = 5 ∨ y = 7 ∨ y = 9 ∨ y = 11 ∨ y = 13 ∨ y = 15 ∨ y = 17) : ws y = up y := by
  rcases h with rfl | rfl | rfl | rfl | rfl | rfl | rfl | rfl | rfl <;> rfl
theorem wo_S (c : Int) (h : 5 ≤ c ∧ c ≤ 18) (e : wo c ≠ c) : (c = 6 ∨ c = 8 ∨ c = 10 ∨ c = 12 ∨ c = 14 ∨ c = 16 ∨ c = 18) ∧ wo c = c - 1 := by grind (splits := 40) [wo]
theorem stp_S (c b : Int) (h : 5 ≤ c ∧ c ≤ 18) (e : wo c ≠ c) : ws (tg (wo c) b) = stp c b := by
  obtain ⟨h1, h2⟩ := wo_S c h e
  have h3 := tg_vals (wo c) b
  have h4 := tg_3 (wo c) b (wo_ne c (by omega))
  rw [ws_up _ (by omega), h2]
  rcases h1 with rfl | rfl | rfl | rfl | rfl | rfl | rfl <;> simp [stp]
end Go.Proofs.Ytffkejkgkgfnhab
