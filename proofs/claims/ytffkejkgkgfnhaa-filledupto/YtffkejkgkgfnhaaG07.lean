import Derived.Test.YtffkejkgkgfnhaaG06
import Derived.Test.YtffkejkgkgfnhaaG01
namespace Go.Proofs.Ytffkejkgkgfnhaa
open Go.ChangeShapes Go.WideShapes Go.ChangeAt Go.RowKit Go.Deep
set_option linter.unusedVariables false
inductive Dat where
  | nil
  | fld (nm : ByteArray) (li : Bool) (tx : ByteArray) (rows next : Dat)
  | row (fields next : Dat)
def Dat.len : Dat → Nat
  | .nil => 0
  | .fld _ _ _ _ r => r.len + 1
  | .row _ r => r.len + 1
/-- true: rows; false: fields -/
def Dat.ok : Bool → Dat → Prop
  | _, .nil => True
  | false, .fld _ _ _ rows r => Dat.ok true rows ∧ Dat.ok false r
  | true, .row f r => Dat.ok false f ∧ Dat.ok true r
  | true, .fld _ _ _ _ _ => False
  | false, .row _ _ => False
def Dat.bulk : Dat → Nat
  | .nil => 0
  | .fld nm _ tx rows r => nm.size + tx.size + rows.bulk + r.bulk + 5
  | .row f r => f.bulk + r.bulk + 2
def Dat.cells : Dat → Nat
  | .nil => 0
  | .fld _ _ _ _ _ => 4
  | .row _ _ => 1
def DatW (A : Nat → Prop) (a : Option Addr) (n : Nat) (R : Nat → Nat → Prop) : Prop := n = 0 ∨ ∃ b off, a = some ⟨b, off, none⟩ ∧ A b ∧ R b off
/-- a list from a place of a block on; A: the blocks that it leads to -/
def DatAtA (w : World) (A : Nat → Prop) : Dat → Nat → Nat → Prop
  | .nil => fun _ _ => True
  | .fld nm li tx rows r => fun b off => w.cell? ⟨b, off, none⟩ = some (.string nm) ∧ w.cell? ⟨b, off + 1, none⟩ = some (.bool li) ∧ w.cell? ⟨b, off + 2, none⟩ = some (.string tx) ∧
      (∃ a c, w.cell? ⟨b, off + 3, none⟩ = some (.slice a rows.len c) ∧ rows.len ≤ c ∧ c ≤ maxLen ∧ DatW A a rows.len (DatAtA w A rows)) ∧ DatAtA w A r b (off + 4)
  | .row f r => fun b off => (∃ a c, w.cell? ⟨b, off, none⟩ = some (.slice a f.len c) ∧ f.len ≤ c ∧ c ≤ maxLen ∧ DatW A a f.len (DatAtA w A f)) ∧ DatAtA w A r b (off + 1)
abbrev DatAt (w : World) (N : Nat) : Dat → Nat → Nat → Prop := DatAtA w (fun k => k < N)
/-- what a list's address leads to -/
def DatVA (w : World) (A : Nat → Prop) (a : Option Addr) (d : Dat) : Prop := DatW A a d.len (DatAtA w A d)
abbrev DatV (w : World) (N : Nat) (a : Option Addr) (d : Dat) : Prop := DatVA w (fun k => k < N) a d
theorem DatAtA.mono {w w' : World} {A A' : Nat → Prop} (hA : ∀ k, A k → A' k) (hw : ∀ k, A k → w'.heap[k]? = w.heap[k]?) : ∀ (d : Dat) (b off : Nat), A b → DatAtA w A d b off → DatAtA w' A' d b off
  | .nil, b, off, hb, h => trivial
  | .fld nm li tx rows r, b, off, hb, h => by
    obtain ⟨h0, h1, h2, ⟨a, c, h3, hl, hc, hd⟩, h4⟩ := h
    have e := hw b hb
    refine ⟨(World.cell?_of_block e).trans h0, (World.cell?_of_block e).trans h1, (World.cell?_of_block e).trans h2, ⟨a, c, (World.cell?_of_block e).trans h3, hl, hc, ?_⟩, DatAtA.mono hA hw r b (off + 4) hb h4⟩
    rcases hd with h | ⟨b', off', ha, hb', hd⟩
    · exact .inl h
    · exact .inr ⟨b', off', ha, hA _ hb', DatAtA.mono hA hw rows b' off' hb' hd⟩
  | .row f r, b, off, hb, h => by
    obtain ⟨⟨a, c, h3, hl, hc, hd⟩, h4⟩ := h
    have e := hw b hb
    refine ⟨⟨a, c, (World.cell?_of_block e).trans h3, hl, hc, ?_⟩, DatAtA.mono hA hw r b (off + 1) hb h4⟩
    rcases hd with h | ⟨b', off', ha, hb', hd⟩
    · exact .inl h
    · exact .inr ⟨b', off', ha, hA _ hb', DatAtA.mono hA hw f b' off' hb' hd⟩
theorem DatVA.mono {w w' : World} {A A' : Nat → Prop} {a : Option Addr} {d : Dat} (h : DatVA w A a d) (hA : ∀ k, A k → A' k) (hw : ∀ k, A k → w'.heap[k]? = w.heap[k]?) : DatVA w' A' a d := by
  rcases h with h | ⟨b', off', ha, hb', hd⟩
  · exact .inl h
  · exact .inr ⟨b', off', ha, hA _ hb', DatAtA.mono hA hw d b' off' hb' hd⟩
theorem DatV.mono {w w' : World} {N N' : Nat} {a : Option Addr} {d : Dat} (h : DatV w N a d) (hN : N ≤ N') (hw : ∀ k, k < N → w'.heap[k]? = w.heap[k]?) : DatV w' N' a d :=
  DatVA.mono (A' := fun k => k < N') h (fun k hk => Nat.lt_of_lt_of_le hk hN) hw
theorem DatV.below {w w' : World} {N : Nat} {a : Option Addr} {d : Dat} (h : DatV w N a d) (hb : Below N w w') : DatV w' N a d := DatV.mono h (Nat.le_refl _) (fun k hk => hb.block k hk)
def Dat.drop : Dat → Nat → Dat
  | d, 0 => d
  | .nil, _ + 1 => .nil
  | .fld _ _ _ _ r, i + 1 => r.drop i
  | .row _ r, i + 1 => r.drop i
theorem Dat.drop_zero (d : Dat) : d.drop 0 = d := by cases d <;> rfl
theorem Dat.len_zero {d : Dat} (h : d.len = 0) : d = .nil := by cases d <;> simp_all [Dat.len]
theorem Dat.drop_end : ∀ (d : Dat) (i : Nat), d.len ≤ i → d.drop i = .nil
  | d, 0, h => by rw [Dat.drop_zero]; exact Dat.len_zero (by omega)
  | .nil, i + 1, _ => rfl
  | .fld _ _ _ _ r, i + 1, h => Dat.drop_end r i (by simp [Dat.len] at h; omega)
  | .row _ r, i + 1, h => Dat.drop_end r i (by simp [Dat.len] at h; omega)
/-- the i-th field of a list of fields -/
theorem DatAt.field {w : World} {A : Nat → Prop} : ∀ (d : Dat) (b off i : Nat), d.ok false → i < d.len → DatAtA w A d b off →
    ∃ nm li tx rows, d.drop i = .fld nm li tx rows (d.drop (i + 1)) ∧ rows.ok true ∧ (rows.bulk + nm.size + tx.size < d.bulk) ∧ w.cell? ⟨b, off + i * 4, none⟩ = some (.string nm) ∧ w.cell? ⟨b, off + i * 4 + 1, none⟩ = some (.bool li) ∧ w.cell? ⟨b, off + i * 4 + 2, none⟩ = some (.string tx) ∧
      ∃ a c, w.cell? ⟨b, off + i * 4 + 3, none⟩ = some (.slice a rows.len c) ∧ rows.len ≤ c ∧ c ≤ maxLen ∧ DatVA w A a rows
  | .nil, b, off, i, _, hi, _ => absurd hi (by simp [Dat.len])
  | .row _ _, b, off, i, ho, _, _ => ho.elim
  | .fld nm li tx rows r, b, off, 0, ho, hi, h => by
    obtain ⟨h0, h1, h2, h3, h4⟩ := h
    exact ⟨nm, li, tx, rows, by simp [Dat.drop, Dat.drop_zero], ho.1, by simp only [Dat.bulk]; omega, by simpa using h0, by simpa using h1, by simpa using h2, by rw [Nat.zero_mul, Nat.add_zero]; exact h3⟩
  | .fld nm li tx rows r, b, off, i + 1, ho, hi, h => by
    obtain ⟨h0, h1, h2, h3, h4⟩ := h
    obtain ⟨nm', li', tx', rows', e, k1, kb, k2, k3, k4, k5⟩ := DatAt.field r b (off + 4) i ho.2 (by simp [Dat.len] at hi; omega) h4
    have ee : off + 4 + i * 4 = off + (i + 1) * 4 := by omega
    rw [ee] at k2 k3 k4 k5
    exact ⟨nm', li', tx', rows', e, k1, by simp only [Dat.bulk]; omega, k2, k3, k4, k5⟩
theorem DatAt.rowAt {w : World} {A : Nat → Prop} : ∀ (d : Dat) (b off i : Nat), d.ok true → i < d.len → DatAtA w A d b off →
    ∃ f, d.drop i = .row f (d.drop (i + 1)) ∧ f.ok false ∧ f.bulk < d.bulk ∧ ∃ a c, w.cell? ⟨b, off + i, none⟩ = some (.slice a f.len c) ∧ f.len ≤ c ∧ c ≤ maxLen ∧ DatVA w A a f
  | .nil, b, off, i, _, hi, _ => absurd hi (by simp [Dat.len])
  | .fld _ _ _ _ _, b, off, i, ho, _, _ => ho.elim
  | .row f r, b, off, 0, ho, hi, h => by
    obtain ⟨h3, h4⟩ := h
    exact ⟨f, by simp [Dat.drop, Dat.drop_zero], ho.1, by simp only [Dat.bulk]; omega, by rw [Nat.add_zero]; exact h3⟩
  | .row f r, b, off, i + 1, ho, hi, h => by
    obtain ⟨h3, h4⟩ := h
    obtain ⟨f', e, k1, kb, k2⟩ := DatAt.rowAt r b (off + 1) i ho.2 (by simp [Dat.len] at hi; omega) h4
    have ee : off + 1 + i = off + (i + 1) := by omega
    rw [ee] at k2
    exact ⟨f', e, k1, by simp only [Dat.bulk]; omega, k2⟩
theorem Dat.len_bulk : ∀ d : Dat, d.len ≤ d.bulk
  | .nil => Nat.le_refl _
  | .fld _ _ _ _ r => by have := Dat.len_bulk r; simp only [Dat.len, Dat.bulk]; omega
  | .row _ r => by have := Dat.len_bulk r; simp only [Dat.len, Dat.bulk]; omega
end Go.Proofs.Ytffkejkgkgfnhaa
namespace Go.Proofs.Ytffkejkgkgfnhaa
open Go.ChangeShapes Go.WideShapes Go.ChangeAt Go.RowKit Go.Deep
set_option linter.unusedVariables false
theorem fourL {α : Type} (l : List α) (h : l.length = 4) : ∃ a b c d, l = [a, b, c, d] := by
  match l, h with
  | [a, b, c, d], _ => exact ⟨a, b, c, d, rfl⟩
theorem oneL {α : Type} (l : List α) (h : l.length = 1) : ∃ a, l = [a] := by
  match l, h with
  | [a], _ => exact ⟨a, rfl⟩
theorem cellsF : Try.prog.cellsOf 50 = 4 := by kernel_rfl
theorem cellsR : Try.prog.cellsOf 33 = 1 := by kernel_rfl
theorem cellsLR : Try.prog.cellsOf 48 = 1 := by kernel_rfl
theorem cellsLF : Try.prog.cellsOf 31 = 1 := by kernel_rfl
theorem cellsB : Try.prog.cellsOf 4 = 1 := by kernel_rfl
theorem at_cellsN {w : World} {b off i n : Nat} {cs : List Value} (h : ∀ j, j < n → w.cell? ((Addr.add ⟨b, off, none⟩ (i * n)).add j) = cs[j]?) : ∀ j, j < n → w.cell? ⟨b, off + i * n + j, none⟩ = cs[j]? := by
  intro j hj
  rw [← h j hj, add_add]
  by_cases e : i * n + j = 0
  · have e1 : i * n = 0 := by omega
    have e2 : j = 0 := by omega
    simp [Addr.add, e1, e2]
  · rw [Addr.add, if_neg e, Nat.add_assoc]
theorem open_fld {H : Type} {enc : TypeId × Value → H} {w : World} {base : Nat} {spare : Nat → Bool} {held : Bool} {fuel : Nat} {cs : List Value} {x : DataW H × List MemPlace}
    (h : DataW.trod enc Try.prog w base spare held fuel 50 cs = some x) :
    ∃ (nm : ByteArray) (li : Bool) (tx : ByteArray) (rv : Value) (m : Nat) (x3 : DataW H × List MemPlace), cs = [.string nm, .bool li, .string tx, rv] ∧ DataW.trod enc Try.prog w base spare held m 48 [rv] = some x3 ∧
      Rows.uptoBulk x.1 = nm.size + tx.size + Rows.uptoBulk x3.1 + 4 := by
  obtain ⟨xs, m, _, rfl, hl, hlen, hf⟩ := DataW.trod_struct Try.underlying50 h
  rw [cellsF] at hl
  obtain ⟨c0, c1, c2, c3, rfl⟩ := fourL cs hl
  obtain ⟨x0, x1, x2, x3, rfl⟩ := fourL xs hlen
  have f0 : DataW.trod enc Try.prog w base spare held m 9 (([c0, c1, c2, c3].drop 0).take (Try.prog.cellsOf 9)) = some x0 := hf 0 _ rfl
  have f1 : DataW.trod enc Try.prog w base spare held m 4 (([c0, c1, c2, c3].drop 1).take (Try.prog.cellsOf 4)) = some x1 := hf 1 _ rfl
  have f2 : DataW.trod enc Try.prog w base spare held m 9 (([c0, c1, c2, c3].drop 2).take (Try.prog.cellsOf 9)) = some x2 := hf 2 _ rfl
  have f3 : DataW.trod enc Try.prog w base spare held m 48 (([c0, c1, c2, c3].drop 3).take (Try.prog.cellsOf 48)) = some x3 := hf 3 _ rfl
  rw [cells9] at f0 f2
  rw [cellsB] at f1
  rw [cellsLR] at f3
  obtain ⟨nm, e0, rfl, hs0⟩ := DataW.trod_string Try.underlying9 f0
  obtain ⟨li, e1, rfl⟩ := DataW.trod_bool Try.underlying4 f1
  obtain ⟨tx, e2, rfl, hs2⟩ := DataW.trod_string Try.underlying9 f2
  simp at e0 e1 e2
  subst e0 e1 e2
  refine ⟨nm, li, tx, c3, m, x3, rfl, f3, ?_⟩
  simp [Rows.uptoBulk, Rows.uptoBulkAll]
  omega
theorem open_rw {H : Type} {enc : TypeId × Value → H} {w : World} {base : Nat} {spare : Nat → Bool} {held : Bool} {fuel : Nat} {cs : List Value} {x : DataW H × List MemPlace}
    (h : DataW.trod enc Try.prog w base spare held fuel 33 cs = some x) :
    ∃ (fv : Value) (m : Nat) (x3 : DataW H × List MemPlace), cs = [fv] ∧ DataW.trod enc Try.prog w base spare held m 31 [fv] = some x3 ∧ Rows.uptoBulk x.1 = Rows.uptoBulk x3.1 + 1 := by
  obtain ⟨xs, m, _, rfl, hl, hlen, hf⟩ := DataW.trod_struct Try.underlying33 h
  rw [cellsR] at hl
  obtain ⟨c0, rfl⟩ := oneL cs hl
  obtain ⟨x0, rfl⟩ := oneL xs hlen
  have f0 : DataW.trod enc Try.prog w base spare held m 31 (([c0].drop 0).take (Try.prog.cellsOf 31)) = some x0 := hf 0 _ rfl
  rw [cellsLF] at f0
  refine ⟨c0, m, x0, rfl, f0, ?_⟩
  simp [Rows.uptoBulk, Rows.uptoBulkAll]
theorem bulk_mem {H : Type} (l : List (DataW H)) (d : DataW H) (h : d ∈ l) : Rows.uptoBulk d ≤ Rows.uptoBulkAll l := by
  induction l with
  | nil => simp at h
  | cons x r ih =>
    simp only [Rows.uptoBulkAll]
    rcases List.mem_cons.1 h with rfl | h
    · omega
    · have := ih h; omega
theorem build_flds {H : Type} {w : World} {N b off len : Nat} {D : Nat → DataW H} (h : ∀ i, i < len → ∃ nm li tx rows a c, w.cell? ⟨b, off + i * 4, none⟩ = some (.string nm) ∧ w.cell? ⟨b, off + i * 4 + 1, none⟩ = some (.bool li) ∧ w.cell? ⟨b, off + i * 4 + 2, none⟩ = some (.string tx) ∧
      w.cell? ⟨b, off + i * 4 + 3, none⟩ = some (.slice a rows.len c) ∧ rows.len ≤ c ∧ c ≤ maxLen ∧ DatV w N a rows ∧ rows.ok true ∧ nm.size + tx.size + rows.bulk + 5 ≤ Rows.uptoBulk (D i)) :
    ∀ k i, i + k = len → ∃ d : Dat, d.len = k ∧ d.ok false ∧ DatAt w N d b (off + i * 4) ∧ d.bulk ≤ Rows.uptoBulkAll ((List.range' i k).map D) := by
  intro k
  induction k with
  | zero => intro i _; exact ⟨.nil, rfl, trivial, trivial, Nat.zero_le _⟩
  | succ k ih =>
    intro i hi
    obtain ⟨d, h1, h2, h3, h4⟩ := ih (i + 1) (by omega)
    obtain ⟨nm, li, tx, rows, a, c, k0, k1, k2, k3, k4, k5, k6, k7, k8⟩ := h i (by omega)
    refine ⟨.fld nm li tx rows d, by simp [Dat.len, h1], ⟨k7, h2⟩, ⟨k0, k1, k2, ⟨a, c, k3, k4, k5, k6⟩, by rw [show off + i * 4 + 4 = off + (i + 1) * 4 by omega]; exact h3⟩, ?_⟩
    simp only [Dat.bulk, List.range'_succ, List.map_cons, Rows.uptoBulkAll]
    omega
theorem build_rows {H : Type} {w : World} {N b off len : Nat} {D : Nat → DataW H} (h : ∀ i, i < len → ∃ (f : Dat) (a : Option Addr) (c : Nat), w.cell? ⟨b, off + i, none⟩ = some (.slice a f.len c) ∧ f.len ≤ c ∧ c ≤ maxLen ∧ DatV w N a f ∧ f.ok false ∧ f.bulk + 2 ≤ Rows.uptoBulk (D i)) :
    ∀ k i, i + k = len → ∃ d : Dat, d.len = k ∧ d.ok true ∧ DatAt w N d b (off + i) ∧ d.bulk ≤ Rows.uptoBulkAll ((List.range' i k).map D) := by
  intro k
  induction k with
  | zero => intro i _; exact ⟨.nil, rfl, trivial, trivial, Nat.zero_le _⟩
  | succ k ih =>
    intro i hi
    obtain ⟨d, h1, h2, h3, h4⟩ := ih (i + 1) (by omega)
    obtain ⟨f, a, c, k3, k4, k5, k6, k7, k8⟩ := h i (by omega)
    refine ⟨.row f d, by simp [Dat.len, h1], ⟨k7, h2⟩, ⟨⟨a, c, k3, k4, k5, k6⟩, h3⟩, ?_⟩
    simp only [Dat.bulk, List.range'_succ, List.map_cons, Rows.uptoBulkAll]
    omega
def DatOf (w : World) (b : Bool) (v : Value) (B : Nat) : Prop := ∃ (a : Option Addr) (d : Dat) (c : Nat), v = .slice a d.len c ∧ d.ok b ∧ d.len ≤ c ∧ c ≤ maxLen ∧ DatV w w.heap.size a d ∧ d.bulk + 1 ≤ B
theorem open_dat {H : Type} {enc : TypeId × Value → H} {w : World} (B : Nat) : ∀ (fuel : Nat) (v : Value) (x : DataW H × List MemPlace), Rows.uptoBulk x.1 ≤ B →
    (DataW.trod enc Try.prog w 0 (fun _ => true) true fuel 31 [v] = some x → DatOf w false v (Rows.uptoBulk x.1)) ∧ (DataW.trod enc Try.prog w 0 (fun _ => true) true fuel 48 [v] = some x → DatOf w true v (Rows.uptoBulk x.1)) := by
  induction B with
  | zero =>
    intro fuel v x hB
    have : 0 < Rows.uptoBulk x.1 := by cases x.1 <;> first | (rename_i l; cases l <;> simp [Rows.uptoBulk]) | simp [Rows.uptoBulk]
    omega
  | succ B ih =>
    intro fuel v x hB
    constructor
    · intro h
      rcases open_slice Try.underlying31 h with ⟨hcs, hx⟩ | ⟨a', len, cap, m, n, D, Pl, hcs, _, hl, hm, hmm, hx, hall⟩
      · simp at hcs; subst hcs
        exact ⟨none, .nil, 0, rfl, trivial, Nat.zero_le _, Nat.zero_le _, .inl rfl, by rw [hx]; simp [Rows.uptoBulk, Dat.bulk]⟩
      · simp at hcs; subst hcs
        simp at hmm
        subst hmm
        rw [cellsF] at hall
        rw [hx] at hB ⊢
        simp only [Rows.uptoBulk] at hB ⊢
        by_cases h0 : len = 0
        · subst h0
          exact ⟨some a', .nil, m, rfl, trivial, Nat.zero_le _, hm, .inl rfl, by simp [Dat.bulk]⟩
        · obtain ⟨b, off, spot⟩ := a'
          have key : spot = none ∧ b < w.heap.size := by
            obtain ⟨cs', hc, ht⟩ := hall 0 (by omega)
            obtain ⟨nm, li, tx, rv, m', x3, rfl, _, _⟩ := open_fld ht
            have h1 := (World.cells?_some hc).2.2 0 (by omega)
            have h2 := World.cells?_block hc (by omega)
            simp [Addr.add] at h1 h2
            exact ⟨by simpa using World.cell?_spot h1, h2⟩
          obtain ⟨rfl, hb⟩ := key
          have hel : ∀ i, i < len → ∃ nm li tx rows a c, w.cell? ⟨b, off + i * 4, none⟩ = some (.string nm) ∧ w.cell? ⟨b, off + i * 4 + 1, none⟩ = some (.bool li) ∧ w.cell? ⟨b, off + i * 4 + 2, none⟩ = some (.string tx) ∧
              w.cell? ⟨b, off + i * 4 + 3, none⟩ = some (.slice a rows.len c) ∧ rows.len ≤ c ∧ c ≤ maxLen ∧ DatV w w.heap.size a rows ∧ rows.ok true ∧ nm.size + tx.size + rows.bulk + 5 ≤ Rows.uptoBulk (D i) := by
            intro i hi
            obtain ⟨cs', hc, ht⟩ := hall i (by omega)
            obtain ⟨nm, li, tx, rv, m', x3, rfl, h3, hbk⟩ := open_fld ht
            have hcc := at_cellsN (World.cells?_some hc).2.2
            have hDi : Rows.uptoBulk (D i) ≤ Rows.uptoBulkAll ((List.range len).map D) := bulk_mem _ _ (List.mem_map.2 ⟨i, List.mem_range.2 hi, rfl⟩)
            simp only at hbk
            obtain ⟨a, d, c, rfl, h4, h5, h6, h7, h8⟩ := (ih m' rv x3 (by omega)).2 h3
            exact ⟨nm, li, tx, d, a, c, hcc 0 (by omega), hcc 1 (by omega), hcc 2 (by omega), hcc 3 (by omega), h5, h6, h7, h4, by omega⟩
          obtain ⟨d, e1, e2, e3, e4⟩ := build_flds hel len 0 (by omega)
          subst e1
          refine ⟨some ⟨b, off, none⟩, d, m, rfl, e2, hl, hm, .inr ⟨b, off, rfl, hb, by simpa using e3⟩, ?_⟩
          rw [List.range_eq_range']
          omega
    · intro h
      rcases open_slice Try.underlying48 h with ⟨hcs, hx⟩ | ⟨a', len, cap, m, n, D, Pl, hcs, _, hl, hm, hmm, hx, hall⟩
      · simp at hcs; subst hcs
        exact ⟨none, .nil, 0, rfl, trivial, Nat.zero_le _, Nat.zero_le _, .inl rfl, by rw [hx]; simp [Rows.uptoBulk, Dat.bulk]⟩
      · simp at hcs; subst hcs
        simp at hmm
        subst hmm
        rw [cellsR] at hall
        rw [hx] at hB ⊢
        simp only [Rows.uptoBulk] at hB ⊢
        by_cases h0 : len = 0
        · subst h0
          exact ⟨some a', .nil, m, rfl, trivial, Nat.zero_le _, hm, .inl rfl, by simp [Dat.bulk]⟩
        · obtain ⟨b, off, spot⟩ := a'
          have key : spot = none ∧ b < w.heap.size := by
            obtain ⟨cs', hc, ht⟩ := hall 0 (by omega)
            obtain ⟨fv, m', x3, rfl, _, _⟩ := open_rw ht
            have h1 := (World.cells?_some hc).2.2 0 (by omega)
            have h2 := World.cells?_block hc (by omega)
            simp [Addr.add] at h1 h2
            exact ⟨by simpa using World.cell?_spot h1, h2⟩
          obtain ⟨rfl, hb⟩ := key
          have hel : ∀ i, i < len → ∃ (f : Dat) (a : Option Addr) (c : Nat), w.cell? ⟨b, off + i, none⟩ = some (.slice a f.len c) ∧ f.len ≤ c ∧ c ≤ maxLen ∧ DatV w w.heap.size a f ∧ f.ok false ∧ f.bulk + 2 ≤ Rows.uptoBulk (D i) := by
            intro i hi
            obtain ⟨cs', hc, ht⟩ := hall i (by omega)
            obtain ⟨fv, m', x3, rfl, h3, hbk⟩ := open_rw ht
            have hcc := at_cellsN (World.cells?_some hc).2.2
            have hDi : Rows.uptoBulk (D i) ≤ Rows.uptoBulkAll ((List.range len).map D) := bulk_mem _ _ (List.mem_map.2 ⟨i, List.mem_range.2 hi, rfl⟩)
            simp only at hbk
            obtain ⟨a, d, c, rfl, h4, h5, h6, h7, h8⟩ := (ih m' fv x3 (by omega)).1 h3
            exact ⟨d, a, c, by simpa using hcc 0 (by omega), h5, h6, h7, h4, by omega⟩
          obtain ⟨d, e1, e2, e3, e4⟩ := build_rows hel len 0 (by omega)
          subst e1
          refine ⟨some ⟨b, off, none⟩, d, m, rfl, e2, hl, hm, .inr ⟨b, off, rfl, hb, by simpa using e3⟩, ?_⟩
          rw [List.range_eq_range']
          omega
end Go.Proofs.Ytffkejkgkgfnhaa
/-
  THE PLAIN MATHEMATICS OF WALKS: what walks come to, by sets of contexts. No Go.
-/
namespace Go.Proofs.Ytffkejkgkgfnhaa
set_option linter.unusedVariables false
abbrev Cs := Nat → Prop
abbrev En := Nat → Nat → Nat → Prop
/-- what a walk comes to: something wrong, a hole in a context, a call in a context -/
inductive Ev where
  | bad
  | use (a x : Nat)
  | call (t x : Nat)
def opS (x : Nat) : Bool := decide (x = 0 ∨ x = 15 ∨ x = 16 ∨ x = 17 ∨ x = 18 ∨ x = 19 ∨ x = 21)
def two (S : Cs) : Prop := ∃ x y, S x ∧ S y ∧ x ≠ y
def lfp (f : Cs → Cs) (S : Cs) : Cs := fun y => ∀ X : Cs, (∀ z, S z → X z) → (∀ z, f X z → X z) → X y
def tno (ts : List Tm) (nm : ByteArray) : Nat := (fndF nm ts 0).toNat
def bod (ts : List Tm) (t : Nat) : Nds := match ts[t]? with
  | some m => m.body
  | none => .nil
/-- behind a piece, but for its bodies -/
def psem (ts : List Tm) (E : En) (k : Int) (nm : ByteArray) (ft fe : Cs → Cs) (tw : Bool) (S : Cs) : Cs :=
  if k = 1 then fun y => ∃ x, S x ∧ scn x nm.data.toList = (y : Int)
  else if k = 2 then S
  else if k = 3 then fun y => ft S y ∨ (if tw = true then fe S y else S y)
  else if k = 4 then lfp ft S
  else fun y => ∃ x, S x ∧ E (tno ts nm) x y
def sem (ts : List Tm) (E : En) : Nds → Cs → Cs
  | .nil, S => S
  | .cons k a nm th el tw r, S => sem ts E r (psem ts E k nm (sem ts E th) (sem ts E el) tw S)
def pevt (ts : List Tm) (E : En) (k a : Int) (nm : ByteArray) (ft : Cs → Cs) (gt ge : Cs → Ev → Prop) (tw : Bool) (S : Cs) (e : Ev) : Prop :=
  if k = 1 then e = .bad ∧ ∃ x, S x ∧ scn x nm.data.toList = -1
  else if k = 2 then ∃ x, S x ∧ (if opS x = true then e = .use a.toNat x else e = .bad)
  else if k = 3 then gt S e ∨ (tw = true ∧ ge S e)
  else if k = 4 then gt (lfp ft S) e
  else ∃ x, S x ∧ e = .call (tno ts nm) x
def evt (ts : List Tm) (E : En) : Nds → Cs → Ev → Prop
  | .nil, S, e => e = .bad ∧ two S
  | .cons k a nm th el tw r, S, e => (e = .bad ∧ two S) ∨ pevt ts E k a nm (sem ts E th) (evt ts E th) (evt ts E el) tw S e ∨ evt ts E r (psem ts E k nm (sem ts E th) (sem ts E el) tw S) e
theorem lfp_in (f : Cs → Cs) (S : Cs) (y : Nat) (h : S y) : lfp f S y := fun X h1 _ => h1 y h
theorem lfp_mono {f g : Cs → Cs} {S T : Cs} (hf : ∀ X z, f X z → g X z) (h : ∀ z, S z → T z) (y : Nat) (k : lfp f S y) : lfp g T y :=
  fun X h1 h2 => k X (fun z hz => h1 z (h z hz)) (fun z hz => h2 z (hf X z hz))
theorem lfp_step (f : Cs → Cs) (S : Cs) (hm : ∀ X Y : Cs, (∀ z, X z → Y z) → ∀ z, f X z → f Y z) (y : Nat) (h : f (lfp f S) y) : lfp f S y :=
  fun X h1 h2 => h2 y (hm _ _ (fun z hz => hz X h1 h2) y h)
theorem psem_mono {ts : List Tm} {E F : En} {k : Int} {nm : ByteArray} {ft fe gt ge : Cs → Cs} {tw : Bool} {S T : Cs} (hE : ∀ t x y, E t x y → F t x y) (h1 : ∀ X Y : Cs, (∀ z, X z → Y z) → ∀ z, ft X z → gt Y z) (h2 : ∀ X Y : Cs, (∀ z, X z → Y z) → ∀ z, fe X z → ge Y z) (h : ∀ z, S z → T z) (y : Nat)
    (k' : psem ts E k nm ft fe tw S y) : psem ts F k nm gt ge tw T y := by
  unfold psem at *
  split at k'
  · rename_i e; rw [if_pos e]
    obtain ⟨x, a, b⟩ := k'
    exact ⟨x, h x a, b⟩
  · rename_i e1; rw [if_neg e1]
    split at k'
    · rename_i e; rw [if_pos e]; exact h y k'
    · rename_i e2; rw [if_neg e2]
      split at k'
      · rename_i e; rw [if_pos e]
        rcases k' with k' | k'
        · exact .inl (h1 _ _ h y k')
        · right
          split at k'
          · rename_i e; rw [if_pos e]; exact h2 _ _ h y k'
          · rename_i e; rw [if_neg e]; exact h y k'
      · rename_i e3; rw [if_neg e3]
        split at k'
        · rename_i e; rw [if_pos e]
          exact lfp_mono (fun X z => h1 X X (fun _ q => q) z) h y k'
        · rename_i e4; rw [if_neg e4]
          obtain ⟨x, a, b⟩ := k'
          exact ⟨x, h x a, hE _ _ _ b⟩
theorem sem_mono {ts : List Tm} {E F : En} (hE : ∀ t x y, E t x y → F t x y) (b : Nds) : ∀ (S T : Cs), (∀ z, S z → T z) → ∀ y, sem ts E b S y → sem ts F b T y := by
  induction b with
  | nil => intro S T h y k; exact h y k
  | cons k a nm th el tw r iht ihe ih => intro S T h y k; exact ih _ _ (fun z hz => psem_mono hE iht ihe h z hz) y k
theorem pevt_mono {ts : List Tm} {E F : En} {k a : Int} {nm : ByteArray} {ft ft' : Cs → Cs} {gt ge gt' ge' : Cs → Ev → Prop} {tw : Bool} {S T : Cs} {e : Ev} (h0 : ∀ X Y : Cs, (∀ z, X z → Y z) → ∀ z, ft X z → ft' Y z) (h1 : ∀ X Y : Cs, (∀ z, X z → Y z) → gt X e → gt' Y e) (h2 : ∀ X Y : Cs, (∀ z, X z → Y z) → ge X e → ge' Y e) (h : ∀ z, S z → T z)
    (k' : pevt ts E k a nm ft gt ge tw S e) : pevt ts F k a nm ft' gt' ge' tw T e := by
  unfold pevt at *
  split at k'
  · rename_i q; rw [if_pos q]
    obtain ⟨q1, x, a, b⟩ := k'
    exact ⟨q1, x, h x a, b⟩
  · rename_i e1; rw [if_neg e1]
    split at k'
    · rename_i q; rw [if_pos q]
      obtain ⟨x, a, b⟩ := k'
      exact ⟨x, h x a, b⟩
    · rename_i e2; rw [if_neg e2]
      split at k'
      · rename_i q; rw [if_pos q]
        rcases k' with k' | ⟨q1, k'⟩
        · exact .inl (h1 _ _ h k')
        · exact .inr ⟨q1, h2 _ _ h k'⟩
      · rename_i e3; rw [if_neg e3]
        split at k'
        · rename_i q; rw [if_pos q]
          exact h1 _ _ (fun z hz => lfp_mono (fun X z => h0 X X (fun _ q => q) z) h z hz) k'
        · rename_i e4; rw [if_neg e4]
          obtain ⟨x, a, b⟩ := k'
          exact ⟨x, h x a, b⟩
theorem two_mono {S T : Cs} (h : ∀ z, S z → T z) (k : two S) : two T := by
  obtain ⟨x, y, a, b, c⟩ := k
  exact ⟨x, y, h x a, h y b, c⟩
theorem evt_mono {ts : List Tm} {E F : En} (hE : ∀ t x y, E t x y → F t x y) (e : Ev) (b : Nds) : ∀ (S T : Cs), (∀ z, S z → T z) → evt ts E b S e → evt ts F b T e := by
  induction b with
  | nil => intro S T h k; exact ⟨k.1, two_mono h k.2⟩
  | cons k a nm th el tw r iht ihe ih =>
    intro S T h k
    rcases k with ⟨k1, k2⟩ | k | k
    · exact .inl ⟨k1, two_mono h k2⟩
    · exact .inr (.inl (pevt_mono (sem_mono hE th) iht ihe h k))
    · exact .inr (.inr (ih _ _ (fun z hz => psem_mono hE (sem_mono hE th) (sem_mono hE el) h z hz) k))
def one (x : Nat) : Cs := fun y => y = x
structure Closed (ts : List Tm) (t0 : Nat) (B : Nat → Nat → Prop) (E : En) : Prop where
  start : B t0 0
  ends : ∀ t x y, B t x → sem ts E (bod ts t) (one x) y → E t x y
  calls : ∀ t x t' x', B t x → evt ts E (bod ts t) (one x) (.call t' x') → B t' x'
def Bs (ts : List Tm) (t0 : Nat) (t x : Nat) : Prop := ∀ B E, Closed ts t0 B E → B t x
def Es (ts : List Tm) (t0 : Nat) : En := fun t x y => ∀ B E, Closed ts t0 B E → E t x y
theorem Es_le {ts : List Tm} {t0 : Nat} {B : Nat → Nat → Prop} {E : En} (h : Closed ts t0 B E) (t x y : Nat) (k : Es ts t0 t x y) : E t x y := k B E h
theorem true_closed (ts : List Tm) (t0 : Nat) : Closed ts t0 (Bs ts t0) (Es ts t0) where
  start := fun B E h => h.start
  ends := fun t x y hb hs B E h => h.ends t x y (hb B E h) (sem_mono (fun t x y k => Es_le h t x y k) _ _ _ (fun _ q => q) y hs)
  calls := fun t x t' x' hb hs B E h => h.calls t x t' x' (hb B E h) (evt_mono (fun t x y k => Es_le h t x y k) _ _ _ _ (fun _ q => q) hs)
/-- what the walks that are meant come to -/
def Evs (ts : List Tm) (t0 : Nat) (e : Ev) : Prop := ∃ t x, Bs ts t0 t x ∧ evt ts (Es ts t0) (bod ts t) (one x) e
def TBad (ts : List Tm) (t0 : Nat) : Prop := Evs ts t0 .bad ∨ ∃ y, y ≠ 0 ∧ Es ts t0 t0 0 y
/-- a closed pair that is sound is the truth -/
theorem truth_of {ts : List Tm} {t0 : Nat} {B : Nat → Nat → Prop} {E : En} (h : Closed ts t0 B E) (hB : ∀ t x, B t x → Bs ts t0 t x) (hE : ∀ t x y, B t x → E t x y → Es ts t0 t x y) (e : Ev) (he : Evs ts t0 e) : ∃ t x, B t x ∧ evt ts E (bod ts t) (one x) e := by
  obtain ⟨t, x, h1, h2⟩ := he
  exact ⟨t, x, h1 B E h, evt_mono (fun t x y k => Es_le h t x y k) _ _ _ _ (fun _ q => q) h2⟩
theorem sem_none (ts : List Tm) (E : En) (b : Nds) : ∀ (S : Cs), (∀ z, ¬ S z) → ∀ y, ¬ sem ts E b S y := by
  induction b with
  | nil => intro S h y k; exact h y k
  | cons k a nm th el tw r iht ihe ih =>
    intro S h y q
    refine ih _ (fun z hz => ?_) y q
    unfold psem at hz
    split at hz
    · obtain ⟨x, a, _⟩ := hz; exact h x a
    · split at hz
      · exact h z hz
      · split at hz
        · rcases hz with hz | hz
          · exact iht S h z hz
          · split at hz
            · exact ihe S h z hz
            · exact h z hz
        · split at hz
          · exact h z (hz S (fun _ q => q) (fun w hw => absurd hw (iht S h w)))
          · obtain ⟨x, a, _⟩ := hz; exact h x a
end Go.Proofs.Ytffkejkgkgfnhaa
