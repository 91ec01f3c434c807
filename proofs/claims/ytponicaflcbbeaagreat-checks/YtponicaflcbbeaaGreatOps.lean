import Derived.Test.YtponicaflcbbeaaGreatRows
import Derived.WalkKit
import Derived.ProofKit
import Derived.OpenShut
import Derived.ShutString
import Derived.ChangeOld
import Derived.Deep.Slices
namespace Go.Proofs.YtponicaflcbbeaaGreat
open Go.ChangeShapes Go.WideShapes Go.ChangeAt Go.RowKit Go.Deep
set_option linter.unusedVariables false
theorem five {α : Type} (l : List α) (h : l.length = 5) : ∃ a b c d e, l = [a, b, c, d, e] := by
  match l, h with
  | [a, b, c, d, e], _ => exact ⟨a, b, c, d, e, rfl⟩
theorem cells42 : Tryz.prog.cellsOf 33 = 5 := by kernel_rfl
theorem cells3 : Tryz.prog.cellsOf 3 = 1 := by kernel_rfl
theorem cells9 : Tryz.prog.cellsOf 9 = 1 := by kernel_rfl
theorem open_op {H : Type} {enc : TypeId × Value → H} {w : World} {base : Nat} {spare : Nat → Bool} {held : Bool} {fuel : Nat} {cs : List Value} {x : DataW H × List MemPlace}
    (h : DataW.trod enc Tryz.prog w base spare held fuel 33 cs = some x) :
    ∃ (k n : Int) (s t : ByteArray) (d : Value) (dd : DataW H), cs = [.int .i64 k, .int .i64 n, .string s, .string t, d] ∧ s.size ≤ maxLen ∧ t.size ≤ maxLen ∧
      x.1 = .agg [.lit (.int .i64 k), .lit (.int .i64 n), .lit (.string s.data.toList), .lit (.string t.data.toList), dd] := by
  obtain ⟨xs, m, _, rfl, hl, hlen, hf⟩ := DataW.trod_struct Tryz.underlying33 h
  rw [cells42] at hl
  obtain ⟨c0, c1, c2, c3, c4, rfl⟩ := five cs hl
  obtain ⟨x0, x1, x2, x3, x4, rfl⟩ := five xs hlen
  have f0 : DataW.trod enc Tryz.prog w base spare held m 3 (([c0, c1, c2, c3, c4].drop 0).take (Tryz.prog.cellsOf 3)) = some x0 := hf 0 _ rfl
  have f1 : DataW.trod enc Tryz.prog w base spare held m 3 (([c0, c1, c2, c3, c4].drop 1).take (Tryz.prog.cellsOf 3)) = some x1 := hf 1 _ rfl
  have f2 : DataW.trod enc Tryz.prog w base spare held m 9 (([c0, c1, c2, c3, c4].drop 2).take (Tryz.prog.cellsOf 9)) = some x2 := hf 2 _ rfl
  have f3 : DataW.trod enc Tryz.prog w base spare held m 9 (([c0, c1, c2, c3, c4].drop 3).take (Tryz.prog.cellsOf 9)) = some x3 := hf 3 _ rfl
  rw [cells3] at f0 f1
  rw [cells9] at f2 f3
  obtain ⟨k, e0, rfl, _⟩ := DataW.trod_int Tryz.underlying3 f0
  obtain ⟨n, e1, rfl, _⟩ := DataW.trod_int Tryz.underlying3 f1
  obtain ⟨s, e2, rfl, hs⟩ := DataW.trod_string Tryz.underlying9 f2
  obtain ⟨t, e3, rfl, ht⟩ := DataW.trod_string Tryz.underlying9 f3
  simp at e0 e1 e2 e3
  subst e0 e1 e2 e3
  exact ⟨k, n, s, t, c4, x4.1, rfl, hs, ht, rfl⟩
/-- WHAT THE WALK IS TOLD OF A SCRIPT: it is empty, or its steps lie in five cells each. -/
def IsOps (w : World) (a : Option Addr) (len : Nat) (Q : Int → ByteArray → ByteArray → Prop) : Prop :=
  len = 0 ∨ ∃ (b off : Nat) (Kd Nn : Nat → Int) (Ss Ts : Nat → ByteArray) (Ds : Nat → Value), a = some ⟨b, off, none⟩ ∧ b < w.heap.size ∧
    (∀ i, i < len → w.cell? ⟨b, off + i * 5, none⟩ = some (.int .i64 (Kd i))) ∧
    (∀ i, i < len → w.cell? ⟨b, off + i * 5 + 1, none⟩ = some (.int .i64 (Nn i))) ∧
    (∀ i, i < len → w.cell? ⟨b, off + i * 5 + 2, none⟩ = some (.string (Ss i))) ∧
    (∀ i, i < len → w.cell? ⟨b, off + i * 5 + 3, none⟩ = some (.string (Ts i))) ∧
    (∀ i, i < len → w.cell? ⟨b, off + i * 5 + 4, none⟩ = some (Ds i)) ∧ (∀ i, i < len → Q (Nn i) (Ss i) (Ts i))
theorem at_cells {w : World} {b off i : Nat} {cs : List Value} (h : ∀ j, j < 5 → w.cell? ((Addr.add ⟨b, off, none⟩ (i * 5)).add j) = cs[j]?) : ∀ j, j < 5 → w.cell? ⟨b, off + i * 5 + j, none⟩ = cs[j]? := by
  intro j hj
  rw [← h j hj, add_add]
  by_cases e : i * 5 + j = 0
  · have e1 : i * 5 = 0 := by omega
    have e2 : j = 0 := by omega
    simp [Addr.add, e1, e2]
  · rw [Addr.add, if_neg e, Nat.add_assoc]
theorem open_ops {H : Type} {enc : TypeId × Value → H} {w : World} {fuel len cap : Nat} {a : Option Addr} {x : DataW H × List MemPlace}
    (h : DataW.trod enc Tryz.prog w 0 (fun _ => true) true fuel 22 [.slice a len cap] = some x) :
    len ≤ maxLen ∧ IsOps w a len (fun n s t => s.size ≤ maxLen ∧ t.size ≤ maxLen ∧ ∃ (k : Int) (dd : DataW H) (elems spare : List (DataW H)), x.1 = .slice elems spare ∧ (.agg [.lit (.int .i64 k), .lit (.int .i64 n), .lit (.string s.data.toList), .lit (.string t.data.toList), dd]) ∈ elems) := by
  rcases open_slice Tryz.underlying22 h with ⟨hcs, _⟩ | ⟨a', len', cap', m, n, D, Pl, hcs, _, hl, hm, hmm, hx, hall⟩
  · simp at hcs
    obtain ⟨rfl, rfl, rfl⟩ := hcs
    exact ⟨by unfold maxLen; omega, .inl rfl⟩
  · simp at hcs
    obtain ⟨rfl, rfl, rfl⟩ := hcs
    refine ⟨by omega, ?_⟩
    by_cases h0 : len = 0
    · exact .inl h0
    right
    simp at hmm
    subst hmm
    rw [cells42] at hall
    have hop : ∀ i, i < len → ∃ q : Int × Int × ByteArray × ByteArray × Value, (∀ j, j < 5 → w.cell? ((a'.add (i * 5)).add j) = [Value.int .i64 q.1, .int .i64 q.2.1, .string q.2.2.1, .string q.2.2.2.1, q.2.2.2.2][j]?) ∧ q.2.2.1.size ≤ maxLen ∧ q.2.2.2.1.size ≤ maxLen ∧
        ∃ dd : DataW H, D i = .agg [.lit (.int .i64 q.1), .lit (.int .i64 q.2.1), .lit (.string q.2.2.1.data.toList), .lit (.string q.2.2.2.1.data.toList), dd] := by
      intro i hi
      obtain ⟨cs', hc, ht⟩ := hall i (by omega)
      obtain ⟨k, n, s, t, d, dd, rfl, hs, hts, hd⟩ := open_op ht
      exact ⟨(k, n, s, t, d), (World.cells?_some hc).2.2, hs, hts, dd, hd⟩
    obtain ⟨f, hf⟩ := choose_lt hop
    obtain ⟨b, off, spot⟩ := a'
    have hspot : spot = none := by
      have := (hf 0 (by omega)).1 0 (by omega)
      simp [Addr.add] at this
      simpa using World.cell?_spot this
    subst hspot
    have hb : b < w.heap.size := by
      have := (hall 0 (by omega))
      obtain ⟨cs', hc, _⟩ := this
      have := World.cells?_block hc (by omega)
      simpa [Addr.add] using this
    have hcc := fun i (hi : i < len) => at_cells (hf i hi).1
    refine ⟨b, off, fun i => (f i).1, fun i => (f i).2.1, fun i => (f i).2.2.1, fun i => (f i).2.2.2.1, fun i => (f i).2.2.2.2, rfl, hb, ?_, ?_, ?_, ?_, ?_, ?_⟩
    · intro i hi; exact hcc i hi 0 (by omega)
    · intro i hi; exact hcc i hi 1 (by omega)
    · intro i hi; exact hcc i hi 2 (by omega)
    · intro i hi; exact hcc i hi 3 (by omega)
    · intro i hi; exact hcc i hi 4 (by omega)
    · intro i hi
      obtain ⟨_, h1, h2, dd, hd⟩ := hf i hi
      refine ⟨h1, h2, (f i).1, dd, _, _, by rw [hx], ?_⟩
      rw [← hd]
      exact List.mem_map.2 ⟨i, List.mem_range.2 hi, rfl⟩
end Go.Proofs.YtponicaflcbbeaaGreat
