import Derived.Test.YtffkejkgkgfnhaaG08
import Derived.Test.YtffkejkgkgfnhaaG01
import Derived.Test.YtffkejkgkgfnhaaG09
import Derived.Test.YtffkejkgkgfnhaaG02
import Derived.Deep.RegionLaw
import Derived.JoinedCond
import Derived.Test.YtffkejkgkgfnhaaG06
namespace Go.Proofs.Ytffkejkgkgfnhaa
open Go.RowKit
set_option linter.unusedVariables false
def EnvOK (w : World) (N : Nat) : List Dat → List Value → Prop
  | [], xs => xs = []
  | d :: R, xs => ∃ (a : Option Addr) (c : Nat) (ys : List Value), xs = .slice a d.len c :: ys ∧ DatV w N a d ∧ d.ok false ∧ d.bulk ≤ 1048576 ∧ d.len ≤ c ∧ c ≤ maxLen ∧ EnvOK w N R ys
theorem EnvOK.mono {w w' : World} {N : Nat} (hw : ∀ k, k < N → w'.heap[k]? = w.heap[k]?) : ∀ (R : List Dat) (xs : List Value), EnvOK w N R xs → EnvOK w' N R xs
  | [], xs, h => h
  | d :: R, xs, h => by
    obtain ⟨a, c, ys, h1, h2, h3, h4, h5, h6, h7⟩ := h
    exact ⟨a, c, ys, h1, h2.mono (Nat.le_refl _) hw, h3, h4, h5, h6, EnvOK.mono hw R ys h7⟩
theorem EnvOK.snoc {w : World} {N : Nat} {d : Dat} {a : Option Addr} {c : Nat} (h1 : DatV w N a d) (h2 : d.ok false) (h3 : d.bulk ≤ 1048576) (h4 : d.len ≤ c) (h5 : c ≤ maxLen) : ∀ (R : List Dat) (xs : List Value), EnvOK w N R xs → EnvOK w N (R ++ [d]) (xs ++ [.slice a d.len c])
  | [], xs, h => by
    have h' : xs = [] := h
    subst h'
    exact ⟨a, c, [], rfl, h1, h2, h3, h4, h5, rfl⟩
  | e :: R, xs, h => by
    obtain ⟨a', c', ys, rfl, k2, k3, k4, k5, k6, k7⟩ := h
    exact ⟨a', c', ys ++ [.slice a d.len c], rfl, k2, k3, k4, k5, k6, EnvOK.snoc h1 h2 h3 h4 h5 R ys k7⟩
theorem EnvOK.length {w : World} {N : Nat} : ∀ (R : List Dat) (xs : List Value), EnvOK w N R xs → xs.length = R.length
  | [], xs, h => by
    have h' : xs = [] := h
    subst h'; rfl
  | d :: R, xs, h => by
    obtain ⟨a, c, ys, rfl, _, _, _, _, _, h7⟩ := h
    simp [EnvOK.length R ys h7]
theorem EnvOK.at {w : World} {N : Nat} : ∀ (R : List Dat) (xs : List Value) (i : Nat) (hi : i < R.length), EnvOK w N R xs → ∃ a c, xs[i]? = some (.slice a R[i].len c) ∧ DatV w N a R[i] ∧ R[i].ok false ∧ R[i].bulk ≤ 1048576 ∧ R[i].len ≤ c ∧ c ≤ maxLen
  | [], xs, i, hi, h => absurd hi (by simp)
  | d :: R, xs, 0, hi, h => by
    obtain ⟨a, c, ys, rfl, h2, h3, h4, h5, h6, h7⟩ := h
    exact ⟨a, c, rfl, h2, h3, h4, h5, h6⟩
  | d :: R, xs, i + 1, hi, h => by
    obtain ⟨a, c, ys, rfl, h2, h3, h4, h5, h6, h7⟩ := h
    exact EnvOK.at R ys i (by simpa using hi) h7
structure PgP where
  (pb N : Nat)
  la : Option Addr
  lc : Nat
  ts : List Tm
  tr : Bool
structure PgOK (w : World) (p : PgP) (ra : Option Addr) (rc : Nat) (R : List Dat) (st : Pst) : Prop where
  c0 : w.cell? ⟨p.pb, 0, none⟩ = some (.slice p.la p.ts.length p.lc)
  c1 : w.cell? ⟨p.pb, 1, none⟩ = some (.bool p.tr)
  c2 : w.cell? ⟨p.pb, 2, none⟩ = some (.slice ra R.length rc)
  c3 : w.cell? ⟨p.pb, 3, none⟩ = some (.string st.out)
  c4 : w.cell? ⟨p.pb, 4, none⟩ = some (.int .i64 st.steps)
  c5 : w.cell? ⟨p.pb, 5, none⟩ = some (.int .i64 st.err)
  f2 : w.frozen? ⟨p.pb, 2, none⟩ = false
  f3 : w.frozen? ⟨p.pb, 3, none⟩ = false
  f4 : w.frozen? ⟨p.pb, 4, none⟩ = false
  f5 : w.frozen? ⟨p.pb, 5, none⟩ = false
  own : ∃ xs, w.ownsRow (p.pb + 1) 33 1 (.slice ra R.length rc) R.length xs ∧ EnvOK w p.N R xs
  lt : p.pb < w.heap.size
  le : p.N ≤ p.pb
  fit : Fit st
/-- what a call on the page may change: the page, the rows' list -/
structure ChP (pb : Nat) (rv rv' : Value) (w w' : World) : Prop where
  os : w'.os = w.os
  tape : w'.tape = w.tape
  output : w'.output = w.output
  size : w.heap.size ≤ w'.heap.size
  block : ∀ k, k < w.heap.size → k ≠ pb → rv.ownBlock ≠ some k → w'.heap[k]? = w.heap[k]?
  own : ∀ g, rv'.ownBlock = some g → rv.ownBlock = some g ∨ w.heap.size ≤ g
theorem ChP.refl (pb : Nat) (rv : Value) (w : World) : ChP pb rv rv w w := ⟨rfl, rfl, rfl, Nat.le_refl _, fun _ _ _ _ => rfl, fun g h => .inl h⟩
theorem ChP.trans {pb : Nat} {r1 r2 r3 : Value} {a b c : World} (h : ChP pb r1 r2 a b) (k : ChP pb r2 r3 b c) : ChP pb r1 r3 a c := by
  refine ⟨k.os.trans h.os, k.tape.trans h.tape, k.output.trans h.output, Nat.le_trans h.size k.size, fun i h1 h2 h3 => ?_, fun g hg => ?_⟩
  · refine (k.block i (Nat.lt_of_lt_of_le h1 h.size) h2 ?_).trans (h.block i h1 h2 h3)
    intro e
    rcases h.own i e with e' | e'
    · exact h3 e'
    · omega
  · rcases k.own g hg with e | e
    · exact h.own g e
    · exact .inr (Nat.le_trans h.size e)
theorem ChP.of_below {pb : Nat} {rv : Value} {w w' : World} (h : Below w.heap.size w w') : ChP pb rv rv w w' := ⟨h.os, h.tape, h.output, h.size, fun k h1 _ _ => h.block k h1, fun g hg => .inl hg⟩
theorem ChP.alloc {pb : Nat} {r1 r2 : Value} {w w' : World} (h : ChP pb r1 r2 w w') (o : Obj) : ChP pb r1 r2 w (w'.alloc o) := h.trans (ChP.of_below ((Below.refl _ _).alloc (Nat.le_refl _) _))
theorem ChP.set {pb : Nat} {r1 r2 : Value} {w w' : World} (h : ChP pb r1 r2 w w') (j : Nat) (v : Value) : ChP pb r1 r2 w (w'.setCell ⟨pb, j, none⟩ v) :=
  h.trans ⟨rfl, rfl, rfl, by simp, fun k h1 h2 h3 => set_far w' pb j v k h2, fun g hg => .inl hg⟩
theorem PgOK.own_lt {w : World} {p : PgP} {ra : Option Addr} {rc : Nat} {R : List Dat} {st : Pst} (h : PgOK w p ra rc R st) : ∀ g, (Value.slice ra R.length rc).ownBlock = some g → p.pb + 1 ≤ g ∧ g < w.heap.size := by
  obtain ⟨xs, h1, _⟩ := h.own
  intro g hg
  exact h1.lt g hg
/-- the page's own blocks are as they were -/
theorem PgOK.far {w w' : World} {p : PgP} {ra : Option Addr} {rc : Nat} {R : List Dat} {st : Pst} (h : PgOK w p ra rc R st) (hs : w.heap.size ≤ w'.heap.size) (hb : ∀ k, k ≤ p.pb ∨ (Value.slice ra R.length rc).ownBlock = some k → w'.heap[k]? = w.heap[k]?) : PgOK w' p ra rc R st := by
  have e0 := hb p.pb (.inl (Nat.le_refl _))
  obtain ⟨c0, c1, c2, c3, c4, c5, f2, f3, f4, f5, ⟨xs, o1, o2⟩, lt, le, fit⟩ := h
  exact ⟨(World.cell?_of_block e0).trans c0, (World.cell?_of_block e0).trans c1, (World.cell?_of_block e0).trans c2, (World.cell?_of_block e0).trans c3, (World.cell?_of_block e0).trans c4, (World.cell?_of_block e0).trans c5,
    (World.frozen?_of_block e0).trans f2, (World.frozen?_of_block e0).trans f3, (World.frozen?_of_block e0).trans f4, (World.frozen?_of_block e0).trans f5,
    ⟨xs, own_keep o1 (fun g hg => hb g (.inr hg)), EnvOK.mono (fun k hk => hb k (.inl (by omega))) R xs o2⟩, by omega, le, fit⟩
theorem PgOK.below {w w' : World} {p : PgP} {ra : Option Addr} {rc : Nat} {R : List Dat} {st : Pst} (h : PgOK w p ra rc R st) (hb : Below w.heap.size w w') : PgOK w' p ra rc R st := by
  have hl := h.own_lt
  have hp := h.lt
  refine h.far hb.size (fun k hk => hb.block k ?_)
  rcases hk with hk | hk
  · omega
  · exact (hl k hk).2
theorem PgOK.alloc {w : World} {p : PgP} {ra : Option Addr} {rc : Nat} {R : List Dat} {st : Pst} (h : PgOK w p ra rc R st) (o : Obj) : PgOK (w.alloc o) p ra rc R st := h.below ((Below.refl _ _).alloc (Nat.le_refl _) _)
theorem PgOK.set {w : World} {p : PgP} {ra : Option Addr} {rc : Nat} {R : List Dat} {st : Pst} (h : PgOK w p ra rc R st) (st' : Pst) (j : Nat) (v : Value) (hj : (j = 3 ∧ v = .string st'.out ∧ st'.steps = st.steps ∧ st'.err = st.err) ∨ (j = 4 ∧ v = .int .i64 st'.steps ∧ st'.out = st.out ∧ st'.err = st.err) ∨ (j = 5 ∧ v = .int .i64 st'.err ∧ st'.out = st.out ∧ st'.steps = st.steps)) (hf : Fit st') :
    PgOK (w.setCell ⟨p.pb, j, none⟩ v) p ra rc R st' := by
  have hl := h.own_lt
  obtain ⟨c0, c1, c2, c3, c4, c5, f2, f3, f4, f5, ⟨xs, o1, o2⟩, lt, le, fit⟩ := h
  have oth : ∀ i, j ≠ i → (w.setCell ⟨p.pb, j, none⟩ v).cell? ⟨p.pb, i, none⟩ = w.cell? ⟨p.pb, i, none⟩ := fun i hi => cellO w _ _ _ _ hi
  have own' : ∃ xs, (w.setCell ⟨p.pb, j, none⟩ v).ownsRow (p.pb + 1) 33 1 (.slice ra R.length rc) R.length xs ∧ EnvOK (w.setCell ⟨p.pb, j, none⟩ v) p.N R xs :=
    ⟨xs, own_keep o1 (fun g hg => set_far w _ _ _ g (by have := (hl g hg).1; omega)), EnvOK.mono (fun k hk => set_far w _ _ _ k (by omega)) R xs o2⟩
  rcases hj with ⟨rfl, rfl, e1, e2⟩ | ⟨rfl, rfl, e1, e2⟩ | ⟨rfl, rfl, e1, e2⟩
  · exact ⟨(oth 0 (by decide)).trans c0, (oth 1 (by decide)).trans c1, (oth 2 (by decide)).trans c2, cellS _ c3, (oth 4 (by decide)).trans (by rw [e1]; exact c4), (oth 5 (by decide)).trans (by rw [e2]; exact c5), by simpa using f2, by simpa using f3, by simpa using f4, by simpa using f5, own', by simpa using lt, le, hf⟩
  · exact ⟨(oth 0 (by decide)).trans c0, (oth 1 (by decide)).trans c1, (oth 2 (by decide)).trans c2, (oth 3 (by decide)).trans (by rw [e1]; exact c3), cellS _ c4, (oth 5 (by decide)).trans (by rw [e2]; exact c5), by simpa using f2, by simpa using f3, by simpa using f4, by simpa using f5, own', by simpa using lt, le, hf⟩
  · exact ⟨(oth 0 (by decide)).trans c0, (oth 1 (by decide)).trans c1, (oth 2 (by decide)).trans c2, (oth 3 (by decide)).trans (by rw [e1]; exact c3), (oth 4 (by decide)).trans (by rw [e2]; exact c4), cellS _ c5, by simpa using f2, by simpa using f3, by simpa using f4, by simpa using f5, own', by simpa using lt, le, hf⟩
theorem PgOK.rowAt {w : World} {p : PgP} {ra : Option Addr} {rc : Nat} {R : List Dat} {st : Pst} (h : PgOK w p ra rc R st) (i : Nat) (hi : i < R.length) : ∃ g, ra = some ⟨g, 0, none⟩ ∧ ∃ a c, w.cell? ⟨g, i, none⟩ = some (.slice a R[i].len c) ∧ DatV w p.N a R[i] ∧ R[i].ok false ∧ R[i].bulk ≤ 1048576 ∧ R[i].len ≤ c ∧ c ≤ maxLen := by
  obtain ⟨xs, o1, o2⟩ := h.own
  obtain ⟨a, c, k1, k2⟩ := EnvOK.at R xs i hi o2
  rcases o1.2 with ⟨_, h0⟩ | ⟨g, cap, cur, hv, hb, hg, hn, hm, hs, ht⟩
  · omega
  · simp at hv
    refine ⟨g, hv.1, a, c, ?_, k2⟩
    rw [cell_of_heap hg, ← k1, ← ht, List.getElem?_take_of_lt (by omega)]
    simp
end Go.Proofs.Ytffkejkgkgfnhaa
namespace Go.Proofs.Ytffkejkgkgfnhaa
open Go.RowKit
set_option linter.unusedVariables false
theorem Dat.fnd_at (nm : ByteArray) {d : Dat} {i : Nat} {n t : ByteArray} {l : Bool} {rows : Dat} (e : d.drop i = .fld n l t rows (d.drop (i + 1))) : (d.drop i).fnd nm = if nmEq n nm = true then some (n, l, t, rows) else (d.drop (i + 1)).fnd nm := by
  rw [e]; rfl
theorem lkp_at (nm : ByteArray) (R : List Dat) (i : Nat) (hi : i < R.length) : lkp nm (R.take (i + 1)) = match R[i].fnd nm with | some x => some x | none => lkp nm (R.take i) := by
  unfold lkp
  rw [List.take_succ_eq_append_getElem hi, List.reverse_append]
  simp only [List.reverse_cons, List.reverse_nil, List.nil_append, List.cons_append, List.findSome?_cons]
  cases R[i].fnd nm <;> rfl
end Go.Proofs.Ytffkejkgkgfnhaa
namespace Go.Proofs.Ytffkejkgkgfnhaa
open Go.RowKit
set_option linter.unusedVariables false
structure TmE (w : World) (p : PgP) : Prop where
  tm : SlcX w (fun k => k < p.N) 72 3 (.slice p.la p.ts.length p.lc) p.ts.length (RowT w (fun k => k < p.N) p.ts)
  six : p.ts.length ≤ 6
  wf : ∀ i (hi : i < p.ts.length), WfN p.ts p.ts[i].body ∧ p.ts[i].body.sz ≤ 1000
theorem TmE.mono {w w' : World} {p : PgP} (h : TmE w p) (hw : ∀ k, k < p.N → w'.heap[k]? = w.heap[k]?) : TmE w' p :=
  ⟨SlcX.mono h.tm hw (fun _ q => q) (fun xs => RowT.mono hw (fun _ q => q) p.ts xs), h.six, h.wf⟩
theorem ChP.low {w w' : World} {p : PgP} {ra : Option Addr} {rc : Nat} {R : List Dat} {st : Pst} {rv' : Value} (h : ChP p.pb (.slice ra R.length rc) rv' w w') (hP : PgOK w p ra rc R st) : ∀ k, k < p.N → w'.heap[k]? = w.heap[k]? := by
  intro k hk
  have h1 := hP.le
  have h2 := hP.lt
  refine h.block k (by omega) (by omega) (fun e => ?_)
  have := (hP.own_lt k e).1
  omega
def lpsF (B : Nds → List Dat → Pst → Pst) (th : Nds) (R : List Dat) (l : Bool) (rows : Dat) (st : Pst) : Pst := if l = true then lopF B th R rows st else { st with err := 8 }
theorem lopF_at {B : Nds → List Dat → Pst → Pst} {th : Nds} {R : List Dat} {d f : Dat} {i : Nat} (e : d.drop i = .row f (d.drop (i + 1))) (st : Pst) : lopF B th R (d.drop i) st = if st.err ≠ 0 then st else if 500 ≤ st.steps then { st with err := 12 } else lopF B th R (d.drop (i + 1)) (B th (R ++ [f]) { st with steps := st.steps + 1 }) := by
  rw [e]; rfl
theorem infoRow : (Try.prog.info? 33).map (fun i => (i.zero, i.size, i.bytes)) = some (some (.agg #[.slice none 0 0]), 1, 24) := by kernel_rfl
theorem row_cells (w : World) (a : Option Addr) (n c : Nat) : ∀ (j : Nat) (u : Value), [Value.slice a n c][j]? = some u → (w.alloc (.cells #[.slice a n c] 33)).cell? ((⟨w.heap.size, 0, none⟩ : Addr).add j) = some u := by
  intro j u hj
  match j, hj with
  | 0, hj => simp at hj; subst hj; simp [Addr.add]
  | j + 1, hj => simp at hj
theorem row_one (a : Option Addr) (n c : Nat) : ∀ u ∈ [Value.slice a n c], u.oneCell' = true := by
  intro u hu; simp at hu; subst hu; rfl
theorem EnvOK.front {w : World} {N : Nat} {f : Dat} : ∀ (R : List Dat) (xs : List Value), EnvOK w N (R ++ [f]) xs → EnvOK w N R (xs.take R.length)
  | [], xs, h => by simp [EnvOK]
  | d :: R, xs, h => by
    obtain ⟨a, c, ys, rfl, h2, h3, h4, h5, h6, h7⟩ := h
    exact ⟨a, c, ys.take R.length, by simp, h2, h3, h4, h5, h6, EnvOK.front R ys h7⟩
end Go.Proofs.Ytffkejkgkgfnhaa
/-
  A SOURCE HAS ONE READING. No Go.
-/
namespace Go.Proofs.Ytffkejkgkgfnhaa
open Go.RowKit
set_option linter.unusedVariables false
def trm (k : Int) : Prop := k = 2 ∨ k = 5 ∨ k = 7
theorem text_no (s : ByteArray) (p : Nat) (h : p < skp s txB p) : (act s p).kind = 0 := by
  refine act_no s p (fun hh => ?_)
  rw [skp_stop s txB p hh.1 (by rw [hh.2]; decide)] at h
  omega
theorem Flat.one_way {s : ByteArray} {d p e : Nat} {a : Nds} {A : List Ak} (h : Flat s d a p A e) : ∀ {a' : Nds} {A' : List Ak} {e' : Nat}, trm (act s e).kind → trm (act s e').kind → Flat s d a' p A' e' → a = a' ∧ A = A' ∧ e = e' := by
  induction h with
  | nil d p =>
    intro a' A' e' ht ht' h'
    cases h' with
    | nil => exact ⟨rfl, rfl, rfl⟩
    | text h k => have := text_no s p h; unfold trm at ht; omega
    | hole h k => unfold trm at ht; omega
    | call h k => unfold trm at ht; omega
    | loop hd h k1 h1 k => unfold trm at ht; omega
    | one hd h k1 h1 k => unfold trm at ht; omega
    | two hd h k1 h1 k2 h2 k => unfold trm at ht; omega
  | text h k ih =>
    intro a' A' e' ht ht' h'
    have h0 := text_no s _ h
    cases h' with
    | nil => unfold trm at ht'; omega
    | text h2 k2 => obtain ⟨e1, e2, e3⟩ := ih ht ht' k2; subst e1; subst e2; subst e3; exact ⟨rfl, rfl, rfl⟩
    | hole h k => omega
    | call h k => omega
    | loop hd h k1 h1 k => omega
    | one hd h k1 h1 k => omega
    | two hd h k1 h1 k2 h2 k => omega
  | hole h k ih =>
    intro a' A' e' ht ht' h'
    cases h' with
    | nil => unfold trm at ht'; omega
    | text h2 k2 => have := text_no s _ h2; omega
    | hole h2 k2 => obtain ⟨e1, e2, e3⟩ := ih ht ht' k2; subst e1; subst e2; subst e3; exact ⟨rfl, rfl, rfl⟩
    | call h k => omega
    | loop hd h k1 h1 k => omega
    | one hd h k1 h1 k => omega
    | two hd h k1 h1 k2 h2 k => omega
  | call h k ih =>
    intro a' A' e' ht ht' h'
    cases h' with
    | nil => unfold trm at ht'; omega
    | text h2 k2 => have := text_no s _ h2; omega
    | hole h2 k2 => omega
    | call h2 k2 => obtain ⟨e1, e2, e3⟩ := ih ht ht' k2; subst e1; subst e2; subst e3; exact ⟨rfl, rfl, rfl⟩
    | loop hd h k1 h1 k => omega
    | one hd h k1 h1 k => omega
    | two hd h k1 h1 k2 h2 k => omega
  | loop hd h k1 h1 k ih1 ih =>
    intro a' A' e' ht ht' h'
    cases h' with
    | nil => unfold trm at ht'; omega
    | text h2 k2 => have := text_no s _ h2; omega
    | hole h2 k2 => omega
    | call h2 k2 => omega
    | loop hd' h' k1' h1' k' =>
      obtain ⟨e1, e2, e3⟩ := ih1 (.inr (.inr h1)) (.inr (.inr h1')) k1'
      subst e1; subst e2; subst e3
      obtain ⟨e1, e2, e3⟩ := ih ht ht' k'
      subst e1; subst e2; subst e3; exact ⟨rfl, rfl, rfl⟩
    | one hd h k1 h1 k => omega
    | two hd h k1 h1 k2 h2 k => omega
  | one hd h k1 h1 k ih1 ih =>
    intro a' A' e' ht ht' h'
    cases h' with
    | nil => unfold trm at ht'; omega
    | text h2 k2 => have := text_no s _ h2; omega
    | hole h2 k2 => omega
    | call h2 k2 => omega
    | loop hd h k1 h1 k => omega
    | one hd' h' k1' h1' k' =>
      obtain ⟨e1, e2, e3⟩ := ih1 (.inr (.inr h1)) (.inr (.inr h1')) k1'
      subst e1; subst e2; subst e3
      obtain ⟨e1, e2, e3⟩ := ih ht ht' k'
      subst e1; subst e2; subst e3; exact ⟨rfl, rfl, rfl⟩
    | two hd' h' k1' h1' k2' h2' k' =>
      obtain ⟨e1, e2, e3⟩ := ih1 (.inr (.inr h1)) (.inr (.inl h1')) k1'
      subst e3
      omega
  | two hd h k1 h1 k2 h2 k ih1 ih2 ih =>
    intro a' A' e' ht ht' h'
    cases h' with
    | nil => unfold trm at ht'; omega
    | text h2 k2 => have := text_no s _ h2; omega
    | hole h2 k2 => omega
    | call h2 k2 => omega
    | loop hd h k1 h1 k => omega
    | one hd' h' k1' h1' k' =>
      obtain ⟨e1, e2, e3⟩ := ih1 (.inr (.inl h1)) (.inr (.inr h1')) k1'
      subst e3
      omega
    | two hd' h' k1' h1' k2' h2' k' =>
      obtain ⟨e1, e2, e3⟩ := ih1 (.inr (.inl h1)) (.inr (.inl h1')) k1'
      subst e1; subst e2; subst e3
      obtain ⟨e1, e2, e3⟩ := ih2 (.inr (.inr h2)) (.inr (.inr h2')) k2'
      subst e1; subst e2; subst e3
      obtain ⟨e1, e2, e3⟩ := ih ht ht' k'
      subst e1; subst e2; subst e3; exact ⟨rfl, rfl, rfl⟩
theorem TFlat.same {s : ByteArray} {ts : List Tm} {A : List Ak} {p : Nat} (h : TFlat s ts A p) : ∀ {ts' : List Tm} {A' : List Ak} {p' : Nat}, TFlat s ts' A' p' → ts.length = ts'.length → ts = ts' ∧ A = A' ∧ p = p' := by
  induction h with
  | nil =>
    intro ts' A' p' h' hl
    cases h' with
    | nil => exact ⟨rfl, rfl, rfl⟩
    | snoc h hl' hk hb he => simp at hl
  | snoc h hl hk hb he ih =>
    intro ts' A' p' h' hl'
    cases h' with
    | nil => simp at hl'
    | snoc h2 hl2 hk2 hb2 he2 =>
      obtain ⟨e1, e2, e3⟩ := ih h2 (by simpa using hl')
      subst e1; subst e2; subst e3
      obtain ⟨e1, e2, e3⟩ := hb.one_way (.inl he) (.inl he2) hb2
      subst e1; subst e2; subst e3
      exact ⟨rfl, rfl, rfl⟩
theorem TFlat.front {s : ByteArray} {ts : List Tm} {A : List Ak} {p : Nat} (h : TFlat s ts A p) : ∀ n, n < ts.length → ∃ us B q, TFlat s us B q ∧ us.length = n ∧ (act s q).kind = 1 := by
  induction h with
  | nil => intro n hn; simp at hn
  | @snoc ts A B p e b h hl hk hb he ih =>
    intro n hn
    by_cases hlt : n < ts.length
    · exact ih n hlt
    · exact ⟨ts, A, p, h, by simp at hn; omega, hk⟩
theorem TFlat.one_way {s : ByteArray} {ts ts' : List Tm} {A A' : List Ak} (h : TFlat s ts A s.size) (h' : TFlat s ts' A' s.size) : ts = ts' ∧ A = A' := by
  rcases Nat.lt_trichotomy ts.length ts'.length with hl | hl | hl
  · obtain ⟨us, B, q, k1, k2, k3⟩ := h'.front ts.length hl
    obtain ⟨_, _, e⟩ := h.same k1 k2.symm
    have := act_next s q (by omega)
    omega
  · obtain ⟨e1, e2, _⟩ := h.same h' hl
    exact ⟨e1, e2⟩
  · obtain ⟨us, B, q, k1, k2, k3⟩ := h.front ts'.length hl
    obtain ⟨_, _, e⟩ := h'.same k1 k2.symm
    have := act_next s q (by omega)
    omega
end Go.Proofs.Ytffkejkgkgfnhaa
namespace Go.Proofs.Ytffkejkgkgfnhaa
open Go.RowKit
set_option linter.unusedVariables false
/-- how a page ends -/
def endS (tr : Bool) (st : Pst) (out : ByteArray) (x : Int) : Prop :=
  (st.err ≠ 0 ∧ x = st.err ∧ out = ⟨#[]⟩) ∨ (st.err = 0 ∧ tr = true ∧ ctxO st.out ≠ 0 ∧ x = 11 ∧ out = ⟨#[]⟩) ∨ (st.err = 0 ∧ (tr = true → ctxO st.out = 0) ∧ x = 0 ∧ out = st.out)
def pst0 : Pst := ⟨⟨#[]⟩, 0, 0⟩
def pagR (ts : List Tm) (nm : ByteArray) (tr : Bool) (d : Dat) : Pst := pagF ts tr 500 (bod ts (tno ts nm)) [d] pst0
/-- what Render answers for templates -/
def RSpec (ts : List Tm) (nm : ByteArray) (way : Int) (d : Dat) (out : ByteArray) (x : Int) : Prop :=
  (way ≠ 0 ∧ way ≠ 1 ∧ x = 5 ∧ out = ⟨#[]⟩) ∨ ((way = 0 ∨ way = 1) ∧ fndF nm ts 0 < 0 ∧ x = 4 ∧ out = ⟨#[]⟩) ∨
  (0 ≤ fndF nm ts 0 ∧ way = 1 ∧ TBad ts (tno ts nm) ∧ x = 6 ∧ out = ⟨#[]⟩) ∨ (0 ≤ fndF nm ts 0 ∧ (way = 0 ∨ (way = 1 ∧ ¬ TBad ts (tno ts nm))) ∧ endS (decide (way = 0)) (pagR ts nm (decide (way = 0)) d) out x)
def RenS (s nm : ByteArray) (way : Int) (d : Dat) (out : ByteArray) (x : Int) : Prop :=
  (∃ y, ChkS s x y ∧ x ≠ 0 ∧ out = ⟨#[]⟩) ∨ (∃ ts A, TFlat s ts A s.size ∧ s.size ≤ 400 ∧ Ends s init (.fin A) ∧ twA [] A = -1 ∧ unA (seenB (names A)) A < 0 ∧ RSpec ts nm way d out x)
theorem endS_unique {tr : Bool} {st : Pst} {o o' : ByteArray} {x x' : Int} (h : endS tr st o x) (k : endS tr st o' x') : o = o' ∧ x = x' := by
  rcases h with ⟨h1, rfl, rfl⟩ | ⟨h1, h2, h3, rfl, rfl⟩ | ⟨h1, h2, rfl, rfl⟩ <;> rcases k with ⟨k1, rfl, rfl⟩ | ⟨k1, k2, k3, rfl, rfl⟩ | ⟨k1, k2, rfl, rfl⟩
  · exact ⟨rfl, rfl⟩
  · exact absurd k1 h1
  · exact absurd k1 h1
  · exact absurd h1 k1
  · exact ⟨rfl, rfl⟩
  · exact absurd (k2 h2) h3
  · exact absurd h1 k1
  · exact absurd (h2 k2) k3
  · exact ⟨rfl, rfl⟩
theorem rspec_unique {ts : List Tm} {nm : ByteArray} {way : Int} {d : Dat} {o o' : ByteArray} {x x' : Int} (h : RSpec ts nm way d o x) (k : RSpec ts nm way d o' x') : o = o' ∧ x = x' := by
  rcases h with ⟨h1, h2, rfl, rfl⟩ | ⟨h1, h2, rfl, rfl⟩ | ⟨h1, h2, h3, rfl, rfl⟩ | ⟨h1, h2, h3⟩ <;> rcases k with ⟨k1, k2, rfl, rfl⟩ | ⟨k1, k2, rfl, rfl⟩ | ⟨k1, k2, k3, rfl, rfl⟩ | ⟨k1, k2, k3⟩
  all_goals first
    | exact ⟨rfl, rfl⟩
    | exact endS_unique h3 k3
    | omega
    | (exfalso; rcases k2 with q | ⟨_, q⟩ <;> first | exact q h3 | omega)
    | (exfalso; rcases h2 with q | ⟨_, q⟩ <;> first | exact q k3 | omega)
theorem renS_unique {s nm : ByteArray} {way : Int} {d : Dat} {o o' : ByteArray} {x x' : Int} (h : RenS s nm way d o x) (k : RenS s nm way d o' x') : o = o' ∧ x = x' := by
  rcases h with ⟨z, h1, h2, h3⟩ | ⟨ts, A, h0, h1, h2, h3, h4, h5⟩ <;> rcases k with ⟨z', k1, k2, k3⟩ | ⟨ts', A', k0, k1, k2, k3, k4, k5⟩
  · exact ⟨by rw [h3, k3], (chkS_unique h1 k1).1⟩
  · exact absurd (chkS_unique h1 (.inr ⟨k1, .inr ⟨A', k2, .inr (.inr ⟨k3, k4, rfl, rfl⟩)⟩⟩)).1 h2
  · exact absurd (chkS_unique k1 (.inr ⟨h1, .inr ⟨A, h2, .inr (.inr ⟨h3, h4, rfl, rfl⟩)⟩⟩)).1 k2
  · obtain ⟨rfl, rfl⟩ := h0.one_way k0
    exact rspec_unique h5 k5
def RenPost (s nm : ByteArray) (way : Int) (d : Dat) (e : Ending) : Prop := ∃ out x, e = .returned (.tuple #[.string out, .int .i64 x]) ∧ RenS s nm way d out x
theorem ren_err {s nm : ByteArray} {way : Int} {d : Dat} {x : Int} (h : ∃ y, ChkS s x y ∧ x ≠ 0) : RenPost s nm way d (.returned (.tuple #[.string ⟨#[]⟩, .int .i64 x])) := by
  obtain ⟨y, h1, h2⟩ := h
  exact ⟨_, x, rfl, .inl ⟨y, h1, h2, rfl⟩⟩
end Go.Proofs.Ytffkejkgkgfnhaa
namespace Go.Proofs.Ytffkejkgkgfnhaa
open Go.RowKit
set_option linter.unusedVariables false
def slF (x : Nat × Nat) : Value := .slice (some ⟨x.1, 0, none⟩) (x.2 + 1) (x.2 + 1)
def slR (x : Nat × Nat × Nat) : Value := .slice (some ⟨x.1, 0, none⟩) (x.2.1 + 1) (x.2.1 + 1)
def sprB : ByteArray := ⟨#[115, 112, 97, 114, 101]⟩
/-- the spare field -/
def SpF (w : World) (x : Nat × Nat) : Prop := w.cell? ⟨x.1, x.2 * 4, none⟩ = some (.string sprB) ∧ w.cell? ⟨x.1, x.2 * 4 + 1, none⟩ = some (.bool false) ∧ w.cell? ⟨x.1, x.2 * 4 + 2, none⟩ = some (.string ⟨#[]⟩) ∧ w.cell? ⟨x.1, x.2 * 4 + 3, none⟩ = some (.slice none 0 0) ∧ x.2 ≤ 1048576
/-- the spare row -/
def SpR (w : World) (x : Nat × Nat × Nat) : Prop := w.cell? ⟨x.1, x.2.1, none⟩ = some (.slice (some ⟨x.2.2, 0, none⟩) 1 1) ∧ w.cell? ⟨x.2.2, 0, none⟩ = some (.string sprB) ∧ x.2.1 ≤ 1048576
/-- a block that nothing of the copying writes into again -/
structure Frb (w : World) (ab : Nat) (fv rv : Value) (k : Nat) : Prop where
  lo : ab < k
  hi : k < w.heap.size
  nf : fv.ownBlock ≠ some k
  nr : rv.ownBlock ≠ some k
structure ChA (ab : Nat) (fv rv fv' rv' : Value) (w w' : World) : Prop where
  os : w'.os = w.os
  tape : w'.tape = w.tape
  output : w'.output = w.output
  size : w.heap.size ≤ w'.heap.size
  block : ∀ k, k < w.heap.size → k ≠ ab → fv.ownBlock ≠ some k → rv.ownBlock ≠ some k → w'.heap[k]? = w.heap[k]?
  ownF : ∀ g, fv'.ownBlock = some g → fv.ownBlock = some g ∨ w.heap.size ≤ g
  ownR : ∀ g, rv'.ownBlock = some g → rv.ownBlock = some g ∨ w.heap.size ≤ g
theorem ChA.refl (ab : Nat) (fv rv : Value) (w : World) : ChA ab fv rv fv rv w w := ⟨rfl, rfl, rfl, Nat.le_refl _, fun _ _ _ _ _ => rfl, fun _ h => .inl h, fun _ h => .inl h⟩
theorem ChA.trans {ab : Nat} {f1 r1 f2 r2 f3 r3 : Value} {a b c : World} (h : ChA ab f1 r1 f2 r2 a b) (k : ChA ab f2 r2 f3 r3 b c) : ChA ab f1 r1 f3 r3 a c := by
  refine ⟨k.os.trans h.os, k.tape.trans h.tape, k.output.trans h.output, Nat.le_trans h.size k.size, fun i h1 h2 h3 h4 => ?_, fun g hg => ?_, fun g hg => ?_⟩
  · refine (k.block i (Nat.lt_of_lt_of_le h1 h.size) h2 (fun e => ?_) (fun e => ?_)).trans (h.block i h1 h2 h3 h4)
    · rcases h.ownF i e with e' | e'
      · exact h3 e'
      · omega
    · rcases h.ownR i e with e' | e'
      · exact h4 e'
      · omega
  · rcases k.ownF g hg with e | e
    · exact h.ownF g e
    · exact .inr (Nat.le_trans h.size e)
  · rcases k.ownR g hg with e | e
    · exact h.ownR g e
    · exact .inr (Nat.le_trans h.size e)
theorem ChA.of_below {ab : Nat} {fv rv : Value} {w w' : World} (h : Below w.heap.size w w') : ChA ab fv rv fv rv w w' := ⟨h.os, h.tape, h.output, h.size, fun k h1 _ _ _ => h.block k h1, fun _ hg => .inl hg, fun _ hg => .inl hg⟩
theorem ChA.alloc {ab : Nat} {f1 r1 f2 r2 : Value} {w w' : World} (h : ChA ab f1 r1 f2 r2 w w') (o : Obj) : ChA ab f1 r1 f2 r2 w (w'.alloc o) := h.trans (ChA.of_below ((Below.refl _ _).alloc (Nat.le_refl _) _))
/-- a store into a block that is new -/
theorem ChA.setNew {ab : Nat} {f1 r1 f2 r2 : Value} {w w' : World} (h : ChA ab f1 r1 f2 r2 w w') (g j : Nat) (v : Value) (hg : w.heap.size ≤ g) : ChA ab f1 r1 f2 r2 w (w'.setCell ⟨g, j, none⟩ v) :=
  ⟨h.os, h.tape, h.output, by simpa using h.size, fun k h1 h2 h3 h4 => (set_far w' g j v k (by omega)).trans (h.block k h1 h2 h3 h4), h.ownF, h.ownR⟩
theorem Frb.step {w w' : World} {ab k : Nat} {fv rv fv' rv' : Value} (h : Frb w ab fv rv k) (c : ChA ab fv rv fv' rv' w w') : Frb w' ab fv' rv' k := by
  obtain ⟨h1, h2, h3, h4⟩ := h
  refine ⟨h1, Nat.lt_of_lt_of_le h2 c.size, fun e => ?_, fun e => ?_⟩
  · rcases c.ownF k e with q | q
    · exact h3 q
    · omega
  · rcases c.ownR k e with q | q
    · exact h4 q
    · omega
theorem Frb.same {w w' : World} {ab k : Nat} {fv rv fv' rv' : Value} (h : Frb w ab fv rv k) (c : ChA ab fv rv fv' rv' w w') : w'.heap[k]? = w.heap[k]? := c.block k h.hi (by have := h.lo; omega) h.nf h.nr
structure AgOK (w : World) (ab : Nat) (fv rv : Value) (Fs : List (Nat × Nat)) (Rs : List (Nat × Nat × Nat)) : Prop where
  c0 : w.cell? ⟨ab, 0, none⟩ = some fv
  c1 : w.cell? ⟨ab, 1, none⟩ = some rv
  z0 : w.frozen? ⟨ab, 0, none⟩ = false
  z1 : w.frozen? ⟨ab, 1, none⟩ = false
  o0 : w.ownsRow (ab + 1) 31 1 fv Fs.length (Fs.map slF)
  o1 : w.ownsRow (ab + 1) 48 1 rv Rs.length (Rs.map slR)
  ne : ∀ g, fv.ownBlock = some g → rv.ownBlock ≠ some g
  lt : ab < w.heap.size
  sF : ∀ x ∈ Fs, SpF w x ∧ Frb w ab fv rv x.1
  sR : ∀ x ∈ Rs, SpR w x ∧ Frb w ab fv rv x.1 ∧ Frb w ab fv rv x.2.2
theorem SpF.keep {w w' : World} {x : Nat × Nat} (h : SpF w x) (e : w'.heap[x.1]? = w.heap[x.1]?) : SpF w' x :=
  ⟨(World.cell?_of_block e).trans h.1, (World.cell?_of_block e).trans h.2.1, (World.cell?_of_block e).trans h.2.2.1, (World.cell?_of_block e).trans h.2.2.2.1, h.2.2.2.2⟩
theorem SpR.keep {w w' : World} {x : Nat × Nat × Nat} (h : SpR w x) (e : w'.heap[x.1]? = w.heap[x.1]?) (e' : w'.heap[x.2.2]? = w.heap[x.2.2]?) : SpR w' x :=
  ⟨(World.cell?_of_block e).trans h.1, (World.cell?_of_block e').trans h.2.1, h.2.2⟩
/-- what is below a world's size is as it was -/
theorem AgOK.below {w w' : World} {ab : Nat} {fv rv : Value} {Fs : List (Nat × Nat)} {Rs : List (Nat × Nat × Nat)} (h : AgOK w ab fv rv Fs Rs) (hb : ∀ k, k < w.heap.size → w'.heap[k]? = w.heap[k]?) (hs : w.heap.size ≤ w'.heap.size) : AgOK w' ab fv rv Fs Rs := by
  obtain ⟨c0, c1, z0, z1, o0, o1, ne, lt, sF, sR⟩ := h
  have e := hb ab lt
  have fr : ∀ k, Frb w ab fv rv k → Frb w' ab fv rv k := fun k q => ⟨q.lo, Nat.lt_of_lt_of_le q.hi hs, q.nf, q.nr⟩
  exact ⟨(World.cell?_of_block e).trans c0, (World.cell?_of_block e).trans c1, (World.frozen?_of_block e).trans z0, (World.frozen?_of_block e).trans z1,
    own_keep o0 (fun g hg => hb g (o0.lt g hg).2), own_keep o1 (fun g hg => hb g (o1.lt g hg).2), ne, by omega,
    fun x hx => ⟨(sF x hx).1.keep (hb _ (sF x hx).2.hi), fr _ (sF x hx).2⟩, fun x hx => ⟨(sR x hx).1.keep (hb _ (sR x hx).2.1.hi) (hb _ (sR x hx).2.2.hi), fr _ (sR x hx).2.1, fr _ (sR x hx).2.2⟩⟩
/-- a store into a block that is none of its own -/
theorem AgOK.setFar {w : World} {ab : Nat} {fv rv : Value} {Fs : List (Nat × Nat)} {Rs : List (Nat × Nat × Nat)} (h : AgOK w ab fv rv Fs Rs) (g j : Nat) (v : Value) (h0 : g ≠ ab) (h1 : fv.ownBlock ≠ some g) (h2 : rv.ownBlock ≠ some g) (h3 : ∀ x ∈ Fs, x.1 ≠ g) (h4 : ∀ x ∈ Rs, x.1 ≠ g ∧ x.2.2 ≠ g) : AgOK (w.setCell ⟨g, j, none⟩ v) ab fv rv Fs Rs := by
  obtain ⟨c0, c1, z0, z1, o0, o1, ne, lt, sF, sR⟩ := h
  have hb : ∀ k, k ≠ g → (w.setCell ⟨g, j, none⟩ v).heap[k]? = w.heap[k]? := fun k hk => set_far w g j v k hk
  have e := hb ab (Ne.symm h0)
  have fr : ∀ k, Frb w ab fv rv k → Frb (w.setCell ⟨g, j, none⟩ v) ab fv rv k := fun k q => ⟨q.lo, by simpa using q.hi, q.nf, q.nr⟩
  exact ⟨(World.cell?_of_block e).trans c0, (World.cell?_of_block e).trans c1, (World.frozen?_of_block e).trans z0, (World.frozen?_of_block e).trans z1,
    own_keep o0 (fun k hk => hb k (fun e => h1 (e ▸ hk))), own_keep o1 (fun k hk => hb k (fun e => h2 (e ▸ hk))), ne, by simpa using lt,
    fun x hx => ⟨(sF x hx).1.keep (hb _ (h3 x hx)), fr _ (sF x hx).2⟩, fun x hx => ⟨(sR x hx).1.keep (hb _ (h4 x hx).1) (hb _ (h4 x hx).2), fr _ (sR x hx).2.1, fr _ (sR x hx).2.2⟩⟩
end Go.Proofs.Ytffkejkgkgfnhaa
