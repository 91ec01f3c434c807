import Derived.Test.YtffkejkgkgfnhabGreatG14
import Derived.Test.YtffkejkgkgfnhabGreatG07
import Derived.Test.YtffkejkgkgfnhabGreatG08
import Derived.Test.YtffkejkgkgfnhabGreatG11
import Derived.Test.YtffkejkgkgfnhabGreatG10
import Derived.JoinedCond
namespace Go.Proofs.YtffkejkgkgfnhabGreat
open Go.RowKit
set_option linter.unusedVariables false
/-- append onto a row of one's own: what lay there is read as it was -/
theorem append_keep {P : Program} (w : World) (t ty : TypeId) (base : Nat) (e : TypeId) (i : TypeInfo) (z : Value) (size bytes : Nat) (ht : P.underlying t = some (.slice e)) (hi : P.info? e = some i) (hz : i.zero = some z)
    (hsize : i.size = size) (hby : i.bytes = bytes) (hzs : z.cells.size = size) (hsz : 0 < size) (v : Value) (n : Nat) (xs : List Value) (hown : w.ownsRow base e size v n xs)
    (ad : Addr) (m c : Nat) (news : List Value) (hl : news.length = m * size) (hnews : ∀ j u, news[j]? = some u → w.cell? (ad.add j) = some u) (h1 : ∀ u ∈ news, u.oneCell' = true)
    (hm : 0 < m) (h63 : n + m ≤ maxLen) (hbytes : (n + m) * bytes ≤ 140737488355328) (hbase : base ≤ w.heap.size) (H : Nat) (hH : w.heap.size = H) :
    ∃ g cap w', (Builtin.append_ #[t, t] ty #[v, .slice (some ad) m c]).run P w = .ok (.slice (some ⟨g, 0, none⟩) (n + m) cap) w' ∧
      w'.ownsRow base e size (.slice (some ⟨g, 0, none⟩) (n + m) cap) (n + m) (xs ++ news) ∧ w.grownBy w' v.ownBlock ∧ (v.ownBlock = some g ∨ g = H) ∧ g < w'.heap.size ∧
      (∀ g0 j u, v.ownBlock = some g0 → xs[j]? = some u → w'.cell? ⟨g0, j, none⟩ = some u) := by
  obtain ⟨g, cap, w', hr, h2, h3, h4, h5⟩ := run_append_lies (P := P) w t ty base e i z size bytes ht hi hz hsize hby hzs hsz v n xs hown ad m c news hl hnews h1 hm h63 hbytes hbase H hH
  refine ⟨g, cap, w', hr, h2, h3, h4, h5, ?_⟩
  intro g0 j u hv hu
  have hold : w.cell? ⟨g0, j, none⟩ = some u := by
    have := hown.cells hv j u hu
    have e : (⟨g0, 0, none⟩ : Addr).add j = ⟨g0, j, none⟩ := by unfold Addr.add; split <;> simp_all
    rwa [e] at this
  rcases h4 with h4 | h4
  · rw [hv] at h4
    have hgg : g = g0 := by simpa using h4.symm
    have hj : j < xs.length := (List.getElem?_eq_some_iff.1 hu).1
    have := h2.cells (g := g) rfl j u (by rw [List.getElem?_append_left hj]; exact hu)
    have e : (⟨g, 0, none⟩ : Addr).add j = ⟨g, j, none⟩ := by unfold Addr.add; split <;> simp_all
    rw [e, hgg] at this
    exact this
  · have hlt := hown.lt g0 hv
    rcases hown.2 with ⟨rfl, _⟩ | ⟨g', cap', cur, rfl, hbg, hg, hnc, hcm, hcs, htake⟩
    · simp [Value.ownBlock] at hv
    · simp [Value.ownBlock] at hv
      subst hv
      by_cases hroom : n + m ≤ cap'
      · have hfit : n * i.size + news.length ≤ cur.size := by rw [hl, hcs, hsize, ← Nat.add_mul]; exact Nat.mul_le_mul_right _ hroom
        have hr2 := run_append_room (P := P) w t ty e i ht hi g' n cap' cur hg ad m c news (by rw [hsize]; exact hl) hnews h1 hroom hfit
        rw [hr2] at hr
        cases hr
        omega
      · have hr2 := run_append_grow (P := P) w t ty e i z ht hi hz ⟨g', 0, none⟩ n cap' xs (by rw [hsize]; exact hown.1) (hown.cells (g := g') rfl) ad m c news (by rw [hsize]; exact hl) hnews (by omega) (by unfold maxLen at h63; omega) (growslice_fits (by omega) (by rw [hby]; exact hbytes))
        rw [hr2] at hr
        cases hr
        exact (World.cell?_of_block (w := w) (Below.heap_alloc w.drew _ _ hlt.2)).trans hold
theorem wpList_append_keep {P : Program} (w : World) {ops : Array Oper} {rest : List Oper} {o : Oper} {a : Act} {Q : Exit → Act → World → Prop} (hgd : o.guard = none) (s x : Operand) (t : TypeId)
    (ho : o.op = .call { callee := .builtin .append, args := #[s, x], argTypes := #[t, t] }) (base : Nat) (e : TypeId) (i : TypeInfo) (z : Value) (size bytes : Nat) (ht : P.underlying t = some (.slice e)) (hi : P.info? e = some i) (hz : i.zero = some z)
    (hsize : i.size = size) (hby : i.bytes = bytes) (hzs : z.cells.size = size) (hsz : 0 < size) (v : Value) (n : Nat) (xs : List Value) (hs : a.eval s = v) (hown : w.ownsRow base e size v n xs)
    (ad : Addr) (m c : Nat) (news : List Value) (hx : a.eval x = .slice (some ad) m c) (hl : news.length = m * size) (hnews : ∀ j u, news[j]? = some u → w.cell? (ad.add j) = some u) (h1 : ∀ u ∈ news, u.oneCell' = true)
    (hm : 0 < m) (h63 : n + m ≤ maxLen) (hbytes : (n + m) * bytes ≤ 140737488355328) (hbase : base ≤ w.heap.size) (H : Nat) (hH : w.heap.size = H)
    (h : ∀ g cap w', w'.ownsRow base e size (.slice (some ⟨g, 0, none⟩) (n + m) cap) (n + m) (xs ++ news) → w.grownBy w' v.ownBlock → (v.ownBlock = some g ∨ g = H) → g < w'.heap.size → (∀ g0 j u, v.ownBlock = some g0 → xs[j]? = some u → w'.cell? ⟨g0, j, none⟩ = some u) → wpList P ops Q rest (a.put o.dst (.slice (some ⟨g, 0, none⟩) (n + m) cap)) w') : wpList P ops Q (o :: rest) a w :=
  wpList_plain hgd fun _ hK => by
    obtain ⟨g, cap, w', hr, h2, h3, h4, h5, h6⟩ := append_keep (P := P) w t o.type base e i z size bytes ht hi hz hsize hby hzs hsz v n xs hown ad m c news hl hnews h1 hm h63 hbytes hbase H hH
    unfold Oper.wp execOp
    simp only [ho, resolve, invoke, builtin, Sem.run_bind, Sem.run_pure, Result.andThen_ok, List.map_toArray, List.map_cons, List.map_nil, hs, hx, hr]
    exact hK _ _ (h g cap w' h2 h3 h4 h5 h6)
theorem own_keep {w w' : World} {B ty sz : Nat} {v : Value} {n : Nat} {xs : List Value} (h : w.ownsRow B ty sz v n xs) (ho : ∀ g, v.ownBlock = some g → w'.heap[g]? = w.heap[g]?) : w'.ownsRow B ty sz v n xs := by
  obtain ⟨h1, h2⟩ := h
  refine ⟨h1, ?_⟩
  rcases h2 with h2 | ⟨g, cap, cur, hv, hg, hh, r⟩
  · exact .inl h2
  · refine .inr ⟨g, cap, cur, hv, hg, ?_, r⟩
    rw [ho g (by rw [hv]; rfl)]; exact hh
theorem HdAt.cells {w w' : World} {h : Hd} (hk : HdAt w h) (hc : ∀ g k, (Value.slice h.a h.n h.c).ownBlock = some g → k < h.n * 2 → w'.cell? ⟨g, k, none⟩ = w.cell? ⟨g, k, none⟩) : HdAt w' h := by
  rcases hk with h0 | ⟨g, ha, hall⟩
  · exact .inl h0
  · refine .inr ⟨g, ha, fun k hk => ?_⟩
    have hb : (Value.slice h.a h.n h.c).ownBlock = some g := by rw [ha]; rfl
    obtain ⟨h1, h2⟩ := hall k hk
    exact ⟨(hc g (k * 2) hb (by omega)).trans h1, (hc g (k * 2 + 1) hb (by omega)).trans h2⟩
theorem WdOK.keep {w w' : World} {wb : Nat} {ha : Option Addr} {hc : Nat} {hs : List Hd} (h : WdOK w wb ha hc hs) (hsz : w.heap.size ≤ w'.heap.size) (hb : w'.heap[wb]? = w.heap[wb]?) (ho : ∀ g, (Value.slice ha hs.length hc).ownBlock = some g → w'.heap[g]? = w.heap[g]?) (hall : ∀ h ∈ hs, HdAt w' h) : WdOK w' wb ha hc hs :=
  ⟨(World.cell?_of_block hb).trans h.c, (World.frozen?_of_block hb).trans h.f, own_keep h.own ho, by have := h.lt; omega, hall, fun x hx g hg => ⟨(h.far x hx g hg).1, (h.far x hx g hg).2.1, by have := (h.far x hx g hg).2.2; omega⟩, h.mks⟩
theorem WdOK.below {w w' : World} {wb : Nat} {ha : Option Addr} {hc : Nat} {hs : List Hd} (h : WdOK w wb ha hc hs) (hb : Below w.heap.size w w') : WdOK w' wb ha hc hs :=
  h.keep hb.size (hb.block _ h.lt) (fun g hg => hb.block g (h.own.lt g hg).2) (fun x hx => (h.all x hx).cells (fun g k hg _ => hb.cell (p := ⟨g, k, none⟩) (h.far x hx g hg).2.2))
/-- one more is kept -/
theorem wd_add {w w3 : World} {wb : Nat} {ha : Option Addr} {hc : Nat} {hs : List Hd} (hW : WdOK w wb ha hc hs) (hd : Hd) (hat : HdAt w hd) (hfar : ∀ g, (Value.slice hd.a hd.n hd.c).ownBlock = some g → g ≠ wb ∧ some g ≠ (Value.slice ha hs.length hc).ownBlock ∧ g < w.heap.size) (hmk : hd.mrk < 2 ^ 50 ∧ hd.n < 20000)
    (g cap : Nat) (o : Obj) (hown3 : w3.ownsRow (wb + 1) 44 2 (.slice (some ⟨g, 0, none⟩) (hs.length + 1) cap) (hs.length + 1) (holdsC hs ++ [.slice hd.a hd.n hd.c, .int .i64 hd.mrk])) (hg : (w.alloc o).grownBy w3 (Value.slice ha hs.length hc).ownBlock) (hat3 : (Value.slice ha hs.length hc).ownBlock = some g ∨ g = w.heap.size + 1) :
    WdOK (w3.setCell ⟨wb, 0, none⟩ (.slice (some ⟨g, 0, none⟩) (hs.length + 1) cap)) wb (some ⟨g, 0, none⟩) cap (hs ++ [hd]) := by
  have hsz := hg.size
  simp only [World.size_alloc] at hsz
  have hwl := hW.lt
  have hne : g ≠ wb := by
    have := (hown3.lt g rfl).1
    omega
  have blk : ∀ k, k < w.heap.size → k ≠ wb → some k ≠ (Value.slice ha hs.length hc).ownBlock → (w3.setCell ⟨wb, 0, none⟩ (.slice (some ⟨g, 0, none⟩) (hs.length + 1) cap)).heap[k]? = w.heap[k]? := fun k h1 h2 h3 =>
    (set_far w3 wb 0 _ k h2).trans ((hg.block k (by simp; omega) h3).trans (Below.heap_alloc _ _ _ h1))
  have hwb : w3.heap[wb]? = w.heap[wb]? := (hg.block wb (by simp; omega) (fun e => by have := (hW.own.lt wb e.symm).1; omega)).trans (Below.heap_alloc _ _ _ hwl)
  have c3 : w3.cell? ⟨wb, 0, none⟩ = some (.slice ha hs.length hc) := (World.cell?_of_block hwb).trans hW.c
  have f3 : w3.frozen? ⟨wb, 0, none⟩ = false := (World.frozen?_of_block hwb).trans hW.f
  have len : (hs ++ [hd]).length = hs.length + 1 := by simp
  have all : ∀ x ∈ hs ++ [hd], HdAt w x ∧ (∀ g', (Value.slice x.a x.n x.c).ownBlock = some g' → g' ≠ wb ∧ some g' ≠ (Value.slice ha hs.length hc).ownBlock ∧ g' < w.heap.size) ∧ x.mrk < 2 ^ 50 ∧ x.n < 20000 := by
    intro x hx
    rcases List.mem_append.1 hx with hx | hx
    · exact ⟨hW.all x hx, hW.far x hx, hW.mks x hx⟩
    · simp at hx; subst hx; exact ⟨hat, hfar, hmk⟩
  refine ⟨?_, by simpa using f3, ?_, by simp; omega, fun x hx => ?_, fun x hx g' hg' => ?_, fun x hx => (all x hx).2.2⟩
  · rw [len]; exact cellS _ c3
  · rw [len]
    have e : holdsC (hs ++ [hd]) = holdsC hs ++ [.slice hd.a hd.n hd.c, .int .i64 hd.mrk] := by simp [holdsC]
    rw [e]
    exact own_keep hown3 (fun k hk => set_far w3 wb 0 _ k (by simp [Value.ownBlock] at hk; omega))
  · exact (all x hx).1.cells (fun g' k hg' _ => World.cell?_of_block (blk g' ((all x hx).2.1 g' hg').2.2 ((all x hx).2.1 g' hg').1 ((all x hx).2.1 g' hg').2.1))
  · obtain ⟨h1, h2, h3⟩ := (all x hx).2.1 g' hg'
    refine ⟨h1, ?_, by simp; omega⟩
    intro e
    simp [Value.ownBlock] at e
    rcases hat3 with h4 | h4
    · rw [h4, e] at h2; exact h2 rfl
    · omega
end Go.Proofs.YtffkejkgkgfnhabGreat
namespace Go.Proofs.YtffkejkgkgfnhabGreat
open Go.RowKit
set_option linter.unusedVariables false
def EnvOK (w : World) (N : Nat) : List Dat → List Value → Prop
  | [], xs => xs = []
  | d :: R, xs => ∃ (a : Option Addr) (c : Nat) (ys : List Value), xs = .slice a d.len c :: ys ∧ DatV w N a d ∧ d.ok false ∧ d.bulk ≤ 1048576 ∧ d.len ≤ c ∧ c ≤ maxLen ∧ EnvOK w N R ys
theorem EnvOK.mono {w w' : World} {N : Nat} (hw : ∀ k, k < N → w'.heap[k]? = w.heap[k]?) : ∀ (R : List Dat) (xs : List Value), EnvOK w N R xs → EnvOK w' N R xs
  | [], xs, h => h
  | d :: R, xs, h => by
    obtain ⟨a, c, ys, h1, h2, h3, h4, h5, h6, h7⟩ := h
    exact ⟨a, c, ys, h1, h2.mono (Nat.le_refl _) hw, h3, h4, h5, h6, EnvOK.mono hw R ys h7⟩
theorem EnvOK.snoc {w : World} {N : Nat} {d : Dat} {a : Option Addr} {c : Nat} (h1 : DatV w N a d) (h2 : d.ok false) (h3 : d.bulk ≤ 1048576) (h4 : d.len ≤ c) (h5 : c ≤ maxLen) : ∀ (R : List Dat) (xs : List Value), EnvOK w N R xs → EnvOK w N (R ++ [d]) (xs ++ [.slice a d.len c])
  | [], xs, h => by
    have h' : xs = [] := h
    subst h'
    exact ⟨a, c, [], rfl, h1, h2, h3, h4, h5, rfl⟩
  | e :: R, xs, h => by
    obtain ⟨a', c', ys, rfl, k2, k3, k4, k5, k6, k7⟩ := h
    exact ⟨a', c', ys ++ [.slice a d.len c], rfl, k2, k3, k4, k5, k6, EnvOK.snoc h1 h2 h3 h4 h5 R ys k7⟩
theorem EnvOK.length {w : World} {N : Nat} : ∀ (R : List Dat) (xs : List Value), EnvOK w N R xs → xs.length = R.length
  | [], xs, h => by
    have h' : xs = [] := h
    subst h'; rfl
  | d :: R, xs, h => by
    obtain ⟨a, c, ys, rfl, _, _, _, _, _, h7⟩ := h
    simp [EnvOK.length R ys h7]
theorem EnvOK.at {w : World} {N : Nat} : ∀ (R : List Dat) (xs : List Value) (i : Nat) (hi : i < R.length), EnvOK w N R xs → ∃ a c, xs[i]? = some (.slice a R[i].len c) ∧ DatV w N a R[i] ∧ R[i].ok false ∧ R[i].bulk ≤ 1048576 ∧ R[i].len ≤ c ∧ c ≤ maxLen
  | [], xs, i, hi, h => absurd hi (by simp)
  | d :: R, xs, 0, hi, h => by
    obtain ⟨a, c, ys, rfl, h2, h3, h4, h5, h6, h7⟩ := h
    exact ⟨a, c, rfl, h2, h3, h4, h5, h6⟩
  | d :: R, xs, i + 1, hi, h => by
    obtain ⟨a, c, ys, rfl, h2, h3, h4, h5, h6, h7⟩ := h
    exact EnvOK.at R ys i (by simpa using hi) h7
structure PgP where
  (pb N : Nat)
  la : Option Addr
  lc : Nat
  ts : List Tm
  tr : Bool
structure PgOK (w : World) (p : PgP) (ra : Option Addr) (rc : Nat) (R : List Dat) (st : Pst) : Prop where
  c0 : w.cell? ⟨p.pb, 0, none⟩ = some (.slice p.la p.ts.length p.lc)
  c1 : w.cell? ⟨p.pb, 1, none⟩ = some (.bool p.tr)
  c2 : w.cell? ⟨p.pb, 2, none⟩ = some (.slice ra R.length rc)
  c3 : w.cell? ⟨p.pb, 3, none⟩ = some (.string st.out)
  c4 : w.cell? ⟨p.pb, 4, none⟩ = some (.int .i64 st.steps)
  c5 : w.cell? ⟨p.pb, 5, none⟩ = some (.int .i64 st.err)
  f2 : w.frozen? ⟨p.pb, 2, none⟩ = false
  f3 : w.frozen? ⟨p.pb, 3, none⟩ = false
  f4 : w.frozen? ⟨p.pb, 4, none⟩ = false
  f5 : w.frozen? ⟨p.pb, 5, none⟩ = false
  own : ∃ xs, w.ownsRow (p.pb + 1) 31 1 (.slice ra R.length rc) R.length xs ∧ EnvOK w p.N R xs
  lt : p.pb < w.heap.size
  le : p.N ≤ p.pb
  fit : Fit st
/-- what a call on the page may change: the page, the rows' list -/
structure ChP (pb : Nat) (rv rv' : Value) (w w' : World) : Prop where
  os : w'.os = w.os
  tape : w'.tape = w.tape
  output : w'.output = w.output
  size : w.heap.size ≤ w'.heap.size
  block : ∀ k, k < w.heap.size → k ≠ pb → rv.ownBlock ≠ some k → w'.heap[k]? = w.heap[k]?
  own : ∀ g, rv'.ownBlock = some g → rv.ownBlock = some g ∨ w.heap.size ≤ g
theorem ChP.refl (pb : Nat) (rv : Value) (w : World) : ChP pb rv rv w w := ⟨rfl, rfl, rfl, Nat.le_refl _, fun _ _ _ _ => rfl, fun g h => .inl h⟩
theorem ChP.trans {pb : Nat} {r1 r2 r3 : Value} {a b c : World} (h : ChP pb r1 r2 a b) (k : ChP pb r2 r3 b c) : ChP pb r1 r3 a c := by
  refine ⟨k.os.trans h.os, k.tape.trans h.tape, k.output.trans h.output, Nat.le_trans h.size k.size, fun i h1 h2 h3 => ?_, fun g hg => ?_⟩
  · refine (k.block i (Nat.lt_of_lt_of_le h1 h.size) h2 ?_).trans (h.block i h1 h2 h3)
    intro e
    rcases h.own i e with e' | e'
    · exact h3 e'
    · omega
  · rcases k.own g hg with e | e
    · exact h.own g e
    · exact .inr (Nat.le_trans h.size e)
theorem ChP.of_below {pb : Nat} {rv : Value} {w w' : World} (h : Below w.heap.size w w') : ChP pb rv rv w w' := ⟨h.os, h.tape, h.output, h.size, fun k h1 _ _ => h.block k h1, fun g hg => .inl hg⟩
theorem ChP.alloc {pb : Nat} {r1 r2 : Value} {w w' : World} (h : ChP pb r1 r2 w w') (o : Obj) : ChP pb r1 r2 w (w'.alloc o) := h.trans (ChP.of_below ((Below.refl _ _).alloc (Nat.le_refl _) _))
theorem ChP.set {pb : Nat} {r1 r2 : Value} {w w' : World} (h : ChP pb r1 r2 w w') (j : Nat) (v : Value) : ChP pb r1 r2 w (w'.setCell ⟨pb, j, none⟩ v) :=
  h.trans ⟨rfl, rfl, rfl, by simp, fun k h1 h2 h3 => set_far w' pb j v k h2, fun g hg => .inl hg⟩
theorem PgOK.own_lt {w : World} {p : PgP} {ra : Option Addr} {rc : Nat} {R : List Dat} {st : Pst} (h : PgOK w p ra rc R st) : ∀ g, (Value.slice ra R.length rc).ownBlock = some g → p.pb + 1 ≤ g ∧ g < w.heap.size := by
  obtain ⟨xs, h1, _⟩ := h.own
  intro g hg
  exact h1.lt g hg
/-- the page's own blocks are as they were -/
theorem PgOK.far {w w' : World} {p : PgP} {ra : Option Addr} {rc : Nat} {R : List Dat} {st : Pst} (h : PgOK w p ra rc R st) (hs : w.heap.size ≤ w'.heap.size) (hb : ∀ k, k ≤ p.pb ∨ (Value.slice ra R.length rc).ownBlock = some k → w'.heap[k]? = w.heap[k]?) : PgOK w' p ra rc R st := by
  have e0 := hb p.pb (.inl (Nat.le_refl _))
  obtain ⟨c0, c1, c2, c3, c4, c5, f2, f3, f4, f5, ⟨xs, o1, o2⟩, lt, le, fit⟩ := h
  exact ⟨(World.cell?_of_block e0).trans c0, (World.cell?_of_block e0).trans c1, (World.cell?_of_block e0).trans c2, (World.cell?_of_block e0).trans c3, (World.cell?_of_block e0).trans c4, (World.cell?_of_block e0).trans c5,
    (World.frozen?_of_block e0).trans f2, (World.frozen?_of_block e0).trans f3, (World.frozen?_of_block e0).trans f4, (World.frozen?_of_block e0).trans f5,
    ⟨xs, own_keep o1 (fun g hg => hb g (.inr hg)), EnvOK.mono (fun k hk => hb k (.inl (by omega))) R xs o2⟩, by omega, le, fit⟩
theorem PgOK.below {w w' : World} {p : PgP} {ra : Option Addr} {rc : Nat} {R : List Dat} {st : Pst} (h : PgOK w p ra rc R st) (hb : Below w.heap.size w w') : PgOK w' p ra rc R st := by
  have hl := h.own_lt
  have hp := h.lt
  refine h.far hb.size (fun k hk => hb.block k ?_)
  rcases hk with hk | hk
  · omega
  · exact (hl k hk).2
theorem PgOK.alloc {w : World} {p : PgP} {ra : Option Addr} {rc : Nat} {R : List Dat} {st : Pst} (h : PgOK w p ra rc R st) (o : Obj) : PgOK (w.alloc o) p ra rc R st := h.below ((Below.refl _ _).alloc (Nat.le_refl _) _)
theorem PgOK.set {w : World} {p : PgP} {ra : Option Addr} {rc : Nat} {R : List Dat} {st : Pst} (h : PgOK w p ra rc R st) (st' : Pst) (j : Nat) (v : Value) (hj : (j = 3 ∧ v = .string st'.out ∧ st'.steps = st.steps ∧ st'.err = st.err) ∨ (j = 4 ∧ v = .int .i64 st'.steps ∧ st'.out = st.out ∧ st'.err = st.err) ∨ (j = 5 ∧ v = .int .i64 st'.err ∧ st'.out = st.out ∧ st'.steps = st.steps)) (hf : Fit st') :
    PgOK (w.setCell ⟨p.pb, j, none⟩ v) p ra rc R st' := by
  have hl := h.own_lt
  obtain ⟨c0, c1, c2, c3, c4, c5, f2, f3, f4, f5, ⟨xs, o1, o2⟩, lt, le, fit⟩ := h
  have oth : ∀ i, j ≠ i → (w.setCell ⟨p.pb, j, none⟩ v).cell? ⟨p.pb, i, none⟩ = w.cell? ⟨p.pb, i, none⟩ := fun i hi => cellO w _ _ _ _ hi
  have own' : ∃ xs, (w.setCell ⟨p.pb, j, none⟩ v).ownsRow (p.pb + 1) 31 1 (.slice ra R.length rc) R.length xs ∧ EnvOK (w.setCell ⟨p.pb, j, none⟩ v) p.N R xs :=
    ⟨xs, own_keep o1 (fun g hg => set_far w _ _ _ g (by have := (hl g hg).1; omega)), EnvOK.mono (fun k hk => set_far w _ _ _ k (by omega)) R xs o2⟩
  rcases hj with ⟨rfl, rfl, e1, e2⟩ | ⟨rfl, rfl, e1, e2⟩ | ⟨rfl, rfl, e1, e2⟩
  · exact ⟨(oth 0 (by decide)).trans c0, (oth 1 (by decide)).trans c1, (oth 2 (by decide)).trans c2, cellS _ c3, (oth 4 (by decide)).trans (by rw [e1]; exact c4), (oth 5 (by decide)).trans (by rw [e2]; exact c5), by simpa using f2, by simpa using f3, by simpa using f4, by simpa using f5, own', by simpa using lt, le, hf⟩
  · exact ⟨(oth 0 (by decide)).trans c0, (oth 1 (by decide)).trans c1, (oth 2 (by decide)).trans c2, (oth 3 (by decide)).trans (by rw [e1]; exact c3), cellS _ c4, (oth 5 (by decide)).trans (by rw [e2]; exact c5), by simpa using f2, by simpa using f3, by simpa using f4, by simpa using f5, own', by simpa using lt, le, hf⟩
  · exact ⟨(oth 0 (by decide)).trans c0, (oth 1 (by decide)).trans c1, (oth 2 (by decide)).trans c2, (oth 3 (by decide)).trans (by rw [e1]; exact c3), (oth 4 (by decide)).trans (by rw [e2]; exact c4), cellS _ c5, by simpa using f2, by simpa using f3, by simpa using f4, by simpa using f5, own', by simpa using lt, le, hf⟩
theorem PgOK.rowAt {w : World} {p : PgP} {ra : Option Addr} {rc : Nat} {R : List Dat} {st : Pst} (h : PgOK w p ra rc R st) (i : Nat) (hi : i < R.length) : ∃ g, ra = some ⟨g, 0, none⟩ ∧ ∃ a c, w.cell? ⟨g, i, none⟩ = some (.slice a R[i].len c) ∧ DatV w p.N a R[i] ∧ R[i].ok false ∧ R[i].bulk ≤ 1048576 ∧ R[i].len ≤ c ∧ c ≤ maxLen := by
  obtain ⟨xs, o1, o2⟩ := h.own
  obtain ⟨a, c, k1, k2⟩ := EnvOK.at R xs i hi o2
  rcases o1.2 with ⟨_, h0⟩ | ⟨g, cap, cur, hv, hb, hg, hn, hm, hs, ht⟩
  · omega
  · simp at hv
    refine ⟨g, hv.1, a, c, ?_, k2⟩
    rw [cell_of_heap hg, ← k1, ← ht, List.getElem?_take_of_lt (by omega)]
    simp
end Go.Proofs.YtffkejkgkgfnhabGreat
namespace Go.Proofs.YtffkejkgkgfnhabGreat
open Go.RowKit
set_option linter.unusedVariables false
set_option maxRecDepth 100000 in
set_option maxHeartbeats 1000000 in
theorem r92 (w : World) (pb : Nat) (n : Nat) (hn : n < 500) (h4 : w.cell? ⟨pb, 4, none⟩ = some (.int .i64 n)) (f4 : w.frozen? ⟨pb, 4, none⟩ = false) :
   Calls Tryz.prog 95 #[.pointer (some ⟨pb, 0, none⟩)] w fun e w' => e = .returned (.bool true) ∧ w' = w.setCell ⟨pb, 4, none⟩ (.int .i64 (n + 1)) := by
  go_enter Tryz.func95, Tryz.ntmps95
  go_wp2
  go_ret
  exact ⟨rfl, rfl⟩
set_option maxRecDepth 100000 in
set_option maxHeartbeats 1000000 in
theorem r92no (w : World) (pb : Nat) (n : Nat) (hn : ¬ n < 500) (h4 : w.cell? ⟨pb, 4, none⟩ = some (.int .i64 n)) (e5 : Int) (h5 : w.cell? ⟨pb, 5, none⟩ = some (.int .i64 e5)) (f5 : w.frozen? ⟨pb, 5, none⟩ = false) :
   Calls Tryz.prog 95 #[.pointer (some ⟨pb, 0, none⟩)] w fun e w' => e = .returned (.bool false) ∧ w' = w.setCell ⟨pb, 5, none⟩ (.int .i64 12) := by
  go_enter Tryz.func95, Tryz.ntmps95
  go_wp2
  go_ret
  exact ⟨rfl, rfl⟩
theorem Dat.fnd_at (nm : ByteArray) {d : Dat} {i : Nat} {n t : ByteArray} {l : Bool} {rows : Dat} (e : d.drop i = .fld n l t rows (d.drop (i + 1))) : (d.drop i).fnd nm = if nmEq n nm = true then some (n, l, t, rows) else (d.drop (i + 1)).fnd nm := by
  rw [e]; rfl
theorem lkp_at (nm : ByteArray) (R : List Dat) (i : Nat) (hi : i < R.length) : lkp nm (R.take (i + 1)) = match R[i].fnd nm with | some x => some x | none => lkp nm (R.take i) := by
  unfold lkp
  rw [List.take_succ_eq_append_getElem hi, List.reverse_append]
  simp only [List.reverse_cons, List.reverse_nil, List.nil_append, List.cons_append, List.findSome?_cons]
  cases R[i].fnd nm <;> rfl
def FldPost (w : World) (N : Nat) (nm : ByteArray) (R : List Dat) (e : Ending) : Prop :=
  (lkp nm R = none ∧ e = .returned (.tuple #[.agg #[.string ⟨#[]⟩, .bool false, .string ⟨#[]⟩, .slice none 0 0], .bool false])) ∨
  (∃ n l t rows a c, lkp nm R = some (n, l, t, rows) ∧ e = .returned (.tuple #[.agg #[.string n, .bool l, .string t, .slice a rows.len c], .bool true]) ∧ DatV w N a rows ∧ rows.ok true ∧ rows.bulk + t.size ≤ 1048576 ∧ rows.len ≤ c ∧ c ≤ maxLen)
set_option maxRecDepth 100000 in
set_option maxHeartbeats 2000000 in
theorem r93 (w : World) (p : PgP) (ra : Option Addr) (rc : Nat) (R : List Dat) (st : Pst) (nm : ByteArray) (hR : R.length ≤ 1000) (h : PgOK w p ra rc R st) :
   Calls Tryz.prog 96 #[.pointer (some ⟨p.pb, 0, none⟩), .string nm] w fun e w' => FldPost w p.N nm R e ∧ Below w.heap.size w w' := by
  have HP := hidS h
  have c2 := h.c2
  have hlt := h.lt
  clear h
  go_enter Tryz.func96, Tryz.ntmps96
  go_wp2
  go_loop [6, 7, 8] (fun i _ _ => ∃ k : Nat, k ≤ R.length ∧ i = .int .i64 ((k : Int) - 1) ∧ Hid (lkp nm R = lkp nm (R.take k))) (fun i _ _ => (intOf i + 1).toNat)
  case atStart => exact ⟨R.length, Nat.le_refl _, rfl, by rw [List.take_length]; exact rfl⟩
  case round =>
    obtain ⟨k, hk, rfl, H⟩ := hrel
    cases k with
    | zero =>
      have HF : Hid (lkp nm R = none) := by show _ = _; rw [H.out]; rfl
      go_wp2
      refine bodyPost_ret (v := .tuple #[.agg #[.string ⟨#[]⟩, .bool false, .string ⟨#[]⟩, .slice none 0 0], .bool false]) (by simp [results, Tryz.results96, go_sem]) rfl ⟨.inl ⟨HF.out, rfl⟩, ?_⟩
      exact (Below.refl _ _).alloc (Nat.le_refl _) _
    | succ k =>
      obtain ⟨g, rfl, a, c, hcell, hV, hok, hbulk, hlc, hcm⟩ := HP.out.rowAt k (by omega)
      have HS := hidS (lkp_at nm R k (by omega))
      have hg := (HP.out.own_lt g rfl).2
      have HV := hidS hV
      have HO := hidS hok
      have HBk := hidS hbulk
      have hfl : R[k].len ≤ 1048576 := Nat.le_trans (Dat.len_bulk _) hbulk
      clear hV hok hbulk
      generalize hD : R[k] = D at *
      have HD := hidS hD
      clear hD
      go_wp2
      go_loop [8] (fun i => ∃ j : Nat, j ≤ D.len ∧ i = .int .i64 j ∧ Hid (D.fnd nm = (D.drop j).fnd nm)) (fun i => D.len - (intOf i).toNat)
      case atStart => exact ⟨0, Nat.zero_le _, rfl, by rw [Dat.drop_zero]; exact rfl⟩
      case round =>
        obtain ⟨j, hj, rfl, H2⟩ := hrel
        by_cases hjl : j < D.len
        · rcases HV.out with h0 | ⟨b, off, rfl, hb, hat⟩
          · omega
          · obtain ⟨n, li, tx, rows, e1, e2, e3, k0, k1, k2, a3, c3, k3, k4, k5, k6⟩ := DatAt.field D b off j HO.out hjl hat
            have hbl : b < w.heap.size := by have := HP.out.le; omega
            have hE := Dat.fnd_at nm e1
            have HK6 := hidS k6
            have HE2 := hidS e2
            have HBB : Hid (rows.bulk + tx.size ≤ 1048576) := by have := HBk.out; show _ ≤ _; omega
            clear hat k6 e2 e3 e1
            cases hB : nmEq n nm
            · have HF : Hid (D.fnd nm = (D.drop (j + 1)).fnd nm) := by show _ = _; rw [H2.out, hE, hB]; rfl
              unfold nmEq at hB
              clear hE H2 k1 k2 k3
              go_wp2
              go_round
              case rel => exact ⟨j + 1, by omega, by go_num, HF.out⟩
              case measure => simp [intOf]; omega
            · have HF : Hid (lkp nm R = some (n, li, tx, rows)) := by
                show _ = _
                rw [H.out, HS.out, H2.out, hE, hB]; rfl
              unfold nmEq at hB
              generalize hrl : rows.len = rl at *
              have HRL := hidS hrl
              clear hE H2 hrl
              go_wp2
              refine bodyPost_ret (v := .tuple #[.agg #[.string n, .bool li, .string tx, .slice a3 rl c3], .bool true]) (by simp [results, Tryz.results96, go_sem]) rfl ⟨.inr ⟨n, li, tx, rows, a3, c3, HF.out, by rw [HRL.out], HK6.out, HE2.out, HBB.out, by rw [HRL.out]; exact k4, k5⟩, ?_⟩
              exact (Below.refl _ _).alloc (Nat.le_refl _) _
        · have HF : Hid (lkp nm R = lkp nm (R.take k)) := by
            show _ = _
            rw [H.out, HS.out, H2.out, Dat.drop_end D j (by omega)]; rfl
          go_wp2
          go_round
          case rel => exact ⟨k, by omega, by go_num, HF.out⟩
          case measure => simp [intOf]
end Go.Proofs.YtffkejkgkgfnhabGreat
namespace Go.Proofs.YtffkejkgkgfnhabGreat
open Go.ChangeShapes Go.WideShapes Go.ChangeAt Go.RowKit Go.Deep
set_option linter.unusedVariables false
theorem mid_snoc_at (c : Int) (s : ByteArray) (k : Nat) (h : k < s.size) : mid c (s.data.toList.take (k + 1)) = mid c (s.data.toList.take k) ++ pc c s[k].toNat := by
  rw [take_snoc s k h, mid_snoc]
theorem esc_19 (l : List UInt8) : strOfNums [39] ++ strOfNums (mid 19 l) ++ strOfNums [39] = strOfNums (escL 19 l) := by
  rw [nums_append, nums_append]; simp [escL, acc, pre]
theorem esc_mid (c : Int) (l : List UInt8) (h : (c == 19) = false) : mid c l = escL c l := by
  have : c ≠ 19 := by simpa using h
  simp [escL, acc, pre, this]
set_option maxHeartbeats 400000 in
theorem c23no (c : Int) (s : ByteArray) (w : World) (h : opB c = false) :
    Calls Tryz.prog 12 #[.int .i64 c, .string s] w fun e w' => e = .returned (.tuple #[.string ⟨#[]⟩, .int .i64 10]) ∧ w' = w := by
  go_enter Tryz.func12, Tryz.ntmps12
  go_wp2_with (go_at_call 20; refine (c33 _ _).mono ?_; rintro e w' ⟨rfl, rfl⟩)
  go_ret2
  exact ⟨rfl, rfl⟩
set_option maxHeartbeats 1000000 in
theorem c23 (c : Int) (s : ByteArray) (w : World) (h : opB c = true) (hs : s.size ≤ 1048576) :
    Calls Tryz.prog 12 #[.int .i64 c, .string s] w fun e w' => e = .returned (.tuple #[.string (strOfNums (escL c s.data.toList)), .int .i64 0]) ∧ Below w.heap.size w w' := by
  go_enter Tryz.func12, Tryz.ntmps12
  go_wp2_with (go_at_call 20; refine (c33 _ _).mono ?_; rintro e w' ⟨rfl, hw⟩; obtain rfl := hw.symm)
  go_loopw [7, 8] (fun v i wr => ∃ k : Nat, k ≤ s.size ∧ i = .int .i64 k ∧ v = .string (strOfNums (mid c (s.data.toList.take k))) ∧ Below w.heap.size w wr) (fun _ i _ => s.size - (intOf i).toNat)
  case atStart => exact ⟨0, Nat.zero_le _, rfl, rfl, Below.refl _ _⟩
  case round =>
    obtain ⟨k, hk, rfl, rfl, hbel⟩ := hrel
    have Hsn := hide (mid_snoc_at c s k)
    have Hall : Hid (k = s.size → mid c (s.data.toList.take k) = mid c s.data.toList) := by
      intro e; rw [List.take_of_length_le (by simp [e])]
    generalize hA : mid c (s.data.toList.take k) = A at *
    have HA := hide hA
    have hl1 : (strOfNums A).size ≤ 6291456 := by
      have h1 := mid_len c (s.data.toList.take k)
      have h2 : (s.data.toList.take k).length ≤ k := List.length_take_le _ _
      rw [strOfNums_size, ← hA]; omega
    clear hA
    by_cases hlt : k < s.size
    · have hl2 : (strOfNums (pc c s[k].toNat)).size ≤ 6 := by
        rw [strOfNums_size]; exact (pc_ok c s[k].toNat ⟨byte_ge _, byte_le _⟩).2
      go_wp2_with fail
      refine (c34 _ _ _ (byte_ge _) (byte_le _) h).mono ?_
      rintro e w2 ⟨rfl, hb2⟩
      have hbel2 := hbel.trans (hb2.mono hbel.size)
      clear hbel hb2
      go_wp2
      go_roundw
      case rel => exact ⟨k + 1, by omega, by go_num, by rw [nums_append, Hsn.out hlt], hbel2⟩
      case measure => simp [intOf]; omega
    · have HA2 := Hall.out (by omega)
      subst HA2
      by_cases hc : c = 19
      · subst hc
        have Hf := hide (esc_19 s.data.toList)
        have hl := lit39
        have hl3 : (strOfNums [39]).size ≤ 1 := by decide
        go_wp2
        go_ret2
        refine ⟨?_, hbel⟩
        rw [← Hf.out]
        rfl
      · have hc' : (c == 19) = false := by simpa using hc
        have Hf := hide (esc_mid c s.data.toList hc')
        clear hc
        go_wp2
        go_ret2
        refine ⟨?_, hbel⟩
        rw [← Hf.out]
        rfl
set_option maxHeartbeats 400000 in
theorem c14esc (p : Value) (n : Int) (s t : ByteArray) (d : Value) (w : World) (hs : s.size ≤ 1048576) :
    Calls Tryz.prog 5 #[p, .agg #[.int .i64 3, .int .i64 n, .string s, .string t, d]] w fun e w' => e = .returned (.bool true) ∧ Below w.heap.size w w' := by
  cases ho : opB n
  · go_enter Tryz.func5, Tryz.ntmps5
    go_wp2_with (first | (go_at_call 11; refine (c11no _ _ _ ho).mono ?_; rintro e w' ⟨rfl, rfl⟩) | (go_at_call 12; refine (c23no _ _ _ ho).mono ?_; rintro e w' ⟨rfl, rfl⟩))
    go_ret
    exact ⟨rfl, (Below.refl _ _).alloc (Nat.le_refl _) _⟩
  · go_enter Tryz.func5, Tryz.ntmps5
    go_wp2_with fail
    refine (c11 _ _ _ ho hs).mono ?_
    rintro e w1 ⟨rfl, hb1⟩
    have hz : w.heap.size < w1.heap.size := by have := hb1.size; simp at this; omega
    have k0 : ∀ o, o < 5 → w1.cell? ⟨w.heap.size, o, none⟩ = (w.alloc (.cells #[.int .i64 3, .int .i64 n, .string s, .string t, d] 33)).cell? ⟨w.heap.size, o, none⟩ := fun o _ => hb1.cell (p := ⟨w.heap.size, o, none⟩) (by show w.heap.size < _; simp)
    have k1 : w1.cell? ⟨w.heap.size, 1, none⟩ = some (.int .i64 n) := (k0 1 (by omega)).trans (by simp)
    have k2 : w1.cell? ⟨w.heap.size, 2, none⟩ = some (.string s) := (k0 2 (by omega)).trans (by simp)
    clear k0
    have hb1' : Below w.heap.size w w1 := ((Below.refl _ _).alloc (Nat.le_refl _) _).trans (hb1.mono (by simp))
    clear hb1
    go_wp2_with fail
    refine (c23 _ _ _ ho hs).mono ?_
    rintro e w2 ⟨rfl, hb2⟩
    have hb2' : Below w.heap.size w w2 := hb1'.trans (hb2.mono (by omega))
    clear hb2 k1 k2
    go_wp2
    go_ret
    exact ⟨ret_bool (by simp), hb2'⟩
theorem bulk_one {H : Type} (d : DataW H) : 1 ≤ Rows.uptoBulk d := by
  cases d with
  | lit l => cases l <;> simp [Rows.uptoBulk]
  | nil => simp [Rows.uptoBulk]
  | ptr d => simp [Rows.uptoBulk]
  | slice elems spare => simp [Rows.uptoBulk]
  | agg parts => simp [Rows.uptoBulk]
  | iface t d => simp [Rows.uptoBulk]
  | map entries => simp [Rows.uptoBulk]
  | held h => simp [Rows.uptoBulk]
end Go.Proofs.YtffkejkgkgfnhabGreat
