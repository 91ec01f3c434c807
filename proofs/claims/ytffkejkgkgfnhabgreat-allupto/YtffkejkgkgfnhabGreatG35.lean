import Derived.Test.YtffkejkgkgfnhabGreatG32
import Derived.Test.YtffkejkgkgfnhabGreatG15
import Derived.Test.YtffkejkgkgfnhabGreatG34
import Derived.Deep.RegionLaw
namespace Go.Proofs.YtffkejkgkgfnhabGreat
open Go.RowKit
set_option linter.unusedVariables false
structure WrP where
  (pb N g ac : Nat)
  s : ByteArray
  A : List Ak
structure WrC (w : World) (p : WrP) (ra : Option Addr) (rc : Nat) (oa : Option Addr) (oc : Nat) (R : List Dat) (st : Pst) : Prop where
  c0 : w.cell? ⟨p.pb, 0, none⟩ = some (.slice (some ⟨p.g, 0, none⟩) p.A.length p.ac)
  c1 : w.cell? ⟨p.pb, 1, none⟩ = some (.slice ra R.length rc)
  c2 : w.cell? ⟨p.pb, 2, none⟩ = some (.slice oa st.out.size oc)
  c3 : w.cell? ⟨p.pb, 3, none⟩ = some (.int .i64 (ctxO st.out))
  c4 : w.cell? ⟨p.pb, 4, none⟩ = some (.int .i64 st.steps)
  f1 : w.frozen? ⟨p.pb, 1, none⟩ = false
  f2 : w.frozen? ⟨p.pb, 2, none⟩ = false
  f3 : w.frozen? ⟨p.pb, 3, none⟩ = false
  f4 : w.frozen? ⟨p.pb, 4, none⟩ = false
  ownR : ∃ xs, w.ownsRow p.N 31 1 (.slice ra R.length rc) R.length xs ∧ EnvQ w p.N R xs
  neR : (Value.slice ra R.length rc).ownBlock ≠ some p.pb
  ownO : w.ownsRow (p.pb + 1) 5 1 (.slice oa st.out.size oc) st.out.size (Lib.strCells st.out)
  lt : p.pb < w.heap.size
  acts : AkAt p.s w p.g p.A
  glt : p.g < p.N
  le : p.N ≤ p.pb
  alen : p.A.length ≤ 1000
  ale : p.A.length ≤ p.ac
  acm : p.ac ≤ maxLen
  fit : Fit st
  ctx : 0 ≤ ctxO st.out
def WrOK (w : World) (p : WrP) (R : List Dat) (st : Pst) : Prop := ∃ ra rc oa oc, WrC w p ra rc oa oc R st
/-- a block of rows or of bytes -/
def tyIn (o : Option Obj) : Prop := ∃ cur fr, o = some (.cells cur 31 fr) ∨ o = some (.cells cur 5 fr)
/-- what a call on the writer may change -/
structure ChW (p : WrP) (w w' : World) : Prop where
  os : w'.os = w.os
  tape : w'.tape = w.tape
  output : w'.output = w.output
  size : w.heap.size ≤ w'.heap.size
  block : ∀ k, k < w.heap.size → k ≠ p.pb → (k < p.N ∨ ¬ tyIn w.heap[k]?) → w'.heap[k]? = w.heap[k]?
theorem ChW.refl (p : WrP) (w : World) : ChW p w w := ⟨rfl, rfl, rfl, Nat.le_refl _, fun _ _ _ _ => rfl⟩
theorem ChW.trans {p : WrP} {a b c : World} (h : ChW p a b) (k : ChW p b c) : ChW p a c := by
  refine ⟨k.os.trans h.os, k.tape.trans h.tape, k.output.trans h.output, Nat.le_trans h.size k.size, fun i h1 h2 h3 => ?_⟩
  have e := h.block i h1 h2 h3
  exact (k.block i (Nat.lt_of_lt_of_le h1 h.size) h2 (by rw [e]; exact h3)).trans e
theorem ChW.of_below {p : WrP} {w w' : World} (h : Below w.heap.size w w') : ChW p w w' := ⟨h.os, h.tape, h.output, h.size, fun k h1 _ _ => h.block k h1⟩
theorem ChW.alloc {p : WrP} {w w' : World} (h : ChW p w w') (o : Obj) : ChW p w (w'.alloc o) := h.trans (ChW.of_below ((Below.refl _ _).alloc (Nat.le_refl _) _))
theorem ChW.set {p : WrP} {w w' : World} (h : ChW p w w') (j : Nat) (v : Value) : ChW p w (w'.setCell ⟨p.pb, j, none⟩ v) :=
  h.trans ⟨rfl, rfl, rfl, by simp, fun k h1 h2 h3 => set_far w' p.pb j v k h2⟩
theorem ChW.low {p : WrP} {w w' : World} (h : ChW p w w') (hl : p.pb < w.heap.size) (hN : p.N ≤ p.pb) : ∀ k, k < p.N → w'.heap[k]? = w.heap[k]? := fun k hk => h.block k (by omega) (by omega) (.inl hk)
theorem ChW.below {p : WrP} {w w' : World} (h : ChW p w w') (hl : p.pb < w.heap.size) (hN : p.N ≤ p.pb) (n : Nat) (hn : n ≤ p.N) : Below n w w' :=
  ⟨h.os, h.tape, h.output, h.size, fun k hk => h.low hl hN k (by omega)⟩
theorem ownO_ty {w : World} {base ty : Nat} {v : Value} {n : Nat} {xs : List Value} {g : Nat} (h : w.ownsRow base ty 1 v n xs) (hg : v.ownBlock = some g) : ∃ cur, w.heap[g]? = some (.cells cur ty (0, 0)) := by
  rcases h.2 with ⟨rfl, _⟩ | ⟨g', cap, cur, rfl, _, hh, _⟩
  · cases hg
  · simp [Value.ownBlock] at hg; subst hg; exact ⟨cur, hh⟩
/-- rows and bytes never share a block -/
theorem own_apart {w : World} {b1 b2 : Nat} {v1 v2 : Value} {n1 n2 : Nat} {x1 x2 : List Value} (h1 : w.ownsRow b1 31 1 v1 n1 x1) (h2 : w.ownsRow b2 5 1 v2 n2 x2) (g : Nat) (e1 : v1.ownBlock = some g) (e2 : v2.ownBlock = some g) : False := by
  obtain ⟨c1, k1⟩ := ownO_ty h1 e1
  obtain ⟨c2, k2⟩ := ownO_ty h2 e2
  rw [k1] at k2
  simp at k2
theorem WrC.far {w w' : World} {p : WrP} {ra oa : Option Addr} {rc oc : Nat} {R : List Dat} {st : Pst} (h : WrC w p ra rc oa oc R st) (hs : w.heap.size ≤ w'.heap.size) (hb : ∀ k, k < w.heap.size → w'.heap[k]? = w.heap[k]?) : WrC w' p ra rc oa oc R st := by
  obtain ⟨c0, c1, c2, c3, c4, f1, f2, f3, f4, ⟨xs, o1, o2⟩, neR, oO, lt, acts, glt, le, alen, ale, acm, fit, ctx⟩ := h
  have e0 := hb p.pb lt
  have eg := hb p.g (by omega)
  exact ⟨(World.cell?_of_block e0).trans c0, (World.cell?_of_block e0).trans c1, (World.cell?_of_block e0).trans c2, (World.cell?_of_block e0).trans c3, (World.cell?_of_block e0).trans c4,
    (World.frozen?_of_block e0).trans f1, (World.frozen?_of_block e0).trans f2, (World.frozen?_of_block e0).trans f3, (World.frozen?_of_block e0).trans f4,
    ⟨xs, own_keep o1 (fun g hg => hb g (o1.lt g hg).2), EnvQ.mono (fun k hk => hb k (by omega)) R xs o2⟩, neR, own_keep oO (fun g hg => hb g (oO.lt g hg).2), by omega, acts.far eg, glt, le, alen, ale, acm, fit, ctx⟩
theorem WrC.below {w w' : World} {p : WrP} {ra oa : Option Addr} {rc oc : Nat} {R : List Dat} {st : Pst} (h : WrC w p ra rc oa oc R st) (hb : Below w.heap.size w w') : WrC w' p ra rc oa oc R st := h.far hb.size hb.block
theorem WrC.alloc {w : World} {p : WrP} {ra oa : Option Addr} {rc oc : Nat} {R : List Dat} {st : Pst} (h : WrC w p ra rc oa oc R st) (o : Obj) : WrC (w.alloc o) p ra rc oa oc R st := h.below ((Below.refl _ _).alloc (Nat.le_refl _) _)
/-- a step is done -/
theorem WrC.step {w : World} {p : WrP} {ra oa : Option Addr} {rc oc : Nat} {R : List Dat} {st : Pst} (h : WrC w p ra rc oa oc R st) (hs : st.steps < 500) : WrC (w.setCell ⟨p.pb, 4, none⟩ (.int .i64 (st.steps + 1))) p ra rc oa oc R { st with steps := st.steps + 1 } := by
  obtain ⟨c0, c1, c2, c3, c4, f1, f2, f3, f4, ⟨xs, o1, o2⟩, neR, oO, lt, acts, glt, le, alen, ale, acm, fit, ctx⟩ := h
  have oth : ∀ i, 4 ≠ i → (w.setCell ⟨p.pb, 4, none⟩ (.int .i64 (st.steps + 1))).cell? ⟨p.pb, i, none⟩ = w.cell? ⟨p.pb, i, none⟩ := fun i hi => cellO w _ _ _ _ hi
  have fr : ∀ k, k ≠ p.pb → (w.setCell ⟨p.pb, 4, none⟩ (.int .i64 (st.steps + 1))).heap[k]? = w.heap[k]? := fun k hk => set_far w _ _ _ k hk
  exact ⟨(oth 0 (by decide)).trans c0, (oth 1 (by decide)).trans c1, (oth 2 (by decide)).trans c2, (oth 3 (by decide)).trans c3, cellS _ c4, by simpa using f1, by simpa using f2, by simpa using f3, by simpa using f4,
    ⟨xs, own_keep o1 (fun g hg => fr g (fun e => neR (e ▸ hg))), EnvQ.mono (fun k hk => fr k (by omega)) R xs o2⟩, neR, own_keep oO (fun g hg => fr g (by have := (oO.lt g hg).1; omega)), by simpa using lt, acts.far (fr p.g (by omega)), glt, le, alen, ale, acm, ⟨fit.1, by simp only; omega⟩, ctx⟩
/-- the bytes are other ones -/
theorem WrC.put {w w' : World} {p : WrP} {ra oa oa' : Option Addr} {rc oc oc' : Nat} {R : List Dat} {st : Pst} {O : ByteArray} (h : WrC w p ra rc oa oc R st) (hos : w'.os = w.os) (htp : w'.tape = w.tape) (hou : w'.output = w.output) (hs : w.heap.size ≤ w'.heap.size)
    (hb : ∀ k, k < w.heap.size → k ≠ p.pb → (Value.slice oa st.out.size oc).ownBlock ≠ some k → w'.heap[k]? = w.heap[k]?)
    (c0 : w'.cell? ⟨p.pb, 0, none⟩ = w.cell? ⟨p.pb, 0, none⟩) (c1 : w'.cell? ⟨p.pb, 1, none⟩ = w.cell? ⟨p.pb, 1, none⟩) (c2 : w'.cell? ⟨p.pb, 2, none⟩ = some (.slice oa' O.size oc')) (c3 : w'.cell? ⟨p.pb, 3, none⟩ = some (.int .i64 (ctxO O))) (c4 : w'.cell? ⟨p.pb, 4, none⟩ = w.cell? ⟨p.pb, 4, none⟩)
    (hf : ∀ j, w.frozen? ⟨p.pb, j, none⟩ = false → w'.frozen? ⟨p.pb, j, none⟩ = false) (hO : w'.ownsRow (p.pb + 1) 5 1 (.slice oa' O.size oc') O.size (Lib.strCells O)) (hfit : O.size ≤ 2000) (hctx : 0 ≤ ctxO O) :
    WrC w' p ra rc oa' oc' R { st with out := O } ∧ ChW p w w' := by
  obtain ⟨d0, d1, d2, d3, d4, f1, f2, f3, f4, ⟨xs, o1, o2⟩, neR, oO, lt, acts, glt, le, alen, ale, acm, fit, ctx⟩ := h
  have low : ∀ k, k < p.N → w'.heap[k]? = w.heap[k]? := fun k hk => hb k (by omega) (by omega) (fun e => by have := (oO.lt k e).1; omega)
  refine ⟨⟨c0.trans d0, c1.trans d1, c2, c3, c4.trans d4, hf 1 f1, hf 2 f2, hf 3 f3, hf 4 f4, ⟨xs, own_keep o1 (fun g hg => hb g (o1.lt g hg).2 (fun e => neR (e ▸ hg)) (fun e => own_apart o1 oO g hg e)), EnvQ.mono low R xs o2⟩, neR, hO, by omega, acts.far (low p.g glt), glt, le, alen, ale, acm, ⟨hfit, fit.2⟩, hctx⟩, ⟨hos, htp, hou, hs, fun k h1 h2 h3 => hb k h1 h2 (fun e => ?_)⟩⟩
  rcases h3 with h3 | h3
  · have := (oO.lt k e).1; omega
  · obtain ⟨cur, q⟩ := ownO_ty oO e
    exact h3 ⟨cur, _, .inr q⟩
theorem WrC.rowAt {w : World} {p : WrP} {ra oa : Option Addr} {rc oc : Nat} {R : List Dat} {st : Pst} (h : WrC w p ra rc oa oc R st) (i : Nat) (hi : i < R.length) : ∃ g, ra = some ⟨g, 0, none⟩ ∧ R.length ≤ rc ∧ ∃ a c, w.cell? ⟨g, i, none⟩ = some (.slice a R[i].len c) ∧ DatV w p.N a R[i] ∧ R[i].ok false ∧ R[i].fits ∧ R[i].len ≤ c ∧ c ≤ maxLen := by
  obtain ⟨xs, o1, o2⟩ := h.ownR
  obtain ⟨a, c, k1, k2⟩ := EnvQ.at R xs i hi o2
  rcases o1.2 with ⟨_, h0⟩ | ⟨g, cap, cur, hv, hb, hg, hn, hm, hs, ht⟩
  · omega
  · simp at hv
    refine ⟨g, hv.1, by omega, a, c, ?_, k2⟩
    rw [cell_of_heap hg, ← k1, ← ht, List.getElem?_take_of_lt (by omega)]
    simp
end Go.Proofs.YtffkejkgkgfnhabGreat
namespace Go.Proofs.YtffkejkgkgfnhabGreat
open Go.RowKit
set_option linter.unusedVariables false
theorem bend_at (A : List Ak) (k d : Nat) (h : k < A.length) : bendF (A.drop k) d k = if d = 0 ∧ ebK A[k].kind = true then k else bendF (A.drop (k + 1)) (if A[k].kind = 4 ∨ A[k].kind = 6 then d + 1 else if A[k].kind = 7 then d - 1 else d) (k + 1) := by
  rw [List.drop_eq_getElem_cons h]; rfl
theorem b97 (k : Int) (w : World) : Calls Tryz.prog 93 #[.int .i64 k] w fun e w' => e = .returned (.bool (ebK k)) ∧ w' = w := by
  go_enter Tryz.func93, Tryz.ntmps93
  go_wp2
  all_goals go_ret
  all_goals refine ⟨ret_bool ?_, rfl⟩
  all_goals grind (splits := 40) [ebK]
set_option maxRecDepth 100000 in
set_option maxHeartbeats 2000000 in
theorem b117 (s : ByteArray) (w : World) (g ac : Nat) (A : List Ak) (i : Nat) (hi : i ≤ A.length) (hA : A.length ≤ 1000) (hat : AkAt s w g A) :
    Calls Tryz.prog 113 #[.slice (some ⟨g, 0, none⟩) A.length ac, .int .i64 i] w fun e w' => e = .returned (.int .i64 (endI A i)) ∧ w' = w := by
  have HAT := hidS hat
  clear hat
  go_enter Tryz.func113, Tryz.ntmps113
  go_wp2
  go_loop [5, 6] (fun dv iv => ∃ (d k : Nat), i ≤ k ∧ k ≤ A.length ∧ d ≤ k ∧ dv = .int .i64 d ∧ iv = .int .i64 k ∧ Hid (endI A i = bendF (A.drop k) d k)) (fun _ iv => A.length - (intOf iv).toNat)
  case atStart => exact ⟨0, i, Nat.le_refl _, hi, Nat.zero_le _, rfl, rfl, rfl⟩
  case round =>
    obtain ⟨d, k, h1, h2, hd, rfl, rfl, H⟩ := hrel
    by_cases hlt : k < A.length
    · obtain ⟨c0, _⟩ := HAT.out k hlt
      have HS := hidS (bend_at A k d hlt)
      have b1 : (k : Int) < (A.length : Int) := by omega
      generalize A[k].kind = kd at *
      by_cases hz : d = 0 ∧ ebK kd = true
      · have HF : Hid (endI A i = k) := by show _ = _; rw [H.out, HS.out, if_pos hz]
        obtain ⟨rfl, hz⟩ := hz
        have Hc := hidS (b97 kd w)
        rw [hz] at Hc
        clear H HS
        go_wp2_with (go_at_call 93; refine Hc.out.mono ?_; rintro e w' ⟨rfl, hw⟩; obtain rfl := hw.symm)
        go_ret
        exact ⟨ret_int (by rw [HF.out]), rfl⟩
      · have HF : Hid (endI A i = bendF (A.drop (k + 1)) (if kd = 4 ∨ kd = 6 then d + 1 else if kd = 7 then d - 1 else d) (k + 1)) := by show _ = _; rw [H.out, HS.out, if_neg hz]
        clear H HS
        have Hc : Hid (d = 0 → Calls Tryz.prog 93 #[.int .i64 kd] w fun e w' => e = .returned (.bool false) ∧ w' = w) := fun h0 => by
          have hf : ebK kd = false := by
            cases hq : ebK kd
            · rfl
            · exact absurd ⟨h0, hq⟩ hz
          have := b97 kd w
          rw [hf] at this
          exact this
        have hd7 : d = 0 → kd ≠ 7 := fun h0 h7 => hz ⟨h0, by subst h7; decide⟩
        clear hz
        by_cases h4 : kd = 4 ∨ kd = 6
        · rw [if_pos h4] at HF
          rcases h4 with rfl | rfl
          all_goals
            go_wp2_with (go_at_call 93; refine (Hc.out (by omega)).mono ?_; rintro e w' ⟨rfl, hw⟩; obtain rfl := hw.symm)
            all_goals (go_round)
            all_goals first | (show A.length - _ < _; simp [intOf]; omega) | exact ⟨d + 1, k + 1, by omega, by omega, by omega, by go_num, by go_num, HF.out⟩
        · rw [if_neg h4] at HF
          by_cases h7 : kd = 7
          · subst h7
            have hd0 : d ≠ 0 := fun h0 => hd7 h0 rfl
            have hne : ((d : Int) == 0) = false := by simp; omega
            rw [if_pos rfl] at HF
            have ed : ((d - 1 : Nat) : Int) = (d : Int) - 1 := by omega
            go_wp2_with (go_at_call 93; refine (Hc.out (by omega)).mono ?_; rintro e w' ⟨rfl, hw⟩; obtain rfl := hw.symm)
            all_goals (go_round)
            all_goals first | (show A.length - _ < _; simp [intOf]; omega) | exact ⟨d - 1, k + 1, by omega, by omega, by omega, by rw [ed], by go_num, HF.out⟩
          · rw [if_neg h7] at HF
            have e4 : (kd == 4) = false := by simp; omega
            have e6 : (kd == 6) = false := by simp; omega
            have e7 : (kd == 7) = false := by simp; omega
            go_wp2_with (go_at_call 93; refine (Hc.out (by omega)).mono ?_; rintro e w' ⟨rfl, hw⟩; obtain rfl := hw.symm)
            all_goals (go_round)
            all_goals first | (show A.length - _ < _; simp [intOf]; omega) | exact ⟨d, k + 1, by omega, by omega, by omega, by go_num, by go_num, HF.out⟩
    · have HF : Hid (endI A i = A.length) := by
        show _ = _
        rw [H.out, List.drop_eq_nil_of_le (by omega)]
        show k = _
        omega
      go_wp2
      go_ret
      exact ⟨ret_int (by rw [HF.out]), rfl⟩
set_option maxRecDepth 100000 in
set_option maxHeartbeats 2000000 in
theorem b95 (s : ByteArray) (w : World) (g ac : Nat) (A : List Ak) (i : Nat) (hi : i < A.length) (hA : A.length ≤ 1000) (hat : AkAt s w g A) :
    Calls Tryz.prog 91 #[.slice (some ⟨g, 0, none⟩) A.length ac, .int .i64 i] w fun e w' => e = .returned (.int .i64 (behF A i)) ∧ w' = w := by
  have HAT := hidS hat
  have Hc := hidS (fun (k : Nat) (hk : k ≤ A.length) => b117 s w g ac A k hk hA hat)
  obtain ⟨c0, _⟩ := hat i hi
  have hki := kAt_in A i hi
  clear hat
  have hl1 : endI A (i + 1) ≤ A.length := by
    have := bend_le (A.drop (i + 1)) 0 (i + 1)
    simp at this
    show bendF _ _ _ ≤ _
    omega
  have hg1 : i + 1 ≤ endI A (i + 1) := bend_ge _ _ _
  by_cases h4 : A[i].kind ≠ 4 ∧ A[i].kind ≠ 6
  · have HF : Hid (behF A i = i + 1) := by show _ = _; rw [behF, if_pos (by rw [hki]; exact h4)]
    generalize A[i].kind = kd at *
    obtain ⟨h4, h6⟩ := h4
    have e4 : (kd != 4) = true := by simpa using h4
    have e6 : (kd != 6) = true := by simpa using h6
    go_enter Tryz.func91, Tryz.ntmps91
    go_wp2
    go_ret
    exact ⟨ret_int (by rw [HF.out]; omega), rfl⟩
  · have HF : Hid (behF A i = if kAt A (endI A (i + 1)) = 5 then endI A (endI A (i + 1) + 1) + 1 else endI A (i + 1) + 1) := by show _ = _; rw [behF, if_neg (by rw [hki]; exact h4)]
    have H1 := hidS (Hc.out (i + 1) (by omega))
    have H2 := hidS (fun (h : endI A (i + 1) < A.length) => Hc.out (endI A (i + 1) + 1) (by omega))
    have hcast : ((i + 1 : Nat) : Int) = (i : Int) + 1 := by omega
    rw [hcast] at H1
    have hj : endI A (i + 1) < A.length → w.cell? ⟨g, endI A (i + 1) * 5, none⟩ = some (.int .i64 (kAt A (endI A (i + 1)))) := fun h => by
      rw [kAt_in A _ h]; exact (HAT.out _ h).1
    have hno : ¬ endI A (i + 1) < A.length → kAt A (endI A (i + 1)) ≠ 5 := fun h => by
      unfold kAt
      rw [List.getElem?_eq_none (by omega)]; decide
    have h46 : A[i].kind = 4 ∨ A[i].kind = 6 := by
      by_cases q : A[i].kind = 4
      · exact .inl q
      · by_cases q2 : A[i].kind = 6
        · exact .inr q2
        · exact absurd ⟨q, q2⟩ h4
    have hlE : endI A (endI A (i + 1) + 1) ≤ endI A (i + 1) + 1 + (A.drop (endI A (i + 1) + 1)).length := bend_le _ _ _
    clear h4 Hc HAT
    generalize endI A (endI A (i + 1) + 1) = J2 at *
    generalize hJ : endI A (i + 1) = J at *
    by_cases hlt : J < A.length
    · have cj := hj hlt
      have hcast2 : ((J + 1 : Nat) : Int) = (J : Int) + 1 := by omega
      have H3 := hidS (H2.out hlt)
      rw [hcast2] at H3
      have hJ2 : J2 ≤ A.length := by simp at hlE; omega
      generalize kAt A J = kj at *
      clear hj hno H2 hlE
      by_cases h5 : kj = 5
      · rw [if_pos h5] at HF
        subst h5
        rcases h46 with q | q
        all_goals
          rw [q] at c0
          clear hki q
          go_enter Tryz.func91, Tryz.ntmps91
          go_wp2_with fail
          refine H1.out.mono ?_
          rintro e w' ⟨rfl, hw⟩
          obtain rfl := hw.symm
          go_wp2_with fail
          refine H3.out.mono ?_
          rintro e w' ⟨rfl, hw⟩
          obtain rfl := hw.symm
          go_wp2
          go_ret
          exact ⟨ret_int (by rw [HF.out]; omega), rfl⟩
      · rw [if_neg h5] at HF
        have e5 : (kj == 5) = false := by simpa using h5
        rcases h46 with q | q
        all_goals
          rw [q] at c0
          clear hki q
          go_enter Tryz.func91, Tryz.ntmps91
          go_wp2_with fail
          refine H1.out.mono ?_
          rintro e w' ⟨rfl, hw⟩
          obtain rfl := hw.symm
          go_wp2
          go_ret
          exact ⟨ret_int (by rw [HF.out]; omega), rfl⟩
    · rw [if_neg (hno hlt)] at HF
      rcases h46 with q | q
      all_goals
        rw [q] at c0
        clear hki q hj hno H2
        go_enter Tryz.func91, Tryz.ntmps91
        go_wp2_with fail
        refine H1.out.mono ?_
        rintro e w' ⟨rfl, hw⟩
        obtain rfl := hw.symm
        go_wp2
        go_ret
        exact ⟨ret_int (by rw [HF.out]; omega), rfl⟩
end Go.Proofs.YtffkejkgkgfnhabGreat
namespace Go.Proofs.YtffkejkgkgfnhabGreat
open Go.RowKit
set_option linter.unusedVariables false
def WrPost (p : WrP) (R : List Dat) (st' : Pst) (w : World) (e : Ending) (w' : World) : Prop := e = .returned (.int .i64 st'.err) ∧ (st'.err = 0 → WrOK w' p R st') ∧ ChW p w w'
theorem wr_stop {p : WrP} {R : List Dat} {s' : Pst} {w w' : World} (x : Int) (h : s'.err = x) (hx : x ≠ 0) (hc : ChW p w w') : WrPost p R s' w (.returned (.int .i64 x)) w' := ⟨by rw [h], fun q => absurd (h ▸ q) hx, hc⟩
theorem wr_ok {p : WrP} {R : List Dat} {s' : Pst} {w w' : World} (h : s'.err = 0) (hw : WrOK w' p R s') (hc : ChW p w w') : WrPost p R s' w (.returned (.int .i64 0)) w' := ⟨by rw [h], fun _ => hw, hc⟩
set_option maxRecDepth 100000 in
theorem b118 (w : World) (pb n : Nat) (hn : n < 500) (h4 : w.cell? ⟨pb, 4, none⟩ = some (.int .i64 n)) (f4 : w.frozen? ⟨pb, 4, none⟩ = false) :
   Calls Tryz.prog 114 #[.pointer (some ⟨pb, 0, none⟩)] w fun e w' => e = .returned (.int .i64 0) ∧ w' = w.setCell ⟨pb, 4, none⟩ (.int .i64 (n + 1)) := by
  go_enter Tryz.func114, Tryz.ntmps114
  go_wp2
  go_ret
  exact ⟨rfl, rfl⟩
set_option maxRecDepth 100000 in
theorem b118no (w : World) (pb n : Nat) (hn : ¬ n < 500) (hn2 : n ≤ 500) (h4 : w.cell? ⟨pb, 4, none⟩ = some (.int .i64 n)) :
   Calls Tryz.prog 114 #[.pointer (some ⟨pb, 0, none⟩)] w fun e w' => e = .returned (.int .i64 12) ∧ w' = w := by
  go_enter Tryz.func114, Tryz.ntmps114
  go_wp2
  go_ret
  exact ⟨rfl, rfl⟩
theorem txtQ_at (t : ByteArray) (k : Nat) (h : k < t.size) (st : Pst) : txtF true (t.data.toList.drop k) st = if 2000 ≤ st.out.size then { st with err := 13 } else if true = true ∧ ctxO (st.out ++ byt t[k]) = -1 then { st with out := st.out ++ byt t[k], err := 9 } else txtF true (t.data.toList.drop (k + 1)) { st with out := st.out ++ byt t[k] } := by
  rw [List.drop_eq_getElem_cons (by simpa using h)]; rfl
theorem cells_byt (o : ByteArray) (b : UInt8) : Lib.strCells (o ++ byt b) = Lib.strCells o ++ [.int .u8 b.toNat] := by
  simp [Lib.strCells, byt]
theorem cells_app (o q : ByteArray) : Lib.strCells (o ++ q) = Lib.strCells o ++ Lib.strCells q := by
  simp [Lib.strCells]
theorem byte_cells (w : World) (x : Int) : ∀ (j : Nat) (u : Value), [Value.int .u8 x][j]? = some u → (w.alloc (.cells #[.int .u8 x] 5)).cell? ((⟨w.heap.size, 0, none⟩ : Addr).add j) = some u := by
  intro j u hj
  match j, hj with
  | 0, hj => simp at hj; subst hj; simp [Addr.add]
  | j + 1, hj => simp at hj
theorem byte_one (x : Int) : ∀ u ∈ [Value.int .u8 x], u.oneCell' = true := by
  intro u hu; simp at hu; subst hu; rfl
set_option maxRecDepth 100000 in
set_option maxHeartbeats 4000000 in
theorem b96 (w : World) (p : WrP) (R : List Dat) (st : Pst) (t : ByteArray) (ht : t.size ≤ 1000) (he : st.err = 0) (h : WrOK w p R st) :
   Calls Tryz.prog 92 #[.pointer (some ⟨p.pb, 0, none⟩), .string t] w (WrPost p R (txtF true t.data.toList st) w) := by
  obtain ⟨i0, hi, hz0, hz1, hzz⟩ := info_parts info5
  have HP := hidS h
  clear h
  go_enter Tryz.func92, Tryz.ntmps92
  go_wp2
  go_loopw [5] (fun i wr => ∃ (k : Nat) (s1 : Pst), k ≤ t.size ∧ i = .int .i64 k ∧ s1.err = 0 ∧ Hid (WrOK wr p R s1) ∧ Hid (txtF true t.data.toList st = txtF true (t.data.toList.drop k) s1) ∧ Hid (ChW p w wr)) (fun i _ => t.size - (intOf i).toNat)
  case atStart => exact ⟨0, st, Nat.zero_le _, rfl, he, HP.out, rfl, ChW.refl _ _⟩
  case round =>
    obtain ⟨k, s1, hk, rfl, he1, HW, HF, HC⟩ := hrel
    clear HP
    by_cases hlt : k < t.size
    · have HS := hidS (txtQ_at t k hlt s1)
      obtain ⟨ra, rc, oa, oc, hC⟩ := HW.out
      have c2 := hC.c2
      have c3 := hC.c3
      have f3 := hC.f3
      have hsz := hC.fit.1
      have hpl := hC.lt
      have hcx := hC.ctx
      have hcr := scn_range 0 s1.out.data.toList
      change _ ∧ ctxO s1.out ≤ 23 at hcr
      have HWC := hidS hC
      clear hC
      by_cases hfull : 2000 ≤ s1.out.size
      · have HE : Hid (txtF true t.data.toList st = { s1 with err := 13 }) := by
          show _ = _
          rw [HF.out, HS.out, if_pos hfull]
        go_wp2
        go_ret
        exact wr_stop 13 (by rw [HE.out]) (by decide) HC.out
      · have Hst := hidS (fun wx => c26 (ctxO s1.out) t[k].toNat wx (byte_ge _) (byte_le _) hcx hcr.2)
        have HX := hidS (ctxO_byt s1.out t[k])
        have hXr := stp_range (ctxO s1.out) t[k].toNat
        generalize hcc : ctxO s1.out = cx at *
        have HCC := hidS hcc
        clear hcc
        generalize stp cx t[k].toNat = X at *
        go_wp2_with fail
        go_region_with (first | (go_at_call 34; refine (Hst.out _).mono ?_; rintro e w' ⟨rfl, hw⟩; obtain rfl := hw.symm))
        all_goals
          have hD : Below wr.heap.size wr wr.drew := below_drewN (Below.refl _ _) 1
          have hW2c3 : (wr.setCell ⟨p.pb, 3, none⟩ (.int .i64 X)).drew.cell? ⟨p.pb, 3, none⟩ = some (.int .i64 X) := cellS _ c3
          have HL : Hid (ChW p w (wr.setCell ⟨p.pb, 3, none⟩ (.int .i64 X)).drew) := (HC.out.set 3 _).trans (ChW.of_below (below_drewN (Below.refl _ _) 1))
          by_cases hX : X = -1
          · have HE : Hid (txtF true t.data.toList st = { s1 with out := s1.out ++ byt t[k], err := 9 }) := by
              show _ = _
              rw [HF.out, HS.out, if_neg hfull, if_pos ⟨by trivial, by rw [HX.out]; exact hX⟩]
            subst hX
            go_wp2
            go_ret
            exact wr_stop 9 (by rw [HE.out]) (by decide) HL.out
          · have HE : Hid (txtF true t.data.toList st = txtF true (t.data.toList.drop (k + 1)) { s1 with out := s1.out ++ byt t[k] }) := by
              show _ = _
              rw [HF.out, HS.out, if_neg hfull, if_neg (fun q => hX (by rw [← HX.out]; exact q.2))]
            have hX' : (X == -1) = false := by simpa using hX
            have oO := HWC.out.ownO
            have oO2 : (wr.setCell ⟨p.pb, 3, none⟩ (.int .i64 X)).drew.ownsRow (p.pb + 1) 5 1 (.slice oa s1.out.size oc) s1.out.size (Lib.strCells s1.out) := own_keep oO (fun g hg => set_far wr _ _ _ g (by have := (oO.lt g hg).1; omega))
            have d2 : (wr.setCell ⟨p.pb, 3, none⟩ (.int .i64 X)).drew.cell? ⟨p.pb, 2, none⟩ = some (.slice oa s1.out.size oc) := (cellO wr _ _ _ _ (by decide)).trans c2
            have g2 : (wr.setCell ⟨p.pb, 3, none⟩ (.int .i64 X)).drew.frozen? ⟨p.pb, 2, none⟩ = false := by have := HWC.out.f2; simpa using this
            have hneP : some p.pb ≠ (Value.slice oa s1.out.size oc).ownBlock := fun e => by have := (oO.lt _ e.symm).1; omega
            have hp2 : p.pb < (wr.setCell ⟨p.pb, 3, none⟩ (.int .i64 X)).drew.heap.size := by simpa using hpl
            have HW2 : Hid (∀ k', k' < wr.heap.size → k' ≠ p.pb → (wr.setCell ⟨p.pb, 3, none⟩ (.int .i64 X)).drew.heap[k']? = wr.heap[k']?) := fun k' h1 h2 => set_far wr _ _ _ k' h2
            have HW2o : Hid (∀ j, j ≠ 3 → (wr.setCell ⟨p.pb, 3, none⟩ (.int .i64 X)).drew.cell? ⟨p.pb, j, none⟩ = wr.cell? ⟨p.pb, j, none⟩) := fun j hj => cellO wr _ _ _ _ (Ne.symm hj)
            have HW2f : Hid (∀ j, wr.frozen? ⟨p.pb, j, none⟩ = false → (wr.setCell ⟨p.pb, 3, none⟩ (.int .i64 X)).drew.frozen? ⟨p.pb, j, none⟩ = false) := fun j hj => by simpa using hj
            have HW2s : Hid ((wr.setCell ⟨p.pb, 3, none⟩ (.int .i64 X)).drew.heap.size = wr.heap.size) := by show _ = _; simp
            have HW2e : Hid ((wr.setCell ⟨p.pb, 3, none⟩ (.int .i64 X)).drew.os = wr.os ∧ (wr.setCell ⟨p.pb, 3, none⟩ (.int .i64 X)).drew.tape = wr.tape ∧ (wr.setCell ⟨p.pb, 3, none⟩ (.int .i64 X)).drew.output = wr.output) := ⟨rfl, rfl, rfl⟩
            generalize (wr.setCell ⟨p.pb, 3, none⟩ (.int .i64 X)).drew = w2 at *
            clear c2 c3 f3 HW Hst HS HF hD oO
            have hOs : (s1.out ++ byt t[k]).size = s1.out.size + 1 := by rw [ByteArray.size_append, byt_size]
            go_wp2
            go_region_law (refine step_append_lies _ rfl _ _ 76 rfl (p.pb + 1) 5 i0 (.int .u8 0) 1 1 Tryz.underlying76 hi hz0 hz1 hzz rfl (by decide) _ _ _ rfl (by first | exact own_keep (oO2.alloc _) (fun _ _ => rfl) | exact own_keep oO2 (fun _ _ => rfl)) ⟨w2.heap.size, 0, none⟩ 1 1 [.int .u8 t[k].toNat] rfl rfl (by exact byte_cells w2 _) (byte_one _) (by decide) (by unfold maxLen; omega) (by omega) (by simp; omega) _ rfl ?_; intro g cap w3 hown3 hg3 hat3 hlt3; have hbk : w3.heap[p.pb]? = w2.heap[p.pb]? := (hg3.block p.pb (by simp; omega) hneP).trans (Below.heap_alloc _ _ _ hp2); have q1 : w3.cell? ⟨p.pb, 2, none⟩ = some (.slice oa s1.out.size oc) := (World.cell?_of_block hbk).trans d2; have p1 : w3.frozen? ⟨p.pb, 2, none⟩ = false := (World.frozen?_of_block hbk).trans g2)
            all_goals
              have hsz3 : wr.heap.size ≤ w3.heap.size := by have := hg3.size; have := HW2s.out; simp at *; omega
              have hput := HWC.out.put (w' := w3.setCell ⟨p.pb, 2, none⟩ (.slice (some ⟨g, 0, none⟩) (s1.out.size + 1) cap)) (oa' := some ⟨g, 0, none⟩) (oc' := cap) (O := s1.out ++ byt t[k])
                (hg3.os.trans HW2e.out.1) (hg3.tape.trans HW2e.out.2.1) (hg3.output.trans HW2e.out.2.2) (by simpa using hsz3)
                (fun q h1 h2 h3 => (set_far w3 _ _ _ q h2).trans (((hg3.block q (by have := HW2s.out; simp; omega) (Ne.symm h3)).trans (Below.heap_alloc _ _ _ (by have := HW2s.out; omega))).trans (HW2.out q h1 h2)))
                ((cellO w3 _ _ _ _ (by decide)).trans ((World.cell?_of_block hbk).trans (HW2o.out 0 (by decide)))) ((cellO w3 _ _ _ _ (by decide)).trans ((World.cell?_of_block hbk).trans (HW2o.out 1 (by decide))))
                (by rw [hOs]; exact cellS _ q1) (by rw [HX.out]; exact (cellO w3 _ _ _ _ (by decide)).trans ((World.cell?_of_block hbk).trans hW2c3)) ((cellO w3 _ _ _ _ (by decide)).trans ((World.cell?_of_block hbk).trans (HW2o.out 4 (by decide))))
                (fun j hj => by have := (World.frozen?_of_block (a := ⟨p.pb, j, none⟩) hbk).trans (HW2f.out j hj); simpa using this)
                (by rw [hOs, cells_byt]; exact own_keep hown3 (fun q hq => set_far w3 _ _ _ q (by have := (hown3.lt q hq).1; omega))) (by rw [hOs]; omega) (by rw [HX.out]; omega)
              have HPUT := hidS hput
              clear hput hown3 hg3 hat3 hbk q1 p1 oO2 d2 g2 hW2c3 HW2 HW2o HW2f HW2e
              generalize w3.setCell ⟨p.pb, 2, none⟩ (.slice (some ⟨g, 0, none⟩) (s1.out.size + 1) cap) = w4 at *
              go_wp2
              exact ⟨⟨k + 1, { s1 with out := s1.out ++ byt t[k] }, by omega, by go_num, he1, ⟨ra, rc, _, _, HPUT.out.1⟩, HE.out, HC.out.trans HPUT.out.2⟩, by simp [intOf]; omega⟩
    · have HE : Hid (txtF true t.data.toList st = s1) := by
        show _ = _
        rw [HF.out, List.drop_eq_nil_of_le (by simp; omega)]; rfl
      go_wp2
      go_ret
      exact wr_ok (by rw [HE.out]; exact he1) (by rw [HE.out]; exact HW.out) HC.out
end Go.Proofs.YtffkejkgkgfnhabGreat
