import Derived.Test.YtffkejkgkgfnhabGreatG15
import Derived.Test.YtffkejkgkgfnhabGreatG14
import Derived.Deep.RegionLaw
namespace Go.Proofs.YtffkejkgkgfnhabGreat
open Go.RowKit
set_option linter.unusedVariables false
theorem ext_byt (t : ByteArray) (k : Nat) (h : k < t.size) : t.extract k (k + 1) = byt t[k] := by
  apply ByteArray.ext
  apply Array.ext
  · simp [byt]; omega
  · intro i h1 h2
    simp [byt] at h1 h2 ⊢
    have : i = 0 := by omega
    subst this
    simp; rfl
theorem txtF_at (tr : Bool) (t : ByteArray) (k : Nat) (h : k < t.size) (st : Pst) : txtF tr (t.data.toList.drop k) st = if 2000 ≤ st.out.size then { st with err := 13 } else if tr = true ∧ ctxO (st.out ++ byt t[k]) = -1 then { st with out := st.out ++ byt t[k], err := 9 } else txtF tr (t.data.toList.drop (k + 1)) { st with out := st.out ++ byt t[k] } := by
  rw [List.drop_eq_getElem_cons (by simpa using h)]; rfl
set_option maxRecDepth 100000 in
set_option maxHeartbeats 2000000 in
theorem r76 (w : World) (p : PgP) (ra : Option Addr) (rc : Nat) (R : List Dat) (st : Pst) (t : ByteArray) (ht : t.size ≤ 1000) (h : PgOK w p ra rc R st) :
   Calls Tryz.prog 75 #[.pointer (some ⟨p.pb, 0, none⟩), .string t] w fun e w' => e = .returned (.tuple #[]) ∧ PgOK w' p ra rc R (txtF p.tr t.data.toList st) ∧ ChP p.pb (.slice ra R.length rc) (.slice ra R.length rc) w w' := by
  have HP := hidS h
  clear h
  go_enter Tryz.func75, Tryz.ntmps75
  go_wp2
  go_loopw [4, 5] (fun i _ wr => ∃ (k : Nat) (s1 : Pst), k ≤ t.size ∧ i = .int .i64 k ∧ Hid (PgOK wr p ra rc R s1) ∧ Hid (txtF p.tr t.data.toList st = txtF p.tr (t.data.toList.drop k) s1) ∧ Hid (ChP p.pb (.slice ra R.length rc) (.slice ra R.length rc) w wr)) (fun i _ _ => t.size - (intOf i).toNat)
  case atStart => exact ⟨0, st, Nat.zero_le _, rfl, HP.out, rfl, ChP.refl _ _ _⟩
  case round =>
    obtain ⟨k, s1, hk, rfl, HP1, HF, HC⟩ := hrel
    clear HP
    by_cases hlt : k < t.size
    · have HS := hidS (txtF_at p.tr t k hlt s1)
      have HX := hidS (ext_byt t k hlt)
      have c1 := HP1.out.c1
      have c3 := HP1.out.c3
      have c5 := HP1.out.c5
      have f3 := HP1.out.f3
      have f5 := HP1.out.f5
      have hsz := HP1.out.fit.1
      by_cases hfull : 2000 ≤ s1.out.size
      · have HE : Hid (txtF p.tr t.data.toList st = { s1 with err := 13 }) := by
          show _ = _
          rw [HF.out, HS.out, if_pos hfull]
        go_wp2
        refine bodyPost_ret (results_none rfl _ _ _) rfl ?_
        exact ⟨rfl, by rw [HE.out]; exact HP1.out.set { s1 with err := 13 } 5 _ (.inr (.inr ⟨rfl, rfl, rfl, rfl⟩)) HP1.out.fit, HC.out.set 5 _⟩
      · go_wp2_with fail
        go_region
        have hfit : Fit { s1 with out := s1.out ++ byt t[k] } := ⟨by simp only [ByteArray.size_append, byt_size]; omega, HP1.out.fit.2⟩
        have hP2 := (HP1.out.set { s1 with out := s1.out ++ byt t[k] } 3 (.string (s1.out ++ t.extract k (k + 1))) (.inl ⟨rfl, by rw [HX.out], rfl, rfl⟩) hfit).below (below_drewN (Below.refl _ _) 1)
        have hC2 : ChP p.pb (.slice ra R.length rc) (.slice ra R.length rc) w (wr.setCell ⟨p.pb, 3, none⟩ (.string (s1.out ++ t.extract k (k + 1)))).drew := (HC.out.set 3 _).trans (ChP.of_below (below_drewN (Below.refl _ _) 1))
        change PgOK (wr.setCell ⟨p.pb, 3, none⟩ (.string (s1.out ++ t.extract k (k + 1)))).drew _ _ _ _ _ at hP2
        generalize (wr.setCell ⟨p.pb, 3, none⟩ (.string (s1.out ++ t.extract k (k + 1)))).drew = w2 at *
        rw [HX.out]
        generalize hO : s1.out ++ byt t[k] = O at *
        clear c1 c3 c5 f3 f5
        have HP2 := hidS hP2
        have HC2 := hidS hC2
        have c1 := hP2.c1
        have c3 := hP2.c3
        have c5 := hP2.c5
        have f5 := hP2.f5
        have hOs : O.size ≤ 2000 := hP2.fit.1
        clear hP2 hC2 hO HX
        have HSc := hidS (c22 0 O w2 (by unfold maxLen; omega))
        change Hid (Calls Tryz.prog 10 _ w2 fun e w' => e = .returned (.int .i64 (ctxO O)) ∧ w' = w2) at HSc
        by_cases hT : p.tr = true ∧ ctxO O = -1
        · have HE : Hid (txtF p.tr t.data.toList st = { s1 with out := O, err := 9 }) := by
            show _ = _
            rw [HF.out, HS.out, if_neg hfull, if_pos hT]
          obtain ⟨ht1, ht2⟩ := hT
          rw [ht1] at c1
          rw [ht2] at HSc
          go_wp2_with (go_at_call 10; refine HSc.out.mono ?_; rintro e w' ⟨rfl, hw⟩; obtain rfl := hw.symm)
          refine bodyPost_ret (results_none rfl _ _ _) rfl ?_
          exact ⟨rfl, by rw [HE.out]; exact HP2.out.set { s1 with out := O, err := 9 } 5 _ (.inr (.inr ⟨rfl, rfl, rfl, rfl⟩)) HP2.out.fit, HC2.out.set 5 _⟩
        · have HE : Hid (txtF p.tr t.data.toList st = txtF p.tr (t.data.toList.drop (k + 1)) { s1 with out := O }) := by
            show _ = _
            rw [HF.out, HS.out, if_neg hfull, if_neg hT]
          cases htr : p.tr
          · rw [htr] at c1
            clear hT
            go_wp2_with (go_at_call 10; refine HSc.out.mono ?_; rintro e w' ⟨rfl, hw⟩; obtain rfl := hw.symm)
            exact ⟨⟨k + 1, { s1 with out := O }, by omega, by go_num, HP2.out, HE.out, HC2.out⟩, by simp [intOf]; omega⟩
          · have hne : (ctxO O == -1) = false := by simpa [htr] using hT
            rw [htr] at c1
            clear hT
            go_wp2_with (go_at_call 10; refine HSc.out.mono ?_; rintro e w' ⟨rfl, hw⟩; obtain rfl := hw.symm)
            exact ⟨⟨k + 1, { s1 with out := O }, by omega, by go_num, HP2.out, HE.out, HC2.out⟩, by simp [intOf]; omega⟩
    · have HE : Hid (txtF p.tr t.data.toList st = s1) := by
        show _ = _
        rw [HF.out, List.drop_eq_nil_of_le (by simp; omega)]; rfl
      go_wp2
      go_end0
      exact ⟨rfl, by rw [HE.out]; exact HP1.out, HC.out⟩
end Go.Proofs.YtffkejkgkgfnhabGreat
namespace Go.Proofs.YtffkejkgkgfnhabGreat
open Go.RowKit
set_option linter.unusedVariables false
theorem escB_size (x : Int) (t : ByteArray) (h : t.size ≤ 1048576) : (escB x t).size ≤ 6291458 := by
  unfold escB
  rw [strOfNums_size]
  have h1 := mid_len x t.data.toList
  have h2 := (pre_ok x).2
  have h3 : t.data.toList.length = t.size := by simp
  simp only [escL, acc, List.length_append]
  omega
def kndF (l : Bool) (t : ByteArray) (st : Pst) : Pst := if l = true then { st with err := 8 } else holF t st
set_option maxRecDepth 100000 in
set_option maxHeartbeats 2000000 in
theorem r94 (w : World) (p : PgP) (ra : Option Addr) (rc : Nat) (R : List Dat) (st : Pst) (n t : ByteArray) (l : Bool) (fa : Option Addr) (fl fc : Nat) (ht : t.size ≤ 1048576) (h : PgOK w p ra rc R st) :
   Calls Tryz.prog 97 #[.pointer (some ⟨p.pb, 0, none⟩), .agg #[.string n, .bool l, .string t, .slice fa fl fc]] w fun e w' => e = .returned (.tuple #[]) ∧ PgOK w' p ra rc R (kndF l t st) ∧ ChP p.pb (.slice ra R.length rc) (.slice ra R.length rc) w w' := by
  have HP := hidS h
  have c3 := h.c3
  have c5 := h.c5
  have f3 := h.f3
  have f5 := h.f5
  have hlt := h.lt
  have hsz := h.fit.1
  clear h
  cases l
  · have HSc := hidS (fun o => c22 0 st.out (w.alloc o) (by unfold maxLen; omega))
    change Hid (∀ o, Calls Tryz.prog 10 _ (w.alloc o) fun e w' => e = .returned (.int .i64 (ctxO st.out)) ∧ w' = (w.alloc o)) at HSc
    have HK : Hid (kndF false t st = holF t st) := rfl
    cases hop : opB (ctxO st.out)
    · have HE : Hid (kndF false t st = { st with err := 10 }) := by show _ = _; rw [HK.out, holF, hop]; rfl
      have Hes := hidS (fun w' => c23no (ctxO st.out) t w' hop)
      clear hop
      go_enter Tryz.func97, Tryz.ntmps97
      go_wp2_with (first | (go_at_call 10; refine (HSc.out _).mono ?_; rintro e w' ⟨rfl, hw⟩; obtain rfl := hw.symm) | (go_at_call 12; refine (Hes.out _).mono ?_; rintro e w' ⟨rfl, hw⟩; obtain rfl := hw.symm))
      refine bodyPost_ret (results_none rfl _ _ _) rfl ?_
      exact ⟨rfl, by rw [HE.out]; exact (HP.out.set { st with err := 10 } 5 _ (.inr (.inr ⟨rfl, rfl, rfl, rfl⟩)) HP.out.fit).alloc _, ((ChP.refl _ _ _).set 5 _).alloc _⟩
    · have Hes := hidS (fun w' => c23 (ctxO st.out) t w' hop ht)
      have HK2 : Hid (kndF false t st = if 2000 < st.out.size + (escB (ctxO st.out) t).size then { st with err := 13 } else { st with out := st.out ++ escB (ctxO st.out) t }) := by show _ = _; rw [HK.out, holF, if_pos hop]
      have hel : (escB (ctxO st.out) t).size ≤ 6291458 := escB_size _ _ ht
      clear hop HK
      change Hid (∀ w' : World, Calls Tryz.prog 12 _ w' fun e w2 => e = .returned (.tuple #[.string (escB (ctxO st.out) t), .int .i64 0]) ∧ Below w'.heap.size w' w2) at Hes
      generalize hE : escB (ctxO st.out) t = E at *
      generalize hX : ctxO st.out = X at *
      clear hE hX
      go_enter Tryz.func97, Tryz.ntmps97
      go_wp2_with (first | (go_at_call 10; refine (HSc.out _).mono ?_; rintro e w' ⟨rfl, hw⟩; obtain rfl := hw.symm))
      refine (Hes.out _).mono ?_
      rintro e w1 ⟨rfl, hb1⟩
      have hP1 := (HP.out.alloc (.cells #[.string n, .bool false, .string t, .slice fa fl fc] 88)).below hb1
      have HC1 : Hid (ChP p.pb (.slice ra R.length rc) (.slice ra R.length rc) w w1) := ((ChP.refl _ _ _).alloc _).trans (ChP.of_below hb1)
      have HP1 := hidS hP1
      clear c3 c5 f3 f5 hb1
      have c3 := hP1.c3
      have c5 := hP1.c5
      have f3 := hP1.f3
      have f5 := hP1.f5
      clear hP1 Hes HSc
      by_cases hfull : 2000 < st.out.size + E.size
      · have HE : Hid (kndF false t st = { st with err := 13 }) := by show _ = _; rw [HK2.out, if_pos hfull]
        go_wp2
        refine bodyPost_ret (results_none rfl _ _ _) rfl ?_
        exact ⟨rfl, by rw [HE.out]; exact HP1.out.set { st with err := 13 } 5 _ (.inr (.inr ⟨rfl, rfl, rfl, rfl⟩)) HP1.out.fit, HC1.out.set 5 _⟩
      · have HE : Hid (kndF false t st = { st with out := st.out ++ E }) := by show _ = _; rw [HK2.out, if_neg hfull]
        go_wp2
        go_end0
        exact ⟨rfl, by rw [HE.out]; exact HP1.out.set { st with out := st.out ++ E } 3 _ (.inl ⟨rfl, rfl, rfl, rfl⟩) ⟨by simp only [ByteArray.size_append]; omega, HP1.out.fit.2⟩, HC1.out.set 3 _⟩
  · have HE : Hid (kndF true t st = { st with err := 8 }) := rfl
    go_enter Tryz.func97, Tryz.ntmps97
    go_wp2
    refine bodyPost_ret (results_none rfl _ _ _) rfl ?_
    exact ⟨rfl, by rw [HE.out]; exact (HP.out.set { st with err := 8 } 5 _ (.inr (.inr ⟨rfl, rfl, rfl, rfl⟩)) HP.out.fit).alloc _, ((ChP.refl _ _ _).set 5 _).alloc _⟩
end Go.Proofs.YtffkejkgkgfnhabGreat
namespace Go.Proofs.YtffkejkgkgfnhabGreat
open Go.RowKit
set_option linter.unusedVariables false
structure TmE (w : World) (p : PgP) : Prop where
  tm : SlcX w (fun k => k < p.N) 72 3 (.slice p.la p.ts.length p.lc) p.ts.length (RowT w (fun k => k < p.N) p.ts)
  six : p.ts.length ≤ 6
  wf : ∀ i (hi : i < p.ts.length), WfN p.ts p.ts[i].body ∧ p.ts[i].body.sz ≤ 1000
theorem TmE.mono {w w' : World} {p : PgP} (h : TmE w p) (hw : ∀ k, k < p.N → w'.heap[k]? = w.heap[k]?) : TmE w' p :=
  ⟨SlcX.mono h.tm hw (fun _ q => q) (fun xs => RowT.mono hw (fun _ q => q) p.ts xs), h.six, h.wf⟩
theorem ChP.low {w w' : World} {p : PgP} {ra : Option Addr} {rc : Nat} {R : List Dat} {st : Pst} {rv' : Value} (h : ChP p.pb (.slice ra R.length rc) rv' w w') (hP : PgOK w p ra rc R st) : ∀ k, k < p.N → w'.heap[k]? = w.heap[k]? := by
  intro k hk
  have h1 := hP.le
  have h2 := hP.lt
  refine h.block k (by omega) (by omega) (fun e => ?_)
  have := (hP.own_lt k e).1
  omega
def BodOK (n : Nat) : Prop := ∀ (w : World) (p : PgP) (ra : Option Addr) (rc : Nat) (R : List Dat) (st : Pst) (a : Option Addr) (c : Nat) (b : Nds), 500 ≤ st.steps + n → R.length ≤ st.steps + 1 → TmE w p → WfN p.ts b → b.sz ≤ 1000 → Slc w (fun k => k < p.N) 102 (.slice a b.len c) b → PgOK w p ra rc R st →
  Calls Tryz.prog 49 #[.pointer (some ⟨p.pb, 0, none⟩), .slice a b.len c] w fun e w' => e = .returned (.tuple #[]) ∧ ∃ ra' rc', PgOK w' p ra' rc' R (pagF p.ts p.tr n b R st) ∧ ChP p.pb (.slice ra R.length rc) (.slice ra' R.length rc') w w'
def lpsF (B : Nds → List Dat → Pst → Pst) (th : Nds) (R : List Dat) (l : Bool) (rows : Dat) (st : Pst) : Pst := if l = true then lopF B th R rows st else { st with err := 8 }
theorem lopF_at {B : Nds → List Dat → Pst → Pst} {th : Nds} {R : List Dat} {d f : Dat} {i : Nat} (e : d.drop i = .row f (d.drop (i + 1))) (st : Pst) : lopF B th R (d.drop i) st = if st.err ≠ 0 then st else if 500 ≤ st.steps then { st with err := 12 } else lopF B th R (d.drop (i + 1)) (B th (R ++ [f]) { st with steps := st.steps + 1 }) := by
  rw [e]; rfl
theorem infoRow : (Tryz.prog.info? 31).map (fun i => (i.zero, i.size, i.bytes)) = some (some (.agg #[.slice none 0 0]), 1, 24) := by kernel_rfl
theorem row_cells (w : World) (a : Option Addr) (n c : Nat) : ∀ (j : Nat) (u : Value), [Value.slice a n c][j]? = some u → (w.alloc (.cells #[.slice a n c] 31)).cell? ((⟨w.heap.size, 0, none⟩ : Addr).add j) = some u := by
  intro j u hj
  match j, hj with
  | 0, hj => simp at hj; subst hj; simp [Addr.add]
  | j + 1, hj => simp at hj
theorem row_one (a : Option Addr) (n c : Nat) : ∀ u ∈ [Value.slice a n c], u.oneCell' = true := by
  intro u hu; simp at hu; subst hu; rfl
theorem EnvOK.front {w : World} {N : Nat} {f : Dat} : ∀ (R : List Dat) (xs : List Value), EnvOK w N (R ++ [f]) xs → EnvOK w N R (xs.take R.length)
  | [], xs, h => by simp [EnvOK]
  | d :: R, xs, h => by
    obtain ⟨a, c, ys, rfl, h2, h3, h4, h5, h6, h7⟩ := h
    exact ⟨a, c, ys.take R.length, by simp, h2, h3, h4, h5, h6, EnvOK.front R ys h7⟩
/-- a row more -/
theorem pg_push {w w1 : World} {p : PgP} {ra a1 : Option Addr} {rc c1 g cap : Nat} {R : List Dat} {s : Pst} {f : Dat} {xs : List Value} (hP : PgOK w p ra rc R s) (hE : EnvOK w p.N R xs) (hos : w1.os = w.os) (htp : w1.tape = w.tape) (hou : w1.output = w.output) (hsz : w.heap.size ≤ w1.heap.size)
    (hblk : ∀ k, k < w.heap.size → some k ≠ (Value.slice ra R.length rc).ownBlock → w1.heap[k]? = w.heap[k]?) (hown : w1.ownsRow (p.pb + 1) 31 1 (.slice (some ⟨g, 0, none⟩) (R.length + 1) cap) (R.length + 1) (xs ++ [.slice a1 f.len c1]))
    (hat : (Value.slice ra R.length rc).ownBlock = some g ∨ w.heap.size ≤ g) (hV : DatV w p.N a1 f) (hok : f.ok false) (hbk : f.bulk ≤ 1048576) (hl : f.len ≤ c1) (hc : c1 ≤ maxLen) :
    PgOK (w1.setCell ⟨p.pb, 2, none⟩ (.slice (some ⟨g, 0, none⟩) (R.length + 1) cap)) p (some ⟨g, 0, none⟩) cap (R ++ [f]) s ∧ ChP p.pb (.slice ra R.length rc) (.slice (some ⟨g, 0, none⟩) (R.length + 1) cap) w (w1.setCell ⟨p.pb, 2, none⟩ (.slice (some ⟨g, 0, none⟩) (R.length + 1) cap)) := by
  have hpl := hP.lt
  have hle := hP.le
  have hol := hP.own_lt
  have hpb : w1.heap[p.pb]? = w.heap[p.pb]? := hblk p.pb hpl (fun e => by have := (hol _ e.symm).1; omega)
  have hlow : ∀ k, k < p.N → w1.heap[k]? = w.heap[k]? := fun k hk => hblk k (by omega) (fun e => by have := (hol _ e.symm).1; omega)
  have eL : (R ++ [f]).length = R.length + 1 := by simp
  constructor
  · obtain ⟨c0, c1', c2, c3, c4, c5, f2, f3, f4, f5, _, lt, le, fit⟩ := hP
    have cc : ∀ {j v}, w.cell? ⟨p.pb, j, none⟩ = some v → j ≠ 2 → (w1.setCell ⟨p.pb, 2, none⟩ (.slice (some ⟨g, 0, none⟩) (R.length + 1) cap)).cell? ⟨p.pb, j, none⟩ = some v := fun h hj => (cellO w1 _ _ _ _ (Ne.symm hj)).trans ((World.cell?_of_block hpb).trans h)
    have ff : ∀ {j}, w.frozen? ⟨p.pb, j, none⟩ = false → (w1.setCell ⟨p.pb, 2, none⟩ (.slice (some ⟨g, 0, none⟩) (R.length + 1) cap)).frozen? ⟨p.pb, j, none⟩ = false := fun h => by
      have := (World.frozen?_of_block hpb).trans h
      simpa using this
    refine ⟨cc c0 (by decide), cc c1' (by decide), ?_, cc c3 (by decide), cc c4 (by decide), cc c5 (by decide), ff f2, ff f3, ff f4, ff f5, ⟨xs ++ [.slice a1 f.len c1], ?_, ?_⟩, by simp; omega, le, fit⟩
    · rw [eL]; exact cellS _ ((World.cell?_of_block hpb).trans c2)
    · rw [eL]; exact own_keep hown (fun k hk => set_far w1 _ _ _ k (by have := (hown.lt k hk).1; omega))
    · have hh : ∀ k, k < p.N → (w1.setCell ⟨p.pb, 2, none⟩ (.slice (some ⟨g, 0, none⟩) (R.length + 1) cap)).heap[k]? = w.heap[k]? := fun k hk => (set_far w1 _ _ _ k (by omega)).trans (hlow k hk)
      exact EnvOK.snoc (hV.mono (Nat.le_refl _) hh) hok hbk hl hc R xs (EnvOK.mono hh R xs hE)
  · refine ⟨hos, htp, hou, by simpa using hsz, fun k h1 h2 h3 => (set_far w1 _ _ _ k h2).trans (hblk k h1 (Ne.symm h3)), fun k hk => ?_⟩
    simp [Value.ownBlock] at hk
    subst hk
    exact hat
/-- a row fewer -/
theorem pg_pop {w : World} {p : PgP} {ra : Option Addr} {rc : Nat} {R : List Dat} {s : Pst} {f : Dat} (hP : PgOK w p ra rc (R ++ [f]) s) : PgOK (w.setCell ⟨p.pb, 2, none⟩ (.slice ra R.length rc)) p ra rc R s ∧ ChP p.pb (.slice ra (R ++ [f]).length rc) (.slice ra R.length rc) w (w.setCell ⟨p.pb, 2, none⟩ (.slice ra R.length rc)) := by
  have hol := hP.own_lt
  have eL : (R ++ [f]).length = R.length + 1 := by simp
  obtain ⟨c0, c1', c2, c3, c4, c5, f2, f3, f4, f5, ⟨xs, o1, o2⟩, lt, le, fit⟩ := hP
  have ob : (Value.slice ra R.length rc).ownBlock = (Value.slice ra (R ++ [f]).length rc).ownBlock := by cases ra <;> rfl
  constructor
  · have cc : ∀ {j v}, w.cell? ⟨p.pb, j, none⟩ = some v → j ≠ 2 → (w.setCell ⟨p.pb, 2, none⟩ (.slice ra R.length rc)).cell? ⟨p.pb, j, none⟩ = some v := fun h hj => (cellO w _ _ _ _ (Ne.symm hj)).trans h
    refine ⟨cc c0 (by decide), cc c1' (by decide), cellS _ c2, cc c3 (by decide), cc c4 (by decide), cc c5 (by decide), by simpa using f2, by simpa using f3, by simpa using f4, by simpa using f5, ⟨xs.take R.length, ?_, ?_⟩, by simpa using lt, le, fit⟩
    · have o1' : w.ownsRow (p.pb + 1) 31 1 (.slice ra R.length rc) R.length (xs.take R.length) := by
        refine ⟨?_, ?_⟩
        · have := o1.1; rw [eL] at this; simp [this]
        · rcases o1.2 with ⟨_, h0⟩ | ⟨g, cap, cur, hv, hb, hg, hn, hm, hs, ht⟩
          · rw [eL] at h0; omega
          · rw [eL] at hv hn ht
            simp at hv
            obtain ⟨rfl, rfl⟩ := hv
            refine .inr ⟨g, rc, cur, rfl, hb, hg, by omega, hm, hs, ?_⟩
            rw [← ht, List.take_take]
            congr 1
            omega
      exact own_keep o1' (fun k hk => set_far w _ _ _ k (by have := (hol k (ob ▸ hk)).1; omega))
    · exact EnvOK.mono (fun k hk => set_far w _ _ _ k (by omega)) R _ (EnvOK.front R xs o2)
  · exact ⟨rfl, rfl, rfl, by simp, fun k h1 h2 h3 => set_far w _ _ _ k h2, fun k hk => .inl (ob ▸ hk)⟩
set_option maxRecDepth 100000 in
set_option maxHeartbeats 4000000 in
theorem r95 (m : Nat) (hB : BodOK m) (w : World) (p : PgP) (ra : Option Addr) (rc : Nat) (R : List Dat) (st : Pst) (n t : ByteArray) (l : Bool) (rows : Dat) (fa : Option Addr) (fc : Nat) (a : Option Addr) (c : Nat) (b : Nds)
   (hm : 500 ≤ st.steps + m) (hR : R.length ≤ st.steps + 1) (hT : TmE w p) (hwf : WfN p.ts b) (hsz : b.sz ≤ 1000) (hS : Slc w (fun k => k < p.N) 102 (.slice a b.len c) b)
   (hV : DatV w p.N fa rows) (hok : rows.ok true) (hbk : rows.bulk ≤ 1048576) (hlc : rows.len ≤ fc) (hfc : fc ≤ maxLen) (h : PgOK w p ra rc R st) :
   Calls Tryz.prog 98 #[.pointer (some ⟨p.pb, 0, none⟩), .agg #[.string n, .bool l, .string t, .slice fa rows.len fc], .slice a b.len c] w fun e w' => e = .returned (.tuple #[]) ∧ ∃ ra' rc', PgOK w' p ra' rc' R (lpsF (pagF p.ts p.tr m) b R l rows st) ∧ ChP p.pb (.slice ra R.length rc) (.slice ra' R.length rc') w w' := by
  have HP := hidS h
  have c5 := h.c5
  have f5 := h.f5
  have hlt := h.lt
  have hfit := h.fit.2
  obtain ⟨i0, hi, hz0, hz1, hzz⟩ := info_parts infoRow
  have hrl : rows.len ≤ 1048576 := Nat.le_trans (Dat.len_bulk _) hbk
  cases l
  · have HE : Hid (lpsF (pagF p.ts p.tr m) b R false rows st = { st with err := 8 }) := rfl
    clear h hT hS hV hok hbk
    generalize b.len = bl at *
    generalize rows.len = rl at *
    go_enter Tryz.func98, Tryz.ntmps98
    go_wp2
    refine bodyPost_ret (results_none rfl _ _ _) rfl ?_
    exact ⟨rfl, ra, rc, by rw [HE.out]; exact (HP.out.set { st with err := 8 } 5 _ (.inr (.inr ⟨rfl, rfl, rfl, rfl⟩)) HP.out.fit).alloc _, ((ChP.refl _ _ _).set 5 _).alloc _⟩
  · have HE : Hid (lpsF (pagF p.ts p.tr m) b R true rows st = lopF (pagF p.ts p.tr m) b R rows st) := rfl
    have HB := hidS hB
    have HT := hidS hT
    have HWF := hidS hwf
    have HS := hidS hS
    have HV := hidS hV
    have HO := hidS hok
    have HBK := hidS hbk
    clear h hB hT hwf hS hV hok hbk c5 f5
    generalize hbl : b.len = bl at *
    have HBL := hidS hbl
    clear hbl
    go_enter Tryz.func98, Tryz.ntmps98
    go_wp2
    go_loopw [6, 7, 8] (fun i _ _ wr => ∃ (k : Nat) (s1 : Pst) (ra1 : Option Addr) (rc1 : Nat), k ≤ rows.len ∧ i = .int .i64 k ∧ st.steps ≤ s1.steps ∧ Hid (PgOK wr p ra1 rc1 R s1) ∧ Hid (lopF (pagF p.ts p.tr m) b R rows st = lopF (pagF p.ts p.tr m) b R (rows.drop k) s1) ∧ Hid (ChP p.pb (.slice ra R.length rc) (.slice ra1 R.length rc1) w wr) ∧
      wr.cell? ⟨w.heap.size, 3, none⟩ = some (.slice fa rows.len fc) ∧ w.heap.size < wr.heap.size ∧ Hid ((Value.slice ra1 R.length rc1).ownBlock ≠ some w.heap.size)) (fun i _ _ _ => rows.len - (intOf i).toNat)
    case atStart =>
      refine ⟨0, st, ra, rc, Nat.zero_le _, rfl, Nat.le_refl _, HP.out.alloc _, by rw [Dat.drop_zero]; exact rfl, (ChP.refl _ _ _).alloc _, by simp, by simp, ?_⟩
      intro e
      have := (HP.out.own_lt _ e).2
      omega
    case round =>
      obtain ⟨k, s1, ra1, rc1, hk, rfl, hst, HP1, HF, HC, fcell, hfb, HNO⟩ := hrel
      have c5 := HP1.out.c5
      have c4 := HP1.out.c4
      have c2 := HP1.out.c2
      have f5 := HP1.out.f5
      have f4 := HP1.out.f4
      have f2 := HP1.out.f2
      have hpl := HP1.out.lt
      have hfit1 := HP1.out.fit.2
      by_cases hlt2 : k < rows.len
      · by_cases he : s1.err = 0
        · have hV1 := HV.out.mono (Nat.le_refl _) (HC.out.low HP.out)
          rcases hV1 with h0 | ⟨fb, fo, rfl, hfbl, hat⟩
          · omega
          obtain ⟨f, e1, ho1, hb1, a1, c1, k0, k1, k2, k3⟩ := DatAt.rowAt rows fb fo k HO.out hlt2 hat
          have HLS := hidS (lopF_at (B := pagF p.ts p.tr m) (th := b) (R := R) e1 s1)
          have HK3 := hidS k3
          have HO1 := hidS ho1
          have HB1 : Hid (f.bulk ≤ 1048576) := by have := HBK.out; show _ ≤ _; omega
          have hfbw : fb < wr.heap.size := by have := HP1.out.le; omega
          have hNle := HP1.out.le
          clear hat k3 ho1 hb1 e1
          rw [he] at c5
          by_cases hst5 : s1.steps < 500
          · have Hst := hidS (r92 wr p.pb s1.steps hst5 c4 f4)
            go_wp2_with (go_at_call 95; refine Hst.out.mono ?_; rintro e w' ⟨rfl, hw⟩; obtain rfl := hw.symm)
            have hP2 : PgOK (wr.setCell ⟨p.pb, 4, none⟩ (.int .i64 (s1.steps + 1))) p ra1 rc1 R { s1 with steps := s1.steps + 1 } := HP1.out.set { s1 with steps := s1.steps + 1 } 4 _ (.inr (.inl ⟨rfl, rfl, rfl, rfl⟩)) ⟨HP1.out.fit.1, by simp only; omega⟩
            have hC2 : ChP p.pb (.slice ra1 R.length rc1) (.slice ra1 R.length rc1) wr (wr.setCell ⟨p.pb, 4, none⟩ (.int .i64 (s1.steps + 1))) := (ChP.refl _ _ _).set 4 _
            have fcell2 : (wr.setCell ⟨p.pb, 4, none⟩ (.int .i64 (s1.steps + 1))).cell? ⟨w.heap.size, 3, none⟩ = some (.slice (some ⟨fb, fo, none⟩) rows.len fc) := (cellF wr _ _ _ _ _ (by omega)).trans fcell
            have k02 : (wr.setCell ⟨p.pb, 4, none⟩ (.int .i64 (s1.steps + 1))).cell? ⟨fb, fo + k, none⟩ = some (.slice a1 f.len c1) := (cellF wr _ _ _ _ _ (by omega)).trans k0
            have hz2 : w.heap.size < (wr.setCell ⟨p.pb, 4, none⟩ (.int .i64 (s1.steps + 1))).heap.size := by simpa using hfb
            have hfb2 : fb < (wr.setCell ⟨p.pb, 4, none⟩ (.int .i64 (s1.steps + 1))).heap.size := by simpa using hfbw
            generalize wr.setCell ⟨p.pb, 4, none⟩ (.int .i64 (s1.steps + 1)) = w2 at *
            clear Hst hw c2 c4 c5 f2 f4 f5 k0 fcell
            have c2 := hP2.c2
            have f2 := hP2.f2
            obtain ⟨xs, o1, o2⟩ := hP2.own
            have HP2 := hidS hP2
            have HC2 := hidS hC2
            have HE2 := hidS o2
            have hpl2 := hP2.lt
            have hRl : R.length ≤ 1000 := by omega
            have hneP : some p.pb ≠ (Value.slice ra1 R.length rc1).ownBlock := fun e => by have := (hP2.own_lt _ e.symm).1; omega
            have hneF : some w.heap.size ≠ (Value.slice ra1 R.length rc1).ownBlock := fun e => HNO.out e.symm
            generalize hfl : f.len = fln at *
            have HFL := hidS hfl
            clear hP2 hC2 o2 hfl
            go_region_law (refine step_append_lies _ rfl _ _ 86 rfl (p.pb + 1) 31 i0 (.agg #[.slice none 0 0]) 1 24 Tryz.underlying86 hi hz0 hz1 hzz rfl (by decide) _ _ _ rfl (by first | exact own_keep (o1.alloc _) (fun _ _ => rfl) | exact own_keep o1 (fun _ _ => rfl)) ⟨w2.heap.size, 0, none⟩ 1 1 [.slice a1 fln c1] rfl rfl (by exact row_cells w2 _ _ _) (row_one _ _ _) (by decide) (by unfold maxLen; omega) (by omega) (by simp; omega) _ rfl ?_; intro g cap w3 hown3 hg3 hat3 hlt3; have hbk : w3.heap[p.pb]? = w2.heap[p.pb]? := (hg3.block p.pb (by simp; omega) hneP).trans (Below.heap_alloc _ _ _ hpl2); have q1 : w3.cell? ⟨p.pb, 2, none⟩ = some (.slice ra1 R.length rc1) := (World.cell?_of_block hbk).trans c2; have p1 : w3.frozen? ⟨p.pb, 2, none⟩ = false := (World.frozen?_of_block hbk).trans f2)
            all_goals
              have hat4 : (Value.slice ra1 R.length rc1).ownBlock = some g ∨ w2.heap.size ≤ g := by
                rcases hat3 with h1 | h1
                · exact .inl h1
                · right; simp at h1; omega
              have hown4 : w3.ownsRow (p.pb + 1) 31 1 (.slice (some ⟨g, 0, none⟩) (R.length + 1) cap) (R.length + 1) (xs ++ [.slice a1 f.len c1]) := by rw [HFL.out]; exact hown3
              have hnG : g ≠ w.heap.size := by
                rcases hat4 with h1 | h1
                · intro e; subst e; exact HNO.out h1
                · omega
              have hsz3 : w2.heap.size ≤ w3.heap.size := by have := hg3.size; simp at this; omega
              have hpp := pg_push (w := w2) (w1 := w3) (f := f) HP2.out HE2.out hg3.os hg3.tape hg3.output hsz3 (fun j h1 h2 => (hg3.block j (by simp; omega) h2).trans (Below.heap_alloc _ _ _ h1)) hown4 hat4 (DatV.mono HK3.out (Nat.le_refl _) (HC2.out.low HP1.out)) HO1.out HB1.out (by rw [HFL.out]; exact k1) k2
              obtain ⟨hP4, hC4⟩ := hpp
              have hF4 : (w3.setCell ⟨p.pb, 2, none⟩ (.slice (some ⟨g, 0, none⟩) (R.length + 1) cap)).heap[w.heap.size]? = w2.heap[w.heap.size]? := (set_far w3 _ _ _ _ (by omega)).trans ((hg3.block _ (by simp; omega) hneF).trans (Below.heap_alloc _ _ _ hz2))
              clear hown3 hown4 hg3 hat3 hat4 hbk q1 p1 o1 c2 f2
              generalize w3.setCell ⟨p.pb, 2, none⟩ (.slice (some ⟨g, 0, none⟩) (R.length + 1) cap) = w4 at *
              have HC04 : Hid (ChP p.pb (.slice ra R.length rc) (.slice (some ⟨g, 0, none⟩) (R.length + 1) cap) w w4) := (HC.out.trans HC2.out).trans hC4
              have hlow := HC04.out.low HP.out
              have hcall := HB.out w4 p (some ⟨g, 0, none⟩) cap (R ++ [f]) { s1 with steps := s1.steps + 1 } a c b (by simp only; omega) (by simp; omega) (HT.out.mono hlow) HWF.out hsz (by rw [HBL.out]; exact HS.out.mono hlow (fun _ q => q)) hP4
              rw [HBL.out] at hcall
              have Hcall := hidS hcall
              have fcell4 := (World.cell?_of_block (a := ⟨w.heap.size, 3, none⟩) hF4).trans fcell2
              have hz4 : w.heap.size < w4.heap.size := by have := hC4.size; omega
              clear hcall hP4 hC4 hlow
              go_wp2_with fail
              refine Hcall.out.mono ?_
              rintro e w5 ⟨rfl, ra5, rc5, hP5, hC5⟩
              have hpop := pg_pop hP5
              obtain ⟨xs5, o5, _⟩ := hP5.own
              have c2 := hP5.c2
              have f2 := hP5.f2
              rw [List.length_append, List.length_singleton] at c2 o5 hC5
              have eL : (R ++ [f]).length = R.length + 1 := by simp
              rw [eL] at hpop
              obtain ⟨g5, cap5, hra5, hcap5, hcm5⟩ : ∃ g5 cap5, ra5 = some ⟨g5, 0, none⟩ ∧ R.length + 1 ≤ rc5 ∧ rc5 ≤ maxLen := by
                rcases o5.2 with ⟨_, h0⟩ | ⟨g5, cap, cur, hv, hb, hg, hn, hm5, hs, ht⟩
                · omega
                · simp at hv; exact ⟨g5, cap, hv.1, by omega, by omega⟩
              subst hra5
              have HPOP := hidS hpop
              have hstp := pagF_steps p.ts p.tr m b (R ++ [f]) { s1 with steps := s1.steps + 1 }
              have HFF : Hid (lopF (pagF p.ts p.tr m) b R rows st = lopF (pagF p.ts p.tr m) b R (rows.drop (k + 1)) (pagF p.ts p.tr m b (R ++ [f]) { s1 with steps := s1.steps + 1 })) := by
                show _ = _
                rw [HF.out, HLS.out, if_neg (by simpa using he), if_neg (by omega)]
              have HC5 := hidS (HC04.out.trans hC5)
              have hpb5 : p.pb < w5.heap.size := hP5.lt
              have HNF5 : Hid ((Value.slice (some ⟨g5, 0, none⟩) (R.length + 1) rc5).ownBlock ≠ some w.heap.size) := by
                intro e
                rcases hC5.own _ e with h1 | h1
                · simp [Value.ownBlock] at h1; omega
                · omega
              have fcell5 : w5.cell? ⟨w.heap.size, 3, none⟩ = some (.slice (some ⟨fb, fo, none⟩) rows.len fc) := (World.cell?_of_block (a := ⟨w.heap.size, 3, none⟩) (hC5.block w.heap.size hz4 (by omega) (by simp [Value.ownBlock]; omega))).trans fcell4
              have hz5 : w.heap.size < w5.heap.size := by have := hC5.size; omega
              simp only at hstp
              generalize pagF p.ts p.tr m b (R ++ [f]) { s1 with steps := s1.steps + 1 } = s5 at *
              clear hpop o5 hP5 hC5 Hcall HLS
              go_wp2
              go_roundw
              case rel => exact ⟨k + 1, s5, some ⟨g5, 0, none⟩, rc5, by omega, by go_num, by omega, HPOP.out.1, HFF.out, HC5.out.trans HPOP.out.2, (cellF w5 _ _ _ _ _ (by omega)).trans fcell5, by simpa using hz5, HNF5.out⟩
              case measure => simp [intOf]; omega
          · have Hst := hidS (r92no wr p.pb s1.steps hst5 c4 _ c5 f5)
            have HFF : Hid (lopF (pagF p.ts p.tr m) b R rows st = { s1 with err := 12 }) := by
              show _ = _
              rw [HF.out, HLS.out, if_neg (by simpa using he), if_pos (by omega)]
            go_wp2_with (go_at_call 95; refine Hst.out.mono ?_; rintro e w' ⟨rfl, hw⟩; obtain rfl := hw.symm)
            refine bodyPost_ret (results_none rfl _ _ _) rfl ?_
            exact ⟨rfl, ra1, rc1, by rw [HE.out, HFF.out]; exact HP1.out.set { s1 with err := 12 } 5 _ (.inr (.inr ⟨rfl, rfl, rfl, rfl⟩)) HP1.out.fit, HC.out.set 5 _⟩
        · have HFF : Hid (lopF (pagF p.ts p.tr m) b R rows st = s1) := by
            show _ = _
            rw [HF.out]
            cases hdr : rows.drop k <;> simp [lopF, he]
          have he' : (s1.err == 0) = false := by simpa using he
          go_wp2
          go_end0
          exact ⟨rfl, ra1, rc1, by rw [HE.out, HFF.out]; exact HP1.out, HC.out⟩
      · have HFF : Hid (lopF (pagF p.ts p.tr m) b R rows st = s1) := by
          show _ = _
          rw [HF.out, Dat.drop_end _ _ (by omega)]; rfl
        go_wp2
        go_end0
        exact ⟨rfl, ra1, rc1, by rw [HE.out, HFF.out]; exact HP1.out, HC.out⟩
end Go.Proofs.YtffkejkgkgfnhabGreat
