import Derived.Test.YtffkejkgkgfnhaaGreatG30
import Derived.Test.YtffkejkgkgfnhaaGreatG04
namespace Go.Proofs.YtffkejkgkgfnhaaGreat
open Go.RowKit
set_option linter.unusedVariables false
set_option maxRecDepth 100000 in
set_option maxHeartbeats 1000000 in
theorem r92 (w : World) (pb : Nat) (n : Nat) (hn : n < 500) (h4 : w.cell? ⟨pb, 4, none⟩ = some (.int .i64 n)) (f4 : w.frozen? ⟨pb, 4, none⟩ = false) :
   Calls Tryz.prog 99 #[.pointer (some ⟨pb, 0, none⟩)] w fun e w' => e = .returned (.bool true) ∧ w' = w.setCell ⟨pb, 4, none⟩ (.int .i64 (n + 1)) := by
  go_enter Tryz.func99, Tryz.ntmps99
  go_wp2
  go_ret
  exact ⟨rfl, rfl⟩
set_option maxRecDepth 100000 in
set_option maxHeartbeats 1000000 in
theorem r92no (w : World) (pb : Nat) (n : Nat) (hn : ¬ n < 500) (h4 : w.cell? ⟨pb, 4, none⟩ = some (.int .i64 n)) (e5 : Int) (h5 : w.cell? ⟨pb, 5, none⟩ = some (.int .i64 e5)) (f5 : w.frozen? ⟨pb, 5, none⟩ = false) :
   Calls Tryz.prog 99 #[.pointer (some ⟨pb, 0, none⟩)] w fun e w' => e = .returned (.bool false) ∧ w' = w.setCell ⟨pb, 5, none⟩ (.int .i64 12) := by
  go_enter Tryz.func99, Tryz.ntmps99
  go_wp2
  go_ret
  exact ⟨rfl, rfl⟩
theorem Dat.fnd_at (nm : ByteArray) {d : Dat} {i : Nat} {n t : ByteArray} {l : Bool} {rows : Dat} (e : d.drop i = .fld n l t rows (d.drop (i + 1))) : (d.drop i).fnd nm = if nmEq n nm = true then some (n, l, t, rows) else (d.drop (i + 1)).fnd nm := by
  rw [e]; rfl
theorem lkp_at (nm : ByteArray) (R : List Dat) (i : Nat) (hi : i < R.length) : lkp nm (R.take (i + 1)) = match R[i].fnd nm with | some x => some x | none => lkp nm (R.take i) := by
  unfold lkp
  rw [List.take_succ_eq_append_getElem hi, List.reverse_append]
  simp only [List.reverse_cons, List.reverse_nil, List.nil_append, List.cons_append, List.findSome?_cons]
  cases R[i].fnd nm <;> rfl
def FldPost (w : World) (N : Nat) (nm : ByteArray) (R : List Dat) (e : Ending) : Prop :=
  (lkp nm R = none ∧ e = .returned (.tuple #[.agg #[.string ⟨#[]⟩, .bool false, .string ⟨#[]⟩, .slice none 0 0], .bool false])) ∨
  (∃ n l t rows a c, lkp nm R = some (n, l, t, rows) ∧ e = .returned (.tuple #[.agg #[.string n, .bool l, .string t, .slice a rows.len c], .bool true]) ∧ DatV w N a rows ∧ rows.ok true ∧ rows.bulk + t.size ≤ 1048576 ∧ rows.len ≤ c ∧ c ≤ maxLen)
set_option maxRecDepth 100000 in
set_option maxHeartbeats 2000000 in
theorem r93 (w : World) (p : PgP) (ra : Option Addr) (rc : Nat) (R : List Dat) (st : Pst) (nm : ByteArray) (hR : R.length ≤ 1000) (h : PgOK w p ra rc R st) :
   Calls Tryz.prog 100 #[.pointer (some ⟨p.pb, 0, none⟩), .string nm] w fun e w' => FldPost w p.N nm R e ∧ Below w.heap.size w w' := by
  have HP := hidS h
  have c2 := h.c2
  have hlt := h.lt
  clear h
  go_enter Tryz.func100, Tryz.ntmps100
  go_wp2
  go_loop [6, 7, 8] (fun i _ _ => ∃ k : Nat, k ≤ R.length ∧ i = .int .i64 ((k : Int) - 1) ∧ Hid (lkp nm R = lkp nm (R.take k))) (fun i _ _ => (intOf i + 1).toNat)
  case atStart => exact ⟨R.length, Nat.le_refl _, rfl, by rw [List.take_length]; exact rfl⟩
  case round =>
    obtain ⟨k, hk, rfl, H⟩ := hrel
    cases k with
    | zero =>
      have HF : Hid (lkp nm R = none) := by show _ = _; rw [H.out]; rfl
      go_wp2
      refine bodyPost_ret (v := .tuple #[.agg #[.string ⟨#[]⟩, .bool false, .string ⟨#[]⟩, .slice none 0 0], .bool false]) (by simp [results, Tryz.results100, go_sem]) rfl ⟨.inl ⟨HF.out, rfl⟩, ?_⟩
      exact (Below.refl _ _).alloc (Nat.le_refl _) _
    | succ k =>
      obtain ⟨g, rfl, a, c, hcell, hV, hok, hbulk, hlc, hcm⟩ := HP.out.rowAt k (by omega)
      have HS := hidS (lkp_at nm R k (by omega))
      have hg := (HP.out.own_lt g rfl).2
      have HV := hidS hV
      have HO := hidS hok
      have HBk := hidS hbulk
      have hfl : R[k].len ≤ 1048576 := Nat.le_trans (Dat.len_bulk _) hbulk
      clear hV hok hbulk
      generalize hD : R[k] = D at *
      have HD := hidS hD
      clear hD
      go_wp2
      go_loop [8] (fun i => ∃ j : Nat, j ≤ D.len ∧ i = .int .i64 j ∧ Hid (D.fnd nm = (D.drop j).fnd nm)) (fun i => D.len - (intOf i).toNat)
      case atStart => exact ⟨0, Nat.zero_le _, rfl, by rw [Dat.drop_zero]; exact rfl⟩
      case round =>
        obtain ⟨j, hj, rfl, H2⟩ := hrel
        by_cases hjl : j < D.len
        · rcases HV.out with h0 | ⟨b, off, rfl, hb, hat⟩
          · omega
          · obtain ⟨n, li, tx, rows, e1, e2, e3, k0, k1, k2, a3, c3, k3, k4, k5, k6⟩ := DatAt.field D b off j HO.out hjl hat
            have hbl : b < w.heap.size := by have := HP.out.le; omega
            have hE := Dat.fnd_at nm e1
            have HK6 := hidS k6
            have HE2 := hidS e2
            have HBB : Hid (rows.bulk + tx.size ≤ 1048576) := by have := HBk.out; show _ ≤ _; omega
            clear hat k6 e2 e3 e1
            cases hB : nmEq n nm
            · have HF : Hid (D.fnd nm = (D.drop (j + 1)).fnd nm) := by show _ = _; rw [H2.out, hE, hB]; rfl
              unfold nmEq at hB
              clear hE H2 k1 k2 k3
              go_wp2
              go_round
              case rel => exact ⟨j + 1, by omega, by go_num, HF.out⟩
              case measure => simp [intOf]; omega
            · have HF : Hid (lkp nm R = some (n, li, tx, rows)) := by
                show _ = _
                rw [H.out, HS.out, H2.out, hE, hB]; rfl
              unfold nmEq at hB
              generalize hrl : rows.len = rl at *
              have HRL := hidS hrl
              clear hE H2 hrl
              go_wp2
              refine bodyPost_ret (v := .tuple #[.agg #[.string n, .bool li, .string tx, .slice a3 rl c3], .bool true]) (by simp [results, Tryz.results100, go_sem]) rfl ⟨.inr ⟨n, li, tx, rows, a3, c3, HF.out, by rw [HRL.out], HK6.out, HE2.out, HBB.out, by rw [HRL.out]; exact k4, k5⟩, ?_⟩
              exact (Below.refl _ _).alloc (Nat.le_refl _) _
        · have HF : Hid (lkp nm R = lkp nm (R.take k)) := by
            show _ = _
            rw [H.out, HS.out, H2.out, Dat.drop_end D j (by omega)]; rfl
          go_wp2
          go_round
          case rel => exact ⟨k, by omega, by go_num, HF.out⟩
          case measure => simp [intOf]
end Go.Proofs.YtffkejkgkgfnhaaGreat
namespace Go.Proofs.YtffkejkgkgfnhaaGreat
open Go.RowKit
set_option linter.unusedVariables false
theorem ext_byt (t : ByteArray) (k : Nat) (h : k < t.size) : t.extract k (k + 1) = byt t[k] := by
  apply ByteArray.ext
  apply Array.ext
  · simp [byt]; omega
  · intro i h1 h2
    simp [byt] at h1 h2 ⊢
    have : i = 0 := by omega
    subst this
    simp; rfl
theorem txtF_at (tr : Bool) (t : ByteArray) (k : Nat) (h : k < t.size) (st : Pst) : txtF tr (t.data.toList.drop k) st = if 2000 ≤ st.out.size then { st with err := 13 } else if tr = true ∧ ctxO (st.out ++ byt t[k]) = -1 then { st with out := st.out ++ byt t[k], err := 9 } else txtF tr (t.data.toList.drop (k + 1)) { st with out := st.out ++ byt t[k] } := by
  rw [List.drop_eq_getElem_cons (by simpa using h)]; rfl
set_option maxRecDepth 100000 in
set_option maxHeartbeats 2000000 in
theorem r76 (w : World) (p : PgP) (ra : Option Addr) (rc : Nat) (R : List Dat) (st : Pst) (t : ByteArray) (ht : t.size ≤ 1000) (h : PgOK w p ra rc R st) :
   Calls Tryz.prog 79 #[.pointer (some ⟨p.pb, 0, none⟩), .string t] w fun e w' => e = .returned (.tuple #[]) ∧ PgOK w' p ra rc R (txtF p.tr t.data.toList st) ∧ ChP p.pb (.slice ra R.length rc) (.slice ra R.length rc) w w' := by
  have HP := hidS h
  clear h
  go_enter Tryz.func79, Tryz.ntmps79
  go_wp2
  go_loopw [4, 5] (fun i _ wr => ∃ (k : Nat) (s1 : Pst), k ≤ t.size ∧ i = .int .i64 k ∧ Hid (PgOK wr p ra rc R s1) ∧ Hid (txtF p.tr t.data.toList st = txtF p.tr (t.data.toList.drop k) s1) ∧ Hid (ChP p.pb (.slice ra R.length rc) (.slice ra R.length rc) w wr)) (fun i _ _ => t.size - (intOf i).toNat)
  case atStart => exact ⟨0, st, Nat.zero_le _, rfl, HP.out, rfl, ChP.refl _ _ _⟩
  case round =>
    obtain ⟨k, s1, hk, rfl, HP1, HF, HC⟩ := hrel
    clear HP
    by_cases hlt : k < t.size
    · have HS := hidS (txtF_at p.tr t k hlt s1)
      have HX := hidS (ext_byt t k hlt)
      have c1 := HP1.out.c1
      have c3 := HP1.out.c3
      have c5 := HP1.out.c5
      have f3 := HP1.out.f3
      have f5 := HP1.out.f5
      have hsz := HP1.out.fit.1
      by_cases hfull : 2000 ≤ s1.out.size
      · have HE : Hid (txtF p.tr t.data.toList st = { s1 with err := 13 }) := by
          show _ = _
          rw [HF.out, HS.out, if_pos hfull]
        go_wp2
        refine bodyPost_ret (results_none rfl _ _ _) rfl ?_
        exact ⟨rfl, by rw [HE.out]; exact HP1.out.set { s1 with err := 13 } 5 _ (.inr (.inr ⟨rfl, rfl, rfl, rfl⟩)) HP1.out.fit, HC.out.set 5 _⟩
      · go_wp2_with fail
        go_region
        have hfit : Fit { s1 with out := s1.out ++ byt t[k] } := ⟨by simp only [ByteArray.size_append, byt_size]; omega, HP1.out.fit.2⟩
        have hP2 := (HP1.out.set { s1 with out := s1.out ++ byt t[k] } 3 (.string (s1.out ++ t.extract k (k + 1))) (.inl ⟨rfl, by rw [HX.out], rfl, rfl⟩) hfit).below (below_drewN (Below.refl _ _) 1)
        have hC2 : ChP p.pb (.slice ra R.length rc) (.slice ra R.length rc) w (wr.setCell ⟨p.pb, 3, none⟩ (.string (s1.out ++ t.extract k (k + 1)))).drew := (HC.out.set 3 _).trans (ChP.of_below (below_drewN (Below.refl _ _) 1))
        change PgOK (wr.setCell ⟨p.pb, 3, none⟩ (.string (s1.out ++ t.extract k (k + 1)))).drew _ _ _ _ _ at hP2
        generalize (wr.setCell ⟨p.pb, 3, none⟩ (.string (s1.out ++ t.extract k (k + 1)))).drew = w2 at *
        rw [HX.out]
        generalize hO : s1.out ++ byt t[k] = O at *
        clear c1 c3 c5 f3 f5
        have HP2 := hidS hP2
        have HC2 := hidS hC2
        have c1 := hP2.c1
        have c3 := hP2.c3
        have c5 := hP2.c5
        have f5 := hP2.f5
        have hOs : O.size ≤ 2000 := hP2.fit.1
        clear hP2 hC2 hO HX
        have HSc := hidS (c22 0 O w2 (by unfold maxLen; omega))
        change Hid (Calls Tryz.prog 14 _ w2 fun e w' => e = .returned (.int .i64 (ctxO O)) ∧ w' = w2) at HSc
        by_cases hT : p.tr = true ∧ ctxO O = -1
        · have HE : Hid (txtF p.tr t.data.toList st = { s1 with out := O, err := 9 }) := by
            show _ = _
            rw [HF.out, HS.out, if_neg hfull, if_pos hT]
          obtain ⟨ht1, ht2⟩ := hT
          rw [ht1] at c1
          rw [ht2] at HSc
          go_wp2_with (go_at_call 14; refine HSc.out.mono ?_; rintro e w' ⟨rfl, hw⟩; obtain rfl := hw.symm)
          refine bodyPost_ret (results_none rfl _ _ _) rfl ?_
          exact ⟨rfl, by rw [HE.out]; exact HP2.out.set { s1 with out := O, err := 9 } 5 _ (.inr (.inr ⟨rfl, rfl, rfl, rfl⟩)) HP2.out.fit, HC2.out.set 5 _⟩
        · have HE : Hid (txtF p.tr t.data.toList st = txtF p.tr (t.data.toList.drop (k + 1)) { s1 with out := O }) := by
            show _ = _
            rw [HF.out, HS.out, if_neg hfull, if_neg hT]
          cases htr : p.tr
          · rw [htr] at c1
            clear hT
            go_wp2_with (go_at_call 14; refine HSc.out.mono ?_; rintro e w' ⟨rfl, hw⟩; obtain rfl := hw.symm)
            exact ⟨⟨k + 1, { s1 with out := O }, by omega, by go_num, HP2.out, HE.out, HC2.out⟩, by simp [intOf]; omega⟩
          · have hne : (ctxO O == -1) = false := by simpa [htr] using hT
            rw [htr] at c1
            clear hT
            go_wp2_with (go_at_call 14; refine HSc.out.mono ?_; rintro e w' ⟨rfl, hw⟩; obtain rfl := hw.symm)
            exact ⟨⟨k + 1, { s1 with out := O }, by omega, by go_num, HP2.out, HE.out, HC2.out⟩, by simp [intOf]; omega⟩
    · have HE : Hid (txtF p.tr t.data.toList st = s1) := by
        show _ = _
        rw [HF.out, List.drop_eq_nil_of_le (by simp; omega)]; rfl
      go_wp2
      go_end0
      exact ⟨rfl, by rw [HE.out]; exact HP1.out, HC.out⟩
end Go.Proofs.YtffkejkgkgfnhaaGreat
namespace Go.Proofs.YtffkejkgkgfnhaaGreat
open Go.RowKit
set_option linter.unusedVariables false
theorem escB_size (x : Int) (t : ByteArray) (h : t.size ≤ 1048576) : (escB x t).size ≤ 6291458 := by
  unfold escB
  rw [strOfNums_size]
  have h1 := mid_len x t.data.toList
  have h2 := (pre_ok x).2
  have h3 : t.data.toList.length = t.size := by simp
  simp only [escL, acc, List.length_append]
  omega
def kndF (l : Bool) (t : ByteArray) (st : Pst) : Pst := if l = true then { st with err := 8 } else holF t st
set_option maxRecDepth 100000 in
set_option maxHeartbeats 2000000 in
theorem r94 (w : World) (p : PgP) (ra : Option Addr) (rc : Nat) (R : List Dat) (st : Pst) (n t : ByteArray) (l : Bool) (fa : Option Addr) (fl fc : Nat) (ht : t.size ≤ 1048576) (h : PgOK w p ra rc R st) :
   Calls Tryz.prog 101 #[.pointer (some ⟨p.pb, 0, none⟩), .agg #[.string n, .bool l, .string t, .slice fa fl fc]] w fun e w' => e = .returned (.tuple #[]) ∧ PgOK w' p ra rc R (kndF l t st) ∧ ChP p.pb (.slice ra R.length rc) (.slice ra R.length rc) w w' := by
  have HP := hidS h
  have c3 := h.c3
  have c5 := h.c5
  have f3 := h.f3
  have f5 := h.f5
  have hlt := h.lt
  have hsz := h.fit.1
  clear h
  cases l
  · have HSc := hidS (fun o => c22 0 st.out (w.alloc o) (by unfold maxLen; omega))
    change Hid (∀ o, Calls Tryz.prog 14 _ (w.alloc o) fun e w' => e = .returned (.int .i64 (ctxO st.out)) ∧ w' = (w.alloc o)) at HSc
    have HK : Hid (kndF false t st = holF t st) := rfl
    cases hop : opB (ctxO st.out)
    · have HE : Hid (kndF false t st = { st with err := 10 }) := by show _ = _; rw [HK.out, holF, hop]; rfl
      have Hes := hidS (fun w' => c23no (ctxO st.out) t w' hop)
      clear hop
      go_enter Tryz.func101, Tryz.ntmps101
      go_wp2_with (first | (go_at_call 14; refine (HSc.out _).mono ?_; rintro e w' ⟨rfl, hw⟩; obtain rfl := hw.symm) | (go_at_call 16; refine (Hes.out _).mono ?_; rintro e w' ⟨rfl, hw⟩; obtain rfl := hw.symm))
      refine bodyPost_ret (results_none rfl _ _ _) rfl ?_
      exact ⟨rfl, by rw [HE.out]; exact (HP.out.set { st with err := 10 } 5 _ (.inr (.inr ⟨rfl, rfl, rfl, rfl⟩)) HP.out.fit).alloc _, ((ChP.refl _ _ _).set 5 _).alloc _⟩
    · have Hes := hidS (fun w' => c23 (ctxO st.out) t w' hop ht)
      have HK2 : Hid (kndF false t st = if 2000 < st.out.size + (escB (ctxO st.out) t).size then { st with err := 13 } else { st with out := st.out ++ escB (ctxO st.out) t }) := by show _ = _; rw [HK.out, holF, if_pos hop]
      have hel : (escB (ctxO st.out) t).size ≤ 6291458 := escB_size _ _ ht
      clear hop HK
      change Hid (∀ w' : World, Calls Tryz.prog 16 _ w' fun e w2 => e = .returned (.tuple #[.string (escB (ctxO st.out) t), .int .i64 0]) ∧ Below w'.heap.size w' w2) at Hes
      generalize hE : escB (ctxO st.out) t = E at *
      generalize hX : ctxO st.out = X at *
      clear hE hX
      go_enter Tryz.func101, Tryz.ntmps101
      go_wp2_with (first | (go_at_call 14; refine (HSc.out _).mono ?_; rintro e w' ⟨rfl, hw⟩; obtain rfl := hw.symm))
      refine (Hes.out _).mono ?_
      rintro e w1 ⟨rfl, hb1⟩
      have hP1 := (HP.out.alloc (.cells #[.string n, .bool false, .string t, .slice fa fl fc] 88)).below hb1
      have HC1 : Hid (ChP p.pb (.slice ra R.length rc) (.slice ra R.length rc) w w1) := ((ChP.refl _ _ _).alloc _).trans (ChP.of_below hb1)
      have HP1 := hidS hP1
      clear c3 c5 f3 f5 hb1
      have c3 := hP1.c3
      have c5 := hP1.c5
      have f3 := hP1.f3
      have f5 := hP1.f5
      clear hP1 Hes HSc
      by_cases hfull : 2000 < st.out.size + E.size
      · have HE : Hid (kndF false t st = { st with err := 13 }) := by show _ = _; rw [HK2.out, if_pos hfull]
        go_wp2
        refine bodyPost_ret (results_none rfl _ _ _) rfl ?_
        exact ⟨rfl, by rw [HE.out]; exact HP1.out.set { st with err := 13 } 5 _ (.inr (.inr ⟨rfl, rfl, rfl, rfl⟩)) HP1.out.fit, HC1.out.set 5 _⟩
      · have HE : Hid (kndF false t st = { st with out := st.out ++ E }) := by show _ = _; rw [HK2.out, if_neg hfull]
        go_wp2
        go_end0
        exact ⟨rfl, by rw [HE.out]; exact HP1.out.set { st with out := st.out ++ E } 3 _ (.inl ⟨rfl, rfl, rfl, rfl⟩) ⟨by simp only [ByteArray.size_append]; omega, HP1.out.fit.2⟩, HC1.out.set 3 _⟩
  · have HE : Hid (kndF true t st = { st with err := 8 }) := rfl
    go_enter Tryz.func101, Tryz.ntmps101
    go_wp2
    refine bodyPost_ret (results_none rfl _ _ _) rfl ?_
    exact ⟨rfl, by rw [HE.out]; exact (HP.out.set { st with err := 8 } 5 _ (.inr (.inr ⟨rfl, rfl, rfl, rfl⟩)) HP.out.fit).alloc _, ((ChP.refl _ _ _).set 5 _).alloc _⟩
end Go.Proofs.YtffkejkgkgfnhaaGreat
